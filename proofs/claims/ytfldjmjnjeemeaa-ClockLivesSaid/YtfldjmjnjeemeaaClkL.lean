/- Clock: ClockRises, walked. -/
import Derived.Test.YtfldjmjnjeemeaaClkA
namespace Go.Proofs.Ytfldjmjnjeemeaa
open Go.RowKit

theorem Clk.bel {w w' : World} {b : Nat} {l : Int} (h : Clk w b l) (hb : Below w.heap.size w w') : Clk w' b l := (hb.block b h.lt).trans h

set_option maxRecDepth 100000 in
set_option maxHeartbeats 4000000 in
theorem clockRises_walk (a0 : Int) (a1 : Option Addr) (len1 cap1 : Nat) (z1 : List Int) (w : World) (w0 : (Lit.int .i64 a0).wf = true) (w1 : IsRow .i64 w a1 len1 cap1 z1) :
    Calls Try.prog 5 #[.int .i64 a0, .slice a1 len1 cap1] w fun e w' => e = .returned (.bool true) ∧ Below w.heap.size w w' := by
  have hb0 := bd_i64 w0
  obtain ⟨hlc, hcm, l, hll, hlw, hcells⟩ := w1.read
  unfold maxLen at hcm
  have HN := Lib.hid hll
  have HW : Hid (∀ n ∈ l, -9223372036854775808 ≤ n ∧ n ≤ 9223372036854775807) := fun n hn => bd_i64 (hlw n hn)
  have HC := Lib.hid hcells
  clear w0 w1 hll hlw hcells
  go_enter Try.func5, Try.ntmps5
  go_wp2_with fail
  refine (CNew_any _ _).mono ?_; rintro e w2 ⟨rfl, hc2, hb2, hs2⟩
  have HC2 := Lib.hid hc2
  have HB2 := Lib.hid hb2
  clear hc2 hb2 hs2
  go_wp2
  go_loopw [6] (fun i wr => ∃ (k : Nat) (last : Int), k ≤ len1 ∧ k ≤ 200 ∧ i = .int .i64 k ∧ -9223372036854775808 ≤ last ∧ last ≤ 9223372036854775807 ∧ Hid (Clk wr w.heap.size last) ∧ Hid (Below w.heap.size w wr)) (fun i _ => len1 - (intOf i).toNat)
  case atStart => exact ⟨0, a0, by omega, by omega, rfl, hb0.1, hb0.2, HC2, HB2⟩
  case round =>
    obtain ⟨k, last, hk, hk2, rfl, hl1, hl2, HCk, HB⟩ := hrel
    clear HC2 HB2
    by_cases hlt : k < len1 ∧ k < 200
    · obtain ⟨hlt, hlt2⟩ := hlt
      have hkl : k < l.length := by have := HN.out; omega
      have hne : l ≠ [] := by intro h0; rw [h0] at hkl; simp at hkl
      obtain ⟨b, o, rfl, hbN, hcell⟩ := HC.out.resolve_left hne
      have hck := hcell k _ (List.getElem?_eq_getElem hkl)
      have hrb := HW.out _ (List.getElem_mem hkl)
      obtain ⟨r, hr⟩ : ∃ r, r = l[k] := ⟨_, rfl⟩
      rw [← hr] at hck hrb
      clear hr hcell hne
      obtain ⟨hr1, hr2⟩ := hrb
      have c0 : wr.cell? ⟨b, o + k, none⟩ = some (.int .i64 r) := (HB.out.cell (p := ⟨b, o + k, none⟩) hbN).trans hck
      clear hck
      by_cases hA : 9223372036854775805 < last ∨ r = 9223372036854775807
      · have HX := Lib.hid (nxt_err (l := last) (r := r) hA)
        have hA2 : (9223372036854775805 < last ∧ Hid True) ∨ (¬ 9223372036854775805 < last ∧ Hid (r = 9223372036854775807)) := by
          by_cases h : 9223372036854775805 < last
          · exact .inl ⟨h, trivial⟩
          · exact .inr ⟨h, hA.resolve_left h⟩
        clear hA
        go_wp2_with fail
        refine (CLast_any _ last _ HCk.out).mono ?_; rintro e w3 ⟨rfl, rfl⟩
        go_wp2_with fail
        refine (CAsk_any _ last r _ HCk.out ⟨hl1, hl2⟩ ⟨hr1, hr2⟩).mono ?_; rintro e w3 ⟨he, rfl⟩
        rw [HX.out] at he
        subst he
        rcases hA2 with ⟨hA2, _⟩ | ⟨hA2, hA3⟩
        · go_wp2
          go_roundw
          case rel => exact ⟨k + 1, last, by omega, by omega, by go_num, hl1, hl2, HCk, HB⟩
          case measure => simp [intOf]; omega
        · have q : (r == 9223372036854775807) = true := by have := hA3.out; simp [this]
          go_wp2
          go_roundw
          case rel => exact ⟨k + 1, last, by omega, by omega, by go_num, hl1, hl2, HCk, HB⟩
          case measure => simp [intOf]; omega
      · have hA1 : ¬ 9223372036854775805 < last := by omega
        have hA2 : (r == 9223372036854775807) = false := by simp; omega
        obtain ⟨s, hs⟩ : ∃ s, s = (if last < r then r else last + 1) := ⟨_, rfl⟩
        have HX : Hid (nxt last r = (s, 0)) := by
          show _ = _
          unfold nxt
          rw [if_neg hA, hs]
        have hs1 : last < s := by rw [hs]; split <;> omega
        have hs2 : r ≤ s := by rw [hs]; split <;> omega
        have hs3 : s ≤ 9223372036854775807 := by rw [hs]; split <;> omega
        have hs4 : (s = r ∧ Hid ((s == r) = true)) ∨ (¬ s = r ∧ Hid ((s - 1 == last) = true) ∧ Hid ((s == r) = false)) := by
          by_cases h : s = r
          · exact .inl ⟨h, by show _ = _; simp [h]⟩
          · right
            refine ⟨h, ?_, by show _ = _; simp [h]⟩
            show _ = _
            have : s - 1 = last := by rw [hs] at h ⊢; split at h <;> simp_all <;> omega
            simp [this]
        clear hs hA
        have hs5 : ¬ s ≤ last := by omega
        have hs6 : ¬ s < r := by omega
        go_wp2_with fail
        refine (CLast_any _ last _ HCk.out).mono ?_; rintro e w3 ⟨rfl, rfl⟩
        go_wp2_with fail
        refine (CAsk_any _ last r _ HCk.out ⟨hl1, hl2⟩ ⟨hr1, hr2⟩).mono ?_; rintro e w3 ⟨he, rfl⟩
        rw [HX.out] at he
        subst he
        rcases hs4 with ⟨hs4, q1⟩ | ⟨hs4, q1, q3⟩
        · subst hs4
          go_wp2_with fail
          refine (CKeep_yes _ last s _ HCk.out hs1).mono ?_; rintro e w3 ⟨rfl, hc3, hg3⟩
          have hb3 : Below w.heap.size w w3 := HB.out.trans (hg3.below HB.out.size (by simp))
          have HC3 := Lib.hid hc3
          have HB3 := Lib.hid hb3
          clear hc3 hg3 hb3
          go_wp2_with fail
          refine (CLast_any _ s _ HC3.out).mono ?_; rintro e w4 ⟨rfl, rfl⟩
          go_wp2
          go_roundw
          case rel => exact ⟨k + 1, s, by omega, by omega, by go_num, by omega, by omega, HC3, HB3⟩
          case measure => simp [intOf]; omega
        · have q1 := q1.out
          have q3 := q3.out
          have q4 : (s != r) = true := by simp; omega
          have q5 : (s - 1 != last) = false := by simp at q1 ⊢; omega
          go_wp2_with fail
          refine (CKeep_yes _ last s _ HCk.out hs1).mono ?_; rintro e w3 ⟨rfl, hc3, hg3⟩
          have hb3 : Below w.heap.size w w3 := HB.out.trans (hg3.below HB.out.size (by simp))
          have c3 : w3.cell? ⟨b, o + k, none⟩ = some (.int .i64 r) := ((hg3.below (N := w.heap.size) HB.out.size (by simp)).cell (p := ⟨b, o + k, none⟩) hbN).trans c0
          have HC3 := Lib.hid hc3
          have HB3 := Lib.hid hb3
          clear hc3 hg3 hb3
          go_wp2_with fail
          refine (CLast_any _ s _ HC3.out).mono ?_; rintro e w4 ⟨rfl, rfl⟩
          go_wp2
          go_roundw
          case rel => exact ⟨k + 1, s, by omega, by omega, by go_num, by omega, by omega, HC3, HB3⟩
          case measure => simp [intOf]; omega
    · have hend : (k = len1 ∧ Hid True) ∨ (k < len1 ∧ k = 200) := by
        by_cases h : k = len1
        · exact .inl ⟨h, trivial⟩
        · exact .inr ⟨by omega, by omega⟩
      clear hlt
      have HB1 := HB
      rcases hend with ⟨rfl, _⟩ | ⟨hk3, rfl⟩
      all_goals
        go_wp2_with fail
        refine (alive13 _).mono ?_; rintro e w3 ⟨rfl, hb3⟩
        go_wp2
        go_ret
        exact ⟨rfl, HB1.out.trans (hb3.mono HB1.out.size)⟩
end Go.Proofs.Ytfldjmjnjeemeaa
