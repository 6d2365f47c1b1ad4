/- Clock: ClockLives, walked. -/
import Derived.Test.YtfldjmjnjeemeaaClkL
namespace Go.Proofs.Ytfldjmjnjeemeaa
open Go.RowKit

theorem nxt_bd (l r : Int) (hl : -9223372036854775808 ≤ l ∧ l ≤ 9223372036854775807) (hr : -9223372036854775808 ≤ r ∧ r ≤ 9223372036854775807) : -9223372036854775808 ≤ (nxt l r).1 ∧ (nxt l r).1 ≤ 9223372036854775807 := by
  unfold nxt
  split
  · simp
  · simp only
    split <;> omega

set_option maxRecDepth 100000 in
set_option maxHeartbeats 4000000 in
theorem clockLives_walk (a0 : Int) (a1 : Option Addr) (len1 cap1 : Nat) (z1 : List Int) (a2 : Option Addr) (len2 cap2 : Nat) (z2 : List Int) (w : World) (w0 : (Lit.int .i64 a0).wf = true) (w1 : IsRow .i64 w a1 len1 cap1 z1) (w2 : IsRow .i64 w a2 len2 cap2 z2) :
    Calls Try.prog 4 #[.int .i64 a0, .slice a1 len1 cap1, .slice a2 len2 cap2] w fun e w' => e = .returned (.bool true) ∧ Below w.heap.size w w' := by
  have hb0 := bd_i64 w0
  obtain ⟨hlc, hcm, l, hll, hlw, hcells⟩ := w1.read
  obtain ⟨hlc2, hcm2, m, hml, hmw, hcells2⟩ := w2.read
  unfold maxLen at hcm hcm2
  have HN := Lib.hid hll
  have HW : Hid (∀ n ∈ l, -9223372036854775808 ≤ n ∧ n ≤ 9223372036854775807) := fun n hn => bd_i64 (hlw n hn)
  have HC := Lib.hid hcells
  have HNm := Lib.hid hml
  have HWm : Hid (∀ n ∈ m, -9223372036854775808 ≤ n ∧ n ≤ 9223372036854775807) := fun n hn => bd_i64 (hmw n hn)
  have HCm := Lib.hid hcells2
  clear w0 w1 w2 hll hlw hcells hml hmw hcells2
  go_enter Try.func4, Try.ntmps4
  go_wp2_with fail
  refine (CNew_any _ _).mono ?_; rintro e w2 ⟨rfl, hc2, hb2, hs2⟩
  have HC2 := Lib.hid hc2
  have HB2 := Lib.hid hb2
  clear hc2 hb2 hs2
  go_wp2
  go_loopw [0, 8] (fun q i wr => ∃ (k : Nat) (last : Int), k ≤ len1 ∧ k ≤ 60 ∧ i = .int .i64 k ∧ q = .int .i64 last ∧ -9223372036854775808 ≤ last ∧ last ≤ 9223372036854775807 ∧ Hid (Clk wr w.heap.size last) ∧ Hid (Below w.heap.size w wr)) (fun _ i _ => len1 - (intOf i).toNat)
  case atStart => exact ⟨0, a0, by omega, by omega, rfl, rfl, hb0.1, hb0.2, HC2, HB2⟩
  case round =>
    obtain ⟨k, last, hk, hk2, rfl, rfl, hl1, hl2, HCk, HB⟩ := hrel
    clear HC2 HB2
    by_cases hlt : k < len1 ∧ k < 60
    · obtain ⟨hlt, hlt2⟩ := hlt
      have hkl : k < l.length := by have := HN.out; omega
      have hne : l ≠ [] := by intro h0; rw [h0] at hkl; simp at hkl
      obtain ⟨b, o, rfl, hbN, hcell⟩ := HC.out.resolve_left hne
      have hck := hcell k _ (List.getElem?_eq_getElem hkl)
      have hrb := HW.out _ (List.getElem_mem hkl)
      obtain ⟨r, hr⟩ : ∃ r, r = l[k] := ⟨_, rfl⟩
      rw [← hr] at hck hrb
      clear hr hcell hne
      obtain ⟨hr1, hr2⟩ := hrb
      have c0 : wr.cell? ⟨b, o + k, none⟩ = some (.int .i64 r) := (HB.out.cell (p := ⟨b, o + k, none⟩) hbN).trans hck
      clear hck
      have hx := nxt_bd last r ⟨hl1, hl2⟩ ⟨hr1, hr2⟩
      obtain ⟨⟨x, e0⟩, hxe⟩ : ∃ p, p = nxt last r := ⟨_, rfl⟩
      rw [← hxe] at hx
      have HX := Lib.hid hxe
      clear hxe
      obtain ⟨hx1, hx2⟩ := hx
      simp only at hx1 hx2
      have hstamp : (k < len2 ∧ Hid (∃ b2 o2 s, a2 = some ⟨b2, o2, none⟩ ∧ wr.cell? ⟨b2, o2 + k, none⟩ = some (.int .i64 s) ∧ -9223372036854775808 ≤ s ∧ s ≤ 9223372036854775807)) ∨ (¬ k < len2 ∧ Hid True) := by
        by_cases h : k < len2
        · left
          have hkm : k < m.length := by have := HNm.out; omega
          have hne : m ≠ [] := by intro h0; rw [h0] at hkm; simp at hkm
          obtain ⟨b2, o2, h1, h2, h3⟩ := HCm.out.resolve_left hne
          have hb := HWm.out _ (List.getElem_mem hkm)
          exact ⟨h, b2, o2, _, h1, (HB.out.cell (p := ⟨b2, o2 + k, none⟩) h2).trans (h3 k _ (List.getElem?_eq_getElem hkm)), hb.1, hb.2⟩
        · exact .inr ⟨h, trivial⟩
      go_wp2_with fail
      refine (CAsk_any _ last r _ HCk.out ⟨hl1, hl2⟩ ⟨hr1, hr2⟩).mono ?_; rintro e w3 ⟨he, rfl⟩
      rw [← HX.out] at he
      subst he
      go_wp2_with fail
      refine (RNext_any last r _ ⟨hl1, hl2⟩ ⟨hr1, hr2⟩).mono ?_; rintro e w3 ⟨he, rfl⟩
      rw [← HX.out] at he
      subst he
      go_wp2_with fail
      refine (CLast_any _ last _ HCk.out).mono ?_; rintro e w3 ⟨rfl, rfl⟩
      rcases hstamp with ⟨hks, hs⟩ | ⟨hks, _⟩
      · obtain ⟨b2, o2, s, rfl, hcs, hsb1, hsb2⟩ := hs.out
        clear hs
        by_cases hls : last < s
        · go_wp2_with fail
          refine (CKeep_yes _ last s _ HCk.out hls).mono ?_; rintro e w4 ⟨rfl, hc4, hg4⟩
          have hb4 : Below w.heap.size w w4 := HB.out.trans (hg4.below HB.out.size (by simp))
          have HC4 := Lib.hid hc4
          have HB4 := Lib.hid hb4
          clear hc4 hg4 hb4
          go_wp2
          go_roundw
          case rel => exact ⟨k + 1, s, by omega, by omega, by go_num, rfl, by omega, by omega, HC4, HB4⟩
          case measure => simp [intOf]; omega
        · go_wp2_with fail
          refine (CKeep_no _ last s _ HCk.out (by omega)).mono ?_; rintro e w4 ⟨rfl, rfl⟩
          go_wp2
          go_roundw
          case rel => exact ⟨k + 1, last, by omega, by omega, by go_num, rfl, by omega, by omega, HCk, HB⟩
          case measure => simp [intOf]; omega
      · by_cases hls : last < x
        · go_wp2_with fail
          refine (CKeep_yes _ last x _ HCk.out hls).mono ?_; rintro e w4 ⟨rfl, hc4, hg4⟩
          have hb4 : Below w.heap.size w w4 := HB.out.trans (hg4.below HB.out.size (by simp))
          have HC4 := Lib.hid hc4
          have HB4 := Lib.hid hb4
          clear hc4 hg4 hb4
          go_wp2
          go_roundw
          case rel => exact ⟨k + 1, x, by omega, by omega, by go_num, rfl, by omega, by omega, HC4, HB4⟩
          case measure => simp [intOf]; omega
        · go_wp2_with fail
          refine (CKeep_no _ last x _ HCk.out (by omega)).mono ?_; rintro e w4 ⟨rfl, rfl⟩
          go_wp2
          go_roundw
          case rel => exact ⟨k + 1, last, by omega, by omega, by go_num, rfl, by omega, by omega, HCk, HB⟩
          case measure => simp [intOf]; omega
    · have hend : (k = len1 ∧ Hid True) ∨ (k < len1 ∧ k = 60) := by
        by_cases h : k = len1
        · exact .inl ⟨h, trivial⟩
        · exact .inr ⟨by omega, by omega⟩
      clear hlt
      have HB1 := HB
      have HCk1 := HCk
      rcases hend with ⟨rfl, _⟩ | ⟨hk3, rfl⟩
      all_goals
        go_wp2_with fail
        refine (CAsk_nil 1 _).mono ?_; rintro e w3 ⟨rfl, rfl⟩
        go_wp2_with fail
        refine (alive13 _).mono ?_; rintro e w3 ⟨rfl, hb3⟩
        have HC3 := Lib.hid (HCk1.out.bel hb3)
        have HB3 := Lib.hid (HB1.out.trans (hb3.mono HB1.out.size))
        clear hb3
        go_wp2_with fail
        refine (CKeep_nil 1 _).mono ?_; rintro e w4 ⟨rfl, rfl⟩
        go_wp2_with fail
        refine (CLast_nil _).mono ?_; rintro e w4 ⟨rfl, rfl⟩
        go_wp2_with fail
        refine (CLast_any _ last _ HC3.out).mono ?_; rintro e w4 ⟨rfl, rfl⟩
        go_wp2
        go_ret
        exact ⟨rfl, HB3.out⟩
end Go.Proofs.Ytfldjmjnjeemeaa
