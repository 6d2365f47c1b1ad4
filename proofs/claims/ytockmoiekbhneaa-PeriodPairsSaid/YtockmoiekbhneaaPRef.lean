/- The walks of the reference's Has, Any and Overlaps. -/
import Derived.Test.YtockmoiekbhneaaPApart
import Derived.Test.YtockmoiekbhneaaPRunsM
namespace Go.Proofs.Ytockmoiekbhneaa
open Go.RowKit

set_option maxHeartbeats 400000 in
theorem rhas_any (f t p : Int) (w : World) :
    Calls Try.prog 13 #[.agg #[.int .i64 f, .int .i64 t], .int .i64 p] w fun e w' => e = .returned (.bool (hasB (f, t) p)) ∧ Below w.heap.size w w' := by
  by_cases h : f ≤ p
  · have hh := Lib.hid (show hasB (f, t) p = decide (p < t) by simp [hasB, h])
    go_enter Try.func13, Try.ntmps13
    go_wp2
    go_ret
    rw [hh.out]
    exact ⟨rfl, (Below.refl _ _).alloc (Nat.le_refl _) _⟩
  · have hh := Lib.hid (show hasB (f, t) p = false by simp [hasB, h])
    go_enter Try.func13, Try.ntmps13
    go_wp2
    go_ret
    rw [hh.out]
    exact ⟨rfl, (Below.refl _ _).alloc (Nat.le_refl _) _⟩
theorem rhas_is (f t p : Int) (w : World) (r : Bool) (h : hasB (f, t) p = r) :
    Calls Try.prog 13 #[.agg #[.int .i64 f, .int .i64 t], .int .i64 p] w fun e w' => e = .returned (.bool r) ∧ Below w.heap.size w w' := h ▸ rhas_any f t p w

set_option maxHeartbeats 1000000 in
theorem any_any (N : Nat) (l : List (Int × Int)) (a : Option Addr) (n cap : Nat) (p : Int) (w : World) (h : Arr N w a (cellsT l)) (hN : N ≤ w.heap.size) (hn : n = l.length) (hmax : n ≤ 1000000) :
    Calls Try.prog 26 #[.slice a n cap, .int .i64 p] w fun e w' => e = .returned (.bool (anyB l p)) ∧ Below w.heap.size w w' := by
  have HH := Lib.hid h
  have HN := Lib.hid hn
  clear h hn
  go_enter Try.func26, Try.ntmps26
  go_wp2
  go_loopw [5] (fun i wr => ∃ k : Nat, k ≤ n ∧ i = .int .i64 k ∧ Hid (anyB (l.take k) p = false) ∧ Hid (Below w.heap.size w wr)) (fun i _ => n - (intOf i).toNat)
  case atStart => exact ⟨0, by omega, rfl, rfl, Below.refl _ _⟩
  case round =>
    obtain ⟨k, hk, rfl, HF, HB⟩ := hrel
    by_cases hlt : k < n
    · have hkl : k < l.length := by have := HN.out; omega
      obtain ⟨b, o, rfl, hb1, c0, c1⟩ := spanAt HH.out hkl
      have hbw := HB.out.size
      have c0 := (HB.out.cell (p := ⟨b, o + k * 2, none⟩) (by show b < _; omega)).trans c0
      have c1 := (HB.out.cell (p := ⟨b, o + k * 2 + 1, none⟩) (by show b < _; omega)).trans c1
      have HS := Lib.hid (take_snocS l k hkl)
      have HT : Hid (hasB l[k] p = true → anyB l p = true) := by
        intro hx
        unfold anyB
        rw [List.any_eq_true]
        exact ⟨_, List.getElem_mem hkl, hx⟩
      obtain ⟨⟨f, t⟩, hft⟩ : ∃ x, x = l[k] := ⟨_, rfl⟩
      rw [← hft] at c0 c1 HS HT
      clear hft
      simp only at c0 c1
      cases hq : hasB (f, t) p
      · have HQ := Lib.hid hq
        clear hq
        go_wp2_with fail
        refine (rhas_is _ _ _ _ _ HQ.out).mono ?_
        rintro e w1 ⟨rfl, hb2⟩
        go_wp2
        go_roundw
        case rel => exact ⟨k + 1, by omega, by go_num, by show _ = _; rw [HS.out]; unfold anyB; rw [List.any_append]; have := HF.out; unfold anyB at this; rw [this]; simp [HQ.out], HB.out.trans (hb2.mono hbw)⟩
        case measure => simp [intOf]; omega
      · have HQ := Lib.hid hq
        clear hq
        go_wp2_with fail
        refine (rhas_is _ _ _ _ _ HQ.out).mono ?_
        rintro e w1 ⟨rfl, hb2⟩
        go_wp2
        go_ret
        exact ⟨ret_bool (by rw [HT.out HQ.out]), HB.out.trans (hb2.mono hbw)⟩
    · have hkl : l.take k = l := List.take_of_length_le (by have := HN.out; omega)
      rw [hkl] at HF
      clear hkl
      go_wp2
      go_ret
      exact ⟨ret_bool (by rw [HF.out]), HB.out⟩

theorem over_math (a b : Int × Int) : (bothS a b).2 = (hasB a a.1 && hasB b a.1 || hasB b b.1 && hasB a b.1) := by
  rw [Bool.eq_iff_iff]
  simp only [Bool.or_eq_true, Bool.and_eq_true, hasB_iff, bothS]
  split
  · simp only [true_iff]; omega
  · simp only [Bool.false_eq_true, false_iff]; omega

theorem bl2 {w w1 : World} {o o' : Obj} (hb : Below (((w.alloc o).alloc o')).heap.size ((w.alloc o).alloc o') w1) : Below w.heap.size w w1 ∧ w.heap.size + 1 < w1.heap.size := by
  refine ⟨(((Below.refl _ _).alloc (Nat.le_refl _) _).alloc (by simp) _).trans (hb.mono (by simp; omega)), ?_⟩
  have := hb.size; simp at this; omega

set_option maxHeartbeats 2000000 in
theorem roverlaps_any (a1 a2 b1 b2 : Int) (w : World) :
    Calls Try.prog 10 #[.agg #[.int .i64 a1, .int .i64 a2], .agg #[.int .i64 b1, .int .i64 b2]] w fun e w' => e = .returned (.bool (bothS (a1, a2) (b1, b2)).2) ∧ Below w.heap.size w w' := by
  rw [over_math]
  simp only
  obtain ⟨o1, h1⟩ : ∃ r, hasB (a1, a2) a1 = r := ⟨_, rfl⟩
  obtain ⟨o2, h2⟩ : ∃ r, hasB (b1, b2) a1 = r := ⟨_, rfl⟩
  obtain ⟨o3, h3⟩ : ∃ r, hasB (b1, b2) b1 = r := ⟨_, rfl⟩
  obtain ⟨o4, h4⟩ : ∃ r, hasB (a1, a2) b1 = r := ⟨_, rfl⟩
  rw [h1, h2, h3, h4]
  have H1 := Lib.hid h1
  have H2 := Lib.hid h2
  have H3 := Lib.hid h3
  have H4 := Lib.hid h4
  clear h1 h2 h3 h4
  cases o1
  · cases o3
    · go_enter Try.func10, Try.ntmps10
      go_wp2_with fail
      refine (rhas_is _ _ _ _ _ H1.out).mono ?_
      rintro e w1 ⟨rfl, hb1⟩
      obtain ⟨hc1, hf1⟩ := bcell hb1
      obtain ⟨hw1, hz1⟩ := bl2 hb1
      have hz0 : w.heap.size < w1.heap.size := by omega
      go_wp2_with fail
      refine (rhas_is _ _ _ _ _ H3.out).mono ?_
      rintro e w2 ⟨rfl, hb2⟩
      go_wp2
      go_ret
      exact ⟨rfl, hw1.trans (hb2.mono (by omega))⟩
    · go_enter Try.func10, Try.ntmps10
      go_wp2_with fail
      refine (rhas_is _ _ _ _ _ H1.out).mono ?_
      rintro e w1 ⟨rfl, hb1⟩
      obtain ⟨hc1, hf1⟩ := bcell hb1
      obtain ⟨hw1, hz1⟩ := bl2 hb1
      have hz0 : w.heap.size < w1.heap.size := by omega
      go_wp2_with fail
      refine (rhas_is _ _ _ _ _ H3.out).mono ?_
      rintro e w2 ⟨rfl, hb2⟩
      obtain ⟨hc2, hf2⟩ := bcell hb2
      go_wp2_with fail
      refine (rhas_is _ _ _ _ _ H4.out).mono ?_
      rintro e w3 ⟨rfl, hb3⟩
      go_wp2
      go_ret
      exact ⟨ret_bool (by simp), hw1.trans ((hb2.trans (hb3.mono hb2.size)).mono (by omega))⟩
  · cases o2
    · cases o3
      · go_enter Try.func10, Try.ntmps10
        go_wp2_with fail
        refine (rhas_is _ _ _ _ _ H1.out).mono ?_
        rintro e w1 ⟨rfl, hb1⟩
        obtain ⟨hc1, hf1⟩ := bcell hb1
        obtain ⟨hw1, hz1⟩ := bl2 hb1
        have hz0 : w.heap.size < w1.heap.size := by omega
        go_wp2_with fail
        refine (rhas_is _ _ _ _ _ H2.out).mono ?_
        rintro e w2 ⟨rfl, hb2⟩
        obtain ⟨hc2, hf2⟩ := bcell hb2
        go_wp2_with fail
        refine (rhas_is _ _ _ _ _ H3.out).mono ?_
        rintro e w3 ⟨rfl, hb3⟩
        go_wp2
        go_ret
        exact ⟨ret_bool (by simp), hw1.trans ((hb2.trans (hb3.mono hb2.size)).mono (by omega))⟩
      · go_enter Try.func10, Try.ntmps10
        go_wp2_with fail
        refine (rhas_is _ _ _ _ _ H1.out).mono ?_
        rintro e w1 ⟨rfl, hb1⟩
        obtain ⟨hc1, hf1⟩ := bcell hb1
        obtain ⟨hw1, hz1⟩ := bl2 hb1
        have hz0 : w.heap.size < w1.heap.size := by omega
        go_wp2_with fail
        refine (rhas_is _ _ _ _ _ H2.out).mono ?_
        rintro e w2 ⟨rfl, hb2⟩
        obtain ⟨hc2, hf2⟩ := bcell hb2
        have hz2 := hb2.size
        go_wp2_with fail
        refine (rhas_is _ _ _ _ _ H3.out).mono ?_
        rintro e w3 ⟨rfl, hb3⟩
        obtain ⟨hc3, hf3⟩ := bcell hb3
        have hz3 : w.heap.size < w2.heap.size := by omega
        have hz4 : w.heap.size + 1 < w2.heap.size := by omega
        go_wp2_with fail
        refine (rhas_is _ _ _ _ _ H4.out).mono ?_
        rintro e w4 ⟨rfl, hb4⟩
        go_wp2
        go_ret
        exact ⟨ret_bool (by simp), hw1.trans (((hb2.trans (hb3.mono hb2.size)).trans (hb4.mono (Nat.le_trans hb2.size hb3.size))).mono (by omega))⟩
    · go_enter Try.func10, Try.ntmps10
      go_wp2_with fail
      refine (rhas_is _ _ _ _ _ H1.out).mono ?_
      rintro e w1 ⟨rfl, hb1⟩
      obtain ⟨hc1, hf1⟩ := bcell hb1
      obtain ⟨hw1, hz1⟩ := bl2 hb1
      have hz0 : w.heap.size < w1.heap.size := by omega
      go_wp2_with fail
      refine (rhas_is _ _ _ _ _ H2.out).mono ?_
      rintro e w2 ⟨rfl, hb2⟩
      go_wp2
      go_ret
      exact ⟨ret_bool (by simp), hw1.trans (hb2.mono (by omega))⟩
end Go.Proofs.Ytockmoiekbhneaa
