/- Write, whatever comes. -/
import Derived.Test.YtaggghfnbllbgaaDk11
namespace Go.Proofs.Ytaggghfnbllbgaa
set_option linter.unusedSimpArgs false
open Go.RowKit

theorem RetD.same {w w' : World} {B Mv Md : Nat} {pv : Value} {d : DS} (h : DiskAt w B d Mv Md pv) {n : Nat} {e : Ending} (he : e = .returned (.int .i64 (n : Int))) (hb : Below w.heap.size w w') : RetD w B Mv Md pv (n, d) e w' :=
  ⟨he, pv, h.below hb, Below.chg0 hb _, .inl rfl⟩

set_option maxRecDepth 100000 in
set_option maxHeartbeats 4000000 in
theorem Write_any {w : World} {B Mv Md : Nat} {pv : Value} {d : DS} (h : DiskAt w B d Mv Md pv) (f s : Int) (l : List Nat) (a : Option Addr) (n cap N : Nat) (hB : Bs N w a l) (hN : N ≤ w.heap.size) (hn : n = l.length) (hnm : n ≤ 1000000000000)
    (hcs : d.calls < 1000000000) (hwt : d.pend.length < 1000000000) :
    Calls Try.prog 22 #[.pointer (some ⟨B, 0, none⟩), .int .i64 f, .int .i64 s, .slice a n cap] w (RetD w B Mv Md pv (d.write f s l)) := by
  obtain ⟨c0, c1, c2, c3, c4, c5, c6, c7, c8, c9, c10, c11⟩ := h.cells
  have HM := Lib.hid (made_yes w B c0)
  have HF := Lib.hid (isFile_any f w)
  have HD := Lib.hid h
  by_cases hbad : (f < 0 ∨ 2 ≤ f) ∨ s < 0 ∨ 65535 < s ∨ l.length ≠ 128
  · have hr : d.write f s l = (1, d) := by unfold DS.write; rw [if_pos hbad]
    rw [hr]
    have hways : isFileB f = false ∨ (isFileB f = true ∧ (decide (s < 0) = true ∨ (decide (s < 0) = false ∧ (decide ((65535 : Int) < s) = true ∨ (decide ((65535 : Int) < s) = false ∧ ((n : Int) != 128) = true))))) := by
      unfold isFileB
      simp only [Bool.and_eq_false_iff, Bool.and_eq_true, decide_eq_true_eq, decide_eq_false_iff_not, bne_iff_ne, ne_eq]
      omega
    clear hr hbad h hB hn
    rcases hways with hf | ⟨hf, hs | ⟨hs, hs2 | ⟨hs2, hs3⟩⟩⟩
    all_goals
      rw [hf] at HF
      clear hf
      go_enter Try.func22, Try.ntmps22
      go_wp2_with (first | (go_at_call 49; refine HM.out.mono ?_; rintro e w' ⟨rfl, rfl⟩) | (go_at_call 50; refine HF.out.mono ?_; rintro e w' ⟨rfl, rfl⟩))
      go_ret
      exact RetD.same HD.out rfl (Below.refl _ _)
  · obtain ⟨m, rfl⟩ : ∃ m : Nat, f = (m : Int) := ⟨f.toNat, by omega⟩
    obtain ⟨t, rfl⟩ : ∃ t : Nat, s = (t : Int) := ⟨s.toNat, by omega⟩
    have hm : m < 2 := by omega
    have ht : t ≤ 65535 := by omega
    have hl : l.length = 128 := by omega
    obtain rfl : n = 128 := by omega
    have hr : d.write (m : Int) (t : Int) l = if d.down then (51, d) else if d.fits m t = false then (50, d) else match d.change with
      | (d', false) => (51, d')
      | (d', true) => (0, d'.put ⟨m, t, l⟩) := by
      unfold DS.write; rw [if_neg hbad, Int.toNat_natCast, Int.toNat_natCast]; rfl
    rw [hr]
    have hf : isFileB (m : Int) = true := by unfold isFileB; simp; omega
    rw [hf] at HF
    have q1 : decide ((t : Int) < 0) = false := by rw [decide_eq_false_iff_not]; omega
    have q2 : decide ((65535 : Int) < (t : Int)) = false := by rw [decide_eq_false_iff_not]; omega
    cases hd : d.down with
    | true =>
      rw [if_pos rfl]
      rw [hd] at c11
      clear hr hbad h hB hn hf hd
      go_enter Try.func22, Try.ntmps22
      go_wp2_with (first | (go_at_call 49; refine HM.out.mono ?_; rintro e w' ⟨rfl, rfl⟩) | (go_at_call 50; refine HF.out.mono ?_; rintro e w' ⟨rfl, rfl⟩))
      go_ret
      exact RetD.same HD.out rfl (Below.refl _ _)
    | false =>
      rw [if_neg (by simp)]
      have HFit := Lib.hid (fits_any h m t hm ht)
      cases hfit : d.fits m t with
      | false =>
        rw [if_pos rfl]
        rw [hd] at c11
        rw [hfit] at HFit
        clear hr hbad h hB hn hf hd hfit
        go_enter Try.func22, Try.ntmps22
        go_wp2_with (first | (go_at_call 49; refine HM.out.mono ?_; rintro e w' ⟨rfl, rfl⟩) | (go_at_call 50; refine HF.out.mono ?_; rintro e w' ⟨rfl, rfl⟩) | fail)
        refine HFit.out.mono ?_
        rintro e w1 ⟨rfl, b1⟩
        go_wp2
        go_ret
        exact RetD.same HD.out rfl b1
      | true =>
        rw [if_neg (by simp)]
        rcases hch : d.change with ⟨d', go⟩
        cases go with
        | true => exact Write_yes h m t hm ht l hl a cap N hB hN hd hfit hch hcs hwt
        | false =>
          rw [hd] at c11
          rw [hfit] at HFit
          have HC : Hid (∀ W, Below w.heap.size w W → Calls Try.prog 52 #[.pointer (some ⟨B, 0, none⟩)] W fun e w' => e = .returned (.int .i64 51) ∧ DiskAt w' B d' Mv Md pv ∧ Chg [B] W w') := fun W hW => by
            have := change_any (h.below hW) hcs
            rw [hch] at this
            exact this
          clear hr hbad h hB hn hf hd hfit hch
          go_enter Try.func22, Try.ntmps22
          go_wp2_with (first | (go_at_call 49; refine HM.out.mono ?_; rintro e w' ⟨rfl, rfl⟩) | (go_at_call 50; refine HF.out.mono ?_; rintro e w' ⟨rfl, rfl⟩) | fail)
          refine HFit.out.mono ?_
          rintro e w1 ⟨rfl, b1⟩
          go_wp2_with fail
          refine (HC.out w1 b1).mono ?_
          rintro e w2 ⟨rfl, hD2, g2⟩
          have HD2 := Lib.hid hD2
          clear hD2
          go_wp2
          go_ret
          exact ⟨rfl, pv, HD2.out, (Below.chg0 b1 _).trans (g2.sub (by simp [footD])), .inl rfl⟩
end Go.Proofs.Ytaggghfnbllbgaa
