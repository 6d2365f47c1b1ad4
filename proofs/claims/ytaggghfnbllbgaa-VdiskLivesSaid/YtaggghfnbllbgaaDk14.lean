/- Sync, whatever comes; Crash. -/
import Derived.Test.YtaggghfnbllbgaaDk13
namespace Go.Proofs.Ytaggghfnbllbgaa
set_option linter.unusedSimpArgs false
open Go.RowKit

theorem sync_true {d d' : DS} {f : Nat} (hf : f < 2) (hd : d.down = false) (hch : d.change = (d', true)) : d.sync (f : Int) = (0, { d' with dur := durAt d'.dur d'.pend f d'.pend.length, pend := restAt d'.pend f d'.pend.length }) := by
  unfold DS.sync durAt restAt
  rw [if_neg (by omega), hd, if_neg (by simp), hch, Int.toNat_natCast, List.take_length]
  rfl

theorem change_pend {d d' : DS} {b : Bool} (h : d.change = (d', b)) : d'.pend = d.pend ∧ d'.dur = d.dur ∧ d'.vis = d.vis ∧ d'.quota = d.quota := by
  unfold DS.change at h
  split at h <;> (simp only [Prod.mk.injEq] at h; rw [← h.1]; exact ⟨rfl, rfl, rfl, rfl⟩)

set_option maxRecDepth 100000 in
set_option maxHeartbeats 4000000 in
theorem Sync_any {w : World} {B Mv Md : Nat} {pv : Value} {d : DS} (h : DiskAt w B d Mv Md pv) (f : Int) (hcs : d.calls < 1000000000) :
    Calls Try.prog 23 #[.pointer (some ⟨B, 0, none⟩), .int .i64 f] w (RetD w B Mv Md pv (d.sync f)) := by
  obtain ⟨c0, c1, c2, c3, c4, c5, c6, c7, c8, c9, c10, c11⟩ := h.cells
  have HM := Lib.hid (made_yes w B c0)
  have HF := Lib.hid (isFile_any f w)
  have HD := Lib.hid h
  by_cases hbad : f < 0 ∨ 2 ≤ f
  · have hr : d.sync f = (1, d) := by unfold DS.sync; rw [if_pos hbad]
    rw [hr]
    have hf : isFileB f = false := by unfold isFileB; simp only [Bool.and_eq_false_iff, decide_eq_false_iff_not]; omega
    rw [hf] at HF
    clear hr hbad h hf
    go_enter Try.func23, Try.ntmps23
    go_wp2_with (first | (go_at_call 49; refine HM.out.mono ?_; rintro e w' ⟨rfl, rfl⟩) | (go_at_call 50; refine HF.out.mono ?_; rintro e w' ⟨rfl, rfl⟩))
    go_ret
    exact RetD.same HD.out rfl (Below.refl _ _)
  · obtain ⟨m, rfl⟩ : ∃ m : Nat, f = (m : Int) := ⟨f.toNat, by omega⟩
    have hm : m < 2 := by omega
    have hf : isFileB (m : Int) = true := by unfold isFileB; simp; omega
    rw [hf] at HF
    cases hd : d.down with
    | true =>
      have hr : d.sync (m : Int) = (51, d) := by unfold DS.sync; rw [if_neg hbad, if_pos hd]
      rw [hr]
      rw [hd] at c11
      clear hr hbad h hf hd
      go_enter Try.func23, Try.ntmps23
      go_wp2_with (first | (go_at_call 49; refine HM.out.mono ?_; rintro e w' ⟨rfl, rfl⟩) | (go_at_call 50; refine HF.out.mono ?_; rintro e w' ⟨rfl, rfl⟩))
      go_ret
      exact RetD.same HD.out rfl (Below.refl _ _)
    | false =>
      rcases hch : d.change with ⟨d', go⟩
      cases go with
      | true =>
        rw [sync_true hm hd hch]
        exact Sync_yes h m hm hd hch hcs (change_pend hch).1
      | false =>
        have hr : d.sync (m : Int) = (51, d') := by unfold DS.sync; rw [if_neg hbad, hd, if_neg (by simp), hch]
        rw [hr]
        rw [hd] at c11
        have HC := Lib.hid (change_any h hcs)
        rw [hch] at HC
        clear hr hbad h hf hd hch
        go_enter Try.func23, Try.ntmps23
        go_wp2_with (first | (go_at_call 49; refine HM.out.mono ?_; rintro e w' ⟨rfl, rfl⟩) | (go_at_call 50; refine HF.out.mono ?_; rintro e w' ⟨rfl, rfl⟩) | fail)
        refine HC.out.mono ?_
        rintro e w2 ⟨rfl, hD2, g2⟩
        have HD2 := Lib.hid hD2
        clear hD2
        go_wp2
        go_ret
        exact ⟨rfl, pv, HD2.out, g2.sub (by simp [footD]), .inl rfl⟩

/-! Crash -/
theorem kept_take {keep : List Nat} {p : List Wr} : ∀ (k : Nat) (x : Wr), p[k]? = some x → keptOf keep (p.take (k + 1)) 0 = keptOf keep (p.take k) 0 ++ (if bitOf keep k then [x] else []) := by
  have key : ∀ (p : List Wr) (k i : Nat) (x : Wr), p[k]? = some x → keptOf keep (p.take (k + 1)) i = keptOf keep (p.take k) i ++ (if bitOf keep (i + k) then [x] else []) := by
    intro p
    induction p with
    | nil => intro k i x h; simp at h
    | cons y r ih =>
      intro k i x h
      cases k with
      | zero =>
        simp at h; subst h
        simp only [List.take_succ_cons, List.take_zero, keptOf, Nat.add_zero, List.nil_append]
      | succ k =>
        have := ih k (i + 1) x (by simpa using h)
        simp only [List.take_succ_cons, keptOf]
        rw [this, show i + 1 + k = i + (k + 1) by omega]
        split <;> simp
  intro k x h
  have := key p k 0 x h
  rw [Nat.zero_add] at this
  exact this

def crashAt (c : Cont) (keep : List Nat) (p : List Wr) (k : Nat) : Cont := (keptOf keep (p.take k) 0).foldl Cont.wr c
theorem crashAt_yes (c : Cont) {keep : List Nat} {p : List Wr} {k : Nat} {x : Wr} (h : p[k]? = some x) (hb : bitOf keep k = true) : crashAt c keep p (k + 1) = (crashAt c keep p k).wr x := by
  unfold crashAt
  rw [kept_take k x h, hb, if_pos rfl, List.foldl_append]
  rfl
theorem crashAt_no (c : Cont) {keep : List Nat} {p : List Wr} {k : Nat} {x : Wr} (h : p[k]? = some x) (hb : bitOf keep k = false) : crashAt c keep p (k + 1) = crashAt c keep p k := by
  unfold crashAt
  rw [kept_take k x h, hb]
  simp
end Go.Proofs.Ytaggghfnbllbgaa
