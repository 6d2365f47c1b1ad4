/- The walks of cell.Truth, Bool, Not. -/
import Derived.Test.YtipeinkogoghnaaCArithN
namespace Go.Proofs.Ytipeinkogoghnaa
open Go.RowKit

theorem slots1 (w : World) (T : TypeId) (a0 a1 a2 : Value) (w' : World) (hl : Later (w.alloc (.cells #[a0, a1, a2] T)) w') :
    Slot w' w.heap.size a0 a1 a2 ∧ w.heap.size + 1 ≤ w'.heap.size := by
  have e1 : (w.alloc (.cells #[a0, a1, a2] T)).heap.size = w.heap.size + 1 := by simp
  refine ⟨(Slot.new w T a0 a1 a2).later hl (by rw [e1]; omega), ?_⟩
  have := hl.size
  rw [e1] at this; omega

theorem slots2 (w : World) (T : TypeId) (a0 a1 a2 b0 b1 b2 : Value) (w' : World) (hl : Later ((w.alloc (.cells #[a0, a1, a2] T)).alloc (.cells #[b0, b1, b2] T)) w') :
    Slot w' w.heap.size a0 a1 a2 ∧ Slot w' (w.heap.size + 1) b0 b1 b2 ∧ w.heap.size + 2 ≤ w'.heap.size := by
  have e1 : (w.alloc (.cells #[a0, a1, a2] T)).heap.size = w.heap.size + 1 := by simp
  have e2 : ((w.alloc (.cells #[a0, a1, a2] T)).alloc (.cells #[b0, b1, b2] T)).heap.size = w.heap.size + 1 + 1 := by simp
  have l1 : Later (w.alloc (.cells #[a0, a1, a2] T)) ((w.alloc (.cells #[a0, a1, a2] T)).alloc (.cells #[b0, b1, b2] T)) := (Below.refl _ _).alloc (Nat.le_refl _) _
  refine ⟨((Slot.new w T a0 a1 a2).later l1 (by rw [e1]; omega)).later hl (by rw [e2]; omega), ?_, ?_⟩
  · have := (Slot.new (w.alloc (.cells #[a0, a1, a2] T)) T b0 b1 b2)
    rw [e1] at this
    exact this.later hl (by rw [e2]; omega)
  · have := hl.size
    rw [e2] at this; omega

/-- What Truth answers: is it true, is that known, the error. -/
def truthT (x : Vl) : Bool × Bool × Int :=
  if x.right = false then (false, false, 3) else if 1 < x.k then (false, false, 20) else if x.k = 0 then (false, false, 0) else (x.n != 0, true, 0)

def RetT (w : World) (r : Bool × Bool × Int) (e : Ending) (w' : World) : Prop :=
  e = .returned (.tuple #[.bool r.1, .bool r.2.1, .int .i64 r.2.2]) ∧ Below w.heap.size w w'

theorem Truth_any (x : Vl) (w : World) : Calls Try.prog 71 #[.agg #[.int .u8 x.k, .int .i64 x.n, .string x.s]] w (RetT w (truthT x)) := by
  by_cases h : x.right = true
  · by_cases h3 : x.k ≤ 1
    · rcases right_cases0 x h h3 with e1 | e1
      · rw [e1, show truthT ⟨0, 0, ⟨#[]⟩⟩ = (false, false, 0) from by unfold truthT; rw [right_n]; rfl]
        clear e1
        go_enter Try.func71, Try.ntmps71
        go_wp2_with fail
        refine (right_any 0 0 ⟨#[]⟩ _).mono ?_
        rw [right_n]
        rintro e w1 ⟨rfl, hb⟩
        obtain ⟨S3, hz⟩ := slots1 _ _ _ _ _ _ hb
        have hw : Below w.heap.size w w1 := Below.trans ((Below.refl _ _).alloc (Nat.le_refl _) _) (Below.mono hb (by simp <;> omega))
        clear hb
        obtain ⟨p0, p1, p2, p3, p4, p5⟩ := id S3
        go_wp2_with fail
        clear p0 p1 p2 p3 p4 p5
        refine (isNumeric_any 0 0 ⟨#[]⟩ _).mono ?_
        rw [num0]
        rintro e w2 ⟨rfl, hb⟩
        replace S3 := S3.later hb (by omega)
        replace hw := hw.trans (Below.mono hb (by omega))
        replace hz := Nat.le_trans hz (Below.size hb)
        clear hb
        go_wp2_with fail
        have a0 := fun W (h : Later w2.drew W) => (S3.later (Later.undrew h) (by omega)).1
        have a1 := fun W (h : Later w2.drew W) => (S3.later (Later.undrew h) (by omega)).2.1
        have a2 := fun W (h : Later w2.drew W) => (S3.later (Later.undrew h) (by omega)).2.2.1
        refine wp_region_ord [(0, true), (1, false), (2, true)] (by kernel_rfl) (by kernel_rfl) (by kernel_rfl) (by kernel_rfl) ?_
        repeat (first | (refine wpO_F (v := ?_) rfl (by rfl) (fun w' hL => ?_) ?_; rotate_left; (solve | (go_simp; with_reducible rfl) | go_simp); try simp only [Act.put, List.setIfInBounds_toArray, List.set_cons_zero, List.set_cons_succ]) | (refine wpO_G rfl (by rfl) ?_; try simp only [Act.put, List.setIfInBounds_toArray, List.set_cons_zero, List.set_cons_succ]))
        refine wpO_C rfl (by rfl) ?_
        go_simp
        refine (null_any _).mono ?_
        rintro e w3 ⟨rfl, hb⟩
        refine ⟨hb, ?_⟩
        try simp only [Act.put, List.setIfInBounds_toArray, List.set_cons_zero, List.set_cons_succ]
        replace S3 := S3.later (Later.undrew hb) (by omega)
        replace hw := hw.trans (Below.mono (Later.undrew hb) (by omega))
        replace hz := Nat.le_trans hz (Below.size (Later.undrew hb))
        clear hb
        repeat (first | (refine wpO_F (v := ?_) rfl (by rfl) (fun w' hL => ?_) ?_; rotate_left; (solve | (go_simp; with_reducible rfl) | go_simp); try simp only [Act.put, List.setIfInBounds_toArray, List.set_cons_zero, List.set_cons_succ]) | (refine wpO_G rfl (by rfl) ?_; try simp only [Act.put, List.setIfInBounds_toArray, List.set_cons_zero, List.set_cons_succ]))
        refine wpO_nil ?_
        go_wp2
        go_ret3
        exact ⟨rfl, hw⟩
      · obtain ⟨k, n, s⟩ := x
        simp only [Vl.mk.injEq] at e1
        obtain ⟨rfl, _, rfl⟩ := e1
        rw [show truthT ⟨1, n, ⟨#[]⟩⟩ = (n != 0, true, 0) from by unfold truthT; rw [right_i]; rfl]
        clear h h3
        go_enter Try.func71, Try.ntmps71
        go_wp2_with fail
        refine (right_any 1 n ⟨#[]⟩ _).mono ?_
        rw [right_i]
        rintro e w1 ⟨rfl, hb⟩
        obtain ⟨S3, hz⟩ := slots1 _ _ _ _ _ _ hb
        have hw : Below w.heap.size w w1 := Below.trans ((Below.refl _ _).alloc (Nat.le_refl _) _) (Below.mono hb (by simp <;> omega))
        clear hb
        obtain ⟨p0, p1, p2, p3, p4, p5⟩ := id S3
        go_wp2_with fail
        clear p0 p1 p2 p3 p4 p5
        refine (isNumeric_any 1 n ⟨#[]⟩ _).mono ?_
        rw [num1]
        rintro e w2 ⟨rfl, hb⟩
        replace S3 := S3.later hb (by omega)
        replace hw := hw.trans (Below.mono hb (by omega))
        replace hz := Nat.le_trans hz (Below.size hb)
        clear hb
        go_wp2_with fail
        have a0 := fun W (h : Later w2.drew W) => (S3.later (Later.undrew h) (by omega)).1
        have a1 := fun W (h : Later w2.drew W) => (S3.later (Later.undrew h) (by omega)).2.1
        have a2 := fun W (h : Later w2.drew W) => (S3.later (Later.undrew h) (by omega)).2.2.1
        refine wp_region_ord [(0, true), (1, false), (2, true)] (by kernel_rfl) (by kernel_rfl) (by kernel_rfl) (by kernel_rfl) ?_
        repeat (first | (refine wpO_F (v := ?_) rfl (by rfl) (fun w' hL => ?_) ?_; rotate_left; (solve | (go_simp; with_reducible rfl) | go_simp); try simp only [Act.put, List.setIfInBounds_toArray, List.set_cons_zero, List.set_cons_succ]) | (refine wpO_G rfl (by rfl) ?_; try simp only [Act.put, List.setIfInBounds_toArray, List.set_cons_zero, List.set_cons_succ]))
        refine wpO_C rfl (by rfl) ?_
        go_simp
        refine (null_any _).mono ?_
        rintro e w3 ⟨rfl, hb⟩
        refine ⟨hb, ?_⟩
        try simp only [Act.put, List.setIfInBounds_toArray, List.set_cons_zero, List.set_cons_succ]
        replace S3 := S3.later (Later.undrew hb) (by omega)
        replace hw := hw.trans (Below.mono (Later.undrew hb) (by omega))
        replace hz := Nat.le_trans hz (Below.size (Later.undrew hb))
        clear hb
        repeat (first | (refine wpO_F (v := ?_) rfl (by rfl) (fun w' hL => ?_) ?_; rotate_left; (solve | (go_simp; with_reducible rfl) | go_simp); try simp only [Act.put, List.setIfInBounds_toArray, List.set_cons_zero, List.set_cons_succ]) | (refine wpO_G rfl (by rfl) ?_; try simp only [Act.put, List.setIfInBounds_toArray, List.set_cons_zero, List.set_cons_succ]))
        refine wpO_nil ?_
        clear a0 a1 a2
        obtain ⟨p0, p1, p2, p3, p4, p5⟩ := id S3
        go_wp2
        all_goals
          go_ret3
          exact ⟨by first | rfl | simp [*], hw⟩
    · obtain ⟨k, n, s⟩ := x
      rw [show truthT ⟨k, n, s⟩ = (false, false, 20) from by unfold truthT; rw [if_neg (by simp [h]), if_pos (by simp only at h3 ⊢; omega)]]
      have h3' : decide (k ≤ 1) = false := by simpa using h3
      clear h3
      go_enter Try.func71, Try.ntmps71
      go_wp2_with fail
      refine (right_any k n s _).mono ?_
      rw [h]
      rintro e w1 ⟨rfl, hb⟩
      obtain ⟨S3, hz⟩ := slots1 _ _ _ _ _ _ hb
      have hw : Below w.heap.size w w1 := Below.trans ((Below.refl _ _).alloc (Nat.le_refl _) _) (Below.mono hb (by simp <;> omega))
      clear hb
      obtain ⟨p0, p1, p2, p3, p4, p5⟩ := id S3
      go_wp2_with fail
      clear p0 p1 p2 p3 p4 p5
      refine (isNumeric_any k n s _).mono ?_
      rw [h3']
      rintro e w2 ⟨rfl, hb⟩
      replace S3 := S3.later hb (by omega)
      replace hw := hw.trans (Below.mono hb (by omega))
      replace hz := Nat.le_trans hz (Below.size hb)
      clear hb
      go_wp2
      go_ret3
      exact ⟨rfl, hw⟩
  · obtain ⟨k, n, s⟩ := x
    have h' : Vl.right ⟨k, n, s⟩ = false := by simpa using h
    rw [show truthT ⟨k, n, s⟩ = (false, false, 3) from by unfold truthT; rw [if_pos h']]
    clear h
    go_enter Try.func71, Try.ntmps71
    go_wp2_with fail
    refine (right_any k n s _).mono ?_
    rw [h']
    rintro e w1 ⟨rfl, hb⟩
    obtain ⟨S3, hz⟩ := slots1 _ _ _ _ _ _ hb
    have hw : Below w.heap.size w w1 := Below.trans ((Below.refl _ _).alloc (Nat.le_refl _) _) (Below.mono hb (by simp <;> omega))
    clear hb
    go_wp2
    go_ret3
    exact ⟨rfl, hw⟩

def boolV (b : Bool) : Vl := numV (if b then 1 else 0)
end Go.Proofs.Ytipeinkogoghnaa
