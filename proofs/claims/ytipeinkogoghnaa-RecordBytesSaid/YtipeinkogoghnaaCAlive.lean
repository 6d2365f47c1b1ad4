/- The walk of hindsightlaw02.alive. -/
import Derived.Test.YtipeinkogoghnaaCComp
import Derived.Test.YtipeinkogoghnaaCOps
namespace Go.Proofs.Ytipeinkogoghnaa
open Go.RowKit

/-- Variables that stand are there in every later world. -/
theorem Slot.on {w w' : World} {b : Nat} {v0 v1 v2 : Value} (h : Slot w b v0 v1 v2) (hl : Later w w') : Slot w' b v0 v1 v2 := h.later hl (World.block_lt_of_cell? _ _ h.1)

theorem Slot.drew {w : World} {b : Nat} {v0 v1 v2 : Value} (h : Slot w b v0 v1 v2) : Slot w.drew b v0 v1 v2 := h

/-- A variable that a call's result is laid in: behind the next call. -/
theorem slotN (w : World) (T : TypeId) (a0 a1 a2 : Value) (w' : World) (hl : Later (w.alloc (.cells #[a0, a1, a2] T)) w') : Slot w' w.heap.size a0 a1 a2 ∧ Later w w' :=
  ⟨(slots1 w T a0 a1 a2 w' hl).1, Later.trans (Below.box w _) hl⟩

theorem ok_num (n : Int) (h1 : -9223372036854775808 ≤ n) (h2 : n ≤ 9223372036854775807) : (numV n).ok := ⟨by show 1 < 256; omega, h1, h2⟩
theorem ok_null : nullV.ok := ⟨by show 0 < 256; omega, by show -9223372036854775808 ≤ (0 : Int); omega, by show (0 : Int) ≤ 9223372036854775807; omega⟩

theorem alive2_add (w : World) : Calls Try.prog 10 #[.agg #[.int .u8 1, .int .i64 9223372036854775807, .string ⟨#[]⟩], .agg #[.int .u8 1, .int .i64 1, .string ⟨#[]⟩]] w (RetV w (⟨0, 0, ⟨#[]⟩⟩, 21)) := by
  have h := Add_any (numV 9223372036854775807) (numV 1) w (ok_num _ (by omega) (by omega)) (ok_num _ (by omega) (by omega))
  rw [show arithV addI (numV 9223372036854775807) (numV 1) = (nullV, 21) from by unfold numV; rw [arithV_ii]; rfl] at h
  exact h
theorem alive2_and (w : World) : Calls Try.prog 32 #[.agg #[.int .u8 0, .int .i64 0, .string ⟨#[]⟩], .agg #[.int .u8 1, .int .i64 0, .string ⟨#[]⟩]] w (RetV w (⟨1, 0, ⟨#[]⟩⟩, 0)) := by
  have h := And_any nullV (numV 0) w
  rw [show decideV false nullV (numV 0) = (numV 0, 0) from by decide] at h
  exact h
theorem alive2_mul (w : World) : Calls Try.prog 14 #[.agg #[.int .u8 1, .int .i64 (-3), .string ⟨#[]⟩], .agg #[.int .u8 1, .int .i64 5, .string ⟨#[]⟩]] w (RetV w (⟨1, -15, ⟨#[]⟩⟩, 0)) := by
  have h := Mul_any (numV (-3)) (numV 5) w (ok_num _ (by omega) (by omega)) (ok_num _ (by omega) (by omega))
  rw [show arithV mulI (numV (-3)) (numV 5) = (numV (-15), 0) from by unfold numV; rw [arithV_ii]; rfl] at h
  exact h
theorem alive2_comp (w : World) : Calls Try.prog 33 #[.agg #[.int .u8 1, .int .i64 1, .string ⟨#[]⟩], .agg #[.int .u8 1, .int .i64 2, .string ⟨#[]⟩]] w (RetC w (-1, true, 0)) := by
  have h := Compare_any (numV 1) (numV 2) w
  rw [show compareV (numV 1) (numV 2) = (-1, true, 0) from by decide] at h
  exact h

set_option maxHeartbeats 1000000 in
theorem alive2_any (w : World) : Calls Try.prog 9 #[] w fun e w' => e = .returned (.bool true) ∧ Below w.heap.size w w' := by
  go_enter Try.func9, Try.ntmps9
  go_wp2_with fail
  refine (rnumber_any _ _).mono ?_
  rintro e w1 ⟨rfl, h1⟩
  go_wp2_with fail
  refine (rnumber_any _ _).mono ?_
  rintro e w2 ⟨rfl, h2⟩
  go_wp2_with fail
  refine (alive2_add _).mono ?_
  rintro e w3 ⟨rfl, h3⟩
  have hw : Later w w3 := (Later.trans h1 h2).trans h3
  clear h1 h2 h3
  go_wp2_with fail
  refine (rnumber_any _ _).mono ?_
  rintro e w4 ⟨rfl, h4⟩
  go_wp2_with fail
  refine (alive2_and _).mono ?_
  rintro e w5 ⟨rfl, h5⟩
  replace hw := (hw.trans (slotN _ _ _ _ _ _ h4).2).trans h5
  clear h4 h5
  go_wp2_with fail
  refine (rnumber_any _ _).mono ?_
  rintro e w6 ⟨rfl, h6⟩
  obtain ⟨S3, h6⟩ := slotN _ _ _ _ _ _ h6
  go_wp2_with fail
  refine (rnumber_any _ _).mono ?_
  rintro e w7 ⟨rfl, h7⟩
  go_wp2_with fail
  refine (alive2_mul _).mono ?_
  rintro e w8 ⟨rfl, h8⟩
  replace S3 := S3.on (Later.trans h7 h8)
  replace hw := (hw.trans h6).trans (Later.trans h7 h8)
  clear h6 h7 h8
  go_wp2_with fail
  refine (rnumber_any _ _).mono ?_
  rintro e w9 ⟨rfl, h9⟩
  obtain ⟨S5, h9⟩ := slotN _ _ _ _ _ _ h9
  go_wp2_with fail
  refine (rnumber_any _ _).mono ?_
  rintro e w10 ⟨rfl, h10⟩
  go_wp2_with fail
  refine (alive2_comp _).mono ?_
  rintro e w11 ⟨rfl, h11⟩
  replace S3 := S3.on (h9.trans (Later.trans h10 h11))
  replace S5 := S5.on (Later.trans h10 h11)
  replace hw := (hw.trans h9).trans (Later.trans h10 h11)
  clear h9 h10 h11
  go_wp2_with fail
  have a0 := fun W (h : Later w11.drew W) => (S3.on (Later.undrew h)).1
  have a1 := fun W (h : Later w11.drew W) => (S3.on (Later.undrew h)).2.1
  have a2 := fun W (h : Later w11.drew W) => (S3.on (Later.undrew h)).2.2.1
  refine wp_region_ord [(0, true), (1, true), (2, true), (3, true), (4, false), (5, true), (6, true), (7, true), (8, true), (9, true), (10, true), (11, true), (12, true), (13, false), (14, true), (15, true), (16, true), (17, true), (18, true), (19, true), (20, true), (21, true), (22, true), (23, true), (24, true), (25, true), (26, true), (27, true), (28, true), (29, true), (30, true), (31, true)] (by kernel_rfl) (by kernel_rfl) (by kernel_rfl) (by kernel_rfl) ?_
  repeat (first | (refine wpO_F (v := ?_) rfl (by rfl) (fun w' hL => ?_) ?_; rotate_left; (solve | (go_simp; with_reducible rfl) | go_simp); try simp only [Act.put, List.setIfInBounds_toArray, List.set_cons_zero, List.set_cons_succ]) | (refine wpO_G rfl (by rfl) ?_; try simp only [Act.put, List.setIfInBounds_toArray, List.set_cons_zero, List.set_cons_succ]))
  refine wpO_C rfl (by rfl) ?_
  go_simp
  refine (rnumber_any _ _).mono ?_
  rintro e w12 ⟨rfl, hb1⟩
  refine ⟨hb1, ?_⟩
  try simp only [Act.put, List.setIfInBounds_toArray, List.set_cons_zero, List.set_cons_succ]
  clear a0 a1 a2
  have b0 := fun W (h : Later w12 W) => (S5.on ((Later.undrew hb1).trans h)).1
  have b1 := fun W (h : Later w12 W) => (S5.on ((Later.undrew hb1).trans h)).2.1
  have b2 := fun W (h : Later w12 W) => (S5.on ((Later.undrew hb1).trans h)).2.2.1
  repeat (first | (refine wpO_F (v := ?_) rfl (by rfl) (fun w' hL => ?_) ?_; rotate_left; (solve | (go_simp; with_reducible rfl) | go_simp); try simp only [Act.put, List.setIfInBounds_toArray, List.set_cons_zero, List.set_cons_succ]) | (refine wpO_G rfl (by rfl) ?_; try simp only [Act.put, List.setIfInBounds_toArray, List.set_cons_zero, List.set_cons_succ]))
  refine wpO_C rfl (by rfl) ?_
  go_simp
  refine (rnumber_any _ _).mono ?_
  rintro e w13 ⟨rfl, hb2⟩
  refine ⟨hb2, ?_⟩
  try simp only [Act.put, List.setIfInBounds_toArray, List.set_cons_zero, List.set_cons_succ]
  clear b0 b1 b2
  repeat (first | (refine wpO_F (v := ?_) rfl (by rfl) (fun w' hL => ?_) ?_; rotate_left; (solve | (go_simp; with_reducible rfl) | go_simp); try simp only [Act.put, List.setIfInBounds_toArray, List.set_cons_zero, List.set_cons_succ]) | (refine wpO_G rfl (by rfl) ?_; try simp only [Act.put, List.setIfInBounds_toArray, List.set_cons_zero, List.set_cons_succ]))
  refine wpO_nil ?_
  go_wp2
  go_ret
  exact ⟨rfl, hw.trans ((Later.undrew hb1).trans hb2)⟩
end Go.Proofs.Ytipeinkogoghnaa
