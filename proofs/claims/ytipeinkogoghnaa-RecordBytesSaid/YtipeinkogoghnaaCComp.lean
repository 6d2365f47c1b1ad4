/- The walk of cell.Compare. -/
import Derived.Test.YtipeinkogoghnaaCOrder
namespace Go.Proofs.Ytipeinkogoghnaa
open Go.RowKit

/-- What Compare answers. -/
def compareV (a b : Vl) : Int × Bool × Int :=
  if a.right = false ∨ b.right = false then (0, false, 3) else if a.k = 0 ∨ b.k = 0 then (0, false, 0) else if a.k ≠ b.k then (0, false, 20) else (orderV a b, true, 0)

def RetC (w : World) (r : Int × Bool × Int) (e : Ending) (w' : World) : Prop := e = .returned (.tuple #[.int .i64 r.1, .bool r.2.1, .int .i64 r.2.2]) ∧ Below w.heap.size w w'

theorem compare_bad1 (k1 k2 : Nat) (n1 n2 : Int) (s1 s2 : ByteArray) (w : World) (h : Vl.right ⟨k1, n1, s1⟩ = false) :
    Calls Try.prog 33 #[.agg #[.int .u8 k1, .int .i64 n1, .string s1], .agg #[.int .u8 k2, .int .i64 n2, .string s2]] w (RetC w (0, false, 3)) := by
  go_enter Try.func33, Try.ntmps33
  go_wp2_with fail
  refine (right_any k1 n1 s1 _).mono ?_
  rw [h]
  rintro e w1 ⟨rfl, hb⟩
  obtain ⟨S3, S4, hz⟩ := slots2 _ _ _ _ _ _ _ _ _ hb
  have hw : Below w.heap.size w w1 := Below.trans (((Below.refl _ _).alloc (Nat.le_refl _) _).alloc (by simp) _) (Below.mono hb (by simp <;> omega))
  clear hb
  go_wp2
  go_ret3
  exact ⟨rfl, hw⟩

theorem compare_bad2 (k1 k2 : Nat) (n1 n2 : Int) (s1 s2 : ByteArray) (w : World) (h : Vl.right ⟨k1, n1, s1⟩ = true) (h2 : Vl.right ⟨k2, n2, s2⟩ = false) :
    Calls Try.prog 33 #[.agg #[.int .u8 k1, .int .i64 n1, .string s1], .agg #[.int .u8 k2, .int .i64 n2, .string s2]] w (RetC w (0, false, 3)) := by
  go_enter Try.func33, Try.ntmps33
  go_wp2_with fail
  refine (right_any k1 n1 s1 _).mono ?_
  rw [h]
  rintro e w1 ⟨rfl, hb⟩
  obtain ⟨S3, S4, hz⟩ := slots2 _ _ _ _ _ _ _ _ _ hb
  have hw : Below w.heap.size w w1 := Below.trans (((Below.refl _ _).alloc (Nat.le_refl _) _).alloc (by simp) _) (Below.mono hb (by simp <;> omega))
  clear hb
  obtain ⟨p0, p1, p2, p3, p4, p5⟩ := id S3
  obtain ⟨q0, q1, q2, q3, q4, q5⟩ := id S4
  go_wp2_with fail
  clear p0 p1 p2 p3 p4 p5 q0 q1 q2 q3 q4 q5
  refine (right_any k2 n2 s2 _).mono ?_
  rw [h2]
  rintro e w2 ⟨rfl, hb⟩
  replace S3 := S3.later hb (by omega)
  replace S4 := S4.later hb (by omega)
  replace hw := hw.trans (Below.mono hb (by omega))
  replace hz := Nat.le_trans hz (Below.size hb)
  clear hb
  go_wp2
  go_ret3
  exact ⟨rfl, hw⟩

theorem compare_null1 (k2 : Nat) (n2 : Int) (s2 : ByteArray) (w : World) (h2 : Vl.right ⟨k2, n2, s2⟩ = true) :
    Calls Try.prog 33 #[.agg #[.int .u8 0, .int .i64 0, .string ⟨#[]⟩], .agg #[.int .u8 k2, .int .i64 n2, .string s2]] w (RetC w (0, false, 0)) := by
  go_enter Try.func33, Try.ntmps33
  go_wp2_with fail
  refine (right_any 0 0 ⟨#[]⟩ _).mono ?_
  rw [right_n]
  rintro e w1 ⟨rfl, hb⟩
  obtain ⟨S3, S4, hz⟩ := slots2 _ _ _ _ _ _ _ _ _ hb
  have hw : Below w.heap.size w w1 := Below.trans (((Below.refl _ _).alloc (Nat.le_refl _) _).alloc (by simp) _) (Below.mono hb (by simp <;> omega))
  clear hb
  obtain ⟨p0, p1, p2, p3, p4, p5⟩ := id S3
  obtain ⟨q0, q1, q2, q3, q4, q5⟩ := id S4
  go_wp2_with fail
  clear p0 p1 p2 p3 p4 p5 q0 q1 q2 q3 q4 q5
  refine (right_any k2 n2 s2 _).mono ?_
  rw [h2]
  rintro e w2 ⟨rfl, hb⟩
  replace S3 := S3.later hb (by omega)
  replace S4 := S4.later hb (by omega)
  replace hw := hw.trans (Below.mono hb (by omega))
  replace hz := Nat.le_trans hz (Below.size hb)
  clear hb
  go_wp2_with fail
  have a0 := fun W (h : Later w2.drew W) => (S3.later (Later.undrew h) (by omega)).1
  have a1 := fun W (h : Later w2.drew W) => (S3.later (Later.undrew h) (by omega)).2.1
  have a2 := fun W (h : Later w2.drew W) => (S3.later (Later.undrew h) (by omega)).2.2.1
  refine wp_region_ord [(0, true), (1, false), (2, true), (3, true), (4, true), (5, false), (6, true), (7, true)] (by kernel_rfl) (by kernel_rfl) (by kernel_rfl) (by kernel_rfl) ?_
  repeat (first | (refine wpO_F (v := ?_) rfl (by rfl) (fun w' hL => ?_) ?_; rotate_left; (solve | (go_simp; with_reducible rfl) | go_simp); try simp only [Act.put, List.setIfInBounds_toArray, List.set_cons_zero, List.set_cons_succ]) | (refine wpO_G rfl (by rfl) ?_; try simp only [Act.put, List.setIfInBounds_toArray, List.set_cons_zero, List.set_cons_succ]))
  refine wpO_C rfl (by rfl) ?_
  go_simp
  refine (null_any _).mono ?_
  rintro e w3 ⟨rfl, hb⟩
  refine ⟨hb, ?_⟩
  try simp only [Act.put, List.setIfInBounds_toArray, List.set_cons_zero, List.set_cons_succ]
  replace S3 := S3.later (Later.undrew hb) (by omega)
  replace S4 := S4.later (Later.undrew hb) (by omega)
  replace hw := hw.trans (Below.mono (Later.undrew hb) (by omega))
  replace hz := Nat.le_trans hz (Below.size (Later.undrew hb))
  clear hb
  clear a0 a1 a2
  repeat (first | (refine wpO_F (v := ?_) rfl (by rfl) (fun w' hL => ?_) ?_; rotate_left; (solve | (go_simp; with_reducible rfl) | go_simp); try simp only [Act.put, List.setIfInBounds_toArray, List.set_cons_zero, List.set_cons_succ]) | (refine wpO_G rfl (by rfl) ?_; try simp only [Act.put, List.setIfInBounds_toArray, List.set_cons_zero, List.set_cons_succ]))
  refine wpO_nil ?_
  go_wp2
  go_ret3
  exact ⟨rfl, hw⟩

theorem compare_null2 (k1 : Nat) (n1 : Int) (s1 : ByteArray) (w : World) (h : Vl.right ⟨k1, n1, s1⟩ = true) (h3 : ((k1 : Int) == 0) = false) :
    Calls Try.prog 33 #[.agg #[.int .u8 k1, .int .i64 n1, .string s1], .agg #[.int .u8 0, .int .i64 0, .string ⟨#[]⟩]] w (RetC w (0, false, 0)) := by
  go_enter Try.func33, Try.ntmps33
  go_wp2_with fail
  refine (right_any k1 n1 s1 _).mono ?_
  rw [h]
  rintro e w1 ⟨rfl, hb⟩
  obtain ⟨S3, S4, hz⟩ := slots2 _ _ _ _ _ _ _ _ _ hb
  have hw : Below w.heap.size w w1 := Below.trans (((Below.refl _ _).alloc (Nat.le_refl _) _).alloc (by simp) _) (Below.mono hb (by simp <;> omega))
  clear hb
  obtain ⟨p0, p1, p2, p3, p4, p5⟩ := id S3
  obtain ⟨q0, q1, q2, q3, q4, q5⟩ := id S4
  go_wp2_with fail
  clear p0 p1 p2 p3 p4 p5 q0 q1 q2 q3 q4 q5
  refine (right_any 0 0 ⟨#[]⟩ _).mono ?_
  rw [right_n]
  rintro e w2 ⟨rfl, hb⟩
  replace S3 := S3.later hb (by omega)
  replace S4 := S4.later hb (by omega)
  replace hw := hw.trans (Below.mono hb (by omega))
  replace hz := Nat.le_trans hz (Below.size hb)
  clear hb
  go_wp2_with fail
  have a0 := fun W (h : Later w2.drew W) => (S3.later (Later.undrew h) (by omega)).1
  have a1 := fun W (h : Later w2.drew W) => (S3.later (Later.undrew h) (by omega)).2.1
  have a2 := fun W (h : Later w2.drew W) => (S3.later (Later.undrew h) (by omega)).2.2.1
  refine wp_region_ord [(0, true), (1, false), (2, true), (3, true), (4, true), (5, false), (6, true), (7, true)] (by kernel_rfl) (by kernel_rfl) (by kernel_rfl) (by kernel_rfl) ?_
  repeat (first | (refine wpO_F (v := ?_) rfl (by rfl) (fun w' hL => ?_) ?_; rotate_left; (solve | (go_simp; with_reducible rfl) | go_simp); try simp only [Act.put, List.setIfInBounds_toArray, List.set_cons_zero, List.set_cons_succ]) | (refine wpO_G rfl (by rfl) ?_; try simp only [Act.put, List.setIfInBounds_toArray, List.set_cons_zero, List.set_cons_succ]))
  refine wpO_C rfl (by rfl) ?_
  go_simp
  refine (null_any _).mono ?_
  rintro e w3 ⟨rfl, hb⟩
  refine ⟨hb, ?_⟩
  try simp only [Act.put, List.setIfInBounds_toArray, List.set_cons_zero, List.set_cons_succ]
  replace S3 := S3.later (Later.undrew hb) (by omega)
  replace S4 := S4.later (Later.undrew hb) (by omega)
  replace hw := hw.trans (Below.mono (Later.undrew hb) (by omega))
  replace hz := Nat.le_trans hz (Below.size (Later.undrew hb))
  clear hb
  clear a0 a1 a2
  have b0 := fun W (h : Later w3 W) => (S4.later h (by omega)).1
  have b1 := fun W (h : Later w3 W) => (S4.later h (by omega)).2.1
  have b2 := fun W (h : Later w3 W) => (S4.later h (by omega)).2.2.1
  repeat (first | (refine wpO_F (v := ?_) rfl (by rfl) (fun w' hL => ?_) ?_; rotate_left; (solve | (go_simp; with_reducible rfl) | go_simp); try simp only [Act.put, List.setIfInBounds_toArray, List.set_cons_zero, List.set_cons_succ]) | (refine wpO_G rfl (by rfl) ?_; try simp only [Act.put, List.setIfInBounds_toArray, List.set_cons_zero, List.set_cons_succ]))
  refine wpO_C rfl (by rfl) ?_
  go_simp
  refine (null_any _).mono ?_
  rintro e w4 ⟨rfl, hb⟩
  refine ⟨hb, ?_⟩
  try simp only [Act.put, List.setIfInBounds_toArray, List.set_cons_zero, List.set_cons_succ]
  replace S3 := S3.later hb (by omega)
  replace S4 := S4.later hb (by omega)
  replace hw := hw.trans (Below.mono hb (by omega))
  replace hz := Nat.le_trans hz (Below.size hb)
  clear hb
  clear b0 b1 b2
  repeat (first | (refine wpO_F (v := ?_) rfl (by rfl) (fun w' hL => ?_) ?_; rotate_left; (solve | (go_simp; with_reducible rfl) | go_simp); try simp only [Act.put, List.setIfInBounds_toArray, List.set_cons_zero, List.set_cons_succ]) | (refine wpO_G rfl (by rfl) ?_; try simp only [Act.put, List.setIfInBounds_toArray, List.set_cons_zero, List.set_cons_succ]))
  refine wpO_nil ?_
  go_wp2
  go_ret3
  exact ⟨rfl, hw⟩

theorem compare_type (k1 k2 : Nat) (n1 n2 : Int) (s1 s2 : ByteArray) (w : World) (h : Vl.right ⟨k1, n1, s1⟩ = true) (h2 : Vl.right ⟨k2, n2, s2⟩ = true) (h3 : ((k1 : Int) == 0) = false) (h4 : ((k2 : Int) == 0) = false) (h5 : ((k1 : Int) != (k2 : Int)) = true) :
    Calls Try.prog 33 #[.agg #[.int .u8 k1, .int .i64 n1, .string s1], .agg #[.int .u8 k2, .int .i64 n2, .string s2]] w (RetC w (0, false, 20)) := by
  go_enter Try.func33, Try.ntmps33
  go_wp2_with fail
  refine (right_any k1 n1 s1 _).mono ?_
  rw [h]
  rintro e w1 ⟨rfl, hb⟩
  obtain ⟨S3, S4, hz⟩ := slots2 _ _ _ _ _ _ _ _ _ hb
  have hw : Below w.heap.size w w1 := Below.trans (((Below.refl _ _).alloc (Nat.le_refl _) _).alloc (by simp) _) (Below.mono hb (by simp <;> omega))
  clear hb
  obtain ⟨p0, p1, p2, p3, p4, p5⟩ := id S3
  obtain ⟨q0, q1, q2, q3, q4, q5⟩ := id S4
  go_wp2_with fail
  clear p0 p1 p2 p3 p4 p5 q0 q1 q2 q3 q4 q5
  refine (right_any k2 n2 s2 _).mono ?_
  rw [h2]
  rintro e w2 ⟨rfl, hb⟩
  replace S3 := S3.later hb (by omega)
  replace S4 := S4.later hb (by omega)
  replace hw := hw.trans (Below.mono hb (by omega))
  replace hz := Nat.le_trans hz (Below.size hb)
  clear hb
  go_wp2_with fail
  have a0 := fun W (h : Later w2.drew W) => (S3.later (Later.undrew h) (by omega)).1
  have a1 := fun W (h : Later w2.drew W) => (S3.later (Later.undrew h) (by omega)).2.1
  have a2 := fun W (h : Later w2.drew W) => (S3.later (Later.undrew h) (by omega)).2.2.1
  refine wp_region_ord [(0, true), (1, false), (2, true), (3, true), (4, true), (5, false), (6, true), (7, true)] (by kernel_rfl) (by kernel_rfl) (by kernel_rfl) (by kernel_rfl) ?_
  repeat (first | (refine wpO_F (v := ?_) rfl (by rfl) (fun w' hL => ?_) ?_; rotate_left; (solve | (go_simp; with_reducible rfl) | go_simp); try simp only [Act.put, List.setIfInBounds_toArray, List.set_cons_zero, List.set_cons_succ]) | (refine wpO_G rfl (by rfl) ?_; try simp only [Act.put, List.setIfInBounds_toArray, List.set_cons_zero, List.set_cons_succ]))
  refine wpO_C rfl (by rfl) ?_
  go_simp
  refine (null_any _).mono ?_
  rintro e w3 ⟨rfl, hb⟩
  refine ⟨hb, ?_⟩
  try simp only [Act.put, List.setIfInBounds_toArray, List.set_cons_zero, List.set_cons_succ]
  replace S3 := S3.later (Later.undrew hb) (by omega)
  replace S4 := S4.later (Later.undrew hb) (by omega)
  replace hw := hw.trans (Below.mono (Later.undrew hb) (by omega))
  replace hz := Nat.le_trans hz (Below.size (Later.undrew hb))
  clear hb
  clear a0 a1 a2
  have b0 := fun W (h : Later w3 W) => (S4.later h (by omega)).1
  have b1 := fun W (h : Later w3 W) => (S4.later h (by omega)).2.1
  have b2 := fun W (h : Later w3 W) => (S4.later h (by omega)).2.2.1
  repeat (first | (refine wpO_F (v := ?_) rfl (by rfl) (fun w' hL => ?_) ?_; rotate_left; (solve | (go_simp; with_reducible rfl) | go_simp); try simp only [Act.put, List.setIfInBounds_toArray, List.set_cons_zero, List.set_cons_succ]) | (refine wpO_G rfl (by rfl) ?_; try simp only [Act.put, List.setIfInBounds_toArray, List.set_cons_zero, List.set_cons_succ]))
  refine wpO_C rfl (by rfl) ?_
  go_simp
  refine (null_any _).mono ?_
  rintro e w4 ⟨rfl, hb⟩
  refine ⟨hb, ?_⟩
  try simp only [Act.put, List.setIfInBounds_toArray, List.set_cons_zero, List.set_cons_succ]
  replace S3 := S3.later hb (by omega)
  replace S4 := S4.later hb (by omega)
  replace hw := hw.trans (Below.mono hb (by omega))
  replace hz := Nat.le_trans hz (Below.size hb)
  clear hb
  clear b0 b1 b2
  repeat (first | (refine wpO_F (v := ?_) rfl (by rfl) (fun w' hL => ?_) ?_; rotate_left; (solve | (go_simp; with_reducible rfl) | go_simp); try simp only [Act.put, List.setIfInBounds_toArray, List.set_cons_zero, List.set_cons_succ]) | (refine wpO_G rfl (by rfl) ?_; try simp only [Act.put, List.setIfInBounds_toArray, List.set_cons_zero, List.set_cons_succ]))
  refine wpO_nil ?_
  obtain ⟨p0, p1, p2, p3, p4, p5⟩ := id S3
  obtain ⟨q0, q1, q2, q3, q4, q5⟩ := id S4
  go_wp2
  go_ret3
  exact ⟨rfl, hw⟩

theorem compare_good (k1 k2 : Nat) (n1 n2 : Int) (s1 s2 : ByteArray) (w : World) (h : Vl.right ⟨k1, n1, s1⟩ = true) (h2 : Vl.right ⟨k2, n2, s2⟩ = true) (h3 : ((k1 : Int) == 0) = false) (h4 : ((k2 : Int) == 0) = false) (h5 : ((k1 : Int) != (k2 : Int)) = false) :
    Calls Try.prog 33 #[.agg #[.int .u8 k1, .int .i64 n1, .string s1], .agg #[.int .u8 k2, .int .i64 n2, .string s2]] w (RetC w (orderV ⟨k1, n1, s1⟩ ⟨k2, n2, s2⟩, true, 0)) := by
  go_enter Try.func33, Try.ntmps33
  go_wp2_with fail
  refine (right_any k1 n1 s1 _).mono ?_
  rw [h]
  rintro e w1 ⟨rfl, hb⟩
  obtain ⟨S3, S4, hz⟩ := slots2 _ _ _ _ _ _ _ _ _ hb
  have hw : Below w.heap.size w w1 := Below.trans (((Below.refl _ _).alloc (Nat.le_refl _) _).alloc (by simp) _) (Below.mono hb (by simp <;> omega))
  clear hb
  obtain ⟨p0, p1, p2, p3, p4, p5⟩ := id S3
  obtain ⟨q0, q1, q2, q3, q4, q5⟩ := id S4
  go_wp2_with fail
  clear p0 p1 p2 p3 p4 p5 q0 q1 q2 q3 q4 q5
  refine (right_any k2 n2 s2 _).mono ?_
  rw [h2]
  rintro e w2 ⟨rfl, hb⟩
  replace S3 := S3.later hb (by omega)
  replace S4 := S4.later hb (by omega)
  replace hw := hw.trans (Below.mono hb (by omega))
  replace hz := Nat.le_trans hz (Below.size hb)
  clear hb
  go_wp2_with fail
  have a0 := fun W (h : Later w2.drew W) => (S3.later (Later.undrew h) (by omega)).1
  have a1 := fun W (h : Later w2.drew W) => (S3.later (Later.undrew h) (by omega)).2.1
  have a2 := fun W (h : Later w2.drew W) => (S3.later (Later.undrew h) (by omega)).2.2.1
  refine wp_region_ord [(0, true), (1, false), (2, true), (3, true), (4, true), (5, false), (6, true), (7, true)] (by kernel_rfl) (by kernel_rfl) (by kernel_rfl) (by kernel_rfl) ?_
  repeat (first | (refine wpO_F (v := ?_) rfl (by rfl) (fun w' hL => ?_) ?_; rotate_left; (solve | (go_simp; with_reducible rfl) | go_simp); try simp only [Act.put, List.setIfInBounds_toArray, List.set_cons_zero, List.set_cons_succ]) | (refine wpO_G rfl (by rfl) ?_; try simp only [Act.put, List.setIfInBounds_toArray, List.set_cons_zero, List.set_cons_succ]))
  refine wpO_C rfl (by rfl) ?_
  go_simp
  refine (null_any _).mono ?_
  rintro e w3 ⟨rfl, hb⟩
  refine ⟨hb, ?_⟩
  try simp only [Act.put, List.setIfInBounds_toArray, List.set_cons_zero, List.set_cons_succ]
  replace S3 := S3.later (Later.undrew hb) (by omega)
  replace S4 := S4.later (Later.undrew hb) (by omega)
  replace hw := hw.trans (Below.mono (Later.undrew hb) (by omega))
  replace hz := Nat.le_trans hz (Below.size (Later.undrew hb))
  clear hb
  clear a0 a1 a2
  have b0 := fun W (h : Later w3 W) => (S4.later h (by omega)).1
  have b1 := fun W (h : Later w3 W) => (S4.later h (by omega)).2.1
  have b2 := fun W (h : Later w3 W) => (S4.later h (by omega)).2.2.1
  repeat (first | (refine wpO_F (v := ?_) rfl (by rfl) (fun w' hL => ?_) ?_; rotate_left; (solve | (go_simp; with_reducible rfl) | go_simp); try simp only [Act.put, List.setIfInBounds_toArray, List.set_cons_zero, List.set_cons_succ]) | (refine wpO_G rfl (by rfl) ?_; try simp only [Act.put, List.setIfInBounds_toArray, List.set_cons_zero, List.set_cons_succ]))
  refine wpO_C rfl (by rfl) ?_
  go_simp
  refine (null_any _).mono ?_
  rintro e w4 ⟨rfl, hb⟩
  refine ⟨hb, ?_⟩
  try simp only [Act.put, List.setIfInBounds_toArray, List.set_cons_zero, List.set_cons_succ]
  replace S3 := S3.later hb (by omega)
  replace S4 := S4.later hb (by omega)
  replace hw := hw.trans (Below.mono hb (by omega))
  replace hz := Nat.le_trans hz (Below.size hb)
  clear hb
  clear b0 b1 b2
  repeat (first | (refine wpO_F (v := ?_) rfl (by rfl) (fun w' hL => ?_) ?_; rotate_left; (solve | (go_simp; with_reducible rfl) | go_simp); try simp only [Act.put, List.setIfInBounds_toArray, List.set_cons_zero, List.set_cons_succ]) | (refine wpO_G rfl (by rfl) ?_; try simp only [Act.put, List.setIfInBounds_toArray, List.set_cons_zero, List.set_cons_succ]))
  refine wpO_nil ?_
  obtain ⟨p0, p1, p2, p3, p4, p5⟩ := id S3
  obtain ⟨q0, q1, q2, q3, q4, q5⟩ := id S4
  go_wp2_with fail
  clear p0 p1 p2 p3 p4 p5 q0 q1 q2 q3 q4 q5
  refine (Order_any ⟨k1, n1, s1⟩ ⟨k2, n2, s2⟩ _).mono ?_
  rintro e w5 ⟨rfl, hb⟩
  replace S3 := S3.later hb (by omega)
  replace S4 := S4.later hb (by omega)
  replace hw := hw.trans (Below.mono hb (by omega))
  replace hz := Nat.le_trans hz (Below.size hb)
  clear hb
  go_wp2
  go_ret3
  exact ⟨rfl, hw⟩

theorem right_null0 (x : Vl) (h : x.right = true) (hk : x.k = 0) : x = ⟨0, 0, ⟨#[]⟩⟩ := by
  obtain ⟨k, n, s⟩ := x
  simp only at hk
  subst hk
  obtain ⟨rfl, rfl⟩ := right_null h
  rfl

theorem Compare_any (a b : Vl) (w : World) : Calls Try.prog 33 #[.agg #[.int .u8 a.k, .int .i64 a.n, .string a.s], .agg #[.int .u8 b.k, .int .i64 b.n, .string b.s]] w (RetC w (compareV a b)) := by
  by_cases h1 : a.right = true
  · by_cases h2 : b.right = true
    · by_cases h3 : a.k = 0
      · rw [show compareV a b = (0, false, 0) from by unfold compareV; rw [if_neg (by simp [h1, h2]), if_pos (.inl h3)], right_null0 a h1 h3]
        exact compare_null1 _ _ _ w h2
      · by_cases h4 : b.k = 0
        · rw [show compareV a b = (0, false, 0) from by unfold compareV; rw [if_neg (by simp [h1, h2]), if_pos (.inr h4)], right_null0 b h2 h4]
          exact compare_null2 _ _ _ w h1 (by simp; omega)
        · by_cases h5 : a.k = b.k
          · rw [show compareV a b = (orderV a b, true, 0) from by unfold compareV; rw [if_neg (by simp [h1, h2]), if_neg (by omega), if_neg (by omega)]]
            exact compare_good _ _ _ _ _ _ w h1 h2 (by simp; omega) (by simp; omega) (by simp [h5])
          · rw [show compareV a b = (0, false, 20) from by unfold compareV; rw [if_neg (by simp [h1, h2]), if_neg (by omega), if_pos h5]]
            exact compare_type _ _ _ _ _ _ w h1 h2 (by simp; omega) (by simp; omega) (by simp; omega)
    · rw [show compareV a b = (0, false, 3) from by unfold compareV; rw [if_pos (.inr (by simpa using h2))]]
      exact compare_bad2 _ _ _ _ _ _ w h1 (by simpa using h2)
  · rw [show compareV a b = (0, false, 3) from by unfold compareV; rw [if_pos (.inl (by simpa using h1))]]
    exact compare_bad1 _ _ _ _ _ _ w (by simpa using h1)

end Go.Proofs.Ytipeinkogoghnaa
