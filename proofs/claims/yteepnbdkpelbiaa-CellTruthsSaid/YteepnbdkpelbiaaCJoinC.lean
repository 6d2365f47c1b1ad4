/- The walks of cell.Join. -/
import Derived.Test.YteepnbdkpelbiaaCJoin
namespace Go.Proofs.Yteepnbdkpelbiaa
open Go.RowKit

theorem join_bad1 (k1 k2 : Nat) (n1 n2 : Int) (s1 s2 : ByteArray) (w : World) (h : Vl.right ⟨k1, n1, s1⟩ = false) :
    Calls Try.prog 37 #[.agg #[.int .u8 k1, .int .i64 n1, .string s1], .agg #[.int .u8 k2, .int .i64 n2, .string s2]] w (RetV w (nullV, 3)) := by
  go_enter Try.func37, Try.ntmps37
  go_wp2_with fail
  refine (right_any k1 n1 s1 _).mono ?_
  rw [h]
  rintro e w1 ⟨rfl, hb⟩
  obtain ⟨S3, S4, S6, hz⟩ := slots3 _ _ _ _ _ _ _ _ _ _ _ _ hb
  have hw : Below w.heap.size w w1 := Below.trans ((((Below.refl _ _).alloc (Nat.le_refl _) _).alloc (by simp) _).alloc (by simp; omega) _) (Below.mono hb (by simp <;> omega))
  clear hb
  obtain ⟨p0, p1, p2, p3, p4, p5⟩ := id S3
  obtain ⟨q0, q1, q2, q3, q4, q5⟩ := id S4
  obtain ⟨r0, r1, r2, r3, r4, r5⟩ := id S6
  go_wp2_with fail
  clear p0 p1 p2 p3 p4 p5 q0 q1 q2 q3 q4 q5 r0 r1 r2 r3 r4 r5
  refine (null_any _).mono ?_
  rintro e w2 ⟨rfl, hb⟩
  replace S3 := S3.later hb (by omega)
  replace S4 := S4.later hb (by omega)
  replace S6 := S6.later hb (by omega)
  replace hw := hw.trans (Below.mono hb (by omega))
  replace hz := Nat.le_trans hz (Below.size hb)
  clear hb
  obtain ⟨p0, p1, p2, p3, p4, p5⟩ := id S3
  obtain ⟨q0, q1, q2, q3, q4, q5⟩ := id S4
  obtain ⟨r0, r1, r2, r3, r4, r5⟩ := id S6
  go_wp2
  refine bodyPost_ret (v := .tuple #[.agg #[.int .u8 0, .int .i64 0, .string ⟨#[]⟩], .int .i64 3]) (by simp [results, Try.results37, go_sem, *]) rfl ⟨rfl, ?_⟩
  exact ((hw.setCell (by simp <;> omega) _).setCell (by simp <;> omega) _).setCell (by simp <;> omega) _

theorem join_bad2 (k1 k2 : Nat) (n1 n2 : Int) (s1 s2 : ByteArray) (w : World) (h : Vl.right ⟨k1, n1, s1⟩ = true) (h2 : Vl.right ⟨k2, n2, s2⟩ = false) :
    Calls Try.prog 37 #[.agg #[.int .u8 k1, .int .i64 n1, .string s1], .agg #[.int .u8 k2, .int .i64 n2, .string s2]] w (RetV w (nullV, 3)) := by
  go_enter Try.func37, Try.ntmps37
  go_wp2_with fail
  refine (right_any k1 n1 s1 _).mono ?_
  rw [h]
  rintro e w1 ⟨rfl, hb⟩
  obtain ⟨S3, S4, S6, hz⟩ := slots3 _ _ _ _ _ _ _ _ _ _ _ _ hb
  have hw : Below w.heap.size w w1 := Below.trans ((((Below.refl _ _).alloc (Nat.le_refl _) _).alloc (by simp) _).alloc (by simp; omega) _) (Below.mono hb (by simp <;> omega))
  clear hb
  obtain ⟨p0, p1, p2, p3, p4, p5⟩ := id S3
  obtain ⟨q0, q1, q2, q3, q4, q5⟩ := id S4
  obtain ⟨r0, r1, r2, r3, r4, r5⟩ := id S6
  go_wp2_with fail
  clear p0 p1 p2 p3 p4 p5 q0 q1 q2 q3 q4 q5 r0 r1 r2 r3 r4 r5
  refine (right_any k2 n2 s2 _).mono ?_
  rw [h2]
  rintro e w2 ⟨rfl, hb⟩
  replace S3 := S3.later hb (by omega)
  replace S4 := S4.later hb (by omega)
  replace S6 := S6.later hb (by omega)
  replace hw := hw.trans (Below.mono hb (by omega))
  replace hz := Nat.le_trans hz (Below.size hb)
  clear hb
  obtain ⟨p0, p1, p2, p3, p4, p5⟩ := id S3
  obtain ⟨q0, q1, q2, q3, q4, q5⟩ := id S4
  obtain ⟨r0, r1, r2, r3, r4, r5⟩ := id S6
  go_wp2_with fail
  clear p0 p1 p2 p3 p4 p5 q0 q1 q2 q3 q4 q5 r0 r1 r2 r3 r4 r5
  refine (null_any _).mono ?_
  rintro e w3 ⟨rfl, hb⟩
  replace S3 := S3.later hb (by omega)
  replace S4 := S4.later hb (by omega)
  replace S6 := S6.later hb (by omega)
  replace hw := hw.trans (Below.mono hb (by omega))
  replace hz := Nat.le_trans hz (Below.size hb)
  clear hb
  obtain ⟨p0, p1, p2, p3, p4, p5⟩ := id S3
  obtain ⟨q0, q1, q2, q3, q4, q5⟩ := id S4
  obtain ⟨r0, r1, r2, r3, r4, r5⟩ := id S6
  go_wp2
  refine bodyPost_ret (v := .tuple #[.agg #[.int .u8 0, .int .i64 0, .string ⟨#[]⟩], .int .i64 3]) (by simp [results, Try.results37, go_sem, *]) rfl ⟨rfl, ?_⟩
  exact ((hw.setCell (by simp <;> omega) _).setCell (by simp <;> omega) _).setCell (by simp <;> omega) _

theorem join_null1 (k2 : Nat) (n2 : Int) (s2 : ByteArray) (w : World) (h2 : Vl.right ⟨k2, n2, s2⟩ = true) :
    Calls Try.prog 37 #[.agg #[.int .u8 0, .int .i64 0, .string ⟨#[]⟩], .agg #[.int .u8 k2, .int .i64 n2, .string s2]] w (RetV w (nullV, 0)) := by
  go_enter Try.func37, Try.ntmps37
  go_wp2_with fail
  refine (right_any 0 0 ⟨#[]⟩ _).mono ?_
  rw [right_n]
  rintro e w1 ⟨rfl, hb⟩
  obtain ⟨S3, S4, S6, hz⟩ := slots3 _ _ _ _ _ _ _ _ _ _ _ _ hb
  have hw : Below w.heap.size w w1 := Below.trans ((((Below.refl _ _).alloc (Nat.le_refl _) _).alloc (by simp) _).alloc (by simp; omega) _) (Below.mono hb (by simp <;> omega))
  clear hb
  obtain ⟨p0, p1, p2, p3, p4, p5⟩ := id S3
  obtain ⟨q0, q1, q2, q3, q4, q5⟩ := id S4
  obtain ⟨r0, r1, r2, r3, r4, r5⟩ := id S6
  go_wp2_with fail
  clear p0 p1 p2 p3 p4 p5 q0 q1 q2 q3 q4 q5 r0 r1 r2 r3 r4 r5
  refine (right_any k2 n2 s2 _).mono ?_
  rw [h2]
  rintro e w2 ⟨rfl, hb⟩
  replace S3 := S3.later hb (by omega)
  replace S4 := S4.later hb (by omega)
  replace S6 := S6.later hb (by omega)
  replace hw := hw.trans (Below.mono hb (by omega))
  replace hz := Nat.le_trans hz (Below.size hb)
  clear hb
  go_wp2_with fail
  have a0 := fun W (h : Later w2.drew W) => (S3.later (Later.undrew h) (by omega)).1
  have a1 := fun W (h : Later w2.drew W) => (S3.later (Later.undrew h) (by omega)).2.1
  have a2 := fun W (h : Later w2.drew W) => (S3.later (Later.undrew h) (by omega)).2.2.1
  refine wp_region_ord [(0, true), (1, false), (2, true), (3, true), (4, true), (5, false), (6, true), (7, true)] (by kernel_rfl) (by kernel_rfl) (by kernel_rfl) (by kernel_rfl) ?_
  repeat (first | (refine wpO_F (v := ?_) rfl (by rfl) (fun w' hL => ?_) ?_; rotate_left; (solve | (go_simp; with_reducible rfl) | go_simp); try simp only [Act.put, List.setIfInBounds_toArray, List.set_cons_zero, List.set_cons_succ]) | (refine wpO_G rfl (by rfl) ?_; try simp only [Act.put, List.setIfInBounds_toArray, List.set_cons_zero, List.set_cons_succ]))
  refine wpO_C rfl (by rfl) ?_
  go_simp
  refine (null_any _).mono ?_
  rintro e w5 ⟨rfl, hb⟩
  refine ⟨hb, ?_⟩
  try simp only [Act.put, List.setIfInBounds_toArray, List.set_cons_zero, List.set_cons_succ]
  replace S3 := S3.later (Later.undrew hb) (by omega)
  replace S4 := S4.later (Later.undrew hb) (by omega)
  replace S6 := S6.later (Later.undrew hb) (by omega)
  replace hw := hw.trans (Below.mono (Later.undrew hb) (by omega))
  replace hz := Nat.le_trans hz (Below.size (Later.undrew hb))
  clear hb
  clear a0 a1 a2
  repeat (first | (refine wpO_F (v := ?_) rfl (by rfl) (fun w' hL => ?_) ?_; rotate_left; (solve | (go_simp; with_reducible rfl) | go_simp); try simp only [Act.put, List.setIfInBounds_toArray, List.set_cons_zero, List.set_cons_succ]) | (refine wpO_G rfl (by rfl) ?_; try simp only [Act.put, List.setIfInBounds_toArray, List.set_cons_zero, List.set_cons_succ]))
  refine wpO_nil ?_
  go_wp2_with fail
  refine (null_any _).mono ?_
  rintro e w6 ⟨rfl, hb⟩
  replace S3 := S3.later hb (by omega)
  replace S4 := S4.later hb (by omega)
  replace S6 := S6.later hb (by omega)
  replace hw := hw.trans (Below.mono hb (by omega))
  replace hz := Nat.le_trans hz (Below.size hb)
  clear hb
  obtain ⟨p0, p1, p2, p3, p4, p5⟩ := id S3
  obtain ⟨q0, q1, q2, q3, q4, q5⟩ := id S4
  obtain ⟨r0, r1, r2, r3, r4, r5⟩ := id S6
  go_wp2
  refine bodyPost_ret (v := .tuple #[.agg #[.int .u8 0, .int .i64 0, .string ⟨#[]⟩], .int .i64 0]) (by simp [results, Try.results37, go_sem, *]) rfl ⟨rfl, ?_⟩
  exact ((hw.setCell (by simp <;> omega) _).setCell (by simp <;> omega) _).setCell (by simp <;> omega) _

theorem join_null2 (k1 : Nat) (n1 : Int) (s1 : ByteArray) (w : World) (h : Vl.right ⟨k1, n1, s1⟩ = true) (d1 : ((k1 : Int) == 0) = false) :
    Calls Try.prog 37 #[.agg #[.int .u8 k1, .int .i64 n1, .string s1], .agg #[.int .u8 0, .int .i64 0, .string ⟨#[]⟩]] w (RetV w (nullV, 0)) := by
  go_enter Try.func37, Try.ntmps37
  go_wp2_with fail
  refine (right_any k1 n1 s1 _).mono ?_
  rw [h]
  rintro e w1 ⟨rfl, hb⟩
  obtain ⟨S3, S4, S6, hz⟩ := slots3 _ _ _ _ _ _ _ _ _ _ _ _ hb
  have hw : Below w.heap.size w w1 := Below.trans ((((Below.refl _ _).alloc (Nat.le_refl _) _).alloc (by simp) _).alloc (by simp; omega) _) (Below.mono hb (by simp <;> omega))
  clear hb
  obtain ⟨p0, p1, p2, p3, p4, p5⟩ := id S3
  obtain ⟨q0, q1, q2, q3, q4, q5⟩ := id S4
  obtain ⟨r0, r1, r2, r3, r4, r5⟩ := id S6
  go_wp2_with fail
  clear p0 p1 p2 p3 p4 p5 q0 q1 q2 q3 q4 q5 r0 r1 r2 r3 r4 r5
  refine (right_any 0 0 ⟨#[]⟩ _).mono ?_
  rw [right_n]
  rintro e w2 ⟨rfl, hb⟩
  replace S3 := S3.later hb (by omega)
  replace S4 := S4.later hb (by omega)
  replace S6 := S6.later hb (by omega)
  replace hw := hw.trans (Below.mono hb (by omega))
  replace hz := Nat.le_trans hz (Below.size hb)
  clear hb
  go_wp2_with fail
  have a0 := fun W (h : Later w2.drew W) => (S3.later (Later.undrew h) (by omega)).1
  have a1 := fun W (h : Later w2.drew W) => (S3.later (Later.undrew h) (by omega)).2.1
  have a2 := fun W (h : Later w2.drew W) => (S3.later (Later.undrew h) (by omega)).2.2.1
  refine wp_region_ord [(0, true), (1, false), (2, true), (3, true), (4, true), (5, false), (6, true), (7, true)] (by kernel_rfl) (by kernel_rfl) (by kernel_rfl) (by kernel_rfl) ?_
  repeat (first | (refine wpO_F (v := ?_) rfl (by rfl) (fun w' hL => ?_) ?_; rotate_left; (solve | (go_simp; with_reducible rfl) | go_simp); try simp only [Act.put, List.setIfInBounds_toArray, List.set_cons_zero, List.set_cons_succ]) | (refine wpO_G rfl (by rfl) ?_; try simp only [Act.put, List.setIfInBounds_toArray, List.set_cons_zero, List.set_cons_succ]))
  refine wpO_C rfl (by rfl) ?_
  go_simp
  refine (null_any _).mono ?_
  rintro e w5 ⟨rfl, hb⟩
  refine ⟨hb, ?_⟩
  try simp only [Act.put, List.setIfInBounds_toArray, List.set_cons_zero, List.set_cons_succ]
  replace S3 := S3.later (Later.undrew hb) (by omega)
  replace S4 := S4.later (Later.undrew hb) (by omega)
  replace S6 := S6.later (Later.undrew hb) (by omega)
  replace hw := hw.trans (Below.mono (Later.undrew hb) (by omega))
  replace hz := Nat.le_trans hz (Below.size (Later.undrew hb))
  clear hb
  clear a0 a1 a2
  have b0 := fun W (h : Later w5 W) => (S4.later h (by omega)).1
  have b1 := fun W (h : Later w5 W) => (S4.later h (by omega)).2.1
  have b2 := fun W (h : Later w5 W) => (S4.later h (by omega)).2.2.1
  repeat (first | (refine wpO_F (v := ?_) rfl (by rfl) (fun w' hL => ?_) ?_; rotate_left; (solve | (go_simp; with_reducible rfl) | go_simp); try simp only [Act.put, List.setIfInBounds_toArray, List.set_cons_zero, List.set_cons_succ]) | (refine wpO_G rfl (by rfl) ?_; try simp only [Act.put, List.setIfInBounds_toArray, List.set_cons_zero, List.set_cons_succ]))
  refine wpO_C rfl (by rfl) ?_
  go_simp
  refine (null_any _).mono ?_
  rintro e w6 ⟨rfl, hb⟩
  refine ⟨hb, ?_⟩
  try simp only [Act.put, List.setIfInBounds_toArray, List.set_cons_zero, List.set_cons_succ]
  replace S3 := S3.later hb (by omega)
  replace S4 := S4.later hb (by omega)
  replace S6 := S6.later hb (by omega)
  replace hw := hw.trans (Below.mono hb (by omega))
  replace hz := Nat.le_trans hz (Below.size hb)
  clear hb
  clear b0 b1 b2
  repeat (first | (refine wpO_F (v := ?_) rfl (by rfl) (fun w' hL => ?_) ?_; rotate_left; (solve | (go_simp; with_reducible rfl) | go_simp); try simp only [Act.put, List.setIfInBounds_toArray, List.set_cons_zero, List.set_cons_succ]) | (refine wpO_G rfl (by rfl) ?_; try simp only [Act.put, List.setIfInBounds_toArray, List.set_cons_zero, List.set_cons_succ]))
  refine wpO_nil ?_
  go_wp2_with fail
  refine (null_any _).mono ?_
  rintro e w7 ⟨rfl, hb⟩
  replace S3 := S3.later hb (by omega)
  replace S4 := S4.later hb (by omega)
  replace S6 := S6.later hb (by omega)
  replace hw := hw.trans (Below.mono hb (by omega))
  replace hz := Nat.le_trans hz (Below.size hb)
  clear hb
  obtain ⟨p0, p1, p2, p3, p4, p5⟩ := id S3
  obtain ⟨q0, q1, q2, q3, q4, q5⟩ := id S4
  obtain ⟨r0, r1, r2, r3, r4, r5⟩ := id S6
  go_wp2
  refine bodyPost_ret (v := .tuple #[.agg #[.int .u8 0, .int .i64 0, .string ⟨#[]⟩], .int .i64 0]) (by simp [results, Try.results37, go_sem, *]) rfl ⟨rfl, ?_⟩
  exact ((hw.setCell (by simp <;> omega) _).setCell (by simp <;> omega) _).setCell (by simp <;> omega) _

theorem join_type (k1 k2 : Nat) (n1 n2 : Int) (s1 s2 : ByteArray) (w : World) (h : Vl.right ⟨k1, n1, s1⟩ = true) (h2 : Vl.right ⟨k2, n2, s2⟩ = true)
    (d1 : ((k1 : Int) == 0) = false) (d2 : ((k2 : Int) == 0) = false)
    (hk : ((k1 : Int) != (k2 : Int)) = true ∨ (((k1 : Int) != (k2 : Int)) = false ∧ ((k1 : Int) == 1) = true)) :
    Calls Try.prog 37 #[.agg #[.int .u8 k1, .int .i64 n1, .string s1], .agg #[.int .u8 k2, .int .i64 n2, .string s2]] w (RetV w (nullV, 20)) := by
  rcases hk with e1 | ⟨e1, e2⟩
  all_goals
    go_enter Try.func37, Try.ntmps37
    go_wp2_with fail
    refine (right_any k1 n1 s1 _).mono ?_
    rw [h]
    rintro e w1 ⟨rfl, hb⟩
    obtain ⟨S3, S4, S6, hz⟩ := slots3 _ _ _ _ _ _ _ _ _ _ _ _ hb
    have hw : Below w.heap.size w w1 := Below.trans ((((Below.refl _ _).alloc (Nat.le_refl _) _).alloc (by simp) _).alloc (by simp; omega) _) (Below.mono hb (by simp <;> omega))
    clear hb
    obtain ⟨p0, p1, p2, p3, p4, p5⟩ := id S3
    obtain ⟨q0, q1, q2, q3, q4, q5⟩ := id S4
    obtain ⟨r0, r1, r2, r3, r4, r5⟩ := id S6
    go_wp2_with fail
    clear p0 p1 p2 p3 p4 p5 q0 q1 q2 q3 q4 q5 r0 r1 r2 r3 r4 r5
    refine (right_any k2 n2 s2 _).mono ?_
    rw [h2]
    rintro e w2 ⟨rfl, hb⟩
    replace S3 := S3.later hb (by omega)
    replace S4 := S4.later hb (by omega)
    replace S6 := S6.later hb (by omega)
    replace hw := hw.trans (Below.mono hb (by omega))
    replace hz := Nat.le_trans hz (Below.size hb)
    clear hb
    go_wp2_with fail
    have a0 := fun W (h : Later w2.drew W) => (S3.later (Later.undrew h) (by omega)).1
    have a1 := fun W (h : Later w2.drew W) => (S3.later (Later.undrew h) (by omega)).2.1
    have a2 := fun W (h : Later w2.drew W) => (S3.later (Later.undrew h) (by omega)).2.2.1
    refine wp_region_ord [(0, true), (1, false), (2, true), (3, true), (4, true), (5, false), (6, true), (7, true)] (by kernel_rfl) (by kernel_rfl) (by kernel_rfl) (by kernel_rfl) ?_
    repeat (first | (refine wpO_F (v := ?_) rfl (by rfl) (fun w' hL => ?_) ?_; rotate_left; (solve | (go_simp; with_reducible rfl) | go_simp); try simp only [Act.put, List.setIfInBounds_toArray, List.set_cons_zero, List.set_cons_succ]) | (refine wpO_G rfl (by rfl) ?_; try simp only [Act.put, List.setIfInBounds_toArray, List.set_cons_zero, List.set_cons_succ]))
    refine wpO_C rfl (by rfl) ?_
    go_simp
    refine (null_any _).mono ?_
    rintro e w5 ⟨rfl, hb⟩
    refine ⟨hb, ?_⟩
    try simp only [Act.put, List.setIfInBounds_toArray, List.set_cons_zero, List.set_cons_succ]
    replace S3 := S3.later (Later.undrew hb) (by omega)
    replace S4 := S4.later (Later.undrew hb) (by omega)
    replace S6 := S6.later (Later.undrew hb) (by omega)
    replace hw := hw.trans (Below.mono (Later.undrew hb) (by omega))
    replace hz := Nat.le_trans hz (Below.size (Later.undrew hb))
    clear hb
    clear a0 a1 a2
    have b0 := fun W (h : Later w5 W) => (S4.later h (by omega)).1
    have b1 := fun W (h : Later w5 W) => (S4.later h (by omega)).2.1
    have b2 := fun W (h : Later w5 W) => (S4.later h (by omega)).2.2.1
    repeat (first | (refine wpO_F (v := ?_) rfl (by rfl) (fun w' hL => ?_) ?_; rotate_left; (solve | (go_simp; with_reducible rfl) | go_simp); try simp only [Act.put, List.setIfInBounds_toArray, List.set_cons_zero, List.set_cons_succ]) | (refine wpO_G rfl (by rfl) ?_; try simp only [Act.put, List.setIfInBounds_toArray, List.set_cons_zero, List.set_cons_succ]))
    refine wpO_C rfl (by rfl) ?_
    go_simp
    refine (null_any _).mono ?_
    rintro e w6 ⟨rfl, hb⟩
    refine ⟨hb, ?_⟩
    try simp only [Act.put, List.setIfInBounds_toArray, List.set_cons_zero, List.set_cons_succ]
    replace S3 := S3.later hb (by omega)
    replace S4 := S4.later hb (by omega)
    replace S6 := S6.later hb (by omega)
    replace hw := hw.trans (Below.mono hb (by omega))
    replace hz := Nat.le_trans hz (Below.size hb)
    clear hb
    clear b0 b1 b2
    repeat (first | (refine wpO_F (v := ?_) rfl (by rfl) (fun w' hL => ?_) ?_; rotate_left; (solve | (go_simp; with_reducible rfl) | go_simp); try simp only [Act.put, List.setIfInBounds_toArray, List.set_cons_zero, List.set_cons_succ]) | (refine wpO_G rfl (by rfl) ?_; try simp only [Act.put, List.setIfInBounds_toArray, List.set_cons_zero, List.set_cons_succ]))
    refine wpO_nil ?_
    obtain ⟨p0, p1, p2, p3, p4, p5⟩ := id S3
    obtain ⟨q0, q1, q2, q3, q4, q5⟩ := id S4
    obtain ⟨r0, r1, r2, r3, r4, r5⟩ := id S6
    go_wp2_with fail
    clear p0 p1 p2 p3 p4 p5 q0 q1 q2 q3 q4 q5 r0 r1 r2 r3 r4 r5
    refine (null_any _).mono ?_
    rintro e w7 ⟨rfl, hb⟩
    replace S3 := S3.later hb (by omega)
    replace S4 := S4.later hb (by omega)
    replace S6 := S6.later hb (by omega)
    replace hw := hw.trans (Below.mono hb (by omega))
    replace hz := Nat.le_trans hz (Below.size hb)
    clear hb
    obtain ⟨p0, p1, p2, p3, p4, p5⟩ := id S3
    obtain ⟨q0, q1, q2, q3, q4, q5⟩ := id S4
    obtain ⟨r0, r1, r2, r3, r4, r5⟩ := id S6
    go_wp2
    refine bodyPost_ret (v := .tuple #[.agg #[.int .u8 0, .int .i64 0, .string ⟨#[]⟩], .int .i64 20]) (by simp [results, Try.results37, go_sem, *]) rfl ⟨rfl, ?_⟩
    exact ((hw.setCell (by simp <;> omega) _).setCell (by simp <;> omega) _).setCell (by simp <;> omega) _

set_option maxRecDepth 100000 in
theorem join_good (k1 k2 : Nat) (n1 n2 : Int) (s1 s2 : ByteArray) (w : World) (h : Vl.right ⟨k1, n1, s1⟩ = true) (h2 : Vl.right ⟨k2, n2, s2⟩ = true)
    (d1 : ((k1 : Int) == 0) = false) (d2 : ((k2 : Int) == 0) = false) (e1 : ((k1 : Int) != (k2 : Int)) = false) (e2 : ((k1 : Int) == 1) = false) (hl : ¬ 9223372036854775807 < s1.size + s2.size) :
    Calls Try.prog 37 #[.agg #[.int .u8 k1, .int .i64 n1, .string s1], .agg #[.int .u8 k2, .int .i64 n2, .string s2]] w (RetV w (⟨k1, 0, s1 ++ s2⟩, 0)) := by
  have HL := Lib.hid hl
  clear hl
  go_enter Try.func37, Try.ntmps37
  go_wp2_with fail
  refine (right_any k1 n1 s1 _).mono ?_
  rw [h]
  rintro e w1 ⟨rfl, hb⟩
  obtain ⟨S3, S4, S6, hz⟩ := slots3 _ _ _ _ _ _ _ _ _ _ _ _ hb
  have hw : Below w.heap.size w w1 := Below.trans ((((Below.refl _ _).alloc (Nat.le_refl _) _).alloc (by simp) _).alloc (by simp; omega) _) (Below.mono hb (by simp <;> omega))
  clear hb
  obtain ⟨p0, p1, p2, p3, p4, p5⟩ := id S3
  obtain ⟨q0, q1, q2, q3, q4, q5⟩ := id S4
  obtain ⟨r0, r1, r2, r3, r4, r5⟩ := id S6
  go_wp2_with fail
  clear p0 p1 p2 p3 p4 p5 q0 q1 q2 q3 q4 q5 r0 r1 r2 r3 r4 r5
  refine (right_any k2 n2 s2 _).mono ?_
  rw [h2]
  rintro e w2 ⟨rfl, hb⟩
  replace S3 := S3.later hb (by omega)
  replace S4 := S4.later hb (by omega)
  replace S6 := S6.later hb (by omega)
  replace hw := hw.trans (Below.mono hb (by omega))
  replace hz := Nat.le_trans hz (Below.size hb)
  clear hb
  go_wp2_with fail
  have a0 := fun W (h : Later w2.drew W) => (S3.later (Later.undrew h) (by omega)).1
  have a1 := fun W (h : Later w2.drew W) => (S3.later (Later.undrew h) (by omega)).2.1
  have a2 := fun W (h : Later w2.drew W) => (S3.later (Later.undrew h) (by omega)).2.2.1
  refine wp_region_ord [(0, true), (1, false), (2, true), (3, true), (4, true), (5, false), (6, true), (7, true)] (by kernel_rfl) (by kernel_rfl) (by kernel_rfl) (by kernel_rfl) ?_
  repeat (first | (refine wpO_F (v := ?_) rfl (by rfl) (fun w' hL => ?_) ?_; rotate_left; (solve | (go_simp; with_reducible rfl) | go_simp); try simp only [Act.put, List.setIfInBounds_toArray, List.set_cons_zero, List.set_cons_succ]) | (refine wpO_G rfl (by rfl) ?_; try simp only [Act.put, List.setIfInBounds_toArray, List.set_cons_zero, List.set_cons_succ]))
  refine wpO_C rfl (by rfl) ?_
  go_simp
  refine (null_any _).mono ?_
  rintro e w5 ⟨rfl, hb⟩
  refine ⟨hb, ?_⟩
  try simp only [Act.put, List.setIfInBounds_toArray, List.set_cons_zero, List.set_cons_succ]
  replace S3 := S3.later (Later.undrew hb) (by omega)
  replace S4 := S4.later (Later.undrew hb) (by omega)
  replace S6 := S6.later (Later.undrew hb) (by omega)
  replace hw := hw.trans (Below.mono (Later.undrew hb) (by omega))
  replace hz := Nat.le_trans hz (Below.size (Later.undrew hb))
  clear hb
  clear a0 a1 a2
  have b0 := fun W (h : Later w5 W) => (S4.later h (by omega)).1
  have b1 := fun W (h : Later w5 W) => (S4.later h (by omega)).2.1
  have b2 := fun W (h : Later w5 W) => (S4.later h (by omega)).2.2.1
  repeat (first | (refine wpO_F (v := ?_) rfl (by rfl) (fun w' hL => ?_) ?_; rotate_left; (solve | (go_simp; with_reducible rfl) | go_simp); try simp only [Act.put, List.setIfInBounds_toArray, List.set_cons_zero, List.set_cons_succ]) | (refine wpO_G rfl (by rfl) ?_; try simp only [Act.put, List.setIfInBounds_toArray, List.set_cons_zero, List.set_cons_succ]))
  refine wpO_C rfl (by rfl) ?_
  go_simp
  refine (null_any _).mono ?_
  rintro e w6 ⟨rfl, hb⟩
  refine ⟨hb, ?_⟩
  try simp only [Act.put, List.setIfInBounds_toArray, List.set_cons_zero, List.set_cons_succ]
  replace S3 := S3.later hb (by omega)
  replace S4 := S4.later hb (by omega)
  replace S6 := S6.later hb (by omega)
  replace hw := hw.trans (Below.mono hb (by omega))
  replace hz := Nat.le_trans hz (Below.size hb)
  clear hb
  clear b0 b1 b2
  repeat (first | (refine wpO_F (v := ?_) rfl (by rfl) (fun w' hL => ?_) ?_; rotate_left; (solve | (go_simp; with_reducible rfl) | go_simp); try simp only [Act.put, List.setIfInBounds_toArray, List.set_cons_zero, List.set_cons_succ]) | (refine wpO_G rfl (by rfl) ?_; try simp only [Act.put, List.setIfInBounds_toArray, List.set_cons_zero, List.set_cons_succ]))
  refine wpO_nil ?_
  have hl := HL.out
  obtain ⟨p0, p1, p2, p3, p4, p5⟩ := id S3
  obtain ⟨q0, q1, q2, q3, q4, q5⟩ := id S4
  obtain ⟨r0, r1, r2, r3, r4, r5⟩ := id S6
  go_wp2
  refine bodyPost_ret (v := .tuple #[.agg #[.int .u8 k1, .int .i64 0, .string (s1 ++ s2)], .int .i64 0]) (by simp [results, Try.results37, go_sem, *]) rfl ⟨rfl, ?_⟩
  exact ((hw.setCell (by simp <;> omega) _).setCell (by simp <;> omega) _).setCell (by simp <;> omega) _

end Go.Proofs.Yteepnbdkpelbiaa
