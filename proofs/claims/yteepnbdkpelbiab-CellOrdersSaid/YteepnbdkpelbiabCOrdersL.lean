/- The law CellOrders. -/
import Derived.Test.YteepnbdkpelbiabCRefC
namespace Go.Proofs.Yteepnbdkpelbiab
open Go.RowKit

theorem rcompare_bad1 (k1 k2 : Nat) (n1 n2 : Int) (s1 s2 : ByteArray) (w : World) (h : Vl.right ⟨k1, n1, s1⟩ = false) :
    Calls Try.prog 11 #[.agg #[.int .u8 k1, .int .i64 n1, .string s1], .agg #[.int .u8 k2, .int .i64 n2, .string s2]] w (RetC w (0, false, 3)) := by
  go_enter Try.func11, Try.ntmps11
  go_wp2_with fail
  refine (rright_any k1 n1 s1 _).mono ?_
  rw [h]
  rintro e w1 ⟨rfl, hb⟩
  obtain ⟨S3, S4, hz⟩ := slots2 _ _ _ _ _ _ _ _ _ hb
  have hw : Below w.heap.size w w1 := Below.trans (((Below.refl _ _).alloc (Nat.le_refl _) _).alloc (by simp) _) (Below.mono hb (by simp <;> omega))
  clear hb
  go_wp2
  go_ret3
  exact ⟨rfl, hw⟩

theorem rcompare_bad2 (k1 k2 : Nat) (n1 n2 : Int) (s1 s2 : ByteArray) (w : World) (h : Vl.right ⟨k1, n1, s1⟩ = true) (h2 : Vl.right ⟨k2, n2, s2⟩ = false) :
    Calls Try.prog 11 #[.agg #[.int .u8 k1, .int .i64 n1, .string s1], .agg #[.int .u8 k2, .int .i64 n2, .string s2]] w (RetC w (0, false, 3)) := by
  go_enter Try.func11, Try.ntmps11
  go_wp2_with fail
  refine (rright_any k1 n1 s1 _).mono ?_
  rw [h]
  rintro e w1 ⟨rfl, hb⟩
  obtain ⟨S3, S4, hz⟩ := slots2 _ _ _ _ _ _ _ _ _ hb
  have hw : Below w.heap.size w w1 := Below.trans (((Below.refl _ _).alloc (Nat.le_refl _) _).alloc (by simp) _) (Below.mono hb (by simp <;> omega))
  clear hb
  obtain ⟨p0, p1, p2, p3, p4, p5⟩ := id S3
  obtain ⟨q0, q1, q2, q3, q4, q5⟩ := id S4
  go_wp2_with fail
  clear p0 p1 p2 p3 p4 p5 q0 q1 q2 q3 q4 q5
  refine (rright_any k2 n2 s2 _).mono ?_
  rw [h2]
  rintro e w2 ⟨rfl, hb⟩
  replace S3 := S3.later hb (by omega)
  replace S4 := S4.later hb (by omega)
  replace hw := hw.trans (Below.mono hb (by omega))
  replace hz := Nat.le_trans hz (Below.size hb)
  clear hb
  go_wp2
  go_ret3
  exact ⟨rfl, hw⟩

theorem rcompare_null (k1 k2 : Nat) (n1 n2 : Int) (s1 s2 : ByteArray) (w : World) (h : Vl.right ⟨k1, n1, s1⟩ = true) (h2 : Vl.right ⟨k2, n2, s2⟩ = true)
    (hk : ((k1 : Int) == 0) = true ∨ (((k1 : Int) == 0) = false ∧ ((k2 : Int) == 0) = true)) :
    Calls Try.prog 11 #[.agg #[.int .u8 k1, .int .i64 n1, .string s1], .agg #[.int .u8 k2, .int .i64 n2, .string s2]] w (RetC w (0, false, 0)) := by
  rcases hk with e1 | ⟨e1, e2⟩
  all_goals
    go_enter Try.func11, Try.ntmps11
    go_wp2_with fail
    refine (rright_any k1 n1 s1 _).mono ?_
    rw [h]
    rintro e w1 ⟨rfl, hb⟩
    obtain ⟨S3, S4, hz⟩ := slots2 _ _ _ _ _ _ _ _ _ hb
    have hw : Below w.heap.size w w1 := Below.trans (((Below.refl _ _).alloc (Nat.le_refl _) _).alloc (by simp) _) (Below.mono hb (by simp <;> omega))
    clear hb
    obtain ⟨p0, p1, p2, p3, p4, p5⟩ := id S3
    obtain ⟨q0, q1, q2, q3, q4, q5⟩ := id S4
    go_wp2_with fail
    clear p0 p1 p2 p3 p4 p5 q0 q1 q2 q3 q4 q5
    refine (rright_any k2 n2 s2 _).mono ?_
    rw [h2]
    rintro e w2 ⟨rfl, hb⟩
    replace S3 := S3.later hb (by omega)
    replace S4 := S4.later hb (by omega)
    replace hw := hw.trans (Below.mono hb (by omega))
    replace hz := Nat.le_trans hz (Below.size hb)
    clear hb
    obtain ⟨p0, p1, p2, p3, p4, p5⟩ := id S3
    obtain ⟨q0, q1, q2, q3, q4, q5⟩ := id S4
    go_wp2
    go_ret3
    exact ⟨rfl, hw⟩

theorem rcompare_type (k1 k2 : Nat) (n1 n2 : Int) (s1 s2 : ByteArray) (w : World) (h : Vl.right ⟨k1, n1, s1⟩ = true) (h2 : Vl.right ⟨k2, n2, s2⟩ = true)
    (d1 : ((k1 : Int) == 0) = false) (d2 : ((k2 : Int) == 0) = false) (e1 : ((k1 : Int) != (k2 : Int)) = true) :
    Calls Try.prog 11 #[.agg #[.int .u8 k1, .int .i64 n1, .string s1], .agg #[.int .u8 k2, .int .i64 n2, .string s2]] w (RetC w (0, false, 20)) := by
  go_enter Try.func11, Try.ntmps11
  go_wp2_with fail
  refine (rright_any k1 n1 s1 _).mono ?_
  rw [h]
  rintro e w1 ⟨rfl, hb⟩
  obtain ⟨S3, S4, hz⟩ := slots2 _ _ _ _ _ _ _ _ _ hb
  have hw : Below w.heap.size w w1 := Below.trans (((Below.refl _ _).alloc (Nat.le_refl _) _).alloc (by simp) _) (Below.mono hb (by simp <;> omega))
  clear hb
  obtain ⟨p0, p1, p2, p3, p4, p5⟩ := id S3
  obtain ⟨q0, q1, q2, q3, q4, q5⟩ := id S4
  go_wp2_with fail
  clear p0 p1 p2 p3 p4 p5 q0 q1 q2 q3 q4 q5
  refine (rright_any k2 n2 s2 _).mono ?_
  rw [h2]
  rintro e w2 ⟨rfl, hb⟩
  replace S3 := S3.later hb (by omega)
  replace S4 := S4.later hb (by omega)
  replace hw := hw.trans (Below.mono hb (by omega))
  replace hz := Nat.le_trans hz (Below.size hb)
  clear hb
  obtain ⟨p0, p1, p2, p3, p4, p5⟩ := id S3
  obtain ⟨q0, q1, q2, q3, q4, q5⟩ := id S4
  go_wp2
  go_ret3
  exact ⟨rfl, hw⟩

theorem rcompare_good (k1 k2 : Nat) (n1 n2 : Int) (s1 s2 : ByteArray) (w : World) (v : Int) (h : Vl.right ⟨k1, n1, s1⟩ = true) (h2 : Vl.right ⟨k2, n2, s2⟩ = true)
    (d1 : ((k1 : Int) == 0) = false) (d2 : ((k2 : Int) == 0) = false) (e1 : ((k1 : Int) != (k2 : Int)) = false)
    (HO : Hid (∀ W, Calls Try.prog 15 #[.agg #[.int .u8 k1, .int .i64 n1, .string s1], .agg #[.int .u8 k2, .int .i64 n2, .string s2]] W (RetI W v))) :
    Calls Try.prog 11 #[.agg #[.int .u8 k1, .int .i64 n1, .string s1], .agg #[.int .u8 k2, .int .i64 n2, .string s2]] w (RetC w (v, true, 0)) := by
  go_enter Try.func11, Try.ntmps11
  go_wp2_with fail
  refine (rright_any k1 n1 s1 _).mono ?_
  rw [h]
  rintro e w1 ⟨rfl, hb⟩
  obtain ⟨S3, S4, hz⟩ := slots2 _ _ _ _ _ _ _ _ _ hb
  have hw : Below w.heap.size w w1 := Below.trans (((Below.refl _ _).alloc (Nat.le_refl _) _).alloc (by simp) _) (Below.mono hb (by simp <;> omega))
  clear hb
  obtain ⟨p0, p1, p2, p3, p4, p5⟩ := id S3
  obtain ⟨q0, q1, q2, q3, q4, q5⟩ := id S4
  go_wp2_with fail
  clear p0 p1 p2 p3 p4 p5 q0 q1 q2 q3 q4 q5
  refine (rright_any k2 n2 s2 _).mono ?_
  rw [h2]
  rintro e w2 ⟨rfl, hb⟩
  replace S3 := S3.later hb (by omega)
  replace S4 := S4.later hb (by omega)
  replace hw := hw.trans (Below.mono hb (by omega))
  replace hz := Nat.le_trans hz (Below.size hb)
  clear hb
  obtain ⟨p0, p1, p2, p3, p4, p5⟩ := id S3
  obtain ⟨q0, q1, q2, q3, q4, q5⟩ := id S4
  go_wp2_with fail
  clear p0 p1 p2 p3 p4 p5 q0 q1 q2 q3 q4 q5
  refine (HO.out _).mono ?_
  rintro e w3 ⟨rfl, hb⟩
  replace S3 := S3.later hb (by omega)
  replace S4 := S4.later hb (by omega)
  replace hw := hw.trans (Below.mono hb (by omega))
  replace hz := Nat.le_trans hz (Below.size hb)
  clear hb
  go_wp2
  go_ret3
  exact ⟨rfl, hw⟩

theorem kq0b {k : Nat} (h : ¬ k = 0) : ((k : Int) == 0) = false := by simp [h]

theorem rCompare_any (a b : Vl) (w : World) :
    Calls Try.prog 11 #[.agg #[.int .u8 a.k, .int .i64 a.n, .string a.s], .agg #[.int .u8 b.k, .int .i64 b.n, .string b.s]] w (RetC w (compareV a b)) := by
  unfold compareV
  by_cases h1 : a.right = true
  · by_cases h2 : b.right = true
    · rw [if_neg (by simp [h1, h2])]
      by_cases k1 : a.k = 0
      · rw [if_pos (.inl k1)]
        exact rcompare_null _ _ _ _ _ _ w h1 h2 (.inl (by rw [k1]; rfl))
      · by_cases k2 : b.k = 0
        · rw [if_pos (.inr k2)]
          exact rcompare_null _ _ _ _ _ _ w h1 h2 (.inr ⟨kq0b k1, by rw [k2]; rfl⟩)
        · rw [if_neg (by simp [k1, k2])]
          by_cases e1 : a.k = b.k
          · rw [if_neg (by simp [e1])]
            exact rcompare_good _ _ _ _ _ _ w _ h1 h2 (kq0b k1) (kq0b k2) (by simp [e1]) (fun W => rOrder_any a b W)
          · rw [if_pos e1]
            exact rcompare_type _ _ _ _ _ _ w h1 h2 (kq0b k1) (kq0b k2) (by
              have : ¬ (a.k : Int) = (b.k : Int) := by omega
              simp [this])
    · rw [if_pos (.inr (by simpa using h2))]
      exact rcompare_bad2 _ _ _ _ _ _ w h1 (by simpa using h2)
  · rw [if_pos (.inl (by simpa using h1))]
    exact rcompare_bad1 _ _ _ _ _ _ w (by simpa using h1)

theorem orders_great (k1 k2 : Nat) (n1 n2 : Int) (s1 s2 : ByteArray) (w : World) (g1 : (decide (1000 < s1.size) || decide (1000 < s2.size)) = true) :
    Calls Try.prog 3 #[.agg #[.int .u8 k1, .int .i64 n1, .string s1], .agg #[.int .u8 k2, .int .i64 n2, .string s2]] w fun e w' => e = .returned (.bool true) ∧ Below w.heap.size w w' := by
  go_enter Try.func3, Try.ntmps3
  go_wp2_with fail
  refine (great_any k1 k2 n1 n2 s1 s2 _).mono ?_
  rw [g1]
  rintro e w1 ⟨rfl, hb⟩
  obtain ⟨S3, S4, hz⟩ := slots2 _ _ _ _ _ _ _ _ _ hb
  have hw : Below w.heap.size w w1 := Below.trans (((Below.refl _ _).alloc (Nat.le_refl _) _).alloc (by simp) _) (Below.mono hb (by simp <;> omega))
  clear hb
  go_wp2_with fail
  refine (alive2_any _).mono ?_
  rintro e w9 ⟨rfl, hb⟩
  go_wp2
  go_ret
  exact ⟨rfl, hw.trans (Below.mono hb (by omega))⟩

set_option maxHeartbeats 8000000 in
theorem orders_main (k1 k2 : Nat) (n1 n2 : Int) (s1 s2 : ByteArray) (w : World) (r kn : Bool) (v N E : Int) (g1 : (decide (1000 < s1.size) || decide (1000 < s2.size)) = false) (hr : Vl.right ⟨k1, n1, s1⟩ = r)
    (HC : Hid (∀ W, Calls Try.prog 10 #[.agg #[.int .u8 k1, .int .i64 n1, .string s1], .agg #[.int .u8 k2, .int .i64 n2, .string s2]] W (RetC W (N, kn, E))))
    (HD : Hid (∀ W, Calls Try.prog 11 #[.agg #[.int .u8 k1, .int .i64 n1, .string s1], .agg #[.int .u8 k2, .int .i64 n2, .string s2]] W (RetC W (N, kn, E))))
    (HO : Hid (∀ W, Calls Try.prog 14 #[.agg #[.int .u8 k1, .int .i64 n1, .string s1], .agg #[.int .u8 k2, .int .i64 n2, .string s2]] W (RetI W v)))
    (HP : Hid (∀ W, Calls Try.prog 15 #[.agg #[.int .u8 k1, .int .i64 n1, .string s1], .agg #[.int .u8 k2, .int .i64 n2, .string s2]] W (RetI W v))) :
    Calls Try.prog 3 #[.agg #[.int .u8 k1, .int .i64 n1, .string s1], .agg #[.int .u8 k2, .int .i64 n2, .string s2]] w fun e w' => e = .returned (.bool true) ∧ Below w.heap.size w w' := by
  go_enter Try.func3, Try.ntmps3
  go_wp2_with fail
  refine (great_any k1 k2 n1 n2 s1 s2 _).mono ?_
  rw [g1]
  rintro e w1 ⟨rfl, hb⟩
  obtain ⟨S3, S4, hz⟩ := slots2 _ _ _ _ _ _ _ _ _ hb
  have hw : Below w.heap.size w w1 := Below.trans (((Below.refl _ _).alloc (Nat.le_refl _) _).alloc (by simp) _) (Below.mono hb (by simp <;> omega))
  clear hb
  obtain ⟨p0, p1, p2, p3, p4, p5⟩ := id S3
  obtain ⟨q0, q1, q2, q3, q4, q5⟩ := id S4
  go_wp2_with fail
  clear p0 p1 p2 p3 p4 p5 q0 q1 q2 q3 q4 q5
  refine (HC.out _).mono ?_
  rintro e w2 ⟨rfl, hb⟩
  replace S3 := S3.later hb (by omega)
  replace S4 := S4.later hb (by omega)
  replace hw := hw.trans (Below.mono hb (by omega))
  replace hz := Nat.le_trans hz (Below.size hb)
  clear hb
  obtain ⟨p0, p1, p2, p3, p4, p5⟩ := id S3
  obtain ⟨q0, q1, q2, q3, q4, q5⟩ := id S4
  go_wp2_with fail
  clear p0 p1 p2 p3 p4 p5 q0 q1 q2 q3 q4 q5
  refine (HD.out _).mono ?_
  rintro e w3 ⟨rfl, hb⟩
  replace S3 := S3.later hb (by omega)
  replace S4 := S4.later hb (by omega)
  replace hw := hw.trans (Below.mono hb (by omega))
  replace hz := Nat.le_trans hz (Below.size hb)
  clear hb
  clear HC HD
  go_wp2_with fail
  have a0 := fun W (h : Later w3.drew W) => (S3.on (Later.undrew h)).1
  have a1 := fun W (h : Later w3.drew W) => (S3.on (Later.undrew h)).2.1
  have a2 := fun W (h : Later w3.drew W) => (S3.on (Later.undrew h)).2.2.1
  have b0 := fun W (h : Later w3.drew W) => (S4.on (Later.undrew h)).1
  have b1 := fun W (h : Later w3.drew W) => (S4.on (Later.undrew h)).2.1
  have b2 := fun W (h : Later w3.drew W) => (S4.on (Later.undrew h)).2.2.1
  refine wp_region_ord [(0, false), (1, true), (2, true), (4, true), (3, false), (5, false), (6, true), (7, true), (8, true), (9, true), (10, true), (11, true), (12, true), (13, true), (14, true), (15, true), (16, true), (17, true), (18, true), (19, true), (20, true), (21, true), (22, true), (23, true), (24, true), (25, true), (27, true), (28, true), (26, false), (29, false), (30, true), (31, true), (32, true), (33, false), (34, false), (35, true), (36, true), (37, true), (38, false), (39, false), (40, true), (41, true), (42, true)] (by kernel_rfl) (by kernel_rfl) (by kernel_rfl) (by kernel_rfl) ?_
  repeat (first | (refine wpO_F (v := ?_) rfl (by rfl) (fun w' hL => ?_) ?_; rotate_left; (solve | (go_simp; with_reducible rfl) | go_simp); try simp only [Act.put, List.setIfInBounds_toArray, List.set_cons_zero, List.set_cons_succ]) | (refine wpO_G rfl (by rfl) ?_; try simp only [Act.put, List.setIfInBounds_toArray, List.set_cons_zero, List.set_cons_succ]))
  refine wpO_C rfl (by rfl) ?_
  go_simp
  refine (alive2_any _).mono ?_
  rintro e w4 ⟨rfl, hb⟩
  refine ⟨hb, ?_⟩
  try simp only [Act.put, List.setIfInBounds_toArray, List.set_cons_zero, List.set_cons_succ]
  replace S3 := S3.later (Later.undrew hb) (by omega)
  replace S4 := S4.later (Later.undrew hb) (by omega)
  replace hw := hw.trans (Below.mono (Later.undrew hb) (by omega))
  replace hz := Nat.le_trans hz (Below.size (Later.undrew hb))
  clear hb
  clear a0 a1 a2 b0 b1 b2
  have a0 := fun W (h : Later w4 W) => (S3.on h).1
  have a1 := fun W (h : Later w4 W) => (S3.on h).2.1
  have a2 := fun W (h : Later w4 W) => (S3.on h).2.2.1
  have b0 := fun W (h : Later w4 W) => (S4.on h).1
  have b1 := fun W (h : Later w4 W) => (S4.on h).2.1
  have b2 := fun W (h : Later w4 W) => (S4.on h).2.2.1
  repeat (first | (refine wpO_F (v := ?_) rfl (by rfl) (fun w' hL => ?_) ?_; rotate_left; (solve | (go_simp; with_reducible rfl) | go_simp); try simp only [Act.put, List.setIfInBounds_toArray, List.set_cons_zero, List.set_cons_succ]) | (refine wpO_G rfl (by rfl) ?_; try simp only [Act.put, List.setIfInBounds_toArray, List.set_cons_zero, List.set_cons_succ]))
  refine wpO_C rfl (by rfl) ?_
  go_simp
  refine (right_any k1 n1 s1 _).mono ?_
  rw [hr]
  rintro e w5 ⟨rfl, hb⟩
  refine ⟨hb, ?_⟩
  try simp only [Act.put, List.setIfInBounds_toArray, List.set_cons_zero, List.set_cons_succ]
  replace S3 := S3.later hb (by omega)
  replace S4 := S4.later hb (by omega)
  replace hw := hw.trans (Below.mono hb (by omega))
  replace hz := Nat.le_trans hz (Below.size hb)
  clear hb
  clear a0 a1 a2 b0 b1 b2
  have a0 := fun W (h : Later w5 W) => (S3.on h).1
  have a1 := fun W (h : Later w5 W) => (S3.on h).2.1
  have a2 := fun W (h : Later w5 W) => (S3.on h).2.2.1
  have b0 := fun W (h : Later w5 W) => (S4.on h).1
  have b1 := fun W (h : Later w5 W) => (S4.on h).2.1
  have b2 := fun W (h : Later w5 W) => (S4.on h).2.2.1
  repeat (first | (refine wpO_F (v := ?_) rfl (by rfl) (fun w' hL => ?_) ?_; rotate_left; (solve | (go_simp; with_reducible rfl) | go_simp); try simp only [Act.put, List.setIfInBounds_toArray, List.set_cons_zero, List.set_cons_succ]) | (refine wpO_G rfl (by rfl) ?_; try simp only [Act.put, List.setIfInBounds_toArray, List.set_cons_zero, List.set_cons_succ]))
  refine wpO_C rfl (by rfl) ?_
  go_simp
  refine (rright_any k1 n1 s1 _).mono ?_
  rw [hr]
  rintro e w6 ⟨rfl, hb⟩
  refine ⟨hb, ?_⟩
  try simp only [Act.put, List.setIfInBounds_toArray, List.set_cons_zero, List.set_cons_succ]
  replace S3 := S3.later hb (by omega)
  replace S4 := S4.later hb (by omega)
  replace hw := hw.trans (Below.mono hb (by omega))
  replace hz := Nat.le_trans hz (Below.size hb)
  clear hb
  clear a0 a1 a2 b0 b1 b2
  have a0 := fun W (h : Later w6 W) => (S3.on h).1
  have a1 := fun W (h : Later w6 W) => (S3.on h).2.1
  have a2 := fun W (h : Later w6 W) => (S3.on h).2.2.1
  have b0 := fun W (h : Later w6 W) => (S4.on h).1
  have b1 := fun W (h : Later w6 W) => (S4.on h).2.1
  have b2 := fun W (h : Later w6 W) => (S4.on h).2.2.1
  repeat (first | (refine wpO_F (v := ?_) rfl (by rfl) (fun w' hL => ?_) ?_; rotate_left; (solve | (go_simp; with_reducible rfl) | go_simp); try simp only [Act.put, List.setIfInBounds_toArray, List.set_cons_zero, List.set_cons_succ]) | (refine wpO_G rfl (by rfl) ?_; try simp only [Act.put, List.setIfInBounds_toArray, List.set_cons_zero, List.set_cons_succ]))
  refine wpO_C rfl (by rfl) ?_
  go_simp
  refine (HO.out _).mono ?_
  rintro e w7 ⟨rfl, hb⟩
  refine ⟨hb, ?_⟩
  try simp only [Act.put, List.setIfInBounds_toArray, List.set_cons_zero, List.set_cons_succ]
  replace S3 := S3.later hb (by omega)
  replace S4 := S4.later hb (by omega)
  replace hw := hw.trans (Below.mono hb (by omega))
  replace hz := Nat.le_trans hz (Below.size hb)
  clear hb
  clear a0 a1 a2 b0 b1 b2
  have a0 := fun W (h : Later w7 W) => (S3.on h).1
  have a1 := fun W (h : Later w7 W) => (S3.on h).2.1
  have a2 := fun W (h : Later w7 W) => (S3.on h).2.2.1
  have b0 := fun W (h : Later w7 W) => (S4.on h).1
  have b1 := fun W (h : Later w7 W) => (S4.on h).2.1
  have b2 := fun W (h : Later w7 W) => (S4.on h).2.2.1
  repeat (first | (refine wpO_F (v := ?_) rfl (by rfl) (fun w' hL => ?_) ?_; rotate_left; (solve | (go_simp; with_reducible rfl) | go_simp); try simp only [Act.put, List.setIfInBounds_toArray, List.set_cons_zero, List.set_cons_succ]) | (refine wpO_G rfl (by rfl) ?_; try simp only [Act.put, List.setIfInBounds_toArray, List.set_cons_zero, List.set_cons_succ]))
  refine wpO_C rfl (by rfl) ?_
  go_simp
  refine (HP.out _).mono ?_
  rintro e w8 ⟨rfl, hb⟩
  refine ⟨hb, ?_⟩
  try simp only [Act.put, List.setIfInBounds_toArray, List.set_cons_zero, List.set_cons_succ]
  replace S3 := S3.later hb (by omega)
  replace S4 := S4.later hb (by omega)
  replace hw := hw.trans (Below.mono hb (by omega))
  replace hz := Nat.le_trans hz (Below.size hb)
  clear hb
  clear a0 a1 a2 b0 b1 b2
  repeat (first | (refine wpO_F (v := ?_) rfl (by rfl) (fun w' hL => ?_) ?_; rotate_left; (solve | (go_simp; with_reducible rfl) | go_simp); try simp only [Act.put, List.setIfInBounds_toArray, List.set_cons_zero, List.set_cons_succ]) | (refine wpO_G rfl (by rfl) ?_; try simp only [Act.put, List.setIfInBounds_toArray, List.set_cons_zero, List.set_cons_succ]))
  refine wpO_C rfl (by rfl) ?_
  go_simp
  refine (BoolT _).mono ?_
  rintro e w9 ⟨rfl, hb⟩
  refine ⟨hb, ?_⟩
  try simp only [Act.put, List.setIfInBounds_toArray, List.set_cons_zero, List.set_cons_succ]
  replace S3 := S3.later hb (by omega)
  replace S4 := S4.later hb (by omega)
  replace hw := hw.trans (Below.mono hb (by omega))
  replace hz := Nat.le_trans hz (Below.size hb)
  clear hb
  repeat (first | (refine wpO_F (v := ?_) rfl (by rfl) (fun w' hL => ?_) ?_; rotate_left; (solve | (go_simp; with_reducible rfl) | go_simp); try simp only [Act.put, List.setIfInBounds_toArray, List.set_cons_zero, List.set_cons_succ]) | (refine wpO_G rfl (by rfl) ?_; try simp only [Act.put, List.setIfInBounds_toArray, List.set_cons_zero, List.set_cons_succ]))
  refine wpO_C rfl (by rfl) ?_
  go_simp
  refine (rnumber_any 1 _).mono ?_
  rintro e w10 ⟨rfl, hb⟩
  refine ⟨hb, ?_⟩
  try simp only [Act.put, List.setIfInBounds_toArray, List.set_cons_zero, List.set_cons_succ]
  replace S3 := S3.later hb (by omega)
  replace S4 := S4.later hb (by omega)
  replace hw := hw.trans (Below.mono hb (by omega))
  replace hz := Nat.le_trans hz (Below.size hb)
  clear hb
  repeat (first | (refine wpO_F (v := ?_) rfl (by rfl) (fun w' hL => ?_) ?_; rotate_left; (solve | (go_simp; with_reducible rfl) | go_simp); try simp only [Act.put, List.setIfInBounds_toArray, List.set_cons_zero, List.set_cons_succ]) | (refine wpO_G rfl (by rfl) ?_; try simp only [Act.put, List.setIfInBounds_toArray, List.set_cons_zero, List.set_cons_succ]))
  refine wpO_C rfl (by rfl) ?_
  go_simp
  refine (BoolF _).mono ?_
  rintro e w11 ⟨rfl, hb⟩
  refine ⟨hb, ?_⟩
  try simp only [Act.put, List.setIfInBounds_toArray, List.set_cons_zero, List.set_cons_succ]
  replace S3 := S3.later hb (by omega)
  replace S4 := S4.later hb (by omega)
  replace hw := hw.trans (Below.mono hb (by omega))
  replace hz := Nat.le_trans hz (Below.size hb)
  clear hb
  repeat (first | (refine wpO_F (v := ?_) rfl (by rfl) (fun w' hL => ?_) ?_; rotate_left; (solve | (go_simp; with_reducible rfl) | go_simp); try simp only [Act.put, List.setIfInBounds_toArray, List.set_cons_zero, List.set_cons_succ]) | (refine wpO_G rfl (by rfl) ?_; try simp only [Act.put, List.setIfInBounds_toArray, List.set_cons_zero, List.set_cons_succ]))
  refine wpO_C rfl (by rfl) ?_
  go_simp
  refine (rnumber_any 0 _).mono ?_
  rintro e w12 ⟨rfl, hb⟩
  refine ⟨hb, ?_⟩
  try simp only [Act.put, List.setIfInBounds_toArray, List.set_cons_zero, List.set_cons_succ]
  replace S3 := S3.later hb (by omega)
  replace S4 := S4.later hb (by omega)
  replace hw := hw.trans (Below.mono hb (by omega))
  replace hz := Nat.le_trans hz (Below.size hb)
  clear hb
  repeat (first | (refine wpO_F (v := ?_) rfl (by rfl) (fun w' hL => ?_) ?_; rotate_left; (solve | (go_simp; with_reducible rfl) | go_simp); try simp only [Act.put, List.setIfInBounds_toArray, List.set_cons_zero, List.set_cons_succ]) | (refine wpO_G rfl (by rfl) ?_; try simp only [Act.put, List.setIfInBounds_toArray, List.set_cons_zero, List.set_cons_succ]))
  refine wpO_nil ?_
  go_wp2
  go_ret
  exact ⟨rfl, hw⟩

theorem Orders_any (a b : Vl) (w : World) : Calls Try.prog 3 #[.agg #[.int .u8 a.k, .int .i64 a.n, .string a.s], .agg #[.int .u8 b.k, .int .i64 b.n, .string b.s]] w fun e w' => e = .returned (.bool true) ∧ Below w.heap.size w w' := by
  cases g1 : (decide (1000 < a.s.size) || decide (1000 < b.s.size)) with
  | true => exact orders_great _ _ _ _ _ _ w g1
  | false => exact orders_main a.k b.k a.n b.n a.s b.s w _ (compareV a b).2.1 (orderV a b) (compareV a b).1 (compareV a b).2.2 g1 rfl (fun W => Compare_any a b W) (fun W => rCompare_any a b W) (fun W => Order_any a b W) (fun W => rOrder_any a b W)

end Go.Proofs.Yteepnbdkpelbiab
