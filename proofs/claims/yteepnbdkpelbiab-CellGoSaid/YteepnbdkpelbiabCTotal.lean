/- The walk of the law CellTotal. -/
import Derived.Test.YteepnbdkpelbiabCAlive
import Derived.Test.YteepnbdkpelbiabCTotM
namespace Go.Proofs.Yteepnbdkpelbiab
open Go.RowKit

theorem great_any (k1 k2 : Nat) (n1 n2 : Int) (s1 s2 : ByteArray) (w : World) : Calls Try.prog 8 #[.agg #[.int .u8 k1, .int .i64 n1, .string s1], .agg #[.int .u8 k2, .int .i64 n2, .string s2]] w fun e w' => e = .returned (.bool (decide (1000 < s1.size) || decide (1000 < s2.size))) ∧ Below w.heap.size w w' := by
  have hb : Below w.heap.size w ((w.alloc (.cells #[.int .u8 k1, .int .i64 n1, .string s1] 23)).alloc (.cells #[.int .u8 k2, .int .i64 n2, .string s2] 23)) := ((Below.refl _ _).alloc (Nat.le_refl _) _).alloc (by simp) _
  by_cases h1 : 1000 < s1.size
  · have HR : Hid ((decide (1000 < s1.size) || decide (1000 < s2.size)) = true) := by simp [Hid, h1]
    go_enter Try.func8, Try.ntmps8
    go_wp2
    go_ret
    refine ⟨?_, hb⟩
    simp [h1]
  · have HR : Hid ((decide (1000 < s1.size) || decide (1000 < s2.size)) = decide (1000 < s2.size)) := by simp [Hid, h1]
    have hq : decide ((1000 : Int) < (s1.size : Int)) = false := by simp; omega
    by_cases h2 : 1000 < s2.size
    · have HR2 : Hid (decide (1000 < s2.size) = true) := by simp [Hid, h2]
      go_enter Try.func8, Try.ntmps8
      go_wp2
      go_ret
      refine ⟨?_, hb⟩
      simp [h1, h2]
      try omega
    · have HR2 : Hid (decide (1000 < s2.size) = false) := by simp [Hid, h2]
      have hq2 : decide ((1000 : Int) < (s2.size : Int)) = false := by simp; omega
      go_enter Try.func8, Try.ntmps8
      go_wp2
      go_ret
      refine ⟨?_, hb⟩
      simp [h1, h2]
      try omega

theorem total_out1 (k1 k2 k3 : Nat) (n1 n2 n3 : Int) (s1 s2 s3 : ByteArray) (w : World) (g1 : (decide (1000 < s1.size) || decide (1000 < s2.size)) = true) :
    Calls Try.prog 5 #[.agg #[.int .u8 k1, .int .i64 n1, .string s1], .agg #[.int .u8 k2, .int .i64 n2, .string s2], .agg #[.int .u8 k3, .int .i64 n3, .string s3]] w fun e w' => e = .returned (.bool true) ∧ Below w.heap.size w w' := by
  go_enter Try.func5, Try.ntmps5
  go_wp2_with fail
  refine (great_any k1 k2 n1 n2 s1 s2 _).mono ?_
  rw [g1]
  rintro e w1 ⟨rfl, hb⟩
  obtain ⟨S3, S4, S6, hz⟩ := slots3 _ _ _ _ _ _ _ _ _ _ _ _ hb
  have hw : Below w.heap.size w w1 := Below.trans ((((Below.refl _ _).alloc (Nat.le_refl _) _).alloc (by simp) _).alloc (by simp; omega) _) (Below.mono hb (by simp <;> omega))
  clear hb
  go_wp2_with fail
  refine (alive2_any _).mono ?_
  rintro e w9 ⟨rfl, hb⟩
  go_wp2
  go_ret
  exact ⟨rfl, hw.trans (Below.mono hb (by omega))⟩

theorem total_out2 (k1 k2 k3 : Nat) (n1 n2 n3 : Int) (s1 s2 s3 : ByteArray) (w : World) (g1 : (decide (1000 < s1.size) || decide (1000 < s2.size)) = false) (g2 : (decide (1000 < s3.size) || decide (1000 < s3.size)) = true) :
    Calls Try.prog 5 #[.agg #[.int .u8 k1, .int .i64 n1, .string s1], .agg #[.int .u8 k2, .int .i64 n2, .string s2], .agg #[.int .u8 k3, .int .i64 n3, .string s3]] w fun e w' => e = .returned (.bool true) ∧ Below w.heap.size w w' := by
  go_enter Try.func5, Try.ntmps5
  go_wp2_with fail
  refine (great_any k1 k2 n1 n2 s1 s2 _).mono ?_
  rw [g1]
  rintro e w1 ⟨rfl, hb⟩
  obtain ⟨S3, S4, S6, hz⟩ := slots3 _ _ _ _ _ _ _ _ _ _ _ _ hb
  have hw : Below w.heap.size w w1 := Below.trans ((((Below.refl _ _).alloc (Nat.le_refl _) _).alloc (by simp) _).alloc (by simp; omega) _) (Below.mono hb (by simp <;> omega))
  clear hb
  obtain ⟨p0, p1, p2, p3, p4, p5⟩ := id S3
  obtain ⟨q0, q1, q2, q3, q4, q5⟩ := id S4
  obtain ⟨r0, r1, r2, r3, r4, r5⟩ := id S6
  go_wp2_with fail
  clear p0 p1 p2 p3 p4 p5 q0 q1 q2 q3 q4 q5 r0 r1 r2 r3 r4 r5
  refine (great_any k3 k3 n3 n3 s3 s3 _).mono ?_
  rw [g2]
  rintro e w2 ⟨rfl, hb⟩
  replace S3 := S3.later hb (by omega)
  replace S4 := S4.later hb (by omega)
  replace S6 := S6.later hb (by omega)
  replace hw := hw.trans (Below.mono hb (by omega))
  replace hz := Nat.le_trans hz (Below.size hb)
  clear hb
  go_wp2_with fail
  refine (alive2_any _).mono ?_
  rintro e w9 ⟨rfl, hb⟩
  go_wp2
  go_ret
  exact ⟨rfl, hw.trans (Below.mono hb (by omega))⟩

theorem total_out3 (k1 k2 k3 : Nat) (n1 n2 n3 : Int) (s1 s2 s3 : ByteArray) (w : World) (g1 : (decide (1000 < s1.size) || decide (1000 < s2.size)) = false) (g2 : (decide (1000 < s3.size) || decide (1000 < s3.size)) = false) (r1 : Vl.right ⟨k1, n1, s1⟩ = false) :
    Calls Try.prog 5 #[.agg #[.int .u8 k1, .int .i64 n1, .string s1], .agg #[.int .u8 k2, .int .i64 n2, .string s2], .agg #[.int .u8 k3, .int .i64 n3, .string s3]] w fun e w' => e = .returned (.bool true) ∧ Below w.heap.size w w' := by
  go_enter Try.func5, Try.ntmps5
  go_wp2_with fail
  refine (great_any k1 k2 n1 n2 s1 s2 _).mono ?_
  rw [g1]
  rintro e w1 ⟨rfl, hb⟩
  obtain ⟨S3, S4, S6, hz⟩ := slots3 _ _ _ _ _ _ _ _ _ _ _ _ hb
  have hw : Below w.heap.size w w1 := Below.trans ((((Below.refl _ _).alloc (Nat.le_refl _) _).alloc (by simp) _).alloc (by simp; omega) _) (Below.mono hb (by simp <;> omega))
  clear hb
  obtain ⟨p0, p1, p2, p3, p4, p5⟩ := id S3
  obtain ⟨q0, q1, q2, q3, q4, q5⟩ := id S4
  obtain ⟨r0, r1, r2, r3, r4, r5⟩ := id S6
  go_wp2_with fail
  clear p0 p1 p2 p3 p4 p5 q0 q1 q2 q3 q4 q5 r0 r1 r2 r3 r4 r5
  refine (great_any k3 k3 n3 n3 s3 s3 _).mono ?_
  rw [g2]
  rintro e w2 ⟨rfl, hb⟩
  replace S3 := S3.later hb (by omega)
  replace S4 := S4.later hb (by omega)
  replace S6 := S6.later hb (by omega)
  replace hw := hw.trans (Below.mono hb (by omega))
  replace hz := Nat.le_trans hz (Below.size hb)
  clear hb
  obtain ⟨p0, p1, p2, p3, p4, p5⟩ := id S3
  obtain ⟨q0, q1, q2, q3, q4, q5⟩ := id S4
  obtain ⟨r0, r1, r2, r3, r4, r5⟩ := id S6
  go_wp2_with fail
  clear p0 p1 p2 p3 p4 p5 q0 q1 q2 q3 q4 q5 r0 r1 r2 r3 r4 r5
  refine (right_any k1 n1 s1 _).mono ?_
  rw [r1]
  rintro e w3 ⟨rfl, hb⟩
  replace S3 := S3.later hb (by omega)
  replace S4 := S4.later hb (by omega)
  replace S6 := S6.later hb (by omega)
  replace hw := hw.trans (Below.mono hb (by omega))
  replace hz := Nat.le_trans hz (Below.size hb)
  clear hb
  go_wp2_with fail
  refine (alive2_any _).mono ?_
  rintro e w9 ⟨rfl, hb⟩
  go_wp2
  go_ret
  exact ⟨rfl, hw.trans (Below.mono hb (by omega))⟩

theorem total_out4 (k1 k2 k3 : Nat) (n1 n2 n3 : Int) (s1 s2 s3 : ByteArray) (w : World) (g1 : (decide (1000 < s1.size) || decide (1000 < s2.size)) = false) (g2 : (decide (1000 < s3.size) || decide (1000 < s3.size)) = false) (r1 : Vl.right ⟨k1, n1, s1⟩ = true) (r2 : Vl.right ⟨k2, n2, s2⟩ = false) :
    Calls Try.prog 5 #[.agg #[.int .u8 k1, .int .i64 n1, .string s1], .agg #[.int .u8 k2, .int .i64 n2, .string s2], .agg #[.int .u8 k3, .int .i64 n3, .string s3]] w fun e w' => e = .returned (.bool true) ∧ Below w.heap.size w w' := by
  go_enter Try.func5, Try.ntmps5
  go_wp2_with fail
  refine (great_any k1 k2 n1 n2 s1 s2 _).mono ?_
  rw [g1]
  rintro e w1 ⟨rfl, hb⟩
  obtain ⟨S3, S4, S6, hz⟩ := slots3 _ _ _ _ _ _ _ _ _ _ _ _ hb
  have hw : Below w.heap.size w w1 := Below.trans ((((Below.refl _ _).alloc (Nat.le_refl _) _).alloc (by simp) _).alloc (by simp; omega) _) (Below.mono hb (by simp <;> omega))
  clear hb
  obtain ⟨p0, p1, p2, p3, p4, p5⟩ := id S3
  obtain ⟨q0, q1, q2, q3, q4, q5⟩ := id S4
  obtain ⟨r0, r1, r2, r3, r4, r5⟩ := id S6
  go_wp2_with fail
  clear p0 p1 p2 p3 p4 p5 q0 q1 q2 q3 q4 q5 r0 r1 r2 r3 r4 r5
  refine (great_any k3 k3 n3 n3 s3 s3 _).mono ?_
  rw [g2]
  rintro e w2 ⟨rfl, hb⟩
  replace S3 := S3.later hb (by omega)
  replace S4 := S4.later hb (by omega)
  replace S6 := S6.later hb (by omega)
  replace hw := hw.trans (Below.mono hb (by omega))
  replace hz := Nat.le_trans hz (Below.size hb)
  clear hb
  obtain ⟨p0, p1, p2, p3, p4, p5⟩ := id S3
  obtain ⟨q0, q1, q2, q3, q4, q5⟩ := id S4
  obtain ⟨r0, r1, r2, r3, r4, r5⟩ := id S6
  go_wp2_with fail
  clear p0 p1 p2 p3 p4 p5 q0 q1 q2 q3 q4 q5 r0 r1 r2 r3 r4 r5
  refine (right_any k1 n1 s1 _).mono ?_
  rw [r1]
  rintro e w3 ⟨rfl, hb⟩
  replace S3 := S3.later hb (by omega)
  replace S4 := S4.later hb (by omega)
  replace S6 := S6.later hb (by omega)
  replace hw := hw.trans (Below.mono hb (by omega))
  replace hz := Nat.le_trans hz (Below.size hb)
  clear hb
  obtain ⟨p0, p1, p2, p3, p4, p5⟩ := id S3
  obtain ⟨q0, q1, q2, q3, q4, q5⟩ := id S4
  obtain ⟨r0, r1, r2, r3, r4, r5⟩ := id S6
  go_wp2_with fail
  clear p0 p1 p2 p3 p4 p5 q0 q1 q2 q3 q4 q5 r0 r1 r2 r3 r4 r5
  refine (right_any k2 n2 s2 _).mono ?_
  rw [r2]
  rintro e w4 ⟨rfl, hb⟩
  replace S3 := S3.later hb (by omega)
  replace S4 := S4.later hb (by omega)
  replace S6 := S6.later hb (by omega)
  replace hw := hw.trans (Below.mono hb (by omega))
  replace hz := Nat.le_trans hz (Below.size hb)
  clear hb
  go_wp2_with fail
  refine (alive2_any _).mono ?_
  rintro e w9 ⟨rfl, hb⟩
  go_wp2
  go_ret
  exact ⟨rfl, hw.trans (Below.mono hb (by omega))⟩

theorem total_out5 (k1 k2 k3 : Nat) (n1 n2 n3 : Int) (s1 s2 s3 : ByteArray) (w : World) (g1 : (decide (1000 < s1.size) || decide (1000 < s2.size)) = false) (g2 : (decide (1000 < s3.size) || decide (1000 < s3.size)) = false) (r1 : Vl.right ⟨k1, n1, s1⟩ = true) (r2 : Vl.right ⟨k2, n2, s2⟩ = true) (r3 : Vl.right ⟨k3, n3, s3⟩ = false) :
    Calls Try.prog 5 #[.agg #[.int .u8 k1, .int .i64 n1, .string s1], .agg #[.int .u8 k2, .int .i64 n2, .string s2], .agg #[.int .u8 k3, .int .i64 n3, .string s3]] w fun e w' => e = .returned (.bool true) ∧ Below w.heap.size w w' := by
  go_enter Try.func5, Try.ntmps5
  go_wp2_with fail
  refine (great_any k1 k2 n1 n2 s1 s2 _).mono ?_
  rw [g1]
  rintro e w1 ⟨rfl, hb⟩
  obtain ⟨S3, S4, S6, hz⟩ := slots3 _ _ _ _ _ _ _ _ _ _ _ _ hb
  have hw : Below w.heap.size w w1 := Below.trans ((((Below.refl _ _).alloc (Nat.le_refl _) _).alloc (by simp) _).alloc (by simp; omega) _) (Below.mono hb (by simp <;> omega))
  clear hb
  obtain ⟨p0, p1, p2, p3, p4, p5⟩ := id S3
  obtain ⟨q0, q1, q2, q3, q4, q5⟩ := id S4
  obtain ⟨r0, r1, r2, r3, r4, r5⟩ := id S6
  go_wp2_with fail
  clear p0 p1 p2 p3 p4 p5 q0 q1 q2 q3 q4 q5 r0 r1 r2 r3 r4 r5
  refine (great_any k3 k3 n3 n3 s3 s3 _).mono ?_
  rw [g2]
  rintro e w2 ⟨rfl, hb⟩
  replace S3 := S3.later hb (by omega)
  replace S4 := S4.later hb (by omega)
  replace S6 := S6.later hb (by omega)
  replace hw := hw.trans (Below.mono hb (by omega))
  replace hz := Nat.le_trans hz (Below.size hb)
  clear hb
  obtain ⟨p0, p1, p2, p3, p4, p5⟩ := id S3
  obtain ⟨q0, q1, q2, q3, q4, q5⟩ := id S4
  obtain ⟨r0, r1, r2, r3, r4, r5⟩ := id S6
  go_wp2_with fail
  clear p0 p1 p2 p3 p4 p5 q0 q1 q2 q3 q4 q5 r0 r1 r2 r3 r4 r5
  refine (right_any k1 n1 s1 _).mono ?_
  rw [r1]
  rintro e w3 ⟨rfl, hb⟩
  replace S3 := S3.later hb (by omega)
  replace S4 := S4.later hb (by omega)
  replace S6 := S6.later hb (by omega)
  replace hw := hw.trans (Below.mono hb (by omega))
  replace hz := Nat.le_trans hz (Below.size hb)
  clear hb
  obtain ⟨p0, p1, p2, p3, p4, p5⟩ := id S3
  obtain ⟨q0, q1, q2, q3, q4, q5⟩ := id S4
  obtain ⟨r0, r1, r2, r3, r4, r5⟩ := id S6
  go_wp2_with fail
  clear p0 p1 p2 p3 p4 p5 q0 q1 q2 q3 q4 q5 r0 r1 r2 r3 r4 r5
  refine (right_any k2 n2 s2 _).mono ?_
  rw [r2]
  rintro e w4 ⟨rfl, hb⟩
  replace S3 := S3.later hb (by omega)
  replace S4 := S4.later hb (by omega)
  replace S6 := S6.later hb (by omega)
  replace hw := hw.trans (Below.mono hb (by omega))
  replace hz := Nat.le_trans hz (Below.size hb)
  clear hb
  obtain ⟨p0, p1, p2, p3, p4, p5⟩ := id S3
  obtain ⟨q0, q1, q2, q3, q4, q5⟩ := id S4
  obtain ⟨r0, r1, r2, r3, r4, r5⟩ := id S6
  go_wp2_with fail
  clear p0 p1 p2 p3 p4 p5 q0 q1 q2 q3 q4 q5 r0 r1 r2 r3 r4 r5
  refine (right_any k3 n3 s3 _).mono ?_
  rw [r3]
  rintro e w5 ⟨rfl, hb⟩
  replace S3 := S3.later hb (by omega)
  replace S4 := S4.later hb (by omega)
  replace S6 := S6.later hb (by omega)
  replace hw := hw.trans (Below.mono hb (by omega))
  replace hz := Nat.le_trans hz (Below.size hb)
  clear hb
  go_wp2_with fail
  refine (alive2_any _).mono ?_
  rintro e w9 ⟨rfl, hb⟩
  go_wp2
  go_ret
  exact ⟨rfl, hw.trans (Below.mono hb (by omega))⟩

set_option maxHeartbeats 4000000 in
theorem total_main (k1 k2 k3 : Nat) (n1 n2 n3 : Int) (s1 s2 s3 : ByteArray) (w : World) (g1 : (decide (1000 < s1.size) || decide (1000 < s2.size)) = false) (g2 : (decide (1000 < s3.size) || decide (1000 < s3.size)) = false) (r1 : Vl.right ⟨k1, n1, s1⟩ = true) (r2 : Vl.right ⟨k2, n2, s2⟩ = true) (r3 : Vl.right ⟨k3, n3, s3⟩ = true) (X Y Z X' N E : Int) (kn : Bool)
    (HXY : Hid (∀ W, Calls Try.prog 14 #[.agg #[.int .u8 k1, .int .i64 n1, .string s1], .agg #[.int .u8 k2, .int .i64 n2, .string s2]] W (RetI W X)))
    (HYZ : Hid (∀ W, Calls Try.prog 14 #[.agg #[.int .u8 k2, .int .i64 n2, .string s2], .agg #[.int .u8 k3, .int .i64 n3, .string s3]] W (RetI W Y)))
    (HXZ : Hid (∀ W, Calls Try.prog 14 #[.agg #[.int .u8 k1, .int .i64 n1, .string s1], .agg #[.int .u8 k3, .int .i64 n3, .string s3]] W (RetI W Z)))
    (HYX : Hid (∀ W, Calls Try.prog 14 #[.agg #[.int .u8 k2, .int .i64 n2, .string s2], .agg #[.int .u8 k1, .int .i64 n1, .string s1]] W (RetI W X')))
    (HC : Hid (∀ W, Calls Try.prog 10 #[.agg #[.int .u8 k1, .int .i64 n1, .string s1], .agg #[.int .u8 k2, .int .i64 n2, .string s2]] W (RetC W (N, kn, E))))
    (x1 : -1 ≤ X) (x2 : X ≤ 1) (x3 : X + X' = 0) (eqb : Bool) (heq : ((k1 : Int) == (k2 : Int) && (n1 == n2 && s1.toList == s2.toList)) = eqb) (x4 : eqb = true → X = 0) (x5 : eqb = false → X ≠ 0)
    (x6 : ¬ (X < 0 ∧ Y < 0 ∧ 0 ≤ Z)) (x7 : ¬ (X ≤ 0 ∧ Y ≤ 0 ∧ 0 < Z)) (x8 : kn = true → E = 0 ∧ N = X ∧ k1 = k2) :
    Calls Try.prog 5 #[.agg #[.int .u8 k1, .int .i64 n1, .string s1], .agg #[.int .u8 k2, .int .i64 n2, .string s2], .agg #[.int .u8 k3, .int .i64 n3, .string s3]] w fun e w' => e = .returned (.bool true) ∧ Below w.heap.size w w' := by
  have HX4 := Lib.hid x4
  have HX5 := Lib.hid x5
  have HX8 := Lib.hid x8
  clear x4 x5 x8
  go_enter Try.func5, Try.ntmps5
  go_wp2_with fail
  refine (great_any k1 k2 n1 n2 s1 s2 _).mono ?_
  rw [g1]
  rintro e w1 ⟨rfl, hb⟩
  obtain ⟨S3, S4, S6, hz⟩ := slots3 _ _ _ _ _ _ _ _ _ _ _ _ hb
  have hw : Below w.heap.size w w1 := Below.trans ((((Below.refl _ _).alloc (Nat.le_refl _) _).alloc (by simp) _).alloc (by simp; omega) _) (Below.mono hb (by simp <;> omega))
  clear hb
  obtain ⟨p0, p1, p2, p3, p4, p5⟩ := id S3
  obtain ⟨q0, q1, q2, q3, q4, q5⟩ := id S4
  obtain ⟨r0, r1, r2, r3, r4, r5⟩ := id S6
  go_wp2_with fail
  clear p0 p1 p2 p3 p4 p5 q0 q1 q2 q3 q4 q5 r0 r1 r2 r3 r4 r5
  refine (great_any k3 k3 n3 n3 s3 s3 _).mono ?_
  rw [g2]
  rintro e w2 ⟨rfl, hb⟩
  replace S3 := S3.later hb (by omega)
  replace S4 := S4.later hb (by omega)
  replace S6 := S6.later hb (by omega)
  replace hw := hw.trans (Below.mono hb (by omega))
  replace hz := Nat.le_trans hz (Below.size hb)
  clear hb
  obtain ⟨p0, p1, p2, p3, p4, p5⟩ := id S3
  obtain ⟨q0, q1, q2, q3, q4, q5⟩ := id S4
  obtain ⟨r0, r1, r2, r3, r4, r5⟩ := id S6
  go_wp2_with fail
  clear p0 p1 p2 p3 p4 p5 q0 q1 q2 q3 q4 q5 r0 r1 r2 r3 r4 r5
  refine (right_any k1 n1 s1 _).mono ?_
  rw [r1]
  rintro e w3 ⟨rfl, hb⟩
  replace S3 := S3.later hb (by omega)
  replace S4 := S4.later hb (by omega)
  replace S6 := S6.later hb (by omega)
  replace hw := hw.trans (Below.mono hb (by omega))
  replace hz := Nat.le_trans hz (Below.size hb)
  clear hb
  obtain ⟨p0, p1, p2, p3, p4, p5⟩ := id S3
  obtain ⟨q0, q1, q2, q3, q4, q5⟩ := id S4
  obtain ⟨r0, r1, r2, r3, r4, r5⟩ := id S6
  go_wp2_with fail
  clear p0 p1 p2 p3 p4 p5 q0 q1 q2 q3 q4 q5 r0 r1 r2 r3 r4 r5
  refine (right_any k2 n2 s2 _).mono ?_
  rw [r2]
  rintro e w4 ⟨rfl, hb⟩
  replace S3 := S3.later hb (by omega)
  replace S4 := S4.later hb (by omega)
  replace S6 := S6.later hb (by omega)
  replace hw := hw.trans (Below.mono hb (by omega))
  replace hz := Nat.le_trans hz (Below.size hb)
  clear hb
  obtain ⟨p0, p1, p2, p3, p4, p5⟩ := id S3
  obtain ⟨q0, q1, q2, q3, q4, q5⟩ := id S4
  obtain ⟨r0, r1, r2, r3, r4, r5⟩ := id S6
  go_wp2_with fail
  clear p0 p1 p2 p3 p4 p5 q0 q1 q2 q3 q4 q5 r0 r1 r2 r3 r4 r5
  refine (right_any k3 n3 s3 _).mono ?_
  rw [r3]
  rintro e w5 ⟨rfl, hb⟩
  replace S3 := S3.later hb (by omega)
  replace S4 := S4.later hb (by omega)
  replace S6 := S6.later hb (by omega)
  replace hw := hw.trans (Below.mono hb (by omega))
  replace hz := Nat.le_trans hz (Below.size hb)
  clear hb
  obtain ⟨p0, p1, p2, p3, p4, p5⟩ := id S3
  obtain ⟨q0, q1, q2, q3, q4, q5⟩ := id S4
  obtain ⟨r0, r1, r2, r3, r4, r5⟩ := id S6
  go_wp2_with fail
  clear p0 p1 p2 p3 p4 p5 q0 q1 q2 q3 q4 q5 r0 r1 r2 r3 r4 r5
  have a0 := fun W (h : Later w5.drew W) => (S3.on (Later.undrew h)).1
  have a1 := fun W (h : Later w5.drew W) => (S3.on (Later.undrew h)).2.1
  have a2 := fun W (h : Later w5.drew W) => (S3.on (Later.undrew h)).2.2.1
  have b0 := fun W (h : Later w5.drew W) => (S4.on (Later.undrew h)).1
  have b1 := fun W (h : Later w5.drew W) => (S4.on (Later.undrew h)).2.1
  have b2 := fun W (h : Later w5.drew W) => (S4.on (Later.undrew h)).2.2.1
  have c0 := fun W (h : Later w5.drew W) => (S6.on (Later.undrew h)).1
  have c1 := fun W (h : Later w5.drew W) => (S6.on (Later.undrew h)).2.1
  have c2 := fun W (h : Later w5.drew W) => (S6.on (Later.undrew h)).2.2.1
  refine wp_region_ord [(0, true), (1, true), (3, true), (4, true), (6, true), (7, true), (2, false), (5, false), (8, false), (9, true), (10, true), (11, true)] (by kernel_rfl) (by kernel_rfl) (by kernel_rfl) (by kernel_rfl) ?_
  repeat (first | (refine wpO_F (v := ?_) rfl (by rfl) (fun w' hL => ?_) ?_; rotate_left; (solve | (go_simp; with_reducible rfl) | go_simp); try simp only [Act.put, List.setIfInBounds_toArray, List.set_cons_zero, List.set_cons_succ]) | (refine wpO_G rfl (by rfl) ?_; try simp only [Act.put, List.setIfInBounds_toArray, List.set_cons_zero, List.set_cons_succ]))
  refine wpO_C rfl (by rfl) ?_
  go_simp
  refine (HXY.out _).mono ?_
  rintro e w6 ⟨rfl, hb⟩
  refine ⟨hb, ?_⟩
  try simp only [Act.put, List.setIfInBounds_toArray, List.set_cons_zero, List.set_cons_succ]
  replace S3 := S3.later (Later.undrew hb) (by omega)
  replace S4 := S4.later (Later.undrew hb) (by omega)
  replace S6 := S6.later (Later.undrew hb) (by omega)
  replace hw := hw.trans (Below.mono (Later.undrew hb) (by omega))
  replace hz := Nat.le_trans hz (Below.size (Later.undrew hb))
  clear hb
  clear a0 a1 a2 b0 b1 b2 c0 c1 c2
  repeat (first | (refine wpO_F (v := ?_) rfl (by rfl) (fun w' hL => ?_) ?_; rotate_left; (solve | (go_simp; with_reducible rfl) | go_simp); try simp only [Act.put, List.setIfInBounds_toArray, List.set_cons_zero, List.set_cons_succ]) | (refine wpO_G rfl (by rfl) ?_; try simp only [Act.put, List.setIfInBounds_toArray, List.set_cons_zero, List.set_cons_succ]))
  refine wpO_C rfl (by rfl) ?_
  go_simp
  refine (HYZ.out _).mono ?_
  rintro e w7 ⟨rfl, hb⟩
  refine ⟨hb, ?_⟩
  try simp only [Act.put, List.setIfInBounds_toArray, List.set_cons_zero, List.set_cons_succ]
  replace S3 := S3.later hb (by omega)
  replace S4 := S4.later hb (by omega)
  replace S6 := S6.later hb (by omega)
  replace hw := hw.trans (Below.mono hb (by omega))
  replace hz := Nat.le_trans hz (Below.size hb)
  clear hb
  repeat (first | (refine wpO_F (v := ?_) rfl (by rfl) (fun w' hL => ?_) ?_; rotate_left; (solve | (go_simp; with_reducible rfl) | go_simp); try simp only [Act.put, List.setIfInBounds_toArray, List.set_cons_zero, List.set_cons_succ]) | (refine wpO_G rfl (by rfl) ?_; try simp only [Act.put, List.setIfInBounds_toArray, List.set_cons_zero, List.set_cons_succ]))
  refine wpO_C rfl (by rfl) ?_
  go_simp
  refine (HXZ.out _).mono ?_
  rintro e w8 ⟨rfl, hb⟩
  refine ⟨hb, ?_⟩
  try simp only [Act.put, List.setIfInBounds_toArray, List.set_cons_zero, List.set_cons_succ]
  replace S3 := S3.later hb (by omega)
  replace S4 := S4.later hb (by omega)
  replace S6 := S6.later hb (by omega)
  replace hw := hw.trans (Below.mono hb (by omega))
  replace hz := Nat.le_trans hz (Below.size hb)
  clear hb
  repeat (first | (refine wpO_F (v := ?_) rfl (by rfl) (fun w' hL => ?_) ?_; rotate_left; (solve | (go_simp; with_reducible rfl) | go_simp); try simp only [Act.put, List.setIfInBounds_toArray, List.set_cons_zero, List.set_cons_succ]) | (refine wpO_G rfl (by rfl) ?_; try simp only [Act.put, List.setIfInBounds_toArray, List.set_cons_zero, List.set_cons_succ]))
  refine wpO_nil ?_
  obtain ⟨p0, p1, p2, p3, p4, p5⟩ := id S3
  obtain ⟨q0, q1, q2, q3, q4, q5⟩ := id S4
  obtain ⟨r0, r1, r2, r3, r4, r5⟩ := id S6
  go_wp2_with fail
  clear p0 p1 p2 p3 p4 p5 q0 q1 q2 q3 q4 q5 r0 r1 r2 r3 r4 r5
  refine (HC.out _).mono ?_
  rintro e w9 ⟨rfl, hb⟩
  replace S3 := S3.later hb (by omega)
  replace S4 := S4.later hb (by omega)
  replace S6 := S6.later hb (by omega)
  replace hw := hw.trans (Below.mono hb (by omega))
  replace hz := Nat.le_trans hz (Below.size hb)
  clear hb
  obtain ⟨p0, p1, p2, p3, p4, p5⟩ := id S3
  obtain ⟨q0, q1, q2, q3, q4, q5⟩ := id S4
  obtain ⟨r0, r1, r2, r3, r4, r5⟩ := id S6
  go_wp2_with fail
  clear p0 p1 p2 p3 p4 p5 q0 q1 q2 q3 q4 q5 r0 r1 r2 r3 r4 r5
  refine (HYX.out _).mono ?_
  rintro e w10 ⟨rfl, hb⟩
  replace S3 := S3.later hb (by omega)
  replace S4 := S4.later hb (by omega)
  replace S6 := S6.later hb (by omega)
  replace hw := hw.trans (Below.mono hb (by omega))
  replace hz := Nat.le_trans hz (Below.size hb)
  clear hb
  clear HXY HYZ HXZ HYX HC
  have hX' : X' = -X := by omega
  have e1 : (X != -X') = false := by rw [hX']; simp
  have y1 : -1 ≤ X' := by omega
  have y2 : X' ≤ 1 := by omega
  clear hX' x3
  have hs : (X < 0 ∧ Y < 0 ∧ Z < 0) ∨ (X < 0 ∧ 0 ≤ Y ∧ Y ≤ 0 ∧ Z ≤ 0) ∨ (X < 0 ∧ 0 < Y) ∨ (0 ≤ X ∧ X ≤ 0 ∧ Y ≤ 0 ∧ Z ≤ 0) ∨ (0 ≤ X ∧ X ≤ 0 ∧ 0 < Y) ∨ 0 < X := by omega
  clear x6 x7
  cases hkn : kn
  all_goals cases heb : eqb
  all_goals
    rw [hkn] at HX8
    rw [heb] at heq HX4 HX5
    clear hkn heb
    rcases hs with ⟨z1, z2, z3⟩ | ⟨z1, z2, z3, z4⟩ | ⟨z1, z2⟩ | ⟨z1, z2, z3, z4⟩ | ⟨z1, z2, z3⟩ | z1
  all_goals
    first
      | (exfalso; have := HX4.out rfl; omega)
      | (exfalso; have := HX5.out rfl; omega)
      | skip
  all_goals
    first
      | (have e2 : (X == 0) = true := by simp [HX4.out rfl])
      | (have e2 : (X == 0) = false := by simp [HX5.out rfl])
  all_goals
    obtain ⟨p0, p1, p2, p3, p4, p5⟩ := id S3
    obtain ⟨q0, q1, q2, q3, q4, q5⟩ := id S4
    obtain ⟨r0, r1, r2, r3, r4, r5⟩ := id S6
    go_wp2_with fail
    clear p0 p1 p2 p3 p4 p5 q0 q1 q2 q3 q4 q5 r0 r1 r2 r3 r4 r5
    refine (alive2_any _).mono ?_
    rintro e w11 ⟨rfl, hb⟩
    replace S3 := S3.on hb
    replace S4 := S4.on hb
    obtain ⟨p0, p1, p2, p3, p4, p5⟩ := S3
    obtain ⟨q0, q1, q2, q3, q4, q5⟩ := S4
    have hfin := hw.trans (Below.mono hb (by omega))
    clear S6 hb

    clear HX4 HX5
    first
      | (have h8 := HX8.out (by trivial)
         have e3 : (E == 0) = true := by simp [h8.1]
         have e4 : (N == X) = true := by simp [h8.2.1]
         have e5 : ((k1 : Int) == (k2 : Int)) = true := by simp [h8.2.2]
         clear h8 HX8)
      | clear HX8
    go_wp2
    go_ret
    first
      | exact ⟨rfl, hfin⟩
      | exact ⟨congrArg (fun q => Ending.returned (Value.bool q)) e5, hfin⟩

theorem Total_any (a b c : Vl) (w : World) : Calls Try.prog 5 #[.agg #[.int .u8 a.k, .int .i64 a.n, .string a.s], .agg #[.int .u8 b.k, .int .i64 b.n, .string b.s], .agg #[.int .u8 c.k, .int .i64 c.n, .string c.s]] w fun e w' => e = .returned (.bool true) ∧ Below w.heap.size w w' := by
  cases g1 : (decide (1000 < a.s.size) || decide (1000 < b.s.size)) with
  | true => exact total_out1 _ _ _ _ _ _ _ _ _ w g1
  | false =>
    cases g2 : (decide (1000 < c.s.size) || decide (1000 < c.s.size)) with
    | true => exact total_out2 _ _ _ _ _ _ _ _ _ w g1 g2
    | false =>
      cases r1 : a.right with
      | false => exact total_out3 _ _ _ _ _ _ _ _ _ w g1 g2 r1
      | true =>
        cases r2 : b.right with
        | false => exact total_out4 _ _ _ _ _ _ _ _ _ w g1 g2 r1 r2
        | true =>
          cases r3 : c.right with
          | false => exact total_out5 _ _ _ _ _ _ _ _ _ w g1 g2 r1 r2 r3
          | true =>
            obtain ⟨t1, t2, t3, t4, t5, t6⟩ := order_total a b c r1 r2 r3
            have hC : compareV a b = ((compareV a b).1, (compareV a b).2.1, (compareV a b).2.2) := rfl
            refine total_main a.k b.k c.k a.n b.n c.n a.s b.s c.s w g1 g2 r1 r2 r3 (orderV a b) (orderV b c) (orderV a c) (orderV b a) (compareV a b).1 (compareV a b).2.2 (compareV a b).2.1
              (fun W => Order_any a b W) (fun W => Order_any b c W) (fun W => Order_any a c W) (fun W => Order_any b a W) (fun W => Compare_any a b W) t5 t6 (by omega) _ rfl ?_ ?_ t3 t4 ?_
            · intro h
              simp only [Bool.and_eq_true, beq_iff_eq] at h
              obtain ⟨e1, e2, e3⟩ := h
              exact t2.2 (by
                obtain ⟨k, n, s⟩ := a
                obtain ⟨k', n', s'⟩ := b
                simp only at e1 e2 e3
                rw [show k = k' by omega, e2, toList_inj e3])
            · intro h h0
              have hab := t2.1 h0
              subst hab
              simp at h
            · intro hk
              unfold compareV at hk ⊢
              rw [if_neg (by simp [r1, r2])] at hk ⊢
              split at hk
              · simp at hk
              · rename_i h1
                rw [if_neg h1]
                split at hk
                · simp at hk
                · rename_i h2
                  rw [if_neg h2]
                  exact ⟨rfl, rfl, by simpa using h2⟩

end Go.Proofs.Yteepnbdkpelbiab
