/- The walk of the law CellNots. -/
import Derived.Test.YteepnbdkpelbiabCTotal
namespace Go.Proofs.Yteepnbdkpelbiab
open Go.RowKit

/-- What is behind the truths: a value that is one, or nothing. -/
theorem decideV_good (win : Bool) (a b : Vl) (h1 : a.right = true) (h2 : b.right = true) (h3 : a.k ≤ 1) (h4 : b.k ≤ 1) :
    decideV win a b = decideB win (truthT a).1 (truthT a).2.1 (truthT b).1 (truthT b).2.1 := by
  unfold decideV decideB; rw [if_neg (by simp [h1, h2]), if_neg (by omega)]

theorem truth_three (a : Vl) (h1 : a.right = true) (h3 : a.k ≤ 1) : truthT a = (false, false, 0) ∨ truthT a = (false, true, 0) ∨ truthT a = (true, true, 0) := by
  unfold truthT
  rw [if_neg (by simp [h1]), if_neg (by omega)]
  by_cases hk : a.k = 0
  · rw [if_pos hk]; exact .inl rfl
  · rw [if_neg hk]
    cases h : (a.n != 0)
    · exact .inr (.inl rfl)
    · exact .inr (.inr rfl)

def notB (t : Bool × Bool × Int) : Vl × Int := if t.2.2 ≠ 0 then (nullV, t.2.2) else if t.2.1 = false then (nullV, 0) else (boolV (!t.1), 0)
theorem notV_eq (a : Vl) : notV a = notB (truthT a) := rfl

theorem nots_good (a b : Vl) (h1 : a.right = true) (h2 : b.right = true) (h3 : a.k ≤ 1) (h4 : b.k ≤ 1) :
    (decideV false a b).2 = 0 ∧ (notV a).2 = 0 ∧ (notV b).2 = 0 ∧ (notV (decideV false a b).1).2 = 0 ∧ decideV true (notV a).1 (notV b).1 = notV (decideV false a b).1 ∧
    (decideV true a b).2 = 0 ∧ (notV (decideV true a b).1).2 = 0 ∧ decideV false (notV a).1 (notV b).1 = notV (decideV true a b).1 := by
  rw [decideV_good false a b h1 h2 h3 h4, decideV_good true a b h1 h2 h3 h4, notV_eq a, notV_eq b]
  rcases truth_three a h1 h3 with e | e | e <;> rcases truth_three b h2 h4 with f | f | f <;> rw [e, f] <;> exact ⟨rfl, rfl, rfl, rfl, rfl, rfl, rfl, rfl⟩

theorem nots_bad (a b : Vl) (h : ¬ ((a.right = true ∧ b.right = true) ∧ a.k ≤ 1 ∧ b.k ≤ 1)) : (decideV false a b).2 ≠ 0 := by
  unfold decideV
  by_cases h1 : a.right = false ∨ b.right = false
  · rw [if_pos h1]; exact fun h => by cases h
  · rw [if_neg h1]
    have hr : a.right = true ∧ b.right = true := by
      cases ha : a.right <;> cases hb : b.right <;> simp_all
    rw [if_pos (by
      by_cases h2 : 1 < a.k
      · exact .inl h2
      · exact .inr (by
          by_cases h3 : 1 < b.k
          · exact h3
          · exact absurd ⟨hr, by omega, by omega⟩ h))]
    exact fun h => by cases h

theorem nots_great (k1 k2 : Nat) (n1 n2 : Int) (s1 s2 : ByteArray) (w : World) (g1 : (decide (1000 < s1.size) || decide (1000 < s2.size)) = true) :
    Calls Try.prog 7 #[.agg #[.int .u8 k1, .int .i64 n1, .string s1], .agg #[.int .u8 k2, .int .i64 n2, .string s2]] w fun e w' => e = .returned (.bool true) ∧ Below w.heap.size w w' := by
  go_enter Try.func7, Try.ntmps7
  go_wp2_with fail
  refine (great_any k1 k2 n1 n2 s1 s2 _).mono ?_
  rw [g1]
  rintro e w1 ⟨rfl, hb⟩
  obtain ⟨S3, S4, hz⟩ := slots2 _ _ _ _ _ _ _ _ _ hb
  have hw : Below w.heap.size w w1 := Below.trans (((Below.refl _ _).alloc (Nat.le_refl _) _).alloc (by simp) _) (Below.mono hb (by simp <;> omega))
  clear hb
  go_wp2_with fail
  refine (alive2_any _).mono ?_
  rintro e w9 ⟨rfl, hb⟩
  go_wp2
  go_ret
  exact ⟨rfl, hw.trans (Below.mono hb (by omega))⟩

set_option maxHeartbeats 4000000 in
theorem nots_false (k1 k2 kx kp kq : Nat) (n1 n2 nx np nq E F G : Int) (s1 s2 sx sp sq : ByteArray) (w : World) (g1 : (decide (1000 < s1.size) || decide (1000 < s2.size)) = false) (hE : (E != 0) = true)
    (HX : Hid (∀ W, Calls Try.prog 27 #[.agg #[.int .u8 k1, .int .i64 n1, .string s1], .agg #[.int .u8 k2, .int .i64 n2, .string s2]] W (RetV W (⟨kx, nx, sx⟩, E))))
    (HP : Hid (∀ W, Calls Try.prog 28 #[.agg #[.int .u8 k1, .int .i64 n1, .string s1]] W (RetV W (⟨kp, np, sp⟩, F))))
    (HQ : Hid (∀ W, Calls Try.prog 28 #[.agg #[.int .u8 k2, .int .i64 n2, .string s2]] W (RetV W (⟨kq, nq, sq⟩, G)))) :
    Calls Try.prog 7 #[.agg #[.int .u8 k1, .int .i64 n1, .string s1], .agg #[.int .u8 k2, .int .i64 n2, .string s2]] w fun e w' => e = .returned (.bool true) ∧ Below w.heap.size w w' := by
  go_enter Try.func7, Try.ntmps7
  go_wp2_with fail
  refine (great_any k1 k2 n1 n2 s1 s2 _).mono ?_
  rw [g1]
  rintro e w1 ⟨rfl, hb⟩
  obtain ⟨S3, S4, hz⟩ := slots2 _ _ _ _ _ _ _ _ _ hb
  have hw : Below w.heap.size w w1 := Below.trans (((Below.refl _ _).alloc (Nat.le_refl _) _).alloc (by simp) _) (Below.mono hb (by simp <;> omega))
  clear hb
  obtain ⟨S3c0, S3c1, S3c2, S3c3, S3c4, S3c5⟩ := id S3
  have S3a0 := fun o => (S3.on (Below.box _ o)).1
  have S3a1 := fun o => (S3.on (Below.box _ o)).2.1
  have S3a2 := fun o => (S3.on (Below.box _ o)).2.2.1
  obtain ⟨S4c0, S4c1, S4c2, S4c3, S4c4, S4c5⟩ := id S4
  have S4a0 := fun o => (S4.on (Below.box _ o)).1
  have S4a1 := fun o => (S4.on (Below.box _ o)).2.1
  have S4a2 := fun o => (S4.on (Below.box _ o)).2.2.1
  go_wp2_with fail
  clear S3c0 S3c1 S3c2 S3c3 S3c4 S3c5 S3a0 S3a1 S3a2 S4c0 S4c1 S4c2 S4c3 S4c4 S4c5 S4a0 S4a1 S4a2
  refine (HX.out _).mono ?_
  rintro e w2 ⟨rfl, hb⟩
  replace S3 := S3.later hb (by omega)
  replace S4 := S4.later hb (by omega)
  replace hw := hw.trans (Below.mono hb (by omega))
  replace hz := Nat.le_trans hz (Below.size hb)
  clear hb
  obtain ⟨S3c0, S3c1, S3c2, S3c3, S3c4, S3c5⟩ := id S3
  have S3a0 := fun o => (S3.on (Below.box _ o)).1
  have S3a1 := fun o => (S3.on (Below.box _ o)).2.1
  have S3a2 := fun o => (S3.on (Below.box _ o)).2.2.1
  obtain ⟨S4c0, S4c1, S4c2, S4c3, S4c4, S4c5⟩ := id S4
  have S4a0 := fun o => (S4.on (Below.box _ o)).1
  have S4a1 := fun o => (S4.on (Below.box _ o)).2.1
  have S4a2 := fun o => (S4.on (Below.box _ o)).2.2.1
  go_wp2_with fail
  clear S3c0 S3c1 S3c2 S3c3 S3c4 S3c5 S3a0 S3a1 S3a2 S4c0 S4c1 S4c2 S4c3 S4c4 S4c5 S4a0 S4a1 S4a2
  refine (HP.out _).mono ?_
  rintro e w3 ⟨rfl, h3⟩
  replace h3 := (slotN _ _ _ _ _ _ h3).2
  replace S3 := S3.on h3
  replace S4 := S4.on h3
  replace hw := hw.trans (Below.mono h3 (by omega))
  replace hz := Nat.le_trans hz (Below.size h3)
  clear h3
  obtain ⟨S3c0, S3c1, S3c2, S3c3, S3c4, S3c5⟩ := id S3
  have S3a0 := fun o => (S3.on (Below.box _ o)).1
  have S3a1 := fun o => (S3.on (Below.box _ o)).2.1
  have S3a2 := fun o => (S3.on (Below.box _ o)).2.2.1
  obtain ⟨S4c0, S4c1, S4c2, S4c3, S4c4, S4c5⟩ := id S4
  have S4a0 := fun o => (S4.on (Below.box _ o)).1
  have S4a1 := fun o => (S4.on (Below.box _ o)).2.1
  have S4a2 := fun o => (S4.on (Below.box _ o)).2.2.1
  go_wp2_with fail
  clear S3c0 S3c1 S3c2 S3c3 S3c4 S3c5 S3a0 S3a1 S3a2 S4c0 S4c1 S4c2 S4c3 S4c4 S4c5 S4a0 S4a1 S4a2
  refine (HQ.out _).mono ?_
  rintro e w4 ⟨rfl, h4⟩
  replace h4 := (slotN _ _ _ _ _ _ h4).2
  replace hw := hw.trans (Below.mono h4 (by omega))
  replace hz := Nat.le_trans hz (Below.size h4)
  clear h4
  go_wp2_with fail
  refine (alive2_any _).mono ?_
  rintro e w9 ⟨rfl, hb⟩
  replace hb := (slotN _ _ _ _ _ _ hb).2
  go_wp2
  go_ret
  exact ⟨rfl, hw.trans (Below.mono hb (by omega))⟩

set_option maxHeartbeats 4000000 in
theorem nots_true (k1 k2 kx kp kq ky ku kv : Nat) (n1 n2 nx np nq ny nu nv : Int) (s1 s2 sx sp sq sy su sv : ByteArray) (w : World) (g1 : (decide (1000 < s1.size) || decide (1000 < s2.size)) = false)
    (HX : Hid (∀ W, Calls Try.prog 27 #[.agg #[.int .u8 k1, .int .i64 n1, .string s1], .agg #[.int .u8 k2, .int .i64 n2, .string s2]] W (RetV W (⟨kx, nx, sx⟩, 0))))
    (HP : Hid (∀ W, Calls Try.prog 28 #[.agg #[.int .u8 k1, .int .i64 n1, .string s1]] W (RetV W (⟨kp, np, sp⟩, 0))))
    (HQ : Hid (∀ W, Calls Try.prog 28 #[.agg #[.int .u8 k2, .int .i64 n2, .string s2]] W (RetV W (⟨kq, nq, sq⟩, 0))))
    (HY : Hid (∀ W, Calls Try.prog 28 #[.agg #[.int .u8 kx, .int .i64 nx, .string sx]] W (RetV W (⟨ky, ny, sy⟩, 0))))
    (HZ : Hid (∀ W, Calls Try.prog 29 #[.agg #[.int .u8 kp, .int .i64 np, .string sp], .agg #[.int .u8 kq, .int .i64 nq, .string sq]] W (RetV W (⟨ky, ny, sy⟩, 0))))
    (HU : Hid (∀ W, Calls Try.prog 29 #[.agg #[.int .u8 k1, .int .i64 n1, .string s1], .agg #[.int .u8 k2, .int .i64 n2, .string s2]] W (RetV W (⟨ku, nu, su⟩, 0))))
    (HV : Hid (∀ W, Calls Try.prog 28 #[.agg #[.int .u8 ku, .int .i64 nu, .string su]] W (RetV W (⟨kv, nv, sv⟩, 0))))
    (HW : Hid (∀ W, Calls Try.prog 27 #[.agg #[.int .u8 kp, .int .i64 np, .string sp], .agg #[.int .u8 kq, .int .i64 nq, .string sq]] W (RetV W (⟨kv, nv, sv⟩, 0)))) :
    Calls Try.prog 7 #[.agg #[.int .u8 k1, .int .i64 n1, .string s1], .agg #[.int .u8 k2, .int .i64 n2, .string s2]] w fun e w' => e = .returned (.bool true) ∧ Below w.heap.size w w' := by
  go_enter Try.func7, Try.ntmps7
  go_wp2_with fail
  refine (great_any k1 k2 n1 n2 s1 s2 _).mono ?_
  rw [g1]
  rintro e w1 ⟨rfl, hb⟩
  obtain ⟨S3, S4, hz⟩ := slots2 _ _ _ _ _ _ _ _ _ hb
  have hw : Below w.heap.size w w1 := Below.trans (((Below.refl _ _).alloc (Nat.le_refl _) _).alloc (by simp) _) (Below.mono hb (by simp <;> omega))
  clear hb
  obtain ⟨S3c0, S3c1, S3c2, S3c3, S3c4, S3c5⟩ := id S3
  have S3a0 := fun o => (S3.on (Below.box _ o)).1
  have S3a1 := fun o => (S3.on (Below.box _ o)).2.1
  have S3a2 := fun o => (S3.on (Below.box _ o)).2.2.1
  obtain ⟨S4c0, S4c1, S4c2, S4c3, S4c4, S4c5⟩ := id S4
  have S4a0 := fun o => (S4.on (Below.box _ o)).1
  have S4a1 := fun o => (S4.on (Below.box _ o)).2.1
  have S4a2 := fun o => (S4.on (Below.box _ o)).2.2.1
  go_wp2_with fail
  clear S3c0 S3c1 S3c2 S3c3 S3c4 S3c5 S3a0 S3a1 S3a2 S4c0 S4c1 S4c2 S4c3 S4c4 S4c5 S4a0 S4a1 S4a2
  refine (HX.out _).mono ?_
  rintro e w2 ⟨rfl, hb⟩
  replace S3 := S3.later hb (by omega)
  replace S4 := S4.later hb (by omega)
  replace hw := hw.trans (Below.mono hb (by omega))
  replace hz := Nat.le_trans hz (Below.size hb)
  clear hb
  clear hz
  replace hw : Later w w2 := hw
  obtain ⟨S3c0, S3c1, S3c2, S3c3, S3c4, S3c5⟩ := id S3
  have S3a0 := fun o => (S3.on (Below.box _ o)).1
  have S3a1 := fun o => (S3.on (Below.box _ o)).2.1
  have S3a2 := fun o => (S3.on (Below.box _ o)).2.2.1
  obtain ⟨S4c0, S4c1, S4c2, S4c3, S4c4, S4c5⟩ := id S4
  have S4a0 := fun o => (S4.on (Below.box _ o)).1
  have S4a1 := fun o => (S4.on (Below.box _ o)).2.1
  have S4a2 := fun o => (S4.on (Below.box _ o)).2.2.1
  go_wp2_with fail
  clear S3c0 S3c1 S3c2 S3c3 S3c4 S3c5 S3a0 S3a1 S3a2 S4c0 S4c1 S4c2 S4c3 S4c4 S4c5 S4a0 S4a1 S4a2
  refine (HP.out _).mono ?_
  rintro e w3 ⟨rfl, h3⟩
  obtain ⟨Sx, h3⟩ := slotN _ _ _ _ _ _ h3
  replace S3 := S3.on h3
  replace S4 := S4.on h3
  replace hw := hw.trans h3
  clear h3
  obtain ⟨S3c0, S3c1, S3c2, S3c3, S3c4, S3c5⟩ := id S3
  have S3a0 := fun o => (S3.on (Below.box _ o)).1
  have S3a1 := fun o => (S3.on (Below.box _ o)).2.1
  have S3a2 := fun o => (S3.on (Below.box _ o)).2.2.1
  obtain ⟨S4c0, S4c1, S4c2, S4c3, S4c4, S4c5⟩ := id S4
  have S4a0 := fun o => (S4.on (Below.box _ o)).1
  have S4a1 := fun o => (S4.on (Below.box _ o)).2.1
  have S4a2 := fun o => (S4.on (Below.box _ o)).2.2.1
  go_wp2_with fail
  clear S3c0 S3c1 S3c2 S3c3 S3c4 S3c5 S3a0 S3a1 S3a2 S4c0 S4c1 S4c2 S4c3 S4c4 S4c5 S4a0 S4a1 S4a2
  refine (HQ.out _).mono ?_
  rintro e w4 ⟨rfl, h4⟩
  obtain ⟨Sp, h4⟩ := slotN _ _ _ _ _ _ h4
  replace S3 := S3.on h4
  replace S4 := S4.on h4
  replace Sx := Sx.on h4
  replace hw := hw.trans h4
  clear h4
  obtain ⟨Sxc0, Sxc1, Sxc2, Sxc3, Sxc4, Sxc5⟩ := id Sx
  have Sxa0 := fun o => (Sx.on (Below.box _ o)).1
  have Sxa1 := fun o => (Sx.on (Below.box _ o)).2.1
  have Sxa2 := fun o => (Sx.on (Below.box _ o)).2.2.1
  go_wp2_with fail
  clear Sxc0 Sxc1 Sxc2 Sxc3 Sxc4 Sxc5 Sxa0 Sxa1 Sxa2
  refine (HY.out _).mono ?_
  rintro e w5 ⟨rfl, h5⟩
  obtain ⟨Sq, h5⟩ := slotN _ _ _ _ _ _ h5
  replace S3 := S3.on h5
  replace S4 := S4.on h5
  replace Sp := Sp.on h5
  replace hw := hw.trans h5
  clear h5 Sx
  obtain ⟨Spc0, Spc1, Spc2, Spc3, Spc4, Spc5⟩ := id Sp
  have Spa0 := fun o => (Sp.on (Below.box _ o)).1
  have Spa1 := fun o => (Sp.on (Below.box _ o)).2.1
  have Spa2 := fun o => (Sp.on (Below.box _ o)).2.2.1
  obtain ⟨Sqc0, Sqc1, Sqc2, Sqc3, Sqc4, Sqc5⟩ := id Sq
  have Sqa0 := fun o => (Sq.on (Below.box _ o)).1
  have Sqa1 := fun o => (Sq.on (Below.box _ o)).2.1
  have Sqa2 := fun o => (Sq.on (Below.box _ o)).2.2.1
  go_wp2_with fail
  clear Spc0 Spc1 Spc2 Spc3 Spc4 Spc5 Spa0 Spa1 Spa2 Sqc0 Sqc1 Sqc2 Sqc3 Sqc4 Sqc5 Sqa0 Sqa1 Sqa2
  refine (HZ.out _).mono ?_
  rintro e w6 ⟨rfl, h6⟩
  obtain ⟨Sy, h6⟩ := slotN _ _ _ _ _ _ h6
  replace S3 := S3.on h6
  replace S4 := S4.on h6
  replace Sp := Sp.on h6
  replace Sq := Sq.on h6
  replace hw := hw.trans h6
  clear h6
  obtain ⟨S3c0, S3c1, S3c2, S3c3, S3c4, S3c5⟩ := id S3
  have S3a0 := fun o => (S3.on (Below.box _ o)).1
  have S3a1 := fun o => (S3.on (Below.box _ o)).2.1
  have S3a2 := fun o => (S3.on (Below.box _ o)).2.2.1
  obtain ⟨S4c0, S4c1, S4c2, S4c3, S4c4, S4c5⟩ := id S4
  have S4a0 := fun o => (S4.on (Below.box _ o)).1
  have S4a1 := fun o => (S4.on (Below.box _ o)).2.1
  have S4a2 := fun o => (S4.on (Below.box _ o)).2.2.1
  go_wp2_with fail
  clear S3c0 S3c1 S3c2 S3c3 S3c4 S3c5 S3a0 S3a1 S3a2 S4c0 S4c1 S4c2 S4c3 S4c4 S4c5 S4a0 S4a1 S4a2
  refine (HU.out _).mono ?_
  rintro e w7 ⟨rfl, h7⟩
  obtain ⟨Sz, h7⟩ := slotN _ _ _ _ _ _ h7
  replace Sp := Sp.on h7
  replace Sq := Sq.on h7
  replace Sy := Sy.on h7
  replace hw := hw.trans h7
  clear h7 S3 S4
  go_wp2_with fail
  refine (HV.out _).mono ?_
  rintro e w8 ⟨rfl, h8⟩
  replace h8 := (slotN _ _ _ _ _ _ h8).2
  replace Sp := Sp.on h8
  replace Sq := Sq.on h8
  replace Sy := Sy.on h8
  replace Sz := Sz.on h8
  replace hw := hw.trans h8
  clear h8
  obtain ⟨Spc0, Spc1, Spc2, Spc3, Spc4, Spc5⟩ := id Sp
  have Spa0 := fun o => (Sp.on (Below.box _ o)).1
  have Spa1 := fun o => (Sp.on (Below.box _ o)).2.1
  have Spa2 := fun o => (Sp.on (Below.box _ o)).2.2.1
  obtain ⟨Sqc0, Sqc1, Sqc2, Sqc3, Sqc4, Sqc5⟩ := id Sq
  have Sqa0 := fun o => (Sq.on (Below.box _ o)).1
  have Sqa1 := fun o => (Sq.on (Below.box _ o)).2.1
  have Sqa2 := fun o => (Sq.on (Below.box _ o)).2.2.1
  go_wp2_with fail
  clear Spc0 Spc1 Spc2 Spc3 Spc4 Spc5 Spa0 Spa1 Spa2 Sqc0 Sqc1 Sqc2 Sqc3 Sqc4 Sqc5 Sqa0 Sqa1 Sqa2
  refine (HW.out _).mono ?_
  rintro e w9 ⟨rfl, h9⟩
  obtain ⟨Sv, h9⟩ := slotN _ _ _ _ _ _ h9
  replace Sy := Sy.on h9
  replace Sz := Sz.on h9
  replace hw := hw.trans h9
  clear h9 Sp Sq
  go_wp2_with fail
  refine (alive2_any _).mono ?_
  rintro e w10 ⟨rfl, h10⟩
  obtain ⟨Sw, h10⟩ := slotN _ _ _ _ _ _ h10
  replace Sy := Sy.on h10
  replace Sz := Sz.on h10
  replace Sv := Sv.on h10
  replace hw := hw.trans h10
  clear h10 HX HP HQ HY HZ HU HV HW
  obtain ⟨Syc0, Syc1, Syc2, Syc3, Syc4, Syc5⟩ := id Sy
  have Sya0 := fun o => (Sy.on (Below.box _ o)).1
  have Sya1 := fun o => (Sy.on (Below.box _ o)).2.1
  have Sya2 := fun o => (Sy.on (Below.box _ o)).2.2.1
  obtain ⟨Szc0, Szc1, Szc2, Szc3, Szc4, Szc5⟩ := id Sz
  have Sza0 := fun o => (Sz.on (Below.box _ o)).1
  have Sza1 := fun o => (Sz.on (Below.box _ o)).2.1
  have Sza2 := fun o => (Sz.on (Below.box _ o)).2.2.1
  obtain ⟨Svc0, Svc1, Svc2, Svc3, Svc4, Svc5⟩ := id Sv
  have Sva0 := fun o => (Sv.on (Below.box _ o)).1
  have Sva1 := fun o => (Sv.on (Below.box _ o)).2.1
  have Sva2 := fun o => (Sv.on (Below.box _ o)).2.2.1
  obtain ⟨Swc0, Swc1, Swc2, Swc3, Swc4, Swc5⟩ := id Sw
  have Swa0 := fun o => (Sw.on (Below.box _ o)).1
  have Swa1 := fun o => (Sw.on (Below.box _ o)).2.1
  have Swa2 := fun o => (Sw.on (Below.box _ o)).2.2.1
  go_wp2
  go_ret
  exact ⟨rfl, hw⟩

theorem Nots_any (a b : Vl) (w : World) : Calls Try.prog 7 #[.agg #[.int .u8 a.k, .int .i64 a.n, .string a.s], .agg #[.int .u8 b.k, .int .i64 b.n, .string b.s]] w fun e w' => e = .returned (.bool true) ∧ Below w.heap.size w w' := by
  cases g1 : (decide (1000 < a.s.size) || decide (1000 < b.s.size)) with
  | true => exact nots_great _ _ _ _ _ _ w g1
  | false =>
    by_cases h : (a.right = true ∧ b.right = true) ∧ a.k ≤ 1 ∧ b.k ≤ 1
    · obtain ⟨t1, t2, t3, t4, t5, t6, t7, t8⟩ := nots_good a b h.1.1 h.1.2 h.2.1 h.2.2
      have pr : ∀ (x : Vl × Int), x.2 = 0 → x = (x.1, 0) := fun x h => Prod.ext rfl h
      exact nots_true a.k b.k _ _ _ _ _ _ a.n b.n _ _ _ _ _ _ a.s b.s _ _ _ _ _ _ w g1
        (fun W => pr _ t1 ▸ And_any a b W) (fun W => pr _ t2 ▸ Not_any a W) (fun W => pr _ t3 ▸ Not_any b W) (fun W => pr _ t4 ▸ Not_any _ W)
        (fun W => (t5.trans (pr _ t4)) ▸ Or_any _ _ W) (fun W => pr _ t6 ▸ Or_any a b W) (fun W => pr _ t7 ▸ Not_any _ W) (fun W => (t8.trans (pr _ t7)) ▸ And_any _ _ W)
    · have hE := nots_bad a b h
      exact nots_false a.k b.k (decideV false a b).1.k (notV a).1.k (notV b).1.k a.n b.n (decideV false a b).1.n (notV a).1.n (notV b).1.n (decideV false a b).2 (notV a).2 (notV b).2
        a.s b.s (decideV false a b).1.s (notV a).1.s (notV b).1.s w g1 (bne_iff_ne.2 hE) (fun W => And_any a b W) (fun W => Not_any a W) (fun W => Not_any b W)

end Go.Proofs.Yteepnbdkpelbiab
