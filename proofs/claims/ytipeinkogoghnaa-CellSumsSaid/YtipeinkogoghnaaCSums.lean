/- The walk of the law CellSums. -/
import Derived.Test.YtipeinkogoghnaaCMul
import Derived.Test.YtipeinkogoghnaaCSlots
namespace Go.Proofs.Ytipeinkogoghnaa
open Go.RowKit

theorem sums_great (k1 k2 : Nat) (n1 n2 : Int) (s1 s2 : ByteArray) (w : World) (g1 : (decide (1000 < s1.size) || decide (1000 < s2.size)) = true) :
    Calls Try.prog 3 #[.agg #[.int .u8 k1, .int .i64 n1, .string s1], .agg #[.int .u8 k2, .int .i64 n2, .string s2]] w fun e w' => e = .returned (.bool true) ∧ Below w.heap.size w w' := by
  go_enter Try.func3, Try.ntmps3
  go_wp2_with fail
  refine (great_anyA k1 k2 n1 n2 s1 s2 _).mono ?_
  rw [g1]
  rintro e w1 ⟨rfl, hb⟩
  obtain ⟨S3, S4, hz⟩ := slots2 _ _ _ _ _ _ _ _ _ hb
  have hw : Below w.heap.size w w1 := Below.trans (((Below.refl _ _).alloc (Nat.le_refl _) _).alloc (by simp) _) (Below.mono hb (by simp <;> omega))
  clear hb
  go_wp2_with fail
  refine (alive2_any _).mono ?_
  rintro e w9 ⟨rfl, hb⟩
  go_wp2
  go_ret
  exact ⟨rfl, hw.trans (Below.mono hb (by omega))⟩

set_option maxHeartbeats 8000000 in
theorem sums_main (k1 k2 ka kb kc kd ke kn : Nat) (n1 n2 na nb nc nd ne nn ea eb ec ed ee en : Int) (s1 s2 sa sb sc sd se sn : ByteArray) (w : World) (g1 : (decide (1000 < s1.size) || decide (1000 < s2.size)) = false)
    (HA1 : Hid (∀ W, Calls Try.prog 10 #[.agg #[.int .u8 k1, .int .i64 n1, .string s1], .agg #[.int .u8 k2, .int .i64 n2, .string s2]] W (RetV W (⟨ka, na, sa⟩, ea))))
    (HA2 : Hid (∀ W, Calls Try.prog 11 #[.agg #[.int .u8 k1, .int .i64 n1, .string s1], .agg #[.int .u8 k2, .int .i64 n2, .string s2]] W (RetV W (⟨ka, na, sa⟩, ea))))
    (HB1 : Hid (∀ W, Calls Try.prog 12 #[.agg #[.int .u8 k1, .int .i64 n1, .string s1], .agg #[.int .u8 k2, .int .i64 n2, .string s2]] W (RetV W (⟨kb, nb, sb⟩, eb))))
    (HB2 : Hid (∀ W, Calls Try.prog 13 #[.agg #[.int .u8 k1, .int .i64 n1, .string s1], .agg #[.int .u8 k2, .int .i64 n2, .string s2]] W (RetV W (⟨kb, nb, sb⟩, eb))))
    (HC1 : Hid (∀ W, Calls Try.prog 14 #[.agg #[.int .u8 k1, .int .i64 n1, .string s1], .agg #[.int .u8 k2, .int .i64 n2, .string s2]] W (RetV W (⟨kc, nc, sc⟩, ec))))
    (HC2 : Hid (∀ W, Calls Try.prog 15 #[.agg #[.int .u8 k1, .int .i64 n1, .string s1], .agg #[.int .u8 k2, .int .i64 n2, .string s2]] W (RetV W (⟨kc, nc, sc⟩, ec))))
    (HD1 : Hid (∀ W, Calls Try.prog 16 #[.agg #[.int .u8 k1, .int .i64 n1, .string s1], .agg #[.int .u8 k2, .int .i64 n2, .string s2]] W (RetV W (⟨kd, nd, sd⟩, ed))))
    (HD2 : Hid (∀ W, Calls Try.prog 17 #[.agg #[.int .u8 k1, .int .i64 n1, .string s1], .agg #[.int .u8 k2, .int .i64 n2, .string s2], .bool false] W (RetV W (⟨kd, nd, sd⟩, ed))))
    (HE1 : Hid (∀ W, Calls Try.prog 18 #[.agg #[.int .u8 k1, .int .i64 n1, .string s1], .agg #[.int .u8 k2, .int .i64 n2, .string s2]] W (RetV W (⟨ke, ne, se⟩, ee))))
    (HE2 : Hid (∀ W, Calls Try.prog 17 #[.agg #[.int .u8 k1, .int .i64 n1, .string s1], .agg #[.int .u8 k2, .int .i64 n2, .string s2], .bool true] W (RetV W (⟨ke, ne, se⟩, ee))))
    (HN1 : Hid (∀ W, Calls Try.prog 19 #[.agg #[.int .u8 k1, .int .i64 n1, .string s1]] W (RetV W (⟨kn, nn, sn⟩, en))))
    (HN2 : Hid (∀ W, Calls Try.prog 13 #[.agg #[.int .u8 1, .int .i64 0, .string ⟨#[]⟩], .agg #[.int .u8 k1, .int .i64 n1, .string s1]] W (RetV W (⟨kn, nn, sn⟩, en)))) :
    Calls Try.prog 3 #[.agg #[.int .u8 k1, .int .i64 n1, .string s1], .agg #[.int .u8 k2, .int .i64 n2, .string s2]] w fun e w' => e = .returned (.bool true) ∧ Below w.heap.size w w' := by
  go_enter Try.func3, Try.ntmps3
  go_wp2_with fail
  refine (great_anyA k1 k2 n1 n2 s1 s2 _).mono ?_
  rw [g1]
  rintro e w1 ⟨rfl, hb⟩
  obtain ⟨S3, S4, hz⟩ := slots2 _ _ _ _ _ _ _ _ _ hb
  have hw : Below w.heap.size w w1 := Below.trans (((Below.refl _ _).alloc (Nat.le_refl _) _).alloc (by simp) _) (Below.mono hb (by simp <;> omega))
  clear hb
  obtain ⟨S3c0, S3c1, S3c2, S3c3, S3c4, S3c5⟩ := id S3
  have S3a0 := fun o => (S3.on (Below.box _ o)).1
  have S3a1 := fun o => (S3.on (Below.box _ o)).2.1
  have S3a2 := fun o => (S3.on (Below.box _ o)).2.2.1
  obtain ⟨S4c0, S4c1, S4c2, S4c3, S4c4, S4c5⟩ := id S4
  have S4a0 := fun o => (S4.on (Below.box _ o)).1
  have S4a1 := fun o => (S4.on (Below.box _ o)).2.1
  have S4a2 := fun o => (S4.on (Below.box _ o)).2.2.1
  go_wp2_with fail
  clear S3c0 S3c1 S3c2 S3c3 S3c4 S3c5 S3a0 S3a1 S3a2 S4c0 S4c1 S4c2 S4c3 S4c4 S4c5 S4a0 S4a1 S4a2
  refine (HA1.out _).mono ?_
  rintro e w2 ⟨rfl, hb⟩
  replace S3 := S3.later hb (by omega)
  replace S4 := S4.later hb (by omega)
  replace hw := hw.trans (Below.mono hb (by omega))
  replace hz := Nat.le_trans hz (Below.size hb)
  clear hb
  replace hw : Later w w2 := hw
  obtain ⟨S3c0, S3c1, S3c2, S3c3, S3c4, S3c5⟩ := id S3
  have S3a0 := fun o => (S3.on (Below.box _ o)).1
  have S3a1 := fun o => (S3.on (Below.box _ o)).2.1
  have S3a2 := fun o => (S3.on (Below.box _ o)).2.2.1
  obtain ⟨S4c0, S4c1, S4c2, S4c3, S4c4, S4c5⟩ := id S4
  have S4a0 := fun o => (S4.on (Below.box _ o)).1
  have S4a1 := fun o => (S4.on (Below.box _ o)).2.1
  have S4a2 := fun o => (S4.on (Below.box _ o)).2.2.1
  go_wp2_with fail
  clear S3c0 S3c1 S3c2 S3c3 S3c4 S3c5 S3a0 S3a1 S3a2 S4c0 S4c1 S4c2 S4c3 S4c4 S4c5 S4a0 S4a1 S4a2
  refine (HA2.out _).mono ?_
  rintro e w3 ⟨rfl, h3⟩
  have z3 : w2.heap.size + 1 ≤ w3.heap.size := by have := h3.size; simpa using this
  obtain ⟨SP, h3⟩ := slotN _ _ _ _ _ _ h3
  replace S3 := S3.on h3
  replace S4 := S4.on h3
  replace hw := hw.trans h3
  clear h3
  obtain ⟨S3c0, S3c1, S3c2, S3c3, S3c4, S3c5⟩ := id S3
  have S3a0 := fun o => (S3.on (Below.box _ o)).1
  have S3a1 := fun o => (S3.on (Below.box _ o)).2.1
  have S3a2 := fun o => (S3.on (Below.box _ o)).2.2.1
  obtain ⟨S4c0, S4c1, S4c2, S4c3, S4c4, S4c5⟩ := id S4
  have S4a0 := fun o => (S4.on (Below.box _ o)).1
  have S4a1 := fun o => (S4.on (Below.box _ o)).2.1
  have S4a2 := fun o => (S4.on (Below.box _ o)).2.2.1
  obtain ⟨SPc0, SPc1, SPc2, SPc3, SPc4, SPc5⟩ := id SP
  have SPa0 := fun o => (SP.on (Below.box _ o)).1
  have SPa1 := fun o => (SP.on (Below.box _ o)).2.1
  have SPa2 := fun o => (SP.on (Below.box _ o)).2.2.1
  go_wp2_with fail
  clear S3c0 S3c1 S3c2 S3c3 S3c4 S3c5 S3a0 S3a1 S3a2 S4c0 S4c1 S4c2 S4c3 S4c4 S4c5 S4a0 S4a1 S4a2 SPc0 SPc1 SPc2 SPc3 SPc4 SPc5 SPa0 SPa1 SPa2
  clear HA1 HA2
  refine (HB1.out _).mono ?_
  rintro e w4 ⟨rfl, h4⟩
  obtain ⟨SQ, h4⟩ := slotN _ _ _ _ _ _ h4
  replace S3 := S3.on h4
  replace S4 := S4.on h4
  replace SP := SP.on h4
  replace hw := hw.trans h4
  clear h4
  generalize w2.heap.size = B at *
  generalize w3.heap.size = C at *
  have x1 : ¬ B = w.heap.size := by omega
  have x2 : ¬ w.heap.size = B := by omega
  have x3 : ¬ B = w.heap.size + 1 := by omega
  have x4 : ¬ w.heap.size + 1 = B := by omega
  have x5 : ¬ C = w.heap.size := by omega
  have x6 : ¬ w.heap.size = C := by omega
  have x7 : ¬ C = w.heap.size + 1 := by omega
  have x8 : ¬ w.heap.size + 1 = C := by omega
  have x9 : ¬ B = C := by omega
  have x0 : ¬ C = B := by omega
  have hzB : w.heap.size ≤ B := by omega
  have hzC : w.heap.size ≤ C := by omega
  clear hz z3
  obtain ⟨S3c0, S3c1, S3c2, S3c3, S3c4, S3c5⟩ := id S3
  have S3a0 := fun o => (S3.on (Below.box _ o)).1
  have S3a1 := fun o => (S3.on (Below.box _ o)).2.1
  have S3a2 := fun o => (S3.on (Below.box _ o)).2.2.1
  obtain ⟨S4c0, S4c1, S4c2, S4c3, S4c4, S4c5⟩ := id S4
  have S4a0 := fun o => (S4.on (Below.box _ o)).1
  have S4a1 := fun o => (S4.on (Below.box _ o)).2.1
  have S4a2 := fun o => (S4.on (Below.box _ o)).2.2.1
  obtain ⟨SPc0, SPc1, SPc2, SPc3, SPc4, SPc5⟩ := id SP
  have SPa0 := fun o => (SP.on (Below.box _ o)).1
  have SPa1 := fun o => (SP.on (Below.box _ o)).2.1
  have SPa2 := fun o => (SP.on (Below.box _ o)).2.2.1
  obtain ⟨SQc0, SQc1, SQc2, SQc3, SQc4, SQc5⟩ := id SQ
  have SQa0 := fun o => (SQ.on (Below.box _ o)).1
  have SQa1 := fun o => (SQ.on (Below.box _ o)).2.1
  have SQa2 := fun o => (SQ.on (Below.box _ o)).2.2.1
  go_wp2_with fail
  clear S3c0 S3c1 S3c2 S3c3 S3c4 S3c5 S3a0 S3a1 S3a2 S4c0 S4c1 S4c2 S4c3 S4c4 S4c5 S4a0 S4a1 S4a2 SPc0 SPc1 SPc2 SPc3 SPc4 SPc5 SPa0 SPa1 SPa2 SQc0 SQc1 SQc2 SQc3 SQc4 SQc5 SQa0 SQa1 SQa2
  refine (HB2.out _).mono ?_
  rintro e w5 ⟨rfl, h5⟩
  replace SQ := slotOther SQ _ _ _ x0 h5
  replace S3 := slotOther S3 _ _ _ x2 h5
  replace S4 := slotOther S4 _ _ _ x4 h5
  replace SP := slotSet SP _ _ _ h5
  replace hw := (later_set3 hw hzB _ _ _).trans h5
  clear h5
  obtain ⟨S3c0, S3c1, S3c2, S3c3, S3c4, S3c5⟩ := id S3
  have S3a0 := fun o => (S3.on (Below.box _ o)).1
  have S3a1 := fun o => (S3.on (Below.box _ o)).2.1
  have S3a2 := fun o => (S3.on (Below.box _ o)).2.2.1
  obtain ⟨S4c0, S4c1, S4c2, S4c3, S4c4, S4c5⟩ := id S4
  have S4a0 := fun o => (S4.on (Below.box _ o)).1
  have S4a1 := fun o => (S4.on (Below.box _ o)).2.1
  have S4a2 := fun o => (S4.on (Below.box _ o)).2.2.1
  obtain ⟨SPc0, SPc1, SPc2, SPc3, SPc4, SPc5⟩ := id SP
  have SPa0 := fun o => (SP.on (Below.box _ o)).1
  have SPa1 := fun o => (SP.on (Below.box _ o)).2.1
  have SPa2 := fun o => (SP.on (Below.box _ o)).2.2.1
  obtain ⟨SQc0, SQc1, SQc2, SQc3, SQc4, SQc5⟩ := id SQ
  have SQa0 := fun o => (SQ.on (Below.box _ o)).1
  have SQa1 := fun o => (SQ.on (Below.box _ o)).2.1
  have SQa2 := fun o => (SQ.on (Below.box _ o)).2.2.1
  go_wp2_with fail
  clear S3c0 S3c1 S3c2 S3c3 S3c4 S3c5 S3a0 S3a1 S3a2 S4c0 S4c1 S4c2 S4c3 S4c4 S4c5 S4a0 S4a1 S4a2 SPc0 SPc1 SPc2 SPc3 SPc4 SPc5 SPa0 SPa1 SPa2 SQc0 SQc1 SQc2 SQc3 SQc4 SQc5 SQa0 SQa1 SQa2
  clear HB1 HB2
  refine (HC1.out _).mono ?_
  rintro e w5 ⟨rfl, h5⟩
  replace SP := slotOther SP _ _ _ x9 h5
  replace S3 := slotOther S3 _ _ _ x6 h5
  replace S4 := slotOther S4 _ _ _ x8 h5
  replace SQ := slotSet SQ _ _ _ h5
  replace hw := (later_set3 hw hzC _ _ _).trans h5
  clear h5
  obtain ⟨S3c0, S3c1, S3c2, S3c3, S3c4, S3c5⟩ := id S3
  have S3a0 := fun o => (S3.on (Below.box _ o)).1
  have S3a1 := fun o => (S3.on (Below.box _ o)).2.1
  have S3a2 := fun o => (S3.on (Below.box _ o)).2.2.1
  obtain ⟨S4c0, S4c1, S4c2, S4c3, S4c4, S4c5⟩ := id S4
  have S4a0 := fun o => (S4.on (Below.box _ o)).1
  have S4a1 := fun o => (S4.on (Below.box _ o)).2.1
  have S4a2 := fun o => (S4.on (Below.box _ o)).2.2.1
  obtain ⟨SPc0, SPc1, SPc2, SPc3, SPc4, SPc5⟩ := id SP
  have SPa0 := fun o => (SP.on (Below.box _ o)).1
  have SPa1 := fun o => (SP.on (Below.box _ o)).2.1
  have SPa2 := fun o => (SP.on (Below.box _ o)).2.2.1
  obtain ⟨SQc0, SQc1, SQc2, SQc3, SQc4, SQc5⟩ := id SQ
  have SQa0 := fun o => (SQ.on (Below.box _ o)).1
  have SQa1 := fun o => (SQ.on (Below.box _ o)).2.1
  have SQa2 := fun o => (SQ.on (Below.box _ o)).2.2.1
  go_wp2_with fail
  clear S3c0 S3c1 S3c2 S3c3 S3c4 S3c5 S3a0 S3a1 S3a2 S4c0 S4c1 S4c2 S4c3 S4c4 S4c5 S4a0 S4a1 S4a2 SPc0 SPc1 SPc2 SPc3 SPc4 SPc5 SPa0 SPa1 SPa2 SQc0 SQc1 SQc2 SQc3 SQc4 SQc5 SQa0 SQa1 SQa2
  refine (HC2.out _).mono ?_
  rintro e w5 ⟨rfl, h5⟩
  replace SQ := slotOther SQ _ _ _ x0 h5
  replace S3 := slotOther S3 _ _ _ x2 h5
  replace S4 := slotOther S4 _ _ _ x4 h5
  replace SP := slotSet SP _ _ _ h5
  replace hw := (later_set3 hw hzB _ _ _).trans h5
  clear h5
  obtain ⟨S3c0, S3c1, S3c2, S3c3, S3c4, S3c5⟩ := id S3
  have S3a0 := fun o => (S3.on (Below.box _ o)).1
  have S3a1 := fun o => (S3.on (Below.box _ o)).2.1
  have S3a2 := fun o => (S3.on (Below.box _ o)).2.2.1
  obtain ⟨S4c0, S4c1, S4c2, S4c3, S4c4, S4c5⟩ := id S4
  have S4a0 := fun o => (S4.on (Below.box _ o)).1
  have S4a1 := fun o => (S4.on (Below.box _ o)).2.1
  have S4a2 := fun o => (S4.on (Below.box _ o)).2.2.1
  obtain ⟨SPc0, SPc1, SPc2, SPc3, SPc4, SPc5⟩ := id SP
  have SPa0 := fun o => (SP.on (Below.box _ o)).1
  have SPa1 := fun o => (SP.on (Below.box _ o)).2.1
  have SPa2 := fun o => (SP.on (Below.box _ o)).2.2.1
  obtain ⟨SQc0, SQc1, SQc2, SQc3, SQc4, SQc5⟩ := id SQ
  have SQa0 := fun o => (SQ.on (Below.box _ o)).1
  have SQa1 := fun o => (SQ.on (Below.box _ o)).2.1
  have SQa2 := fun o => (SQ.on (Below.box _ o)).2.2.1
  go_wp2_with fail
  clear S3c0 S3c1 S3c2 S3c3 S3c4 S3c5 S3a0 S3a1 S3a2 S4c0 S4c1 S4c2 S4c3 S4c4 S4c5 S4a0 S4a1 S4a2 SPc0 SPc1 SPc2 SPc3 SPc4 SPc5 SPa0 SPa1 SPa2 SQc0 SQc1 SQc2 SQc3 SQc4 SQc5 SQa0 SQa1 SQa2
  clear HC1 HC2
  refine (HD1.out _).mono ?_
  rintro e w5 ⟨rfl, h5⟩
  replace SP := slotOther SP _ _ _ x9 h5
  replace S3 := slotOther S3 _ _ _ x6 h5
  replace S4 := slotOther S4 _ _ _ x8 h5
  replace SQ := slotSet SQ _ _ _ h5
  replace hw := (later_set3 hw hzC _ _ _).trans h5
  clear h5
  obtain ⟨S3c0, S3c1, S3c2, S3c3, S3c4, S3c5⟩ := id S3
  have S3a0 := fun o => (S3.on (Below.box _ o)).1
  have S3a1 := fun o => (S3.on (Below.box _ o)).2.1
  have S3a2 := fun o => (S3.on (Below.box _ o)).2.2.1
  obtain ⟨S4c0, S4c1, S4c2, S4c3, S4c4, S4c5⟩ := id S4
  have S4a0 := fun o => (S4.on (Below.box _ o)).1
  have S4a1 := fun o => (S4.on (Below.box _ o)).2.1
  have S4a2 := fun o => (S4.on (Below.box _ o)).2.2.1
  obtain ⟨SPc0, SPc1, SPc2, SPc3, SPc4, SPc5⟩ := id SP
  have SPa0 := fun o => (SP.on (Below.box _ o)).1
  have SPa1 := fun o => (SP.on (Below.box _ o)).2.1
  have SPa2 := fun o => (SP.on (Below.box _ o)).2.2.1
  obtain ⟨SQc0, SQc1, SQc2, SQc3, SQc4, SQc5⟩ := id SQ
  have SQa0 := fun o => (SQ.on (Below.box _ o)).1
  have SQa1 := fun o => (SQ.on (Below.box _ o)).2.1
  have SQa2 := fun o => (SQ.on (Below.box _ o)).2.2.1
  go_wp2_with fail
  clear S3c0 S3c1 S3c2 S3c3 S3c4 S3c5 S3a0 S3a1 S3a2 S4c0 S4c1 S4c2 S4c3 S4c4 S4c5 S4a0 S4a1 S4a2 SPc0 SPc1 SPc2 SPc3 SPc4 SPc5 SPa0 SPa1 SPa2 SQc0 SQc1 SQc2 SQc3 SQc4 SQc5 SQa0 SQa1 SQa2
  refine (HD2.out _).mono ?_
  rintro e w5 ⟨rfl, h5⟩
  replace SQ := slotOther SQ _ _ _ x0 h5
  replace S3 := slotOther S3 _ _ _ x2 h5
  replace S4 := slotOther S4 _ _ _ x4 h5
  replace SP := slotSet SP _ _ _ h5
  replace hw := (later_set3 hw hzB _ _ _).trans h5
  clear h5
  obtain ⟨S3c0, S3c1, S3c2, S3c3, S3c4, S3c5⟩ := id S3
  have S3a0 := fun o => (S3.on (Below.box _ o)).1
  have S3a1 := fun o => (S3.on (Below.box _ o)).2.1
  have S3a2 := fun o => (S3.on (Below.box _ o)).2.2.1
  obtain ⟨S4c0, S4c1, S4c2, S4c3, S4c4, S4c5⟩ := id S4
  have S4a0 := fun o => (S4.on (Below.box _ o)).1
  have S4a1 := fun o => (S4.on (Below.box _ o)).2.1
  have S4a2 := fun o => (S4.on (Below.box _ o)).2.2.1
  obtain ⟨SPc0, SPc1, SPc2, SPc3, SPc4, SPc5⟩ := id SP
  have SPa0 := fun o => (SP.on (Below.box _ o)).1
  have SPa1 := fun o => (SP.on (Below.box _ o)).2.1
  have SPa2 := fun o => (SP.on (Below.box _ o)).2.2.1
  obtain ⟨SQc0, SQc1, SQc2, SQc3, SQc4, SQc5⟩ := id SQ
  have SQa0 := fun o => (SQ.on (Below.box _ o)).1
  have SQa1 := fun o => (SQ.on (Below.box _ o)).2.1
  have SQa2 := fun o => (SQ.on (Below.box _ o)).2.2.1
  go_wp2_with fail
  clear S3c0 S3c1 S3c2 S3c3 S3c4 S3c5 S3a0 S3a1 S3a2 S4c0 S4c1 S4c2 S4c3 S4c4 S4c5 S4a0 S4a1 S4a2 SPc0 SPc1 SPc2 SPc3 SPc4 SPc5 SPa0 SPa1 SPa2 SQc0 SQc1 SQc2 SQc3 SQc4 SQc5 SQa0 SQa1 SQa2
  clear HD1 HD2
  refine (HE1.out _).mono ?_
  rintro e w5 ⟨rfl, h5⟩
  replace SP := slotOther SP _ _ _ x9 h5
  replace S3 := slotOther S3 _ _ _ x6 h5
  replace S4 := slotOther S4 _ _ _ x8 h5
  replace SQ := slotSet SQ _ _ _ h5
  replace hw := (later_set3 hw hzC _ _ _).trans h5
  clear h5
  obtain ⟨S3c0, S3c1, S3c2, S3c3, S3c4, S3c5⟩ := id S3
  have S3a0 := fun o => (S3.on (Below.box _ o)).1
  have S3a1 := fun o => (S3.on (Below.box _ o)).2.1
  have S3a2 := fun o => (S3.on (Below.box _ o)).2.2.1
  obtain ⟨S4c0, S4c1, S4c2, S4c3, S4c4, S4c5⟩ := id S4
  have S4a0 := fun o => (S4.on (Below.box _ o)).1
  have S4a1 := fun o => (S4.on (Below.box _ o)).2.1
  have S4a2 := fun o => (S4.on (Below.box _ o)).2.2.1
  obtain ⟨SPc0, SPc1, SPc2, SPc3, SPc4, SPc5⟩ := id SP
  have SPa0 := fun o => (SP.on (Below.box _ o)).1
  have SPa1 := fun o => (SP.on (Below.box _ o)).2.1
  have SPa2 := fun o => (SP.on (Below.box _ o)).2.2.1
  obtain ⟨SQc0, SQc1, SQc2, SQc3, SQc4, SQc5⟩ := id SQ
  have SQa0 := fun o => (SQ.on (Below.box _ o)).1
  have SQa1 := fun o => (SQ.on (Below.box _ o)).2.1
  have SQa2 := fun o => (SQ.on (Below.box _ o)).2.2.1
  go_wp2_with fail
  clear S3c0 S3c1 S3c2 S3c3 S3c4 S3c5 S3a0 S3a1 S3a2 S4c0 S4c1 S4c2 S4c3 S4c4 S4c5 S4a0 S4a1 S4a2 SPc0 SPc1 SPc2 SPc3 SPc4 SPc5 SPa0 SPa1 SPa2 SQc0 SQc1 SQc2 SQc3 SQc4 SQc5 SQa0 SQa1 SQa2
  refine (HE2.out _).mono ?_
  rintro e w5 ⟨rfl, h5⟩
  replace SQ := slotOther SQ _ _ _ x0 h5
  replace S3 := slotOther S3 _ _ _ x2 h5
  replace S4 := slotOther S4 _ _ _ x4 h5
  replace SP := slotSet SP _ _ _ h5
  replace hw := (later_set3 hw hzB _ _ _).trans h5
  clear h5
  obtain ⟨S3c0, S3c1, S3c2, S3c3, S3c4, S3c5⟩ := id S3
  have S3a0 := fun o => (S3.on (Below.box _ o)).1
  have S3a1 := fun o => (S3.on (Below.box _ o)).2.1
  have S3a2 := fun o => (S3.on (Below.box _ o)).2.2.1
  obtain ⟨S4c0, S4c1, S4c2, S4c3, S4c4, S4c5⟩ := id S4
  have S4a0 := fun o => (S4.on (Below.box _ o)).1
  have S4a1 := fun o => (S4.on (Below.box _ o)).2.1
  have S4a2 := fun o => (S4.on (Below.box _ o)).2.2.1
  obtain ⟨SPc0, SPc1, SPc2, SPc3, SPc4, SPc5⟩ := id SP
  have SPa0 := fun o => (SP.on (Below.box _ o)).1
  have SPa1 := fun o => (SP.on (Below.box _ o)).2.1
  have SPa2 := fun o => (SP.on (Below.box _ o)).2.2.1
  obtain ⟨SQc0, SQc1, SQc2, SQc3, SQc4, SQc5⟩ := id SQ
  have SQa0 := fun o => (SQ.on (Below.box _ o)).1
  have SQa1 := fun o => (SQ.on (Below.box _ o)).2.1
  have SQa2 := fun o => (SQ.on (Below.box _ o)).2.2.1
  go_wp2_with fail
  clear S3c0 S3c1 S3c2 S3c3 S3c4 S3c5 S3a0 S3a1 S3a2 S4c0 S4c1 S4c2 S4c3 S4c4 S4c5 S4a0 S4a1 S4a2 SPc0 SPc1 SPc2 SPc3 SPc4 SPc5 SPa0 SPa1 SPa2 SQc0 SQc1 SQc2 SQc3 SQc4 SQc5 SQa0 SQa1 SQa2
  clear HE1 HE2
  refine (HN1.out _).mono ?_
  rintro e w5 ⟨rfl, h5⟩
  replace SP := slotOther SP _ _ _ x9 h5
  replace S3 := slotOther S3 _ _ _ x6 h5
  replace S4 := slotOther S4 _ _ _ x8 h5
  replace SQ := slotSet SQ _ _ _ h5
  replace hw := (later_set3 hw hzC _ _ _).trans h5
  clear h5
  obtain ⟨S3c0, S3c1, S3c2, S3c3, S3c4, S3c5⟩ := id S3
  have S3a0 := fun o => (S3.on (Below.box _ o)).1
  have S3a1 := fun o => (S3.on (Below.box _ o)).2.1
  have S3a2 := fun o => (S3.on (Below.box _ o)).2.2.1
  obtain ⟨S4c0, S4c1, S4c2, S4c3, S4c4, S4c5⟩ := id S4
  have S4a0 := fun o => (S4.on (Below.box _ o)).1
  have S4a1 := fun o => (S4.on (Below.box _ o)).2.1
  have S4a2 := fun o => (S4.on (Below.box _ o)).2.2.1
  obtain ⟨SPc0, SPc1, SPc2, SPc3, SPc4, SPc5⟩ := id SP
  have SPa0 := fun o => (SP.on (Below.box _ o)).1
  have SPa1 := fun o => (SP.on (Below.box _ o)).2.1
  have SPa2 := fun o => (SP.on (Below.box _ o)).2.2.1
  obtain ⟨SQc0, SQc1, SQc2, SQc3, SQc4, SQc5⟩ := id SQ
  have SQa0 := fun o => (SQ.on (Below.box _ o)).1
  have SQa1 := fun o => (SQ.on (Below.box _ o)).2.1
  have SQa2 := fun o => (SQ.on (Below.box _ o)).2.2.1
  go_wp2_with fail
  clear S3c0 S3c1 S3c2 S3c3 S3c4 S3c5 S3a0 S3a1 S3a2 S4c0 S4c1 S4c2 S4c3 S4c4 S4c5 S4a0 S4a1 S4a2 SPc0 SPc1 SPc2 SPc3 SPc4 SPc5 SPa0 SPa1 SPa2 SQc0 SQc1 SQc2 SQc3 SQc4 SQc5 SQa0 SQa1 SQa2
  obtain ⟨W0, hW0⟩ : ∃ W0, W0 = (((w5.setCell ⟨B, 0, none⟩ (.int .u8 kn)).setCell ⟨B, 1, none⟩ (.int .i64 nn)).setCell ⟨B, 2, none⟩ (.string sn)) := ⟨_, rfl⟩
  rw [← hW0]
  have h5 : Later (((w5.setCell ⟨B, 0, none⟩ (.int .u8 kn)).setCell ⟨B, 1, none⟩ (.int .i64 nn)).setCell ⟨B, 2, none⟩ (.string sn)) W0 := hW0 ▸ Later.refl _
  clear hW0
  replace SQ := slotOther SQ _ _ _ x0 h5
  replace S3 := slotOther S3 _ _ _ x2 h5
  replace SP := slotSet SP _ _ _ h5
  replace hw := (later_set3 hw hzB _ _ _).trans h5
  clear h5 S4
  have b3 : w.heap.size < W0.heap.size := World.block_lt_of_cell? _ _ S3.1
  have a0 := fun W (h : LaterB C W0.drew W) => (h.undrew.cell (o := 0) b3 x6).trans S3.1
  have a1 := fun W (h : LaterB C W0.drew W) => (h.undrew.cell (o := 1) b3 x6).trans S3.2.1
  have a2 := fun W (h : LaterB C W0.drew W) => (h.undrew.cell (o := 2) b3 x6).trans S3.2.2.1
  refine wp_region_ordB C [(1, true), (0, false), (2, false), (3, true), (4, true), (5, true), (6, false), (7, true)] (by kernel_rfl) (by kernel_rfl) (by kernel_rfl) (by kernel_rfl) ?_
  repeat (first | (refine wpO_F (v := ?_) rfl (by rfl) (fun w' hL => ?_) ?_; rotate_left; (solve | (go_simp; with_reducible rfl) | go_simp); try simp only [Act.put, List.setIfInBounds_toArray, List.set_cons_zero, List.set_cons_succ]) | (refine wpO_G rfl (by rfl) ?_; try simp only [Act.put, List.setIfInBounds_toArray, List.set_cons_zero, List.set_cons_succ]))
  refine wpO_C rfl (by rfl) ?_
  go_simp
  refine (rnumber_any 0 _).mono ?_
  rintro e w6 ⟨rfl, h1⟩
  refine ⟨Later.toB h1 _, ?_⟩
  try simp only [Act.put, List.setIfInBounds_toArray, List.set_cons_zero, List.set_cons_succ]
  replace SP := (SP.drew).on h1
  replace SQ := (SQ.drew).on h1
  replace hw := hw.trans (Later.undrew h1)
  clear h1 a0 a1 a2 S3
  refine wpO_C rfl (by rfl) ?_
  go_simp
  refine (HN2.out _).mono ?_
  rintro e w7 ⟨rfl, h2⟩
  refine ⟨Later.toB h2 _, ?_⟩
  try simp only [Act.put, List.setIfInBounds_toArray, List.set_cons_zero, List.set_cons_succ]
  replace SP := SP.on h2
  replace SQ := SQ.on h2
  replace hw := hw.trans h2
  clear h2 HN1 HN2
  repeat (first | (refine wpO_F (v := ?_) rfl (by rfl) (fun w' hL => ?_) ?_; rotate_left; (solve | (go_simp; with_reducible rfl) | go_simp); try simp only [Act.put, List.setIfInBounds_toArray, List.set_cons_zero, List.set_cons_succ]) | (refine wpO_G rfl (by rfl) ?_; try simp only [Act.put, List.setIfInBounds_toArray, List.set_cons_zero, List.set_cons_succ]))
  obtain ⟨p0, p1, p2, p3, p4, p5⟩ := id SQ
  refine wpO_C rfl (by rfl) ?_
  go_simp
  refine ⟨((LaterB.setCell _).trans (LaterB.setCell _)).trans (LaterB.setCell _), ?_⟩
  try simp only [Act.put, List.setIfInBounds_toArray, List.set_cons_zero, List.set_cons_succ]
  repeat (first | (refine wpO_F (v := ?_) rfl (by rfl) (fun w' hL => ?_) ?_; rotate_left; (solve | (go_simp; with_reducible rfl) | go_simp); try simp only [Act.put, List.setIfInBounds_toArray, List.set_cons_zero, List.set_cons_succ]) | (refine wpO_G rfl (by rfl) ?_; try simp only [Act.put, List.setIfInBounds_toArray, List.set_cons_zero, List.set_cons_succ]))
  refine wpO_nil ?_
  clear p0 p1 p2 p3 p4 p5
  go_wp2_with fail
  refine (alive2_any _).mono ?_
  rintro e w8 ⟨rfl, h5⟩
  replace SP := slotOther SP _ _ _ x9 h5
  replace SQ := slotSet SQ _ _ _ h5
  replace hw := (later_set3 hw hzC _ _ _).trans h5
  clear h5
  obtain ⟨SPc0, SPc1, SPc2, SPc3, SPc4, SPc5⟩ := id SP
  have SPa0 := fun o => (SP.on (Below.box _ o)).1
  have SPa1 := fun o => (SP.on (Below.box _ o)).2.1
  have SPa2 := fun o => (SP.on (Below.box _ o)).2.2.1
  obtain ⟨SQc0, SQc1, SQc2, SQc3, SQc4, SQc5⟩ := id SQ
  have SQa0 := fun o => (SQ.on (Below.box _ o)).1
  have SQa1 := fun o => (SQ.on (Below.box _ o)).2.1
  have SQa2 := fun o => (SQ.on (Below.box _ o)).2.2.1
  go_wp2
  go_ret
  exact ⟨rfl, hw⟩

theorem Sums_any (a b : Vl) (w : World) (ha : a.ok) (hb : b.ok) : Calls Try.prog 3 #[.agg #[.int .u8 a.k, .int .i64 a.n, .string a.s], .agg #[.int .u8 b.k, .int .i64 b.n, .string b.s]] w fun e w' => e = .returned (.bool true) ∧ Below w.heap.size w w' := by
  cases g1 : (decide (1000 < a.s.size) || decide (1000 < b.s.size)) with
  | true => exact sums_great _ _ _ _ _ _ w g1
  | false =>
    exact sums_main a.k b.k _ _ _ _ _ _ a.n b.n _ _ _ _ _ _ _ _ _ _ _ _ a.s b.s _ _ _ _ _ _ w g1
      (fun W => Add_any a b W ha hb) (fun W => rAdd_any a b W ha hb) (fun W => Sub_any a b W ha hb) (fun W => rSub_any a b W ha hb) (fun W => Mul_any a b W ha hb) (fun W => rMul_any a b W ha hb)
      (fun W => Div_any a b W ha hb) (fun W => rDiv_any a b W ha hb) (fun W => Mod_any a b W ha hb) (fun W => rMod_any a b W ha hb) (fun W => Neg_any a W ha)
      (fun W => rSub_any ⟨1, 0, ⟨#[]⟩⟩ a W (ok_num 0 (by omega) (by omega)) ha)

end Go.Proofs.Ytipeinkogoghnaa
