/- The walk of the law CellTruths. -/
import Derived.Test.YteepnbdkpelbiaaCRefO
import Derived.Test.YteepnbdkpelbiaaCRefN
import Derived.Test.YteepnbdkpelbiaaCJoinC
namespace Go.Proofs.Yteepnbdkpelbiaa
open Go.RowKit

theorem great_anyA (k1 k2 : Nat) (n1 n2 : Int) (s1 s2 : ByteArray) (w : World) : Calls Try.prog 24 #[.agg #[.int .u8 k1, .int .i64 n1, .string s1], .agg #[.int .u8 k2, .int .i64 n2, .string s2]] w fun e w' => e = .returned (.bool (decide (1000 < s1.size) || decide (1000 < s2.size))) ∧ Below w.heap.size w w' := by
  have hb : Below w.heap.size w ((w.alloc (.cells #[.int .u8 k1, .int .i64 n1, .string s1] 43)).alloc (.cells #[.int .u8 k2, .int .i64 n2, .string s2] 43)) := ((Below.refl _ _).alloc (Nat.le_refl _) _).alloc (by simp) _
  by_cases h1 : 1000 < s1.size
  · have HR : Hid ((decide (1000 < s1.size) || decide (1000 < s2.size)) = true) := by simp [Hid, h1]
    go_enter Try.func24, Try.ntmps24
    go_wp2
    go_ret
    refine ⟨?_, hb⟩
    simp [h1]
  · have HR : Hid ((decide (1000 < s1.size) || decide (1000 < s2.size)) = decide (1000 < s2.size)) := by simp [Hid, h1]
    have hq : decide ((1000 : Int) < (s1.size : Int)) = false := by simp; omega
    by_cases h2 : 1000 < s2.size
    · have HR2 : Hid (decide (1000 < s2.size) = true) := by simp [Hid, h2]
      go_enter Try.func24, Try.ntmps24
      go_wp2
      go_ret
      refine ⟨?_, hb⟩
      simp [h1, h2]
      try omega
    · have HR2 : Hid (decide (1000 < s2.size) = false) := by simp [Hid, h2]
      have hq2 : decide ((1000 : Int) < (s2.size : Int)) = false := by simp; omega
      go_enter Try.func24, Try.ntmps24
      go_wp2
      go_ret
      refine ⟨?_, hb⟩
      simp [h1, h2]
      try omega

theorem truths_great (k1 k2 : Nat) (n1 n2 : Int) (s1 s2 : ByteArray) (w : World) (g1 : (decide (1000 < s1.size) || decide (1000 < s2.size)) = true) :
    Calls Try.prog 8 #[.agg #[.int .u8 k1, .int .i64 n1, .string s1], .agg #[.int .u8 k2, .int .i64 n2, .string s2]] w fun e w' => e = .returned (.bool true) ∧ Below w.heap.size w w' := by
  go_enter Try.func8, Try.ntmps8
  go_wp2_with fail
  refine (great_anyA k1 k2 n1 n2 s1 s2 _).mono ?_
  rw [g1]
  rintro e w1 ⟨rfl, hb⟩
  obtain ⟨S3, S4, hz⟩ := slots2 _ _ _ _ _ _ _ _ _ hb
  have hw : Below w.heap.size w w1 := Below.trans (((Below.refl _ _).alloc (Nat.le_refl _) _).alloc (by simp) _) (Below.mono hb (by simp <;> omega))
  clear hb
  go_wp2_with fail
  refine (alive2_any _).mono ?_
  rintro e w9 ⟨rfl, hb⟩
  go_wp2
  go_ret
  exact ⟨rfl, hw.trans (Below.mono hb (by omega))⟩

/-- A struct is stored anew, then something is called: its own slot, and another's. -/
theorem slotSet {W w' : World} {B : Nat} {p0 p1 p2 : Value} (S : Slot W B p0 p1 p2) (v0 v1 v2 : Value)
    (hl : Later (((W.setCell ⟨B, 0, none⟩ v0).setCell ⟨B, 1, none⟩ v1).setCell ⟨B, 2, none⟩ v2) w') : Slot w' B v0 v1 v2 := by
  refine Slot.on (w := ((W.setCell ⟨B, 0, none⟩ v0).setCell ⟨B, 1, none⟩ v1).setCell ⟨B, 2, none⟩ v2) ?_ hl
  obtain ⟨h0, h1, h2, h3, h4, h5⟩ := S
  have e0 := World.cell?_setCell_same W ⟨B, 0, none⟩ v0 h0
  have e1 : ((W.setCell ⟨B, 0, none⟩ v0).setCell ⟨B, 1, none⟩ v1).cell? ⟨B, 0, none⟩ = some v0 := (World.cell?_setCell_other _ _ _ _ (by simp)).trans e0
  have f1 : (W.setCell ⟨B, 0, none⟩ v0).cell? ⟨B, 1, none⟩ = some p1 := (World.cell?_setCell_other _ _ _ _ (by simp)).trans h1
  have f2 := World.cell?_setCell_same _ ⟨B, 1, none⟩ v1 f1
  have g1 : (W.setCell ⟨B, 0, none⟩ v0).cell? ⟨B, 2, none⟩ = some p2 := (World.cell?_setCell_other _ _ _ _ (by simp)).trans h2
  have g2 : ((W.setCell ⟨B, 0, none⟩ v0).setCell ⟨B, 1, none⟩ v1).cell? ⟨B, 2, none⟩ = some p2 := (World.cell?_setCell_other _ _ _ _ (by simp)).trans g1
  exact ⟨(World.cell?_setCell_other _ _ _ _ (by simp)).trans e1, (World.cell?_setCell_other _ _ _ _ (by simp)).trans f2, World.cell?_setCell_same _ _ _ g2,
    by simp [World.frozen?_setCell, h3], by simp [World.frozen?_setCell, h4], by simp [World.frozen?_setCell, h5]⟩
theorem slotOther {W w' : World} {B C : Nat} {p0 p1 p2 : Value} (S : Slot W C p0 p1 p2) (v0 v1 v2 : Value) (hne : C ≠ B)
    (hl : Later (((W.setCell ⟨B, 0, none⟩ v0).setCell ⟨B, 1, none⟩ v1).setCell ⟨B, 2, none⟩ v2) w') : Slot w' C p0 p1 p2 := by
  refine Slot.on (w := ((W.setCell ⟨B, 0, none⟩ v0).setCell ⟨B, 1, none⟩ v1).setCell ⟨B, 2, none⟩ v2) ?_ hl
  obtain ⟨h0, h1, h2, h3, h4, h5⟩ := S
  have hq : ∀ i j, (⟨C, i, none⟩ : Addr) ≠ ⟨B, j, none⟩ := fun i j h => hne (by simp only [Addr.mk.injEq] at h; exact h.1)
  have hr : ∀ i j, (⟨B, j, none⟩ : Addr) ≠ ⟨C, i, none⟩ := fun i j h => hq i j h.symm
  have key : ∀ i v, W.cell? ⟨C, i, none⟩ = some v → (((W.setCell ⟨B, 0, none⟩ v0).setCell ⟨B, 1, none⟩ v1).setCell ⟨B, 2, none⟩ v2).cell? ⟨C, i, none⟩ = some v := fun i v h =>
    (World.cell?_setCell_other _ _ _ _ (by first | exact hq _ _ | exact hr _ _)).trans ((World.cell?_setCell_other _ _ _ _ (by first | exact hq _ _ | exact hr _ _)).trans ((World.cell?_setCell_other _ _ _ _ (by first | exact hq _ _ | exact hr _ _)).trans h))
  exact ⟨key _ _ h0, key _ _ h1, key _ _ h2, by simp [World.frozen?_setCell, h3], by simp [World.frozen?_setCell, h4], by simp [World.frozen?_setCell, h5]⟩
theorem later_set3 {w0 W : World} {B : Nat} (h : Later w0 W) (hB : w0.heap.size ≤ B) (v0 v1 v2 : Value) : Later w0 (((W.setCell ⟨B, 0, none⟩ v0).setCell ⟨B, 1, none⟩ v1).setCell ⟨B, 2, none⟩ v2) :=
  ((Below.setCell h hB _).setCell hB _).setCell hB _

set_option maxHeartbeats 8000000 in
theorem truths_main (k1 k2 kj ka ko kn : Nat) (n1 n2 nj na no nn ej ea eo en : Int) (s1 s2 sj sa so sn : ByteArray) (y kk : Bool) (g t : Int) (w : World) (g1 : (decide (1000 < s1.size) || decide (1000 < s2.size)) = false)
    (HJ1 : Hid (∀ W, Calls Try.prog 37 #[.agg #[.int .u8 k1, .int .i64 n1, .string s1], .agg #[.int .u8 k2, .int .i64 n2, .string s2]] W (RetV W (⟨kj, nj, sj⟩, ej))))
    (HJ2 : Hid (∀ W, Calls Try.prog 38 #[.agg #[.int .u8 k1, .int .i64 n1, .string s1], .agg #[.int .u8 k2, .int .i64 n2, .string s2]] W (RetV W (⟨kj, nj, sj⟩, ej))))
    (HA1 : Hid (∀ W, Calls Try.prog 39 #[.agg #[.int .u8 k1, .int .i64 n1, .string s1], .agg #[.int .u8 k2, .int .i64 n2, .string s2]] W (RetV W (⟨ka, na, sa⟩, ea))))
    (HA2 : Hid (∀ W, Calls Try.prog 40 #[.agg #[.int .u8 k1, .int .i64 n1, .string s1], .agg #[.int .u8 k2, .int .i64 n2, .string s2]] W (RetV W (⟨ka, na, sa⟩, ea))))
    (HO1 : Hid (∀ W, Calls Try.prog 41 #[.agg #[.int .u8 k1, .int .i64 n1, .string s1], .agg #[.int .u8 k2, .int .i64 n2, .string s2]] W (RetV W (⟨ko, no, so⟩, eo))))
    (HO2 : Hid (∀ W, Calls Try.prog 42 #[.agg #[.int .u8 k1, .int .i64 n1, .string s1], .agg #[.int .u8 k2, .int .i64 n2, .string s2]] W (RetV W (⟨ko, no, so⟩, eo))))
    (HN1 : Hid (∀ W, Calls Try.prog 43 #[.agg #[.int .u8 k1, .int .i64 n1, .string s1]] W (RetV W (⟨kn, nn, sn⟩, en))))
    (HN2 : Hid (∀ W, Calls Try.prog 44 #[.agg #[.int .u8 k1, .int .i64 n1, .string s1]] W (RetV W (⟨kn, nn, sn⟩, en))))
    (HT1 : Hid (∀ W, Calls Try.prog 45 #[.agg #[.int .u8 k1, .int .i64 n1, .string s1]] W (RetT W (y, kk, g))))
    (HT2 : Hid (∀ W, Calls Try.prog 46 #[.agg #[.int .u8 k1, .int .i64 n1, .string s1]] W (RetI2 W (t, g))))
    (HR : Hid ((y = false ∧ kk = false ∧ g = 3 ∧ t = 0) ∨ (y = false ∧ kk = false ∧ g = 20 ∧ t = 0) ∨ (y = false ∧ kk = false ∧ g = 0 ∧ t = 2) ∨ (y = false ∧ kk = true ∧ g = 0 ∧ t = 0) ∨ (y = true ∧ kk = true ∧ g = 0 ∧ t = 1))) :
    Calls Try.prog 8 #[.agg #[.int .u8 k1, .int .i64 n1, .string s1], .agg #[.int .u8 k2, .int .i64 n2, .string s2]] w fun e w' => e = .returned (.bool true) ∧ Below w.heap.size w w' := by
  go_enter Try.func8, Try.ntmps8
  go_wp2_with fail
  refine (great_anyA k1 k2 n1 n2 s1 s2 _).mono ?_
  rw [g1]
  rintro e w1 ⟨rfl, hb⟩
  obtain ⟨S3, S4, hz⟩ := slots2 _ _ _ _ _ _ _ _ _ hb
  have hw : Below w.heap.size w w1 := Below.trans (((Below.refl _ _).alloc (Nat.le_refl _) _).alloc (by simp) _) (Below.mono hb (by simp <;> omega))
  clear hb
  obtain ⟨S3c0, S3c1, S3c2, S3c3, S3c4, S3c5⟩ := id S3
  have S3a0 := fun o => (S3.on (Below.box _ o)).1
  have S3a1 := fun o => (S3.on (Below.box _ o)).2.1
  have S3a2 := fun o => (S3.on (Below.box _ o)).2.2.1
  obtain ⟨S4c0, S4c1, S4c2, S4c3, S4c4, S4c5⟩ := id S4
  have S4a0 := fun o => (S4.on (Below.box _ o)).1
  have S4a1 := fun o => (S4.on (Below.box _ o)).2.1
  have S4a2 := fun o => (S4.on (Below.box _ o)).2.2.1
  go_wp2_with fail
  clear S3c0 S3c1 S3c2 S3c3 S3c4 S3c5 S3a0 S3a1 S3a2 S4c0 S4c1 S4c2 S4c3 S4c4 S4c5 S4a0 S4a1 S4a2
  refine (HJ1.out _).mono ?_
  rintro e w2 ⟨rfl, hb⟩
  replace S3 := S3.later hb (by omega)
  replace S4 := S4.later hb (by omega)
  replace hw := hw.trans (Below.mono hb (by omega))
  replace hz := Nat.le_trans hz (Below.size hb)
  clear hb
  replace hw : Later w w2 := hw
  obtain ⟨S3c0, S3c1, S3c2, S3c3, S3c4, S3c5⟩ := id S3
  have S3a0 := fun o => (S3.on (Below.box _ o)).1
  have S3a1 := fun o => (S3.on (Below.box _ o)).2.1
  have S3a2 := fun o => (S3.on (Below.box _ o)).2.2.1
  obtain ⟨S4c0, S4c1, S4c2, S4c3, S4c4, S4c5⟩ := id S4
  have S4a0 := fun o => (S4.on (Below.box _ o)).1
  have S4a1 := fun o => (S4.on (Below.box _ o)).2.1
  have S4a2 := fun o => (S4.on (Below.box _ o)).2.2.1
  go_wp2_with fail
  clear S3c0 S3c1 S3c2 S3c3 S3c4 S3c5 S3a0 S3a1 S3a2 S4c0 S4c1 S4c2 S4c3 S4c4 S4c5 S4a0 S4a1 S4a2
  refine (HJ2.out _).mono ?_
  rintro e w3 ⟨rfl, h3⟩
  have z3 : w2.heap.size + 1 ≤ w3.heap.size := by have := h3.size; simpa using this
  obtain ⟨SP, h3⟩ := slotN _ _ _ _ _ _ h3
  replace S3 := S3.on h3
  replace S4 := S4.on h3
  replace hw := hw.trans h3
  clear h3
  obtain ⟨S3c0, S3c1, S3c2, S3c3, S3c4, S3c5⟩ := id S3
  have S3a0 := fun o => (S3.on (Below.box _ o)).1
  have S3a1 := fun o => (S3.on (Below.box _ o)).2.1
  have S3a2 := fun o => (S3.on (Below.box _ o)).2.2.1
  obtain ⟨S4c0, S4c1, S4c2, S4c3, S4c4, S4c5⟩ := id S4
  have S4a0 := fun o => (S4.on (Below.box _ o)).1
  have S4a1 := fun o => (S4.on (Below.box _ o)).2.1
  have S4a2 := fun o => (S4.on (Below.box _ o)).2.2.1
  obtain ⟨SPc0, SPc1, SPc2, SPc3, SPc4, SPc5⟩ := id SP
  have SPa0 := fun o => (SP.on (Below.box _ o)).1
  have SPa1 := fun o => (SP.on (Below.box _ o)).2.1
  have SPa2 := fun o => (SP.on (Below.box _ o)).2.2.1
  go_wp2_with fail
  clear S3c0 S3c1 S3c2 S3c3 S3c4 S3c5 S3a0 S3a1 S3a2 S4c0 S4c1 S4c2 S4c3 S4c4 S4c5 S4a0 S4a1 S4a2 SPc0 SPc1 SPc2 SPc3 SPc4 SPc5 SPa0 SPa1 SPa2
  clear HJ1 HJ2
  refine (HA1.out _).mono ?_
  rintro e w4 ⟨rfl, h4⟩
  obtain ⟨SQ, h4⟩ := slotN _ _ _ _ _ _ h4
  replace S3 := S3.on h4
  replace S4 := S4.on h4
  replace SP := SP.on h4
  replace hw := hw.trans h4
  clear h4
  generalize w2.heap.size = B at *
  generalize w3.heap.size = C at *
  have x1 : ¬ B = w.heap.size := by omega
  have x2 : ¬ w.heap.size = B := by omega
  have x3 : ¬ B = w.heap.size + 1 := by omega
  have x4 : ¬ w.heap.size + 1 = B := by omega
  have x5 : ¬ C = w.heap.size := by omega
  have x6 : ¬ w.heap.size = C := by omega
  have x7 : ¬ C = w.heap.size + 1 := by omega
  have x8 : ¬ w.heap.size + 1 = C := by omega
  have x9 : ¬ B = C := by omega
  have x0 : ¬ C = B := by omega
  have hzB : w.heap.size ≤ B := by omega
  have hzC : w.heap.size ≤ C := by omega
  clear hz z3
  obtain ⟨S3c0, S3c1, S3c2, S3c3, S3c4, S3c5⟩ := id S3
  have S3a0 := fun o => (S3.on (Below.box _ o)).1
  have S3a1 := fun o => (S3.on (Below.box _ o)).2.1
  have S3a2 := fun o => (S3.on (Below.box _ o)).2.2.1
  obtain ⟨S4c0, S4c1, S4c2, S4c3, S4c4, S4c5⟩ := id S4
  have S4a0 := fun o => (S4.on (Below.box _ o)).1
  have S4a1 := fun o => (S4.on (Below.box _ o)).2.1
  have S4a2 := fun o => (S4.on (Below.box _ o)).2.2.1
  obtain ⟨SPc0, SPc1, SPc2, SPc3, SPc4, SPc5⟩ := id SP
  have SPa0 := fun o => (SP.on (Below.box _ o)).1
  have SPa1 := fun o => (SP.on (Below.box _ o)).2.1
  have SPa2 := fun o => (SP.on (Below.box _ o)).2.2.1
  obtain ⟨SQc0, SQc1, SQc2, SQc3, SQc4, SQc5⟩ := id SQ
  have SQa0 := fun o => (SQ.on (Below.box _ o)).1
  have SQa1 := fun o => (SQ.on (Below.box _ o)).2.1
  have SQa2 := fun o => (SQ.on (Below.box _ o)).2.2.1
  go_wp2_with fail
  clear S3c0 S3c1 S3c2 S3c3 S3c4 S3c5 S3a0 S3a1 S3a2 S4c0 S4c1 S4c2 S4c3 S4c4 S4c5 S4a0 S4a1 S4a2 SPc0 SPc1 SPc2 SPc3 SPc4 SPc5 SPa0 SPa1 SPa2 SQc0 SQc1 SQc2 SQc3 SQc4 SQc5 SQa0 SQa1 SQa2
  refine (HA2.out _).mono ?_
  rintro e w5 ⟨rfl, h5⟩
  replace SQ := slotOther SQ _ _ _ x0 h5
  replace S3 := slotOther S3 _ _ _ x2 h5
  replace S4 := slotOther S4 _ _ _ x4 h5
  replace SP := slotSet SP _ _ _ h5
  replace hw := (later_set3 hw hzB _ _ _).trans h5
  clear h5
  obtain ⟨S3c0, S3c1, S3c2, S3c3, S3c4, S3c5⟩ := id S3
  have S3a0 := fun o => (S3.on (Below.box _ o)).1
  have S3a1 := fun o => (S3.on (Below.box _ o)).2.1
  have S3a2 := fun o => (S3.on (Below.box _ o)).2.2.1
  obtain ⟨S4c0, S4c1, S4c2, S4c3, S4c4, S4c5⟩ := id S4
  have S4a0 := fun o => (S4.on (Below.box _ o)).1
  have S4a1 := fun o => (S4.on (Below.box _ o)).2.1
  have S4a2 := fun o => (S4.on (Below.box _ o)).2.2.1
  obtain ⟨SPc0, SPc1, SPc2, SPc3, SPc4, SPc5⟩ := id SP
  have SPa0 := fun o => (SP.on (Below.box _ o)).1
  have SPa1 := fun o => (SP.on (Below.box _ o)).2.1
  have SPa2 := fun o => (SP.on (Below.box _ o)).2.2.1
  obtain ⟨SQc0, SQc1, SQc2, SQc3, SQc4, SQc5⟩ := id SQ
  have SQa0 := fun o => (SQ.on (Below.box _ o)).1
  have SQa1 := fun o => (SQ.on (Below.box _ o)).2.1
  have SQa2 := fun o => (SQ.on (Below.box _ o)).2.2.1
  go_wp2_with fail
  clear S3c0 S3c1 S3c2 S3c3 S3c4 S3c5 S3a0 S3a1 S3a2 S4c0 S4c1 S4c2 S4c3 S4c4 S4c5 S4a0 S4a1 S4a2 SPc0 SPc1 SPc2 SPc3 SPc4 SPc5 SPa0 SPa1 SPa2 SQc0 SQc1 SQc2 SQc3 SQc4 SQc5 SQa0 SQa1 SQa2
  clear HA1 HA2
  refine (HO1.out _).mono ?_
  rintro e w6 ⟨rfl, h5⟩
  replace SP := slotOther SP _ _ _ x9 h5
  replace S3 := slotOther S3 _ _ _ x6 h5
  replace S4 := slotOther S4 _ _ _ x8 h5
  replace SQ := slotSet SQ _ _ _ h5
  replace hw := (later_set3 hw hzC _ _ _).trans h5
  clear h5
  obtain ⟨S3c0, S3c1, S3c2, S3c3, S3c4, S3c5⟩ := id S3
  have S3a0 := fun o => (S3.on (Below.box _ o)).1
  have S3a1 := fun o => (S3.on (Below.box _ o)).2.1
  have S3a2 := fun o => (S3.on (Below.box _ o)).2.2.1
  obtain ⟨S4c0, S4c1, S4c2, S4c3, S4c4, S4c5⟩ := id S4
  have S4a0 := fun o => (S4.on (Below.box _ o)).1
  have S4a1 := fun o => (S4.on (Below.box _ o)).2.1
  have S4a2 := fun o => (S4.on (Below.box _ o)).2.2.1
  obtain ⟨SPc0, SPc1, SPc2, SPc3, SPc4, SPc5⟩ := id SP
  have SPa0 := fun o => (SP.on (Below.box _ o)).1
  have SPa1 := fun o => (SP.on (Below.box _ o)).2.1
  have SPa2 := fun o => (SP.on (Below.box _ o)).2.2.1
  obtain ⟨SQc0, SQc1, SQc2, SQc3, SQc4, SQc5⟩ := id SQ
  have SQa0 := fun o => (SQ.on (Below.box _ o)).1
  have SQa1 := fun o => (SQ.on (Below.box _ o)).2.1
  have SQa2 := fun o => (SQ.on (Below.box _ o)).2.2.1
  go_wp2_with fail
  clear S3c0 S3c1 S3c2 S3c3 S3c4 S3c5 S3a0 S3a1 S3a2 S4c0 S4c1 S4c2 S4c3 S4c4 S4c5 S4a0 S4a1 S4a2 SPc0 SPc1 SPc2 SPc3 SPc4 SPc5 SPa0 SPa1 SPa2 SQc0 SQc1 SQc2 SQc3 SQc4 SQc5 SQa0 SQa1 SQa2
  refine (HO2.out _).mono ?_
  rintro e w7 ⟨rfl, h5⟩
  replace SQ := slotOther SQ _ _ _ x0 h5
  replace S3 := slotOther S3 _ _ _ x2 h5
  replace S4 := slotOther S4 _ _ _ x4 h5
  replace SP := slotSet SP _ _ _ h5
  replace hw := (later_set3 hw hzB _ _ _).trans h5
  clear h5
  obtain ⟨S3c0, S3c1, S3c2, S3c3, S3c4, S3c5⟩ := id S3
  have S3a0 := fun o => (S3.on (Below.box _ o)).1
  have S3a1 := fun o => (S3.on (Below.box _ o)).2.1
  have S3a2 := fun o => (S3.on (Below.box _ o)).2.2.1
  obtain ⟨S4c0, S4c1, S4c2, S4c3, S4c4, S4c5⟩ := id S4
  have S4a0 := fun o => (S4.on (Below.box _ o)).1
  have S4a1 := fun o => (S4.on (Below.box _ o)).2.1
  have S4a2 := fun o => (S4.on (Below.box _ o)).2.2.1
  obtain ⟨SPc0, SPc1, SPc2, SPc3, SPc4, SPc5⟩ := id SP
  have SPa0 := fun o => (SP.on (Below.box _ o)).1
  have SPa1 := fun o => (SP.on (Below.box _ o)).2.1
  have SPa2 := fun o => (SP.on (Below.box _ o)).2.2.1
  obtain ⟨SQc0, SQc1, SQc2, SQc3, SQc4, SQc5⟩ := id SQ
  have SQa0 := fun o => (SQ.on (Below.box _ o)).1
  have SQa1 := fun o => (SQ.on (Below.box _ o)).2.1
  have SQa2 := fun o => (SQ.on (Below.box _ o)).2.2.1
  go_wp2_with fail
  clear S3c0 S3c1 S3c2 S3c3 S3c4 S3c5 S3a0 S3a1 S3a2 S4c0 S4c1 S4c2 S4c3 S4c4 S4c5 S4a0 S4a1 S4a2 SPc0 SPc1 SPc2 SPc3 SPc4 SPc5 SPa0 SPa1 SPa2 SQc0 SQc1 SQc2 SQc3 SQc4 SQc5 SQa0 SQa1 SQa2
  clear HO1 HO2
  refine (HN1.out _).mono ?_
  rintro e w8 ⟨rfl, h5⟩
  replace SP := slotOther SP _ _ _ x9 h5
  replace S3 := slotOther S3 _ _ _ x6 h5
  replace S4 := slotOther S4 _ _ _ x8 h5
  replace SQ := slotSet SQ _ _ _ h5
  replace hw := (later_set3 hw hzC _ _ _).trans h5
  clear h5
  obtain ⟨S3c0, S3c1, S3c2, S3c3, S3c4, S3c5⟩ := id S3
  have S3a0 := fun o => (S3.on (Below.box _ o)).1
  have S3a1 := fun o => (S3.on (Below.box _ o)).2.1
  have S3a2 := fun o => (S3.on (Below.box _ o)).2.2.1
  obtain ⟨S4c0, S4c1, S4c2, S4c3, S4c4, S4c5⟩ := id S4
  have S4a0 := fun o => (S4.on (Below.box _ o)).1
  have S4a1 := fun o => (S4.on (Below.box _ o)).2.1
  have S4a2 := fun o => (S4.on (Below.box _ o)).2.2.1
  obtain ⟨SPc0, SPc1, SPc2, SPc3, SPc4, SPc5⟩ := id SP
  have SPa0 := fun o => (SP.on (Below.box _ o)).1
  have SPa1 := fun o => (SP.on (Below.box _ o)).2.1
  have SPa2 := fun o => (SP.on (Below.box _ o)).2.2.1
  obtain ⟨SQc0, SQc1, SQc2, SQc3, SQc4, SQc5⟩ := id SQ
  have SQa0 := fun o => (SQ.on (Below.box _ o)).1
  have SQa1 := fun o => (SQ.on (Below.box _ o)).2.1
  have SQa2 := fun o => (SQ.on (Below.box _ o)).2.2.1
  go_wp2_with fail
  clear S3c0 S3c1 S3c2 S3c3 S3c4 S3c5 S3a0 S3a1 S3a2 S4c0 S4c1 S4c2 S4c3 S4c4 S4c5 S4a0 S4a1 S4a2 SPc0 SPc1 SPc2 SPc3 SPc4 SPc5 SPa0 SPa1 SPa2 SQc0 SQc1 SQc2 SQc3 SQc4 SQc5 SQa0 SQa1 SQa2
  refine (HN2.out _).mono ?_
  rintro e w9 ⟨rfl, h5⟩
  replace SQ := slotOther SQ _ _ _ x0 h5
  replace S3 := slotOther S3 _ _ _ x2 h5
  replace S4 := slotOther S4 _ _ _ x4 h5
  replace SP := slotSet SP _ _ _ h5
  replace hw := (later_set3 hw hzB _ _ _).trans h5
  clear h5
  obtain ⟨S3c0, S3c1, S3c2, S3c3, S3c4, S3c5⟩ := id S3
  have S3a0 := fun o => (S3.on (Below.box _ o)).1
  have S3a1 := fun o => (S3.on (Below.box _ o)).2.1
  have S3a2 := fun o => (S3.on (Below.box _ o)).2.2.1
  obtain ⟨S4c0, S4c1, S4c2, S4c3, S4c4, S4c5⟩ := id S4
  have S4a0 := fun o => (S4.on (Below.box _ o)).1
  have S4a1 := fun o => (S4.on (Below.box _ o)).2.1
  have S4a2 := fun o => (S4.on (Below.box _ o)).2.2.1
  obtain ⟨SPc0, SPc1, SPc2, SPc3, SPc4, SPc5⟩ := id SP
  have SPa0 := fun o => (SP.on (Below.box _ o)).1
  have SPa1 := fun o => (SP.on (Below.box _ o)).2.1
  have SPa2 := fun o => (SP.on (Below.box _ o)).2.2.1
  obtain ⟨SQc0, SQc1, SQc2, SQc3, SQc4, SQc5⟩ := id SQ
  have SQa0 := fun o => (SQ.on (Below.box _ o)).1
  have SQa1 := fun o => (SQ.on (Below.box _ o)).2.1
  have SQa2 := fun o => (SQ.on (Below.box _ o)).2.2.1
  go_wp2_with fail
  clear S3c0 S3c1 S3c2 S3c3 S3c4 S3c5 S3a0 S3a1 S3a2 S4c0 S4c1 S4c2 S4c3 S4c4 S4c5 S4a0 S4a1 S4a2 SPc0 SPc1 SPc2 SPc3 SPc4 SPc5 SPa0 SPa1 SPa2 SQc0 SQc1 SQc2 SQc3 SQc4 SQc5 SQa0 SQa1 SQa2
  clear HN1 HN2
  refine (HT1.out _).mono ?_
  rintro e w10 ⟨rfl, h5⟩
  replace SP := slotOther SP _ _ _ x9 h5
  replace S3 := slotOther S3 _ _ _ x6 h5
  replace S4 := slotOther S4 _ _ _ x8 h5
  replace SQ := slotSet SQ _ _ _ h5
  replace hw := (later_set3 hw hzC _ _ _).trans h5
  clear h5
  obtain ⟨S3c0, S3c1, S3c2, S3c3, S3c4, S3c5⟩ := id S3
  have S3a0 := fun o => (S3.on (Below.box _ o)).1
  have S3a1 := fun o => (S3.on (Below.box _ o)).2.1
  have S3a2 := fun o => (S3.on (Below.box _ o)).2.2.1
  obtain ⟨S4c0, S4c1, S4c2, S4c3, S4c4, S4c5⟩ := id S4
  have S4a0 := fun o => (S4.on (Below.box _ o)).1
  have S4a1 := fun o => (S4.on (Below.box _ o)).2.1
  have S4a2 := fun o => (S4.on (Below.box _ o)).2.2.1
  obtain ⟨SPc0, SPc1, SPc2, SPc3, SPc4, SPc5⟩ := id SP
  have SPa0 := fun o => (SP.on (Below.box _ o)).1
  have SPa1 := fun o => (SP.on (Below.box _ o)).2.1
  have SPa2 := fun o => (SP.on (Below.box _ o)).2.2.1
  obtain ⟨SQc0, SQc1, SQc2, SQc3, SQc4, SQc5⟩ := id SQ
  have SQa0 := fun o => (SQ.on (Below.box _ o)).1
  have SQa1 := fun o => (SQ.on (Below.box _ o)).2.1
  have SQa2 := fun o => (SQ.on (Below.box _ o)).2.2.1
  go_wp2_with fail
  clear S3c0 S3c1 S3c2 S3c3 S3c4 S3c5 S3a0 S3a1 S3a2 S4c0 S4c1 S4c2 S4c3 S4c4 S4c5 S4a0 S4a1 S4a2 SPc0 SPc1 SPc2 SPc3 SPc4 SPc5 SPa0 SPa1 SPa2 SQc0 SQc1 SQc2 SQc3 SQc4 SQc5 SQa0 SQa1 SQa2
  refine (HT2.out _).mono ?_
  rintro e w11 ⟨rfl, h5⟩
  replace SP := SP.on h5
  replace SQ := SQ.on h5
  replace hw := hw.trans h5
  clear h5 HT1 HT2 S3 S4
  go_wp2_with fail
  refine (alive2_any _).mono ?_
  rintro e w12 ⟨rfl, h5⟩
  replace SP := SP.on h5
  replace SQ := SQ.on h5
  replace hw := hw.trans h5
  clear h5
  have hR := HR.out
  clear HR
  rcases hR with ⟨rfl, rfl, rfl, rfl⟩ | ⟨rfl, rfl, rfl, rfl⟩ | ⟨rfl, rfl, rfl, rfl⟩ | ⟨rfl, rfl, rfl, rfl⟩ | ⟨rfl, rfl, rfl, rfl⟩
  all_goals
    obtain ⟨SPc0, SPc1, SPc2, SPc3, SPc4, SPc5⟩ := id SP
    have SPa0 := fun o => (SP.on (Below.box _ o)).1
    have SPa1 := fun o => (SP.on (Below.box _ o)).2.1
    have SPa2 := fun o => (SP.on (Below.box _ o)).2.2.1
    obtain ⟨SQc0, SQc1, SQc2, SQc3, SQc4, SQc5⟩ := id SQ
    have SQa0 := fun o => (SQ.on (Below.box _ o)).1
    have SQa1 := fun o => (SQ.on (Below.box _ o)).2.1
    have SQa2 := fun o => (SQ.on (Below.box _ o)).2.2.1
    go_wp2
    go_ret
    exact ⟨rfl, hw⟩

end Go.Proofs.Yteepnbdkpelbiaa
