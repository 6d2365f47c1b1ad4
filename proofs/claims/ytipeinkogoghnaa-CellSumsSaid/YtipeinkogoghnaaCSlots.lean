/- Variables that are stored anew, and the guard of layer 2's laws. -/
import Derived.Test.YtipeinkogoghnaaCAlive
namespace Go.Proofs.Ytipeinkogoghnaa
open Go.RowKit

theorem great_anyA (k1 k2 : Nat) (n1 n2 : Int) (s1 s2 : ByteArray) (w : World) : Calls Try.prog 8 #[.agg #[.int .u8 k1, .int .i64 n1, .string s1], .agg #[.int .u8 k2, .int .i64 n2, .string s2]] w fun e w' => e = .returned (.bool (decide (1000 < s1.size) || decide (1000 < s2.size))) ∧ Below w.heap.size w w' := by
  have hb : Below w.heap.size w ((w.alloc (.cells #[.int .u8 k1, .int .i64 n1, .string s1] 23)).alloc (.cells #[.int .u8 k2, .int .i64 n2, .string s2] 23)) := ((Below.refl _ _).alloc (Nat.le_refl _) _).alloc (by simp) _
  by_cases h1 : 1000 < s1.size
  · have HR : Hid ((decide (1000 < s1.size) || decide (1000 < s2.size)) = true) := by simp [Hid, h1]
    go_enter Try.func8, Try.ntmps8
    go_wp2
    go_ret
    refine ⟨?_, hb⟩
    simp [h1]
  · have HR : Hid ((decide (1000 < s1.size) || decide (1000 < s2.size)) = decide (1000 < s2.size)) := by simp [Hid, h1]
    have hq : decide ((1000 : Int) < (s1.size : Int)) = false := by simp; omega
    by_cases h2 : 1000 < s2.size
    · have HR2 : Hid (decide (1000 < s2.size) = true) := by simp [Hid, h2]
      go_enter Try.func8, Try.ntmps8
      go_wp2
      go_ret
      refine ⟨?_, hb⟩
      simp [h1, h2]
      try omega
    · have HR2 : Hid (decide (1000 < s2.size) = false) := by simp [Hid, h2]
      have hq2 : decide ((1000 : Int) < (s2.size : Int)) = false := by simp; omega
      go_enter Try.func8, Try.ntmps8
      go_wp2
      go_ret
      refine ⟨?_, hb⟩
      simp [h1, h2]
      try omega

/-- A struct is stored anew, then something is called: its own slot, and another's. -/
theorem slotSet {W w' : World} {B : Nat} {p0 p1 p2 : Value} (S : Slot W B p0 p1 p2) (v0 v1 v2 : Value)
    (hl : Later (((W.setCell ⟨B, 0, none⟩ v0).setCell ⟨B, 1, none⟩ v1).setCell ⟨B, 2, none⟩ v2) w') : Slot w' B v0 v1 v2 := by
  refine Slot.on (w := ((W.setCell ⟨B, 0, none⟩ v0).setCell ⟨B, 1, none⟩ v1).setCell ⟨B, 2, none⟩ v2) ?_ hl
  obtain ⟨h0, h1, h2, h3, h4, h5⟩ := S
  have e0 := World.cell?_setCell_same W ⟨B, 0, none⟩ v0 h0
  have e1 : ((W.setCell ⟨B, 0, none⟩ v0).setCell ⟨B, 1, none⟩ v1).cell? ⟨B, 0, none⟩ = some v0 := (World.cell?_setCell_other _ _ _ _ (by simp)).trans e0
  have f1 : (W.setCell ⟨B, 0, none⟩ v0).cell? ⟨B, 1, none⟩ = some p1 := (World.cell?_setCell_other _ _ _ _ (by simp)).trans h1
  have f2 := World.cell?_setCell_same _ ⟨B, 1, none⟩ v1 f1
  have g1 : (W.setCell ⟨B, 0, none⟩ v0).cell? ⟨B, 2, none⟩ = some p2 := (World.cell?_setCell_other _ _ _ _ (by simp)).trans h2
  have g2 : ((W.setCell ⟨B, 0, none⟩ v0).setCell ⟨B, 1, none⟩ v1).cell? ⟨B, 2, none⟩ = some p2 := (World.cell?_setCell_other _ _ _ _ (by simp)).trans g1
  exact ⟨(World.cell?_setCell_other _ _ _ _ (by simp)).trans e1, (World.cell?_setCell_other _ _ _ _ (by simp)).trans f2, World.cell?_setCell_same _ _ _ g2,
    by simp [World.frozen?_setCell, h3], by simp [World.frozen?_setCell, h4], by simp [World.frozen?_setCell, h5]⟩
theorem slotOther {W w' : World} {B C : Nat} {p0 p1 p2 : Value} (S : Slot W C p0 p1 p2) (v0 v1 v2 : Value) (hne : C ≠ B)
    (hl : Later (((W.setCell ⟨B, 0, none⟩ v0).setCell ⟨B, 1, none⟩ v1).setCell ⟨B, 2, none⟩ v2) w') : Slot w' C p0 p1 p2 := by
  refine Slot.on (w := ((W.setCell ⟨B, 0, none⟩ v0).setCell ⟨B, 1, none⟩ v1).setCell ⟨B, 2, none⟩ v2) ?_ hl
  obtain ⟨h0, h1, h2, h3, h4, h5⟩ := S
  have hq : ∀ i j, (⟨C, i, none⟩ : Addr) ≠ ⟨B, j, none⟩ := fun i j h => hne (by simp only [Addr.mk.injEq] at h; exact h.1)
  have hr : ∀ i j, (⟨B, j, none⟩ : Addr) ≠ ⟨C, i, none⟩ := fun i j h => hq i j h.symm
  have key : ∀ i v, W.cell? ⟨C, i, none⟩ = some v → (((W.setCell ⟨B, 0, none⟩ v0).setCell ⟨B, 1, none⟩ v1).setCell ⟨B, 2, none⟩ v2).cell? ⟨C, i, none⟩ = some v := fun i v h =>
    (World.cell?_setCell_other _ _ _ _ (by first | exact hq _ _ | exact hr _ _)).trans ((World.cell?_setCell_other _ _ _ _ (by first | exact hq _ _ | exact hr _ _)).trans ((World.cell?_setCell_other _ _ _ _ (by first | exact hq _ _ | exact hr _ _)).trans h))
  exact ⟨key _ _ h0, key _ _ h1, key _ _ h2, by simp [World.frozen?_setCell, h3], by simp [World.frozen?_setCell, h4], by simp [World.frozen?_setCell, h5]⟩
theorem later_set3 {w0 W : World} {B : Nat} (h : Later w0 W) (hB : w0.heap.size ≤ B) (v0 v1 v2 : Value) : Later w0 (((W.setCell ⟨B, 0, none⟩ v0).setCell ⟨B, 1, none⟩ v1).setCell ⟨B, 2, none⟩ v2) :=
  ((Below.setCell h hB _).setCell hB _).setCell hB _

end Go.Proofs.Ytipeinkogoghnaa
