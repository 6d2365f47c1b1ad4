/- The walks of cell.arith at its five operations. -/
import Derived.Test.YtfldjmjnjeemeaaCInt
namespace Go.Proofs.Ytfldjmjnjeemeaa
open Go.RowKit

/-- A variable of three cells, which may be written. -/
def Slot (w : World) (b : Nat) (v0 v1 v2 : Value) : Prop :=
  w.cell? ⟨b, 0, none⟩ = some v0 ∧ w.cell? ⟨b, 1, none⟩ = some v1 ∧ w.cell? ⟨b, 2, none⟩ = some v2 ∧ w.frozen? ⟨b, 0, none⟩ = false ∧ w.frozen? ⟨b, 1, none⟩ = false ∧ w.frozen? ⟨b, 2, none⟩ = false

theorem Slot.later {w w' : World} {b : Nat} {v0 v1 v2 : Value} (h : Slot w b v0 v1 v2) (hl : Later w w') (hb : b < w.heap.size) : Slot w' b v0 v1 v2 := by
  obtain ⟨h0, h1, h2, f0, f1, f2⟩ := h
  exact ⟨(hl.cell (p := ⟨b, 0, none⟩) hb).trans h0, (hl.cell (p := ⟨b, 1, none⟩) hb).trans h1, (hl.cell (p := ⟨b, 2, none⟩) hb).trans h2,
    (hl.frozen (p := ⟨b, 0, none⟩) hb).trans f0, (hl.frozen (p := ⟨b, 1, none⟩) hb).trans f1, (hl.frozen (p := ⟨b, 2, none⟩) hb).trans f2⟩

theorem Slot.new (w : World) (T : TypeId) (v0 v1 v2 : Value) : Slot (w.alloc (.cells #[v0, v1, v2] T)) w.heap.size v0 v1 v2 := by
  refine ⟨?_, ?_, ?_, ?_, ?_, ?_⟩
  · rw [World.cell?_alloc_new]; rfl
  · rw [World.cell?_alloc_new]; rfl
  · rw [World.cell?_alloc_new]; rfl
  · simp only [World.frozen?]; rw [heap_alloc_new]; simp
  · simp only [World.frozen?]; rw [heap_alloc_new]; simp
  · simp only [World.frozen?]; rw [heap_alloc_new]; simp

/-- Three variables, one behind the other. -/
theorem slots3 (w : World) (T : TypeId) (a0 a1 a2 b0 b1 b2 c0 c1 c2 : Value) (w' : World) (hl : Later (((w.alloc (.cells #[a0, a1, a2] T)).alloc (.cells #[b0, b1, b2] T)).alloc (.cells #[c0, c1, c2] T)) w') :
    Slot w' w.heap.size a0 a1 a2 ∧ Slot w' (w.heap.size + 1) b0 b1 b2 ∧ Slot w' (w.heap.size + 1 + 1) c0 c1 c2 ∧ w.heap.size + 3 ≤ w'.heap.size := by
  have e1 : (w.alloc (.cells #[a0, a1, a2] T)).heap.size = w.heap.size + 1 := by simp
  have e2 : ((w.alloc (.cells #[a0, a1, a2] T)).alloc (.cells #[b0, b1, b2] T)).heap.size = w.heap.size + 1 + 1 := by simp
  have e3 : (((w.alloc (.cells #[a0, a1, a2] T)).alloc (.cells #[b0, b1, b2] T)).alloc (.cells #[c0, c1, c2] T)).heap.size = w.heap.size + 1 + 1 + 1 := by simp
  have l1 : Later (w.alloc (.cells #[a0, a1, a2] T)) ((w.alloc (.cells #[a0, a1, a2] T)).alloc (.cells #[b0, b1, b2] T)) := (Below.refl _ _).alloc (Nat.le_refl _) _
  have l2 : Later ((w.alloc (.cells #[a0, a1, a2] T)).alloc (.cells #[b0, b1, b2] T)) (((w.alloc (.cells #[a0, a1, a2] T)).alloc (.cells #[b0, b1, b2] T)).alloc (.cells #[c0, c1, c2] T)) := (Below.refl _ _).alloc (Nat.le_refl _) _
  refine ⟨(((Slot.new w T a0 a1 a2).later l1 (by rw [e1]; omega)).later l2 (by rw [e2]; omega)).later hl (by rw [e3]; omega), ?_, ?_, ?_⟩
  · have := (Slot.new (w.alloc (.cells #[a0, a1, a2] T)) T b0 b1 b2)
    rw [e1] at this
    exact (this.later l2 (by rw [e2]; omega)).later hl (by rw [e3]; omega)
  · have := (Slot.new ((w.alloc (.cells #[a0, a1, a2] T)).alloc (.cells #[b0, b1, b2] T)) T c0 c1 c2)
    rw [e2] at this
    exact this.later hl (by rw [e3]; omega)
  · have := hl.size
    rw [e3] at this; omega

/-- A call hands back a value and an error. -/
def RetV (w : World) (r : Vl × Int) (e : Ending) (w' : World) : Prop :=
  e = .returned (.tuple #[.agg #[.int .u8 r.1.k, .int .i64 r.1.n, .string r.1.s], .int .i64 r.2]) ∧ Below w.heap.size w w'

theorem right_null {n : Int} {s : ByteArray} (h : Vl.right ⟨0, n, s⟩ = true) : n = 0 ∧ s = ⟨#[]⟩ := by
  simp [Vl.right] at h
  exact ⟨h.1, h.2⟩
theorem right_num {n : Int} {s : ByteArray} (h : Vl.right ⟨1, n, s⟩ = true) : s = ⟨#[]⟩ := by
  simp [Vl.right] at h
  exact h

end Go.Proofs.Ytfldjmjnjeemeaa
