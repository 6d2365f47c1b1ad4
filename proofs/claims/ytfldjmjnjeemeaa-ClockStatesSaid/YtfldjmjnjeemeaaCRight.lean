/- The walk of cell.Right. -/
import Derived.Test.YtfldjmjnjeemeaaCEq
namespace Go.Proofs.Ytfldjmjnjeemeaa
open Go.RowKit

/-- A boxed value is there in every later world. -/
theorem box_later (w : World) (T : TypeId) (v0 v1 v2 : Value) : ∀ W, Later (w.alloc (.cells #[v0, v1, v2] T)) W →
    W.cell? ⟨w.heap.size, 0, none⟩ = some v0 ∧ W.cell? ⟨w.heap.size, 1, none⟩ = some v1 ∧ W.cell? ⟨w.heap.size, 2, none⟩ = some v2 := by
  intro W h
  have hs : (w.alloc (.cells #[v0, v1, v2] T)).heap.size = w.heap.size + 1 := by simp
  refine ⟨?_, ?_, ?_⟩
  · rw [h.cell (p := ⟨w.heap.size, 0, none⟩) (by rw [hs]; simp), World.cell?_alloc_new]; rfl
  · rw [h.cell (p := ⟨w.heap.size, 1, none⟩) (by rw [hs]; simp), World.cell?_alloc_new]; rfl
  · rw [h.cell (p := ⟨w.heap.size, 2, none⟩) (by rw [hs]; simp), World.cell?_alloc_new]; rfl

theorem Later.undrew {w W : World} (h : Later w.drew W) : Later w W := (Below.refl _ _).drew.trans h

/-- What holds in every later world goes on holding. -/
theorem later_next {w w1 : World} {p : World → Prop} (h : ∀ W, Later w W → p W) (hl : Later w w1) : ∀ W, Later w1 W → p W := fun W hW => h W (hl.trans hW)

end Go.Proofs.Ytfldjmjnjeemeaa
