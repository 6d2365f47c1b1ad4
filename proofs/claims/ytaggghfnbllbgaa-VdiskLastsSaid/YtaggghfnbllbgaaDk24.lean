/- VdiskLasts: the walk. -/
import Derived.Test.YtaggghfnbllbgaaDk23
namespace Go.Proofs.Ytaggghfnbllbgaa
set_option linter.unusedSimpArgs false
open Go.RowKit

theorem LastM.congr {w0 w : World} {B SB WB : Nat} {d : DS} {sure sure' : Nat → Nat → Nat} {V : Nat → Nat → Value} {W W' : Nat → Nat → List Nat} (h : LastM w0 w B SB WB d sure V W)
    (h1 : ∀ f s, f < 2 → s < 4 → sure f s = sure' f s) (h2 : ∀ f s, f < 2 → s < 4 → W f s = W' f s) : LastM w0 w B SB WB d sure' V W' := by
  refine ⟨h.own, ?_, ⟨h.ri.wb, fun f s hf hs => by rw [← h2 f s hf hs]; exact h.ri.rows f s hf hs, h.ri.apart, fun f s hf hs => by rw [← h2 f s hf hs]; exact h.ri.byte f s hf hs⟩⟩
  have : showA sure = showA sure' := by
    unfold showA
    rw [h1 0 0 (by omega) (by omega), h1 0 1 (by omega) (by omega), h1 0 2 (by omega) (by omega), h1 0 3 (by omega) (by omega), h1 1 0 (by omega) (by omega), h1 1 1 (by omega) (by omega), h1 1 2 (by omega) (by omega), h1 1 3 (by omega) (by omega)]
  rw [← this]
  exact h.sb

/-- The form of a row. -/
theorem RowsI.form {w : World} {WB : Nat} {V : Nat → Nat → Value} {W : Nat → Nat → List Nat} (h : RowsI w WB V W) {f s : Nat} (hf : f < 2) (hs : s < 4) :
    (V f s = .slice none 0 0 ∧ W f s = []) ∨ ∃ g cap, V f s = .slice (some ⟨g, 0, none⟩) (W f s).length cap ∧ g < w.heap.size ∧ ∀ (i c : Nat), (W f s)[i]? = some c → w.cell? ⟨g, i, none⟩ = some (.int .u8 (c : Int)) := by
  have hr := h.rows f s hf hs
  by_cases h0 : W f s = []
  · rcases hr.2 with ⟨h1, _⟩ | ⟨g, cap, cur, h1, _⟩
    · exact .inl ⟨h1, h0⟩
    · refine .inr ⟨g, cap, h1, own_lt hr (by rw [h1]; rfl), fun i c hi => by rw [h0] at hi; simp at hi⟩
  · obtain ⟨g, cap, hv, _, hg⟩ := hr.form (by have := List.length_pos_iff.2 h0; omega)
    refine .inr ⟨g, cap, hv, hg, fun i c hi => ?_⟩
    have := hr.cells (by rw [hv]; rfl) i (.int .u8 (c : Int)) (by unfold cellsB; rw [List.getElem?_map, hi]; rfl)
    rw [Addr.add_mid, Nat.zero_add] at this
    exact this

/-- Partly through the sectors of a file that was synced. -/
def sureJ (sure : Nat → Nat → Nat) (P : List PW) (f j : Nat) : Nat → Nat → Nat := fun g t => if g = f ∧ t < j then syncS sure P f g t else sure g t
def waitJ (P : List PW) (f j : Nat) : Nat → Nat → List Nat := fun g t => if g = f ∧ t < j then [] else waitsOf P g t

theorem sureJ_zero (sure : Nat → Nat → Nat) (P : List PW) (f : Nat) : sureJ sure P f 0 = sure := by
  funext g t; unfold sureJ; rw [if_neg (by omega)]
theorem waitJ_zero (P : List PW) (f : Nat) : waitJ P f 0 = waitsOf P := by
  funext g t; unfold waitJ; rw [if_neg (by omega)]
theorem sureJ_next (sure : Nat → Nat → Nat) (P : List PW) (f j c : Nat) (h : (waitsOf P f j).getLast? = some c) : updS (sureJ sure P f j) f j c = sureJ sure P f (j + 1) := by
  funext g t
  unfold updS sureJ
  by_cases e : g = f ∧ t = j
  · obtain ⟨rfl, rfl⟩ := e
    rw [if_pos ⟨rfl, rfl⟩, if_pos ⟨rfl, by omega⟩]
    unfold syncS
    rw [if_pos rfl, h]; rfl
  · rw [if_neg e]
    by_cases e2 : g = f ∧ t < j
    · rw [if_pos e2, if_pos ⟨e2.1, by omega⟩]
    · rw [if_neg e2, if_neg]
      rintro ⟨h1, h2⟩
      by_cases h3 : t = j
      · exact e ⟨h1, h3⟩
      · exact e2 ⟨h1, by omega⟩
theorem sureJ_none (sure : Nat → Nat → Nat) (P : List PW) (f j : Nat) (h : waitsOf P f j = []) : sureJ sure P f j = sureJ sure P f (j + 1) := by
  funext g t
  unfold sureJ
  by_cases e2 : g = f ∧ t < j
  · rw [if_pos e2, if_pos ⟨e2.1, by omega⟩]
  · rw [if_neg e2]
    by_cases e : g = f ∧ t = j
    · obtain ⟨rfl, rfl⟩ := e
      rw [if_pos ⟨rfl, by omega⟩]
      unfold syncS
      rw [if_pos rfl, h]; rfl
    · rw [if_neg]
      rintro ⟨h1, h2⟩
      by_cases h3 : t = j
      · exact e ⟨h1, h3⟩
      · exact e2 ⟨h1, by omega⟩
theorem waitJ_next (P : List PW) (f j : Nat) : updW (waitJ P f j) f j [] = waitJ P f (j + 1) := by
  funext g t
  unfold updW waitJ
  by_cases e : g = f ∧ t = j
  · rw [if_pos e, if_pos ⟨e.1, by omega⟩]
  · rw [if_neg e]
    by_cases e2 : g = f ∧ t < j
    · rw [if_pos e2, if_pos ⟨e2.1, by omega⟩]
    · rw [if_neg e2, if_neg]
      rintro ⟨h1, h2⟩
      by_cases h3 : t = j
      · exact e ⟨h1, h3⟩
      · exact e2 ⟨h1, by omega⟩
theorem waitJ_at (P : List PW) (f j : Nat) : waitJ P f j f j = waitsOf P f j := by unfold waitJ; rw [if_neg (by omega)]
theorem updW_snoc (P : List PW) (f s c : Nat) : updW (waitsOf P) f s (waitsOf P f s ++ [c]) = waitsOf (P ++ [(f, s, c)]) := by
  funext g t
  rw [waitsOf_snoc]
  unfold updW atP
  by_cases e : g = f ∧ t = s
  · obtain ⟨rfl, rfl⟩ := e
    rw [if_pos ⟨rfl, rfl⟩, if_pos (by simp)]
  · rw [if_neg e, if_neg]
    simp
    rintro rfl rfl
    exact e ⟨rfl, rfl⟩
end Go.Proofs.Ytaggghfnbllbgaa
