/- Several texts of one proof, one behind the other. -/
import Derived.Test.YtlcphgomhhejbaaNPk6
set_option linter.unusedSimpArgs false
set_option linter.unusedVariables false

/- The walks of cell.Truth, Bool, Not. -/
namespace Go.Proofs.Ytlcphgomhhejbaa
open Go.RowKit

theorem slots1 (w : World) (T : TypeId) (a0 a1 a2 : Value) (w' : World) (hl : Later (w.alloc (.cells #[a0, a1, a2] T)) w') :
    Slot w' w.heap.size a0 a1 a2 ∧ w.heap.size + 1 ≤ w'.heap.size := by
  have e1 : (w.alloc (.cells #[a0, a1, a2] T)).heap.size = w.heap.size + 1 := by simp
  refine ⟨(Slot.new w T a0 a1 a2).later hl (by rw [e1]; omega), ?_⟩
  have := hl.size
  rw [e1] at this; omega

theorem slots2 (w : World) (T : TypeId) (a0 a1 a2 b0 b1 b2 : Value) (w' : World) (hl : Later ((w.alloc (.cells #[a0, a1, a2] T)).alloc (.cells #[b0, b1, b2] T)) w') :
    Slot w' w.heap.size a0 a1 a2 ∧ Slot w' (w.heap.size + 1) b0 b1 b2 ∧ w.heap.size + 2 ≤ w'.heap.size := by
  have e1 : (w.alloc (.cells #[a0, a1, a2] T)).heap.size = w.heap.size + 1 := by simp
  have e2 : ((w.alloc (.cells #[a0, a1, a2] T)).alloc (.cells #[b0, b1, b2] T)).heap.size = w.heap.size + 1 + 1 := by simp
  have l1 : Later (w.alloc (.cells #[a0, a1, a2] T)) ((w.alloc (.cells #[a0, a1, a2] T)).alloc (.cells #[b0, b1, b2] T)) := (Below.refl _ _).alloc (Nat.le_refl _) _
  refine ⟨((Slot.new w T a0 a1 a2).later l1 (by rw [e1]; omega)).later hl (by rw [e2]; omega), ?_, ?_⟩
  · have := (Slot.new (w.alloc (.cells #[a0, a1, a2] T)) T b0 b1 b2)
    rw [e1] at this
    exact this.later hl (by rw [e2]; omega)
  · have := hl.size
    rw [e2] at this; omega

/-- What Truth answers: is it true, is that known, the error. -/
def truthT (x : Vl) : Bool × Bool × Int :=
  if x.right = false then (false, false, 3) else if 1 < x.k then (false, false, 20) else if x.k = 0 then (false, false, 0) else (x.n != 0, true, 0)

def RetT (w : World) (r : Bool × Bool × Int) (e : Ending) (w' : World) : Prop :=
  e = .returned (.tuple #[.bool r.1, .bool r.2.1, .int .i64 r.2.2]) ∧ Below w.heap.size w w'

def boolV (b : Bool) : Vl := numV (if b then 1 else 0)
end Go.Proofs.Ytlcphgomhhejbaa

/- The walks of cell.Bool, Not, decide, And, Or. -/
namespace Go.Proofs.Ytlcphgomhhejbaa
open Go.RowKit

/-- What Not answers. -/
def notV (x : Vl) : Vl × Int :=
  if (truthT x).2.2 ≠ 0 then (nullV, (truthT x).2.2) else if (truthT x).2.1 = false then (nullV, 0) else (boolV (!(truthT x).1), 0)

/-- What decide answers. -/
def decideV (win : Bool) (a b : Vl) : Vl × Int :=
  if a.right = false ∨ b.right = false then (nullV, 3)
  else if 1 < a.k ∨ 1 < b.k then (nullV, 20)
  else if (truthT a).2.1 = true ∧ (truthT a).1 = win ∨ (truthT b).2.1 = true ∧ (truthT b).1 = win then (boolV win, 0)
  else if (truthT a).2.1 = false ∨ (truthT b).2.1 = false then (nullV, 0)
  else (boolV (!win), 0)

/-- Two truths and the winner decide. -/
def decideB (win y1 kn1 y2 kn2 : Bool) : Vl × Int :=
  if kn1 = true ∧ y1 = win ∨ kn2 = true ∧ y2 = win then (boolV win, 0) else if kn1 = false ∨ kn2 = false then (nullV, 0) else (boolV (!win), 0)

theorem truth_num (x : Vl) (h : x.right = true) (hk : x.k ≤ 1) : (truthT x).2.2 = 0 := by
  unfold truthT
  rw [if_neg (by simp [h]), if_neg (by omega)]
  split <;> rfl

theorem truth_type (x : Vl) (h : x.right = true) (hk : ¬ x.k ≤ 1) : truthT x = (false, false, 20) := by
  unfold truthT
  rw [if_neg (by simp [h]), if_pos (by omega)]

end Go.Proofs.Ytlcphgomhhejbaa

/- The walks of cmp.Compare, cell.Order and cell.Compare. -/
namespace Go.Proofs.Ytlcphgomhhejbaa
open Go.RowKit

def cmpI (x y : Int) : Int := if x < y then -1 else if y < x then 1 else 0
def cmpS (s t : ByteArray) : Int := if Op.bytesLess s.toList t.toList then -1 else if s.toList == t.toList then 0 else 1

/-- The order of two values. -/
def orderV (a b : Vl) : Int :=
  if a = b ∨ a.right = false ∨ b.right = false then 0 else if a.k ≠ b.k then cmpI a.k b.k else if a.n ≠ b.n then cmpI a.n b.n else cmpS a.s b.s

theorem toList_inj {s t : ByteArray} (h : s.toList = t.toList) : s = t := by
  rw [ByteArray.toList_eq, ByteArray.toList_eq] at h
  exact ByteArray.ext (Array.toList_inj.1 h)

theorem ne_bool (k1 k2 : Nat) (n1 n2 : Int) (s1 s2 : ByteArray) (h : (⟨k1, n1, s1⟩ : Vl) ≠ ⟨k2, n2, s2⟩) : ((k1 : Int) == (k2 : Int) && (n1 == n2 && s1.toList == s2.toList)) = false := by
  rw [Bool.eq_false_iff]
  intro hh
  simp only [Bool.and_eq_true, beq_iff_eq] at hh
  obtain ⟨e1, e2, e3⟩ := hh
  apply h
  rw [show k1 = k2 by omega, e2, toList_inj e3]

def RetI (w : World) (n : Int) (e : Ending) (w' : World) : Prop := e = .returned (.int .i64 n) ∧ Below w.heap.size w w'

end Go.Proofs.Ytlcphgomhhejbaa

/- The walk of cell.Compare. -/
namespace Go.Proofs.Ytlcphgomhhejbaa
open Go.RowKit

/-- What Compare answers. -/
def compareV (a b : Vl) : Int × Bool × Int :=
  if a.right = false ∨ b.right = false then (0, false, 3) else if a.k = 0 ∨ b.k = 0 then (0, false, 0) else if a.k ≠ b.k then (0, false, 20) else (orderV a b, true, 0)

def RetC (w : World) (r : Int × Bool × Int) (e : Ending) (w' : World) : Prop := e = .returned (.tuple #[.int .i64 r.1, .bool r.2.1, .int .i64 r.2.2]) ∧ Below w.heap.size w w'

theorem right_null0 (x : Vl) (h : x.right = true) (hk : x.k = 0) : x = ⟨0, 0, ⟨#[]⟩⟩ := by
  obtain ⟨k, n, s⟩ := x
  simp only at hk
  subst hk
  obtain ⟨rfl, rfl⟩ := right_null h
  rfl

end Go.Proofs.Ytlcphgomhhejbaa
