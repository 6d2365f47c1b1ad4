/- Plain mathematics of layer 2: the values of SQL. -/
import Derived.Laws.BitsAllLaws
import Derived.WalkKit
namespace Go.Proofs.Ytfldjmjnjeemeaa

/-- A value: its kind, its integer, its text. -/
structure Vl where
  k : Nat
  n : Int
  s : ByteArray
  deriving DecidableEq

/-- A value's fields fit their types. -/
def Vl.ok (x : Vl) : Prop := x.k < 256 ∧ -9223372036854775808 ≤ x.n ∧ x.n ≤ 9223372036854775807

def Vl.right (x : Vl) : Bool :=
  if x.k = 0 then decide (x.n = 0) && decide (x.s.size = 0)
  else if x.k = 1 then decide (x.s.size = 0)
  else if x.k = 2 ∨ x.k = 3 then decide (x.n = 0)
  else false

def nullV : Vl := ⟨0, 0, ⟨#[]⟩⟩
def numV (n : Int) : Vl := ⟨1, n, ⟨#[]⟩⟩

/-- Does an int64 hold it? -/
def fits (n : Int) : Bool := decide (-9223372036854775808 ≤ n ∧ n ≤ 9223372036854775807)

def addI (x y : Int) : Int × Int := if fits (x + y) then (x + y, 0) else (0, 21)
def subI (x y : Int) : Int × Int := if fits (x - y) then (x - y, 0) else (0, 21)
def mulI (x y : Int) : Int × Int := if fits (x * y) then (x * y, 0) else (0, 21)
def divI (x y : Int) : Int × Int := if y = 0 then (0, 22) else if fits (x.tdiv y) then (x.tdiv y, 0) else (0, 21)
def modI (x y : Int) : Int × Int := if y = 0 then (0, 22) else (x.tmod y, 0)

/-- An operation on two values. -/
def arithV (op : Int → Int → Int × Int) (a b : Vl) : Vl × Int :=
  if a.right = false ∨ b.right = false then (nullV, 3)
  else if 1 < a.k ∨ 1 < b.k then (nullV, 20)
  else if a.k = 0 ∨ b.k = 0 then (nullV, 0)
  else if (op a.n b.n).2 ≠ 0 then (nullV, (op a.n b.n).2) else (numV (op a.n b.n).1, 0)

theorem fits_iff (n : Int) : fits n = true ↔ -9223372036854775808 ≤ n ∧ n ≤ 9223372036854775807 := by simp [fits]

/-- A product that wrapped doesn't give back its factor. -/
theorem mul_back (x y : Int) (hx1 : -9223372036854775808 ≤ x) (hx2 : x ≤ 9223372036854775807) (hy1 : -9223372036854775808 ≤ y) (hy2 : y ≤ 9223372036854775807) (hy : y ≠ 0)
    (hf : fits (x * y) = false) : (IntKind.i64.wrap (x * y)).tdiv y ≠ x := by
  intro h
  have hnf : ¬ (-9223372036854775808 ≤ x * y ∧ x * y ≤ 9223372036854775807) := by
    intro hh; rw [(fits_iff _).2 hh] at hf; cases hf
  have hdm := Int.tdiv_mul_add_tmod (IntKind.i64.wrap (x * y)) y
  rw [h] at hdm
  have hlt : ((IntKind.i64.wrap (x * y)).tmod y).natAbs < y.natAbs := by rw [Int.natAbs_tmod]; exact Nat.mod_lt _ (by omega)
  rw [IntKind.wrap_i64] at *
  generalize x * y = p at *
  omega

end Go.Proofs.Ytfldjmjnjeemeaa
