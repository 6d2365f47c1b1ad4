/- The walk of hindsightlaw03.Great. -/
import Derived.Test.YtfldjmjnjeemeaaRKit
namespace Go.Proofs.Ytfldjmjnjeemeaa
open Go.RowKit

/-- The sizes of the texts together. -/
def sumS (l : List Vl) : Nat := (l.map fun x => x.s.size).sum
theorem sumS_take (l : List Vl) (k : Nat) (h : k < l.length) : sumS (l.take (k + 1)) = sumS (l.take k) + l[k].s.size := by
  unfold sumS; rw [List.take_succ_eq_append_getElem h, List.map_append, List.sum_append]; simp only [List.map_cons, List.map_nil, List.sum_cons, List.sum_nil]; omega

/-- A row that a statement isn't too much for. -/
def Small (l : List Vl) : Prop := l.length ≤ 40 ∧ (∀ x ∈ l, x.s.size ≤ 9000) ∧ sumS l ≤ 30000

def RetG (w : World) (l : List Vl) (e : Ending) (w' : World) : Prop := ∃ g : Bool, e = .returned (.bool g) ∧ (g = false → Small l) ∧ w = w'

end Go.Proofs.Ytfldjmjnjeemeaa
