/- The walks of record.isRow and what it calls. -/
import Derived.Test.YtfldjmjnjeemeaaRGreat
import Derived.Test.YtfldjmjnjeemeaaCTruth
namespace Go.Proofs.Ytfldjmjnjeemeaa
open Go.RowKit

/-- Where the first one is that isn't valid: -1 if there is none. -/
def RetIx (w : World) (l : List Vl) (e : Ending) (w' : World) : Prop := ∃ r : Int, e = .returned (.int .i64 r) ∧ (decide (0 ≤ r) = !(l.all Vl.right)) ∧ -1 ≤ r ∧ Below w.heap.size w w'

theorem all_take (l : List Vl) (k : Nat) (h : k < l.length) : (l.take (k + 1)).all Vl.right = ((l.take k).all Vl.right && l[k].right) := by
  rw [List.take_succ_eq_append_getElem h, List.all_append]; simp only [List.all_cons, List.all_nil, Bool.and_true]

theorem all_false (l : List Vl) (k : Nat) (h : k < l.length) (hk : l[k].right = false) : l.all Vl.right = false := by
  rw [List.all_eq_false]
  exact ⟨l[k], List.getElem_mem h, by simp [hk]⟩

end Go.Proofs.Ytfldjmjnjeemeaa
