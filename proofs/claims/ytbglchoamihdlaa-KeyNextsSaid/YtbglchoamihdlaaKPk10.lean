/- Several texts of one proof, one behind the other. -/
import Derived.Test.YtbglchoamihdlaaKPk9

/- The walks of cell.arith at two integers, and at any values, at each of its operations. -/
namespace Go.Proofs.Ytbglchoamihdlaa
open Go.RowKit

def pickV (v q : Int) : Vl × Int := if q ≠ 0 then (nullV, q) else (numV v, 0)

theorem arithV_ii (op : Int → Int → Int × Int) (n1 n2 : Int) : arithV op ⟨1, n1, ⟨#[]⟩⟩ ⟨1, n2, ⟨#[]⟩⟩ = pickV (op n1 n2).1 (op n1 n2).2 := by
  unfold arithV pickV
  rw [right_i, right_i]
  simp

end Go.Proofs.Ytbglchoamihdlaa

/- The walks of cell.Add, Sub, Mul, Div, Mod. -/
namespace Go.Proofs.Ytbglchoamihdlaa
open Go.RowKit

end Go.Proofs.Ytbglchoamihdlaa

/- The walk of hindsightlaw02.alive. -/
namespace Go.Proofs.Ytbglchoamihdlaa
open Go.RowKit

/-- Variables that stand are there in every later world. -/
theorem Slot.on {w w' : World} {b : Nat} {v0 v1 v2 : Value} (h : Slot w b v0 v1 v2) (hl : Later w w') : Slot w' b v0 v1 v2 := h.later hl (World.block_lt_of_cell? _ _ h.1)

theorem Slot.drew {w : World} {b : Nat} {v0 v1 v2 : Value} (h : Slot w b v0 v1 v2) : Slot w.drew b v0 v1 v2 := h

/-- A variable that a call's result is laid in: behind the next call. -/
theorem slotN (w : World) (T : TypeId) (a0 a1 a2 : Value) (w' : World) (hl : Later (w.alloc (.cells #[a0, a1, a2] T)) w') : Slot w' w.heap.size a0 a1 a2 ∧ Later w w' :=
  ⟨(slots1 w T a0 a1 a2 w' hl).1, Later.trans (Below.box w _) hl⟩

theorem ok_num (n : Int) (h1 : -9223372036854775808 ≤ n) (h2 : n ≤ 9223372036854775807) : (numV n).ok := ⟨by show 1 < 256; omega, h1, h2⟩
theorem ok_null : nullV.ok := ⟨by show 0 < 256; omega, by show -9223372036854775808 ≤ (0 : Int); omega, by show (0 : Int) ≤ 9223372036854775807; omega⟩

end Go.Proofs.Ytbglchoamihdlaa

/- The walk of the law CellTotal. -/
namespace Go.Proofs.Ytbglchoamihdlaa
open Go.RowKit

end Go.Proofs.Ytbglchoamihdlaa

/- The walks of the reference's Order and Compare. -/
namespace Go.Proofs.Ytbglchoamihdlaa
open Go.RowKit

end Go.Proofs.Ytbglchoamihdlaa
