/- The walks of layer 2's small functions. -/
import Derived.Test.YtfldjmjnjeemeaaOrd
import Derived.Test.YtfldjmjnjeemeaaCMath
namespace Go.Proofs.Ytfldjmjnjeemeaa
open Go.RowKit

theorem ret_b {a b : Bool} (h : a = b) : Ending.returned (.bool a) = .returned (.bool b) := by rw [h]

theorem Below.box (w : World) (o : Obj) : Below w.heap.size w (w.alloc o) := (Below.refl _ _).alloc (Nat.le_refl _) _

theorem kinds (k : Nat) : k = 0 ∨ k = 1 ∨ k = 2 ∨ k = 3 ∨ 3 < k := by omega

theorem right_big {k : Nat} (n : Int) (s : ByteArray) (hk : 3 < k) : Vl.right ⟨k, n, s⟩ = false := by
  unfold Vl.right
  rw [if_neg (by simp only; omega), if_neg (by simp only; omega), if_neg (by simp only; omega)]

end Go.Proofs.Ytfldjmjnjeemeaa
