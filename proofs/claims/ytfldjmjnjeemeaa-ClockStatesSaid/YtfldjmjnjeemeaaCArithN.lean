/- The walks of cell.arith where an argument is null. -/
import Derived.Test.YtfldjmjnjeemeaaCArith
namespace Go.Proofs.Ytfldjmjnjeemeaa
open Go.RowKit

theorem right_n : Vl.right ⟨0, 0, ⟨#[]⟩⟩ = true := by decide
theorem right_i (n : Int) : Vl.right ⟨1, n, ⟨#[]⟩⟩ = true := by simp [Vl.right]; rfl
theorem num0 : decide (0 ≤ 1) = true := by decide
theorem num1 : decide (1 ≤ 1) = true := by decide

theorem right_cases0 (x : Vl) (h : x.right = true) (hk : x.k ≤ 1) : x = ⟨0, 0, ⟨#[]⟩⟩ ∨ x = ⟨1, x.n, ⟨#[]⟩⟩ := by
  obtain ⟨k, n, s⟩ := x
  rcases kinds k with rfl | rfl | rfl | rfl | h3
  · obtain ⟨rfl, rfl⟩ := right_null h; exact .inl rfl
  · have := right_num h; subst this; exact .inr rfl
  · simp only at hk; omega
  · simp only at hk; omega
  · simp only at hk; omega

end Go.Proofs.Ytfldjmjnjeemeaa
