/- The walks of cell.add, sub, mul, div, mod: int64s. -/
import Derived.Test.YtfldjmjnjeemeaaCRight
import Derived.Lib.Hide
namespace Go.Proofs.Ytfldjmjnjeemeaa
open Go.RowKit

theorem fits_yes {n : Int} (h1 : -9223372036854775808 ≤ n) (h2 : n ≤ 9223372036854775807) : fits n = true := (fits_iff n).2 ⟨h1, h2⟩
theorem fits_no {n : Int} (h : n < -9223372036854775808 ∨ 9223372036854775807 < n) : fits n = false := by
  cases hf : fits n with
  | false => rfl
  | true => have := (fits_iff n).1 hf; omega

theorem div_fits (x y : Int) (hx1 : -9223372036854775808 ≤ x) (hx2 : x ≤ 9223372036854775807) (hy : y ≠ 0) (h : ¬ (x = -9223372036854775808 ∧ y = -1)) : -9223372036854775808 ≤ x.tdiv y ∧ x.tdiv y ≤ 9223372036854775807 := by
  have h1 : (x.tdiv y).natAbs = x.natAbs / y.natAbs := Int.natAbs_tdiv x y
  by_cases hy1 : y = -1
  · subst hy1
    rw [Int.tdiv_neg, Int.tdiv_one]; omega
  · by_cases hy2 : y = 1
    · subst hy2; rw [Int.tdiv_one]; omega
    · have : x.natAbs / y.natAbs ≤ x.natAbs / 2 := Nat.div_le_div_left (by omega) (by omega)
      omega

theorem mod_fits (x y : Int) (hx1 : -9223372036854775808 ≤ x) (hx2 : x ≤ 9223372036854775807) : -9223372036854775808 ≤ x.tmod y ∧ x.tmod y ≤ 9223372036854775807 := by
  have h1 : (x.tmod y).natAbs = x.natAbs % y.natAbs := Int.natAbs_tmod x y
  have h2 : x.natAbs % y.natAbs ≤ x.natAbs := Nat.mod_le _ _
  have h3 : 0 ≤ x → 0 ≤ x.tmod y := fun h => Int.tmod_nonneg y h
  by_cases h : 0 ≤ x
  · have := h3 h; omega
  · have h4 : x.tmod y = -((-x).tmod y) := by rw [Int.neg_tmod]; simp
    have h5 := Int.tmod_nonneg y (show 0 ≤ -x by omega)
    omega

end Go.Proofs.Ytfldjmjnjeemeaa
