/- The walks of Get: varint's and hindsightref01's. -/
import Derived.Test.YtfldjmjnjeemeaaVWalks
namespace Go.Proofs.Ytfldjmjnjeemeaa
open Go.RowKit

theorem Try.sizeOf5 : ∀ w, (Go.sizeOf 5).run Try.prog w = .ok 1 w := by
  obtain ⟨i0, hi, hz0, hz1, hz2⟩ := info_parts Try.info5
  intro w
  have h := run_sizeOf (P := Try.prog) w hi
  have e : Try.prog.cellsOf 5 = 1 := by kernel_rfl
  rw [e] at h; exact h

end Go.Proofs.Ytfldjmjnjeemeaa
