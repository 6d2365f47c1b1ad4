/- The walks of record.encode and record.Write. -/
import Derived.Test.YtfldjmjnjeemeaaRIs
namespace Go.Proofs.Ytfldjmjnjeemeaa
open Go.RowKit

theorem encV_ne (x : Vl) : encV x ≠ [] := by
  unfold encV; split
  · simp
  · split <;> simp

theorem textL_ne (s : ByteArray) : textL s ≠ [] := by
  intro h
  have := congrArg List.length h
  have := putL_pos s.size
  unfold textL at *
  rw [List.length_append] at *
  simp only [List.length_nil] at *
  omega

end Go.Proofs.Ytfldjmjnjeemeaa
