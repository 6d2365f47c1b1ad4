/- '==' of two values of SQL. -/
import Derived.Test.YtfldjmjnjeemeaaCWalks
import Derived.Laws.StructEq
namespace Go.Proofs.Ytfldjmjnjeemeaa
open Go.RowKit

theorem isEmpty_size (s : ByteArray) : s.toList.isEmpty = decide (s.size = 0) := by
  have : s.toList = s.data.toList := ByteArray.toList_eq s
  rw [this]
  cases h : s.data.toList with
  | nil => simp [ByteArray.size, ← Array.length_toList, h]
  | cons x r => simp [ByteArray.size, ← Array.length_toList, h]
end Go.Proofs.Ytfldjmjnjeemeaa
