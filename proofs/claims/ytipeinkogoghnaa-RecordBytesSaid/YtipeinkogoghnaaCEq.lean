/- '==' of two values of SQL. -/
import Derived.Test.YtipeinkogoghnaaCWalks
import Derived.Laws.StructEq
namespace Go.Proofs.Ytipeinkogoghnaa
open Go.RowKit

@[go_sem high] theorem eqV (k k' n n' : Int) (s s' : ByteArray) (w : World) : (Op.equalIn 10000 23 (.agg #[.int .u8 k, .int .i64 n, .string s]) (.agg #[.int .u8 k', .int .i64 n', .string s'])).run Try.prog w = .ok (k == k' && (n == n' && s.toList == s'.toList)) w := by
  have hS : Try.prog.underlying 23 = some (.struct (Try.prog.fieldsOf 23)) := by kernel_rfl
  have hp : Try.prog.stoodInHeld 23 = false := by kernel_rfl
  rw [show (10000 : Nat) = 9999 + 1 from rfl, run_equalIn_agg w 9999 23 _ _ hS hp]
  simp only [Program.fieldsOf, Try.underlying23]
  go_simp
  by_cases h1 : k = k' <;> by_cases h2 : n = n' <;> by_cases h3 : s.toList = s'.toList <;> simp [h1, h2, h3]

@[go_sem] theorem eqGuardV : Try.prog.eqGuardType Try.prog.depth 23 = false := by kernel_rfl

theorem isEmpty_size (s : ByteArray) : s.toList.isEmpty = decide (s.size = 0) := by
  have : s.toList = s.data.toList := ByteArray.toList_eq s
  rw [this]
  cases h : s.data.toList with
  | nil => simp [ByteArray.size, ← Array.length_toList, h]
  | cons x r => simp [ByteArray.size, ← Array.length_toList, h]
end Go.Proofs.Ytipeinkogoghnaa
