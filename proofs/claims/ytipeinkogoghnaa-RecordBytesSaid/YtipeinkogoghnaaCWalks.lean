/- The walks of layer 2's small functions. -/
import Derived.Test.YtipeinkogoghnaaOrd
import Derived.Test.YtipeinkogoghnaaCMath
namespace Go.Proofs.Ytipeinkogoghnaa
open Go.RowKit

theorem ret_b {a b : Bool} (h : a = b) : Ending.returned (.bool a) = .returned (.bool b) := by rw [h]

theorem Below.box (w : World) (o : Obj) : Below w.heap.size w (w.alloc o) := (Below.refl _ _).alloc (Nat.le_refl _) _

theorem null_any (w : World) : Calls Try.prog 58 #[] w fun e w' => e = .returned (.agg #[.int .u8 0, .int .i64 0, .string ⟨#[]⟩]) ∧ Below w.heap.size w w' := by
  go_enter Try.func58, Try.ntmps58
  go_wp2
  exact bodyPost_ret (v := .agg #[.int .u8 0, .int .i64 0, .string ⟨#[]⟩]) (by simp [results, Try.results58, go_sem]) rfl ⟨rfl, Below.box _ _⟩

theorem whole_any (n : Int) (w : World) : Calls Try.prog 41 #[.int .i64 n] w fun e w' => e = .returned (.agg #[.int .u8 1, .int .i64 n, .string ⟨#[]⟩]) ∧ Below w.heap.size w w' := by
  go_enter Try.func41, Try.ntmps41
  go_wp2
  exact bodyPost_ret (v := .agg #[.int .u8 1, .int .i64 n, .string ⟨#[]⟩]) (by simp [results, Try.results41, go_sem]) rfl ⟨rfl, Below.box _ _⟩

theorem rnumber_any (n : Int) (w : World) : Calls Try.prog 20 #[.int .i64 n] w fun e w' => e = .returned (.agg #[.int .u8 1, .int .i64 n, .string ⟨#[]⟩]) ∧ Below w.heap.size w w' := by
  go_enter Try.func20, Try.ntmps20
  go_wp2
  exact bodyPost_ret (v := .agg #[.int .u8 1, .int .i64 n, .string ⟨#[]⟩]) (by simp [results, Try.results20, go_sem]) rfl ⟨rfl, Below.box _ _⟩

theorem kinds (k : Nat) : k = 0 ∨ k = 1 ∨ k = 2 ∨ k = 3 ∨ 3 < k := by omega

theorem isNumeric_any (k : Nat) (n : Int) (s : ByteArray) (w : World) : Calls Try.prog 59 #[.agg #[.int .u8 k, .int .i64 n, .string s]] w fun e w' => e = .returned (.bool (decide (k ≤ 1))) ∧ Below w.heap.size w w' := by
  rcases kinds k with rfl | rfl | rfl | rfl | hk
  all_goals
    go_enter Try.func59, Try.ntmps59
    go_wp2
    all_goals
      go_ret
      exact ⟨ret_b (by first | rfl | (rw [Bool.eq_iff_iff]; simp <;> omega)), Below.box _ _⟩

theorem right_big {k : Nat} (n : Int) (s : ByteArray) (hk : 3 < k) : Vl.right ⟨k, n, s⟩ = false := by
  unfold Vl.right
  rw [if_neg (by simp only; omega), if_neg (by simp only; omega), if_neg (by simp only; omega)]

theorem rright_any (k : Nat) (n : Int) (s : ByteArray) (w : World) : Calls Try.prog 45 #[.agg #[.int .u8 k, .int .i64 n, .string s]] w fun e w' => e = .returned (.bool (Vl.right ⟨k, n, s⟩)) ∧ Below w.heap.size w w' := by
  rcases kinds k with rfl | rfl | rfl | rfl | hk
  all_goals
    go_enter Try.func45, Try.ntmps45
    go_wp2
    all_goals
      go_ret
      exact ⟨ret_b (by first | (rw [right_big _ _ hk]; done) | (rw [right_big _ _ hk]; simp; omega) | (rw [Bool.eq_iff_iff]; simp [Vl.right, *])), Below.box _ _⟩
end Go.Proofs.Ytipeinkogoghnaa
