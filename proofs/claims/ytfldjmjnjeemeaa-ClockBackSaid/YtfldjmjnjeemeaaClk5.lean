/- Clock: Read. -/
import Derived.Test.YtfldjmjnjeemeaaClk4
import Derived.Test.YtfldjmjnjeemeaaClk3
import Derived.Test.YtfldjmjnjeemeaaTree
namespace Go.Proofs.Ytfldjmjnjeemeaa
open Go.RowKit

def RetRd (b : List Nat) (w : World) (e : Ending) (w' : World) : Prop := e = .returned (.tuple #[.agg #[.int .i64 (rdS b).1.1, .int .i64 (rdS b).1.2], .int .i64 (rdS b).2]) ∧ Below w.heap.size w w'
theorem RetRd.mk {b : List Nat} {x y z : Int} {w w' : World} (h : rdS b = ((x, y), z)) (hb : Below w.heap.size w w') : RetRd b w (.returned (.tuple #[.agg #[.int .i64 x, .int .i64 y], .int .i64 z])) w' := by
  unfold RetRd; rw [h]; exact ⟨rfl, hb⟩
theorem alloc_chg (w : World) (T : TypeId) (c d : Array Value) {S : List Nat} (h : w.heap.size ∈ S) : Chg S (w.alloc (.cells c T)) (w.alloc (.cells d T)) :=
  ⟨rfl, rfl, rfl, by simp, fun k hk hn => by
    have : k < w.heap.size := by
      have h1 : k ≠ w.heap.size := fun e => hn (e ▸ h)
      simp at hk; omega
    rw [Below.heap_alloc _ _ _ this, Below.heap_alloc _ _ _ this]⟩
theorem rdS_zero : rdS z64 = ((-9223372036854775808, 0), 0) := by unfold rdS; rw [if_pos rfl]

set_option maxRecDepth 100000 in
set_option maxHeartbeats 1000000 in
theorem CRead_zero (w : World) : Calls Try.prog 15 #[.agg (byL z64)] w (RetRd z64 w) := by
  have HR : Hid (∀ w', Below w.heap.size w w' → RetRd z64 w (.returned (.tuple #[.agg #[.int .i64 (-9223372036854775808), .int .i64 0], .int .i64 0])) w') := fun w' hb => RetRd.mk rdS_zero hb
  generalize RetRd z64 w = R at *
  have HL := Lib.hid (load64 ((Blk.new w 24 (byL z64)).alloc (.cells #[.int .i64 0, .int .i64 0] 23)) z64_len)
  have HBd := Lib.hid build64
  have heq : ∀ W, (Op.equalIn 10000 24 (.agg (byL z64)) (.agg (byL z64))).run Try.prog W = .ok true W := fun W => (eql_byL z64 z64 z64_len z64_len z64_lt z64_lt W).trans (by simp)
  go_enter Try.func15, Try.ntmps15
  go_wp2_with (first | (guard_target =~ wpList _ _ _ (Oper.mk _ (Op.load 24 _) _ _ _ _ :: _) _ _; refine wpList_loadV rfl 24 _ rfl rfl HL.out ?_) | (guard_target =~ wpList _ _ _ (Oper.mk _ (Op.build 24 _) _ _ _ _ :: _) _ _; refine wpList_val rfl (exec_build0 rfl (HBd.out _)) ?_))
  clear heq
  refine bodyPost_ret (v := .tuple #[.agg #[.int .i64 (-9223372036854775808), .int .i64 0], .int .i64 0]) (by simp [results, Try.results15, go_sem]) rfl (HR.out _ ?_)
  repeat (refine Below.setCell ?_ (by first | exact Nat.le_refl _ | (simp; done) | (simp; omega)) _)
  exact ((Below.refl _ _).alloc (Nat.le_refl _) _).alloc (by simp) _
end Go.Proofs.Ytfldjmjnjeemeaa
