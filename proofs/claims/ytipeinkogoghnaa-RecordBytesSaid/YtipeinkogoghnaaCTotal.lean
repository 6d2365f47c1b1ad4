/- The walk of the law CellTotal. -/
import Derived.Test.YtipeinkogoghnaaCAlive
import Derived.Test.YtipeinkogoghnaaCTotM
namespace Go.Proofs.Ytipeinkogoghnaa
open Go.RowKit

theorem great_any (k1 k2 : Nat) (n1 n2 : Int) (s1 s2 : ByteArray) (w : World) : Calls Try.prog 8 #[.agg #[.int .u8 k1, .int .i64 n1, .string s1], .agg #[.int .u8 k2, .int .i64 n2, .string s2]] w fun e w' => e = .returned (.bool (decide (1000 < s1.size) || decide (1000 < s2.size))) ∧ Below w.heap.size w w' := by
  have hb : Below w.heap.size w ((w.alloc (.cells #[.int .u8 k1, .int .i64 n1, .string s1] 23)).alloc (.cells #[.int .u8 k2, .int .i64 n2, .string s2] 23)) := ((Below.refl _ _).alloc (Nat.le_refl _) _).alloc (by simp) _
  by_cases h1 : 1000 < s1.size
  · have HR : Hid ((decide (1000 < s1.size) || decide (1000 < s2.size)) = true) := by simp [Hid, h1]
    go_enter Try.func8, Try.ntmps8
    go_wp2
    go_ret
    refine ⟨?_, hb⟩
    simp [h1]
  · have HR : Hid ((decide (1000 < s1.size) || decide (1000 < s2.size)) = decide (1000 < s2.size)) := by simp [Hid, h1]
    have hq : decide ((1000 : Int) < (s1.size : Int)) = false := by simp; omega
    by_cases h2 : 1000 < s2.size
    · have HR2 : Hid (decide (1000 < s2.size) = true) := by simp [Hid, h2]
      go_enter Try.func8, Try.ntmps8
      go_wp2
      go_ret
      refine ⟨?_, hb⟩
      simp [h1, h2]
      try omega
    · have HR2 : Hid (decide (1000 < s2.size) = false) := by simp [Hid, h2]
      have hq2 : decide ((1000 : Int) < (s2.size : Int)) = false := by simp; omega
      go_enter Try.func8, Try.ntmps8
      go_wp2
      go_ret
      refine ⟨?_, hb⟩
      simp [h1, h2]
      try omega

end Go.Proofs.Ytipeinkogoghnaa
