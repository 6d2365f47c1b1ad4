/- The walks of the laws VarintSizes and VarintInts. -/
import Derived.Test.YteepnbdkpelbiaaVAlive
import Derived.Deep.RegionWith
import Derived.BigQuiet
namespace Go.Proofs.Yteepnbdkpelbiaa
open Go.RowKit

set_option maxHeartbeats 1000000 in
theorem sizes_any (a b : Nat) (i : Int) (w : World) (ha : a < 18446744073709551616) (hb : b < 18446744073709551616) (h1 : -9223372036854775808 ≤ i) (h2 : i ≤ 9223372036854775807) :
    Calls Try.prog 6 #[.int .u64 a, .int .u64 b, .int .i64 i] w fun e w' => e = .returned (.bool true) ∧ Below w.heap.size w w' := by
  have hm : ¬ b < a → (putL a).length ≤ (putL b).length := fun h => putL_mono a b (by omega)
  have hp := putL_pos a
  have hl := putL_len10 ha
  have hzz := zag_zig i
  have hzz2 := zig_zag a
  have hzl := zigN_lt i h1 h2
  have hzb := zagZ_bd a ha
  have HZ := Lib.hid hzz
  have HZ2 := Lib.hid hzz2
  clear hzz hzz2
  go_enter Try.func6, Try.ntmps6
  go_wp2_with fail
  refine (put_ret a _ ha).mono ?_
  rintro e w1 ⟨a1, c1, rfl, hcap1, hB1, hb1⟩
  go_wp2_with fail
  refine (put_ret b _ hb).mono ?_
  rintro e w2 ⟨a2, c2, rfl, hcap2, hB2, hb2⟩
  go_wp2_with fail
  refine (alive_any _).mono ?_
  rintro e w3 ⟨rfl, hb3⟩
  have hbb : Below w.heap.size w w3 := (hb1.trans (hb2.mono hb1.size)).trans (hb3.mono (Nat.le_trans hb1.size hb2.size))
  clear hb1 hb2 hb3 hB1 hB2 hcap1 hcap2
  by_cases hab : b < a
  · clear hm
    go_wp2_with fail
    refine (zig_any i _ h1 h2).mono ?_
    rintro e w4 ⟨rfl, rfl⟩
    go_wp2_with fail
    refine (zag_any (zigN i) _ hzl).mono ?_
    rintro e w4 ⟨rfl, rfl⟩
    rw [HZ.out]
    go_wp2_with fail
    refine (zag_any a _ ha).mono ?_
    rintro e w4 ⟨rfl, rfl⟩
    go_wp2_with fail
    refine (zig_any (zagZ a) _ hzb.1 hzb.2).mono ?_
    rintro e w4 ⟨rfl, rfl⟩
    rw [HZ2.out]
    go_wp2
    go_ret
    exact ⟨rfl, hbb⟩
  · have hm' := hm hab
    clear hm
    go_wp2_with fail
    refine (zig_any i _ h1 h2).mono ?_
    rintro e w4 ⟨rfl, rfl⟩
    go_wp2_with fail
    refine (zag_any (zigN i) _ hzl).mono ?_
    rintro e w4 ⟨rfl, rfl⟩
    rw [HZ.out]
    go_wp2_with fail
    refine (zag_any a _ ha).mono ?_
    rintro e w4 ⟨rfl, rfl⟩
    go_wp2_with fail
    refine (zig_any (zagZ a) _ hzb.1 hzb.2).mono ?_
    rintro e w4 ⟨rfl, rfl⟩
    rw [HZ2.out]
    go_wp2
    go_ret
    exact ⟨rfl, hbb⟩
end Go.Proofs.Yteepnbdkpelbiaa
