/- The walks of layer 1's functions: what each call of varint and of hindsightref01 returns. -/
import Derived.Test.YtipeinkogoghnaaKit
import Derived.Test.YtipeinkogoghnaaVMath
namespace Go.Proofs.Ytipeinkogoghnaa
open Go.RowKit

theorem Try.info5 : (Try.prog.info? 5).map (fun i => (i.zero, i.size, i.bytes)) = some (some (.int .u8 0), 1, 1) := by kernel_rfl

set_option maxHeartbeats 400000 in
theorem put_any (v0 : Nat) (w : World) (h : v0 < 18446744073709551616) :
    Calls Try.prog 43 #[.int .u64 v0] w fun e w' => ∃ r, e = .returned r ∧ OwnB w' w.heap.size 5 r (putL v0) ∧ Below w.heap.size w w' := by
  obtain ⟨i0, hi, hz0, hz1, hz2⟩ := info_parts Try.info5
  have hlen0 := putL_len10 h
  go_enter Try.func43, Try.ntmps43
  go_wp2
  go_loopw [0, 3] (fun v s wr => ∃ k : Nat, ∃ l : List Nat, v = .int .u64 k ∧ k < 18446744073709551616 ∧ Hid (l ++ putL k = putL v0) ∧ OwnB wr w.heap.size 5 s l ∧ Below w.heap.size w wr) (fun v _ _ => (intOf v).toNat)
  case atStart => exact ⟨v0, [], rfl, h, rfl, OwnB.nil _ _ _, Below.refl _ _⟩
  case round =>
    obtain ⟨k, l, rfl, hk, HL, hown, hb⟩ := hrel
    have hll : l.length < 100000000000000 := by
      have := congrArg List.length HL.out
      simp at this; omega
    have hor := or128 k
    have hsz := hb.size
    by_cases hlt : 127 < k
    · have hz : k % 128 + 128 < 256 := by omega
      go_wp2_with (at_builtin; refine wpList_app1 rfl _ _ 33 rfl w.heap.size 5 i0 Try.underlying33 hi hz0 hz1 hz2 _ l wr hown rfl (k % 128 + 128) hz _ (by omega) rfl hll hsz ?_; intro v' w1 hown' hb' hsz')
      go_roundw
      case rel => exact ⟨k / 128, l ++ [k % 128 + 128], by go_num, by omega, by rw [← HL.out, putL_step (by omega : ¬ k < 128)]; simp [Hid], hown', hb.trans hb'⟩
      case measure => simp [intOf]; omega
    · have hkk : k < 256 := by omega
      have hk2 : putL k = [k] := putL_small (by omega)
      rw [hk2] at HL
      clear hk2
      go_wp2_with (at_builtin; refine wpList_app1 rfl _ _ 33 rfl w.heap.size 5 i0 Try.underlying33 hi hz0 hz1 hz2 _ l wr hown rfl k hkk _ (by omega) rfl hll hsz ?_; intro v' w1 hown' hb' hsz')
      go_ret
      exact ⟨v', rfl, by rw [← HL.out]; exact hown', hb.trans hb'⟩

set_option maxHeartbeats 400000 in
theorem rput_any (v0 : Nat) (w : World) (h : v0 < 18446744073709551616) :
    Calls Try.prog 46 #[.int .u64 v0] w fun e w' => ∃ r, e = .returned r ∧ OwnB w' w.heap.size 5 r (putL v0) ∧ Below w.heap.size w w' := by
  obtain ⟨i0, hi, hz0, hz1, hz2⟩ := info_parts Try.info5
  have hlen0 := putL_len10 h
  go_enter Try.func46, Try.ntmps46
  go_wp2
  go_loopw [0, 3] (fun v s wr => ∃ k : Nat, ∃ l : List Nat, v = .int .u64 k ∧ k < 18446744073709551616 ∧ Hid (l ++ putL k = putL v0) ∧ OwnB wr w.heap.size 5 s l ∧ Below w.heap.size w wr) (fun v _ _ => (intOf v).toNat)
  case atStart => exact ⟨v0, [], rfl, h, rfl, OwnB.nil _ _ _, Below.refl _ _⟩
  case round =>
    obtain ⟨k, l, rfl, hk, HL, hown, hb⟩ := hrel
    have hll : l.length < 100000000000000 := by
      have := congrArg List.length HL.out
      simp at this; omega
    have hsz := hb.size
    by_cases hlt : 127 < k
    · have hz : k % 128 + 128 < 256 := by omega
      have ee : (128 : Int) + (k : Int) % 128 = ((k % 128 + 128 : Nat) : Int) := by omega
      go_wp2_with (at_builtin; refine wpList_app1 rfl _ _ 33 rfl w.heap.size 5 i0 Try.underlying33 hi hz0 hz1 hz2 _ l wr hown rfl (k % 128 + 128) hz _ (by omega) rfl hll hsz ?_; intro v' w1 hown' hb' hsz')
      go_roundw
      case rel => exact ⟨k / 128, l ++ [k % 128 + 128], by go_num, by omega, by rw [← HL.out, putL_step (by omega : ¬ k < 128)]; simp [Hid], hown', hb.trans hb'⟩
      case measure => simp [intOf]; omega
    · have hkk : k < 256 := by omega
      have hk2 : putL k = [k] := putL_small (by omega)
      rw [hk2] at HL
      clear hk2
      go_wp2_with (at_builtin; refine wpList_app1 rfl _ _ 33 rfl w.heap.size 5 i0 Try.underlying33 hi hz0 hz1 hz2 _ l wr hown rfl k hkk _ (by omega) rfl hll hsz ?_; intro v' w1 hown' hb' hsz')
      go_ret
      exact ⟨v', rfl, by rw [← HL.out]; exact hown', hb.trans hb'⟩
end Go.Proofs.Ytipeinkogoghnaa
