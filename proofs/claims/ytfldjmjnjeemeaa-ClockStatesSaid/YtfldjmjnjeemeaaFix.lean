/- The walks of fixed.Whole and fixed.ReadWhole: an integer in eight bytes that have its order. -/
import Derived.Test.YtfldjmjnjeemeaaKRdW
namespace Go.Proofs.Ytfldjmjnjeemeaa
open Go.RowKit

set_option maxRecDepth 100000 in
set_option maxHeartbeats 4000000 in
theorem Whole_any (n : Int) (w : World) (h1 : -9223372036854775808 ≤ n) (h2 : n ≤ 9223372036854775807) :
    Calls Try.prog 39 #[.int .i64 n] w fun e w' => e = .returned (aggB (whole8 (up64 n))) ∧ Below w.heap.size w w' := by
  obtain ⟨u, hu⟩ : ∃ u, u = (n % 18446744073709551616).toNat := ⟨_, rfl⟩
  have HU := Lib.hid hu
  have hun : IntKind.u64.wrap n = (u : Int) := by rw [IntKind.wrap_u64]; omega
  have HW := Lib.hid (up_bytes n h1 h2 u hu)
  have hu64 : u < 18446744073709551616 := by omega
  clear hu
  go_enter Try.func39, Try.ntmps39
  go_wp2
  go_loopw [5] (fun i wr => ∃ k : Nat, k ≤ 8 ∧ i = .int .i64 k ∧ Hid (ArrW wr (w.heap.size + 1) u k) ∧ Hid (ArrW wr w.heap.size 0 0) ∧ Below w.heap.size w wr) (fun i _ => 8 - (intOf i).toNat)
  case atStart =>
    refine ⟨0, by omega, rfl, ?_, ?_, ((Below.refl _ _).alloc (Nat.le_refl _) _).alloc (by simp) _⟩
    · intro j hj
      have hj8 : j = 0 ∨ j = 1 ∨ j = 2 ∨ j = 3 ∨ j = 4 ∨ j = 5 ∨ j = 6 ∨ j = 7 := by omega
      have e : (w.alloc (.cells #[.int .u8 0, .int .u8 0, .int .u8 0, .int .u8 0, .int .u8 0, .int .u8 0, .int .u8 0, .int .u8 0] 73)).heap.size = w.heap.size + 1 := by simp
      refine ⟨?_, ?_⟩
      · rw [← e, World.cell?_alloc_new]
        rcases hj8 with rfl | rfl | rfl | rfl | rfl | rfl | rfl | rfl <;> rfl
      · simp only [World.frozen?]; rw [← e, heap_alloc_new]; simp
    · intro j hj
      have hj8 : j = 0 ∨ j = 1 ∨ j = 2 ∨ j = 3 ∨ j = 4 ∨ j = 5 ∨ j = 6 ∨ j = 7 := by omega
      have hb := Below.box (w.alloc (.cells #[.int .u8 0, .int .u8 0, .int .u8 0, .int .u8 0, .int .u8 0, .int .u8 0, .int .u8 0, .int .u8 0] 73)) (.cells #[.int .u8 0, .int .u8 0, .int .u8 0, .int .u8 0, .int .u8 0, .int .u8 0, .int .u8 0, .int .u8 0] 73)
      refine ⟨?_, ?_⟩
      · rw [hb.cell (p := ⟨w.heap.size, j, none⟩) (by simp), World.cell?_alloc_new]
        rcases hj8 with rfl | rfl | rfl | rfl | rfl | rfl | rfl | rfl <;> rfl
      · rw [hb.frozen (p := ⟨w.heap.size, j, none⟩) (by simp)]
        simp only [World.frozen?]; rw [heap_alloc_new]; simp
  case round =>
    obtain ⟨k, hk, rfl, HA, HZ, hb⟩ := hrel
    have HZ2 : ∀ (j : Nat) (v : Value), ArrW (wr.setCell ⟨w.heap.size + 1, j, none⟩ v) w.heap.size 0 0 := by
      intro j v i hi
      obtain ⟨a1, a2⟩ := HZ.out i hi
      exact ⟨(World.cell?_setCell_other _ _ _ _ (by simp)).trans a1, by rw [World.frozen?_setCell]; exact a2⟩
    have HZ3 := Lib.hid HZ2
    clear HZ2
    by_cases hlt : k < 8
    · have hk8 : k = 0 ∨ k = 1 ∨ k = 2 ∨ k = 3 ∨ k = 4 ∨ k = 5 ∨ k = 6 ∨ k = 7 := by omega
      have hset := fun v hv => HA.out.set hlt v hv
      obtain ⟨c0, f0⟩ := HA.out k hlt
      have HSet := Lib.hid hset
      clear hset
      rcases hk8 with rfl | rfl | rfl | rfl | rfl | rfl | rfl | rfl
      all_goals
        go_wp2
        go_roundw
        case rel => first | exact ⟨1, by omega, rfl, HSet.out _ (by simp only [byteJ]; omega), HZ3.out _ _, hb.setCell (by simp) _⟩ | exact ⟨2, by omega, rfl, HSet.out _ (by simp only [byteJ]; omega), HZ3.out _ _, hb.setCell (by simp) _⟩ | exact ⟨3, by omega, rfl, HSet.out _ (by simp only [byteJ]; omega), HZ3.out _ _, hb.setCell (by simp) _⟩ | exact ⟨4, by omega, rfl, HSet.out _ (by simp only [byteJ]; omega), HZ3.out _ _, hb.setCell (by simp) _⟩ | exact ⟨5, by omega, rfl, HSet.out _ (by simp only [byteJ]; omega), HZ3.out _ _, hb.setCell (by simp) _⟩ | exact ⟨6, by omega, rfl, HSet.out _ (by simp only [byteJ]; omega), HZ3.out _ _, hb.setCell (by simp) _⟩ | exact ⟨7, by omega, rfl, HSet.out _ (by simp only [byteJ]; omega), HZ3.out _ _, hb.setCell (by simp) _⟩ | exact ⟨8, by omega, rfl, HSet.out _ (by simp only [byteJ]; omega), HZ3.out _ _, hb.setCell (by simp) _⟩
        case measure => simp [intOf]
    · have hk8 : k = 8 := by omega
      subst hk8
      obtain ⟨a0, g0⟩ := HA.out 0 (by omega)
      obtain ⟨a1, g1⟩ := HA.out 1 (by omega)
      obtain ⟨a2, g2⟩ := HA.out 2 (by omega)
      obtain ⟨a3, g3⟩ := HA.out 3 (by omega)
      obtain ⟨a4, g4⟩ := HA.out 4 (by omega)
      obtain ⟨a5, g5⟩ := HA.out 5 (by omega)
      obtain ⟨a6, g6⟩ := HA.out 6 (by omega)
      obtain ⟨a7, g7⟩ := HA.out 7 (by omega)
      obtain ⟨z0, y0⟩ := HZ.out 0 (by omega)
      obtain ⟨z1, y1⟩ := HZ.out 1 (by omega)
      obtain ⟨z2, y2⟩ := HZ.out 2 (by omega)
      obtain ⟨z3, y3⟩ := HZ.out 3 (by omega)
      obtain ⟨z4, y4⟩ := HZ.out 4 (by omega)
      obtain ⟨z5, y5⟩ := HZ.out 5 (by omega)
      obtain ⟨z6, y6⟩ := HZ.out 6 (by omega)
      obtain ⟨z7, y7⟩ := HZ.out 7 (by omega)
      simp only [show (0:Nat) < 8 by omega, show (1:Nat) < 8 by omega, show (2:Nat) < 8 by omega, show (3:Nat) < 8 by omega, show (4:Nat) < 8 by omega, show (5:Nat) < 8 by omega, show (6:Nat) < 8 by omega, show (7:Nat) < 8 by omega, if_true] at a0 a1 a2 a3 a4 a5 a6 a7
      have hx := xor128 (byteJ u 0) (byteJ_lt u 0)
      generalize byteJ u 0 = b0 at *
      generalize byteJ u 1 = b1 at *
      generalize byteJ u 2 = b2 at *
      generalize byteJ u 3 = b3 at *
      generalize byteJ u 4 = b4 at *
      generalize byteJ u 5 = b5 at *
      generalize byteJ u 6 = b6 at *
      generalize byteJ u 7 = b7 at *
      clear HA HZ HZ3
      go_wp2
      rw [HW.out]
      refine bodyPost_ret (v := aggB [(b0 + 128) % 256, b1, b2, b3, b4, b5, b6, b7]) (by simp [results, Try.results39, go_sem, aggB, *]) rfl ⟨rfl, ?_⟩
      repeat (refine Below.setCell ?_ (by first | exact Nat.le_refl _ | (simp; done) | (simp; omega)) _)
      exact hb

/-- An integer of eight bytes, the greatest first, the first with its sign turned over. -/
def rdW (l : List Nat) : Int := (unB l : Int) - 9223372036854775808

set_option maxRecDepth 100000 in
set_option maxHeartbeats 4000000 in
theorem ReadWhole_any (l : List Nat) (w : World) (h8 : l.length = 8) (h256 : ∀ c ∈ l, c < 256) :
    Calls Try.prog 41 #[aggB l] w fun e w' => e = .returned (.int .i64 (rdW l)) ∧ Below w.heap.size w w' ∧ w'.heap.size = w.heap.size + 1 := by
  match l, h8 with
  | [c0, c1, c2, c3, c4, c5, c6, c7], _ =>
    have b0 := h256 c0 (by simp)
    have b1 := h256 c1 (by simp)
    have b2 := h256 c2 (by simp)
    have b3 := h256 c3 (by simp)
    have b4 := h256 c4 (by simp)
    have b5 := h256 c5 (by simp)
    have b6 := h256 c6 (by simp)
    have b7 := h256 c7 (by simp)
    obtain ⟨d0, hd0⟩ : ∃ d0, d0 = (c0 + 128) % 256 := ⟨_, rfl⟩
    have hx := xor128 c0 b0
    rw [← hd0] at hx
    have hd256 : d0 < 256 := by omega
    have HD := Lib.hid hd0
    clear h256 hd0
    show Calls Try.prog 41 #[.agg #[.int .u8 (c0 : Int), .int .u8 (c1 : Int), .int .u8 (c2 : Int), .int .u8 (c3 : Int), .int .u8 (c4 : Int), .int .u8 (c5 : Int), .int .u8 (c6 : Int), .int .u8 (c7 : Int)]] w _
    go_enter Try.func41, Try.ntmps41
    go_wp2
    go_loop [3, 11] (fun v i => ∃ k V : Nat, k ≤ 8 ∧ i = .int .i64 k ∧ v = .int .u64 V ∧ V < 256 ^ k ∧ Hid (V = unB ([d0, c1, c2, c3, c4, c5, c6, c7].take k))) (fun _ i => 8 - (intOf i).toNat)
    case atStart => exact ⟨0, 0, by omega, rfl, rfl, by simp, rfl⟩
    case round =>
      obtain ⟨k, V, hk, rfl, rfl, hV, HV⟩ := hrel
      by_cases hlt : k < 8
      · have hk8 : k = 0 ∨ k = 1 ∨ k = 2 ∨ k = 3 ∨ k = 4 ∨ k = 5 ∨ k = 6 ∨ k = 7 := by omega
        rcases hk8 with rfl | rfl | rfl | rfl | rfl | rfl | rfl | rfl
        · have hix : ∀ W, (Instr.index 73 (.agg #[.int .u8 (d0 : Int), .int .u8 (c1 : Int), .int .u8 (c2 : Int), .int .u8 (c3 : Int), .int .u8 (c4 : Int), .int .u8 (c5 : Int), .int .u8 (c6 : Int), .int .u8 (c7 : Int)]) (.int .i64 0)).run Try.prog W = .ok (.int .u8 (d0 : Int)) W := fun W => index8 d0 c1 c2 c3 c4 c5 c6 c7 0 (by omega) W
          have hV7 : V < 72057594037927936 := Nat.lt_of_lt_of_le hV (by decide)
          have hlt256 : d0 < 256 := by first | exact hd256 | assumption
          have hor := orB V d0 hV7 hlt256
          have hN : Hid (V * 256 + d0 = unB ([d0, c1, c2, c3, c4, c5, c6, c7].take (0 + 1))) := by rw [HV.out]; rfl
          have hVn : V * 256 + d0 < 256 ^ (0 + 1) := by rw [Nat.pow_succ]; omega
          clear hV
          go_wp2
          go_round
          case rel => exact ⟨0 + 1, V * 256 + d0, by omega, rfl, by first | rfl | (simp; done) | go_num, hVn, hN⟩
          case measure => simp [intOf]
        · have hix : ∀ W, (Instr.index 73 (.agg #[.int .u8 (d0 : Int), .int .u8 (c1 : Int), .int .u8 (c2 : Int), .int .u8 (c3 : Int), .int .u8 (c4 : Int), .int .u8 (c5 : Int), .int .u8 (c6 : Int), .int .u8 (c7 : Int)]) (.int .i64 1)).run Try.prog W = .ok (.int .u8 (c1 : Int)) W := fun W => index8 d0 c1 c2 c3 c4 c5 c6 c7 1 (by omega) W
          have hV7 : V < 72057594037927936 := Nat.lt_of_lt_of_le hV (by decide)
          have hlt256 : c1 < 256 := by first | exact hd256 | assumption
          have hor := orB V c1 hV7 hlt256
          have hN : Hid (V * 256 + c1 = unB ([d0, c1, c2, c3, c4, c5, c6, c7].take (1 + 1))) := by rw [HV.out]; rfl
          have hVn : V * 256 + c1 < 256 ^ (1 + 1) := by rw [Nat.pow_succ]; omega
          clear hV
          go_wp2
          go_round
          case rel => exact ⟨1 + 1, V * 256 + c1, by omega, rfl, by first | rfl | (simp; done) | go_num, hVn, hN⟩
          case measure => simp [intOf]
        · have hix : ∀ W, (Instr.index 73 (.agg #[.int .u8 (d0 : Int), .int .u8 (c1 : Int), .int .u8 (c2 : Int), .int .u8 (c3 : Int), .int .u8 (c4 : Int), .int .u8 (c5 : Int), .int .u8 (c6 : Int), .int .u8 (c7 : Int)]) (.int .i64 2)).run Try.prog W = .ok (.int .u8 (c2 : Int)) W := fun W => index8 d0 c1 c2 c3 c4 c5 c6 c7 2 (by omega) W
          have hV7 : V < 72057594037927936 := Nat.lt_of_lt_of_le hV (by decide)
          have hlt256 : c2 < 256 := by first | exact hd256 | assumption
          have hor := orB V c2 hV7 hlt256
          have hN : Hid (V * 256 + c2 = unB ([d0, c1, c2, c3, c4, c5, c6, c7].take (2 + 1))) := by rw [HV.out]; rfl
          have hVn : V * 256 + c2 < 256 ^ (2 + 1) := by rw [Nat.pow_succ]; omega
          clear hV
          go_wp2
          go_round
          case rel => exact ⟨2 + 1, V * 256 + c2, by omega, rfl, by first | rfl | (simp; done) | go_num, hVn, hN⟩
          case measure => simp [intOf]
        · have hix : ∀ W, (Instr.index 73 (.agg #[.int .u8 (d0 : Int), .int .u8 (c1 : Int), .int .u8 (c2 : Int), .int .u8 (c3 : Int), .int .u8 (c4 : Int), .int .u8 (c5 : Int), .int .u8 (c6 : Int), .int .u8 (c7 : Int)]) (.int .i64 3)).run Try.prog W = .ok (.int .u8 (c3 : Int)) W := fun W => index8 d0 c1 c2 c3 c4 c5 c6 c7 3 (by omega) W
          have hV7 : V < 72057594037927936 := Nat.lt_of_lt_of_le hV (by decide)
          have hlt256 : c3 < 256 := by first | exact hd256 | assumption
          have hor := orB V c3 hV7 hlt256
          have hN : Hid (V * 256 + c3 = unB ([d0, c1, c2, c3, c4, c5, c6, c7].take (3 + 1))) := by rw [HV.out]; rfl
          have hVn : V * 256 + c3 < 256 ^ (3 + 1) := by rw [Nat.pow_succ]; omega
          clear hV
          go_wp2
          go_round
          case rel => exact ⟨3 + 1, V * 256 + c3, by omega, rfl, by first | rfl | (simp; done) | go_num, hVn, hN⟩
          case measure => simp [intOf]
        · have hix : ∀ W, (Instr.index 73 (.agg #[.int .u8 (d0 : Int), .int .u8 (c1 : Int), .int .u8 (c2 : Int), .int .u8 (c3 : Int), .int .u8 (c4 : Int), .int .u8 (c5 : Int), .int .u8 (c6 : Int), .int .u8 (c7 : Int)]) (.int .i64 4)).run Try.prog W = .ok (.int .u8 (c4 : Int)) W := fun W => index8 d0 c1 c2 c3 c4 c5 c6 c7 4 (by omega) W
          have hV7 : V < 72057594037927936 := Nat.lt_of_lt_of_le hV (by decide)
          have hlt256 : c4 < 256 := by first | exact hd256 | assumption
          have hor := orB V c4 hV7 hlt256
          have hN : Hid (V * 256 + c4 = unB ([d0, c1, c2, c3, c4, c5, c6, c7].take (4 + 1))) := by rw [HV.out]; rfl
          have hVn : V * 256 + c4 < 256 ^ (4 + 1) := by rw [Nat.pow_succ]; omega
          clear hV
          go_wp2
          go_round
          case rel => exact ⟨4 + 1, V * 256 + c4, by omega, rfl, by first | rfl | (simp; done) | go_num, hVn, hN⟩
          case measure => simp [intOf]
        · have hix : ∀ W, (Instr.index 73 (.agg #[.int .u8 (d0 : Int), .int .u8 (c1 : Int), .int .u8 (c2 : Int), .int .u8 (c3 : Int), .int .u8 (c4 : Int), .int .u8 (c5 : Int), .int .u8 (c6 : Int), .int .u8 (c7 : Int)]) (.int .i64 5)).run Try.prog W = .ok (.int .u8 (c5 : Int)) W := fun W => index8 d0 c1 c2 c3 c4 c5 c6 c7 5 (by omega) W
          have hV7 : V < 72057594037927936 := Nat.lt_of_lt_of_le hV (by decide)
          have hlt256 : c5 < 256 := by first | exact hd256 | assumption
          have hor := orB V c5 hV7 hlt256
          have hN : Hid (V * 256 + c5 = unB ([d0, c1, c2, c3, c4, c5, c6, c7].take (5 + 1))) := by rw [HV.out]; rfl
          have hVn : V * 256 + c5 < 256 ^ (5 + 1) := by rw [Nat.pow_succ]; omega
          clear hV
          go_wp2
          go_round
          case rel => exact ⟨5 + 1, V * 256 + c5, by omega, rfl, by first | rfl | (simp; done) | go_num, hVn, hN⟩
          case measure => simp [intOf]
        · have hix : ∀ W, (Instr.index 73 (.agg #[.int .u8 (d0 : Int), .int .u8 (c1 : Int), .int .u8 (c2 : Int), .int .u8 (c3 : Int), .int .u8 (c4 : Int), .int .u8 (c5 : Int), .int .u8 (c6 : Int), .int .u8 (c7 : Int)]) (.int .i64 6)).run Try.prog W = .ok (.int .u8 (c6 : Int)) W := fun W => index8 d0 c1 c2 c3 c4 c5 c6 c7 6 (by omega) W
          have hV7 : V < 72057594037927936 := Nat.lt_of_lt_of_le hV (by decide)
          have hlt256 : c6 < 256 := by first | exact hd256 | assumption
          have hor := orB V c6 hV7 hlt256
          have hN : Hid (V * 256 + c6 = unB ([d0, c1, c2, c3, c4, c5, c6, c7].take (6 + 1))) := by rw [HV.out]; rfl
          have hVn : V * 256 + c6 < 256 ^ (6 + 1) := by rw [Nat.pow_succ]; omega
          clear hV
          go_wp2
          go_round
          case rel => exact ⟨6 + 1, V * 256 + c6, by omega, rfl, by first | rfl | (simp; done) | go_num, hVn, hN⟩
          case measure => simp [intOf]
        · have hix : ∀ W, (Instr.index 73 (.agg #[.int .u8 (d0 : Int), .int .u8 (c1 : Int), .int .u8 (c2 : Int), .int .u8 (c3 : Int), .int .u8 (c4 : Int), .int .u8 (c5 : Int), .int .u8 (c6 : Int), .int .u8 (c7 : Int)]) (.int .i64 7)).run Try.prog W = .ok (.int .u8 (c7 : Int)) W := fun W => index8 d0 c1 c2 c3 c4 c5 c6 c7 7 (by omega) W
          have hV7 : V < 72057594037927936 := Nat.lt_of_lt_of_le hV (by decide)
          have hlt256 : c7 < 256 := by first | exact hd256 | assumption
          have hor := orB V c7 hV7 hlt256
          have hN : Hid (V * 256 + c7 = unB ([d0, c1, c2, c3, c4, c5, c6, c7].take (7 + 1))) := by rw [HV.out]; rfl
          have hVn : V * 256 + c7 < 256 ^ (7 + 1) := by rw [Nat.pow_succ]; omega
          clear hV
          go_wp2
          go_round
          case rel => exact ⟨7 + 1, V * 256 + c7, by omega, rfl, by first | rfl | (simp; done) | go_num, hVn, hN⟩
          case measure => simp [intOf]
      · have hk8 : k = 8 := by omega
        subst hk8
        have hW : wrap64 (V : Int) = (unB [c0, c1, c2, c3, c4, c5, c6, c7] : Int) - 9223372036854775808 := by
          have e1 := HV.out
          have e2 := HD.out
          simp only [List.take_succ_cons, List.take_zero, unB, List.foldl_cons, List.foldl_nil] at e1 ⊢
          unfold wrap64
          omega
        have HW := Lib.hid hW
        have hV64 : V < 18446744073709551616 := Nat.lt_of_lt_of_le hV (by decide)
        clear hW hV
        go_wp2
        go_ret
        refine ⟨?_, ?_, by simp⟩
        · rw [show rdW [c0, c1, c2, c3, c4, c5, c6, c7] = wrap64 (V : Int) from HW.out.symm]; rfl
        · exact (Below.refl _ _).alloc (Nat.le_refl _) _
end Go.Proofs.Ytfldjmjnjeemeaa
