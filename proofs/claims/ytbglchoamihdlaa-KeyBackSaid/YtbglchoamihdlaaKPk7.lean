/- Several texts of one proof, one behind the other. -/
import Derived.Test.YtbglchoamihdlaaKPk6
import Derived.Laws.CopyRow
import Derived.Laws.CopyOwn

/- For key.readWhole and fixed.ReadWhole: 'copy(a[:], b)', an array by index. -/
namespace Go.Proofs.Ytbglchoamihdlaa
open Go.RowKit

/-- The cells of an array of eight bytes. -/
def Arr8 (w : World) (B : Nat) (l : List Nat) : Prop := l.length = 8 ∧ (∀ c ∈ l, c < 256) ∧ ∀ j (h : j < l.length), w.cell? ⟨B, j, none⟩ = some (.int .u8 (l[j] : Int)) ∧ w.frozen? ⟨B, j, none⟩ = false

set_option maxRecDepth 100000 in
/-- 'copy(a[:], b)' into an array of eight zeros that has just been made. -/
theorem copy8 (w : World) (N : Nat) (l : List Nat) (a : Option Addr) (n cap : Nat) (hB : Bs N w a l) (hN : N ≤ w.heap.size) (hn : n = l.length) (hnil : a = none → n = 0 ∧ cap = 0) (ty : TypeId) :
    ∃ W2, (Builtin.copy_ #[22, 22] ty #[.slice (some ⟨w.heap.size, 0, none⟩) 8 8, .slice a n cap]).run Try.prog (w.alloc (.cells #[.int .u8 0, .int .u8 0, .int .u8 0, .int .u8 0, .int .u8 0, .int .u8 0, .int .u8 0, .int .u8 0] 51)) = .ok (.int .i64 ((min n 8 : Nat) : Int)) W2 ∧
      Below w.heap.size w W2 ∧ (8 ≤ n → Arr8 W2 w.heap.size (l.take 8)) := by
  subst hn
  cases a with
  | none =>
    obtain ⟨h0, rfl⟩ := hnil rfl
    refine ⟨(w.alloc (.cells #[.int .u8 0, .int .u8 0, .int .u8 0, .int .u8 0, .int .u8 0, .int .u8 0, .int .u8 0, .int .u8 0] 51)), ?_, Below.box w _, fun h => by omega⟩
    rw [h0]
    have := run_copy_nil (P := Try.prog) (w.alloc (.cells #[.int .u8 0, .int .u8 0, .int .u8 0, .int .u8 0, .int .u8 0, .int .u8 0, .int .u8 0, .int .u8 0] 51)) 22 22 ty 5 ⟨w.heap.size, 0, none⟩ 8 8 Try.underlying22 (by kernel_rfl)
    rw [this]; rfl
  | some x =>
    have hcells : ∀ j v, ((l.take 8).map fun (c : Nat) => Value.int .u8 (c : Int))[j]? = some v → (w.alloc (.cells #[.int .u8 0, .int .u8 0, .int .u8 0, .int .u8 0, .int .u8 0, .int .u8 0, .int .u8 0, .int .u8 0] 51)).cell? (x.add j) = some v := by
      intro j v hv
      rw [List.getElem?_map] at hv
      cases hj : (l.take 8)[j]? with
      | none => rw [hj] at hv; cases hv
      | some c =>
        rw [hj] at hv
        simp only [Option.map_some, Option.some.injEq] at hv
        subst hv
        rcases hB.2 with h | ⟨b, o, hx, hb, hc⟩
        · subst h; simp at hj
        · simp only [Option.some.injEq] at hx
          subst hx
          have e1 : (⟨b, o, none⟩ : Addr).add j = ⟨b, o + j, none⟩ := by unfold Addr.add; split <;> simp_all
          have hj2 : l[j]? = some c := by
            rw [List.getElem?_take] at hj
            split at hj
            · exact hj
            · cases hj
          rw [e1, (Below.box w _).cell (p := ⟨b, o + j, none⟩) (show b < w.heap.size by omega)]
          exact hc j c hj2
    have hrun := run_copy_row (P := Try.prog) (w.alloc (.cells #[.int .u8 0, .int .u8 0, .int .u8 0, .int .u8 0, .int .u8 0, .int .u8 0, .int .u8 0, .int .u8 0] 51)) 22 22 ty 5 w.heap.size 0 8 8 x l.length cap
      #[.int .u8 0, .int .u8 0, .int .u8 0, .int .u8 0, .int .u8 0, .int .u8 0, .int .u8 0, .int .u8 0] 51 ((l.take 8).map fun (c : Nat) => Value.int .u8 (c : Int)) Try.underlying22 (by kernel_rfl)
      (heap_alloc_new _ _) (by simp [Nat.min_comm]) hcells (by simp; omega) (by intro v hv; obtain ⟨c, _, rfl⟩ := List.mem_map.1 hv; rfl)
    refine ⟨(w.alloc (.cells #[.int .u8 0, .int .u8 0, .int .u8 0, .int .u8 0, .int .u8 0, .int .u8 0, .int .u8 0, .int .u8 0] 51)).setRow w.heap.size ((#[Value.int .u8 0, .int .u8 0, .int .u8 0, .int .u8 0, .int .u8 0, .int .u8 0, .int .u8 0, .int .u8 0] : Array Value).toList.take 0 ++ ((l.take 8).map fun (c : Nat) => Value.int .u8 (c : Int)) ++ (List.drop (0 + ((l.take 8).map fun (c : Nat) => Value.int .u8 (c : Int)).length) (#[Value.int .u8 0, .int .u8 0, .int .u8 0, .int .u8 0, .int .u8 0, .int .u8 0, .int .u8 0, .int .u8 0] : Array Value).toList)).toArray, hrun.trans ?_, ?_, ?_⟩
    · congr 1
      simp [goInt, Nat.min_comm]
    · exact below_setRow (Below.box w _) (Nat.le_refl _) _
    · intro h8
      have h8' : (l.take 8).length = 8 := by rw [List.length_take]; omega
      refine ⟨h8', fun c hc => hB.1 c (List.mem_of_mem_take hc), fun j hj => ?_⟩
      have hg := heap_alloc_new w (.cells #[.int .u8 0, .int .u8 0, .int .u8 0, .int .u8 0, .int .u8 0, .int .u8 0, .int .u8 0, .int .u8 0] 51)
      refine ⟨?_, ?_⟩
      · rw [cell_setRow_same _ _ _ _ _ _ _ hg]
        have hd : (List.drop (0 + ((l.take 8).map fun (c : Nat) => Value.int .u8 (c : Int)).length) (#[Value.int .u8 0, .int .u8 0, .int .u8 0, .int .u8 0, .int .u8 0, .int .u8 0, .int .u8 0, .int .u8 0] : Array Value).toList) = [] := by
          rw [List.length_map, h8']; rfl
        rw [hd]
        have hj8 : j < 8 := by omega
        have hjl : j < l.length := by rw [List.length_take] at hj; omega
        simp [List.getElem?_take, hj8, hjl]
      · have := setRow_heap _ _ _ ((#[Value.int .u8 0, .int .u8 0, .int .u8 0, .int .u8 0, .int .u8 0, .int .u8 0, .int .u8 0, .int .u8 0] : Array Value).toList.take 0 ++ ((l.take 8).map fun (c : Nat) => Value.int .u8 (c : Int)) ++ (List.drop (0 + ((l.take 8).map fun (c : Nat) => Value.int .u8 (c : Int)).length) (#[Value.int .u8 0, .int .u8 0, .int .u8 0, .int .u8 0, .int .u8 0, .int .u8 0, .int .u8 0, .int .u8 0] : Array Value).toList)).toArray _ _ hg
        simp only [World.frozen?, this]
        simp

/-- 'n<<8 | c'. -/
theorem orB (V c : Nat) (hV : V < 72057594037927936) (hc : c < 256) : bits .or .u64 ((V : Int) * 256) (c : Int) = ((V * 256 + c : Nat) : Int) := by
  have := u64_or_nat (V * 256) c (by omega) (by omega)
  rw [nat_join 8 (V * 256) c (by omega) (by omega)] at this
  rw [Int.natCast_mul] at this
  exact this

/-- 'a[k]' of an array of eight bytes by value. -/
theorem index8 (c0 c1 c2 c3 c4 c5 c6 c7 : Int) (k : Nat) (hk : k < 8) (W : World) :
    (Instr.index 51 (.agg #[.int .u8 c0, .int .u8 c1, .int .u8 c2, .int .u8 c3, .int .u8 c4, .int .u8 c5, .int .u8 c6, .int .u8 c7]) (.int .i64 k)).run Try.prog W =
      .ok (.int .u8 ([c0, c1, c2, c3, c4, c5, c6, c7].getD k 0)) W := by
  have hk8 : k = 0 ∨ k = 1 ∨ k = 2 ∨ k = 3 ∨ k = 4 ∨ k = 5 ∨ k = 6 ∨ k = 7 := by omega
  have hu := run_underlying (P := Try.prog) (w := W) Try.underlying51
  rcases hk8 with rfl | rfl | rfl | rfl | rfl | rfl | rfl | rfl
  all_goals
    simp [Instr.index, hu, asIntOf, go_sem]

end Go.Proofs.Ytbglchoamihdlaa

/- The walks of fixed.Whole and fixed.ReadWhole: an integer in eight bytes that have its order. -/
namespace Go.Proofs.Ytbglchoamihdlaa
open Go.RowKit

set_option maxRecDepth 100000 in
set_option maxHeartbeats 4000000 in
theorem Whole_any (n : Int) (w : World) (h1 : -9223372036854775808 ≤ n) (h2 : n ≤ 9223372036854775807) :
    Calls Try.prog 30 #[.int .i64 n] w fun e w' => e = .returned (aggB (whole8 (up64 n))) ∧ Below w.heap.size w w' := by
  obtain ⟨u, hu⟩ : ∃ u, u = (n % 18446744073709551616).toNat := ⟨_, rfl⟩
  have HU := Lib.hid hu
  have hun : IntKind.u64.wrap n = (u : Int) := by rw [IntKind.wrap_u64]; omega
  have HW := Lib.hid (up_bytes n h1 h2 u hu)
  have hu64 : u < 18446744073709551616 := by omega
  clear hu
  go_enter Try.func30, Try.ntmps30
  go_wp2
  go_loopw [5] (fun i wr => ∃ k : Nat, k ≤ 8 ∧ i = .int .i64 k ∧ Hid (ArrW wr (w.heap.size + 1) u k) ∧ Hid (ArrW wr w.heap.size 0 0) ∧ Below w.heap.size w wr) (fun i _ => 8 - (intOf i).toNat)
  case atStart =>
    refine ⟨0, by omega, rfl, ?_, ?_, ((Below.refl _ _).alloc (Nat.le_refl _) _).alloc (by simp) _⟩
    · intro j hj
      have hj8 : j = 0 ∨ j = 1 ∨ j = 2 ∨ j = 3 ∨ j = 4 ∨ j = 5 ∨ j = 6 ∨ j = 7 := by omega
      have e : (w.alloc (.cells #[.int .u8 0, .int .u8 0, .int .u8 0, .int .u8 0, .int .u8 0, .int .u8 0, .int .u8 0, .int .u8 0] 51)).heap.size = w.heap.size + 1 := by simp
      refine ⟨?_, ?_⟩
      · rw [← e, World.cell?_alloc_new]
        rcases hj8 with rfl | rfl | rfl | rfl | rfl | rfl | rfl | rfl <;> rfl
      · simp only [World.frozen?]; rw [← e, heap_alloc_new]; simp
    · intro j hj
      have hj8 : j = 0 ∨ j = 1 ∨ j = 2 ∨ j = 3 ∨ j = 4 ∨ j = 5 ∨ j = 6 ∨ j = 7 := by omega
      have hb := Below.box (w.alloc (.cells #[.int .u8 0, .int .u8 0, .int .u8 0, .int .u8 0, .int .u8 0, .int .u8 0, .int .u8 0, .int .u8 0] 51)) (.cells #[.int .u8 0, .int .u8 0, .int .u8 0, .int .u8 0, .int .u8 0, .int .u8 0, .int .u8 0, .int .u8 0] 51)
      refine ⟨?_, ?_⟩
      · rw [hb.cell (p := ⟨w.heap.size, j, none⟩) (by simp), World.cell?_alloc_new]
        rcases hj8 with rfl | rfl | rfl | rfl | rfl | rfl | rfl | rfl <;> rfl
      · rw [hb.frozen (p := ⟨w.heap.size, j, none⟩) (by simp)]
        simp only [World.frozen?]; rw [heap_alloc_new]; simp
  case round =>
    obtain ⟨k, hk, rfl, HA, HZ, hb⟩ := hrel
    have HZ2 : ∀ (j : Nat) (v : Value), ArrW (wr.setCell ⟨w.heap.size + 1, j, none⟩ v) w.heap.size 0 0 := by
      intro j v i hi
      obtain ⟨a1, a2⟩ := HZ.out i hi
      exact ⟨(World.cell?_setCell_other _ _ _ _ (by simp)).trans a1, by rw [World.frozen?_setCell]; exact a2⟩
    have HZ3 := Lib.hid HZ2
    clear HZ2
    by_cases hlt : k < 8
    · have hk8 : k = 0 ∨ k = 1 ∨ k = 2 ∨ k = 3 ∨ k = 4 ∨ k = 5 ∨ k = 6 ∨ k = 7 := by omega
      have hset := fun v hv => HA.out.set hlt v hv
      obtain ⟨c0, f0⟩ := HA.out k hlt
      have HSet := Lib.hid hset
      clear hset
      rcases hk8 with rfl | rfl | rfl | rfl | rfl | rfl | rfl | rfl
      all_goals
        go_wp2
        go_roundw
        case rel => first | exact ⟨1, by omega, rfl, HSet.out _ (by simp only [byteJ]; omega), HZ3.out _ _, hb.setCell (by simp) _⟩ | exact ⟨2, by omega, rfl, HSet.out _ (by simp only [byteJ]; omega), HZ3.out _ _, hb.setCell (by simp) _⟩ | exact ⟨3, by omega, rfl, HSet.out _ (by simp only [byteJ]; omega), HZ3.out _ _, hb.setCell (by simp) _⟩ | exact ⟨4, by omega, rfl, HSet.out _ (by simp only [byteJ]; omega), HZ3.out _ _, hb.setCell (by simp) _⟩ | exact ⟨5, by omega, rfl, HSet.out _ (by simp only [byteJ]; omega), HZ3.out _ _, hb.setCell (by simp) _⟩ | exact ⟨6, by omega, rfl, HSet.out _ (by simp only [byteJ]; omega), HZ3.out _ _, hb.setCell (by simp) _⟩ | exact ⟨7, by omega, rfl, HSet.out _ (by simp only [byteJ]; omega), HZ3.out _ _, hb.setCell (by simp) _⟩ | exact ⟨8, by omega, rfl, HSet.out _ (by simp only [byteJ]; omega), HZ3.out _ _, hb.setCell (by simp) _⟩
        case measure => simp [intOf]
    · have hk8 : k = 8 := by omega
      subst hk8
      obtain ⟨a0, g0⟩ := HA.out 0 (by omega)
      obtain ⟨a1, g1⟩ := HA.out 1 (by omega)
      obtain ⟨a2, g2⟩ := HA.out 2 (by omega)
      obtain ⟨a3, g3⟩ := HA.out 3 (by omega)
      obtain ⟨a4, g4⟩ := HA.out 4 (by omega)
      obtain ⟨a5, g5⟩ := HA.out 5 (by omega)
      obtain ⟨a6, g6⟩ := HA.out 6 (by omega)
      obtain ⟨a7, g7⟩ := HA.out 7 (by omega)
      obtain ⟨z0, y0⟩ := HZ.out 0 (by omega)
      obtain ⟨z1, y1⟩ := HZ.out 1 (by omega)
      obtain ⟨z2, y2⟩ := HZ.out 2 (by omega)
      obtain ⟨z3, y3⟩ := HZ.out 3 (by omega)
      obtain ⟨z4, y4⟩ := HZ.out 4 (by omega)
      obtain ⟨z5, y5⟩ := HZ.out 5 (by omega)
      obtain ⟨z6, y6⟩ := HZ.out 6 (by omega)
      obtain ⟨z7, y7⟩ := HZ.out 7 (by omega)
      simp only [show (0:Nat) < 8 by omega, show (1:Nat) < 8 by omega, show (2:Nat) < 8 by omega, show (3:Nat) < 8 by omega, show (4:Nat) < 8 by omega, show (5:Nat) < 8 by omega, show (6:Nat) < 8 by omega, show (7:Nat) < 8 by omega, if_true] at a0 a1 a2 a3 a4 a5 a6 a7
      have hx := xor128 (byteJ u 0) (byteJ_lt u 0)
      generalize byteJ u 0 = b0 at *
      generalize byteJ u 1 = b1 at *
      generalize byteJ u 2 = b2 at *
      generalize byteJ u 3 = b3 at *
      generalize byteJ u 4 = b4 at *
      generalize byteJ u 5 = b5 at *
      generalize byteJ u 6 = b6 at *
      generalize byteJ u 7 = b7 at *
      clear HA HZ HZ3
      go_wp2
      rw [HW.out]
      refine bodyPost_ret (v := aggB [(b0 + 128) % 256, b1, b2, b3, b4, b5, b6, b7]) (by simp [results, Try.results30, go_sem, aggB, *]) rfl ⟨rfl, ?_⟩
      repeat (refine Below.setCell ?_ (by first | exact Nat.le_refl _ | (simp; done) | (simp; omega)) _)
      exact hb

/-- An integer of eight bytes, the greatest first, the first with its sign turned over. -/
def rdW (l : List Nat) : Int := (unB l : Int) - 9223372036854775808

set_option maxRecDepth 100000 in
set_option maxHeartbeats 4000000 in
theorem ReadWhole_any (l : List Nat) (w : World) (h8 : l.length = 8) (h256 : ∀ c ∈ l, c < 256) :
    Calls Try.prog 44 #[aggB l] w fun e w' => e = .returned (.int .i64 (rdW l)) ∧ Below w.heap.size w w' ∧ w'.heap.size = w.heap.size + 1 := by
  match l, h8 with
  | [c0, c1, c2, c3, c4, c5, c6, c7], _ =>
    have b0 := h256 c0 (by simp)
    have b1 := h256 c1 (by simp)
    have b2 := h256 c2 (by simp)
    have b3 := h256 c3 (by simp)
    have b4 := h256 c4 (by simp)
    have b5 := h256 c5 (by simp)
    have b6 := h256 c6 (by simp)
    have b7 := h256 c7 (by simp)
    obtain ⟨d0, hd0⟩ : ∃ d0, d0 = (c0 + 128) % 256 := ⟨_, rfl⟩
    have hx := xor128 c0 b0
    rw [← hd0] at hx
    have hd256 : d0 < 256 := by omega
    have HD := Lib.hid hd0
    clear h256 hd0
    show Calls Try.prog 44 #[.agg #[.int .u8 (c0 : Int), .int .u8 (c1 : Int), .int .u8 (c2 : Int), .int .u8 (c3 : Int), .int .u8 (c4 : Int), .int .u8 (c5 : Int), .int .u8 (c6 : Int), .int .u8 (c7 : Int)]] w _
    go_enter Try.func44, Try.ntmps44
    go_wp2
    go_loop [3, 11] (fun v i => ∃ k V : Nat, k ≤ 8 ∧ i = .int .i64 k ∧ v = .int .u64 V ∧ V < 256 ^ k ∧ Hid (V = unB ([d0, c1, c2, c3, c4, c5, c6, c7].take k))) (fun _ i => 8 - (intOf i).toNat)
    case atStart => exact ⟨0, 0, by omega, rfl, rfl, by simp, rfl⟩
    case round =>
      obtain ⟨k, V, hk, rfl, rfl, hV, HV⟩ := hrel
      by_cases hlt : k < 8
      · have hk8 : k = 0 ∨ k = 1 ∨ k = 2 ∨ k = 3 ∨ k = 4 ∨ k = 5 ∨ k = 6 ∨ k = 7 := by omega
        rcases hk8 with rfl | rfl | rfl | rfl | rfl | rfl | rfl | rfl
        · have hix : ∀ W, (Instr.index 51 (.agg #[.int .u8 (d0 : Int), .int .u8 (c1 : Int), .int .u8 (c2 : Int), .int .u8 (c3 : Int), .int .u8 (c4 : Int), .int .u8 (c5 : Int), .int .u8 (c6 : Int), .int .u8 (c7 : Int)]) (.int .i64 0)).run Try.prog W = .ok (.int .u8 (d0 : Int)) W := fun W => index8 d0 c1 c2 c3 c4 c5 c6 c7 0 (by omega) W
          have hV7 : V < 72057594037927936 := Nat.lt_of_lt_of_le hV (by decide)
          have hlt256 : d0 < 256 := by first | exact hd256 | assumption
          have hor := orB V d0 hV7 hlt256
          have hN : Hid (V * 256 + d0 = unB ([d0, c1, c2, c3, c4, c5, c6, c7].take (0 + 1))) := by rw [HV.out]; rfl
          have hVn : V * 256 + d0 < 256 ^ (0 + 1) := by rw [Nat.pow_succ]; omega
          clear hV
          go_wp2
          go_round
          case rel => exact ⟨0 + 1, V * 256 + d0, by omega, rfl, by first | rfl | (simp; done) | go_num, hVn, hN⟩
          case measure => simp [intOf]
        · have hix : ∀ W, (Instr.index 51 (.agg #[.int .u8 (d0 : Int), .int .u8 (c1 : Int), .int .u8 (c2 : Int), .int .u8 (c3 : Int), .int .u8 (c4 : Int), .int .u8 (c5 : Int), .int .u8 (c6 : Int), .int .u8 (c7 : Int)]) (.int .i64 1)).run Try.prog W = .ok (.int .u8 (c1 : Int)) W := fun W => index8 d0 c1 c2 c3 c4 c5 c6 c7 1 (by omega) W
          have hV7 : V < 72057594037927936 := Nat.lt_of_lt_of_le hV (by decide)
          have hlt256 : c1 < 256 := by first | exact hd256 | assumption
          have hor := orB V c1 hV7 hlt256
          have hN : Hid (V * 256 + c1 = unB ([d0, c1, c2, c3, c4, c5, c6, c7].take (1 + 1))) := by rw [HV.out]; rfl
          have hVn : V * 256 + c1 < 256 ^ (1 + 1) := by rw [Nat.pow_succ]; omega
          clear hV
          go_wp2
          go_round
          case rel => exact ⟨1 + 1, V * 256 + c1, by omega, rfl, by first | rfl | (simp; done) | go_num, hVn, hN⟩
          case measure => simp [intOf]
        · have hix : ∀ W, (Instr.index 51 (.agg #[.int .u8 (d0 : Int), .int .u8 (c1 : Int), .int .u8 (c2 : Int), .int .u8 (c3 : Int), .int .u8 (c4 : Int), .int .u8 (c5 : Int), .int .u8 (c6 : Int), .int .u8 (c7 : Int)]) (.int .i64 2)).run Try.prog W = .ok (.int .u8 (c2 : Int)) W := fun W => index8 d0 c1 c2 c3 c4 c5 c6 c7 2 (by omega) W
          have hV7 : V < 72057594037927936 := Nat.lt_of_lt_of_le hV (by decide)
          have hlt256 : c2 < 256 := by first | exact hd256 | assumption
          have hor := orB V c2 hV7 hlt256
          have hN : Hid (V * 256 + c2 = unB ([d0, c1, c2, c3, c4, c5, c6, c7].take (2 + 1))) := by rw [HV.out]; rfl
          have hVn : V * 256 + c2 < 256 ^ (2 + 1) := by rw [Nat.pow_succ]; omega
          clear hV
          go_wp2
          go_round
          case rel => exact ⟨2 + 1, V * 256 + c2, by omega, rfl, by first | rfl | (simp; done) | go_num, hVn, hN⟩
          case measure => simp [intOf]
        · have hix : ∀ W, (Instr.index 51 (.agg #[.int .u8 (d0 : Int), .int .u8 (c1 : Int), .int .u8 (c2 : Int), .int .u8 (c3 : Int), .int .u8 (c4 : Int), .int .u8 (c5 : Int), .int .u8 (c6 : Int), .int .u8 (c7 : Int)]) (.int .i64 3)).run Try.prog W = .ok (.int .u8 (c3 : Int)) W := fun W => index8 d0 c1 c2 c3 c4 c5 c6 c7 3 (by omega) W
          have hV7 : V < 72057594037927936 := Nat.lt_of_lt_of_le hV (by decide)
          have hlt256 : c3 < 256 := by first | exact hd256 | assumption
          have hor := orB V c3 hV7 hlt256
          have hN : Hid (V * 256 + c3 = unB ([d0, c1, c2, c3, c4, c5, c6, c7].take (3 + 1))) := by rw [HV.out]; rfl
          have hVn : V * 256 + c3 < 256 ^ (3 + 1) := by rw [Nat.pow_succ]; omega
          clear hV
          go_wp2
          go_round
          case rel => exact ⟨3 + 1, V * 256 + c3, by omega, rfl, by first | rfl | (simp; done) | go_num, hVn, hN⟩
          case measure => simp [intOf]
        · have hix : ∀ W, (Instr.index 51 (.agg #[.int .u8 (d0 : Int), .int .u8 (c1 : Int), .int .u8 (c2 : Int), .int .u8 (c3 : Int), .int .u8 (c4 : Int), .int .u8 (c5 : Int), .int .u8 (c6 : Int), .int .u8 (c7 : Int)]) (.int .i64 4)).run Try.prog W = .ok (.int .u8 (c4 : Int)) W := fun W => index8 d0 c1 c2 c3 c4 c5 c6 c7 4 (by omega) W
          have hV7 : V < 72057594037927936 := Nat.lt_of_lt_of_le hV (by decide)
          have hlt256 : c4 < 256 := by first | exact hd256 | assumption
          have hor := orB V c4 hV7 hlt256
          have hN : Hid (V * 256 + c4 = unB ([d0, c1, c2, c3, c4, c5, c6, c7].take (4 + 1))) := by rw [HV.out]; rfl
          have hVn : V * 256 + c4 < 256 ^ (4 + 1) := by rw [Nat.pow_succ]; omega
          clear hV
          go_wp2
          go_round
          case rel => exact ⟨4 + 1, V * 256 + c4, by omega, rfl, by first | rfl | (simp; done) | go_num, hVn, hN⟩
          case measure => simp [intOf]
        · have hix : ∀ W, (Instr.index 51 (.agg #[.int .u8 (d0 : Int), .int .u8 (c1 : Int), .int .u8 (c2 : Int), .int .u8 (c3 : Int), .int .u8 (c4 : Int), .int .u8 (c5 : Int), .int .u8 (c6 : Int), .int .u8 (c7 : Int)]) (.int .i64 5)).run Try.prog W = .ok (.int .u8 (c5 : Int)) W := fun W => index8 d0 c1 c2 c3 c4 c5 c6 c7 5 (by omega) W
          have hV7 : V < 72057594037927936 := Nat.lt_of_lt_of_le hV (by decide)
          have hlt256 : c5 < 256 := by first | exact hd256 | assumption
          have hor := orB V c5 hV7 hlt256
          have hN : Hid (V * 256 + c5 = unB ([d0, c1, c2, c3, c4, c5, c6, c7].take (5 + 1))) := by rw [HV.out]; rfl
          have hVn : V * 256 + c5 < 256 ^ (5 + 1) := by rw [Nat.pow_succ]; omega
          clear hV
          go_wp2
          go_round
          case rel => exact ⟨5 + 1, V * 256 + c5, by omega, rfl, by first | rfl | (simp; done) | go_num, hVn, hN⟩
          case measure => simp [intOf]
        · have hix : ∀ W, (Instr.index 51 (.agg #[.int .u8 (d0 : Int), .int .u8 (c1 : Int), .int .u8 (c2 : Int), .int .u8 (c3 : Int), .int .u8 (c4 : Int), .int .u8 (c5 : Int), .int .u8 (c6 : Int), .int .u8 (c7 : Int)]) (.int .i64 6)).run Try.prog W = .ok (.int .u8 (c6 : Int)) W := fun W => index8 d0 c1 c2 c3 c4 c5 c6 c7 6 (by omega) W
          have hV7 : V < 72057594037927936 := Nat.lt_of_lt_of_le hV (by decide)
          have hlt256 : c6 < 256 := by first | exact hd256 | assumption
          have hor := orB V c6 hV7 hlt256
          have hN : Hid (V * 256 + c6 = unB ([d0, c1, c2, c3, c4, c5, c6, c7].take (6 + 1))) := by rw [HV.out]; rfl
          have hVn : V * 256 + c6 < 256 ^ (6 + 1) := by rw [Nat.pow_succ]; omega
          clear hV
          go_wp2
          go_round
          case rel => exact ⟨6 + 1, V * 256 + c6, by omega, rfl, by first | rfl | (simp; done) | go_num, hVn, hN⟩
          case measure => simp [intOf]
        · have hix : ∀ W, (Instr.index 51 (.agg #[.int .u8 (d0 : Int), .int .u8 (c1 : Int), .int .u8 (c2 : Int), .int .u8 (c3 : Int), .int .u8 (c4 : Int), .int .u8 (c5 : Int), .int .u8 (c6 : Int), .int .u8 (c7 : Int)]) (.int .i64 7)).run Try.prog W = .ok (.int .u8 (c7 : Int)) W := fun W => index8 d0 c1 c2 c3 c4 c5 c6 c7 7 (by omega) W
          have hV7 : V < 72057594037927936 := Nat.lt_of_lt_of_le hV (by decide)
          have hlt256 : c7 < 256 := by first | exact hd256 | assumption
          have hor := orB V c7 hV7 hlt256
          have hN : Hid (V * 256 + c7 = unB ([d0, c1, c2, c3, c4, c5, c6, c7].take (7 + 1))) := by rw [HV.out]; rfl
          have hVn : V * 256 + c7 < 256 ^ (7 + 1) := by rw [Nat.pow_succ]; omega
          clear hV
          go_wp2
          go_round
          case rel => exact ⟨7 + 1, V * 256 + c7, by omega, rfl, by first | rfl | (simp; done) | go_num, hVn, hN⟩
          case measure => simp [intOf]
      · have hk8 : k = 8 := by omega
        subst hk8
        have hW : wrap64 (V : Int) = (unB [c0, c1, c2, c3, c4, c5, c6, c7] : Int) - 9223372036854775808 := by
          have e1 := HV.out
          have e2 := HD.out
          simp only [List.take_succ_cons, List.take_zero, unB, List.foldl_cons, List.foldl_nil] at e1 ⊢
          unfold wrap64
          omega
        have HW := Lib.hid hW
        have hV64 : V < 18446744073709551616 := Nat.lt_of_lt_of_le hV (by decide)
        clear hW hV
        go_wp2
        go_ret
        refine ⟨?_, ?_, by simp⟩
        · rw [show rdW [c0, c1, c2, c3, c4, c5, c6, c7] = wrap64 (V : Int) from HW.out.symm]; rfl
        · exact (Below.refl _ _).alloc (Nat.le_refl _) _
end Go.Proofs.Ytbglchoamihdlaa

/- The walk of key.readWhole. -/
namespace Go.Proofs.Ytbglchoamihdlaa
open Go.RowKit

set_option maxRecDepth 100000 in
set_option maxHeartbeats 4000000 in
theorem readWhole_any (N : Nat) (l : List Nat) (a : Option Addr) (n cap : Nat) (w : World) (hB : Bs N w a l) (hN : N ≤ w.heap.size) (hn : n = l.length) (hnil : a = none → n = 0 ∧ cap = 0) (hmax : n ≤ 1000000) (hcap : n ≤ cap) :
    Calls Try.prog 39 #[.slice a n cap] w fun e w' => e = .returned (.tuple #[.int .i64 (if 8 ≤ n then (unB (l.take 8) : Int) - 9223372036854775808 else 0), .bool (decide (8 ≤ n))]) ∧ Below w.heap.size w w' := by
  obtain ⟨W2, hrun, hb, harr⟩ := copy8 w N l a n cap hB hN hn hnil 3
  by_cases h8 : 8 ≤ n
  · have hA := harr h8
    have hmin : min n 8 = 8 := by omega
    rw [hmin] at hrun
    clear harr hB hnil hn
    rw [if_pos h8, decide_eq_true h8]
    obtain ⟨hl, h256, hcells⟩ := hA
    generalize l.take 8 = L at *
    have HR := Lib.hid (fun W => ReadWhole_any L W hl h256)
    match L, hl with
    | [c0, c1, c2, c3, c4, c5, c6, c7], _ =>
      obtain ⟨a0, g0⟩ := hcells 0 (by simp)
      obtain ⟨a1, g1⟩ := hcells 1 (by simp)
      obtain ⟨a2, g2⟩ := hcells 2 (by simp)
      obtain ⟨a3, g3⟩ := hcells 3 (by simp)
      obtain ⟨a4, g4⟩ := hcells 4 (by simp)
      obtain ⟨a5, g5⟩ := hcells 5 (by simp)
      obtain ⟨a6, g6⟩ := hcells 6 (by simp)
      obtain ⟨a7, g7⟩ := hcells 7 (by simp)
      simp only [List.getElem_cons_zero, List.getElem_cons_succ] at a0 a1 a2 a3 a4 a5 a6 a7
      have HR2 : Hid (∀ W, Calls Try.prog 44 #[.agg #[.int .u8 (c0 : Int), .int .u8 (c1 : Int), .int .u8 (c2 : Int), .int .u8 (c3 : Int), .int .u8 (c4 : Int), .int .u8 (c5 : Int), .int .u8 (c6 : Int), .int .u8 (c7 : Int)]] W fun e w' => e = .returned (.int .i64 ((unB [c0, c1, c2, c3, c4, c5, c6, c7] : Int) - 9223372036854775808)) ∧ Below W.heap.size W w' ∧ w'.heap.size = W.heap.size + 1) := HR.out
      clear hcells h256 hl HR
      go_enter Try.func39, Try.ntmps39
      go_wp2_with fail
      refine (HR2.out _).mono ?_
      rintro e w3 ⟨rfl, hb3, _⟩
      go_wp2
      go_ret2
      exact ⟨rfl, hb.trans (hb3.mono hb.size)⟩
  · have hmin : min n 8 = n := by omega
    rw [hmin] at hrun
    clear harr hB hnil hn
    rw [if_neg h8, decide_eq_false h8]
    have hlt : n < 8 := by omega
    go_enter Try.func39, Try.ntmps39
    go_wp2
    go_ret2
    exact ⟨rfl, hb⟩
end Go.Proofs.Ytbglchoamihdlaa

/- The walks of key.encode and key.Write. -/
namespace Go.Proofs.Ytbglchoamihdlaa
open Go.RowKit

theorem Bs.arr (w : World) (T : TypeId) (l : List Nat) (h256 : ∀ c ∈ l, c < 256) : Bs (w.heap.size + 1) (w.alloc (.cells (l.map fun (c : Nat) => Value.int .u8 (c : Int)).toArray T)) (some ⟨w.heap.size, 0, none⟩) l :=
  Bs.new w l h256 _ T (by intro i c hi; simp [hi])

theorem esc_ne (s : ByteArray) : escL (bytesOf s) ++ [0, 1] ≠ [] := by simp

set_option maxHeartbeats 2000000 in
theorem kencode_any (x : Vl) (w : World) (hr : x.right = true) (hn1 : -9223372036854775808 ≤ x.n) (hn2 : x.n ≤ 9223372036854775807) (hs : x.s.size ≤ 1000000) :
    Calls Try.prog 19 #[.agg #[.int .u8 x.k, .int .i64 x.n, .string x.s]] w (RetB w (encK x)) := by
  obtain ⟨i0, hi, hz0, hz1, hz2⟩ := info_parts Try.info5
  rcases right_kind hr with h | h | ⟨hk, h⟩
  · rw [h]
    clear hn1 hn2 hs hr h
    have hown := OwnB.new (w.alloc (.cells #[.int .u8 0, .int .i64 0, .string ⟨#[]⟩] 39)) w.heap.size 5 16 16 (w.heap.size + 1) rfl (by omega) (by simp) (by simp)
    go_enter Try.func19, Try.ntmps19
    go_wp2
    go_ret
    exact RetB.of ⟨_, rfl, hown, ((Below.refl _ _).alloc (Nat.le_refl _) _).alloc (by simp) _⟩
  · obtain ⟨k, n, s⟩ := x
    simp only [Vl.mk.injEq] at h
    obtain ⟨rfl, -, rfl⟩ := h
    simp only at hn1 hn2
    clear hs hr
    have HK := Lib.hid (fun W => Whole_any n W hn1 hn2)
    have h256 := whole8_lt (up64 n)
    have HE : Hid (encK ⟨1, n, ⟨#[]⟩⟩ = [17] ++ whole8 (up64 n)) := rfl
    obtain ⟨L, hL⟩ : ∃ L, whole8 (up64 n) = L := ⟨_, rfl⟩
    have h8 : L.length = 8 := by rw [← hL]; rfl
    rw [hL] at HK h256 HE
    clear hL hn1 hn2
    match L, h8 with
    | [b0, b1, b2, b3, b4, b5, b6, b7], _ =>
      have HL256 := Lib.hid h256
      clear h256
      go_enter Try.func19, Try.ntmps19
      go_wp2_with fail
      have hown := OwnB.new (w.alloc (.cells #[.int .u8 1, .int .i64 n, .string ⟨#[]⟩] 39)) w.heap.size 5 17 17 (w.heap.size + 1) rfl (by omega) (by simp) (by simp)
      have hw : Below w.heap.size w ((w.alloc (.cells #[.int .u8 1, .int .i64 n, .string ⟨#[]⟩] 39)).alloc (.cells #[.int .u8 17] 5)) := ((Below.refl _ _).alloc (Nat.le_refl _) _).alloc (by simp) _
      refine (HK.out _).mono ?_
      rintro e w2 ⟨rfl, hb2⟩
      rw [show aggB [b0, b1, b2, b3, b4, b5, b6, b7] = .agg #[.int .u8 (b0 : Int), .int .u8 (b1 : Int), .int .u8 (b2 : Int), .int .u8 (b3 : Int), .int .u8 (b4 : Int), .int .u8 (b5 : Int), .int .u8 (b6 : Int), .int .u8 (b7 : Int)] from rfl]
      have hown2 := hown.below (Nat.le_refl _) hb2
      replace hw := hw.trans (hb2.mono hw.size)
      have hsz := hw.size
      clear hown hb2 HK
      have hB : Bs (w2.heap.size + 1) (w2.alloc (.cells #[.int .u8 (b0 : Int), .int .u8 (b1 : Int), .int .u8 (b2 : Int), .int .u8 (b3 : Int), .int .u8 (b4 : Int), .int .u8 (b5 : Int), .int .u8 (b6 : Int), .int .u8 (b7 : Int)] 51)) (some ⟨w2.heap.size, 0, none⟩) [b0, b1, b2, b3, b4, b5, b6, b7] := Bs.arr w2 51 _ HL256.out
      have hown3 := hown2.below (Nat.le_refl _) (Below.box w2 (.cells #[.int .u8 (b0 : Int), .int .u8 (b1 : Int), .int .u8 (b2 : Int), .int .u8 (b3 : Int), .int .u8 (b4 : Int), .int .u8 (b5 : Int), .int .u8 (b6 : Int), .int .u8 (b7 : Int)] 51))
      have hw3 := hw.alloc hsz (.cells #[.int .u8 (b0 : Int), .int .u8 (b1 : Int), .int .u8 (b2 : Int), .int .u8 (b3 : Int), .int .u8 (b4 : Int), .int .u8 (b5 : Int), .int .u8 (b6 : Int), .int .u8 (b7 : Int)] 51)
      have hsz3 := hw3.size
      clear hown2
      go_wp2_with (at_builtin; refine wpList_appB rfl _ _ 22 rfl w.heap.size 5 i0 Try.underlying22 hi hz0 hz1 hz2 _ _ _ hown3 rfl (w2.heap.size + 1) (some ⟨w2.heap.size, 0, none⟩) [b0, b1, b2, b3, b4, b5, b6, b7] 8 8 hB (by simp) rfl rfl (by simp) hsz3 ?_; intro v4 w4 hown4 hb4 hsz4)
      go_ret
      rw [HE.out]
      exact RetB.of ⟨_, rfl, hown4, hw3.trans hb4⟩
  · obtain ⟨k, n, s⟩ := x
    simp only [Vl.mk.injEq] at h
    obtain ⟨-, rfl, -⟩ := h
    simp only at hk hs
    clear hn1 hn2 hr
    have hel := escL_len (bytesOf s)
    rw [bytesOf_len] at hel
    have hne := esc_ne s
    have HE : ∀ k, k = 2 ∨ k = 3 → encK ⟨k, 0, s⟩ = [16 + k] ++ (escL (bytesOf s) ++ [0, 1]) := by
      intro k hk; unfold encK; rw [if_neg (by simp only; omega), if_neg (by simp only; omega)]; rfl
    have HE := Lib.hid HE
    obtain ⟨L, hL⟩ : ∃ L, escL (bytesOf s) ++ [0, 1] = L := ⟨_, rfl⟩
    have hLl : L.length ≤ 3000000 := by rw [← hL, List.length_append]; simp only [List.length_cons, List.length_nil]; omega
    have HEs := Lib.hid (fun W => escape_any s W hs)
    rw [hL] at HE HEs hne
    clear hL hel
    rcases hk with rfl | rfl
    all_goals
      go_enter Try.func19, Try.ntmps19
      go_wp2_with fail
    · have hown := OwnB.new (w.alloc (.cells #[.int .u8 2, .int .i64 0, .string s] 39)) w.heap.size 5 18 18 (w.heap.size + 1) rfl (by omega) (by simp) (by simp)
      have hw : Below w.heap.size w ((w.alloc (.cells #[.int .u8 2, .int .i64 0, .string s] 39)).alloc (.cells #[.int .u8 18] 5)) := ((Below.refl _ _).alloc (Nat.le_refl _) _).alloc (by simp) _
      refine (HEs.out _).mono ?_
      rintro e w2 ⟨a2, c2, rfl, hcap2, hB2, hb2⟩
      have hown2 := hown.below (Nat.le_refl _) hb2
      replace hw := hw.trans (hb2.mono hw.size)
      have hsz := hw.size
      clear hown hb2
      go_wp2_with (at_builtin; refine wpList_appB rfl _ _ 22 rfl w.heap.size 5 i0 Try.underlying22 hi hz0 hz1 hz2 _ _ w2 hown2 rfl w2.heap.size a2 L L.length c2 hB2 hne rfl rfl (by simp; omega) hsz ?_; intro v3 w3 hown3 hb3 hsz3)
      go_ret
      rw [HE.out 2 (.inl rfl)]
      exact RetB.of ⟨_, rfl, hown3, hw.trans hb3⟩
    · have hown := OwnB.new (w.alloc (.cells #[.int .u8 3, .int .i64 0, .string s] 39)) w.heap.size 5 19 19 (w.heap.size + 1) rfl (by omega) (by simp) (by simp)
      have hw : Below w.heap.size w ((w.alloc (.cells #[.int .u8 3, .int .i64 0, .string s] 39)).alloc (.cells #[.int .u8 19] 5)) := ((Below.refl _ _).alloc (Nat.le_refl _) _).alloc (by simp) _
      refine (HEs.out _).mono ?_
      rintro e w2 ⟨a2, c2, rfl, hcap2, hB2, hb2⟩
      have hown2 := hown.below (Nat.le_refl _) hb2
      replace hw := hw.trans (hb2.mono hw.size)
      have hsz := hw.size
      clear hown hb2
      go_wp2_with (at_builtin; refine wpList_appB rfl _ _ 22 rfl w.heap.size 5 i0 Try.underlying22 hi hz0 hz1 hz2 _ _ w2 hown2 rfl w2.heap.size a2 L L.length c2 hB2 hne rfl rfl (by simp; omega) hsz ?_; intro v3 w3 hown3 hb3 hsz3)
      go_ret
      rw [HE.out 3 (.inr rfl)]
      exact RetB.of ⟨_, rfl, hown3, hw.trans hb3⟩

theorem encK_len (x : Vl) (hs : x.s.size ≤ 100) : (encK x).length ≤ 300 := by
  have h := escL_len (bytesOf x.s)
  rw [bytesOf_len] at h
  unfold encK
  split
  · simp
  · split
    · simp [whole8]
    · simp only [List.length_cons, List.length_append, List.length_nil]; omega

theorem keyL_len (l : List Vl) (hs : ∀ x ∈ l, x.s.size ≤ 100) : (keyL l).length ≤ l.length * 300 := by
  induction l with
  | nil => simp [keyL]
  | cons x r ih =>
    have h1 := ih (fun y hy => hs y (by simp [hy]))
    have h2 := encK_len x (hs x (by simp))
    rw [keyL_cons, List.length_append, List.length_cons]
    omega

theorem escL_ge (l : List Nat) : l.length ≤ (escL l).length := by
  induction l with
  | nil => simp
  | cons c r ih =>
    by_cases hc : c = 0
    · subst hc; rw [escL_cons0]; simp; omega
    · rw [escL_cons hc]; simp; omega

theorem keyL_great (l : List Vl) (x : Vl) (hx : x ∈ l) (hr : x.right = true) (hs : 100 < x.s.size) : 100 < (keyL l).length := by
  have h1 : x.s.size ≤ (encK x).length := by
    rcases right_kind hr with h | h | ⟨hk, h⟩
    · rw [h] at hs; simp [ByteArray.size] at hs
    · rw [h] at hs; simp [ByteArray.size] at hs
    · have := escL_ge (bytesOf x.s)
      rw [bytesOf_len] at this
      unfold encK
      rw [if_neg (by omega), if_neg (by omega)]
      simp only [List.length_cons, List.length_append]; omega
  have h2 : (encK x).length ≤ (keyL l).length := by
    obtain ⟨a, b, rfl⟩ := List.append_of_mem hx
    unfold keyL
    rw [List.flatMap_append, List.flatMap_cons]
    simp only [List.length_append]; omega
  omega

theorem writeK_bad {l : List Vl} (h : rowOk l = false) : writeK l = ([], 3) := by unfold writeK; rw [if_pos h]
theorem writeK_long {l : List Vl} (h : rowOk l = true) (h2 : 100 < (keyL l).length) : writeK l = ([], 2) := by
  unfold writeK; rw [if_neg (by rw [h]; simp), if_pos h2]
theorem writeK_good {l : List Vl} (h : rowOk l = true) (h2 : ¬ 100 < (keyL l).length) : writeK l = (keyL l, 0) := by
  unfold writeK; rw [if_neg (by rw [h]; simp), if_neg h2]

theorem encK_ne (x : Vl) : encK x ≠ [] := by intro h; have := encK_pos x; rw [h] at this; simp at this

set_option maxHeartbeats 2000000 in
theorem KWrite_any (l : List Vl) (a : Option Addr) (len cap : Nat) (w : World) (hV : Vs w.heap.size w a l) (hlen : len = l.length) (hmax : len ≤ 140737488355328) (hf : ∀ x ∈ l, x.fair) :
    Calls Try.prog 12 #[.slice a len cap] w (RetBE w (writeK l)) := by
  have HI := Lib.hid (isTuple_any l a len cap w hV hlen hmax)
  cases hro : rowOk l with
  | false =>
    rw [hro] at HI
    rw [writeK_bad hro]
    clear hV hlen hf hro
    go_enter Try.func12, Try.ntmps12
    go_wp2_with fail
    refine HI.out.mono ?_
    rintro e w1 ⟨rfl, hb⟩
    go_wp2
    go_ret2
    exact ⟨none, 0, rfl, by simp, ⟨by simp, .inl rfl⟩, hb⟩
  | true =>
    rw [hro] at HI
    obtain ⟨i0, hi, hz0, hz1, hz2⟩ := info_parts Try.info5
    obtain ⟨h16, hright⟩ := (rowOk_iff l).1 hro
    have hlen16 : len ≤ 16 := by omega
    have HV := Lib.hid hV
    have HL := Lib.hid hlen
    have HF := Lib.hid hf
    have HR := Lib.hid hright
    have HRo := Lib.hid hro
    clear hV hlen hf hright hro h16
    go_enter Try.func12, Try.ntmps12
    go_wp2_with fail
    refine HI.out.mono ?_
    rintro e w1 ⟨rfl, hb1⟩
    clear HI
    go_wp2
    go_loopw [4, 12] (fun v i wr => ∃ k : Nat, k ≤ len ∧ i = .int .i64 k ∧ OwnB wr w.heap.size 5 v (keyL (l.take k)) ∧ Hid (∀ x ∈ l.take k, x.s.size ≤ 100) ∧ Below w.heap.size w wr) (fun _ i _ => len - (intOf i).toNat)
    case atStart => exact ⟨0, by omega, rfl, OwnB.nil _ _ _, by simp [Hid], hb1⟩
    case round =>
      obtain ⟨k, hk, rfl, hown, HS, hb⟩ := hrel
      have hsz := hb.size
      by_cases hlt : k < len
      · have hkl : k < l.length := by have := HL.out; omega
        obtain ⟨b, o, rfl, hbN, hc⟩ := HV.out.at_ hkl
        obtain ⟨c0, c1, c2⟩ := hc.below hb hbN
        have hfy := HF.out _ (List.getElem_mem hkl)
        have hry := HR.out _ (List.getElem_mem hkl)
        have HT := Lib.hid (keyL_take l k hkl)
        have hlen1 := keyL_len (l.take k) HS.out
        rw [List.length_take] at hlen1
        have hlen2 : (keyL (l.take k)).length ≤ 200000 := by
          have : min k l.length ≤ 16 := by omega
          omega
        have HG := Lib.hid (fun (h : 100 < l[k].s.size) => keyL_great l l[k] (List.getElem_mem hkl) hry h)
        have HSn : Hid (l[k].s.size ≤ 100 → ∀ x ∈ l.take (k + 1), x.s.size ≤ 100) := by
          intro h x hx
          rw [List.take_succ_eq_append_getElem hkl] at hx
          rcases List.mem_append.1 hx with hx | hx
          · exact HS.out x hx
          · rw [List.mem_singleton.1 hx]; exact h
        clear hlen1
        obtain ⟨y, hy⟩ : ∃ y, y = l[k] := ⟨_, rfl⟩
        rw [← hy] at c0 c1 c2 HT HG HSn hfy hry
        clear hy hc
        by_cases hbig : 100 < y.s.size
        · have HW : Hid (writeK l = ([], 2)) := writeK_long HRo.out (by have := HG.out hbig; omega)
          go_wp2
          go_ret2
          rw [HW.out]
          exact ⟨none, 0, rfl, by simp, ⟨by simp, .inl rfl⟩, hb.trans (((Below.refl _ _).alloc (Nat.le_refl _) _).mono hsz)⟩
        · have q1 : decide ((100 : Int) < (y.s.size : Int)) = false := by simp; omega
          have hel := encK_len y (by omega)
          have hne := encK_ne y
          have HE := Lib.hid (fun W => kencode_any y W hry hfy.2.1.1 hfy.2.1.2 (by omega))
          have HSn2 : Hid (∀ x ∈ l.take (k + 1), x.s.size ≤ 100) := HSn.out (by omega)
          clear hfy hry HG HSn hbig
          go_wp2_with fail
          refine (HE.out _).mono ?_
          rintro e w3 ⟨a3, c3, rfl, hcap3, hB3, hb3⟩
          clear HE
          have hown3 := (hown.below (Nat.le_refl _) ((Below.refl _ _).alloc (Nat.le_refl _) _)).below (N := wr.heap.size + 1) (by simp) (by simpa using hb3)
          have hb4 : Below w.heap.size w w3 := hb.trans (Below.trans ((Below.refl _ _).alloc hsz _) (hb3.mono (by simp; omega)))
          have hsz4 := hb4.size
          clear hb3 hown
          go_wp2_with (at_builtin; refine wpList_appB rfl _ _ 22 rfl w.heap.size 5 i0 Try.underlying22 hi hz0 hz1 hz2 _ _ w3 hown3 rfl w3.heap.size a3 (encK y) (encK y).length c3 hB3 hne rfl rfl (by omega) hsz4 ?_; intro v5 w5 hown5 hb5 hsz5)
          go_roundw
          case rel => exact ⟨k + 1, by omega, by go_num, by rw [HT.out]; exact hown5, HSn2, hb4.trans hb5⟩
          case measure => simp [intOf]; omega
      · have hall : l.take k = l := List.take_of_length_le (by have := HL.out; omega)
        have hlen1 := keyL_len (l.take k) HS.out
        rw [hall] at hown hlen1
        clear hall
        obtain ⟨n, hn⟩ : ∃ n, n = (keyL l).length := ⟨_, rfl⟩
        obtain ⟨a5, c5, rfl, hcap5, hB5, _⟩ := hown.slice
        rw [← hn] at hcap5 hlen1 ⊢
        have hnl : n ≤ 200000 := by have := HL.out; omega
        have HN := Lib.hid hn
        have HB5 := Lib.hid hB5
        clear hn hown hB5 hlen1
        by_cases hbig : 100 < n
        · have HW : Hid (writeK l = ([], 2)) := writeK_long HRo.out (by have := HN.out; omega)
          go_wp2
          go_ret2
          rw [HW.out]
          exact ⟨none, 0, rfl, by simp, ⟨by simp, .inl rfl⟩, hb⟩
        · have q1 : decide ((100 : Int) < (n : Int)) = false := by simp; omega
          have HW : Hid (writeK l = (keyL l, 0)) := writeK_good HRo.out (by have := HN.out; omega)
          go_wp2
          go_ret2
          rw [HW.out]
          refine ⟨a5, c5, ?_, by rw [← HN.out]; exact hcap5, HB5.out, hb⟩
          rw [← HN.out]; rfl
end Go.Proofs.Ytbglchoamihdlaa

/- The walk of key.unescape. -/
namespace Go.Proofs.Ytbglchoamihdlaa
open Go.RowKit

/-- A string, the bytes of its marked form, and whether there is one. -/
def RetU (w : World) (o : Option (List Nat × Nat)) (e : Ending) (w' : World) : Prop :=
  Below w.heap.size w w' ∧ ((o = none ∧ ∃ s : ByteArray, e = .returned (.tuple #[.string s, .int .i64 0, .bool false])) ∨ ∃ (s : List Nat) (m : Nat), o = some (s, m) ∧ e = .returned (.tuple #[.string (strN s), .int .i64 (m : Int), .bool true]))

/-- What is still to be read, behind a mark or not. -/
def unLeft (D : List Nat) (k : Nat) : Bool → List Nat
  | true => 0 :: D.drop k
  | false => D.drop k
def unOff (k : Nat) : Bool → Nat
  | true => k - 1
  | false => k
def unInv (D : List Nat) (k : Nat) (mark : Bool) (A : List Nat) : Prop := (mark = true → 0 < k) ∧ (∀ c ∈ A, c < 256) ∧ unesc D = (unesc (unLeft D k mark)).map (fun p => (A ++ p.1, p.2 + unOff k mark))

theorem un_end {D A : List Nat} {k : Nat} {mark : Bool} (h : unInv D k mark A) (hk : D.length ≤ k) : unesc D = none := by
  rw [h.2.2]
  cases mark
  · show (unesc (D.drop k)).map _ = none
    rw [List.drop_of_length_le hk]; rfl
  · show (unesc (0 :: D.drop k)).map _ = none
    rw [List.drop_of_length_le hk]; rfl

theorem un_done {D A : List Nat} {k : Nat} (h : unInv D k true A) (hk : k < D.length) (hc : D[k] = 1) : unesc D = some (A, k + 1) := by
  have h0 := h.1 rfl
  rw [h.2.2]
  show (unesc (0 :: D.drop k)).map (fun p => (A ++ p.1, p.2 + (k - 1))) = _
  rw [List.drop_eq_getElem_cons hk, hc, unesc_zero, if_pos rfl]
  simp; omega

theorem un_bad {D A : List Nat} {k : Nat} (h : unInv D k true A) (hk : k < D.length) (hc : D[k] ≠ 1) (hc2 : D[k] ≠ 255) : unesc D = none := by
  rw [h.2.2]
  show (unesc (0 :: D.drop k)).map _ = _
  rw [List.drop_eq_getElem_cons hk, unesc_zero, if_neg hc, if_neg hc2]; rfl

theorem un_mark {D A : List Nat} {k : Nat} (h : unInv D k true A) (hk : k < D.length) (hc : D[k] = 255) : unInv D (k + 1) false (A ++ [0]) := by
  have h0 := h.1 rfl
  refine ⟨by simp, ?_, ?_⟩
  · intro c hc; rcases List.mem_append.1 hc with hc | hc
    · exact h.2.1 c hc
    · rw [List.mem_singleton.1 hc]; omega
  · rw [h.2.2]
    show (unesc (0 :: D.drop k)).map (fun p => (A ++ p.1, p.2 + (k - 1))) = (unesc (D.drop (k + 1))).map (fun p => (A ++ [0] ++ p.1, p.2 + (k + 1)))
    rw [List.drop_eq_getElem_cons hk, hc, unesc_zero, if_neg (by omega), if_pos rfl]
    cases unesc (D.drop (k + 1)) with
    | none => rfl
    | some p => simp; omega

theorem un_zero {D A : List Nat} {k : Nat} (h : unInv D k false A) (hk : k < D.length) (hc : D[k] = 0) : unInv D (k + 1) true A := by
  refine ⟨by simp, h.2.1, ?_⟩
  rw [h.2.2]
  show (unesc (D.drop k)).map _ = (unesc (0 :: D.drop (k + 1))).map (fun p => (A ++ p.1, p.2 + (k + 1 - 1)))
  rw [List.drop_eq_getElem_cons hk, hc]
  rfl

theorem un_plain {D A : List Nat} {k : Nat} (h : unInv D k false A) (hk : k < D.length) (hc : D[k] ≠ 0) (h256 : D[k] < 256) : unInv D (k + 1) false (A ++ [D[k]]) := by
  refine ⟨by simp, ?_, ?_⟩
  · intro c hc; rcases List.mem_append.1 hc with hc | hc
    · exact h.2.1 c hc
    · rw [List.mem_singleton.1 hc]; exact h256
  · rw [h.2.2]
    show (unesc (D.drop k)).map (fun p => (A ++ p.1, p.2 + k)) = (unesc (D.drop (k + 1))).map (fun p => (A ++ [D[k]] ++ p.1, p.2 + (k + 1)))
    rw [List.drop_eq_getElem_cons hk, unesc_cons hc]
    cases unesc (D.drop (k + 1)) with
    | none => rfl
    | some p => simp; omega

set_option maxHeartbeats 4000000 in
theorem unescape_any (N : Nat) (l : List Nat) (a : Option Addr) (n cap : Nat) (w : World) (hB : Bs N w a l) (hN : N ≤ w.heap.size) (hn : n = l.length) (hmax : n ≤ 1000000) (hcap : n ≤ cap) :
    Calls Try.prog 40 #[.slice a n cap] w (RetU w (unesc l)) := by
  obtain ⟨i0, hi, hz0, hz1, hz2⟩ := info_parts Try.info5
  have HB := Lib.hid hB
  have HL := Lib.hid hn
  clear hB hn
  go_enter Try.func40, Try.ntmps40
  go_wp2
  go_step3
  go_wp2
  go_step3
  go_wp2
  go_loopw [5, 6, 7, 12] (fun v mk sz i wr => ∃ (k : Nat) (mark : Bool) (A : List Nat), k ≤ n ∧ i = .int .i64 k ∧ mk = .bool mark ∧ sz = .int .i64 0 ∧ A.length ≤ k ∧ OwnB wr w.heap.size 5 v A ∧ Hid (unInv l k mark A) ∧ Below w.heap.size w wr) (fun _ _ _ i _ => n - (intOf i).toNat)
  case atStart => exact ⟨0, false, [], by omega, rfl, rfl, rfl, by simp, OwnB.nil _ _ _, ⟨by simp, by simp, by show unesc l = (unesc l).map (fun p => ([] ++ p.1, p.2 + 0)); cases unesc l <;> rfl⟩, Below.refl _ _⟩
  case round =>
    obtain ⟨k, mark, A, hk, rfl, rfl, rfl, hAl, hown, HI, hb⟩ := hrel
    have hsz := hb.size
    by_cases hlt : k < n
    · have hkl : k < l.length := by have := HL.out; omega
      rcases HB.out.2 with hnil | ⟨b, o, rfl, hbN, hcell⟩
      · rw [hnil] at hkl; simp at hkl
      · have hc := (hb.cell (p := ⟨b, o + k, none⟩) (show b < w.heap.size by omega)).trans (hcell k l[k] (List.getElem?_eq_getElem hkl))
        have h256 := HB.out.1 _ (List.getElem_mem hkl)
        obtain ⟨c, hcd⟩ : ∃ c, c = l[k] := ⟨_, rfl⟩
        rw [← hcd] at hc h256
        have HCD := Lib.hid hcd
        clear hcd hcell
        cases mark with
        | true =>
          by_cases h1 : c = 1
          · have HU := Lib.hid (un_done HI.out hkl (by rw [← HCD.out]; exact h1))
            have q1 : ((c : Int) == 1) = true := by simp [h1]
            obtain ⟨a5, c5, rfl, hcap5, hB5, _⟩ := hown.slice
            have hcv := hB5.str A.length c5 rfl
            clear hB5 hown hcap5 h1 HI HCD
            go_wp2
            all_goals (
              (try rw [Exit.noGoto_ret])
              go_ret3
              exact ⟨hb, .inr ⟨A, k + 1, HU.out, rfl⟩⟩)
          · have q1 : ((c : Int) == 1) = false := by simp; omega
            by_cases h2 : c = 255
            · have q2 : ((c : Int) != 255) = false := by simp [h2]
              have HI2 := Lib.hid (un_mark HI.out hkl (by rw [← HCD.out]; exact h2))
              clear h1 h2 HI HCD
              go_wp2_with (at_builtin; refine wpList_app1 rfl _ _ 22 rfl w.heap.size 5 i0 Try.underlying22 hi hz0 hz1 hz2 _ _ wr hown rfl 0 (by omega) _ rfl rfl (by omega) hsz ?_; intro v1 w1 hown1 hb1 hsz1)
              all_goals (
                go_roundw
                case rel => exact ⟨k + 1, false, A ++ [0], by omega, by go_num, rfl, rfl, by simp; omega, hown1, HI2, hb.trans hb1⟩
                case measure => simp [intOf]; omega)
            · have q2 : ((c : Int) != 255) = true := by simp; omega
              have HU := Lib.hid (un_bad HI.out hkl (by rw [← HCD.out]; exact h1) (by rw [← HCD.out]; exact h2))
              obtain ⟨a5, c5, rfl, hcap5, hB5, _⟩ := hown.slice
              have hcv := hB5.str A.length c5 rfl
              clear hB5 hown hcap5 h1 h2 HI HCD
              go_wp2
              all_goals (
                (try rw [Exit.noGoto_ret])
                go_ret3
                exact ⟨hb, .inl ⟨HU.out, _, rfl⟩⟩)
        | false =>
          by_cases h0 : c = 0
          · have q0 : ((c : Int) == 0) = true := by simp [h0]
            have HI2 := Lib.hid (un_zero HI.out hkl (by rw [← HCD.out]; exact h0))
            clear h0 HI HCD
            go_wp2
            all_goals (
              go_roundw
              case rel => exact ⟨k + 1, true, A, by omega, by go_num, rfl, rfl, by omega, hown, HI2, hb⟩
              case measure => simp [intOf]; omega)
          · have q0 : ((c : Int) == 0) = false := by simp; omega
            have HI2 := Lib.hid (un_plain HI.out hkl (by rw [← HCD.out]; exact h0) (by rw [← HCD.out]; exact h256))
            rw [← HCD.out] at HI2
            clear h0 HI HCD
            go_wp2_with (at_builtin; refine wpList_app1 rfl _ _ 22 rfl w.heap.size 5 i0 Try.underlying22 hi hz0 hz1 hz2 _ _ wr hown rfl c h256 _ rfl rfl (by omega) hsz ?_; intro v1 w1 hown1 hb1 hsz1)
            all_goals (
              go_roundw
              case rel => exact ⟨k + 1, false, A ++ [c], by omega, by go_num, rfl, rfl, by simp; omega, hown1, HI2, hb.trans hb1⟩
              case measure => simp [intOf]; omega)
    · have HU := Lib.hid (un_end HI.out (by have := HL.out; omega))
      obtain ⟨a5, c5, rfl, hcap5, hB5, _⟩ := hown.slice
      have hcv := hB5.str A.length c5 rfl
      clear hB5 hown hcap5 HI
      go_wp2
      all_goals (
        (try rw [Exit.noGoto_ret])
        go_ret3
        exact ⟨hb, .inl ⟨HU.out, _, rfl⟩⟩)
end Go.Proofs.Ytbglchoamihdlaa
