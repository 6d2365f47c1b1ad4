/- The walk of key.readWhole. -/
import Derived.Test.YtfldjmjnjeemeaaKWhole
import Derived.Laws.CopyRow
import Derived.Laws.CopyOwn
namespace Go.Proofs.Ytfldjmjnjeemeaa
open Go.RowKit

/-- The cells of an array of eight bytes. -/
def Arr8 (w : World) (B : Nat) (l : List Nat) : Prop := l.length = 8 ∧ (∀ c ∈ l, c < 256) ∧ ∀ j (h : j < l.length), w.cell? ⟨B, j, none⟩ = some (.int .u8 (l[j] : Int)) ∧ w.frozen? ⟨B, j, none⟩ = false

set_option maxRecDepth 100000 in
/-- 'copy(a[:], b)' into an array of eight zeros that has just been made. -/
theorem copy8 (w : World) (N : Nat) (l : List Nat) (a : Option Addr) (n cap : Nat) (hB : Bs N w a l) (hN : N ≤ w.heap.size) (hn : n = l.length) (hnil : a = none → n = 0 ∧ cap = 0) (ty : TypeId) :
    ∃ W2, (Builtin.copy_ #[30, 30] ty #[.slice (some ⟨w.heap.size, 0, none⟩) 8 8, .slice a n cap]).run Try.prog (w.alloc (.cells #[.int .u8 0, .int .u8 0, .int .u8 0, .int .u8 0, .int .u8 0, .int .u8 0, .int .u8 0, .int .u8 0] 73)) = .ok (.int .i64 ((min n 8 : Nat) : Int)) W2 ∧
      Below w.heap.size w W2 ∧ (8 ≤ n → Arr8 W2 w.heap.size (l.take 8)) := by
  subst hn
  cases a with
  | none =>
    obtain ⟨h0, rfl⟩ := hnil rfl
    refine ⟨(w.alloc (.cells #[.int .u8 0, .int .u8 0, .int .u8 0, .int .u8 0, .int .u8 0, .int .u8 0, .int .u8 0, .int .u8 0] 73)), ?_, Below.box w _, fun h => by omega⟩
    rw [h0]
    have := run_copy_nil (P := Try.prog) (w.alloc (.cells #[.int .u8 0, .int .u8 0, .int .u8 0, .int .u8 0, .int .u8 0, .int .u8 0, .int .u8 0, .int .u8 0] 73)) 30 30 ty 5 ⟨w.heap.size, 0, none⟩ 8 8 Try.underlying30 (by kernel_rfl)
    rw [this]; rfl
  | some x =>
    have hcells : ∀ j v, ((l.take 8).map fun (c : Nat) => Value.int .u8 (c : Int))[j]? = some v → (w.alloc (.cells #[.int .u8 0, .int .u8 0, .int .u8 0, .int .u8 0, .int .u8 0, .int .u8 0, .int .u8 0, .int .u8 0] 73)).cell? (x.add j) = some v := by
      intro j v hv
      rw [List.getElem?_map] at hv
      cases hj : (l.take 8)[j]? with
      | none => rw [hj] at hv; cases hv
      | some c =>
        rw [hj] at hv
        simp only [Option.map_some, Option.some.injEq] at hv
        subst hv
        rcases hB.2 with h | ⟨b, o, hx, hb, hc⟩
        · subst h; simp at hj
        · simp only [Option.some.injEq] at hx
          subst hx
          have e1 : (⟨b, o, none⟩ : Addr).add j = ⟨b, o + j, none⟩ := by unfold Addr.add; split <;> simp_all
          have hj2 : l[j]? = some c := by
            rw [List.getElem?_take] at hj
            split at hj
            · exact hj
            · cases hj
          rw [e1, (Below.box w _).cell (p := ⟨b, o + j, none⟩) (show b < w.heap.size by omega)]
          exact hc j c hj2
    have hrun := run_copy_row (P := Try.prog) (w.alloc (.cells #[.int .u8 0, .int .u8 0, .int .u8 0, .int .u8 0, .int .u8 0, .int .u8 0, .int .u8 0, .int .u8 0] 73)) 30 30 ty 5 w.heap.size 0 8 8 x l.length cap
      #[.int .u8 0, .int .u8 0, .int .u8 0, .int .u8 0, .int .u8 0, .int .u8 0, .int .u8 0, .int .u8 0] 73 ((l.take 8).map fun (c : Nat) => Value.int .u8 (c : Int)) Try.underlying30 (by kernel_rfl)
      (heap_alloc_new _ _) (by simp [Nat.min_comm]) hcells (by simp; omega) (by intro v hv; obtain ⟨c, _, rfl⟩ := List.mem_map.1 hv; rfl)
    refine ⟨(w.alloc (.cells #[.int .u8 0, .int .u8 0, .int .u8 0, .int .u8 0, .int .u8 0, .int .u8 0, .int .u8 0, .int .u8 0] 73)).setRow w.heap.size ((#[Value.int .u8 0, .int .u8 0, .int .u8 0, .int .u8 0, .int .u8 0, .int .u8 0, .int .u8 0, .int .u8 0] : Array Value).toList.take 0 ++ ((l.take 8).map fun (c : Nat) => Value.int .u8 (c : Int)) ++ (List.drop (0 + ((l.take 8).map fun (c : Nat) => Value.int .u8 (c : Int)).length) (#[Value.int .u8 0, .int .u8 0, .int .u8 0, .int .u8 0, .int .u8 0, .int .u8 0, .int .u8 0, .int .u8 0] : Array Value).toList)).toArray, hrun.trans ?_, ?_, ?_⟩
    · congr 1
      simp [goInt, Nat.min_comm]
    · exact below_setRow (Below.box w _) (Nat.le_refl _) _
    · intro h8
      have h8' : (l.take 8).length = 8 := by rw [List.length_take]; omega
      refine ⟨h8', fun c hc => hB.1 c (List.mem_of_mem_take hc), fun j hj => ?_⟩
      have hg := heap_alloc_new w (.cells #[.int .u8 0, .int .u8 0, .int .u8 0, .int .u8 0, .int .u8 0, .int .u8 0, .int .u8 0, .int .u8 0] 73)
      refine ⟨?_, ?_⟩
      · rw [cell_setRow_same _ _ _ _ _ _ _ hg]
        have hd : (List.drop (0 + ((l.take 8).map fun (c : Nat) => Value.int .u8 (c : Int)).length) (#[Value.int .u8 0, .int .u8 0, .int .u8 0, .int .u8 0, .int .u8 0, .int .u8 0, .int .u8 0, .int .u8 0] : Array Value).toList) = [] := by
          rw [List.length_map, h8']; rfl
        rw [hd]
        have hj8 : j < 8 := by omega
        have hjl : j < l.length := by rw [List.length_take] at hj; omega
        simp [List.getElem?_take, hj8, hjl]
      · have := setRow_heap _ _ _ ((#[Value.int .u8 0, .int .u8 0, .int .u8 0, .int .u8 0, .int .u8 0, .int .u8 0, .int .u8 0, .int .u8 0] : Array Value).toList.take 0 ++ ((l.take 8).map fun (c : Nat) => Value.int .u8 (c : Int)) ++ (List.drop (0 + ((l.take 8).map fun (c : Nat) => Value.int .u8 (c : Int)).length) (#[Value.int .u8 0, .int .u8 0, .int .u8 0, .int .u8 0, .int .u8 0, .int .u8 0, .int .u8 0, .int .u8 0] : Array Value).toList)).toArray _ _ hg
        simp only [World.frozen?, this]
        simp

/-- 'n<<8 | c'. -/
theorem orB (V c : Nat) (hV : V < 72057594037927936) (hc : c < 256) : bits .or .u64 ((V : Int) * 256) (c : Int) = ((V * 256 + c : Nat) : Int) := by
  have := u64_or_nat (V * 256) c (by omega) (by omega)
  rw [nat_join 8 (V * 256) c (by omega) (by omega)] at this
  rw [Int.natCast_mul] at this
  exact this

/-- 'a[k]' of an array of eight bytes by value. -/
theorem index8 (c0 c1 c2 c3 c4 c5 c6 c7 : Int) (k : Nat) (hk : k < 8) (W : World) :
    (Instr.index 73 (.agg #[.int .u8 c0, .int .u8 c1, .int .u8 c2, .int .u8 c3, .int .u8 c4, .int .u8 c5, .int .u8 c6, .int .u8 c7]) (.int .i64 k)).run Try.prog W =
      .ok (.int .u8 ([c0, c1, c2, c3, c4, c5, c6, c7].getD k 0)) W := by
  have hk8 : k = 0 ∨ k = 1 ∨ k = 2 ∨ k = 3 ∨ k = 4 ∨ k = 5 ∨ k = 6 ∨ k = 7 := by omega
  have hu := run_underlying (P := Try.prog) (w := W) Try.underlying73
  rcases hk8 with rfl | rfl | rfl | rfl | rfl | rfl | rfl | rfl
  all_goals
    simp [Instr.index, hu, asIntOf, go_sem]

end Go.Proofs.Ytfldjmjnjeemeaa
