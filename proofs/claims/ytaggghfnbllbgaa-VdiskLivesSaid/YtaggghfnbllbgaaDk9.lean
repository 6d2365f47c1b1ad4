/- Write. -/
import Derived.Test.YtaggghfnbllbgaaDk8
import Derived.Great.BuildSlice
namespace Go.Proofs.Ytaggghfnbllbgaa
set_option linter.unusedSimpArgs false
open Go.RowKit

/-- What a method hands back that may change the disk. -/
def RetD (w : World) (B Mv Md : Nat) (pv : Value) (r : Nat × DS) (e : Ending) (w' : World) : Prop :=
  e = .returned (.int .i64 (r.1 : Int)) ∧ ∃ pv', DiskAt w' B r.2 Mv Md pv' ∧ Chg (footD B Mv Md pv) w w' ∧ (pv'.ownBlock = pv.ownBlock ∨ ∀ g, pv'.ownBlock = some g → w.heap.size ≤ g)

theorem Wr.cells_len {x : Wr} (hx : x.b.length = 128) : x.cells.length = 130 := by unfold Wr.cells; simp [hx]
theorem size_wr {x : Wr} (hx : x.b.length = 128) : (Try.prog.info? 98).map (·.size) = some x.cells.toArray.size := by
  rw [List.size_toArray, Wr.cells_len hx]
  kernel_rfl
theorem Wr.cells_one' (x : Wr) : x.cells.toArray.all (·.oneCell') = true := by
  rw [Array.all_eq_true_iff_forall_mem]
  intro v hv
  exact Wr.cells_one x v (by simpa using hv)

theorem zero_wr (w : World) : (zeroValue 98).run Try.prog w = .ok (.agg (Wr.cells ⟨0, 0, noughts⟩).toArray) w := zero_of (by kernel_rfl) w
theorem build_wr (f s : Nat) (w : World) : (Instr.build 98 #[(0, .agg #[.int .i64 (f : Int), .int .i64 (s : Int)])]).run Try.prog w = .ok (.agg (Wr.cells ⟨f, s, noughts⟩).toArray) w := by kernel_rfl
theorem store_wr (w : World) (x y : Wr) (hx : x.b.length = 128) (hy : y.b.length = 128) : (storeVar 98 ⟨w.heap.size, 0, none⟩ (.agg y.cells.toArray)).run Try.prog (w.alloc (.cells x.cells.toArray 98)) = .ok () (w.alloc (.cells y.cells.toArray 98)) :=
  run_storeVar_new w 98 x.cells.toArray y.cells.toArray (size_wr hy) (by simp [Wr.cells_len hx, Wr.cells_len hy]) (Wr.cells_one' y)

theorem bslice_wr (x : Wr) (hx : x.b.length = 128) (w : World) : (Instr.buildSlice 45 1 #[(0, .agg x.cells.toArray)]).run Try.prog w = .ok (.slice (some ⟨w.heap.size, 0, none⟩) 1 1) (w.alloc (.cells x.cells.toArray 98)) := by
  obtain ⟨ie, hie⟩ := info_of_underlying Try.underlying98
  have hs : ie.size = 130 := by
    have : (Try.prog.info? 98).map (·.size) = some 130 := by kernel_rfl
    rw [hie] at this; simpa using this
  obtain ⟨z, hz⟩ : ∃ z, ie.zero = some z := by
    have : (Try.prog.info? 98).map (·.zero) = some (some (.agg (Wr.cells ⟨0, 0, noughts⟩).toArray)) := by kernel_rfl
    rw [hie] at this; exact ⟨_, by simpa using this⟩
  refine run_buildSlice w _ 98 1 _ _ ie z Try.underlying45 hie hz (by rw [hs]; decide) (by rw [hs]; decide) ?_
  rw [hs]
  have := Great.fill_whole (s := 130) (by omega) [.agg x.cells.toArray] ((Array.range (1 * 130)).map (z.cells[· % z.cells.size]!)) (by intro v hv; simp only [List.mem_singleton] at hv; subst hv; simp [Value.cells, Wr.cells_len hx]) (by simp)
  simpa [Value.cells] using this

/-- The bytes copied into a write that has just been laid. -/
theorem copy_wr (w : World) (f s : Nat) (l : List Nat) (hl : l.length = 128) (N : Nat) (hN : N ≤ w.heap.size) (a : Option Addr) (cap : Nat) (hB : Bs N w a l) (ty : TypeId) :
    (Builtin.copy_ #[30, 30] ty #[.slice (some ⟨w.heap.size, 2, none⟩) 128 128, .slice a 128 cap]).run Try.prog (w.alloc (.cells (Wr.cells ⟨f, s, noughts⟩).toArray 98)) =
      .ok (.int .i64 128) (w.alloc (.cells (Wr.cells ⟨f, s, l⟩).toArray 98)) := by
  rcases hB.2 with h | ⟨b, o, rfl, hb, hc⟩
  · subst h; simp at hl
  · have hcells : ∀ j v, (cellsB l)[j]? = some v → (w.alloc (.cells (Wr.cells ⟨f, s, noughts⟩).toArray 98)).cell? ((⟨b, o, none⟩ : Addr).add j) = some v := by
      intro j v hv
      unfold cellsB at hv
      rw [List.getElem?_map] at hv
      cases hj : l[j]? with
      | none => rw [hj] at hv; cases hv
      | some c =>
        rw [hj] at hv
        simp only [Option.map_some, Option.some.injEq] at hv
        subst hv
        rw [Addr.add_mid, World.cell?_alloc_lt _ _ _ (by show b < w.heap.size; omega)]
        exact hc j c hj
    have hrun := run_copy_row (P := Try.prog) (w.alloc (.cells (Wr.cells ⟨f, s, noughts⟩).toArray 98)) 30 30 ty 5 w.heap.size 2 128 128 ⟨b, o, none⟩ 128 cap
      (Wr.cells ⟨f, s, noughts⟩).toArray 98 (cellsB l) Try.underlying30 (by kernel_rfl)
      (heap_alloc_new _ _) (by rw [cellsB_len, hl]; rfl) hcells (by rw [cellsB_len, hl, List.size_toArray, Wr.cells_len (by simp [noughts])]; omega) (by intro v hv; obtain ⟨c, _, rfl⟩ := List.mem_map.1 hv; rfl)
    rw [hrun, cellsB_len, hl, World.setRow_alloc_new]
    have e : ((Wr.cells ⟨f, s, noughts⟩).toArray.toList.take 2 ++ cellsB l ++ (Wr.cells ⟨f, s, noughts⟩).toArray.toList.drop (2 + 128)).toArray = (Wr.cells ⟨f, s, l⟩).toArray := by
      have hd : (Wr.cells ⟨f, s, noughts⟩).toArray.toList.drop (2 + 128) = [] := List.drop_eq_nil_of_le (by rw [List.toList_toArray, Wr.cells_len (by simp [noughts])]; omega)
      rw [hd, List.append_nil]
      simp [Wr.cells, cellsB]
    rw [e]
    rfl
end Go.Proofs.Ytaggghfnbllbgaa
