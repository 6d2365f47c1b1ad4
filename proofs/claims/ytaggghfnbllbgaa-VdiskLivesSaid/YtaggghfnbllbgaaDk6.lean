/- clone, empty, New. -/
import Derived.Test.YtaggghfnbllbgaaDk5
import Derived.Shelf.SlMaps.Clone
namespace Go.Proofs.Ytaggghfnbllbgaa
set_option linter.unusedSimpArgs false
open Go.RowKit

set_option maxRecDepth 100000 in
set_option maxHeartbeats 2000000 in
theorem mclone_any (b : Nat) (es : Array MapEntry) (clk : Nat) (w : World) (hb : w.heap[b]? = some (.map es clk)) :
    Calls Try.prog 82 #[.map (some b)] w fun e w' => e = .returned (.map (some w.heap.size)) ∧ w' = w.alloc (.map es clk) := by
  have hq := fun w => run_eql_map_nil_sl (P := Try.prog) w 41 _ _ (some b) Try.underlying41
  go_enter Try.func82, Try.ntmps82
  go_wp2
  rw [run_callFunc_extern Try.func92 (by kernel_rfl) (by kernel_rfl) (by kernel_rfl) (e := Extern.MapsClone.clone) (by kernel_rfl), run_maps_clone_sl w 41 hb]
  simp only [Result.andThen]
  rw [Oper.upon_value]
  go_wp2
  rw [run_typeAssert_map_sl _ 41 20 _ _ _ Try.underlying41]
  simp only [Result.andThen]
  rw [Oper.upon_value]
  go_wp2
  go_ret
  exact ⟨rfl, rfl⟩
/-- A map's copy: another block with the same. -/
theorem MapA.copy {k kv : IntKind} {n : Nat} {w : World} {b : Nat} {g : List Nat → Option (List Nat)} (h : MapA k kv n w b g) : ∃ es clk, w.heap[b]? = some (.map es clk) ∧ ∀ w' b', w'.heap[b']? = some (.map es clk) → MapA k kv n w' b' g := by
  obtain ⟨es, clk, al, h1, h2, h3⟩ := h
  exact ⟨es, clk, h1, fun w' b' hb => ⟨es, clk, al, hb, h2, h3⟩⟩

set_option maxRecDepth 100000 in
set_option maxHeartbeats 4000000 in
theorem clone_cells (w : World) (B o M : Nat) (T : TypeId) (cs : Array Value) (g : List Nat → Option (List Nat)) (l0 l1 : Int) (ho : o = 2 ∨ o = 5) (hb : Blk w B T cs) (hM : MapA .i64 .u8 2 w M g)
    (h0 : cs[o]? = some (.map (some M))) (h1 : cs[o + 1]? = some (.int .i64 l0)) (h2 : cs[o + 2]? = some (.int .i64 l1)) :
    Calls Try.prog 55 #[.pointer (some ⟨B, o, none⟩)] w fun e w' => ∃ M', e = .returned (.agg #[.map (some M'), .int .i64 l0, .int .i64 l1]) ∧ w.heap.size ≤ M' ∧ MapA .i64 .u8 2 w' M' g ∧ Below w.heap.size w w' := by
  have hlt := hb.lt
  have hMl := hM.lt
  obtain ⟨es, clk, hMb, hcopy⟩ := hM.copy
  obtain ⟨w1, hw1⟩ : ∃ W, w.alloc (.cells #[.map none, .int .i64 0, .int .i64 0] 44) = W := ⟨_, rfl⟩
  have hb1 : Below w.heap.size w w1 := by rw [← hw1]; exact (Below.refl _ _).alloc (Nat.le_refl _) _
  have hsz : w1.heap.size = w.heap.size + 1 := by rw [← hw1]; simp
  have hr1 : ∀ i, w1.cell? ⟨w.heap.size, i, none⟩ = (#[.map none, .int .i64 0, .int .i64 0] : Array Value)[i]? := fun i => by rw [← hw1, World.cell?_alloc_new]
  have hz1 : ∀ i, w1.frozen? ⟨w.heap.size, i, none⟩ = false := fun i => by rw [← hw1]; exact World.frozen?_alloc_new _ _ _ _
  have hgl : w.heap.size < w1.heap.size := by omega
  have hs1 : w.heap.size < w1.heap.size := hgl
  obtain ⟨G, hG⟩ : ∃ G, w.heap.size = G := ⟨_, rfl⟩
  rw [hG] at hr1 hz1 hgl hb1
  have e0 : ∀ W, Chg [] w1.drew W → W.cell? ⟨B, o, none⟩ = some (.map (some M)) := fun W h => (h.cell (b := B) (by show B < w1.heap.size; omega) (by simp)).trans ((hb1.cell (p := ⟨B, o, none⟩) (by show B < G; omega)).trans ((hb.cell o).trans h0))
  have e1 : ∀ W, Chg [] w1.drew W → W.cell? ⟨B, o + 1, none⟩ = some (.int .i64 l0) := fun W h => (h.cell (b := B) (by show B < w1.heap.size; omega) (by simp)).trans ((hb1.cell (p := ⟨B, o + 1, none⟩) (by show B < G; omega)).trans ((hb.cell _).trans h1))
  have e2 : ∀ W, Chg [] w1.drew W → W.cell? ⟨B, o + 2, none⟩ = some (.int .i64 l1) := fun W h => (h.cell (b := B) (by show B < w1.heap.size; omega) (by simp)).trans ((hb1.cell (p := ⟨B, o + 2, none⟩) (by show B < G; omega)).trans ((hb.cell _).trans h2))
  have hMb1 : w1.drew.heap[M]? = some (.map es clk) := (hb1.block M (by omega)).trans hMb
  have HC := Lib.hid (mclone_any M es clk w1.drew hMb1)
  have hszd : w1.drew.heap.size = G + 1 := by show w1.heap.size = _; omega
  obtain ⟨w2, hw2⟩ : ∃ W, w1.drew.alloc (.map es clk) = W := ⟨_, rfl⟩
  have hb2 : Below G w w2 := by rw [← hw2]; exact (hb1.drew).alloc (by show G ≤ w1.heap.size; omega) _
  have hc2 : Chg [] w1.drew w2 := by rw [← hw2]; exact (Chg.refl _ _).alloc _
  have hsz2 : G < w2.heap.size := by rw [← hw2]; simp; omega
  have hM2 : w2.heap[G + 1]? = some (.map es clk) := by rw [← hw2, ← hszd]; exact heap_alloc_new _ _
  have hr2 : ∀ i, w2.cell? ⟨G, i, none⟩ = (#[.map none, .int .i64 0, .int .i64 0] : Array Value)[i]? := fun i => (hc2.cell (b := G) (by show G < w1.heap.size; omega) (by simp)).trans (hr1 i)
  have hz2 : ∀ i, w2.frozen? ⟨G, i, none⟩ = false := fun i => (hc2.frozen (b := G) (by show G < w1.heap.size; omega) (by simp)).trans (hz1 i)
  have q0 := hr2 0
  have q1 := hr2 1
  have q2 := hr2 2
  have HF : Hid (∀ v0 v1 v2, MapA .i64 .u8 2 (((w2.setCell ⟨G, 0, none⟩ v0).setCell ⟨G, 1, none⟩ v1).setCell ⟨G, 2, none⟩ v2) (G + 1) g ∧ Below G w (((w2.setCell ⟨G, 0, none⟩ v0).setCell ⟨G, 1, none⟩ v1).setCell ⟨G, 2, none⟩ v2)) := fun v0 v1 v2 =>
    ⟨(((hcopy w2 (G + 1) hM2).setCell _ _ _).setCell _ _ _).setCell _ _ _, ((hb2.setCell (Nat.le_refl _) _).setCell (Nat.le_refl _) _).setCell (Nat.le_refl _) _⟩
  rw [hszd, hw2] at HC
  clear hr1 hz1 hb1 hMb1 hszd hw2 hb2 hM2 hr2 hcopy hMb hb hM h0 h1 h2
  rcases ho with rfl | rfl
  · go_enter Try.func55, Try.ntmps55
    go_wp2_with fail
    have HG := Lib.hid hG
    clear hw1 hG
    refine wp_region_ordX [] 10 [(0, true), (1, true), (2, true), (3, true), (5, true), (6, true), (7, true), (8, true), (4, false), (9, true)] (by kernel_rfl) (by kernel_rfl) (by kernel_rfl) (by kernel_rfl) ?_
    repeat (first | (refine wpOX_F (v := ?_) rfl (by rfl) (fun w' hL => ?_) ?_; rotate_left; (solve | (go_simp; with_reducible rfl) | go_simp); try simp only [Act.put, List.setIfInBounds_toArray, List.set_cons_zero, List.set_cons_succ]) | (refine wpOX_G (Chg.refl _) rfl (by rfl) ?_; try simp only [Act.put, List.setIfInBounds_toArray, List.set_cons_zero, List.set_cons_succ]))
    refine wpOX_C rfl (by rfl) ?_
    go_simp
    refine HC.out.mono ?_
    rintro e w' ⟨rfl, rfl⟩
    refine ⟨hc2, ?_⟩
    try simp only [Act.put, List.setIfInBounds_toArray, List.set_cons_zero, List.set_cons_succ]
    repeat (first | (refine wpOX_F (v := ?_) rfl (by rfl) (fun w' hL => ?_) ?_; rotate_left; (solve | (go_simp; with_reducible rfl) | go_simp); try simp only [Act.put, List.setIfInBounds_toArray, List.set_cons_zero, List.set_cons_succ]) | (refine wpOX_G (Chg.refl _) rfl (by rfl) ?_; try simp only [Act.put, List.setIfInBounds_toArray, List.set_cons_zero, List.set_cons_succ]))
    refine wpOX_end rfl (by rfl) ?_
    go_simp
    simp only [NoPanic]
    go_wp2
    refine bodyPost_ret (v := .agg #[.map (some (G + 1)), .int .i64 l0, .int .i64 l1]) (by simp [results, Try.results55, go_sem, q0, q1, q2]) rfl ⟨G + 1, rfl, by rw [HG.out]; omega, (HF.out _ _ _).1, by rw [HG.out]; exact (HF.out _ _ _).2⟩
  · go_enter Try.func55, Try.ntmps55
    go_wp2_with fail
    have HG := Lib.hid hG
    clear hw1 hG
    refine wp_region_ordX [] 10 [(0, true), (1, true), (2, true), (3, true), (5, true), (6, true), (7, true), (8, true), (4, false), (9, true)] (by kernel_rfl) (by kernel_rfl) (by kernel_rfl) (by kernel_rfl) ?_
    repeat (first | (refine wpOX_F (v := ?_) rfl (by rfl) (fun w' hL => ?_) ?_; rotate_left; (solve | (go_simp; with_reducible rfl) | go_simp); try simp only [Act.put, List.setIfInBounds_toArray, List.set_cons_zero, List.set_cons_succ]) | (refine wpOX_G (Chg.refl _) rfl (by rfl) ?_; try simp only [Act.put, List.setIfInBounds_toArray, List.set_cons_zero, List.set_cons_succ]))
    refine wpOX_C rfl (by rfl) ?_
    go_simp
    refine HC.out.mono ?_
    rintro e w' ⟨rfl, rfl⟩
    refine ⟨hc2, ?_⟩
    try simp only [Act.put, List.setIfInBounds_toArray, List.set_cons_zero, List.set_cons_succ]
    repeat (first | (refine wpOX_F (v := ?_) rfl (by rfl) (fun w' hL => ?_) ?_; rotate_left; (solve | (go_simp; with_reducible rfl) | go_simp); try simp only [Act.put, List.setIfInBounds_toArray, List.set_cons_zero, List.set_cons_succ]) | (refine wpOX_G (Chg.refl _) rfl (by rfl) ?_; try simp only [Act.put, List.setIfInBounds_toArray, List.set_cons_zero, List.set_cons_succ]))
    refine wpOX_end rfl (by rfl) ?_
    go_simp
    simp only [NoPanic]
    go_wp2
    refine bodyPost_ret (v := .agg #[.map (some (G + 1)), .int .i64 l0, .int .i64 l1]) (by simp [results, Try.results55, go_sem, q0, q1, q2]) rfl ⟨G + 1, rfl, by rw [HG.out]; omega, (HF.out _ _ _).1, by rw [HG.out]; exact (HF.out _ _ _).2⟩
end Go.Proofs.Ytaggghfnbllbgaa
