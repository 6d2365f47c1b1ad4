/- put. -/
import Derived.Test.YtaggghfnbllbgaaDk4
import Derived.Test.YtaggghfnbllbgaaBig
namespace Go.Proofs.Ytaggghfnbllbgaa
set_option linter.unusedSimpArgs false
open Go.RowKit

theorem key_wr (c : Cont) (x : Wr) : (c.wr x).key = fun y => if [x.f, x.s] == y then some x.b else c.key y := by
  funext y
  unfold Cont.key Cont.wr Cont.put
  match y with
  | [] => simp
  | [a] => simp
  | [a, b] =>
    simp only
    by_cases h : a = x.f ∧ b = x.s
    · obtain ⟨rfl, rfl⟩ := h; simp
    · rw [if_neg h]
      have : ([x.f, x.s] == [a, b]) = false := by
        simp only [beq_eq_false_iff_ne, ne_eq, List.cons.injEq, and_true]
        rintro ⟨h1, h2⟩
        exact h ⟨h1.symm, h2.symm⟩
      rw [this]
      simp
  | a :: b :: c' :: r =>
    simp

theorem Wr.cells_get (x : Wr) : x.cells.toArray[0]? = some (.int .i64 (x.f : Int)) ∧ x.cells.toArray[1]? = some (.int .i64 (x.s : Int)) := by
  unfold Wr.cells; simp

theorem Wr.cells_one (x : Wr) : ∀ v ∈ x.cells, v.oneCell' = true := by
  intro v hv
  unfold Wr.cells at hv
  simp only [List.mem_cons, List.mem_map] at hv
  rcases hv with rfl | rfl | ⟨c, _, rfl⟩ <;> rfl

/-- The parts of a write that lies in memory. -/
theorem wr_loads {w : World} {g o : Nat} {x : Wr} (hx : x.ok) (hc : w.rangeAt g o x.cells) :
    (loadVar 93 ⟨g, o + 2, none⟩).run Try.prog w = .ok (arrN .u8 x.b) w ∧
    (loadVar 98 ⟨g, o, none⟩).run Try.prog w = .ok (.agg x.cells.toArray) w ∧
    w.cell? ⟨g, o, none⟩ = some (.int .i64 (x.f : Int)) ∧ w.cell? ⟨g, o + 1, none⟩ = some (.int .i64 (x.s : Int)) := by
  have hlen : x.cells.length = 130 := by unfold Wr.cells; simp [hx.2.2.1]
  refine ⟨?_, ?_, ?_, ?_⟩
  · have : w.rangeAt g (o + 2) (x.b.map fun (c : Nat) => Value.int .u8 (c : Int)) := by
      intro j v hv
      rw [Nat.add_assoc]
      refine hc (2 + j) v ?_
      unfold Wr.cells
      rw [show 2 + j = j + 1 + 1 by omega, List.getElem?_cons_succ, List.getElem?_cons_succ]
      exact hv
    have hl : (Try.prog.info? 93).map (·.size) = some (x.b.map fun (c : Nat) => Value.int .u8 (c : Int)).length := by
      rw [List.length_map, hx.2.2.1]
      kernel_rfl
    exact run_loadVar_mid w g (o + 2) 93 _ _ this Try.underlying93 rfl hl
  · have hl : (Try.prog.info? 98).map (·.size) = some x.cells.length := by
      rw [hlen]
      kernel_rfl
    exact run_loadVar_mid w g o 98 _ _ hc Try.underlying98 rfl hl
  · have := hc 0 (.int .i64 (x.f : Int)) rfl
    simpa using this
  · exact hc 1 (.int .i64 (x.s : Int)) rfl

theorem rangeAt_chg {w w' : World} {g o : Nat} {cs : List Value} {S : List Nat} (h : w.rangeAt g o cs) (hg : g < w.heap.size) (hc : Chg S w w') (hn : g ∉ S) : w'.rangeAt g o cs :=
  fun j v hv => (hc.cell hg hn).trans (h j v hv)

theorem putObj_cell {w : World} {g b o : Nat} (ob : Obj) (h : b ≠ g) : (putObj w g ob).cell? ⟨b, o, none⟩ = w.cell? ⟨b, o, none⟩ :=
  World.cell?_of_block (w := w) (a := ⟨b, o, none⟩) (putObj_other w g b ob h)
theorem putObj_frozen {w : World} {g b o : Nat} (ob : Obj) (h : b ≠ g) : (putObj w g ob).frozen? ⟨b, o, none⟩ = w.frozen? ⟨b, o, none⟩ :=
  World.frozen?_of_block (w := w) (a := ⟨b, o, none⟩) (putObj_other w g b ob h)

set_option maxRecDepth 100000 in
set_option maxHeartbeats 4000000 in
theorem put_cells (w : World) (B o M : Nat) (T : TypeId) (cs : Array Value) (c : Cont) (x : Wr) (hx : x.ok) (hok : c.ok) (ho : o = 2 ∨ o = 5) (hb : Blk w B T cs) (hM : MapA .i64 .u8 2 w M c.key)
    (h0 : cs[o]? = some (.map (some M))) (h1 : cs[o + 1]? = some (.int .i64 (c.len 0 : Int))) (h2 : cs[o + 2]? = some (.int .i64 (c.len 1 : Int))) :
    Calls Try.prog 53 #[.pointer (some ⟨B, o, none⟩), .agg x.cells.toArray] w fun e w' => e = .returned (.tuple #[]) ∧
      Blk w' B T (cs.setIfInBounds (o + 1 + x.f) (.int .i64 ((max (c.len x.f) (x.s + 1) : Nat) : Int))) ∧ MapA .i64 .u8 2 w' M (c.wr x).key ∧ Chg [B, M] w w' := by
  have hBM : B ≠ M := fun e => hM.ne_blk hb e.symm
  have hBl := hb.lt
  have hMl := hM.lt
  obtain ⟨w1, hw1⟩ : ∃ W, w.alloc (.cells x.cells.toArray 98) = W := ⟨_, rfl⟩
  have hc1 : Chg [] w w1 := by rw [← hw1]; exact (Chg.refl _ _).alloc _
  have hrange : w1.rangeAt w.heap.size 0 x.cells := by
    intro j v hv
    rw [← hw1]
    rw [Nat.zero_add, World.cell?_alloc_new]
    simpa using hv
  have hnb : w.heap.size < w1.heap.size := by rw [← hw1]; simp
  have hb1 := hb.chg hc1 (by simp)
  have hM1 := hM.chg hc1 (by simp)
  obtain ⟨g, hg⟩ : ∃ g, w.heap.size = g := ⟨_, rfl⟩
  rw [hg] at hrange hnb
  have hgB : g ≠ B := by omega
  have hgM : g ≠ M := by omega
  -- the first region
  obtain ⟨o1, hup, hMfin⟩ := (hM1.drew).update (P := Try.prog) Try.underlying41 Try.underlying94 Try.underlying3 (by kernel_rfl) [x.f, x.s] x.b rfl
  have HL : Hid (∀ W, Chg [] w1.drew W → (loadVar 93 ⟨g, 2, none⟩).run Try.prog W = .ok (arrN .u8 x.b) W ∧ W.cell? ⟨g, 0, none⟩ = some (.int .i64 (x.f : Int)) ∧ W.cell? ⟨g, 1, none⟩ = some (.int .i64 (x.s : Int)) ∧ W.cell? ⟨B, o, none⟩ = some (.map (some M))) := fun W h => by
    have hr : W.rangeAt g 0 x.cells := rangeAt_chg (w := w1.drew) hrange hnb h (by simp)
    obtain ⟨l2, _, l3, l4⟩ := wr_loads hx hr
    exact ⟨l2, l3, l4, (h.cell hb1.lt (by simp)).trans ((hb1.cell o).trans h0)⟩
  have e0 := fun W h => (HL.out W h).2.1
  have e1 := fun W h => (HL.out W h).2.2.1
  have e2 := fun W h => (HL.out W h).1
  have e3 := fun W h => (HL.out W h).2.2.2
  -- behind it
  obtain ⟨w2, hw2⟩ : ∃ W, putObj w1.drew M o1 = W := ⟨_, rfl⟩
  have hb2 : Blk w2 B T cs := by rw [← hw2]; exact (putObj_other _ _ _ _ hBM).trans hb1
  have hr2 : w2.rangeAt g 0 x.cells := fun j v hv => by rw [← hw2, putObj_cell _ hgM]; exact hrange j v hv
  have hsz2 : w2.heap.size = w1.heap.size := by rw [← hw2, putObj_size]; rfl
  have hc2 : Chg [B, M] w w2 := by rw [← hw2]; exact ((hc1.sub (by simp)).drew).putObj (.inl (by simp)) _
  have hM2 : MapA .i64 .u8 2 w2 M (c.wr x).key := by rw [key_wr]; refine hMfin w2 ?_; rw [← hw2]; exact putObj_same _ (by show M < w1.heap.size; omega)
  have HM2 := Lib.hid hM2
  have f1 : ∀ W, Chg [] w2.drew W → W.cell? ⟨g, 0, none⟩ = some (.int .i64 (x.f : Int)) := fun W h => by
    have hr : W.rangeAt g 0 x.cells := rangeAt_chg (w := w2.drew) hr2 (by show g < w2.heap.size; omega) h (by simp)
    exact (wr_loads hx hr).2.2.1
  have f2 : ∀ W, Chg [] w2.drew W → W.cell? ⟨g, 1, none⟩ = some (.int .i64 (x.s : Int)) := fun W h => by
    have hr : W.rangeAt g 0 x.cells := rangeAt_chg (w := w2.drew) hr2 (by show g < w2.heap.size; omega) h (by simp)
    exact (wr_loads hx hr).2.2.2
  have f3 : ∀ W, Chg [] w2.drew.drew W → W.cell? ⟨B, o + 1, none⟩ = some (.int .i64 (c.len 0 : Int)) ∧ W.cell? ⟨B, o + 2, none⟩ = some (.int .i64 (c.len 1 : Int)) := fun W h =>
    ⟨(h.cell (b := B) (by show B < w2.heap.size; omega) (by simp)).trans ((hb2.cell _).trans h1), (h.cell (b := B) (by show B < w2.heap.size; omega) (by simp)).trans ((hb2.cell _).trans h2)⟩
  have hfz : ∀ j, w2.drew.drew.frozen? ⟨B, j, none⟩ = false := fun j => hb2.frozen j
  have hcell : ∀ j, w2.drew.drew.cell? ⟨B, j, none⟩ = cs[j]? := fun j => hb2.cell j
  have HF : Hid (∀ u, Blk (w2.drew.drew.setCell ⟨B, o + 1 + x.f, none⟩ u) B T (cs.setIfInBounds (o + 1 + x.f) u) ∧ MapA .i64 .u8 2 (w2.drew.drew.setCell ⟨B, o + 1 + x.f, none⟩ u) M (c.wr x).key ∧ Chg [B, M] w (w2.drew.drew.setCell ⟨B, o + 1 + x.f, none⟩ u)) := fun u =>
    ⟨Blk.set_ (w := w2.drew.drew) hb2 _ u, MapA.setCell (w := w2.drew.drew) HM2.out _ _ _, (hc2.drew.drew).setCell (.inl (by simp)) u⟩
  have hf := hx.1
  have hs := hx.2.1
  have hl0 := hok.len 0
  have hl1 := hok.len 1
  clear HL hMfin hM2 hr2 hrange hb hM hb1 hM1 hc1 hc2 hx hok hb2
  generalize hL0 : c.len 0 = l0 at *
  generalize hL1 : c.len 1 = l1 at *
  generalize hss : x.s = s at *
  generalize hxc : x.cells.toArray = xc at *
  generalize hxb : x.b = xb at *
  have hws : IntKind.i64.wrap ((s : Int) + 1) = (s : Int) + 1 := IntWalk.i64_in _ ⟨by omega, by omega⟩
  have hfc : x.f = 0 ∨ x.f = 1 := by omega
  clear hf
  rcases ho with rfl | rfl
  · rcases hfc with hff | hff
    · rw [hff] at HF f1 e0 hup ⊢
      have hup' : (Instr.mapUpdate 41 (.map (some M)) (.agg #[.int .i64 ((0 : Nat) : Int), .int .i64 (s : Int)]) (arrN .u8 xb)).run Try.prog w1.drew = .ok () w2 := by rw [← hw2]; exact hup
      have hval : (if (l0 : Int) < (s : Int) + 1 then (s : Int) + 1 else (l0 : Int)) = ((max l0 (s + 1) : Nat) : Int) := by split <;> omega
      have HV := Lib.hid hval
      clear hup hw2 hval
      rw [hL0]
      clear hff hL0 hL1 hss hxc hxb HM2
      go_enter Try.func53, Try.ntmps53
      go_wp2_with fail
      clear hw1 hg
      refine wp_region_ordX [] 8 [(0, true), (1, true), (2, true), (3, true), (4, true), (5, true), (6, true), (7, true)] (by kernel_rfl) (by kernel_rfl) (by kernel_rfl) (by kernel_rfl) ?_
      repeat (first | ((refine wpOX_F rfl (by rfl) (fun w' hL => exec_load rfl rfl (e2 w' hL)) ?_); try simp only [Act.put, List.setIfInBounds_toArray, List.set_cons_zero, List.set_cons_succ]) | (refine wpOX_F (v := ?_) rfl (by rfl) (fun w' hL => ?_) ?_; rotate_left; (solve | (go_simp; with_reducible rfl) | go_simp); try simp only [Act.put, List.setIfInBounds_toArray, List.set_cons_zero, List.set_cons_succ]) | (refine wpOX_G (Chg.refl _) rfl (by rfl) ?_; try simp only [Act.put, List.setIfInBounds_toArray, List.set_cons_zero, List.set_cons_succ]))
      refine wpOX_end rfl (by rfl) ?_
      refine wp_skp (exec_mapUpdate rfl rfl rfl rfl hup') ?_
      clear e0 e1 e2 e3 hup'
      simp only [NoPanic, Act.put]
      go_wp2_with fail
      refine wp_region_ordS [] [(0, true), (1, true), (2, true), (3, true), (4, true), (5, true), (6, true), (7, true)] (by kernel_rfl) (by kernel_rfl) (by kernel_rfl) (by kernel_rfl) ?_
      repeat (first | (refine wpO_F (v := ?_) rfl (by rfl) (fun w' hL => ?_) ?_; rotate_left; (solve | (go_simp; with_reducible rfl) | go_simp); try simp only [Act.put, List.setIfInBounds_toArray, List.set_cons_zero, List.set_cons_succ]) | (refine wpO_G' (Chg.refl _) rfl (by rfl) ?_; try simp only [Act.put, List.setIfInBounds_toArray, List.set_cons_zero, List.set_cons_succ]))
      refine wpO_nil ?_
      go_wp2_with fail
      refine wp_region_ordX [] 14 [(0, true), (1, true), (2, true), (3, true), (4, true), (5, true), (6, true), (7, true), (8, true), (9, true), (10, true), (11, true), (12, true), (13, true)] (by kernel_rfl) (by kernel_rfl) (by kernel_rfl) (by kernel_rfl) ?_
      repeat (first | (refine wpOX_F (v := ?_) rfl (by rfl) (fun w' hL => ?_) ?_; rotate_left; (solve | (go_simp; with_reducible rfl) | go_simp); try simp only [Act.put, List.setIfInBounds_toArray, List.set_cons_zero, List.set_cons_succ]) | (refine wpOX_G (Chg.refl _) rfl (by rfl) ?_; try simp only [Act.put, List.setIfInBounds_toArray, List.set_cons_zero, List.set_cons_succ]))
      refine wpOX_end rfl (by rfl) ?_
      go_simp
      simp only [NoPanic]
      refine bodyPost_end (v := .tuple #[]) (results_none rfl _ _ _) rfl ⟨rfl, ?_⟩
      rw [HV.out]
      exact HF.out _
    · rw [hff] at HF f1 e0 hup ⊢
      have hup' : (Instr.mapUpdate 41 (.map (some M)) (.agg #[.int .i64 ((1 : Nat) : Int), .int .i64 (s : Int)]) (arrN .u8 xb)).run Try.prog w1.drew = .ok () w2 := by rw [← hw2]; exact hup
      have hval : (if (l1 : Int) < (s : Int) + 1 then (s : Int) + 1 else (l1 : Int)) = ((max l1 (s + 1) : Nat) : Int) := by split <;> omega
      have HV := Lib.hid hval
      clear hup hw2 hval
      rw [hL1]
      clear hff hL0 hL1 hss hxc hxb HM2
      go_enter Try.func53, Try.ntmps53
      go_wp2_with fail
      clear hw1 hg
      refine wp_region_ordX [] 8 [(0, true), (1, true), (2, true), (3, true), (4, true), (5, true), (6, true), (7, true)] (by kernel_rfl) (by kernel_rfl) (by kernel_rfl) (by kernel_rfl) ?_
      repeat (first | ((refine wpOX_F rfl (by rfl) (fun w' hL => exec_load rfl rfl (e2 w' hL)) ?_); try simp only [Act.put, List.setIfInBounds_toArray, List.set_cons_zero, List.set_cons_succ]) | (refine wpOX_F (v := ?_) rfl (by rfl) (fun w' hL => ?_) ?_; rotate_left; (solve | (go_simp; with_reducible rfl) | go_simp); try simp only [Act.put, List.setIfInBounds_toArray, List.set_cons_zero, List.set_cons_succ]) | (refine wpOX_G (Chg.refl _) rfl (by rfl) ?_; try simp only [Act.put, List.setIfInBounds_toArray, List.set_cons_zero, List.set_cons_succ]))
      refine wpOX_end rfl (by rfl) ?_
      refine wp_skp (exec_mapUpdate rfl rfl rfl rfl hup') ?_
      clear e0 e1 e2 e3 hup'
      simp only [NoPanic, Act.put]
      go_wp2_with fail
      refine wp_region_ordS [] [(0, true), (1, true), (2, true), (3, true), (4, true), (5, true), (6, true), (7, true)] (by kernel_rfl) (by kernel_rfl) (by kernel_rfl) (by kernel_rfl) ?_
      repeat (first | (refine wpO_F (v := ?_) rfl (by rfl) (fun w' hL => ?_) ?_; rotate_left; (solve | (go_simp; with_reducible rfl) | go_simp); try simp only [Act.put, List.setIfInBounds_toArray, List.set_cons_zero, List.set_cons_succ]) | (refine wpO_G' (Chg.refl _) rfl (by rfl) ?_; try simp only [Act.put, List.setIfInBounds_toArray, List.set_cons_zero, List.set_cons_succ]))
      refine wpO_nil ?_
      go_wp2_with fail
      refine wp_region_ordX [] 14 [(0, true), (1, true), (2, true), (3, true), (4, true), (5, true), (6, true), (7, true), (8, true), (9, true), (10, true), (11, true), (12, true), (13, true)] (by kernel_rfl) (by kernel_rfl) (by kernel_rfl) (by kernel_rfl) ?_
      repeat (first | (refine wpOX_F (v := ?_) rfl (by rfl) (fun w' hL => ?_) ?_; rotate_left; (solve | (go_simp; with_reducible rfl) | go_simp); try simp only [Act.put, List.setIfInBounds_toArray, List.set_cons_zero, List.set_cons_succ]) | (refine wpOX_G (Chg.refl _) rfl (by rfl) ?_; try simp only [Act.put, List.setIfInBounds_toArray, List.set_cons_zero, List.set_cons_succ]))
      refine wpOX_end rfl (by rfl) ?_
      go_simp
      simp only [NoPanic]
      refine bodyPost_end (v := .tuple #[]) (results_none rfl _ _ _) rfl ⟨rfl, ?_⟩
      rw [HV.out]
      exact HF.out _
  · rcases hfc with hff | hff
    · rw [hff] at HF f1 e0 hup ⊢
      have hup' : (Instr.mapUpdate 41 (.map (some M)) (.agg #[.int .i64 ((0 : Nat) : Int), .int .i64 (s : Int)]) (arrN .u8 xb)).run Try.prog w1.drew = .ok () w2 := by rw [← hw2]; exact hup
      have hval : (if (l0 : Int) < (s : Int) + 1 then (s : Int) + 1 else (l0 : Int)) = ((max l0 (s + 1) : Nat) : Int) := by split <;> omega
      have HV := Lib.hid hval
      clear hup hw2 hval
      rw [hL0]
      clear hff hL0 hL1 hss hxc hxb HM2
      go_enter Try.func53, Try.ntmps53
      go_wp2_with fail
      clear hw1 hg
      refine wp_region_ordX [] 8 [(0, true), (1, true), (2, true), (3, true), (4, true), (5, true), (6, true), (7, true)] (by kernel_rfl) (by kernel_rfl) (by kernel_rfl) (by kernel_rfl) ?_
      repeat (first | ((refine wpOX_F rfl (by rfl) (fun w' hL => exec_load rfl rfl (e2 w' hL)) ?_); try simp only [Act.put, List.setIfInBounds_toArray, List.set_cons_zero, List.set_cons_succ]) | (refine wpOX_F (v := ?_) rfl (by rfl) (fun w' hL => ?_) ?_; rotate_left; (solve | (go_simp; with_reducible rfl) | go_simp); try simp only [Act.put, List.setIfInBounds_toArray, List.set_cons_zero, List.set_cons_succ]) | (refine wpOX_G (Chg.refl _) rfl (by rfl) ?_; try simp only [Act.put, List.setIfInBounds_toArray, List.set_cons_zero, List.set_cons_succ]))
      refine wpOX_end rfl (by rfl) ?_
      refine wp_skp (exec_mapUpdate rfl rfl rfl rfl hup') ?_
      clear e0 e1 e2 e3 hup'
      simp only [NoPanic, Act.put]
      go_wp2_with fail
      refine wp_region_ordS [] [(0, true), (1, true), (2, true), (3, true), (4, true), (5, true), (6, true), (7, true)] (by kernel_rfl) (by kernel_rfl) (by kernel_rfl) (by kernel_rfl) ?_
      repeat (first | (refine wpO_F (v := ?_) rfl (by rfl) (fun w' hL => ?_) ?_; rotate_left; (solve | (go_simp; with_reducible rfl) | go_simp); try simp only [Act.put, List.setIfInBounds_toArray, List.set_cons_zero, List.set_cons_succ]) | (refine wpO_G' (Chg.refl _) rfl (by rfl) ?_; try simp only [Act.put, List.setIfInBounds_toArray, List.set_cons_zero, List.set_cons_succ]))
      refine wpO_nil ?_
      go_wp2_with fail
      refine wp_region_ordX [] 14 [(0, true), (1, true), (2, true), (3, true), (4, true), (5, true), (6, true), (7, true), (8, true), (9, true), (10, true), (11, true), (12, true), (13, true)] (by kernel_rfl) (by kernel_rfl) (by kernel_rfl) (by kernel_rfl) ?_
      repeat (first | (refine wpOX_F (v := ?_) rfl (by rfl) (fun w' hL => ?_) ?_; rotate_left; (solve | (go_simp; with_reducible rfl) | go_simp); try simp only [Act.put, List.setIfInBounds_toArray, List.set_cons_zero, List.set_cons_succ]) | (refine wpOX_G (Chg.refl _) rfl (by rfl) ?_; try simp only [Act.put, List.setIfInBounds_toArray, List.set_cons_zero, List.set_cons_succ]))
      refine wpOX_end rfl (by rfl) ?_
      go_simp
      simp only [NoPanic]
      refine bodyPost_end (v := .tuple #[]) (results_none rfl _ _ _) rfl ⟨rfl, ?_⟩
      rw [HV.out]
      exact HF.out _
    · rw [hff] at HF f1 e0 hup ⊢
      have hup' : (Instr.mapUpdate 41 (.map (some M)) (.agg #[.int .i64 ((1 : Nat) : Int), .int .i64 (s : Int)]) (arrN .u8 xb)).run Try.prog w1.drew = .ok () w2 := by rw [← hw2]; exact hup
      have hval : (if (l1 : Int) < (s : Int) + 1 then (s : Int) + 1 else (l1 : Int)) = ((max l1 (s + 1) : Nat) : Int) := by split <;> omega
      have HV := Lib.hid hval
      clear hup hw2 hval
      rw [hL1]
      clear hff hL0 hL1 hss hxc hxb HM2
      go_enter Try.func53, Try.ntmps53
      go_wp2_with fail
      clear hw1 hg
      refine wp_region_ordX [] 8 [(0, true), (1, true), (2, true), (3, true), (4, true), (5, true), (6, true), (7, true)] (by kernel_rfl) (by kernel_rfl) (by kernel_rfl) (by kernel_rfl) ?_
      repeat (first | ((refine wpOX_F rfl (by rfl) (fun w' hL => exec_load rfl rfl (e2 w' hL)) ?_); try simp only [Act.put, List.setIfInBounds_toArray, List.set_cons_zero, List.set_cons_succ]) | (refine wpOX_F (v := ?_) rfl (by rfl) (fun w' hL => ?_) ?_; rotate_left; (solve | (go_simp; with_reducible rfl) | go_simp); try simp only [Act.put, List.setIfInBounds_toArray, List.set_cons_zero, List.set_cons_succ]) | (refine wpOX_G (Chg.refl _) rfl (by rfl) ?_; try simp only [Act.put, List.setIfInBounds_toArray, List.set_cons_zero, List.set_cons_succ]))
      refine wpOX_end rfl (by rfl) ?_
      refine wp_skp (exec_mapUpdate rfl rfl rfl rfl hup') ?_
      clear e0 e1 e2 e3 hup'
      simp only [NoPanic, Act.put]
      go_wp2_with fail
      refine wp_region_ordS [] [(0, true), (1, true), (2, true), (3, true), (4, true), (5, true), (6, true), (7, true)] (by kernel_rfl) (by kernel_rfl) (by kernel_rfl) (by kernel_rfl) ?_
      repeat (first | (refine wpO_F (v := ?_) rfl (by rfl) (fun w' hL => ?_) ?_; rotate_left; (solve | (go_simp; with_reducible rfl) | go_simp); try simp only [Act.put, List.setIfInBounds_toArray, List.set_cons_zero, List.set_cons_succ]) | (refine wpO_G' (Chg.refl _) rfl (by rfl) ?_; try simp only [Act.put, List.setIfInBounds_toArray, List.set_cons_zero, List.set_cons_succ]))
      refine wpO_nil ?_
      go_wp2_with fail
      refine wp_region_ordX [] 14 [(0, true), (1, true), (2, true), (3, true), (4, true), (5, true), (6, true), (7, true), (8, true), (9, true), (10, true), (11, true), (12, true), (13, true)] (by kernel_rfl) (by kernel_rfl) (by kernel_rfl) (by kernel_rfl) ?_
      repeat (first | (refine wpOX_F (v := ?_) rfl (by rfl) (fun w' hL => ?_) ?_; rotate_left; (solve | (go_simp; with_reducible rfl) | go_simp); try simp only [Act.put, List.setIfInBounds_toArray, List.set_cons_zero, List.set_cons_succ]) | (refine wpOX_G (Chg.refl _) rfl (by rfl) ?_; try simp only [Act.put, List.setIfInBounds_toArray, List.set_cons_zero, List.set_cons_succ]))
      refine wpOX_end rfl (by rfl) ?_
      go_simp
      simp only [NoPanic]
      refine bodyPost_end (v := .tuple #[]) (results_none rfl _ _ _) rfl ⟨rfl, ?_⟩
      rw [HV.out]
      exact HF.out _
end Go.Proofs.Ytaggghfnbllbgaa
