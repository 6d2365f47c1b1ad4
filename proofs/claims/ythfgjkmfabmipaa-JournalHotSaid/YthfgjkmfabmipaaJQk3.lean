/- Several texts of one proof, one behind the other. -/
import Derived.Test.YthfgjkmfabmipaaJQk2
import Derived.Shelf.SlMaps.Clone
import Derived.Deep.WholeRow
import Derived.Great.BuildSlice
set_option linter.unusedSimpArgs false
set_option linter.unusedVariables false

/- clone, empty, New. -/
set_option linter.unusedSimpArgs false
set_option linter.unusedVariables false
set_option maxRecDepth 100000
namespace Go.Proofs.Ythfgjkmfabmipaa
set_option linter.unusedSimpArgs false
open Go.RowKit

set_option maxRecDepth 100000 in
set_option maxHeartbeats 2000000 in
theorem mclone_any (b : Nat) (es : Array MapEntry) (clk : Nat) (w : World) (hb : w.heap[b]? = some (.map es clk)) :
    Calls Try.prog 80 #[.map (some b)] w fun e w' => e = .returned (.map (some w.heap.size)) ∧ w' = w.alloc (.map es clk) := by
  have hq := fun w => run_eql_map_nil_sl (P := Try.prog) w 66 _ _ (some b) Try.underlying66
  go_enter Try.func80, Try.ntmps80
  go_wp2
  rw [run_callFunc_extern Try.func84 (by kernel_rfl) (by kernel_rfl) (by kernel_rfl) (e := Extern.MapsClone.clone) (by kernel_rfl), run_maps_clone_sl w 66 hb]
  simp only [Result.andThen]
  rw [Oper.upon_value]
  go_wp2
  rw [run_typeAssert_map_sl _ 66 20 _ _ _ Try.underlying66]
  simp only [Result.andThen]
  rw [Oper.upon_value]
  go_wp2
  go_ret
  exact ⟨rfl, rfl⟩
/-- A map's copy: another block with the same. -/
theorem MapA.copy {k kv : IntKind} {n : Nat} {w : World} {b : Nat} {g : List Nat → Option (List Nat)} (h : MapA k kv n w b g) : ∃ es clk, w.heap[b]? = some (.map es clk) ∧ ∀ w' b', w'.heap[b']? = some (.map es clk) → MapA k kv n w' b' g := by
  obtain ⟨es, clk, al, h1, h2, h3⟩ := h
  exact ⟨es, clk, h1, fun w' b' hb => ⟨es, clk, al, hb, h2, h3⟩⟩

set_option maxRecDepth 100000 in
set_option maxHeartbeats 4000000 in
theorem clone_cells (w : World) (B o M : Nat) (T : TypeId) (cs : Array Value) (g : List Nat → Option (List Nat)) (l0 l1 : Int) (ho : o = 2 ∨ o = 5) (hb : Blk w B T cs) (hM : MapA .i64 .u8 2 w M g)
    (h0 : cs[o]? = some (.map (some M))) (h1 : cs[o + 1]? = some (.int .i64 l0)) (h2 : cs[o + 2]? = some (.int .i64 l1)) :
    Calls Try.prog 64 #[.pointer (some ⟨B, o, none⟩)] w fun e w' => ∃ M', e = .returned (.agg #[.map (some M'), .int .i64 l0, .int .i64 l1]) ∧ w.heap.size ≤ M' ∧ MapA .i64 .u8 2 w' M' g ∧ Below w.heap.size w w' := by
  have hlt := hb.lt
  have hMl := hM.lt
  obtain ⟨es, clk, hMb, hcopy⟩ := hM.copy
  obtain ⟨w1, hw1⟩ : ∃ W, w.alloc (.cells #[.map none, .int .i64 0, .int .i64 0] 69) = W := ⟨_, rfl⟩
  have hb1 : Below w.heap.size w w1 := by rw [← hw1]; exact (Below.refl _ _).alloc (Nat.le_refl _) _
  have hsz : w1.heap.size = w.heap.size + 1 := by rw [← hw1]; simp
  have hr1 : ∀ i, w1.cell? ⟨w.heap.size, i, none⟩ = (#[.map none, .int .i64 0, .int .i64 0] : Array Value)[i]? := fun i => by rw [← hw1, World.cell?_alloc_new]
  have hz1 : ∀ i, w1.frozen? ⟨w.heap.size, i, none⟩ = false := fun i => by rw [← hw1]; exact World.frozen?_alloc_new _ _ _ _
  have hgl : w.heap.size < w1.heap.size := by omega
  have hs1 : w.heap.size < w1.heap.size := hgl
  obtain ⟨G, hG⟩ : ∃ G, w.heap.size = G := ⟨_, rfl⟩
  rw [hG] at hr1 hz1 hgl hb1
  have e0 : ∀ W, Chg [] w1.drew W → W.cell? ⟨B, o, none⟩ = some (.map (some M)) := fun W h => (h.cell (b := B) (by show B < w1.heap.size; omega) (by simp)).trans ((hb1.cell (p := ⟨B, o, none⟩) (by show B < G; omega)).trans ((hb.cell o).trans h0))
  have e1 : ∀ W, Chg [] w1.drew W → W.cell? ⟨B, o + 1, none⟩ = some (.int .i64 l0) := fun W h => (h.cell (b := B) (by show B < w1.heap.size; omega) (by simp)).trans ((hb1.cell (p := ⟨B, o + 1, none⟩) (by show B < G; omega)).trans ((hb.cell _).trans h1))
  have e2 : ∀ W, Chg [] w1.drew W → W.cell? ⟨B, o + 2, none⟩ = some (.int .i64 l1) := fun W h => (h.cell (b := B) (by show B < w1.heap.size; omega) (by simp)).trans ((hb1.cell (p := ⟨B, o + 2, none⟩) (by show B < G; omega)).trans ((hb.cell _).trans h2))
  have hMb1 : w1.drew.heap[M]? = some (.map es clk) := (hb1.block M (by omega)).trans hMb
  have HC := Lib.hid (mclone_any M es clk w1.drew hMb1)
  have hszd : w1.drew.heap.size = G + 1 := by show w1.heap.size = _; omega
  obtain ⟨w2, hw2⟩ : ∃ W, w1.drew.alloc (.map es clk) = W := ⟨_, rfl⟩
  have hb2 : Below G w w2 := by rw [← hw2]; exact (hb1.drew).alloc (by show G ≤ w1.heap.size; omega) _
  have hc2 : Chg [] w1.drew w2 := by rw [← hw2]; exact (Chg.refl _ _).alloc _
  have hsz2 : G < w2.heap.size := by rw [← hw2]; simp; omega
  have hM2 : w2.heap[G + 1]? = some (.map es clk) := by rw [← hw2, ← hszd]; exact heap_alloc_new _ _
  have hr2 : ∀ i, w2.cell? ⟨G, i, none⟩ = (#[.map none, .int .i64 0, .int .i64 0] : Array Value)[i]? := fun i => (hc2.cell (b := G) (by show G < w1.heap.size; omega) (by simp)).trans (hr1 i)
  have hz2 : ∀ i, w2.frozen? ⟨G, i, none⟩ = false := fun i => (hc2.frozen (b := G) (by show G < w1.heap.size; omega) (by simp)).trans (hz1 i)
  have q0 := hr2 0
  have q1 := hr2 1
  have q2 := hr2 2
  have HF : Hid (∀ v0 v1 v2, MapA .i64 .u8 2 (((w2.setCell ⟨G, 0, none⟩ v0).setCell ⟨G, 1, none⟩ v1).setCell ⟨G, 2, none⟩ v2) (G + 1) g ∧ Below G w (((w2.setCell ⟨G, 0, none⟩ v0).setCell ⟨G, 1, none⟩ v1).setCell ⟨G, 2, none⟩ v2)) := fun v0 v1 v2 =>
    ⟨(((hcopy w2 (G + 1) hM2).setCell _ _ _).setCell _ _ _).setCell _ _ _, ((hb2.setCell (Nat.le_refl _) _).setCell (Nat.le_refl _) _).setCell (Nat.le_refl _) _⟩
  rw [hszd, hw2] at HC
  clear hr1 hz1 hb1 hMb1 hszd hw2 hb2 hM2 hr2 hcopy hMb hb hM h0 h1 h2
  rcases ho with rfl | rfl
  · go_enter Try.func64, Try.ntmps64
    go_wp2_with fail
    have HG := Lib.hid hG
    clear hw1 hG
    refine wp_region_ordX [] 10 [(0, true), (1, true), (2, true), (3, true), (5, true), (6, true), (7, true), (8, true), (4, false), (9, true)] (by kernel_rfl) (by kernel_rfl) (by kernel_rfl) (by kernel_rfl) ?_
    repeat (first | (refine wpOX_F (v := ?_) rfl (by rfl) (fun w' hL => ?_) ?_; rotate_left; (solve | (go_simp; with_reducible rfl) | go_simp); try simp only [Act.put, List.setIfInBounds_toArray, List.set_cons_zero, List.set_cons_succ]) | (refine wpOX_G (Chg.refl _) rfl (by rfl) ?_; try simp only [Act.put, List.setIfInBounds_toArray, List.set_cons_zero, List.set_cons_succ]))
    refine wpOX_C rfl (by rfl) ?_
    go_simp
    refine HC.out.mono ?_
    rintro e w' ⟨rfl, rfl⟩
    refine ⟨hc2, ?_⟩
    try simp only [Act.put, List.setIfInBounds_toArray, List.set_cons_zero, List.set_cons_succ]
    repeat (first | (refine wpOX_F (v := ?_) rfl (by rfl) (fun w' hL => ?_) ?_; rotate_left; (solve | (go_simp; with_reducible rfl) | go_simp); try simp only [Act.put, List.setIfInBounds_toArray, List.set_cons_zero, List.set_cons_succ]) | (refine wpOX_G (Chg.refl _) rfl (by rfl) ?_; try simp only [Act.put, List.setIfInBounds_toArray, List.set_cons_zero, List.set_cons_succ]))
    refine wpOX_end rfl (by rfl) ?_
    go_simp
    simp only [NoPanic]
    go_wp2
    refine bodyPost_ret (v := .agg #[.map (some (G + 1)), .int .i64 l0, .int .i64 l1]) (by simp [results, Try.results64, go_sem, q0, q1, q2]) rfl ⟨G + 1, rfl, by rw [HG.out]; omega, (HF.out _ _ _).1, by rw [HG.out]; exact (HF.out _ _ _).2⟩
  · go_enter Try.func64, Try.ntmps64
    go_wp2_with fail
    have HG := Lib.hid hG
    clear hw1 hG
    refine wp_region_ordX [] 10 [(0, true), (1, true), (2, true), (3, true), (5, true), (6, true), (7, true), (8, true), (4, false), (9, true)] (by kernel_rfl) (by kernel_rfl) (by kernel_rfl) (by kernel_rfl) ?_
    repeat (first | (refine wpOX_F (v := ?_) rfl (by rfl) (fun w' hL => ?_) ?_; rotate_left; (solve | (go_simp; with_reducible rfl) | go_simp); try simp only [Act.put, List.setIfInBounds_toArray, List.set_cons_zero, List.set_cons_succ]) | (refine wpOX_G (Chg.refl _) rfl (by rfl) ?_; try simp only [Act.put, List.setIfInBounds_toArray, List.set_cons_zero, List.set_cons_succ]))
    refine wpOX_C rfl (by rfl) ?_
    go_simp
    refine HC.out.mono ?_
    rintro e w' ⟨rfl, rfl⟩
    refine ⟨hc2, ?_⟩
    try simp only [Act.put, List.setIfInBounds_toArray, List.set_cons_zero, List.set_cons_succ]
    repeat (first | (refine wpOX_F (v := ?_) rfl (by rfl) (fun w' hL => ?_) ?_; rotate_left; (solve | (go_simp; with_reducible rfl) | go_simp); try simp only [Act.put, List.setIfInBounds_toArray, List.set_cons_zero, List.set_cons_succ]) | (refine wpOX_G (Chg.refl _) rfl (by rfl) ?_; try simp only [Act.put, List.setIfInBounds_toArray, List.set_cons_zero, List.set_cons_succ]))
    refine wpOX_end rfl (by rfl) ?_
    go_simp
    simp only [NoPanic]
    go_wp2
    refine bodyPost_ret (v := .agg #[.map (some (G + 1)), .int .i64 l0, .int .i64 l1]) (by simp [results, Try.results64, go_sem, q0, q1, q2]) rfl ⟨G + 1, rfl, by rw [HG.out]; omega, (HF.out _ _ _).1, by rw [HG.out]; exact (HF.out _ _ _).2⟩
end Go.Proofs.Ythfgjkmfabmipaa

/- empty, New. -/
set_option linter.unusedSimpArgs false
set_option linter.unusedVariables false
set_option maxRecDepth 100000
namespace Go.Proofs.Ythfgjkmfabmipaa
set_option linter.unusedSimpArgs false
open Go.RowKit

set_option maxHeartbeats 2000000 in
theorem empty_any (w : World) :
    Calls Try.prog 32 #[] w fun e w' => e = .returned (.agg #[.map (some (w.heap.size + 1)), .int .i64 0, .int .i64 0]) ∧ w'.heap.size = w.heap.size + 2 ∧ MapA .i64 .u8 2 w' (w.heap.size + 1) Cont.empty.key ∧ Below w.heap.size w w' := by
  have hk : Cont.empty.key = fun _ => none := by
    funext x
    unfold Cont.key Cont.empty
    match x with
    | [] => rfl
    | [_] => rfl
    | [_, _] => rfl
    | _ :: _ :: _ :: _ => rfl
  rw [hk]
  have HH : Hid (∀ c : Array Value, MapA .i64 .u8 2 ((w.alloc (.cells c 69)).alloc (.map #[] 0)) (w.heap.size + 1) (fun _ => none) ∧ Below w.heap.size w ((w.alloc (.cells c 69)).alloc (.map #[] 0))) := fun c => by
    have := MapA.new .i64 .u8 2 (w.alloc (.cells c 69))
    rw [show (w.alloc (.cells c 69)).heap.size = w.heap.size + 1 by simp] at this
    exact ⟨this, ((Below.refl _ _).alloc (Nat.le_refl _) _).alloc (by simp) _⟩
  clear hk
  have hmm := @run_makeMap Try.prog
  go_enter Try.func32, Try.ntmps32
  go_wp2
  exact bodyPost_ret (v := .agg #[.map (some (w.heap.size + 1)), .int .i64 0, .int .i64 0]) (by simp [results, Try.results32, go_sem]) rfl ⟨rfl, by simp, (HH.out _).1, (HH.out _).2⟩

/-- What New hands back. -/
def RetNew (w : World) (q : Int) (e : Ending) (w' : World) : Prop := Below w.heap.size w w' ∧ ((isQuotaB q = false ∧ e = .returned (.tuple #[.pointer none, .int .i64 1])) ∨
      (isQuotaB q = true ∧ ∃ B Mv Md, e = .returned (.tuple #[.pointer (some ⟨B, 0, none⟩), .int .i64 0]) ∧ DiskAt w' B (DS.new q.toNat) Mv Md (.slice none 0 0) ∧ ∀ k ∈ footD B Mv Md (.slice none 0 0), w.heap.size ≤ k))

set_option maxRecDepth 100000 in
set_option maxHeartbeats 4000000 in
theorem New_any (q : Int) (w : World) : Calls Try.prog 7 #[.int .i64 q] w (RetNew w q) := by
  have HQ := Lib.hid (isQuota_any q w)
  cases hq : isQuotaB q with
  | false =>
    have hq' := Lib.hid hq
    rw [hq] at HQ
    clear hq
    go_enter Try.func7, Try.ntmps7
    go_wp2_with (refine HQ.out.mono ?_; rintro e w' ⟨rfl, rfl⟩)
    go_ret2
    exact ⟨Below.refl _ _, .inl ⟨hq'.out, rfl⟩⟩
  | true =>
    have hq' := Lib.hid hq
    rw [hq] at HQ
    have h1 : 1 ≤ q ∧ q ≤ 65536 := by unfold isQuotaB at hq; simpa using hq
    obtain ⟨m, rfl⟩ : ∃ m : Nat, q = (m : Int) := ⟨q.toNat, by omega⟩
    have HE := Lib.hid (fun W => empty_any W)
    have h2 : 1 ≤ m ∧ m ≤ 65536 := by omega
    clear hq h1
    go_enter Try.func7, Try.ntmps7
    go_wp2_with (refine HQ.out.mono ?_; rintro e w' ⟨rfl, rfl⟩)
    refine (HE.out w').mono ?_
    rintro e w1 ⟨rfl, hs1, hM1, hb1⟩
    have HM1 := Lib.hid hM1
    clear hM1
    go_wp2_with fail
    refine (HE.out w1).mono ?_
    rintro e w2 ⟨rfl, hs2, hM2, hb2⟩
    have HM2 := Lib.hid hM2
    have HM1' := Lib.hid (HM1.out.chg (S := []) (Below.chg0 hb2 _) (by simp))
    clear hM2 HE
    have hb := hb1.trans (hb2.mono hb1.size)
    clear hb1 hb2 HM1
    have hs : w2.heap.size = w'.heap.size + 2 + 2 := by omega
    have HB : Hid (∀ cs : Array Value, Blk (w2.alloc (.cells cs 73)) (w'.heap.size + 2 + 2) 73 cs) := fun cs => by rw [← hs]; exact Blk.new _ _ _
    have HS : Hid (w1.heap.size = w'.heap.size + 2) := hs1
    clear hs
    go_wp2
    go_ret2
    refine ⟨hb.alloc hb.size _, .inr ⟨hq'.out, w'.heap.size + 2 + 2, w'.heap.size + 1, w'.heap.size + 2 + 1, rfl, ⟨?_, ?_, ?_, World.ownsRow_nil _ _ _ _, by omega, ?_, by simp [DS.new], by simp [DS.new]⟩, ?_⟩⟩
    · rw [Int.toNat_natCast]; exact HB.out _
    · exact HM1'.out.alloc _
    · have := HM2.out.alloc (.cells (rowD (w'.heap.size + 2 + 2) (DS.new m) (w'.heap.size + 1) (w'.heap.size + 2 + 1) (.slice none 0 0)) 73)
      rw [HS.out] at this
      exact this
    · rw [Int.toNat_natCast]; exact DS.new_ok h2.1 h2.2
    · intro k hk
      simp [footD, Value.ownBlock] at hk
      omega
end Go.Proofs.Ythfgjkmfabmipaa

/- Read. -/
set_option linter.unusedSimpArgs false
set_option linter.unusedVariables false
set_option maxRecDepth 100000
namespace Go.Proofs.Ythfgjkmfabmipaa
set_option linter.unusedSimpArgs false
open Go.RowKit

/-- The cells of bytes. -/
def cellsB (l : List Nat) : List Value := l.map fun (c : Nat) => Value.int .u8 (c : Int)
theorem cellsB_len (l : List Nat) : (cellsB l).length = l.length := by simp [cellsB]
theorem cellsB_one (l : List Nat) : (cellsB l).toArray.all (·.oneCell') = true := by
  rw [Array.all_eq_true_iff_forall_mem]
  intro v hv
  have : v ∈ cellsB l := by simpa using hv
  obtain ⟨c, _, rfl⟩ := List.mem_map.1 this
  rfl

theorem zero_sec (w : World) : (zeroValue 107).run Try.prog w = .ok (arrN .u8 noughts) w := zero_of (by kernel_rfl) w
theorem size_sec {l : List Nat} (h : l.length = 128) : (Try.prog.info? 107).map (·.size) = some (cellsB l).toArray.size := by
  rw [List.size_toArray, cellsB_len, h]
  kernel_rfl

/-- A sector stored in the block that was made last. -/
theorem store_sec (w : World) (l l' : List Nat) (h : l.length = 128) (h' : l'.length = 128) : (storeVar 107 ⟨w.heap.size, 0, none⟩ (arrN .u8 l')).run Try.prog (w.alloc (.cells (cellsB l).toArray 107)) = .ok () (w.alloc (.cells (cellsB l').toArray 107)) :=
  run_storeVar_new w 107 (cellsB l).toArray (cellsB l').toArray (size_sec h') (by simp [cellsB_len, h, h']) (cellsB_one l')

/-- What Read hands back. -/
def RetRead (w : World) (r : Except Nat (List Nat)) (e : Ending) (w' : World) : Prop :=
  Below w.heap.size w w' ∧ ((∃ n : Nat, r = .error n ∧ e = .returned (.tuple #[.slice none 0 0, .int .i64 (n : Int)])) ∨
    ∃ b g, r = .ok b ∧ e = .returned (.tuple #[.slice (some ⟨g, 0, none⟩) 128 128, .int .i64 0]) ∧ w.heap.size ≤ g ∧ SecOk b ∧ Blk w' g 107 (cellsB b).toArray)

set_option maxRecDepth 100000 in
set_option maxHeartbeats 4000000 in
theorem Read_any {w : World} {B Mv Md : Nat} {pv : Value} {d : DS} (h : DiskAt w B d Mv Md pv) (f s : Int) :
    Calls Try.prog 52 #[.pointer (some ⟨B, 0, none⟩), .int .i64 f, .int .i64 s] w (RetRead w (d.read f s)) := by
  obtain ⟨c0, c1, c2, c3, c4, c5, c6, c7, c8, c9, c10, c11⟩ := h.cells
  have HM := Lib.hid (made_yes w B c0)
  have HF := Lib.hid (isFile_any f w)
  by_cases hbad : isFileB f = false
  · have hr : d.read f s = .error 1 := by
      unfold DS.read
      rw [if_pos]
      left
      unfold isFileB at hbad
      simp at hbad
      omega
    rw [hr]
    rw [hbad] at HF
    clear h hbad hr
    go_enter Try.func52, Try.ntmps52
    go_wp2_with (first | (go_at_call 40; refine HM.out.mono ?_; rintro e w' ⟨rfl, rfl⟩) | (go_at_call 41; refine HF.out.mono ?_; rintro e w' ⟨rfl, rfl⟩))
    go_ret2
    exact ⟨Below.refl _ _, .inl ⟨1, rfl, rfl⟩⟩
  · have hg : isFileB f = true := by simpa using hbad
    rw [hg] at HF
    have hf2 : 0 ≤ f ∧ f < 2 := by unfold isFileB at hg; simpa using hg
    by_cases hs : s < 0
    · have hr : d.read f s = .error 1 := by unfold DS.read; rw [if_pos (.inr hs)]
      rw [hr]
      have q0 : decide (s < 0) = true := by simpa using hs
      clear h hbad hr hg
      go_enter Try.func52, Try.ntmps52
      go_wp2_with (first | (go_at_call 40; refine HM.out.mono ?_; rintro e w' ⟨rfl, rfl⟩) | (go_at_call 41; refine HF.out.mono ?_; rintro e w' ⟨rfl, rfl⟩))
      go_ret2
      exact ⟨Below.refl _ _, .inl ⟨1, rfl, rfl⟩⟩
    · have q0 : decide (s < 0) = false := by simpa using hs
      obtain ⟨n, rfl⟩ : ∃ n : Nat, s = (n : Int) := ⟨s.toNat, by omega⟩
      obtain ⟨m, rfl⟩ : ∃ m : Nat, f = (m : Int) := ⟨f.toNat, by omega⟩
      have hr : d.read m n = if d.down then .error 51 else if (d.vis.len m : Int) ≤ (n : Int) then .error 4 else .ok ((d.vis.get m n).getD noughts) := by
        unfold DS.read
        rw [if_neg (by omega), Int.toNat_natCast, Int.toNat_natCast]
      rw [hr]
      clear hr hs hg hbad
      cases hd : d.down with
      | true =>
        rw [hd] at c11
        clear h hd
        rw [if_pos rfl]
        go_enter Try.func52, Try.ntmps52
        go_wp2_with (first | (go_at_call 40; refine HM.out.mono ?_; rintro e w' ⟨rfl, rfl⟩) | (go_at_call 41; refine HF.out.mono ?_; rintro e w' ⟨rfl, rfl⟩))
        go_ret2
        exact ⟨Below.refl _ _, .inl ⟨51, rfl, rfl⟩⟩
      | false =>
        rw [hd] at c11
        rw [if_neg (by simp)]
        have hz := zero_sec
        have hm : m = 0 ∨ m = 1 := by omega
        have hlook := h.vis.lookup (P := Try.prog) Try.underlying66 Try.underlying106 Try.underlying3 (by kernel_rfl) hz [m, n] rfl
        have hkey : d.vis.key [m, n] = d.vis.get m n := rfl
        rw [hkey] at hlook
        have hbok : SecOk ((d.vis.get m n).getD noughts) := by
          cases hg : d.vis.get m n with
          | none => exact noughts_ok
          | some b => exact (h.ok.vis.sec m n b hg).2.2
        have hlk : ((d.vis.get m n).map (arrN .u8)).getD (arrN .u8 noughts) = arrN .u8 ((d.vis.get m n).getD noughts) := by cases d.vis.get m n <;> rfl
        rw [hlk] at hlook
        obtain ⟨b, hb⟩ : ∃ b, (d.vis.get m n).getD noughts = b := ⟨_, rfl⟩
        rw [hb] at hlook hbok ⊢
        have HBOK := Lib.hid hbok
        have HST := Lib.hid (store_sec w noughts b noughts_ok.1 hbok.1)
        have hal : ∀ W, (zeroValue 107).run Try.prog W = .ok (arrN .u8 noughts) W := zero_sec
        have HZ := Lib.hid hal
        clear h hkey hlk hb hz hbok hal
        rcases hm with rfl | rfl
        · generalize d.vis.len 0 = l0 at *
          have hlook' : (Instr.lookup 66 (.map (some Mv)) (.agg #[.int .i64 ((0 : Nat) : Int), .int .i64 (n : Int)]) false).run Try.prog w = .ok (arrN .u8 b) w := hlook
          have HL := Lib.hid hlook'
          clear hlook hlook' hf2
          by_cases hln : (l0 : Int) ≤ (n : Int)
          · rw [if_pos hln]
            have q1 : decide ((l0 : Int) ≤ (n : Int)) = true := by simpa using hln
            go_enter Try.func52, Try.ntmps52
            go_wp2_with (first | (go_at_call 40; refine HM.out.mono ?_; rintro e w' ⟨rfl, rfl⟩) | (go_at_call 41; refine HF.out.mono ?_; rintro e w' ⟨rfl, rfl⟩))
            go_ret2
            exact ⟨Below.refl _ _, .inl ⟨4, rfl, rfl⟩⟩
          · rw [if_neg hln]
            have q1 : decide ((l0 : Int) ≤ (n : Int)) = false := by simpa using hln
            go_enter Try.func52, Try.ntmps52
            go_wp2_with (first | (go_at_call 40; refine HM.out.mono ?_; rintro e w' ⟨rfl, rfl⟩) | (go_at_call 41; refine HF.out.mono ?_; rintro e w' ⟨rfl, rfl⟩) | (guard_target =~ wpList _ _ _ (Oper.mk _ (Op.lookup _ _ _ _) _ _ _ _ :: _) _ _; refine wpList_val rfl (exec_lookup rfl rfl rfl HL.out) ?_) | (guard_target =~ wpList _ _ _ (Oper.mk _ (Op.alloc _) _ _ _ _ :: _) _ _; refine wpList_val rfl (exec_alloc (e := 107) rfl HZ.out) ?_) | (guard_target =~ wpList _ _ _ (Oper.mk _ (Op.store _ _ _) _ _ _ _ :: _) _ _; refine wpList_skp rfl (exec_store (ty := 107) rfl rfl rfl HST.out) ?_))
            go_ret2
            refine ⟨(Below.refl _ _).alloc (Nat.le_refl _) _, .inr ⟨b, w'.heap.size, rfl, rfl, Nat.le_refl _, HBOK.out, Blk.new _ _ _⟩⟩
        · generalize d.vis.len 1 = l0 at *
          have hlook' : (Instr.lookup 66 (.map (some Mv)) (.agg #[.int .i64 ((1 : Nat) : Int), .int .i64 (n : Int)]) false).run Try.prog w = .ok (arrN .u8 b) w := hlook
          have HL := Lib.hid hlook'
          clear hlook hlook' hf2
          by_cases hln : (l0 : Int) ≤ (n : Int)
          · rw [if_pos hln]
            have q1 : decide ((l0 : Int) ≤ (n : Int)) = true := by simpa using hln
            go_enter Try.func52, Try.ntmps52
            go_wp2_with (first | (go_at_call 40; refine HM.out.mono ?_; rintro e w' ⟨rfl, rfl⟩) | (go_at_call 41; refine HF.out.mono ?_; rintro e w' ⟨rfl, rfl⟩))
            go_ret2
            exact ⟨Below.refl _ _, .inl ⟨4, rfl, rfl⟩⟩
          · rw [if_neg hln]
            have q1 : decide ((l0 : Int) ≤ (n : Int)) = false := by simpa using hln
            go_enter Try.func52, Try.ntmps52
            go_wp2_with (first | (go_at_call 40; refine HM.out.mono ?_; rintro e w' ⟨rfl, rfl⟩) | (go_at_call 41; refine HF.out.mono ?_; rintro e w' ⟨rfl, rfl⟩) | (guard_target =~ wpList _ _ _ (Oper.mk _ (Op.lookup _ _ _ _) _ _ _ _ :: _) _ _; refine wpList_val rfl (exec_lookup rfl rfl rfl HL.out) ?_) | (guard_target =~ wpList _ _ _ (Oper.mk _ (Op.alloc _) _ _ _ _ :: _) _ _; refine wpList_val rfl (exec_alloc (e := 107) rfl HZ.out) ?_) | (guard_target =~ wpList _ _ _ (Oper.mk _ (Op.store _ _ _) _ _ _ _ :: _) _ _; refine wpList_skp rfl (exec_store (ty := 107) rfl rfl rfl HST.out) ?_))
            go_ret2
            refine ⟨(Below.refl _ _).alloc (Nat.le_refl _) _, .inr ⟨b, w'.heap.size, rfl, rfl, Nat.le_refl _, HBOK.out, Blk.new _ _ _⟩⟩
end Go.Proofs.Ythfgjkmfabmipaa

/- Write. -/
set_option linter.unusedSimpArgs false
set_option linter.unusedVariables false
set_option maxRecDepth 100000
namespace Go.Proofs.Ythfgjkmfabmipaa
set_option linter.unusedSimpArgs false
open Go.RowKit

/-- What a method hands back that may change the disk. -/
def RetD (w : World) (B Mv Md : Nat) (pv : Value) (r : Nat × DS) (e : Ending) (w' : World) : Prop :=
  e = .returned (.int .i64 (r.1 : Int)) ∧ ∃ pv', DiskAt w' B r.2 Mv Md pv' ∧ Chg (footD B Mv Md pv) w w' ∧ (pv'.ownBlock = pv.ownBlock ∨ ∀ g, pv'.ownBlock = some g → w.heap.size ≤ g)

theorem Wr.cells_len {x : Wr} (hx : x.b.length = 128) : x.cells.length = 130 := by unfold Wr.cells; simp [hx]
theorem size_wr {x : Wr} (hx : x.b.length = 128) : (Try.prog.info? 109).map (·.size) = some x.cells.toArray.size := by
  rw [List.size_toArray, Wr.cells_len hx]
  kernel_rfl
theorem Wr.cells_one' (x : Wr) : x.cells.toArray.all (·.oneCell') = true := by
  rw [Array.all_eq_true_iff_forall_mem]
  intro v hv
  exact Wr.cells_one x v (by simpa using hv)

theorem zero_wr (w : World) : (zeroValue 109).run Try.prog w = .ok (.agg (Wr.cells ⟨0, 0, noughts⟩).toArray) w := zero_of (by kernel_rfl) w
theorem build_wr (f s : Nat) (w : World) : (Instr.build 109 #[(0, .agg #[.int .i64 (f : Int), .int .i64 (s : Int)])]).run Try.prog w = .ok (.agg (Wr.cells ⟨f, s, noughts⟩).toArray) w := by kernel_rfl
theorem store_wr (w : World) (x y : Wr) (hx : x.b.length = 128) (hy : y.b.length = 128) : (storeVar 109 ⟨w.heap.size, 0, none⟩ (.agg y.cells.toArray)).run Try.prog (w.alloc (.cells x.cells.toArray 109)) = .ok () (w.alloc (.cells y.cells.toArray 109)) :=
  run_storeVar_new w 109 x.cells.toArray y.cells.toArray (size_wr hy) (by simp [Wr.cells_len hx, Wr.cells_len hy]) (Wr.cells_one' y)

theorem bslice_wr (x : Wr) (hx : x.b.length = 128) (w : World) : (Instr.buildSlice 71 1 #[(0, .agg x.cells.toArray)]).run Try.prog w = .ok (.slice (some ⟨w.heap.size, 0, none⟩) 1 1) (w.alloc (.cells x.cells.toArray 109)) := by
  obtain ⟨ie, hie⟩ := info_of_underlying Try.underlying109
  have hs : ie.size = 130 := by
    have : (Try.prog.info? 109).map (·.size) = some 130 := by kernel_rfl
    rw [hie] at this; simpa using this
  obtain ⟨z, hz⟩ : ∃ z, ie.zero = some z := by
    have : (Try.prog.info? 109).map (·.zero) = some (some (.agg (Wr.cells ⟨0, 0, noughts⟩).toArray)) := by kernel_rfl
    rw [hie] at this; exact ⟨_, by simpa using this⟩
  refine run_buildSlice w _ 109 1 _ _ ie z Try.underlying71 hie hz (by rw [hs]; decide) (by rw [hs]; decide) ?_
  rw [hs]
  have := Great.fill_whole (s := 130) (by omega) [.agg x.cells.toArray] ((Array.range (1 * 130)).map (z.cells[· % z.cells.size]!)) (by intro v hv; simp only [List.mem_singleton] at hv; subst hv; simp [Value.cells, Wr.cells_len hx]) (by simp)
  simpa [Value.cells] using this

/-- The bytes copied into a write that has just been laid. -/
theorem copy_wr (w : World) (f s : Nat) (l : List Nat) (hl : l.length = 128) (N : Nat) (hN : N ≤ w.heap.size) (a : Option Addr) (cap : Nat) (hB : Bs N w a l) (ty : TypeId) :
    (Builtin.copy_ #[30, 30] ty #[.slice (some ⟨w.heap.size, 2, none⟩) 128 128, .slice a 128 cap]).run Try.prog (w.alloc (.cells (Wr.cells ⟨f, s, noughts⟩).toArray 109)) =
      .ok (.int .i64 128) (w.alloc (.cells (Wr.cells ⟨f, s, l⟩).toArray 109)) := by
  rcases hB.2 with h | ⟨b, o, rfl, hb, hc⟩
  · subst h; simp at hl
  · have hcells : ∀ j v, (cellsB l)[j]? = some v → (w.alloc (.cells (Wr.cells ⟨f, s, noughts⟩).toArray 109)).cell? ((⟨b, o, none⟩ : Addr).add j) = some v := by
      intro j v hv
      unfold cellsB at hv
      rw [List.getElem?_map] at hv
      cases hj : l[j]? with
      | none => rw [hj] at hv; cases hv
      | some c =>
        rw [hj] at hv
        simp only [Option.map_some, Option.some.injEq] at hv
        subst hv
        rw [Addr.add_mid, World.cell?_alloc_lt _ _ _ (by show b < w.heap.size; omega)]
        exact hc j c hj
    have hrun := run_copy_row (P := Try.prog) (w.alloc (.cells (Wr.cells ⟨f, s, noughts⟩).toArray 109)) 30 30 ty 5 w.heap.size 2 128 128 ⟨b, o, none⟩ 128 cap
      (Wr.cells ⟨f, s, noughts⟩).toArray 109 (cellsB l) Try.underlying30 (by kernel_rfl)
      (heap_alloc_new _ _) (by rw [cellsB_len, hl]; rfl) hcells (by rw [cellsB_len, hl, List.size_toArray, Wr.cells_len (by simp [noughts])]; omega) (by intro v hv; obtain ⟨c, _, rfl⟩ := List.mem_map.1 hv; rfl)
    rw [hrun, cellsB_len, hl, World.setRow_alloc_new]
    have e : ((Wr.cells ⟨f, s, noughts⟩).toArray.toList.take 2 ++ cellsB l ++ (Wr.cells ⟨f, s, noughts⟩).toArray.toList.drop (2 + 128)).toArray = (Wr.cells ⟨f, s, l⟩).toArray := by
      have hd : (Wr.cells ⟨f, s, noughts⟩).toArray.toList.drop (2 + 128) = [] := List.drop_eq_nil_of_le (by rw [List.toList_toArray, Wr.cells_len (by simp [noughts])]; omega)
      rw [hd, List.append_nil]
      simp [Wr.cells, cellsB]
    rw [e]
    rfl
end Go.Proofs.Ythfgjkmfabmipaa

/- Write. -/
set_option linter.unusedSimpArgs false
set_option linter.unusedVariables false
set_option maxRecDepth 100000
namespace Go.Proofs.Ythfgjkmfabmipaa
set_option linter.unusedSimpArgs false
open Go.RowKit

theorem exec_copy {P : Program} {o : Oper} {a : Act} {w w' : World} {d s : Operand} {dT sT : TypeId} (ho : o.op = .call { callee := .builtin .copy, args := #[d, s], argTypes := #[dT, sT] }) {vd vs v : Value} (hd : a.eval d = vd) (hs : a.eval s = vs)
    (h : (Builtin.copy_ #[dT, sT] o.type #[vd, vs]).run P w = .ok v w') : (execOp a.eval o).run P w = .ok (.value v) w' := by
  unfold execOp
  simp only [ho]
  simp [resolve, invoke, builtin, hd, hs, h, Sem.run_bind, Result.andThen]

theorem putv_any {w : World} {B Mv Md : Nat} {pv : Value} {d : DS} (h : DiskAt w B d Mv Md pv) (x : Wr) (hx : x.ok) :
    Calls Try.prog 62 #[.pointer (some ⟨B, 2, none⟩), .agg x.cells.toArray] w fun e w' => e = .returned (.tuple #[]) ∧ DiskAt w' B { d with vis := d.vis.wr x } Mv Md pv ∧ Chg [B, Mv] w w' := by
  refine (put_cells w B 2 Mv _ (rowD B d Mv Md pv) d.vis x hx h.ok.vis (.inl rfl) h.blk h.vis rfl rfl rfl).mono ?_
  rintro e w' ⟨he, hb, hM, hc⟩
  refine ⟨he, ⟨?_, hM, h.dur.chg hc ?_, own_chg h.pend hc ?_, h.apart, ⟨h.ok.quota, Cont.ok_wr h.ok.vis hx, h.ok.dur, h.ok.pend, h.ok.left⟩, h.calls, h.waits⟩, hc⟩
  · have hf : x.f = 0 ∨ x.f = 1 := by have := hx.1; omega
    have e1 : (rowD B d Mv Md pv).setIfInBounds (2 + 1 + x.f) (.int .i64 ((max (d.vis.len x.f) (x.s + 1) : Nat) : Int)) = rowD B { d with vis := d.vis.wr x } Mv Md pv := by
      rcases hf with hf | hf <;> simp [rowD, Cont.wr, Cont.put, hf]
    rw [e1] at hb
    exact hb
  · have h1 := h.apart
    have h2 := h.dur.ne_blk h.blk
    simp; omega
  · intro g hg
    have h1 := own_ne h.pend h.blk (by decide)
    have h2 := own_ne_map h.pend h.vis
    rw [hg] at h1 h2
    simp at h1 h2 ⊢
    omega
theorem putd_any {w : World} {B Mv Md : Nat} {pv : Value} {d : DS} (h : DiskAt w B d Mv Md pv) (x : Wr) (hx : x.ok) :
    Calls Try.prog 62 #[.pointer (some ⟨B, 5, none⟩), .agg x.cells.toArray] w fun e w' => e = .returned (.tuple #[]) ∧ DiskAt w' B { d with dur := d.dur.wr x } Mv Md pv ∧ Chg [B, Md] w w' := by
  refine (put_cells w B 5 Md _ (rowD B d Mv Md pv) d.dur x hx h.ok.dur (.inr rfl) h.blk h.dur rfl rfl rfl).mono ?_
  rintro e w' ⟨he, hb, hM, hc⟩
  refine ⟨he, ⟨?_, h.vis.chg hc ?_, hM, own_chg h.pend hc ?_, h.apart, ⟨h.ok.quota, h.ok.vis, Cont.ok_wr h.ok.dur hx, h.ok.pend, h.ok.left⟩, h.calls, h.waits⟩, hc⟩
  · have hf : x.f = 0 ∨ x.f = 1 := by have := hx.1; omega
    have e1 : (rowD B d Mv Md pv).setIfInBounds (5 + 1 + x.f) (.int .i64 ((max (d.dur.len x.f) (x.s + 1) : Nat) : Int)) = rowD B { d with dur := d.dur.wr x } Mv Md pv := by
      rcases hf with hf | hf <;> simp [rowD, Cont.wr, Cont.put, hf]
    rw [e1] at hb
    exact hb
  · have h1 := h.apart
    have h2 := h.vis.ne_blk h.blk
    simp; omega
  · intro g hg
    have h1 := own_ne h.pend h.blk (by decide)
    have h2 := own_ne_map h.pend h.dur
    rw [hg] at h1 h2
    simp at h1 h2 ⊢
    omega

theorem DiskAt.chg {w w' : World} {B Mv Md : Nat} {pv : Value} {d : DS} (h : DiskAt w B d Mv Md pv) {T : List Nat} (hc : Chg T w w') (hn : ∀ k ∈ footD B Mv Md pv, k ∉ T) : DiskAt w' B d Mv Md pv :=
  ⟨h.blk.chg hc (hn _ (by simp [footD])), h.vis.chg hc (hn _ (by simp [footD])), h.dur.chg hc (hn _ (by simp [footD])), own_chg h.pend hc (fun g hg => hn _ (by simp [footD, hg])), h.apart, h.ok, h.calls, h.waits⟩
theorem DiskAt.below {w w' : World} {B Mv Md : Nat} {pv : Value} {d : DS} (h : DiskAt w B d Mv Md pv) (hb : Below w.heap.size w w') : DiskAt w' B d Mv Md pv := h.chg (T := []) (Below.chg0 hb []) (by simp)

theorem cellsW_snoc (l : List Wr) (x : Wr) : cellsW (l ++ [x]) = cellsW l ++ x.cells := by simp [cellsW]

/-- Behind the append to the pending writes. -/
theorem pend_app {w w5 w6 : World} {B Mv Md : Nat} {pv v' : Value} {d : DS} {x : Wr} (h : DiskAt w B d Mv Md pv) (hx : x.ok) (hw : d.pend.length < 1000000000) (h5 : Chg [] w w5) (hown : w6.ownsRow 0 109 130 v' (d.pend.length + 1) (cellsW d.pend ++ x.cells)) (hg : w5.grownBy w6 pv.ownBlock) :
    DiskAt (w6.setCell ⟨B, 8, none⟩ v') B (d.put x |>.pend |> fun p => { d with pend := p }) Mv Md v' ∧ Chg (footD B Mv Md pv) w (w6.setCell ⟨B, 8, none⟩ v') := by
  have hpB := own_ne h.pend h.blk (by decide)
  have hpV := own_ne_map h.pend h.vis
  have hpD := own_ne_map h.pend h.dur
  have hc : Chg pv.ownBlock.toList w w6 := (h5.sub (by simp)).trans ⟨hg.os, hg.tape, hg.output, hg.size, fun k hk hn => hg.block k hk (fun e => hn (by rw [← e]; simp))⟩
  have hin : ∀ b, pv.ownBlock ≠ some b → b ∉ pv.ownBlock.toList := by
    intro b hb
    cases hq : pv.ownBlock with
    | none => simp
    | some g => rw [hq] at hb; simp at hb ⊢; exact fun e => hb e.symm
  refine ⟨?_, ?_⟩
  · have hb6 := h.blk.chg hc (hin _ hpB)
    have hv6 := h.vis.chg hc (hin _ hpV)
    have hd6 := h.dur.chg hc (hin _ hpD)
    refine ⟨?_, hv6.setCell _ _ _, hd6.setCell _ _ _, ?_, h.apart, ⟨h.ok.quota, h.ok.vis, h.ok.dur, ?_, h.ok.left⟩, h.calls, ?_⟩
    · have := hb6.set_ 8 v'
      rw [row_set_pend B d Mv Md pv v' (d.put x).pend] at this
      exact this
    · have hne := own_ne hown hb6 (by decide)
      have h2 := own_chg hown ((Chg.refl [B] w6).setCell (b := B) (o := 8) (.inl (by simp)) v') (fun g hg => by
        rw [hg] at hne; simpa using hne)
      show World.ownsRow _ 0 _ 130 v' (d.put x).pend.length (cellsW (d.put x).pend)
      unfold DS.put
      simp only
      rw [cellsW_snoc, List.length_append]
      exact h2
    · intro y hy
      rcases List.mem_append.1 hy with hy | hy
      · exact h.ok.pend y hy
      · obtain rfl := List.mem_singleton.1 hy; exact hx
    · show (d.pend ++ [x]).length ≤ _
      rw [List.length_append]; simp; omega
  · refine Chg.setCell (hc.sub ?_) (.inl (by simp [footD])) _
    intro k hk
    simp [footD] at hk ⊢
    simp [hk]
end Go.Proofs.Ythfgjkmfabmipaa

/- Write: its walks. -/
set_option linter.unusedSimpArgs false
set_option linter.unusedVariables false
set_option maxRecDepth 100000
namespace Go.Proofs.Ythfgjkmfabmipaa
set_option linter.unusedSimpArgs false
open Go.RowKit

theorem row_no_u8 {w : World} {B Mv Md : Nat} {pv : Value} {d : DS} (h : DiskAt w B d Mv Md pv) (j : Nat) (c : Int) : w.cell? ⟨B, j, none⟩ ≠ some (.int .u8 c) := by
  intro hc
  rw [h.blk.cell j] at hc
  have hp : pv ≠ .int .u8 c := by
    rcases h.pend.2 with ⟨rfl, _⟩ | ⟨g, cap, cur, rfl, _⟩ <;> simp
  unfold rowD at hc
  match j, hc with
  | 0, hc => simp at hc
  | 1, hc => simp at hc
  | 2, hc => simp at hc
  | 3, hc => simp at hc
  | 4, hc => simp at hc
  | 5, hc => simp at hc
  | 6, hc => simp at hc
  | 7, hc => simp at hc
  | 8, hc => simp at hc; exact hp hc
  | 9, hc => simp at hc
  | 10, hc => simp at hc
  | 11, hc => simp at hc
  | j + 12, hc => simp at hc

theorem Bs.chgD {w w' : World} {N B Mv Md : Nat} {pv : Value} {d : DS} {a : Option Addr} {l : List Nat} (hB : Bs N w a l) (hN : N ≤ w.heap.size) (h : DiskAt w B d Mv Md pv) (hc : Chg [B] w w') : Bs N w' a l := by
  obtain ⟨h1, h2⟩ := hB
  refine ⟨h1, ?_⟩
  rcases h2 with h2 | ⟨b, o, ha, hb, hcell⟩
  · exact .inl h2
  · by_cases hl : l = []
    · exact .inl hl
    · refine .inr ⟨b, o, ha, hb, fun i c hi => (hc.cell (by omega) ?_).trans (hcell i c hi)⟩
      simp only [List.mem_singleton]
      rintro rfl
      exact row_no_u8 h _ _ (hcell i c hi)

theorem info_wr : (Try.prog.info? 109).map (fun i => (i.zero, i.size, i.bytes)) = some (some (.agg (Wr.cells ⟨0, 0, noughts⟩).toArray), 130, 144) := by kernel_rfl

set_option maxRecDepth 100000 in
set_option maxHeartbeats 4000000 in
theorem Write_yes {w : World} {B Mv Md : Nat} {pv : Value} {d d' : DS} (h : DiskAt w B d Mv Md pv) (f s : Nat) (hf : f < 2) (hs : s ≤ 65535) (l : List Nat) (hl : l.length = 128) (a : Option Addr) (cap N : Nat) (hB : Bs N w a l) (hN : N ≤ w.heap.size)
    (hd : d.down = false) (hfit : d.fits f s = true) (hch : d.change = (d', true)) (hcs : d.calls < 1000000000) (hwt : d.pend.length < 1000000000) :
    Calls Try.prog 72 #[.pointer (some ⟨B, 0, none⟩), .int .i64 (f : Int), .int .i64 (s : Int), .slice a 128 cap] w (RetD w B Mv Md pv (0, d'.put ⟨f, s, l⟩)) := by
  obtain ⟨c0, c1, c2, c3, c4, c5, c6, c7, c8, c9, c10, c11⟩ := h.cells
  have HM := Lib.hid (made_yes w B c0)
  have HF := Lib.hid (isFile_any (f : Int) w)
  have hfb : isFileB (f : Int) = true := by unfold isFileB; simp; omega
  rw [hfb] at HF
  rw [hd] at c11
  have HFit := Lib.hid (fits_any h f s hf hs)
  rw [hfit] at HFit
  have hB' := hB.mono hN
  have hx : Wr.ok ⟨f, s, l⟩ := ⟨hf, by show s < 65536; omega, hl, hB.1⟩
  have hpl : d'.pend = d.pend := by
    unfold DS.change at hch
    split at hch
    · simp at hch
    · simp only [Prod.mk.injEq] at hch; rw [← hch.1]
  have HC : Hid (∀ W, Below w.heap.size w W → Calls Try.prog 61 #[.pointer (some ⟨B, 0, none⟩)] W fun e w' => e = .returned (.int .i64 0) ∧ DiskAt w' B d' Mv Md pv ∧ Chg [B] W w') := fun W hW => by
    have := change_any (h.below hW) hcs
    rw [hch] at this
    exact this
  have hwt' : d'.pend.length < 1000000000 := by rw [hpl]; exact hwt
  have q1 : decide ((s : Int) < 0) = false := by rw [decide_eq_false_iff_not]; omega
  have q2 : decide ((65535 : Int) < (s : Int)) = false := by rw [decide_eq_false_iff_not]; omega
  have HBs := Lib.hid hB'
  have HX := Lib.hid hx
  have HL := Lib.hid hl
  have HD := Lib.hid h
  have hBlt := h.blk.lt
  clear hfb hfit hch hB hB' h hx hl hd hcs hwt hpl hN
  go_enter Try.func72, Try.ntmps72
  go_wp2_with (first | (go_at_call 40; refine HM.out.mono ?_; rintro e w' ⟨rfl, rfl⟩) | (go_at_call 41; refine HF.out.mono ?_; rintro e w' ⟨rfl, rfl⟩) | fail)
  refine HFit.out.mono ?_
  rintro e w1 ⟨rfl, b1⟩
  clear HFit HM HF
  go_wp2_with fail
  refine (HC.out w1 b1).mono ?_
  rintro e w2 ⟨rfl, hD2, g2⟩
  clear HC
  have hb2 : Chg [B] w' w2 := (Below.chg0 b1 [B]).trans g2
  have HD2 := Lib.hid hD2
  have hB2 : Bs w2.heap.size w2 a l := (HBs.out.chgD (Nat.le_refl _) HD.out hb2).mono hb2.size
  have HB2 := Lib.hid hB2
  clear hD2 g2 b1 hB2 c0 c1 c2 c3 c4 c5 c6 c7 c8 c9 c10 c11 HBs
  have HZ := Lib.hid zero_wr
  have HSt := Lib.hid (store_wr w2 ⟨0, 0, noughts⟩ ⟨f, s, noughts⟩ (by simp [noughts]) (by simp [noughts]))
  have HCp := Lib.hid (fun ty => copy_wr w2 f s l HL.out w2.heap.size (Nat.le_refl _) a cap HB2.out ty)
  go_wp2_with (first | (guard_target =~ wpList _ _ _ (Oper.mk _ (Op.alloc _) _ _ _ _ :: _) _ _; refine wpList_val rfl (exec_alloc (e := 109) rfl HZ.out) ?_) | (guard_target =~ wpList _ _ _ (Oper.mk _ (Op.store _ _ _) _ _ _ _ :: _) _ _; refine wpList_skp rfl (exec_store (ty := 109) rfl rfl rfl HSt.out) ?_) | (guard_target =~ wpList _ _ _ (Oper.mk _ (Op.call _) _ _ _ _ :: _) _ _; refine wpList_val rfl (exec_copy rfl rfl rfl (HCp.out _)) ?_))
  try simp only [Act.put, List.setIfInBounds_toArray, List.set_cons_zero, List.set_cons_succ]
  obtain ⟨w3, hw3⟩ : ∃ W, w2.alloc (.cells (Wr.cells ⟨f, s, l⟩).toArray 109) = W := ⟨_, rfl⟩
  have h3 : Chg [] w2 w3 := by rw [← hw3]; exact (Chg.refl _ _).alloc _
  have hn3 : w2.heap.size < w3.heap.size := by rw [← hw3]; simp
  have hr3 : w3.rangeAt w2.heap.size 0 (Wr.cells ⟨f, s, l⟩) := by
    intro j v hv
    rw [← hw3, Nat.zero_add, World.cell?_alloc_new]
    simpa using hv
  have HD3 := Lib.hid (HD2.out.chg h3 (by simp))
  have hB2l : B < w2.heap.size := HD2.out.blk.lt
  rw [hw3]
  obtain ⟨nb, hnb⟩ : ∃ nb, w2.heap.size = nb := ⟨_, rfl⟩
  rw [hnb] at hr3 hn3 hB2l ⊢
  have e1 : ∀ W, Chg [] w3.drew W → (loadVar 109 ⟨nb, 0, none⟩).run Try.prog W = .ok (.agg (Wr.cells ⟨f, s, l⟩).toArray) W := fun W hW =>
    (wr_loads HX.out (rangeAt_chg (w := w3.drew) hr3 hn3 hW (by simp))).2.1
  have HP := Lib.hid (putv_any (HD3.out.chg ((Chg.refl [] w3).drew) (by simp)) ⟨f, s, l⟩ HX.out)
  have HE1 := Lib.hid e1
  clear e1 hw3 HSt HCp HB2 HZ
  go_wp2_with fail
  refine wp_region_ordX [] 4 [(0, true), (1, true), (2, true), (3, true)] (by kernel_rfl) (by kernel_rfl) (by kernel_rfl) (by kernel_rfl) ?_
  repeat (first | ((refine wpOX_F rfl (by rfl) (fun w' hL => exec_load rfl rfl (HE1.out w' hL)) ?_); try simp only [Act.put, List.setIfInBounds_toArray, List.set_cons_zero, List.set_cons_succ]) | (refine wpOX_F (v := ?_) rfl (by rfl) (fun w' hL => ?_) ?_; rotate_left; (solve | (go_simp; with_reducible rfl) | go_simp); try simp only [Act.put, List.setIfInBounds_toArray, List.set_cons_zero, List.set_cons_succ]) | (refine wpOX_G (Chg.refl _) rfl (by rfl) ?_; try simp only [Act.put, List.setIfInBounds_toArray, List.set_cons_zero, List.set_cons_succ]))
  refine wpOX_end rfl (by rfl) ?_
  go_simp
  refine HP.out.mono ?_
  rintro e w4 ⟨rfl, hD4, h4⟩
  simp only [NoPanic, Act.put]
  have hpl4 := hD4.lt
  have hMvl : Mv < nb := by rw [← hnb]; exact HD2.out.vis.lt
  have hpend : ∀ g, pv.ownBlock = some g → g < nb := fun g hg => by rw [← hnb]; exact own_lt HD2.out.pend hg
  have hr4 : w4.rangeAt nb 0 (Wr.cells ⟨f, s, l⟩) := rangeAt_chg (w := w3.drew) hr3 hn3 h4 (by simp; omega)
  have hn4 : nb < w4.heap.size := Nat.lt_of_lt_of_le hn3 h4.size
  have hnS : nb ∉ pv.ownBlock.toList := fun hm => by
    have := hpend nb (by simpa using hm)
    omega
  have hBS : B ∉ pv.ownBlock.toList := fun hm => own_ne hD4.pend hD4.blk (by decide) (by simpa using hm)
  have e1 : ∀ W, Chg pv.ownBlock.toList w4.drew W → (loadVar 109 ⟨nb, 0, none⟩).run Try.prog W = .ok (.agg (Wr.cells ⟨f, s, l⟩).toArray) W := fun W hW =>
    (wr_loads HX.out (rangeAt_chg (w := w4.drew) hr4 hn4 hW hnS)).2.1
  have HE1 := Lib.hid e1
  have e2 : ∀ W, Chg pv.ownBlock.toList w4.drew W → W.cell? ⟨B, 8, none⟩ = some pv := fun W hW => (hW.cell (b := B) hD4.blk.lt hBS).trans (hD4.blk.cell 8)
  have hD5 := (hD4.chg ((Chg.refl [] w4).drew) (by simp)).chg ((Chg.refl [] w4.drew).alloc (.cells (Wr.cells ⟨f, s, l⟩).toArray 109)) (by simp)
  have HD5 := Lib.hid hD5
  have HD4 := Lib.hid hD4
  have H04 : Hid (Chg [B, Mv] w' w4) := ((hb2.sub (by simp)).trans ((h3.sub (by simp)).trans (Chg.undrew h4)))
  clear e1 hD5 hD4 hr4 hpl4 hr3 HD3 HP h4
  go_wp2_with fail
  refine wp_region_ordX (pv.ownBlock.toList) 10 [(0, true), (1, true), (2, true), (3, true), (4, true), (5, true), (6, false), (7, false), (8, true), (9, true)] (by kernel_rfl) (by kernel_rfl) (by kernel_rfl) (by kernel_rfl) ?_
  repeat (first | ((refine wpOX_F rfl (by rfl) (fun w' hL => exec_load rfl rfl (HE1.out w' hL)) ?_); try simp only [Act.put, List.setIfInBounds_toArray, List.set_cons_zero, List.set_cons_succ]) | (refine wpOX_F (v := ?_) rfl (by rfl) (fun w' hL => ?_) ?_; rotate_left; (solve | (go_simp; with_reducible rfl) | go_simp); try simp only [Act.put, List.setIfInBounds_toArray, List.set_cons_zero, List.set_cons_succ]) | (refine wpOX_G (Chg.refl _) rfl (by rfl) ?_; try simp only [Act.put, List.setIfInBounds_toArray, List.set_cons_zero, List.set_cons_succ]))
  refine wpOX_C rfl (by rfl) ?_
  refine wp_val (exec_buildSlice1 (t := 71) (vx := .agg (Wr.cells ⟨f, s, l⟩).toArray) rfl rfl (bslice_wr ⟨f, s, l⟩ HL.out _)) ?_
  refine ⟨(Chg.refl _ _).alloc _, ?_⟩
  try simp only [Act.put, List.setIfInBounds_toArray, List.set_cons_zero, List.set_cons_succ]
  refine wpOX_C rfl (by rfl) ?_
  obtain ⟨i0, hi, hz0, hz1, hz2⟩ := info_parts info_wr
  refine wp_append_lies _ (.tmp 65) (.tmp 67) 71 rfl 0 109 i0 (.agg (Wr.cells ⟨0, 0, noughts⟩).toArray) 130 144 Try.underlying71 hi hz0 hz1 hz2 (by simp [Value.cells, Wr.cells_len, noughts]) (by omega) pv d'.pend.length (cellsW d'.pend) rfl HD5.out.pend ⟨w4.heap.size, 0, none⟩ 1 1 (Wr.cells ⟨f, s, l⟩) rfl (by rw [Wr.cells_len HL.out]) ?_ (Wr.cells_one _) (by omega) (by unfold maxLen; omega) (by omega) (Nat.zero_le _) _ rfl ?_
  · intro j u hj
    rw [Addr.add_mid, Nat.zero_add]
    show ((w4.drew).alloc _).cell? ⟨w4.drew.heap.size, j, none⟩ = _
    rw [World.cell?_alloc_new]
    simpa using hj
  intro g cap' w6 hown hgrow hlies hlt
  have hg6 : Chg pv.ownBlock.toList (w4.drew.alloc (.cells (Wr.cells ⟨f, s, l⟩).toArray 109)) w6 := ⟨hgrow.os, hgrow.tape, hgrow.output, hgrow.size, fun k hk hn => hgrow.block k hk (fun e => hn (by rw [← e]; simp))⟩
  refine ⟨hg6, ?_⟩
  try simp only [Act.put, List.setIfInBounds_toArray, List.set_cons_zero, List.set_cons_succ]
  have hb6 := HD5.out.blk.chg hg6 hBS
  have q8 : w6.cell? ⟨B, 8, none⟩ = some pv := hb6.cell 8
  have hf8 : w6.frozen? ⟨B, 8, none⟩ = false := hb6.frozen 8
  have HAPP := Lib.hid (pend_app (HD4.out.chg ((Chg.refl [] w4).drew) (by simp)) HX.out hwt' ((Chg.refl [] w4.drew).alloc (.cells (Wr.cells ⟨f, s, l⟩).toArray 109)) hown hgrow)
  have HLIES : Hid (pv.ownBlock = some g ∨ w'.heap.size ≤ g) := hlies.imp id (fun e => by
    have h1 := hb2.size
    have h2 := h3.size
    have h4 := H04.out.size
    rw [e]
    show w'.heap.size ≤ (w4.drew.heap.push _).size
    simp
    omega)
  clear hb6 hown hgrow hlies hg6 HD5 HE1 e2
  repeat (first | (refine wpOX_F (v := ?_) rfl (by rfl) (fun w' hL => ?_) ?_; rotate_left; (solve | (go_simp; with_reducible rfl) | go_simp); try simp only [Act.put, List.setIfInBounds_toArray, List.set_cons_zero, List.set_cons_succ]) | (refine wpOX_G (Chg.refl _) rfl (by rfl) ?_; try simp only [Act.put, List.setIfInBounds_toArray, List.set_cons_zero, List.set_cons_succ]))
  refine wpOX_end rfl (by rfl) ?_
  go_simp
  simp only [NoPanic]
  go_wp2
  go_ret
  refine ⟨rfl, _, HAPP.out.1, (H04.out.sub ?_).trans (Chg.undrew HAPP.out.2), ?_⟩
  · intro k hk
    simp [footD] at hk ⊢
    rcases hk with rfl | rfl <;> simp
  · rcases HLIES.out with h1 | h1
    · left; rw [h1]; rfl
    · right; intro k hk
      have : g = k := by simpa [Value.ownBlock] using hk
      omega
end Go.Proofs.Ythfgjkmfabmipaa
