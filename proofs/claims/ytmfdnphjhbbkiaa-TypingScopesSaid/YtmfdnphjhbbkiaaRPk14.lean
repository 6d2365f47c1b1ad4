/- Several texts of one proof, one behind the other. -/
import Derived.Test.YtmfdnphjhbbkiaaRPk13
import Derived.Great.BuildSlice
set_option linter.unusedSimpArgs false
set_option linter.unusedVariables false

/- An element of a row of the call's own that is stored into its place. -/
set_option linter.unusedSimpArgs false
set_option linter.unusedVariables false
set_option maxRecDepth 100000
namespace Go.Proofs.Ytmfdnphjhbbkiaa
open Go.RowKit

theorem run_storeVar_in {P : Program} (w : World) (g off : Nat) (T ty : TypeId) (cur : Array Value) (cells : Array Value) (hg : w.heap[g]? = some (.cells cur T (0, 0))) (hi : (P.info? ty).map (·.size) = some cells.size) (hfit : off + cells.size ≤ cur.size) (h1 : ∀ v ∈ cells.toList, v.oneCell' = true) :
    (storeVar ty ⟨g, off, none⟩ (.agg cells)).run P w = .ok () (w.setRow g (cur.toList.take off ++ cells.toList ++ cur.toList.drop (off + cells.size)).toArray) := by
  have h := run_storeCells_at (P := P) g off T cells.toList 0 cur w hg (by simpa using hfit) h1
  cases hq : P.info? ty with
  | none => simp [hq] at hi
  | some i =>
    simp [hq] at hi
    have e : (Value.agg cells).cells = cells := rfl
    simp [storeVar, sizeOf, typeInfo, hq, e, hi]
    simpa using h

/-- The row with its last element stored anew. -/
theorem own_put {P : Program} {w : World} {base : Nat} {e : TypeId} {z n : Nat} {v : Value} {l news : List Value} (h : w.ownsRow base e z v (n + 1) (l ++ news)) (hl : l.length = n * z) (hn : news.length = z) (cs : Array Value) (hc : cs.size = z) (hi : (P.info? e).map (·.size) = some z) (h1 : ∀ u ∈ cs.toList, u.oneCell' = true) :
    ∃ g cap R, v = .slice (some ⟨g, 0, none⟩) (n + 1) cap ∧ base ≤ g ∧ g < w.heap.size ∧ n + 1 ≤ cap ∧ cap ≤ 9223372036854775807 ∧
      (∀ W : World, W.heap[g]? = w.heap[g]? → (storeVar e ⟨g, n * z, none⟩ (.agg cs)).run P W = .ok () (W.setRow g R) ∧ (W.setRow g R).ownsRow base e z v (n + 1) (l ++ cs.toList)) ∧ ∀ j, j < z → ∃ u, w.cell? ⟨g, n * z + j, none⟩ = some u := by
  obtain ⟨h2, h3⟩ := h
  rcases h3 with ⟨_, h0⟩ | ⟨g, cap, cur, rfl, hg, hh, hnc, hcm, hcs, hcur⟩
  · omega
  · have hglt : g < w.heap.size := (Array.getElem?_eq_some_iff.1 hh).1
    have hfit : n * z + z ≤ cur.size := by rw [hcs]; have := Nat.mul_le_mul_right z hnc; rw [Nat.add_mul] at this; omega
    have hnz : (n + 1) * z = n * z + z := by rw [Nat.add_mul]; omega
    have hlt : cur.toList.take (n * z) = l := by
      have h5 := congrArg (List.take (n * z)) hcur
      rw [List.take_take, hnz, Nat.min_eq_left (by omega), ← hl, List.take_left] at h5
      rw [← hl]; exact h5
    refine ⟨g, cap, (cur.toList.take (n * z) ++ cs.toList ++ cur.toList.drop (n * z + cs.size)).toArray, rfl, hg, hglt, hnc, by unfold maxLen at hcm; omega, fun W hW => ?_, fun j hj => ?_⟩
    · have hWg : W.heap[g]? = some (.cells cur e (0, 0)) := hW.trans hh
      refine ⟨run_storeVar_in W g (n * z) e e cur cs hWg (by rw [hi, hc]) (by rw [hc]; exact hfit) h1, ?_, .inr ⟨g, cap, _, rfl, hg, setRow_heap W g cur _ e _ hWg, hnc, hcm, ?_, ?_⟩⟩
      · rw [List.length_append, hl, hnz]; simp [hc]
      · simp only [List.size_toArray, List.length_append, List.length_take, List.length_drop, Array.length_toList]
        omega
      · rw [hlt]
        have : (l ++ cs.toList).length = (n + 1) * z := by rw [List.length_append, hl, hnz]; simp [hc]
        rw [← this, List.toList_toArray]
        exact List.take_left
    · have hj2 : n * z + j < cur.size := by omega
      exact ⟨cur[n * z + j], by simp only [World.cell?, hh]; simp [hj2]⟩

/-- 'append(s, x..)' of m values that lie in a block: one operation; where the row lies behind it. -/
theorem wp_appG {P : Program} {o : Oper} {a : Act} {K : Act → World → Prop} {Q : Exit → Act → World → Prop} (s x : Operand) (t : TypeId)
    (ho : o.op = .call { callee := .builtin .append, args := #[s, x], argTypes := #[t, t] })
    (base : Nat) (e : TypeId) (i : TypeInfo) (zr : Value) (z bytes m : Nat) (ht : P.underlying t = some (.slice e)) (hi : P.info? e = some i) (hz : i.zero = some zr) (hzs : zr.cells.size = z)
    (hsize : i.size = z) (hz0 : 0 < z) (hby : i.bytes = bytes) (hb1000 : bytes ≤ 1000)
    (v : Value) (n : Nat) (l news : List Value) (w : World) (hown : w.ownsRow base e z v n l) (hs : a.eval s = v) (b c : Nat) (hn : ∀ (j : Nat) u, news[j]? = some u → w.cell? ⟨b, j, none⟩ = some u) (hl : news.length = m * z) (h1 : ∀ u ∈ news, u.oneCell' = true)
    (hx : a.eval x = .slice (some ⟨b, 0, none⟩) m c) (hlen : n + m < 100000000000) (hbase : base ≤ w.heap.size)
    (h : ∀ v' w', w'.ownsRow base e z v' (n + m) (l ++ news) → Chg v.ownBlock.toList w w' → (v'.ownBlock = v.ownBlock ∨ ∀ g, v'.ownBlock = some g → w.heap.size ≤ g) → K (a.put o.dst v') w') :
    o.wp P a w K Q := by
  have hnews : ∀ j u, news[j]? = some u → w.cell? ((⟨b, 0, none⟩ : Addr).add j) = some u := by
    intro j u hj
    have e0 : (⟨b, 0, none⟩ : Addr).add j = ⟨b, j, none⟩ := by
      unfold Addr.add; split <;> simp_all
    rw [e0]; exact hn j u hj
  have h63 : n + m ≤ maxLen := by unfold maxLen; omega
  have hbs : (n + m) * bytes ≤ 140737488355328 := by
    have : (n + m) * bytes ≤ 100000000000 * 1000 := Nat.mul_le_mul (by omega) hb1000
    omega
  obtain ⟨v', w', hrun, h2, h3, _⟩ := run_append_own (P := P) w base t o.type e i zr z bytes ht hi hz hsize hby hzs hz0 v n l hown ⟨b, 0, none⟩ m c news hl hnews h1 h63 hbs hbase
  have hfr := append_fresh (P := P) w base t o.type e i zr z bytes ht hi hz hsize hby hzs hz0 v n l hown ⟨b, 0, none⟩ m c news hl hnews h1 h63 hbs v' w' hrun
  unfold Oper.wp execOp
  simp only [ho, resolve, invoke, builtin, Sem.run_bind, Sem.run_pure, Result.andThen_ok, List.map_toArray, List.map_cons, List.map_nil, hs, hx, hrun]
  exact h v' w' h2 ⟨h3.os, h3.tape, h3.output, h3.size, fun k hk hn => h3.block k hk (by intro he; apply hn; rw [Option.mem_toList]; exact he.symm)⟩ hfr

theorem KidsIn.add2 {lo : Nat} {W w6 : World} {T : TypeId} {n : Nat} {cv v6 : Value} {L : List XM} {y : XM} (h : KidsIn lo W T n cv L) (hs : W.heap.size ≤ w6.heap.size) (hlo : lo ≤ W.heap.size)
    (hk : ∀ b, lo ≤ b → b < W.heap.size → cv.ownBlock ≠ some b → w6.heap[b]? = W.heap[b]?)
    (hy : XIn (fun b => W.heap.size ≤ b ∧ b < w6.heap.size ∧ v6.ownBlock ≠ some b) w6 n y) (hr : w6.ownsRow lo T 8 v6 (L.length + 1) (cellsOf cellsX L ++ cellsX y)) (hf : v6.ownBlock = cv.ownBlock ∨ ∀ g, v6.ownBlock = some g → W.heap.size ≤ g) :
    KidsIn lo w6 T n v6 (L ++ [y]) := by
  refine ⟨by rw [List.length_append]; exact (cellsOf_snoc cellsX L y).symm ▸ hr, fun z hz => ?_⟩
  rcases List.mem_append.1 hz with hz | hz
  · have hz2 := h.kid z hz
    refine (hz2.keep (w' := w6) (fun b hb => hk b hb.1 hb.2.1 hb.2.2)).imp fun b hb => ⟨hb.1, by omega, ?_⟩
    rcases hf with hf | hf
    · rw [hf]; exact hb.2.2
    · intro hg; have := hf b hg; omega
  · rw [List.mem_singleton.1 hz]
    exact hy.imp fun b hb => ⟨by omega, hb.2.1, hb.2.2⟩
end Go.Proofs.Ytmfdnphjhbbkiaa

/- The walk of clone. -/
set_option linter.unusedSimpArgs false
set_option linter.unusedVariables false
set_option maxRecDepth 100000
namespace Go.Proofs.Ytmfdnphjhbbkiaa
open Go.RowKit

abbrev zeroXc : Array Value := #[.int .i64 0, .int .u8 0, .int .i64 0, .string ⟨#[]⟩, .string ⟨#[]⟩, .string ⟨#[]⟩, .string ⟨#[]⟩, .slice none 0 0]
/-- The cells of an expression, with another slice of arguments. -/
abbrev Lb.csX (l : Lb) (v : Value) : Array Value := #[.int .i64 l.kd, .int .u8 l.v.k, .int .i64 l.v.n, .string l.v.s, .string l.tb, .string l.nm, .string l.op, v]

/-- 'clone' is at work. -/
structure CloneIn (w W : World) (T : TypeId) (l : Lb) (sv : Value) (n : Nat) (cv : Value) (L : List XM) : Prop where
  box : Blk W w.heap.size T (l.csX sv)
  res : Blk W (w.heap.size + 1) T zeroXc
  bel : Below w.heap.size w W
  lo : w.heap.size + 2 ≤ W.heap.size
  kids : KidsIn (w.heap.size + 2) W T n cv L
theorem CloneIn.new (w : World) (T : TypeId) (l : Lb) (sv : Value) (n : Nat) : CloneIn w ((w.alloc (.cells (l.csX sv) T)).alloc (.cells zeroXc T)) T l sv n (.slice none 0 0) [] := by
  refine ⟨(Blk.new w T (l.csX sv)).alloc _, ?_, ((Below.refl _ w).alloc (Nat.le_refl _) _).alloc (by simp) _, by simp, KidsIn.nil _ _ _ _⟩
  have := Blk.new (w.alloc (.cells (l.csX sv) T)) T zeroXc
  rw [show (w.alloc (.cells (l.csX sv) T)).heap.size = w.heap.size + 1 by simp] at this
  exact this

theorem CloneIn.add {w W w2 w5 : World} {T : TypeId} {l : Lb} {sv : Value} {n : Nat} {cv v5 : Value} {L : List XM} {y : XM} (h : CloneIn w W T l sv n cv L) (hb : Below W.heap.size W w2)
    (hy : XIn (fun b => W.heap.size ≤ b ∧ b < w2.heap.size) w2 n y) (hr : w5.ownsRow (w.heap.size + 2) T 8 v5 (L.length + 1) (cellsOf cellsX L ++ cellsX y)) {o : Obj} (hc : Chg cv.ownBlock.toList (w2.alloc o) w5) (hf : v5.ownBlock = cv.ownBlock ∨ ∀ g, v5.ownBlock = some g → w2.heap.size < g) :
    CloneIn w w5 T l sv n v5 (L ++ [y]) := by
  have hsz := hc.size
  simp at hsz
  have h0 := hb.size
  have hlo := h.lo
  have hgt : ∀ g, cv.ownBlock = some g → w.heap.size + 2 ≤ g := fun g hg => (h.kids.row.lt g hg).1
  have hold : Below (w.heap.size + 2) W w5 := (hb.mono hlo).trans (((Below.refl (w.heap.size + 2) w2).alloc (by omega) o).trans (hc.below (by simp; omega) (fun g hg => hgt g (by simpa using hg))))
  exact ⟨(hold.block _ (by omega)).trans h.box, (hold.block _ (by omega)).trans h.res, h.bel.trans (hold.mono (by omega)), by omega, h.kids.add h0 (fun b _ hb2 => hb.block b hb2) hlo hy hr hc hf⟩

set_option maxHeartbeats 4000000 in
theorem clone_is : ∀ (n : Nat) (x : XM) (w : World), XAt w.heap.size w n x → x.t.args.length ≤ 1000000 → x.t.allB (fun _ k => decide (k ≤ 1000000)) = true →
    Calls Try.prog 31 #[x.v] w (RetX w n x.t)
  | 0, _, _, h, _, _ => h.elim
  | n + 1, ⟨t, a, cap⟩, w, h, _, hall => by
    rw [XM.v_eq]
    obtain ⟨i0, hi, hz0, hz1, hz2⟩ := info_parts info_ex
    have HA := Lib.hid h
    have hF := h.fair.1
    rw [Rose.allB_eq, Bool.and_eq_true, List.all_eq_true] at hall
    have hm6 := hall.1
    simp only at hm6 hF ⊢
    have HAll := Lib.hid hall.2
    have HFa := Lib.hid hF
    obtain ⟨m, hm⟩ : ∃ m, t.args.length = m := ⟨_, rfl⟩
    have HM := Lib.hid hm
    rw [hm] at hm6 ⊢
    have hm6 : m ≤ 1000000 := by simpa using hm6
    have IH : Hid (∀ (y : XM) (W : World), XAt W.heap.size W n y → y.t ∈ t.args → Calls Try.prog 31 #[.agg #[.int .i64 y.t.lab.kd, .int .u8 y.t.lab.v.k, .int .i64 y.t.lab.v.n, .string y.t.lab.v.s, .string y.t.lab.tb, .string y.t.lab.nm, .string y.t.lab.op, .slice y.a y.t.args.length y.cap]] W (RetX W n y.t)) := fun y W hy hmem => by
      have hya := HAll.out y.t hmem
      have hyl : y.t.args.length ≤ 1000000 := by rw [Rose.allB_eq, Bool.and_eq_true] at hya; simpa using hya.1
      have := clone_is n y W hy hyl hya
      rw [XM.v_eq] at this; exact this
    have HC0 := Lib.hid (CloneIn.new w 54 t.lab (.slice a m cap) n)
    obtain ⟨w0, hw0⟩ : ∃ w0, (w.alloc (.cells (t.lab.csX (.slice a m cap)) 54)).alloc (.cells zeroXc 54) = w0 := ⟨_, rfl⟩
    rw [hw0] at HC0
    have x7 : w0.cell? ⟨w.heap.size, 7, none⟩ = some (.slice a m cap) := (HC0.out.box.cell 7).trans rfl
    clear h hm hF hall
    go_enter Try.func31, Try.ntmps31
    go_wp2
    clear x7
    go_loopw [3, 9] (fun v i wr => ∃ (k : Nat) (cv : Value) (L : List XM), cv = v ∧ k ≤ m ∧ i = .int .i64 (k : Int) ∧ Hid (L.map (·.t) = t.args.take k) ∧ Hid (CloneIn w wr 54 t.lab (.slice a m cap) n cv L)) (fun _ i _ => m - (intOf i).toNat)
    case atStart => exact ⟨0, _, [], rfl, by omega, rfl, rfl, HC0.out⟩
    case round =>
      clear HC0
      obtain ⟨k, cv, L, rfl, hk, rfl, HLt, HC⟩ := hrel
      have HBs : Hid (w.heap.size + 2 ≤ wr.heap.size) := HC.out.lo
      by_cases hlt : k < m
      · have hkl : k < t.args.length := by rw [HM.out]; exact hlt
        obtain ⟨y, hy, hAy, b, o, hab, hbN, hKid⟩ := (HA.out.later HC.out.bel).kid8 (k := k) hkl
        simp only at hab hy
        subst hab
        obtain ⟨y0, y1, y2, y3, y4, y5, y6, y7⟩ := hKid
        have hLk : L.length = k := by have := congrArg List.length HLt.out; rw [List.length_map, List.length_take] at this; omega
        have HLk := Lib.hid hLk
        have hmem : y.t ∈ t.args := by rw [hy]; exact List.getElem_mem hkl
        have HY := Lib.hid (IH.out y (wr.alloc (.cells #[.int .i64 y.t.lab.kd, .int .u8 y.t.lab.v.k, .int .i64 y.t.lab.v.n, .string y.t.lab.v.s, .string y.t.lab.tb, .string y.t.lab.nm, .string y.t.lab.op, .slice y.a y.t.args.length y.cap] 54)) (hAy.later ((Below.refl _ wr).alloc (Nat.le_refl _) _)) hmem)
        have HTk : Hid (t.args.take (k + 1) = t.args.take k ++ [y.t]) := by
          rw [List.take_succ_eq_append_getElem hkl, ← hy]; rfl
        clear hy hAy hkl hmem HA IH HAll hLk
        go_wp2_with fail
        refine HY.out.mono ?_
        rintro e w2 ⟨z, rfl, hzt, hzI, hb2⟩
        have HB1 : Hid (Below wr.heap.size wr w2) := ((Below.refl _ wr).alloc (Nat.le_refl _) _).trans (hb2.mono (by simp))
        have HzI : Hid (XIn (fun b => wr.heap.size ≤ b ∧ b < w2.heap.size) w2 n z) := hzI.imp fun b hb => ⟨by have := hb.1; simp at this; omega, hb.2⟩
        have HZt := Lib.hid hzt
        have hrow2 : w2.ownsRow (w.heap.size + 2) 54 8 cv k (cellsOf cellsX L) := by
          have := own_below HC.out.kids.row (Nat.le_refl _) HB1.out
          rw [HLk.out] at this; exact this
        have HR2 := Lib.hid hrow2
        have HBs2 : Hid (w.heap.size + 2 ≤ w2.heap.size) := Nat.le_trans HBs.out HB1.out.size
        clear hb2 HY y0 y1 y2 y3 y4 y5 y6 y7 hzI hzt hrow2
        go_wp2_with (first | (at_builtin; refine wpList_appF rfl _ _ 52 rfl (w.heap.size + 2) 54 i0 (.agg #[.int .i64 0, .int .u8 0, .int .i64 0, .string ⟨#[]⟩, .string ⟨#[]⟩, .string ⟨#[]⟩, .string ⟨#[]⟩, .slice none 0 0]) 8 112 1 Try.underlying52 hi hz0 rfl hz1 (by omega) hz2 (by omega) cv k _ (cellsX z) w2 HR2.out rfl _ rfl rfl (by intro u hu; simp [cellsX, cellsR, Lb.cells] at hu; rcases hu with rfl | rfl | rfl | rfl | rfl | rfl | rfl | rfl <;> rfl) rfl (by omega) HBs2.out ?_; intro v5 w5 hown5 hc5 hsz5 hf5; have HO5 := Lib.hid hown5; have HC5 := Lib.hid hc5; have HF5 := Lib.hid hf5; clear hown5 hc5 hsz5 hf5))
        have HN : Hid (CloneIn w w5 54 t.lab (.slice (some ⟨b, o, none⟩) m cap) n v5 (L ++ [z])) := HC.out.add HB1.out HzI.out (by rw [HLk.out]; exact HO5.out) HC5.out HF5.out
        go_roundw
        case rel => exact ⟨k + 1, v5, L ++ [z], rfl, by omega, by go_num, by rw [HTk.out, List.map_append, HLt.out, ← HZt.out]; rfl, HN.out⟩
        case measure => simp [intOf]; omega
      · have hke : k = m := by omega
        have hLt := HLt.out
        rw [hke, ← HM.out, List.take_length] at hLt
        have HLt2 := Lib.hid hLt
        have hLm : L.length = m := by have := congrArg List.length hLt; rw [List.length_map] at this; rw [this]; exact HM.out
        obtain ⟨ac, cc, hcv, hX⟩ := HC.out.kids.tree t.lab HFa.out
        rw [hLm] at hcv
        rw [hLt] at hX
        subst hcv
        have hbox := HC.out.box
        have hBlk1 : Blk (wr.setCell ⟨w.heap.size, 7, none⟩ (.slice ac m cc)) w.heap.size 54 (t.lab.csX (.slice ac m cc)) := hbox.set_ 7 _
        have hres1 : Blk (wr.setCell ⟨w.heap.size, 7, none⟩ (.slice ac m cc)) (w.heap.size + 1) 54 zeroXc := HC.out.res.far (by omega) _
        have hc1 : Chg [w.heap.size] wr (wr.setCell ⟨w.heap.size, 7, none⟩ (.slice ac m cc)) := (Chg.refl _ _).setCell (.inl (by simp)) _
        have pc := (hbox.cell 7).trans rfl
        have pf := hbox.frozen 7
        have pl := hbox.lt
        obtain ⟨W1, hW1⟩ : ∃ W1, wr.setCell ⟨w.heap.size, 7, none⟩ (.slice ac m cc) = W1 := ⟨_, rfl⟩
        rw [hW1] at hBlk1 hres1 hc1
        have z0 := (hBlk1.cell 0).trans rfl
        have z1 := (hBlk1.cell 1).trans rfl
        have z2 := (hBlk1.cell 2).trans rfl
        have z3 := (hBlk1.cell 3).trans rfl
        have z4 := (hBlk1.cell 4).trans rfl
        have z5 := (hBlk1.cell 5).trans rfl
        have z6 := (hBlk1.cell 6).trans rfl
        have z7 := (hBlk1.cell 7).trans rfl
        have HS : Hid ((storeVar 54 ⟨w.heap.size + 1, 0, none⟩ (.agg (t.lab.csX (.slice ac m cc)))).run Try.prog W1 = .ok () (W1.setRow (w.heap.size + 1) (t.lab.csX (.slice ac m cc)))) :=
          run_storeVar_row _ _ _ 54 _ _ hres1 (by rw [info_exS]; rfl) rfl (by simp [Value.oneCell'])
        have HL : Hid ((loadVar 54 ⟨w.heap.size + 1, 0, none⟩).run Try.prog (W1.setRow (w.heap.size + 1) (t.lab.csX (.slice ac m cc))) = .ok (.agg (t.lab.csX (.slice ac m cc))) (W1.setRow (w.heap.size + 1) (t.lab.csX (.slice ac m cc)))) :=
          run_loadVar_row _ _ _ 54 _ (0, 0) _ (Blk.setRow (new := t.lab.csX (.slice ac m cc)) hres1) Try.underlying54 rfl (by rw [info_exS]; rfl)
        have hcR : Chg [w.heap.size, w.heap.size + 1] wr (W1.setRow (w.heap.size + 1) (t.lab.csX (.slice ac m cc))) := (hc1.sub (by simp)).setRow (.inl (by simp)) _
        have HF : Hid (Below w.heap.size w (W1.setRow (w.heap.size + 1) (t.lab.csX (.slice ac m cc)))) := HC.out.bel.trans (hcR.below HC.out.bel.size (by simp))
        have HX : Hid (XIn (fun b => w.heap.size ≤ b ∧ b < (W1.setRow (w.heap.size + 1) (t.lab.csX (.slice ac m cc))).heap.size) (W1.setRow (w.heap.size + 1) (t.lab.csX (.slice ac m cc))) (n + 1) ⟨.mk t.lab t.args, ac, cc⟩) :=
          (XIn.keep (fun b hb => hcR.block b hb.2 (by simp; omega)) hX).imp fun b hb => ⟨by omega, by have := hcR.size; omega⟩
        clear hbox hBlk1 hres1 hc1 hcR hX HC HLt HLt2 hLt hLm HA IH HAll HFa
        have hmk : (Rose.mk t.lab t.args).args.length = m := HM.out
        go_wp2_with (first | (guard_target =~ wpList _ _ _ (Oper.mk _ (Op.store 54 _ _) _ _ _ _ :: _) _ _; refine wpList_skp rfl (exec_store rfl rfl rfl HS.out) ?_))
        refine bodyPost_ret (v := .agg (t.lab.csX (.slice ac m cc))) (results_cell1x Try.results31 _ _ rfl HL.out) rfl ⟨⟨.mk t.lab t.args, ac, cc⟩, ?_, t.eta, HX.out, HF.out⟩
        rw [hmk]; rfl
end Go.Proofs.Ytmfdnphjhbbkiaa

/- The walks of the closures of Columns and Aggregates: what is picked. -/
set_option linter.unusedSimpArgs false
set_option linter.unusedVariables false
set_option maxRecDepth 100000
namespace Go.Proofs.Ytmfdnphjhbbkiaa
open Go.RowKit

/-- Picking is under way: the variable in block G holds the row. -/
structure PickIn (G : Nat) (W : World) (n : Nat) (cv : Value) (L : List XM) : Prop where
  var : Blk W G 52 #[cv]
  kids : KidsIn (G + 1) W 54 n cv L
theorem PickIn.lt {G : Nat} {W : World} {n : Nat} {cv : Value} {L : List XM} (h : PickIn G W n cv L) : G < W.heap.size := h.var.lt
theorem PickIn.keep {G : Nat} {W W' : World} {n : Nat} {cv : Value} {L : List XM} (h : PickIn G W n cv L) (hb : Below W.heap.size W W') : PickIn G W' n cv L :=
  ⟨(hb.block G h.lt).trans h.var, h.kids.keep hb.size (fun b _ hb2 => hb.block b hb2)⟩

theorem below_chg {w w' : World} {S : List Nat} (h : Below w.heap.size w w') : Chg S w w' := ⟨h.os, h.tape, h.output, h.size, fun k hk _ => h.block k hk⟩
/-- What picking comes to. -/
structure Picked (G : Nat) (W : World) (n : Nat) (cv : Value) (L : List XM) (p : List Ex) (W' : World) (cv' : Value) (L' : List XM) : Prop where
  pick : PickIn G W' n cv' L'
  list : L'.map (·.t) = L.map (·.t) ++ p
  chg : Chg (G :: cv.ownBlock.toList) W W'
  own : cv'.ownBlock = cv.ownBlock ∨ ∀ g, cv'.ownBlock = some g → W.heap.size ≤ g
def RetDo (G : Nat) (W : World) (n : Nat) (cv : Value) (L : List XM) (p : List Ex) (v : Value) (e : Ending) (W' : World) : Prop :=
  e = .returned v ∧ ∃ cv' L', Picked G W n cv L p W' cv' L'

theorem Picked.none {G : Nat} {W W' : World} {n : Nat} {cv : Value} {L : List XM} (h : PickIn G W n cv L) (hb : Below W.heap.size W W') : Picked G W n cv L [] W' cv L :=
  ⟨h.keep hb, by simp, below_chg hb, .inl rfl⟩
theorem Picked.trans {G : Nat} {W W1 W2 : World} {n : Nat} {cv cv1 cv2 : Value} {L L1 L2 : List XM} {p q : List Ex} (h : Picked G W n cv L p W1 cv1 L1) (k : Picked G W1 n cv1 L1 q W2 cv2 L2) : Picked G W n cv L (p ++ q) W2 cv2 L2 := by
  refine ⟨k.pick, by rw [k.list, h.list, List.append_assoc], h.chg.trans' ?_ k.chg, ?_⟩
  · intro b hb
    rcases List.mem_cons.1 hb with rfl | hb
    · exact .inl (by simp)
    · rw [Option.mem_toList] at hb
      rcases h.own with ho | ho
      · rw [ho] at hb; exact .inl (by simp [hb])
      · exact .inr (ho b hb)
  · have hs := h.chg.size
    rcases k.own with ko | ko
    · rw [ko]; exact h.own
    · exact .inr fun g hg => by have := ko g hg; omega

theorem pick_end {G : Nat} {W w5 W6 : World} {n m2 g : Nat} {cv v5 : Value} {L : List XM} {y : XM} (hP : PickIn G W n cv L) (hc5 : Chg cv.ownBlock.toList W w5) (hf5 : v5.ownBlock = cv.ownBlock ∨ ∀ q, v5.ownBlock = some q → m2 ≤ q) (hm2 : W.heap.size ≤ m2) (hm5 : m2 ≤ w5.heap.size)
    (hy : XIn (fun b => W.heap.size ≤ b ∧ b < m2) w5 n y) (hvg : v5.ownBlock = some g) (hc6 : Chg [G, g] w5 W6) (hvar : Blk W6 G 52 #[v5]) (hr : W6.ownsRow (G + 1) 54 8 v5 (L.length + 1) (cellsOf cellsX L ++ cellsX y)) :
    Picked G W n cv L [y.t] W6 v5 (L ++ [y]) := by
  have hG := hP.lt
  have hs6 := hc6.size
  have hs5 := hc5.size
  have hcvlt : ∀ q, cv.ownBlock = some q → q < W.heap.size := fun q hq => own_lt hP.kids.row hq
  have hgb : ∀ b, W.heap.size ≤ b → b < m2 → b ≠ g := fun b h1 h2 hbg => by
    subst hbg
    rcases hf5 with hf | hf
    · rw [hf] at hvg; have := hcvlt b hvg; omega
    · have := hf b hvg; omega
  have hg2 : cv.ownBlock = some g ∨ W.heap.size ≤ g := by
    rcases hf5 with hf | hf
    · exact .inl (by rw [← hf]; exact hvg)
    · exact .inr (by have := hf g hvg; omega)
  refine ⟨⟨hvar, hP.kids.add2 (by omega) (by omega) ?_ ?_ hr ?_⟩, by simp, hc5.sub (fun k hk => List.mem_cons_of_mem _ hk) |>.trans' ?_ hc6, ?_⟩
  · intro b h1 h2 h3
    refine (hc6.block b (by omega) ?_).trans (hc5.block b h2 (by rw [Option.mem_toList]; exact h3))
    intro hm
    rcases List.mem_cons.1 hm with hm | hm
    · omega
    · rw [List.mem_singleton.1 hm] at h2 h3
      rcases hg2 with hg2 | hg2
      · exact h3 hg2
      · omega
  · refine (hy.keep (w' := W6) (fun b hb => hc6.block b (by omega) ?_)).imp fun b hb => ⟨hb.1, by omega, ?_⟩
    · intro hm
      rcases List.mem_cons.1 hm with hm | hm
      · omega
      · exact hgb b hb.1 hb.2 (List.mem_singleton.1 hm)
    · rw [hvg]; intro he; exact hgb b hb.1 hb.2 (Option.some.inj he).symm
  · rcases hf5 with hf | hf
    · exact .inl hf
    · exact .inr fun q hq => by have := hf q hq; omega
  · intro b hb
    rcases List.mem_cons.1 hb with rfl | hb
    · exact .inl (by simp)
    · rw [List.mem_singleton.1 hb]
      rcases hg2 with hg2 | hg2
      · exact .inl (by simp [hg2])
      · exact .inr hg2
  · rcases hf5 with hf | hf
    · exact .inl hf
    · exact .inr fun q hq => by have := hf q hq; omega

def pickL (kd : Int) (e : Ex) : List Ex := if e.lab.kd = kd then [e] else []
theorem one_X (z : XM) : ∀ u ∈ cellsX z, u.oneCell' = true := by
  intro u hu; simp [cellsX, cellsR, Lb.cells] at hu; rcases hu with rfl | rfl | rfl | rfl | rfl | rfl | rfl | rfl <;> rfl
abbrev zero8 : List Value := [.int .i64 0, .int .u8 0, .int .i64 0, .string ⟨#[]⟩, .string ⟨#[]⟩, .string ⟨#[]⟩, .string ⟨#[]⟩, .slice none 0 0]
theorem one_Z : ∀ u ∈ zero8, u.oneCell' = true := by
  intro u hu; simp at hu; rcases hu with rfl | rfl | rfl | rfl | rfl | rfl <;> rfl
theorem info_sl : (Try.prog.info? 52).map (·.size) = some 1 := by kernel_rfl

/-- Both orders of the two stores at the end. -/
theorem pick_both {G : Nat} {W wa w5 : World} {n m2 k : Nat} {cv v5 : Value} {ac : Option Addr} {cc : Nat} {S : List Nat} {L : List XM} {y : XM} (hP : PickIn G W n cv L) (hcv : cv = .slice ac k cc) (hS : cv.ownBlock.toList = S) (hLk : L.length = k) (hWa : Below W.heap.size W wa) (hy : XIn (fun b => W.heap.size ≤ b ∧ b < m2) wa n y) (hm1 : W.heap.size ≤ m2) (hm2 : m2 ≤ wa.heap.size)
    (hown5 : w5.ownsRow (G + 1) 54 8 v5 (k + 1) (cellsOf cellsX L ++ zero8)) (hc5 : Chg S wa w5) (hf5 : v5.ownBlock = (Value.slice ac k cc).ownBlock ∨ ∀ g, v5.ownBlock = some g → wa.heap.size ≤ g) :
    ∃ g cap R, v5 = .slice (some ⟨g, 0, none⟩) (k + 1) cap ∧ G < g ∧ k + 1 ≤ cap ∧
      (∀ V : World, V.heap[g]? = w5.heap[g]? → (storeVar 54 ⟨g, k * 8, none⟩ (.agg #[.int .i64 y.t.lab.kd, .int .u8 y.t.lab.v.k, .int .i64 y.t.lab.v.n, .string y.t.lab.v.s, .string y.t.lab.tb, .string y.t.lab.nm, .string y.t.lab.op, .slice y.a y.t.args.length y.cap])).run Try.prog V = .ok () (V.setRow g R)) ∧
      (∀ V : World, V.heap[G]? = w5.heap[G]? → (storeVar 52 ⟨G, 0, none⟩ v5).run Try.prog V = .ok () (V.setRow G #[v5])) ∧
      Picked G W n cv L [y.t] ((w5.setRow g R).setRow G #[v5]) v5 (L ++ [y]) ∧ Picked G W n cv L [y.t] ((w5.setRow G #[v5]).setRow g R) v5 (L ++ [y]) ∧
      (∀ B, W.heap.size ≤ B → B < m2 → ((w5.setRow g R).setRow G #[v5]).heap[B]? = wa.heap[B]? ∧ ((w5.setRow G #[v5]).setRow g R).heap[B]? = wa.heap[B]?) := by
  subst hS
  have hG := hP.lt
  have hll : (cellsOf cellsX L).length = k * 8 := by rw [cellsOf_len cellsX 8 cellsX_len, hLk]
  obtain ⟨g, cap, R, rfl, hg1, hg2, hcap, hcm, hput, -⟩ := own_put (P := Try.prog) hown5 hll rfl (cellsX y).toArray rfl info_exS (by simpa using one_X y)
  have hGS : G ∉ cv.ownBlock.toList := fun hm => by rw [Option.mem_toList] at hm; have := (hP.kids.row.lt G hm).1; omega
  have hvar5 : Blk w5 G 52 #[cv] := (hc5.block G (by have := hWa.size; omega) hGS).trans ((hP.keep hWa).var)
  have hcW : Chg cv.ownBlock.toList W w5 := (below_chg hWa).trans hc5
  have hf : (Value.slice (some ⟨g, 0, none⟩) (k + 1) cap).ownBlock = cv.ownBlock ∨ ∀ q, (Value.slice (some ⟨g, 0, none⟩) (k + 1) cap).ownBlock = some q → m2 ≤ q := by
    rw [hcv]
    rcases hf5 with h | h
    · exact .inl h
    · exact .inr fun q hq => by have := h q hq; omega
  have hy5 : XIn (fun b => W.heap.size ≤ b ∧ b < m2) w5 n y := hy.keep fun b hb => hc5.block b (by omega) (fun hm => by rw [Option.mem_toList] at hm; have := own_lt hP.kids.row hm; omega)
  have hs5 := hc5.size
  have hr : ∀ V : World, V.heap[g]? = w5.heap[g]? → (V.setRow g R).ownsRow (G + 1) 54 8 (.slice (some ⟨g, 0, none⟩) (k + 1) cap) (L.length + 1) (cellsOf cellsX L ++ cellsX y) := fun V hV => by
    have := (hput V hV).2
    rw [hLk]; simpa using this
  have hvb : ∀ V : World, V.heap[G]? = w5.heap[G]? → V.heap[G]? = some (.cells #[cv] 52 (0, 0)) := fun V hV => hV.trans hvar5
  refine ⟨g, cap, R, rfl, by omega, hcap, fun V hV => (hput V hV).1, fun V hV => run_storeVar_one V G _ _ cv _ (hvb V hV) info_sl rfl, ?_, ?_, ?_⟩
  · refine pick_end hP hcW hf hm1 (by omega) hy5 rfl (((Chg.refl _ _).setRow (.inl (by simp)) _).setRow (.inl (by simp)) _) (Blk.setRow (old := #[cv]) (hvb _ (setRow_other w5 g G _ (by omega)))) ?_
    exact own_keep (hr w5 rfl) fun q hq => by
      have : q = g := by simpa [Value.ownBlock] using hq.symm
      subst this
      exact setRow_other _ G q _ (by omega)
  · refine pick_end hP hcW hf hm1 (by omega) hy5 rfl (((Chg.refl _ _).setRow (.inl (by simp)) _).setRow (.inl (by simp)) _) ?_ (hr _ (setRow_other w5 G g _ (by omega)))
    exact (setRow_other _ g G _ (by omega)).trans (Blk.setRow (old := #[cv]) (hvb w5 rfl))
  · intro B h1 h2
    have hBg : B ≠ g := by
      intro e; subst e
      rcases hf with h | h
      · have h3 : B < W.heap.size := own_lt hP.kids.row (h.symm.trans rfl)
        omega
      · have := h B rfl; omega
    have hB5 : w5.heap[B]? = wa.heap[B]? := hc5.block B (by omega) (fun hm => by rw [Option.mem_toList] at hm; have := own_lt hP.kids.row hm; omega)
    exact ⟨(setRow_other _ G B _ (by omega)).trans ((setRow_other _ g B _ hBg).trans hB5), (setRow_other _ g B _ hBg).trans ((setRow_other _ G B _ (by omega)).trans hB5)⟩


set_option maxHeartbeats 8000000 in
theorem aggsDo_any (G n : Nat) (x : XM) (W : World) (cv : Value) (L : List XM) (hP : PickIn G W n cv L) (h : XAt W.heap.size W n x) (hall : x.t.allB (fun _ k => decide (k ≤ 1000000)) = true) (hL : L.length ≤ 1000000) :
    Calls Try.prog 30 #[.agg #[.int .i64 x.t.lab.kd, .int .u8 x.t.lab.v.k, .int .i64 x.t.lab.v.n, .string x.t.lab.v.s, .string x.t.lab.tb, .string x.t.lab.nm, .string x.t.lab.op, .slice x.a x.t.args.length x.cap], .pointer (some ⟨G, 0, none⟩)] W (RetDo G W n cv L (pickL 6 x.t) (.bool (x.t.lab.kd != 6))) := by
  have hmx : x.t.args.length ≤ 1000000 := by rw [Rose.allB_eq, Bool.and_eq_true] at hall; simpa using hall.1
  have HCl := Lib.hid (fun V (hb : Below W.heap.size W V) => clone_is n x V (h.later hb) hmx hall)
  rw [XM.v_eq] at HCl
  have HP := Lib.hid hP
  have HX := Lib.hid (Slot8.new W 54 (.int .i64 x.t.lab.kd) (.int .u8 x.t.lab.v.k) (.int .i64 x.t.lab.v.n) (.string x.t.lab.v.s) (.string x.t.lab.tb) (.string x.t.lab.nm) (.string x.t.lab.op) (.slice x.a x.t.args.length x.cap))
  obtain ⟨w0, hw0⟩ : ∃ w0, W.alloc (.cells #[.int .i64 x.t.lab.kd, .int .u8 x.t.lab.v.k, .int .i64 x.t.lab.v.n, .string x.t.lab.v.s, .string x.t.lab.tb, .string x.t.lab.nm, .string x.t.lab.op, .slice x.a x.t.args.length x.cap] 54) = w0 := ⟨_, rfl⟩
  have HB0 : Hid (Below W.heap.size W w0) := by rw [← hw0]; exact (Below.refl _ W).alloc (Nat.le_refl _) _
  have hs0 : w0.heap.size = W.heap.size + 1 := by rw [← hw0]; simp
  rw [hw0] at HX
  by_cases hk : x.t.lab.kd = 6
  · have hkd : decide (x.t.lab.kd = 6) = true := by simpa using hk
    have hpk : pickL 6 x.t = [x.t] := if_pos hk
    rw [hpk]
    have HK := Lib.hid hk
    obtain ⟨i0, hi, hz0, hz1, hz2⟩ := info_parts info_ex
    have HRow : Hid (W.ownsRow (G + 1) 54 8 cv L.length (cellsOf cellsX L)) := hP.kids.row
    have hGlt := hP.lt
    have HGl := Lib.hid hGlt
    obtain ⟨k, hk5⟩ : ∃ k, L.length = k := ⟨_, rfl⟩
    have HLk := Lib.hid hk5
    rw [hk5] at HRow hL
    obtain ⟨ac, cc, hcv, hcc, -, -⟩ := own_slice HRow.out
    have HCv := Lib.hid hcv
    obtain ⟨S, hS⟩ : ∃ S, cv.ownBlock.toList = S := ⟨_, rfl⟩
    have hGS : G ∉ cv.ownBlock.toList := fun hm => by rw [Option.mem_toList] at hm; have := (hP.kids.row.lt G hm).1; omega
    have hBS : W.heap.size ∉ cv.ownBlock.toList := fun hm => by rw [Option.mem_toList] at hm; have := own_lt hP.kids.row hm; omega
    rw [hS] at hGS hBS
    have HSv : Hid ((Value.slice ac k cc).ownBlock.toList = S) := by rw [← hcv]; exact hS
    have HSS := Lib.hid hS
    have l0 : ∀ V, Chg S w0.drew V → V.cell? ⟨G, 0, none⟩ = some (.slice ac k cc) := fun V hV => by rw [← HCv.out]; exact (hV.cell (b := G) (by show G < w0.heap.size; omega) hGS).trans (((HP.out.keep HB0.out).var.cell 0).trans rfl)
    have b0 : ∀ V, Chg S w0.drew V → V.cell? ⟨W.heap.size, 0, none⟩ = some (.int .i64 x.t.lab.kd) := fun V hV => (hV.cell (b := W.heap.size) (by show W.heap.size < w0.heap.size; omega) hBS).trans HX.out.c0
    have b1 : ∀ V, Chg S w0.drew V → V.cell? ⟨W.heap.size, 1, none⟩ = some (.int .u8 x.t.lab.v.k) := fun V hV => (hV.cell (b := W.heap.size) (by show W.heap.size < w0.heap.size; omega) hBS).trans HX.out.c1
    have b2 : ∀ V, Chg S w0.drew V → V.cell? ⟨W.heap.size, 2, none⟩ = some (.int .i64 x.t.lab.v.n) := fun V hV => (hV.cell (b := W.heap.size) (by show W.heap.size < w0.heap.size; omega) hBS).trans HX.out.c2
    have b3 : ∀ V, Chg S w0.drew V → V.cell? ⟨W.heap.size, 3, none⟩ = some (.string x.t.lab.v.s) := fun V hV => (hV.cell (b := W.heap.size) (by show W.heap.size < w0.heap.size; omega) hBS).trans HX.out.c3
    have b4 : ∀ V, Chg S w0.drew V → V.cell? ⟨W.heap.size, 4, none⟩ = some (.string x.t.lab.tb) := fun V hV => (hV.cell (b := W.heap.size) (by show W.heap.size < w0.heap.size; omega) hBS).trans HX.out.c4
    have b5 : ∀ V, Chg S w0.drew V → V.cell? ⟨W.heap.size, 5, none⟩ = some (.string x.t.lab.nm) := fun V hV => (hV.cell (b := W.heap.size) (by show W.heap.size < w0.heap.size; omega) hBS).trans HX.out.c5
    have b6 : ∀ V, Chg S w0.drew V → V.cell? ⟨W.heap.size, 6, none⟩ = some (.string x.t.lab.op) := fun V hV => (hV.cell (b := W.heap.size) (by show W.heap.size < w0.heap.size; omega) hBS).trans HX.out.c6
    have b7 : ∀ V, Chg S w0.drew V → V.cell? ⟨W.heap.size, 7, none⟩ = some (.slice x.a x.t.args.length x.cap) := fun V hV => (hV.cell (b := W.heap.size) (by show W.heap.size < w0.heap.size; omega) hBS).trans HX.out.c7
    have HSz := Lib.hid hs0
    have qk : (x.t.lab.kd == 6) = true := by simpa using hk
    have x0 := HX.out.c0
    clear hP h hall hmx hGlt hGS hBS hpk hk5 hk hkd hs0 hcv hS
    go_enter Try.func30, Try.ntmps30
    go_wp2_with fail
    clear x0
    refine wp_region_tail (S) [6,7,8] (.free 0 (.free 1 (.free 3 (.two 2 4 (.one 4 (.one 5 (.lasts 6 8 (.lasts 7 8 (.last 8 (.nil)) (.last 7 (.nil))) (.last 6 (.last 7 (.nil)))))) (.one 2 (.one 5 (.lasts 6 8 (.lasts 7 8 (.last 8 (.nil)) (.last 7 (.nil))) (.last 6 (.last 7 (.nil)))))))))) (by kernel_rfl) (by kernel_rfl) (by kernel_rfl) (by kernel_rfl) ?_
    repeat (first | ((refine wpL_F rfl (by rfl) (fun w' hL => exec_load rfl rfl (l0 w' hL)) ?_); try simp only [Act.put, List.setIfInBounds_toArray, List.set_cons_zero, List.set_cons_succ]) | (refine wpL_F (v := ?_) rfl (by rfl) (fun w' hL => ?_) ?_; rotate_left; (solve | (go_simp; with_reducible rfl) | go_simp); try simp only [Act.put, List.setIfInBounds_toArray, List.set_cons_zero, List.set_cons_succ]) | (refine wpL_G rfl (by rfl) ?_; try simp only [Act.put, List.setIfInBounds_toArray, List.set_cons_zero, List.set_cons_succ]))
    have HBd : Hid (Below W.heap.size W w0.drew) := HB0.out.drew
    refine wpL_two ?_ ?_
    · skip
      refine wpL_C rfl (by rfl) ?_
      go_simp
      refine (HCl.out _ HBd.out).mono ?_
      rintro e w1 ⟨y, rfl, hyt, hyI, hb1⟩
      have HYt := Lib.hid hyt
      clear hyt
      refine ⟨below_chg hb1, ?_⟩
      try simp only [Act.put, List.setIfInBounds_toArray, List.set_cons_zero, List.set_cons_succ]
      refine wpL_C rfl (by rfl) ?_
      go_simp
      refine ⟨(Chg.refl _ _).alloc _, ?_⟩
      try simp only [Act.put, List.setIfInBounds_toArray, List.set_cons_zero, List.set_cons_succ]
      obtain ⟨wa, hwa⟩ : ∃ wa, w1.alloc (.cells #[.int .i64 0, .int .u8 0, .int .i64 0, .string ⟨#[]⟩, .string ⟨#[]⟩, .string ⟨#[]⟩, .string ⟨#[]⟩, .slice none 0 0] 54) = wa := ⟨_, rfl⟩
      rw [hwa]
      have hbk : ∀ (j : Nat) u, zero8[j]? = some u → wa.cell? ⟨w1.heap.size, j, none⟩ = some u := fun j u hu => by
        rw [← hwa, World.cell?_alloc_at _ _ _ _ rfl]; simpa using hu
      have hWa : Below W.heap.size W wa := by rw [← hwa]; exact ((HBd.out.trans (hb1.mono HBd.out.size)).alloc (Nat.le_trans HBd.out.size hb1.size) _)
      have hyA : XIn (fun b => W.heap.size ≤ b ∧ b < w1.heap.size) wa n y := (hyI.keep (w' := wa) (fun b hb => by rw [← hwa]; exact Below.heap_alloc w1 _ b hb.2)).imp fun b hb => ⟨by have := HBd.out.size; omega, hb.2⟩
      have hm2 : w1.heap.size ≤ wa.heap.size := by rw [← hwa]; simp
      have hm1 : W.heap.size ≤ w1.heap.size := Nat.le_trans HBd.out.size hb1.size
      have hrow1 : wa.ownsRow (G + 1) 54 8 (.slice ac k cc) k (cellsOf cellsX L) := by rw [← HCv.out]; exact own_below HRow.out (Nat.le_refl _) hWa
      refine wpL_C rfl (by rfl) ?_
      refine wp_appG (.tmp 7) (.tmp 11) 52 rfl (G + 1) 54 i0 (.agg #[.int .i64 0, .int .u8 0, .int .i64 0, .string ⟨#[]⟩, .string ⟨#[]⟩, .string ⟨#[]⟩, .string ⟨#[]⟩, .slice none 0 0]) 8 112 1 Try.underlying52 hi hz0 rfl hz1 (by omega) hz2 (by omega) (.slice ac k cc) k _ zero8 wa hrow1 rfl (w1.heap.size) 1 hbk rfl one_Z rfl (by omega) (by have := HGl.out; have := hWa.size; omega) ?_
      intro v5 w5 hown5 hc5 hf5
      rw [HSv.out] at hc5
      refine ⟨hc5, ?_⟩
      try simp only [Act.put, List.setIfInBounds_toArray, List.set_cons_zero, List.set_cons_succ]
      have hPick := pick_both HP.out HCv.out HSS.out HLk.out hWa hyA hm1 hm2 hown5 hc5 hf5
      obtain ⟨g, cap, R, hv5, hGg, hcap, hstore, hvar, hA, hB, hbx⟩ := hPick
      subst hv5
      have hwx : wa.cell? ⟨W.heap.size, 0, none⟩ = some (.int .i64 x.t.lab.kd) := (((hb1.cell (p := ⟨W.heap.size, 0, none⟩) (by have := HSz.out; show W.heap.size < w0.heap.size; omega)).trans HX.out.c0) |> fun h => by rw [← hwa]; exact (((Below.refl w1.heap.size w1).alloc (Nat.le_refl _) _).cell (p := ⟨W.heap.size, 0, none⟩) (by have := HSz.out; have := hb1.size; have : w0.drew.heap.size = w0.heap.size := rfl; show W.heap.size < w1.heap.size; omega)).trans h)
      have xA := Lib.hid ((World.cell?_of_block (a := ⟨W.heap.size, 0, none⟩) (hbx W.heap.size (Nat.le_refl _) (by have := HSz.out; have := hb1.size; have : w0.drew.heap.size = w0.heap.size := rfl; omega)).1).trans hwx)
      have xB := Lib.hid ((World.cell?_of_block (a := ⟨W.heap.size, 0, none⟩) (hbx W.heap.size (Nat.le_refl _) (by have := HSz.out; have := hb1.size; have : w0.drew.heap.size = w0.heap.size := rfl; omega)).2).trans hwx)
      have HA := Lib.hid hA
      have HB := Lib.hid hB
      have HS1 := Lib.hid (hstore w5 rfl)
      have HS2 := Lib.hid (hstore (w5.setRow G #[.slice (some ⟨g, 0, none⟩) (k + 1) cap]) (setRow_other w5 G g _ (by omega)))
      have HV1 := Lib.hid (hvar w5 rfl)
      have HV2 := Lib.hid (hvar (w5.setRow g R) (setRow_other w5 g G _ (by omega)))
      clear hbk hWa hyA hm2 hm1 hrow1 hown5 hc5 hf5 hstore hvar hA hB hyI hb1 hbx hwx l0 b0 b1 b2 b3 b4 b5 b6 b7
      refine wpL_lasts ?_ ?_
      · refine wpL_X rfl (by rfl) ?_
        refine wp_val (v := .pointer (some ⟨g, k * 8, none⟩)) (by go_simp; rw [if_pos (by omega)]) ?_
        try simp only [Act.put, List.setIfInBounds_toArray, List.set_cons_zero, List.set_cons_succ]
        refine wpL_lasts ?_ ?_
        · refine wpL_X rfl (by rfl) ?_
          refine wp_skp (exec_store rfl rfl rfl HS1.out) ?_
          try simp only [Act.put, List.setIfInBounds_toArray, List.set_cons_zero, List.set_cons_succ]
          refine wpL_X rfl (by rfl) ?_
          refine wp_skp (exec_store rfl rfl rfl HV2.out) ?_
          try simp only [Act.put, List.setIfInBounds_toArray, List.set_cons_zero, List.set_cons_succ]
          refine wpL_nil ?_
          try go_simp
          try simp only [NoPanic]
          have xq := xA.out
          go_wp2
          go_ret
          exact ⟨ret_b (by simp), _, _, by rw [← HYt.out]; exact HA.out⟩
        · refine wpL_X rfl (by rfl) ?_
          refine wp_skp (exec_store rfl rfl rfl HV1.out) ?_
          try simp only [Act.put, List.setIfInBounds_toArray, List.set_cons_zero, List.set_cons_succ]
          refine wpL_X rfl (by rfl) ?_
          refine wp_skp (exec_store rfl rfl rfl HS2.out) ?_
          try simp only [Act.put, List.setIfInBounds_toArray, List.set_cons_zero, List.set_cons_succ]
          refine wpL_nil ?_
          try go_simp
          try simp only [NoPanic]
          have xq := xB.out
          go_wp2
          go_ret
          exact ⟨ret_b (by simp), _, _, by rw [← HYt.out]; exact HB.out⟩
      · refine wpL_X rfl (by rfl) ?_
        refine wp_skp (exec_store rfl rfl rfl HV1.out) ?_
        try simp only [Act.put, List.setIfInBounds_toArray, List.set_cons_zero, List.set_cons_succ]
        refine wpL_X rfl (by rfl) ?_
        refine wp_val (v := .pointer (some ⟨g, k * 8, none⟩)) (by go_simp; rw [if_pos (by omega)]) ?_
        try simp only [Act.put, List.setIfInBounds_toArray, List.set_cons_zero, List.set_cons_succ]
        refine wpL_X rfl (by rfl) ?_
        refine wp_skp (exec_store rfl rfl rfl HS2.out) ?_
        try simp only [Act.put, List.setIfInBounds_toArray, List.set_cons_zero, List.set_cons_succ]
        refine wpL_nil ?_
        try go_simp
        try simp only [NoPanic]
        have xq := xB.out
        go_wp2
        go_ret
        exact ⟨ret_b (by simp), _, _, by rw [← HYt.out]; exact HB.out⟩
    · refine wpL_C rfl (by rfl) ?_
      go_simp
      refine ⟨(Chg.refl _ _).alloc _, ?_⟩
      try simp only [Act.put, List.setIfInBounds_toArray, List.set_cons_zero, List.set_cons_succ]
      obtain ⟨wz, hwz⟩ : ∃ wz, (w0.alloc (.cells #[.int .i64 0, .int .u8 0, .int .i64 0, .string ⟨#[]⟩, .string ⟨#[]⟩, .string ⟨#[]⟩, .string ⟨#[]⟩, .slice none 0 0] 54)).drew = wz := ⟨_, rfl⟩
      try rw [hwz]
      have HBz : Hid (Below W.heap.size W wz) := by rw [← hwz]; exact (HB0.out.alloc HB0.out.size _).drew
      refine wpL_C rfl (by rfl) ?_
      go_simp
      refine (HCl.out _ HBz.out).mono ?_
      rintro e wa ⟨y, rfl, hyt, hyI, hb1⟩
      have HYt := Lib.hid hyt
      clear hyt
      refine ⟨below_chg hb1, ?_⟩
      try simp only [Act.put, List.setIfInBounds_toArray, List.set_cons_zero, List.set_cons_succ]
      have hbk : ∀ (j : Nat) u, zero8[j]? = some u → wa.cell? ⟨w0.heap.size, j, none⟩ = some u := fun j u hu => by
        refine (hb1.cell (p := ⟨w0.heap.size, j, none⟩) (by rw [← hwz]; show w0.heap.size < (w0.alloc _).heap.size; simp)).trans ?_
        rw [← hwz]
        show (w0.alloc _).cell? _ = _
        rw [World.cell?_alloc_at _ _ _ _ rfl]; simpa using hu
      have hWa : Below W.heap.size W wa := HBz.out.trans (hb1.mono HBz.out.size)
      have hyA : XIn (fun b => W.heap.size ≤ b ∧ b < wa.heap.size) wa n y := hyI.imp fun b hb => ⟨by have := HBz.out.size; omega, hb.2⟩
      have hm2 : wa.heap.size ≤ wa.heap.size := Nat.le_refl _
      have hm1 : W.heap.size ≤ wa.heap.size := hWa.size
      have hrow1 : wa.ownsRow (G + 1) 54 8 (.slice ac k cc) k (cellsOf cellsX L) := by rw [← HCv.out]; exact own_below HRow.out (Nat.le_refl _) hWa
      refine wpL_C rfl (by rfl) ?_
      refine wp_appG (.tmp 7) (.tmp 11) 52 rfl (G + 1) 54 i0 (.agg #[.int .i64 0, .int .u8 0, .int .i64 0, .string ⟨#[]⟩, .string ⟨#[]⟩, .string ⟨#[]⟩, .string ⟨#[]⟩, .slice none 0 0]) 8 112 1 Try.underlying52 hi hz0 rfl hz1 (by omega) hz2 (by omega) (.slice ac k cc) k _ zero8 wa hrow1 rfl (w0.heap.size) 1 hbk rfl one_Z rfl (by omega) (by have := HGl.out; have := hWa.size; omega) ?_
      intro v5 w5 hown5 hc5 hf5
      rw [HSv.out] at hc5
      refine ⟨hc5, ?_⟩
      try simp only [Act.put, List.setIfInBounds_toArray, List.set_cons_zero, List.set_cons_succ]
      have hPick := pick_both HP.out HCv.out HSS.out HLk.out hWa hyA hm1 hm2 hown5 hc5 hf5
      obtain ⟨g, cap, R, hv5, hGg, hcap, hstore, hvar, hA, hB, hbx⟩ := hPick
      subst hv5
      have hwx : wa.cell? ⟨W.heap.size, 0, none⟩ = some (.int .i64 x.t.lab.kd) := (hb1.cell (p := ⟨W.heap.size, 0, none⟩) (by have := HSz.out; rw [← hwz]; show W.heap.size < (w0.alloc _).heap.size; simp; omega)).trans (by rw [← hwz]; exact (((Below.refl w0.heap.size w0).alloc (Nat.le_refl _) _).cell (p := ⟨W.heap.size, 0, none⟩) (by have := HSz.out; show W.heap.size < w0.heap.size; omega)).trans HX.out.c0)
      have xA := Lib.hid ((World.cell?_of_block (a := ⟨W.heap.size, 0, none⟩) (hbx W.heap.size (Nat.le_refl _) (by have := HSz.out; have := hb1.size; have : w0.heap.size ≤ wz.heap.size := (by rw [← hwz]; show w0.heap.size ≤ (w0.alloc _).heap.size; simp); omega)).1).trans hwx)
      have xB := Lib.hid ((World.cell?_of_block (a := ⟨W.heap.size, 0, none⟩) (hbx W.heap.size (Nat.le_refl _) (by have := HSz.out; have := hb1.size; have : w0.heap.size ≤ wz.heap.size := (by rw [← hwz]; show w0.heap.size ≤ (w0.alloc _).heap.size; simp); omega)).2).trans hwx)
      have HA := Lib.hid hA
      have HB := Lib.hid hB
      have HS1 := Lib.hid (hstore w5 rfl)
      have HS2 := Lib.hid (hstore (w5.setRow G #[.slice (some ⟨g, 0, none⟩) (k + 1) cap]) (setRow_other w5 G g _ (by omega)))
      have HV1 := Lib.hid (hvar w5 rfl)
      have HV2 := Lib.hid (hvar (w5.setRow g R) (setRow_other w5 g G _ (by omega)))
      clear hbk hWa hyA hm2 hm1 hrow1 hown5 hc5 hf5 hstore hvar hA hB hyI hb1 hbx hwx l0 b0 b1 b2 b3 b4 b5 b6 b7
      refine wpL_lasts ?_ ?_
      · refine wpL_X rfl (by rfl) ?_
        refine wp_val (v := .pointer (some ⟨g, k * 8, none⟩)) (by go_simp; rw [if_pos (by omega)]) ?_
        try simp only [Act.put, List.setIfInBounds_toArray, List.set_cons_zero, List.set_cons_succ]
        refine wpL_lasts ?_ ?_
        · refine wpL_X rfl (by rfl) ?_
          refine wp_skp (exec_store rfl rfl rfl HS1.out) ?_
          try simp only [Act.put, List.setIfInBounds_toArray, List.set_cons_zero, List.set_cons_succ]
          refine wpL_X rfl (by rfl) ?_
          refine wp_skp (exec_store rfl rfl rfl HV2.out) ?_
          try simp only [Act.put, List.setIfInBounds_toArray, List.set_cons_zero, List.set_cons_succ]
          refine wpL_nil ?_
          try go_simp
          try simp only [NoPanic]
          have xq := xA.out
          go_wp2
          go_ret
          exact ⟨ret_b (by simp), _, _, by rw [← HYt.out]; exact HA.out⟩
        · refine wpL_X rfl (by rfl) ?_
          refine wp_skp (exec_store rfl rfl rfl HV1.out) ?_
          try simp only [Act.put, List.setIfInBounds_toArray, List.set_cons_zero, List.set_cons_succ]
          refine wpL_X rfl (by rfl) ?_
          refine wp_skp (exec_store rfl rfl rfl HS2.out) ?_
          try simp only [Act.put, List.setIfInBounds_toArray, List.set_cons_zero, List.set_cons_succ]
          refine wpL_nil ?_
          try go_simp
          try simp only [NoPanic]
          have xq := xB.out
          go_wp2
          go_ret
          exact ⟨ret_b (by simp), _, _, by rw [← HYt.out]; exact HB.out⟩
      · refine wpL_X rfl (by rfl) ?_
        refine wp_skp (exec_store rfl rfl rfl HV1.out) ?_
        try simp only [Act.put, List.setIfInBounds_toArray, List.set_cons_zero, List.set_cons_succ]
        refine wpL_X rfl (by rfl) ?_
        refine wp_val (v := .pointer (some ⟨g, k * 8, none⟩)) (by go_simp; rw [if_pos (by omega)]) ?_
        try simp only [Act.put, List.setIfInBounds_toArray, List.set_cons_zero, List.set_cons_succ]
        refine wpL_X rfl (by rfl) ?_
        refine wp_skp (exec_store rfl rfl rfl HS2.out) ?_
        try simp only [Act.put, List.setIfInBounds_toArray, List.set_cons_zero, List.set_cons_succ]
        refine wpL_nil ?_
        try go_simp
        try simp only [NoPanic]
        have xq := xB.out
        go_wp2
        go_ret
        exact ⟨ret_b (by simp), _, _, by rw [← HYt.out]; exact HB.out⟩
  · have hpk : pickL 6 x.t = [] := if_neg hk
    rw [hpk]
    have qk : (x.t.lab.kd == 6) = false := by simpa using hk
    have x0 := HX.out.c0
    have HN := Lib.hid (Picked.none hP HB0.out)
    clear hP h hall hpk hk hs0 HCl
    go_enter Try.func30, Try.ntmps30
    go_wp2
    go_ret
    exact ⟨ret_b (by rfl), _, _, HN.out⟩
end Go.Proofs.Ytmfdnphjhbbkiaa

/- The walk of typing.bind at a column. -/
set_option linter.unusedSimpArgs false
set_option linter.unusedVariables false
set_option maxRecDepth 100000
namespace Go.Proofs.Ytmfdnphjhbbkiaa
open Go.RowKit

theorem info_ndS : (Try.prog.info? 57).map (·.size) = some 8 := by kernel_rfl
abbrev ndZ : Array Value := #[.int .i64 0, .string ⟨#[]⟩, .int .u8 0, .int .i64 0, .string ⟨#[]⟩, .int .i64 0, .int .u8 0, .slice none 0 0]
/-- A node is loaded, is stored. -/
theorem nd_load {W : World} {B : Nat} (kd : Int) (op : ByteArray) (vk : Nat) (vn : Int) (vs : ByteArray) (sl : Int) (ty : Nat) (a : Option Addr) (n c : Nat) (hB : Blk W B 57 #[.int .i64 kd, .string op, .int .u8 (vk : Int), .int .i64 vn, .string vs, .int .i64 sl, .int .u8 (ty : Int), .slice a n c]) :
    (loadVar 57 ⟨B, 0, none⟩).run Try.prog W = .ok (.agg #[.int .i64 kd, .string op, .int .u8 (vk : Int), .int .i64 vn, .string vs, .int .i64 sl, .int .u8 (ty : Int), .slice a n c]) W :=
  run_loadVar_row _ _ _ 57 _ (0, 0) _ hB Try.underlying57 rfl (by rw [info_ndS]; rfl)
theorem nd_end {w W : World} {B : Nat} (kd : Int) (op : ByteArray) (vk : Nat) (vn : Int) (vs : ByteArray) (sl : Int) (ty : Nat) (a : Option Addr) (n c : Nat) (hB : Blk W B 57 ndZ) (hN : w.heap.size ≤ B) (hb : Below w.heap.size w W) :
    (storeVar 57 ⟨B, 0, none⟩ (.agg #[.int .i64 kd, .string op, .int .u8 (vk : Int), .int .i64 vn, .string vs, .int .i64 sl, .int .u8 (ty : Int), .slice a n c])).run Try.prog W = .ok () (W.setRow B #[.int .i64 kd, .string op, .int .u8 (vk : Int), .int .i64 vn, .string vs, .int .i64 sl, .int .u8 (ty : Int), .slice a n c]) ∧
    (loadVar 57 ⟨B, 0, none⟩).run Try.prog (W.setRow B #[.int .i64 kd, .string op, .int .u8 (vk : Int), .int .i64 vn, .string vs, .int .i64 sl, .int .u8 (ty : Int), .slice a n c]) = .ok (.agg #[.int .i64 kd, .string op, .int .u8 (vk : Int), .int .i64 vn, .string vs, .int .i64 sl, .int .u8 (ty : Int), .slice a n c]) (W.setRow B #[.int .i64 kd, .string op, .int .u8 (vk : Int), .int .i64 vn, .string vs, .int .i64 sl, .int .u8 (ty : Int), .slice a n c]) ∧
    Below w.heap.size w (W.setRow B #[.int .i64 kd, .string op, .int .u8 (vk : Int), .int .i64 vn, .string vs, .int .i64 sl, .int .u8 (ty : Int), .slice a n c]) := by
  have hc : Chg [B] W (W.setRow B #[.int .i64 kd, .string op, .int .u8 (vk : Int), .int .i64 vn, .string vs, .int .i64 sl, .int .u8 (ty : Int), .slice a n c]) := (Chg.refl _ _).setRow (.inl (by simp)) _
  exact ⟨run_storeVar_row _ _ _ 57 _ _ hB (by rw [info_ndS]; rfl) rfl (by simp [Value.oneCell']), nd_load _ _ _ _ _ _ _ _ _ _ (Blk.setRow hB), hb.trans (hc.below hb.size (by simp; exact hN))⟩

set_option maxRecDepth 100000 in
set_option maxHeartbeats 8000000 in
theorem bindCol_any (L : List Sx) (a : Option Addr) (cap : Nat) (w : World) (h : ScAt w a cap L) (vk : Nat) (vn : Int) (vs tb nm op : ByteArray) (sl : Nat) (c : Col) (hs : slotV (hitP tb nm) (plOf L) = ((sl : Int), 0)) (hc : (allOf L)[sl]? = some c) :
    Calls Try.prog 23 #[.agg #[.int .i64 2, .int .u8 (vk : Int), .int .i64 vn, .string vs, .string tb, .string nm, .string op, .slice none 0 0], .slice a L.length cap] w fun e w' => e = .returned (.tuple #[.agg #[.int .i64 2, .string op, .int .u8 (vk : Int), .int .i64 vn, .string vs, .int .i64 (sl : Int), .int .u8 (c.kd : Int), .slice none 0 0], .int .i64 0]) ∧ Below w.heap.size w w' := by
  have hX := Slot8.new w 54 (.int .i64 2) (.int .u8 (vk : Int)) (.int .i64 vn) (.string vs) (.string tb) (.string nm) (.string op) (.slice none 0 0)
  obtain ⟨w0, hw0⟩ : ∃ w0, w.alloc (.cells #[.int .i64 2, .int .u8 (vk : Int), .int .i64 vn, .string vs, .string tb, .string nm, .string op, .slice none 0 0] 54) = w0 := ⟨_, rfl⟩
  rw [hw0] at hX
  have hb0 : Below w.heap.size w w0 := by rw [← hw0]; exact (Below.refl _ w).alloc (Nat.le_refl _) _
  have hs0 : w0.heap.size = w.heap.size + 1 := by rw [← hw0]; simp
  have hR : Blk (w0.alloc (.cells ndZ 57)) w0.heap.size 57 ndZ := Blk.new w0 _ _
  obtain ⟨w1, hw1⟩ : ∃ w1, w0.alloc (.cells #[.int .i64 0, .string ⟨#[]⟩, .int .u8 0, .int .i64 0, .string ⟨#[]⟩, .int .i64 0, .int .u8 0, .slice none 0 0] 57) = w1 := ⟨_, rfl⟩
  rw [hw1] at hR
  have hb1 : Below w0.heap.size w0 w1 := by rw [← hw1]; exact (Below.refl _ w0).alloc (Nat.le_refl _) _
  have hs1 : w1.heap.size = w.heap.size + 2 := by rw [← hw1]; simp [hs0]
  have hNd : Blk (w1.alloc (.cells #[.int .i64 2, .string op, .int .u8 (vk : Int), .int .i64 vn, .string vs, .int .i64 0, .int .u8 0, .slice none 0 0] 57)) w1.heap.size 57 #[.int .i64 2, .string op, .int .u8 (vk : Int), .int .i64 vn, .string vs, .int .i64 0, .int .u8 0, .slice none 0 0] := Blk.new w1 _ _
  obtain ⟨w2, hw2⟩ : ∃ w2, w1.alloc (.cells #[.int .i64 2, .string op, .int .u8 (vk : Int), .int .i64 vn, .string vs, .int .i64 0, .int .u8 0, .slice none 0 0] 57) = w2 := ⟨_, rfl⟩
  rw [hw2] at hNd
  have hb2 : Below w1.heap.size w1 w2 := by rw [← hw2]; exact (Below.refl _ w1).alloc (Nat.le_refl _) _
  have hs2 : w2.heap.size = w.heap.size + 3 := by rw [← hw2]; simp [hs1]
  have hbw2 : Below w.heap.size w w2 := hb0.trans ((hb1.mono (by omega)).trans (hb2.mono (by omega)))
  have hX2 := (hX.later (by omega) hb1).later (N := w1.heap.size) (by omega) hb2
  have hR2 : Blk w2 w0.heap.size 57 ndZ := (hb2.block _ (by omega)).trans hR
  have HX1 := Lib.hid (hX.later (by omega) hb1)
  have HX := Lib.hid hX2
  have HR := Lib.hid hR2
  have HNd := Lib.hid hNd
  have HBw := Lib.hid hbw2
  have HZ0 := Lib.hid hs0
  have HZ1 := Lib.hid hs1
  have HZ2 := Lib.hid hs2
  have hSl := slot_any22 L a cap tb nm w2 (h.later hbw2)
  rw [hs] at hSl
  have HSl := Lib.hid hSl
  have HK := Lib.hid (fun V (hb : Below w.heap.size w V) => kinds_any22 L a cap V (h.later hb))
  have HC := Lib.hid hc
  obtain ⟨n, hn⟩ : ∃ n, L.length = n := ⟨_, rfl⟩
  rw [hn] at HSl HK ⊢
  obtain ⟨hslt, -⟩ := List.getElem?_eq_some_iff.1 hc
  have hal := allOf_len h
  generalize allOf L = cs at *
  clear hX hb0 hb1 hb2 hs0 hs1 hs2 hbw2 hX2 hR2 hNd hR hSl h hs hc hn
  obtain ⟨d0, d1, d2, d3, d4, d5, d6, d7⟩ := HX1.out
  have HW2 := Lib.hid hw2
  have hlt1 : w.heap.size < w1.heap.size := by have := HZ1.out; omega
  have f7 : ∀ o, (w1.alloc o).cell? ⟨w.heap.size, 7, none⟩ = some (.slice none 0 0) := fun o => (((Below.refl w1.heap.size w1).alloc (Nat.le_refl _) o).cell (p := ⟨w.heap.size, 7, none⟩) hlt1).trans d7
  clear hw2 hlt1
  go_enter Try.func23, Try.ntmps23
  go_wp2
  rw [HW2.out]
  clear f7 d0 d1 d2 d3 d4 d5 d6 d7
  obtain ⟨e0, e1, e2, e3, e4, e5, e6, e7⟩ := HX.out
  go_loopw [23] (fun i wr => i = .int .i64 0 ∧ wr = w2) (fun _ _ => 0)
  case atStart => exact ⟨rfl, rfl⟩
  case round =>
    obtain ⟨rfl, rfl⟩ := hrel
    go_wp2_with fail
    refine HSl.out.mono ?_
    rintro e w3 ⟨rfl, hb3⟩
    have HB3 := Lib.hid (HBw.out.trans (hb3.mono HBw.out.size))
    have HNd3 : Hid (Blk w3 w1.heap.size 57 #[.int .i64 2, .string op, .int .u8 (vk : Int), .int .i64 vn, .string vs, .int .i64 0, .int .u8 0, .slice none 0 0]) := (hb3.block _ (by have := HZ1.out; have := HZ2.out; omega)).trans HNd.out
    have HR3 : Hid (Blk w3 w0.heap.size 57 ndZ) := (hb3.block _ (by have := HZ0.out; have := HZ2.out; omega)).trans HR.out
    have HZ3 : Hid (w.heap.size + 3 ≤ w3.heap.size) := by show _ ≤ _; have := HZ2.out; have := hb3.size; omega
    clear hb3 HSl e0 e1 e2 e3 e4 e5 e6 e7
    go_wp2_with fail
    refine wp_region_ordS [w1.heap.size] [(0, true), (1, true), (3, true), (6, true), (2, false), (4, true), (5, true), (7, false), (8, true), (9, false)] (by kernel_rfl) (by kernel_rfl) (by kernel_rfl) (by kernel_rfl) ?_
    repeat (first | (refine wpO_F (v := ?_) rfl (by rfl) (fun w' hL => ?_) ?_; rotate_left; (solve | (go_simp; with_reducible rfl) | go_simp); try simp only [Act.put, List.setIfInBounds_toArray, List.set_cons_zero, List.set_cons_succ]) | (refine wpO_G' (Chg.refl _) rfl (by rfl) ?_; try simp only [Act.put, List.setIfInBounds_toArray, List.set_cons_zero, List.set_cons_succ]))
    refine wpO_C rfl (by rfl) ?_
    go_simp
    refine (HK.out w3.drew HB3.out.drew).mono ?_
    rintro e w4 ⟨v4, rfl, ho4, hb4⟩
    refine ⟨below_chg hb4, ?_⟩
    try simp only [Act.put, List.setIfInBounds_toArray, List.set_cons_zero, List.set_cons_succ]
    have hs3 : w3.drew.heap.size = w3.heap.size := rfl
    obtain ⟨g, cp, rfl, hg, hcp, hcm, hcell, hglt⟩ : ∃ (g cp : Nat), v4 = .slice (some ⟨g, 0, none⟩) cs.length cp ∧ w3.heap.size ≤ g ∧ cs.length ≤ cp ∧ cp ≤ 9223372036854775807 ∧ w4.cell? ⟨g, sl, none⟩ = some (.int .u8 (c.kd : Int)) ∧ g < w4.heap.size := by
      obtain ⟨a4, c4, hv4, h1, h2, h3⟩ := own_slice ho4
      rcases ho4.2 with ⟨hv, hn⟩ | ⟨g, cp, cur, hv, hg, hh, -⟩
      · omega
      · rw [hv] at hv4
        injection hv4 with q1 q2 q3
        subst q1 q3
        refine ⟨g, cp, hv, hg, h1, h2, ?_, (Array.getElem?_eq_some_iff.1 hh).1⟩
        rcases h3 with h3 | ⟨b, o, hb, -, hcc⟩
        · have := cellsOf_len kdCell 1 (fun _ => rfl) cs; rw [h3] at this; simp at this; omega
        · injection hb with hb
          injection hb with q4 q5
          subst q4 q5
          have := hcc _ _ (cellsOf_get kdCell 1 (fun _ => rfl) cs sl 0 c _ HC.out rfl)
          simpa using this
    have hgS : g ∉ [w1.heap.size] := by have := HZ1.out; have := HZ3.out; simp; omega
    have k5 : ∀ W, Chg [w1.heap.size] w4 W → W.cell? ⟨g, sl, none⟩ = some (.int .u8 (c.kd : Int)) := fun W hW => (hW.cell (b := g) hglt hgS).trans hcell
    have hNd4 : Blk w4 w1.heap.size 57 #[.int .i64 2, .string op, .int .u8 (vk : Int), .int .i64 vn, .string vs, .int .i64 0, .int .u8 0, .slice none 0 0] := (hb4.block _ (by have := HZ1.out; have := HZ3.out; rw [hs3]; omega)).trans HNd3.out.drew
    have hR4 : Blk w4 w0.heap.size 57 ndZ := (hb4.block _ (by have := HZ0.out; have := HZ3.out; rw [hs3]; omega)).trans HR3.out.drew
    have HB4 : Hid (Below w.heap.size w w4) := HB3.out.drew.trans (hb4.mono HB3.out.size)
    have HNd4 := Lib.hid hNd4
    have HR4 := Lib.hid hR4
    have hsl2 : sl < cs.length := hslt
    have pc := (hNd4.cell 5).trans rfl
    have pf := hNd4.frozen 5
    have pl := hNd4.lt
    clear ho4 hb4 hcell hNd4 hR4
    repeat (first | (refine wpO_F (v := ?_) rfl (by rfl) (fun w' hL => ?_) ?_; rotate_left; (solve | (go_simp; with_reducible rfl) | go_simp); try simp only [Act.put, List.setIfInBounds_toArray, List.set_cons_zero, List.set_cons_succ]) | (refine wpO_G' (Chg.refl _) rfl (by rfl) ?_; try simp only [Act.put, List.setIfInBounds_toArray, List.set_cons_zero, List.set_cons_succ]))
    refine wpO_C rfl (by rfl) ?_
    go_simp
    refine ⟨(Chg.refl _ _).setCell (.inl (by simp)) _, ?_⟩
    try simp only [Act.put, List.setIfInBounds_toArray, List.set_cons_zero, List.set_cons_succ]
    have hNd5 : Blk (w4.setCell ⟨w1.heap.size, 5, none⟩ (.int .i64 (sl : Int))) w1.heap.size 57 #[.int .i64 2, .string op, .int .u8 (vk : Int), .int .i64 vn, .string vs, .int .i64 (sl : Int), .int .u8 0, .slice none 0 0] := HNd4.out.set_ 5 _
    have hc5 : Chg [w1.heap.size] w4 (w4.setCell ⟨w1.heap.size, 5, none⟩ (.int .i64 (sl : Int))) := (Chg.refl _ _).setCell (.inl (by simp)) _
    obtain ⟨w5, hw5⟩ : ∃ w5, w4.setCell ⟨w1.heap.size, 5, none⟩ (.int .i64 (sl : Int)) = w5 := ⟨_, rfl⟩
    rw [hw5] at hNd5 hc5 ⊢
    have hR5 : Blk w5 w0.heap.size 57 ndZ := HR4.out.chg hc5 (by have := HZ0.out; have := HZ1.out; simp; omega)
    have HB5 : Hid (Below w.heap.size w w5) := HB4.out.trans (hc5.below HB4.out.size (by have := HZ1.out; simp; omega))
    have HNd5 := Lib.hid hNd5
    have HR5 := Lib.hid hR5
    clear pc pf pl k5 hw5 hNd5 hR5 hc5
    have pc := (HNd5.out.cell 6).trans rfl
    have pf := HNd5.out.frozen 6
    have pl := HNd5.out.lt
    repeat (first | (refine wpO_F (v := ?_) rfl (by rfl) (fun w' hL => ?_) ?_; rotate_left; (solve | (go_simp; with_reducible rfl) | go_simp); try simp only [Act.put, List.setIfInBounds_toArray, List.set_cons_zero, List.set_cons_succ]) | (refine wpO_G' (Chg.refl _) rfl (by rfl) ?_; try simp only [Act.put, List.setIfInBounds_toArray, List.set_cons_zero, List.set_cons_succ]))
    refine wpO_C rfl (by rfl) ?_
    go_simp
    refine ⟨(Chg.refl _ _).setCell (.inl (by simp)) _, ?_⟩
    try simp only [Act.put, List.setIfInBounds_toArray, List.set_cons_zero, List.set_cons_succ]
    have hNd6 : Blk (w5.setCell ⟨w1.heap.size, 6, none⟩ (.int .u8 (c.kd : Int))) w1.heap.size 57 #[.int .i64 2, .string op, .int .u8 (vk : Int), .int .i64 vn, .string vs, .int .i64 (sl : Int), .int .u8 (c.kd : Int), .slice none 0 0] := HNd5.out.set_ 6 _
    have hc6 : Chg [w1.heap.size] w5 (w5.setCell ⟨w1.heap.size, 6, none⟩ (.int .u8 (c.kd : Int))) := (Chg.refl _ _).setCell (.inl (by simp)) _
    obtain ⟨w6, hw6⟩ : ∃ w6, w5.setCell ⟨w1.heap.size, 6, none⟩ (.int .u8 (c.kd : Int)) = w6 := ⟨_, rfl⟩
    rw [hw6] at hNd6 hc6 ⊢
    have hR6 : Blk w6 w0.heap.size 57 ndZ := HR5.out.chg hc6 (by have := HZ0.out; have := HZ1.out; simp; omega)
    have HB6 : Hid (Below w.heap.size w w6) := HB5.out.trans (hc6.below HB5.out.size (by have := HZ1.out; simp; omega))
    obtain ⟨s1, s2, s3⟩ := nd_end (w := w) (W := w6) (B := w0.heap.size) 2 op vk vn vs (sl : Int) c.kd none 0 0 hR6 (by have := HZ0.out; omega) HB6.out
    have LD := Lib.hid (nd_load 2 op vk vn vs (sl : Int) c.kd none 0 0 hNd6)
    have S1 := Lib.hid s1
    have S2 := Lib.hid s2
    have S3 := Lib.hid s3
    clear pc pf pl hw6 hNd6 hc6 hR6 s1 s2 s3
    refine wpO_nil ?_
    try go_simp
    try simp only [NoPanic]
    go_wp2_with (first | (guard_target =~ wpList _ _ _ (Oper.mk _ (Op.load 57 _) _ _ _ _ :: _) _ _; refine wpList_loadV rfl 57 _ rfl rfl LD.out ?_) | (guard_target =~ wpList _ _ _ (Oper.mk _ (Op.store 57 _ _) _ _ _ _ :: _) _ _; refine wpList_skp rfl (exec_store rfl rfl rfl S1.out) ?_))
    exact bodyPost_ret (results_cell_tmp Try.results23 _ _ rfl rfl S2.out) rfl ⟨rfl, S3.out⟩
end Go.Proofs.Ytmfdnphjhbbkiaa

/- The walk of typing.bind at a sum of columns. -/
set_option linter.unusedSimpArgs false
set_option linter.unusedVariables false
set_option maxRecDepth 100000
namespace Go.Proofs.Ytmfdnphjhbbkiaa
open Go.RowKit

/-- A column in a scope: its names, its slot, what it is. -/
structure Cx where
  tb : ByteArray
  nm : ByteArray
  sl : Nat
  c : Col
abbrev exC (x : Cx) : List Value := [.int .i64 2, .int .u8 0, .int .i64 0, .string ⟨#[]⟩, .string x.tb, .string x.nm, .string ⟨#[]⟩, .slice none 0 0]
abbrev ndOf (x : Cx) : NM := ⟨.mk ⟨2, ⟨#[]⟩, ⟨0, 0, ⟨#[]⟩⟩, (x.sl : Int), x.c.kd⟩ [], none, 0⟩
theorem ndOf_cells (x : Cx) : cellsNd (ndOf x) = [.int .i64 2, .string ⟨#[]⟩, .int .u8 0, .int .i64 0, .string ⟨#[]⟩, .int .i64 (x.sl : Int), .int .u8 (x.c.kd : Int), .slice none 0 0] := rfl
theorem info_nd : (Try.prog.info? 57).map (fun i => (i.zero, i.size, i.bytes)) = some (some (.agg #[.int .i64 0, .string ⟨#[]⟩, .int .u8 0, .int .i64 0, .string ⟨#[]⟩, .int .i64 0, .int .u8 0, .slice none 0 0]), 8, 96) := by kernel_rfl
theorem exAt {N : Nat} {w : World} {a : Option Addr} {l : List Cx} (h : Arr N w a (cellsOf exC l)) {k : Nat} (hk : k < l.length) : ∃ b o, a = some ⟨b, o, none⟩ ∧ b < N ∧ ∀ (j : Nat) (v : Value), (exC l[k])[j]? = some v → w.cell? ⟨b, o + k * 8 + j, none⟩ = some v := by
  obtain ⟨b, o, ha, hb, hc⟩ := h.at_ (by intro h0; have := cellsOf_len exC 8 (fun _ => rfl) l; rw [h0] at this; simp at this; omega)
  refine ⟨b, o, ha, hb, fun j v hv => ?_⟩
  have := hc _ _ (cellsOf_get exC 8 (fun _ => rfl) l k j l[k] v (List.getElem?_eq_getElem hk) hv)
  rw [Nat.add_assoc]; exact this
/-- The column is what it says. -/
def CxOk (L : List Sx) (x : Cx) : Prop := slotV (hitP x.tb x.nm) (plOf L) = ((x.sl : Int), 0) ∧ (allOf L)[x.sl]? = some x.c

/-- What bind hands back of a sum. -/
def RetSum (w : World) (n : Nat) (b : Bool) (e : Ending) (w' : World) : Prop :=
  (∃ (a2 : Option Addr) (c2 : Nat), e = .returned (.tuple #[if b = true then .agg #[.int .i64 4, .string ⟨#[43]⟩, .int .u8 0, .int .i64 0, .string ⟨#[]⟩, .int .i64 0, .int .u8 1, .slice a2 n c2] else .agg #[.int .i64 0, .string ⟨#[]⟩, .int .u8 0, .int .i64 0, .string ⟨#[]⟩, .int .i64 0, .int .u8 0, .slice none 0 0], .int .i64 (if b = true then 0 else 20)])) ∧ Below w.heap.size w w'

set_option maxRecDepth 100000 in
set_option maxHeartbeats 8000000 in
theorem bindSum_any (L : List Sx) (a : Option Addr) (cap : Nat) (w : World) (h : ScAt w a cap L) (xs : List Cx) (xa : Option Addr) (xc : Nat) (hx : Arr w.heap.size w xa (cellsOf exC xs)) (hxl : xs.length ≤ 100) (hok : ∀ x ∈ xs, CxOk L x) :
    Calls Try.prog 23 #[.agg #[.int .i64 4, .int .u8 0, .int .i64 0, .string ⟨#[]⟩, .string ⟨#[]⟩, .string ⟨#[]⟩, .string ⟨#[43]⟩, .slice xa xs.length xc], .slice a L.length cap] w (RetSum w xs.length ((xs.map ndOf).all (fun x => okTy 1 x.t.lab.ty))) := by
  obtain ⟨i0, hi, hz0, hz1, hz2⟩ := info_parts info_nd
  obtain ⟨bt, hbt⟩ : ∃ bt, (xs.map ndOf).all (fun x => okTy 1 x.t.lab.ty) = bt := ⟨_, rfl⟩
  rw [hbt]
  have HBt := Lib.hid hbt
  clear hbt
  obtain ⟨n, hn⟩ : ∃ n, xs.length = n := ⟨_, rfl⟩
  have hX := Slot8.new w 54 (.int .i64 4) (.int .u8 0) (.int .i64 0) (.string ⟨#[]⟩) (.string ⟨#[]⟩) (.string ⟨#[]⟩) (.string ⟨#[43]⟩) (.slice xa xs.length xc)
  rw [hn] at hX hxl ⊢
  obtain ⟨w0, hw0⟩ : ∃ w0, w.alloc (.cells #[.int .i64 4, .int .u8 0, .int .i64 0, .string ⟨#[]⟩, .string ⟨#[]⟩, .string ⟨#[]⟩, .string ⟨#[43]⟩, .slice xa n xc] 54) = w0 := ⟨_, rfl⟩
  rw [hw0] at hX
  have hb0 : Below w.heap.size w w0 := by rw [← hw0]; exact (Below.refl _ w).alloc (Nat.le_refl _) _
  have hs0 : w0.heap.size = w.heap.size + 1 := by rw [← hw0]; simp
  have hR : Blk (w0.alloc (.cells ndZ 57)) w0.heap.size 57 ndZ := Blk.new w0 _ _
  obtain ⟨w1, hw1⟩ : ∃ w1, w0.alloc (.cells #[.int .i64 0, .string ⟨#[]⟩, .int .u8 0, .int .i64 0, .string ⟨#[]⟩, .int .i64 0, .int .u8 0, .slice none 0 0] 57) = w1 := ⟨_, rfl⟩
  rw [hw1] at hR
  have hb1 : Below w0.heap.size w0 w1 := by rw [← hw1]; exact (Below.refl _ w0).alloc (Nat.le_refl _) _
  have hs1 : w1.heap.size = w.heap.size + 2 := by rw [← hw1]; simp [hs0]
  have hNd : Blk (w1.alloc (.cells #[.int .i64 4, .string ⟨#[43]⟩, .int .u8 0, .int .i64 0, .string ⟨#[]⟩, .int .i64 0, .int .u8 0, .slice none 0 0] 57)) w1.heap.size 57 #[.int .i64 4, .string ⟨#[43]⟩, .int .u8 0, .int .i64 0, .string ⟨#[]⟩, .int .i64 0, .int .u8 0, .slice none 0 0] := Blk.new w1 _ _
  obtain ⟨w2, hw2⟩ : ∃ w2, w1.alloc (.cells #[.int .i64 4, .string ⟨#[43]⟩, .int .u8 0, .int .i64 0, .string ⟨#[]⟩, .int .i64 0, .int .u8 0, .slice none 0 0] 57) = w2 := ⟨_, rfl⟩
  rw [hw2] at hNd
  have hb2 : Below w1.heap.size w1 w2 := by rw [← hw2]; exact (Below.refl _ w1).alloc (Nat.le_refl _) _
  have hs2 : w2.heap.size = w.heap.size + 3 := by rw [← hw2]; simp [hs1]
  have hbw2 : Below w.heap.size w w2 := hb0.trans ((hb1.mono (by omega)).trans (hb2.mono (by omega)))
  have hX2 := (hX.later (by omega) hb1).later (N := w1.heap.size) (by omega) hb2
  have hR2 : Blk w2 w0.heap.size 57 ndZ := (hb2.block _ (by omega)).trans hR
  have HX1 := Lib.hid (hX.later (by omega) hb1)
  have HX := Lib.hid hX2
  have HR := Lib.hid hR2
  have HNd := Lib.hid hNd
  have HBw := Lib.hid hbw2
  have HZ0 := Lib.hid hs0
  have HZ1 := Lib.hid hs1
  have HZ2 := Lib.hid hs2
  have HN := Lib.hid hn
  have HXs := Lib.hid hx
  have HCol := Lib.hid (fun (x : Cx) (hx : x ∈ xs) V (hb : Below w.heap.size w V) => bindCol_any L a cap V (h.later hb) 0 0 ⟨#[]⟩ x.tb x.nm ⟨#[]⟩ x.sl x.c (hok x hx).1 (hok x hx).2)
  obtain ⟨nl, hnl⟩ : ∃ nl, L.length = nl := ⟨_, rfl⟩
  rw [hnl] at HCol ⊢
  obtain ⟨d0, d1, d2, d3, d4, d5, d6, d7⟩ := HX1.out
  have HW2 := Lib.hid hw2
  have hlt1 : w.heap.size < w1.heap.size := by omega
  have f7 : ∀ o, (w1.alloc o).cell? ⟨w.heap.size, 7, none⟩ = some (.slice xa n xc) := fun o => (((Below.refl w1.heap.size w1).alloc (Nat.le_refl _) o).cell (p := ⟨w.heap.size, 7, none⟩) hlt1).trans d7
  clear hX hb0 hb1 hb2 hs0 hs1 hs2 hbw2 hX2 hR2 hNd hR h hn hnl hw2 hlt1 hx hok
  go_enter Try.func23, Try.ntmps23
  go_wp2
  rw [HW2.out]
  clear f7 d0 d1 d2 d3 d4 d5 d6 d7
  go_loopw [23] (fun i wr => ∃ (k : Nat) (cv : Value), k ≤ n ∧ i = .int .i64 (k : Int) ∧ Hid (wr.ownsRow w2.heap.size 57 8 cv k (cellsOf cellsNd ((xs.take k).map ndOf))) ∧ Hid (Blk wr w1.heap.size 57 #[.int .i64 4, .string ⟨#[43]⟩, .int .u8 0, .int .i64 0, .string ⟨#[]⟩, .int .i64 0, .int .u8 0, cv]) ∧ Hid (Blk wr w0.heap.size 57 ndZ) ∧ Hid (wr.cell? ⟨w.heap.size, 0, none⟩ = some (.int .i64 4)) ∧ Hid (Below w.heap.size w wr) ∧ Hid (w2.heap.size ≤ wr.heap.size)) (fun i _ => n - (intOf i).toNat)
  case atStart => exact ⟨0, _, by omega, rfl, World.ownsRow_nil _ _ _ _, HNd.out, HR.out, HX.out.c0, HBw.out, Nat.le_refl _⟩
  case round =>
    obtain ⟨k, cv, hk, rfl, HO, HNr, HRr, HE, HB, HSz⟩ := hrel
    by_cases hlt : k < n
    · have q0 : decide ((k : Int) < (n : Int)) = true := by simp; omega
      have hkl : k < xs.length := by rw [HN.out]; exact hlt
      have HTk : Hid (cellsOf cellsNd ((xs.take (k + 1)).map ndOf) = cellsOf cellsNd ((xs.take k).map ndOf) ++ cellsNd (ndOf xs[k])) := by
        show _ = _
        rw [List.take_succ_eq_append_getElem hkl, List.map_append]
        exact cellsOf_snoc _ _ _
      obtain ⟨b, o, hab, hbN, hKid⟩ := exAt ((HXs.out.below HB.out).mono HB.out.size) hkl
      have HY := Lib.hid (HCol.out xs[k] (List.getElem_mem hkl))
      generalize xs[k] = x at *
      subst hab
      rw [ndOf_cells] at HTk
      have y0 : wr.cell? ⟨b, o + k * 8, none⟩ = some (.int .i64 2) := hKid 0 _ rfl
      have y1 : wr.cell? ⟨b, o + k * 8 + 1, none⟩ = some (.int .u8 0) := hKid 1 _ rfl
      have y2 : wr.cell? ⟨b, o + k * 8 + 2, none⟩ = some (.int .i64 0) := hKid 2 _ rfl
      have y3 : wr.cell? ⟨b, o + k * 8 + 3, none⟩ = some (.string ⟨#[]⟩) := hKid 3 _ rfl
      have y4 : wr.cell? ⟨b, o + k * 8 + 4, none⟩ = some (.string x.tb) := hKid 4 _ rfl
      have y5 : wr.cell? ⟨b, o + k * 8 + 5, none⟩ = some (.string x.nm) := hKid 5 _ rfl
      have y6 : wr.cell? ⟨b, o + k * 8 + 6, none⟩ = some (.string ⟨#[]⟩) := hKid 6 _ rfl
      have y7 : wr.cell? ⟨b, o + k * 8 + 7, none⟩ = some (.slice none 0 0) := hKid 7 _ rfl
      obtain ⟨tb, nm, sl, c⟩ := x
      dsimp only at HTk HY y4 y5
      have HY2 : Hid (∀ o, Calls Try.prog 23 #[.agg #[.int .i64 2, .int .u8 0, .int .i64 0, .string ⟨#[]⟩, .string tb, .string nm, .string ⟨#[]⟩, .slice none 0 0], .slice a nl cap] (wr.alloc o) fun e w' => e = .returned (.tuple #[.agg #[.int .i64 2, .string ⟨#[]⟩, .int .u8 0, .int .i64 0, .string ⟨#[]⟩, .int .i64 (sl : Int), .int .u8 (c.kd : Int), .slice none 0 0], .int .i64 0]) ∧ Below (wr.alloc o).heap.size (wr.alloc o) w') := fun o => HY.out _ (HB.out.alloc HB.out.size o)
      clear HY hKid hkl hbN
      go_wp2_with fail
      refine (HY2.out _).mono ?_
      rintro e w5 ⟨rfl, hb5⟩
      have hb5' : Below wr.heap.size wr w5 := ((Below.refl _ wr).alloc (Nat.le_refl _) _).trans (hb5.mono (by simp))
      have hnx : Blk (w5.alloc (.cells #[.int .i64 2, .string ⟨#[]⟩, .int .u8 0, .int .i64 0, .string ⟨#[]⟩, .int .i64 (sl : Int), .int .u8 (c.kd : Int), .slice none 0 0] 57)) w5.heap.size 57 #[.int .i64 2, .string ⟨#[]⟩, .int .u8 0, .int .i64 0, .string ⟨#[]⟩, .int .i64 (sl : Int), .int .u8 (c.kd : Int), .slice none 0 0] := Blk.new w5 _ _
      have hb6 : Below w5.heap.size w5 (w5.alloc (.cells #[.int .i64 2, .string ⟨#[]⟩, .int .u8 0, .int .i64 0, .string ⟨#[]⟩, .int .i64 (sl : Int), .int .u8 (c.kd : Int), .slice none 0 0] 57)) := (Below.refl _ w5).alloc (Nat.le_refl _) _
      obtain ⟨w6, hw6⟩ : ∃ w6, w5.alloc (.cells #[.int .i64 2, .string ⟨#[]⟩, .int .u8 0, .int .i64 0, .string ⟨#[]⟩, .int .i64 (sl : Int), .int .u8 (c.kd : Int), .slice none 0 0] 57) = w6 := ⟨_, rfl⟩
      rw [hw6] at hnx hb6
      have hbr6 : Below wr.heap.size wr w6 := hb5'.trans (hb6.mono hb5'.size)
      have hlr : w1.heap.size < wr.heap.size := by have := HZ1.out; have := HZ2.out; have := HSz.out; omega
      have hNd6 : Blk w6 w1.heap.size 57 #[.int .i64 4, .string ⟨#[43]⟩, .int .u8 0, .int .i64 0, .string ⟨#[]⟩, .int .i64 0, .int .u8 0, cv] := (hbr6.block _ hlr).trans HNr.out
      have hRd6 : Blk w6 w0.heap.size 57 ndZ := (hbr6.block _ (by have := HZ0.out; have := HZ1.out; omega)).trans HRr.out
      have HO6 : Hid (w6.ownsRow w2.heap.size 57 8 cv k (cellsOf cellsNd ((xs.take k).map ndOf))) := own_below HO.out (Nat.le_refl _) hbr6
      have HE6 : Hid (w6.cell? ⟨w.heap.size, 0, none⟩ = some (.int .i64 4)) := (hbr6.cell (p := ⟨w.heap.size, 0, none⟩) (by have := HZ1.out; show w.heap.size < _; omega)).trans HE.out
      have HB6 : Hid (Below w.heap.size w w6) := HB.out.trans (hbr6.mono HB.out.size)
      have HS6 : Hid (w2.heap.size ≤ w6.heap.size) := Nat.le_trans HSz.out hbr6.size
      have HNd6 := Lib.hid hNd6
      have HRd6 := Lib.hid hRd6
      have hNd5 : Blk w5 w1.heap.size 57 #[.int .i64 4, .string ⟨#[43]⟩, .int .u8 0, .int .i64 0, .string ⟨#[]⟩, .int .i64 0, .int .u8 0, cv] := (hb5'.block _ hlr).trans HNr.out
      have p7 : ∀ o, (w5.alloc o).cell? ⟨w1.heap.size, 7, none⟩ = some cv := fun o => ((hNd5.alloc o).cell 7).trans rfl
      have HW6 := Lib.hid hw6
      have HZ6 : Hid (w5.heap.size + 1 = w6.heap.size) := by show _ = _; rw [← hw6]; simp
      clear hb5 hb5' hb6 hbr6 hNd6 hRd6 hnx y0 y1 y2 y3 y4 y5 y6 y7 HO HNr HRr HE hlr hw6 hNd5
      go_wp2_with (first
        | (at_builtin; rw [HW6.out, HZ6.out]; refine wpList_appM rfl _ _ 55 rfl w2.heap.size 57 i0 (.agg #[.int .i64 0, .string ⟨#[]⟩, .int .u8 0, .int .i64 0, .string ⟨#[]⟩, .int .i64 0, .int .u8 0, .slice none 0 0]) 8 96 1 Try.underlying55 hi hz0 rfl hz1 (by omega) hz2 (by omega) cv k (cellsOf cellsNd ((xs.take k).map ndOf)) [.int .i64 2, .string ⟨#[]⟩, .int .u8 0, .int .i64 0, .string ⟨#[]⟩, .int .i64 (sl : Int), .int .u8 (c.kd : Int), .slice none 0 0] w6 HO6.out rfl _ rfl rfl (by intro u hu; simp at hu; rcases hu with rfl | rfl | rfl | rfl | rfl | rfl | rfl | rfl <;> rfl) rfl (by omega) HS6.out ?_; intro v7 w7 hown7 hc7 hsz7; obtain ⟨a7, c7, hv7, -, -, -⟩ := own_slice hown7; subst hv7; have hnS : w1.heap.size ∉ cv.ownBlock.toList := (fun hm => by have h1 := (HO6.out.lt _ (by simpa using hm)).1; have := HZ1.out; have := HZ2.out; omega); have hnS0 : w0.heap.size ∉ cv.ownBlock.toList := (fun hm => by have h1 := (HO6.out.lt _ (by simpa using hm)).1; have := HZ0.out; have := HZ2.out; omega); have hnSe : w.heap.size ∉ cv.ownBlock.toList := (fun hm => by have h1 := (HO6.out.lt _ (by simpa using hm)).1; have := HZ2.out; omega); have hNd7 := (HNd6.out.alloc _).chg hc7 hnS; have hRd7 := (HRd6.out.alloc _).chg hc7 hnS0; have hE7 := (hc7.cell (b := w.heap.size) (by have := HS6.out; have := HZ2.out; simp; omega) hnSe).trans ((((Below.refl w6.heap.size w6).alloc (Nat.le_refl _) _).cell (p := ⟨w.heap.size, 0, none⟩) (by have := HS6.out; have := HZ2.out; show w.heap.size < _; omega)).trans HE6.out); have hB7 : Below w.heap.size w w7 := HB6.out.trans (((Below.refl w.heap.size w6).alloc HB6.out.size _).trans (hc7.below (by have := HB6.out.size; simp; omega) (fun g hg => by have h1 := (HO6.out.lt g (by simpa using hg)).1; have := HZ2.out; omega))); have HO7 := Lib.hid hown7; have HNd7 := Lib.hid hNd7; have HRd7 := Lib.hid hRd7; have HE7 := Lib.hid hE7; have HB7 := Lib.hid hB7; have HS7 := Lib.hid hsz7; have q7 := (hNd7.cell 7).trans rfl; have f7 := hNd7.frozen 7; have l7 := hNd7.lt; clear hown7 hc7 hsz7 hNd7 hRd7 hE7 hB7 hnS hnS0 hnSe p7))
      have hO8 := HO7.out
      have hc8 : Chg [w1.heap.size] w7 (w7.setCell ⟨w1.heap.size, 7, none⟩ (.slice a7 (k + 1) c7)) := (Chg.refl _ _).setCell (.inl (by simp)) _
      have HO8 : Hid ((w7.setCell ⟨w1.heap.size, 7, none⟩ (.slice a7 (k + 1) c7)).ownsRow w2.heap.size 57 8 (.slice a7 (k + 1) c7) (k + 1) (cellsOf cellsNd ((xs.take (k + 1)).map ndOf))) := by
        show World.ownsRow _ _ _ _ _ _ _
        rw [HTk.out]
        exact own_chg hO8 hc8 (fun g hg hm => by have h1 := (hO8.lt g hg).1; rw [List.mem_singleton.1 hm] at h1; have := HZ1.out; have := HZ2.out; omega)
      have HN8 : Hid (Blk (w7.setCell ⟨w1.heap.size, 7, none⟩ (.slice a7 (k + 1) c7)) w1.heap.size 57 #[.int .i64 4, .string ⟨#[43]⟩, .int .u8 0, .int .i64 0, .string ⟨#[]⟩, .int .i64 0, .int .u8 0, .slice a7 (k + 1) c7]) := HNd7.out.set_ 7 _
      have HR8 : Hid (Blk (w7.setCell ⟨w1.heap.size, 7, none⟩ (.slice a7 (k + 1) c7)) w0.heap.size 57 ndZ) := HRd7.out.chg hc8 (by have := HZ0.out; have := HZ1.out; simp; omega)
      have HE8 : Hid ((w7.setCell ⟨w1.heap.size, 7, none⟩ (.slice a7 (k + 1) c7)).cell? ⟨w.heap.size, 0, none⟩ = some (.int .i64 4)) := (hc8.cell (b := w.heap.size) (by have := HB7.out.size; have := HZ2.out; have := HSz.out; have := HS7.out; have := HS6.out; omega) (by have := HZ1.out; simp; omega)).trans HE7.out
      have HB8 : Hid (Below w.heap.size w (w7.setCell ⟨w1.heap.size, 7, none⟩ (.slice a7 (k + 1) c7))) := HB7.out.trans (hc8.below HB7.out.size (by have := HZ1.out; simp; omega))
      have HS8 : Hid (w2.heap.size ≤ (w7.setCell ⟨w1.heap.size, 7, none⟩ (.slice a7 (k + 1) c7)).heap.size) := by have h1 := HS7.out; have h2 := HS6.out; have h3 := hc8.size; show _ ≤ _; omega
      clear hO8 hc8 q7 f7 l7
      go_roundw
      case rel => exact ⟨k + 1, .slice a7 (k + 1) c7, by omega, by go_num, HO8.out, HN8.out, HR8.out, HE8.out, HB8.out, HS8.out⟩
      case measure => (simp [intOf] <;> try omega)
    · have q0 : decide ((k : Int) < (n : Int)) = false := by simp; omega
      have hke : k = n := by omega
      subst hke
      have hO := HO.out
      rw [List.take_of_length_le (by rw [HN.out]; exact Nat.le_refl _)] at hO
      obtain ⟨a2, c2, hv, hcc, hcm, hA2⟩ := own_slice hO
      subst hv
      have HM := Lib.hid (match_plus 4 0 ⟨0, 0, ⟨#[]⟩⟩ 0 (xs.map ndOf) a2 c2 wr hA2 (by rw [List.length_map, HN.out]; exact hcc) hcm)
      have hll : (xs.map ndOf).length = k := by rw [List.length_map, HN.out]
      rw [hll] at HM
      have e0 := HE.out
      have hlr1 : w1.heap.size < wr.heap.size := HNr.out.lt
      have hlr0 : w0.heap.size < wr.heap.size := HRr.out.lt
      have LD := Lib.hid (nd_load 4 ⟨#[43]⟩ 0 0 ⟨#[]⟩ 0 0 a2 k c2 HNr.out)
      rw [HBt.out] at HM
      clear HBt
      clear hO hA2 hll HO
      go_wp2_with (first | (guard_target =~ wpList _ _ _ (Oper.mk _ (Op.load 57 _) _ _ _ _ :: _) _ _; refine wpList_loadV rfl 57 _ rfl rfl LD.out ?_))
      refine HM.out.mono ?_
      rintro e w5 ⟨rfl, hb5⟩
      have hNd5 : Blk w5 w1.heap.size 57 #[.int .i64 4, .string ⟨#[43]⟩, .int .u8 0, .int .i64 0, .string ⟨#[]⟩, .int .i64 0, .int .u8 0, .slice a2 k c2] := (hb5.block _ hlr1).trans HNr.out
      have hRd5 : Blk w5 w0.heap.size 57 ndZ := (hb5.block _ hlr0).trans HRr.out
      have HB5 : Hid (Below w.heap.size w w5) := HB.out.trans (hb5.mono HB.out.size)
      have HNd5 := Lib.hid hNd5
      have HRd5 := Lib.hid hRd5
      clear hb5 hNd5 hRd5 e0
      cases bt with
      | false =>
        obtain ⟨s1, s2, s3⟩ := nd_end (w := w) (W := w5) (B := w0.heap.size) 0 ⟨#[]⟩ 0 0 ⟨#[]⟩ 0 0 none 0 0 HRd5.out (by have := HZ0.out; omega) HB5.out
        have S1 := Lib.hid s1
        have S2 := Lib.hid s2
        have S3 := Lib.hid s3
        clear s1 s2 s3
        go_wp2_with (first | (guard_target =~ wpList _ _ _ (Oper.mk _ (Op.store 57 _ _) _ _ _ _ :: _) _ _; refine wpList_skp rfl (exec_store rfl rfl rfl S1.out) ?_))
        exact bodyPost_ret (results_cell_tmp Try.results23 _ _ rfl rfl S2.out) rfl ⟨⟨none, 0, rfl⟩, S3.out⟩
      | true =>
        have LD5 := Lib.hid (nd_load 4 ⟨#[43]⟩ 0 0 ⟨#[]⟩ 0 0 a2 k c2 HNd5.out)
        have HT := Lib.hid (typeOf_plus 0 ⟨0, 0, ⟨#[]⟩⟩ 0 k a2 c2 w5)
        go_wp2_with (first | (guard_target =~ wpList _ _ _ (Oper.mk _ (Op.load 57 _) _ _ _ _ :: _) _ _; refine wpList_loadV rfl 57 _ rfl rfl LD5.out ?_))
        refine HT.out.mono ?_
        rintro e w6 ⟨rfl, hb6⟩
        have hNd6 : Blk w6 w1.heap.size 57 #[.int .i64 4, .string ⟨#[43]⟩, .int .u8 0, .int .i64 0, .string ⟨#[]⟩, .int .i64 0, .int .u8 0, .slice a2 k c2] := (hb6.block _ HNd5.out.lt).trans HNd5.out
        have hRd6 : Blk w6 w0.heap.size 57 ndZ := (hb6.block _ HRd5.out.lt).trans HRd5.out
        have HB6 : Hid (Below w.heap.size w w6) := HB5.out.trans (hb6.mono HB5.out.size)
        have pc := (hNd6.cell 6).trans rfl
        have pf := hNd6.frozen 6
        have pl := hNd6.lt
        have hc7 : Chg [w1.heap.size] w6 (w6.setCell ⟨w1.heap.size, 6, none⟩ (.int .u8 1)) := (Chg.refl _ _).setCell (.inl (by simp)) _
        have hNd7 : Blk (w6.setCell ⟨w1.heap.size, 6, none⟩ (.int .u8 1)) w1.heap.size 57 #[.int .i64 4, .string ⟨#[43]⟩, .int .u8 0, .int .i64 0, .string ⟨#[]⟩, .int .i64 0, .int .u8 1, .slice a2 k c2] := hNd6.set_ 6 _
        have hRd7 : Blk (w6.setCell ⟨w1.heap.size, 6, none⟩ (.int .u8 1)) w0.heap.size 57 ndZ := hRd6.chg hc7 (by have := HZ0.out; have := HZ1.out; simp; omega)
        obtain ⟨w7, hw7⟩ : ∃ w7, w6.setCell ⟨w1.heap.size, 6, none⟩ (.int .u8 1) = w7 := ⟨_, rfl⟩
        rw [hw7] at hc7 hNd7 hRd7
        have HB7 : Hid (Below w.heap.size w w7) := HB6.out.trans (hc7.below HB6.out.size (by have := HZ1.out; simp; omega))
        obtain ⟨s1, s2, s3⟩ := nd_end (w := w) (W := w7) (B := w0.heap.size) 4 ⟨#[43]⟩ 0 0 ⟨#[]⟩ 0 1 a2 k c2 hRd7 (by have := HZ0.out; omega) HB7.out
        have LD7 := Lib.hid (nd_load 4 ⟨#[43]⟩ 0 0 ⟨#[]⟩ 0 1 a2 k c2 hNd7)
        have S1 := Lib.hid s1
        have S2 := Lib.hid s2
        have S3 := Lib.hid s3
        clear s1 s2 s3 hb6 hNd6 hRd6 hc7 hNd7 hRd7
        go_wp2_with (first | (guard_target =~ wpList _ _ _ (Oper.mk _ (Op.load 57 _) _ _ _ _ :: _) _ _; refine wpList_loadV rfl 57 _ rfl rfl LD7.out ?_) | (guard_target =~ wpList _ _ _ (Oper.mk _ (Op.store 57 _ _) _ _ _ _ :: _) _ _; refine wpList_skp rfl (exec_store rfl rfl rfl S1.out) ?_))
        exact bodyPost_ret (results_cell_tmp Try.results23 _ _ rfl rfl S2.out) rfl ⟨⟨a2, c2, rfl⟩, S3.out⟩
end Go.Proofs.Ytmfdnphjhbbkiaa

/- The walks of deep, right and what right calls; of Deep and Right. -/
set_option linter.unusedSimpArgs false
set_option linter.unusedVariables false
set_option maxRecDepth 100000
namespace Go.Proofs.Ytmfdnphjhbbkiaa
open Go.RowKit

theorem int_max {a b c : Nat} (h : c = max a (1 + b)) : Value.int .i64 (if (a : Int) < 1 + (b : Int) then 1 + (b : Int) else (a : Int)) = .int .i64 (c : Int) := by
  subst h; congr 1; split <;> omega
theorem int_max2 {a b c : Nat} (h : c = max a (1 + b)) : Value.int .i64 (max (a : Int) (1 + (b : Int))) = .int .i64 (c : Int) := by
  subst h; congr 1; omega
end Go.Proofs.Ytmfdnphjhbbkiaa

/- The walks of right, its closure, slices.IndexFunc and ContainsFunc at it, and of Right. -/
set_option linter.unusedSimpArgs false
set_option linter.unusedVariables false
set_option maxRecDepth 100000
namespace Go.Proofs.Ytmfdnphjhbbkiaa
open Go.RowKit

/-- What is known of right, with so many levels, of trees of so many. -/
def RightIs (n l : Nat) : Prop := ∀ (y : XM) (W : World), XAt W.heap.size W n y → Calls Try.prog 25 #[y.v, .int .i64 (l : Int)] W fun e w' => e = .returned (.bool (rightX l y.t)) ∧ Below W.heap.size W w'

theorem right_clo (n l : Nat) (hl : l ≤ 1000) (IH : RightIs n l) (y : XM) (g : Nat) (W : World) (hy : XAt W.heap.size W n y) (hg : W.cell? ⟨g, 0, none⟩ = some (.int .i64 ((l + 1 : Nat) : Int))) :
    Calls Try.prog 35 #[.agg #[.int .i64 y.t.lab.kd, .int .u8 y.t.lab.v.k, .int .i64 y.t.lab.v.n, .string y.t.lab.v.s, .string y.t.lab.tb, .string y.t.lab.nm, .string y.t.lab.op, .slice y.a y.t.args.length y.cap], .pointer (some ⟨g, 0, none⟩)] W fun e w' => e = .returned (.bool (!rightX l y.t)) ∧ Below W.heap.size W w' := by
  have HD := Lib.hid (fun V (hb : Below W.heap.size W V) => IH y V (hy.later hb))
  have HX := Lib.hid (Slot8.new W 54 (.int .i64 y.t.lab.kd) (.int .u8 y.t.lab.v.k) (.int .i64 y.t.lab.v.n) (.string y.t.lab.v.s) (.string y.t.lab.tb) (.string y.t.lab.nm) (.string y.t.lab.op) (.slice y.a y.t.args.length y.cap))
  have HB0 : Hid (∀ o, Below W.heap.size W (W.alloc o)) := fun o => (Below.refl _ W).alloc (Nat.le_refl _) _
  have hq1 : IntKind.i64.wrap (((l + 1 : Nat) : Int) - 1) = (l : Int) := by rw [show ((l + 1 : Nat) : Int) - 1 = (l : Int) by omega]; exact IntWalk.i64_in _ (by omega)
  have hglt := World.block_lt_of_cell? _ _ hg
  rw [XM.v_eq] at HD
  generalize rightX l y.t = d at *
  generalize hQ : ((l + 1 : Nat) : Int) = Q at *
  clear hy IH
  obtain ⟨x0, x1, x2, x3, x4, x5, x6, x7⟩ := HX.out
  go_enter Try.func35, Try.ntmps35
  go_wp2_with fail
  refine (HD.out _ (HB0.out _)).mono ?_
  rintro e w1 ⟨rfl, hb1⟩
  have HB1 := Lib.hid ((HB0.out _).trans (hb1.mono (Nat.le_of_lt (box8 _ _))))
  clear hb1 x0 x1 x2 x3 x4 x5 x6 x7
  go_wp2
  go_ret
  exact ⟨rfl, HB1.out⟩

set_option maxHeartbeats 1000000 in
theorem right_idx (n l : Nat) (hl : l ≤ 1000) (IH : RightIs n l) (t : Ex) (a : Option Addr) (cap : Nat) (g : Nat) (w : World) (h : XAt w.heap.size w (n + 1) ⟨t, a, cap⟩) (hg : w.cell? ⟨g, 0, none⟩ = some (.int .i64 ((l + 1 : Nat) : Int))) :
    Calls Try.prog 36 #[.slice a t.args.length cap, .func (.func 35) #[] #[.pointer (some ⟨g, 0, none⟩)]] w fun e w' => ∃ r : Int, e = .returned (.int .i64 r) ∧ decide (0 ≤ r) = (!t.args.all (rightX l)) ∧ Below w.heap.size w w' := by
  have HA := Lib.hid h
  have hlen := h.fair.2.1
  have hcap := h.fair.2.2
  simp only at hlen hcap
  have HCl := Lib.hid (fun y V (hb : Below w.heap.size w V) hy => right_clo n l hl IH y g V hy ((hb.cell (p := ⟨g, 0, none⟩) (World.block_lt_of_cell? _ _ hg)).trans hg))
  obtain ⟨m, hm⟩ : ∃ m, t.args.length = m := ⟨_, rfl⟩
  rw [hm] at hlen ⊢
  have HM := Lib.hid hm
  clear h hm hg IH
  go_enter Try.func36, Try.ntmps36
  go_wp2
  go_loopw [8] (fun i wr => ∃ k : Nat, k ≤ m ∧ i = .int .i64 k ∧ Hid ((t.args.take k).all (rightX l) = true) ∧ Hid (Below w.heap.size w wr)) (fun i _ => m - (intOf i).toNat)
  case atStart => exact ⟨0, by omega, rfl, by simp [Hid], Below.refl _ _⟩
  case round =>
    obtain ⟨k, hk, rfl, HI, HBr⟩ := hrel
    by_cases hlt : k < m
    · have hkl : k < t.args.length := by rw [HM.out]; exact hlt
      obtain ⟨y, hy, hAy, b, o, hab, hbN, hKid⟩ := (HA.out.later HBr.out).kid8 (k := k) hkl
      simp only at hab hy
      subst hab
      obtain ⟨y0, y1, y2, y3, y4, y5, y6, y7⟩ := hKid
      have HTk : Hid ((t.args.take (k + 1)).all (rightX l) = rightX l y.t) := by
        rw [List.take_succ_eq_append_getElem hkl, List.all_append, HI.out, ← hy]; simp [Hid]
      have HTf : Hid (rightX l y.t = false → t.args.all (rightX l) = false) := fun hf => by
        rw [List.all_eq_false]; exact ⟨_, List.getElem_mem hkl, by rw [← hy, hf]; simp⟩
      have HY := Lib.hid (HCl.out y wr HBr.out hAy)
      generalize rightX l y.t = d at *
      clear hy hAy HA hkl HI HCl
      go_wp2_with fail
      refine HY.out.mono ?_
      rintro e w2 ⟨rfl, hb2⟩
      have HB2 := Lib.hid (HBr.out.trans (hb2.mono HBr.out.size))
      clear hb2 HY y0 y1 y2 y3 y4 y5 y6 y7
      cases d with
      | true =>
        go_wp2
        go_roundw
        case rel => exact ⟨k + 1, by omega, by go_num, HTk.out, HB2.out⟩
        case measure => simp [intOf]; omega
      | false =>
        go_wp2
        go_ret
        exact ⟨k, rfl, by rw [HTf.out (by trivial)]; simp, HB2.out⟩
    · have HT : Hid (t.args.all (rightX l) = true) := by
        have := HI.out
        rwa [show k = m by omega, ← HM.out, List.take_length] at this
      go_wp2
      go_ret
      exact ⟨-1, rfl, by rw [HT.out]; rfl, HBr.out⟩

theorem right_con (n l : Nat) (hl : l ≤ 1000) (IH : RightIs n l) (t : Ex) (a : Option Addr) (cap : Nat) (g : Nat) (w : World) (h : XAt w.heap.size w (n + 1) ⟨t, a, cap⟩) (hg : w.cell? ⟨g, 0, none⟩ = some (.int .i64 ((l + 1 : Nat) : Int))) :
    Calls Try.prog 26 #[.slice a t.args.length cap, .func (.func 35) #[] #[.pointer (some ⟨g, 0, none⟩)]] w fun e w' => e = .returned (.bool (!t.args.all (rightX l))) ∧ Below w.heap.size w w' := by
  have HC := Lib.hid (right_idx n l hl IH t a cap g w h hg)
  clear h hg
  generalize t.args.all (rightX l) = d at *
  go_enter Try.func26, Try.ntmps26
  go_wp2_with fail
  refine HC.out.mono ?_
  rintro e w1 ⟨r, rfl, hr, hb⟩
  have HR := Lib.hid hr
  clear hr HC
  go_wp2
  go_ret
  exact ⟨ret_b HR.out, hb⟩

set_option maxHeartbeats 2000000 in
theorem right_is : ∀ (n l : Nat), l ≤ 1000 → RightIs n l
  | 0, _, _ => fun _ _ h => h.elim
  | n + 1, 0, _ => fun x w h => by
    rw [XM.v_eq]
    have HB0 : Hid (∀ o o', Below w.heap.size w ((w.alloc o).alloc o')) := fun o o' => ((Below.refl _ w).alloc (Nat.le_refl _) _).alloc (by simp) _
    clear h
    go_enter Try.func25, Try.ntmps25
    go_wp2
    go_ret
    exact ⟨rfl, HB0.out _ _⟩
  | n + 1, l + 1, hl => fun ⟨t, a, cap⟩ w h => by
    rw [XM.v_eq]
    have IHl := right_is n l (by omega)
    have hF := h.fair.1
    simp only at hF ⊢
    have HV := Lib.hid (fun W => valid_any ⟨t, a, cap⟩ W hF)
    rw [XM.v_eq] at HV
    simp only at HV
    have hrx : rightX (l + 1) t = (t.lab.ok t.args.length && t.args.all (rightX l)) := rfl
    have HCn := Lib.hid (fun g W (hb : Below w.heap.size w W) hg => right_con n l (by omega) IHl t a cap g W (h.later hb) hg)
    rw [hrx]
    generalize t.lab.ok t.args.length = v at *
    generalize t.args.all (rightX l) = d at *
    obtain ⟨w0, hw0⟩ : ∃ w0, w.alloc (.cells #[.int .i64 t.lab.kd, .int .u8 t.lab.v.k, .int .i64 t.lab.v.n, .string t.lab.v.s, .string t.lab.tb, .string t.lab.nm, .string t.lab.op, .slice a t.args.length cap] 54) = w0 := ⟨_, rfl⟩
    have HS := Lib.hid (Slot8.new w 54 (.int .i64 t.lab.kd) (.int .u8 t.lab.v.k) (.int .i64 t.lab.v.n) (.string t.lab.v.s) (.string t.lab.tb) (.string t.lab.nm) (.string t.lab.op) (.slice a t.args.length cap))
    have HB0 : Hid (Below w.heap.size w w0) := by rw [← hw0]; exact (Below.refl _ w).alloc (Nat.le_refl _) _
    have hs0 : w0.heap.size = w.heap.size + 1 := by rw [← hw0]; simp
    rw [hw0] at HS
    have q0 : ((((l + 1 : Nat) : Int)) == 0) = false := by simp; omega
    generalize hQ : ((l + 1 : Nat) : Int) = Q at *
    obtain ⟨w1, hw1⟩ : ∃ w1, w0.alloc (.cells #[.int .i64 Q] 3) = w1 := ⟨_, rfl⟩
    have HB1 : Hid (Below w0.heap.size w0 w1) := by rw [← hw1]; exact (Below.refl _ w0).alloc (Nat.le_refl _) _
    have hs1 : w1.heap.size = w.heap.size + 2 := by rw [← hw1]; simp [hs0]
    have hc1 : w1.cell? ⟨w.heap.size + 1, 0, none⟩ = some (.int .i64 Q) := by rw [← hw1, ← hs0]; simp
    have HS1 := Lib.hid (HS.out.later (by omega) HB1.out)
    have HW1 := Lib.hid (HB0.out.trans (HB1.out.mono HB0.out.size))
    have HC1 := Lib.hid hc1
    have HZ := Lib.hid hs1
    obtain ⟨x0, x1, x2, x3, x4, x5, x6, x7⟩ := HS1.out
    clear h hF IHl hs1 hrx HS HB0 HB1
    cases v with
    | false =>
      go_enter Try.func25, Try.ntmps25
      go_wp2_with fail
      refine (HV.out _).mono ?_
      rintro e w2 ⟨rfl, hb2⟩
      have HB2 := Lib.hid (HW1.out.trans (hb2.mono (by have := HZ.out; omega)))
      clear hb2 x0 x1 x2 x3 x4 x5 x6 x7 hc1
      go_wp2
      go_ret
      exact ⟨rfl, HB2.out⟩
    | true =>
      go_enter Try.func25, Try.ntmps25
      go_wp2_with fail
      refine (HV.out _).mono ?_
      rintro e w2 ⟨rfl, hb2⟩
      have HB2 := Lib.hid (HW1.out.trans (hb2.mono (by have := HZ.out; omega)))
      have hc2 := (hb2.cell (p := ⟨w.heap.size + 1, 0, none⟩) (by have := HZ.out; show w.heap.size + 1 < w1.heap.size; omega)).trans HC1.out
      have HY := Lib.hid (HCn.out (w.heap.size + 1) w2 HB2.out hc2)
      clear x0 x1 x2 x3 x4 x5 x6 x7 hc1
      obtain ⟨x0, x1, x2, x3, x4, x5, x6, x7⟩ := HS1.out.later (by have := HZ.out; omega) hb2
      clear hb2 HCn HV
      go_wp2_with fail
      refine HY.out.mono ?_
      rintro e w3 ⟨rfl, hb3⟩
      have HB3 := Lib.hid (HB2.out.trans (hb3.mono HB2.out.size))
      clear hb3 x0 x1 x2 x3 x4 x5 x6 x7 hc2
      go_wp2
      go_ret
      exact ⟨ret_b (by simp), HB3.out⟩

theorem Right_any20 (n : Nat) (x : XM) (w : World) (h : XAt w.heap.size w n x) :
    Calls Try.prog 20 #[x.v] w fun e w' => e = .returned (.bool (rightX 20 x.t)) ∧ Below w.heap.size w w' := by
  have HD := Lib.hid (fun W (hb : Below w.heap.size w W) => right_is n 20 (by omega) x W (h.later hb))
  have HX := Lib.hid (Slot8.new w 54 (.int .i64 x.t.lab.kd) (.int .u8 x.t.lab.v.k) (.int .i64 x.t.lab.v.n) (.string x.t.lab.v.s) (.string x.t.lab.tb) (.string x.t.lab.nm) (.string x.t.lab.op) (.slice x.a x.t.args.length x.cap))
  have HB0 : Hid (∀ o, Below w.heap.size w (w.alloc o)) := fun o => (Below.refl _ w).alloc (Nat.le_refl _) _
  rw [XM.v_eq] at HD ⊢
  generalize rightX 20 x.t = d at *
  clear h
  obtain ⟨x0, x1, x2, x3, x4, x5, x6, x7⟩ := HX.out
  go_enter Try.func20, Try.ntmps20
  go_wp2_with fail
  refine (HD.out _ (HB0.out _)).mono ?_
  rintro e w1 ⟨rfl, hb1⟩
  have HB1 := Lib.hid ((HB0.out _).trans (hb1.mono (Nat.le_of_lt (box8 _ _))))
  clear hb1 x0 x1 x2 x3 x4 x5 x6 x7
  go_wp2
  go_ret
  exact ⟨rfl, HB1.out⟩
end Go.Proofs.Ytmfdnphjhbbkiaa

/- The walks of descend and visit at the closures of Columns and Aggregates, and of these. -/
set_option linter.unusedSimpArgs false
set_option linter.unusedVariables false
set_option maxRecDepth 100000
namespace Go.Proofs.Ytmfdnphjhbbkiaa
open Go.RowKit

/-- What is picked of an expression: of kind kd; within one of these only where 'deep'. -/
def pickX (kd : Int) (deep : Bool) : Ex → List Ex
  | .mk l args => pickL kd (.mk l args) ++ if l.kd = kd ∧ deep = false then [] else args.attach.flatMap fun x => pickX kd deep x.1
termination_by e => SizeOf.sizeOf e
decreasing_by exact Rose.size_arg x.2
theorem pickX_eq (kd : Int) (deep : Bool) (e : Ex) : pickX kd deep e = pickL kd e ++ if e.lab.kd = kd ∧ deep = false then [] else e.args.flatMap (pickX kd deep) := by
  obtain ⟨l, args⟩ := e
  rw [pickX, Rose.args, Rose.lab]
  congr 1
  split
  · rfl
  · rw [List.flatMap_def, List.flatMap_def, List.attach_map_val (f := pickX kd deep)]
theorem pickL_len (kd : Int) (e : Ex) : (pickL kd e).length ≤ 1 := by unfold pickL; split <;> simp
theorem pickX_len (kd : Int) (deep : Bool) (e : Ex) : (pickX kd deep e).length ≤ e.count := by
  induction e using Rose.ind with
  | h l args ih =>
    rw [pickX_eq, Rose.count_eq, List.length_append]
    have h1 := pickL_len kd (Rose.mk l args)
    have h2 : (args.flatMap (pickX kd deep)).length ≤ (args.map Rose.count).sum := by
      clear h1
      induction args with
      | nil => simp
      | cons y r ih2 =>
        have := ih y List.mem_cons_self
        have := ih2 (fun z hz => ih z (List.mem_cons_of_mem _ hz))
        simp only [List.flatMap_cons, List.length_append, List.map_cons, List.sum_cons]; omega
    split
    · simp only [List.length_nil]; omega
    · show _ + (args.flatMap (pickX kd deep)).length ≤ 1 + (args.map Rose.count).sum
      omega
theorem pickT_len (kd : Int) (deep : Bool) (l : List Ex) (k : Nat) : ((l.take k).flatMap (pickX kd deep)).length ≤ ((l.take k).map Rose.count).sum := by
  generalize l.take k = q
  induction q with
  | nil => simp
  | cons y r ih =>
    have := pickX_len kd deep y
    simp only [List.flatMap_cons, List.length_append, List.map_cons, List.sum_cons]; omega

theorem Picked.len {G : Nat} {W W' : World} {n : Nat} {cv cv' : Value} {L L' : List XM} {p : List Ex} (h : Picked G W n cv L p W' cv' L') : L'.length = L.length + p.length := by
  have := congrArg List.length h.list
  simpa using this
/-- A block that picking leaves as it is. -/
theorem Picked.keepB {G : Nat} {W W' : World} {n : Nat} {cv cv' : Value} {L L' : List XM} {p : List Ex} (h : Picked G W n cv L p W' cv' L') {b : Nat} (hb : b < W.heap.size) (h1 : b ≠ G) (h2 : cv.ownBlock ≠ some b) : W'.heap[b]? = W.heap[b]? :=
  h.chg.block b hb (fun hm => by rcases List.mem_cons.1 hm with hm | hm; exact h1 hm; rw [Option.mem_toList] at hm; exact h2 hm)
theorem Picked.below {G : Nat} {W W' : World} {n : Nat} {cv cv' : Value} {L L' : List XM} {p : List Ex} (h : Picked G W n cv L p W' cv' L') (hP : PickIn G W n cv L) : Below G W W' :=
  h.chg.below (Nat.le_of_lt hP.lt) (fun k hk => by
    rcases List.mem_cons.1 hk with hk | hk
    · omega
    · rw [Option.mem_toList] at hk; have := (hP.kids.row.lt k hk).1; omega)

def RetPk (G : Nat) (W : World) (n : Nat) (cv : Value) (L : List XM) (p : List Ex) (e : Ending) (W' : World) : Prop :=
  e = .returned (.tuple #[]) ∧ ∃ cv' L', Picked G W n cv L p W' cv' L'

set_option maxHeartbeats 4000000 in
theorem aggsDesc_is (G N : Nat) : ∀ (n : Nat) (x : XM) (W : World) (cv : Value) (L : List XM), n ≤ N → PickIn G W N cv L → XAt G W n x → x.t.allB (fun _ k => decide (k ≤ 1000000)) = true → L.length + x.t.count ≤ 1000000 →
    Calls Try.prog 37 #[x.v, .func (.func 30) #[] #[.pointer (some ⟨G, 0, none⟩)]] W (RetPk G W N cv L (pickX 6 false x.t))
  | 0, _, _, _, _, _, _, h, _, _ => h.elim
  | n + 1, x, W, cv, L, hn, hP, h, hall, hlen => by
    rw [XM.v_eq]
    have HA := Lib.hid h
    have HAll : Hid (∀ y ∈ x.t.args, y.allB (fun _ k => decide (k ≤ 1000000)) = true) := by
      rw [Rose.allB_eq, Bool.and_eq_true, List.all_eq_true] at hall; exact hall.2
    have hax := h.fair.2.1
    have hcx := h.fair.2.2
    have HPk := Lib.hid (pickX_eq 6 false x.t)
    have hG := hP.lt
    have HGlt := Lib.hid hG
    have HP := Lib.hid hP
    have HLen := Lib.hid hlen
    have HDo := Lib.hid (fun V cv' L' hP' hX' hL' => aggsDo_any G N x V cv' L' hP' hX' hall hL')
    have HXA : Hid (XAt G W N x) := RoseAt.ups h hn
    have IH : Hid (∀ (y : XM) (V : World) (cv' : Value) (L' : List XM), PickIn G V N cv' L' → XAt G V n y → y.t.allB (fun _ k => decide (k ≤ 1000000)) = true → L'.length + y.t.count ≤ 1000000 → Calls Try.prog 37 #[.agg #[.int .i64 y.t.lab.kd, .int .u8 y.t.lab.v.k, .int .i64 y.t.lab.v.n, .string y.t.lab.v.s, .string y.t.lab.tb, .string y.t.lab.nm, .string y.t.lab.op, .slice y.a y.t.args.length y.cap], .func (.func 30) #[] #[.pointer (some ⟨G, 0, none⟩)]] V (RetPk G V N cv' L' (pickX 6 false y.t))) := fun y V cv' L' h1 h2 h3 h4 => by
      have := aggsDesc_is G N n y V cv' L' (by omega) h1 h2 h3 h4
      rw [XM.v_eq] at this; exact this
    have HX := Lib.hid (Slot8.new W 54 (.int .i64 x.t.lab.kd) (.int .u8 x.t.lab.v.k) (.int .i64 x.t.lab.v.n) (.string x.t.lab.v.s) (.string x.t.lab.tb) (.string x.t.lab.nm) (.string x.t.lab.op) (.slice x.a x.t.args.length x.cap))
    obtain ⟨w0, hw0⟩ : ∃ w0, W.alloc (.cells #[.int .i64 x.t.lab.kd, .int .u8 x.t.lab.v.k, .int .i64 x.t.lab.v.n, .string x.t.lab.v.s, .string x.t.lab.tb, .string x.t.lab.nm, .string x.t.lab.op, .slice x.a x.t.args.length x.cap] 54) = w0 := ⟨_, rfl⟩
    have HB0 : Hid (Below W.heap.size W w0) := by rw [← hw0]; exact (Below.refl _ W).alloc (Nat.le_refl _) _
    have hs0 : w0.heap.size = W.heap.size + 1 := by rw [← hw0]; simp
    rw [hw0] at HX
    have HZ := Lib.hid hs0
    have hb0 := HB0.out
    have hP0 := hP.keep hb0
    have hY := HDo.out w0 cv L hP0 (((HXA.out.below (hb0.mono (Nat.le_of_lt hG)))).mono (by omega)) (by have := x.t.count_pos; omega)
    have HY := Lib.hid hY
    have HP0 := Lib.hid hP0
    have hcvB : cv.ownBlock ≠ some W.heap.size := fun he => by have := own_lt hP.kids.row he; omega
    have HCB := Lib.hid hcvB
    clear h hP hall hlen hG hs0 hb0 hP0 hY hcvB HDo
    obtain ⟨x0, x1, x2, x3, x4, x5, x6, x7⟩ := HX.out
    go_enter Try.func37, Try.ntmps37
    go_wp2_with fail
    refine HY.out.mono ?_
    rintro e w1 ⟨rfl, cv1, L1, hpk1⟩
    have HPk1 := Lib.hid hpk1
    have hkb : w1.heap[W.heap.size]? = w0.heap[W.heap.size]? := hpk1.keepB (by have := HZ.out; omega) (by have := HGlt.out; omega) HCB.out
    have z7 : w1.cell? ⟨W.heap.size, 7, none⟩ = some (.slice x.a x.t.args.length x.cap) := (World.cell?_of_block (a := ⟨W.heap.size, 7, none⟩) hkb).trans HX.out.c7
    clear hpk1 hkb HY x0 x1 x2 x3 x4 x5 x6 x7
    by_cases hk : x.t.lab.kd = 6
    · have qk : (x.t.lab.kd != 6) = false := by simp [hk]
      have hpx : pickX 6 false x.t = pickL 6 x.t := by rw [HPk.out, if_pos ⟨hk, by trivial⟩, List.append_nil]
      have HFin : Hid (Picked G W N cv L (pickX 6 false x.t) w1 cv1 L1) := by
        rw [hpx]; exact (Picked.none HP.out HB0.out).trans HPk1.out
      clear hk hpx z7
      go_wp2
      exact bodyPost_ret (v := .tuple #[]) (by simp [results, Try.results37, go_sem]) rfl ⟨rfl, cv1, L1, HFin.out⟩
    have qk : (x.t.lab.kd != 6) = true := by simpa using hk
    have HEq : Hid (pickX 6 false x.t = pickL 6 x.t ++ x.t.args.flatMap (pickX 6 false)) := by rw [HPk.out, if_neg (fun h => hk h.1)]; rfl
    obtain ⟨t, a, cap⟩ := x
    obtain ⟨m, hm⟩ : ∃ m, t.args.length = m := ⟨_, rfl⟩
    have HM := Lib.hid hm
    simp only at hax hcx z7 HA HAll HPk HLen HEq HX HPk1 HXA hw0 ⊢
    rw [hm] at hax z7 HX hw0 ⊢
    clear hm
    go_wp2
    clear z7
    go_loopw [13] (fun i wr => ∃ (k : Nat) (cv2 : Value) (L2 : List XM), k ≤ m ∧ i = .int .i64 (k : Int) ∧ Hid (Picked G W N cv L (pickL 6 t ++ (t.args.take k).flatMap (pickX 6 false)) wr cv2 L2)) (fun i _ => m - (intOf i).toNat)
    case atStart => exact ⟨0, cv1, L1, by omega, rfl, by have := (Picked.none HP.out HB0.out).trans HPk1.out; simpa [Hid] using this⟩
    case round =>
      obtain ⟨k, cv2, L2, hk, rfl, HR⟩ := hrel
      by_cases hlt : k < m
      · have hkl : k < t.args.length := by rw [HM.out]; exact hlt
        have hbel := HR.out.below HP.out
        obtain ⟨y, hy, hAy, b, o, hab, hbN, hKid⟩ := (HA.out.below hbel).kid8 (k := k) hkl
        simp only at hab hy
        subst hab
        obtain ⟨y0, y1, y2, y3, y4, y5, y6, y7⟩ := hKid
        have hb1 : Below wr.heap.size wr (wr.alloc (.cells #[.int .i64 y.t.lab.kd, .int .u8 y.t.lab.v.k, .int .i64 y.t.lab.v.n, .string y.t.lab.v.s, .string y.t.lab.tb, .string y.t.lab.nm, .string y.t.lab.op, .slice y.a y.t.args.length y.cap] 54)) := (Below.refl _ wr).alloc (Nat.le_refl _) _
        have hGr : G ≤ wr.heap.size := Nat.le_of_lt HR.out.pick.lt
        have hcnt : L2.length + y.t.count ≤ 1000000 := by
          have h1 := HR.out.len
          have h2 := pickL_len 6 t
          have h3 := pickT_len 6 false t.args k
          have h4 := HLen.out
          have h5 := sum_take_succ hkl
          have h6 := sum_take_le t.args (k + 1)
          have h7 := t.count_eq
          rw [hy]
          simp only [List.length_append] at h1
          omega
        have HTk : Hid ((t.args.take (k + 1)).flatMap (pickX 6 false) = (t.args.take k).flatMap (pickX 6 false) ++ pickX 6 false y.t) := by
          rw [List.take_succ_eq_append_getElem hkl, List.flatMap_append, ← hy]; simp [Hid]
        have HY2 := Lib.hid (IH.out y _ cv2 L2 (HR.out.pick.keep hb1) (hAy.below (hb1.mono hGr)) (HAll.out y.t (by rw [hy]; exact List.getElem_mem hkl)) hcnt)
        have HB1 := Lib.hid hb1
        clear hbel hy hAy hb1 hGr hcnt hkl HA IH HAll
        go_wp2_with fail
        refine HY2.out.mono ?_
        rintro e w3 ⟨rfl, cv3, L3, hpk3⟩
        have HN : Hid (Picked G W N cv L (pickL 6 t ++ (t.args.take (k + 1)).flatMap (pickX 6 false)) w3 cv3 L3) := by
          have := HR.out.trans ((Picked.none HR.out.pick HB1.out).trans hpk3)
          rw [HTk.out, ← List.append_assoc]; exact this
        clear hpk3 HY2 HB1 y0 y1 y2 y3 y4 y5 y6 y7
        go_wp2
        go_roundw
        case rel => exact ⟨k + 1, cv3, L3, by omega, by go_num, HN.out⟩
        case measure => simp [intOf]; omega
      · have HFin : Hid (Picked G W N cv L (pickX 6 false t) wr cv2 L2) := by
          have := HR.out
          rw [show k = m by omega, ← HM.out, List.take_length] at this
          rw [HEq.out]; exact this
        go_wp2
        exact bodyPost_ret (v := .tuple #[]) (by simp [results, Try.results37, go_sem]) rfl ⟨rfl, cv2, L2, HFin.out⟩

theorem ok_len4 {l : Lb} {n : Nat} (h : l.ok n = true) : n ≤ 4 := by
  unfold Lb.ok takesB at h
  split at h
  · simp at h; omega
  · split at h
    · simp at h; omega
    · simp only [Bool.and_eq_true] at h
      have h1 := h.1.1.1
      repeat' split at h1
      all_goals first | (simp at h1; done) | (simp at h1; omega)
theorem right_all {n : Nat} {e : Ex} (h : rightX n e = true) : e.allB (fun _ k => decide (k ≤ 1000000)) = true := by
  rw [rightX_eq, Bool.and_eq_true] at h
  have h1 := h.1
  clear h
  induction e using Rose.ind with
  | h l args ih =>
    rw [Rose.allB_eq, Bool.and_eq_true, List.all_eq_true] at h1 ⊢
    exact ⟨by have := ok_len4 h1.1; simp; omega, fun x hx => ih x hx (h1.2 x hx)⟩

/-- What Columns and Aggregates hand back. -/
def RetL (w : World) (n : Nat) (p : List Ex) (e : Ending) (w' : World) : Prop :=
  ∃ (a : Option Addr) (cap : Nat) (L : List XM), e = .returned (.slice a L.length cap) ∧ L.length ≤ cap ∧ cap ≤ 9223372036854775807 ∧ L.map (·.t) = p ∧ Arr w'.heap.size w' a (cellsOf cellsX L) ∧ (∀ y ∈ L, XAt w'.heap.size w' n y) ∧ Below w.heap.size w w'

set_option maxHeartbeats 2000000 in
theorem aggsVisit_any (G n : Nat) (x : XM) (W : World) (cv : Value) (L : List XM) (hP : PickIn G W n cv L) (h : XAt G W n x) (hlen : L.length + x.t.count ≤ 1000000) :
    Calls Try.prog 29 #[.agg #[.int .i64 x.t.lab.kd, .int .u8 x.t.lab.v.k, .int .i64 x.t.lab.v.n, .string x.t.lab.v.s, .string x.t.lab.tb, .string x.t.lab.nm, .string x.t.lab.op, .slice x.a x.t.args.length x.cap], .func (.func 30) #[] #[.pointer (some ⟨G, 0, none⟩)]] W (RetPk G W n cv L (if rightX 20 x.t = true then pickX 6 false x.t else [])) := by
  have HX := Lib.hid (Slot8.new W 54 (.int .i64 x.t.lab.kd) (.int .u8 x.t.lab.v.k) (.int .i64 x.t.lab.v.n) (.string x.t.lab.v.s) (.string x.t.lab.tb) (.string x.t.lab.nm) (.string x.t.lab.op) (.slice x.a x.t.args.length x.cap))
  obtain ⟨w0, hw0⟩ : ∃ w0, W.alloc (.cells #[.int .i64 x.t.lab.kd, .int .u8 x.t.lab.v.k, .int .i64 x.t.lab.v.n, .string x.t.lab.v.s, .string x.t.lab.tb, .string x.t.lab.nm, .string x.t.lab.op, .slice x.a x.t.args.length x.cap] 54) = w0 := ⟨_, rfl⟩
  have HB0 : Hid (Below W.heap.size W w0) := by rw [← hw0]; exact (Below.refl _ W).alloc (Nat.le_refl _) _
  have hs0 : w0.heap.size = W.heap.size + 1 := by rw [← hw0]; simp
  rw [hw0] at HX
  have hG := hP.lt
  have HP := Lib.hid hP
  have HR := Lib.hid (fun V (hb : Below G W V) (hs : G ≤ V.heap.size) => Right_any20 n x V ((h.below hb).mono hs))
  rw [XM.v_eq] at HR
  have HD := Lib.hid (fun V (hr : rightX 20 x.t = true) (hb : Below W.heap.size W V) => aggsDesc_is G n n x V cv L (Nat.le_refl _) (HP.out.keep hb) (h.below (hb.mono (Nat.le_of_lt hG))) (right_all hr) hlen)
  rw [XM.v_eq] at HD
  have HZ := Lib.hid hs0
  have HGl := Lib.hid hG
  obtain ⟨r, hr⟩ : ∃ r, rightX 20 x.t = r := ⟨_, rfl⟩
  rw [hr] at HR HD ⊢
  obtain ⟨P, hPd⟩ : ∃ P, (if r = true then pickX 6 false x.t else []) = P := ⟨_, rfl⟩
  rw [hPd]
  have HPd := Lib.hid hPd
  clear h hP hlen hr hG hs0 hPd
  obtain ⟨x0, x1, x2, x3, x4, x5, x6, x7⟩ := HX.out
  go_enter Try.func29, Try.ntmps29
  go_wp2_with fail
  refine (HR.out _ (HB0.out.mono (Nat.le_of_lt HGl.out)) (by have := HZ.out; have := HGl.out; omega)).mono ?_
  rintro e w1 ⟨rfl, hb1⟩
  have HB1 := Lib.hid (HB0.out.trans (hb1.mono HB0.out.size))
  clear x0 x1 x2 x3 x4 x5 x6 x7
  obtain ⟨x0, x1, x2, x3, x4, x5, x6, x7⟩ := HX.out.later (by have := HZ.out; omega) hb1
  clear hb1 HR
  cases r with
  | false =>
    have HFin : Hid (Picked G W n cv L P w1 cv L) := by rw [← HPd.out]; exact Picked.none HP.out HB1.out
    go_wp2
    exact bodyPost_ret (v := .tuple #[]) (by simp [results, Try.results29, go_sem]) rfl ⟨rfl, cv, L, HFin.out⟩
  | true =>
    have HY := Lib.hid (HD.out w1 (by trivial) HB1.out)
    clear HD
    go_wp2_with fail
    refine HY.out.mono ?_
    rintro e w2 ⟨rfl, cv2, L2, hpk⟩
    have HFin : Hid (Picked G W n cv L P w2 cv2 L2) := by
      have := (Picked.none HP.out HB1.out).trans hpk
      rw [← HPd.out]; simpa [Hid] using this
    clear hpk HY x0 x1 x2 x3 x4 x5 x6 x7
    go_wp2
    exact bodyPost_ret (v := .tuple #[]) (by simp [results, Try.results29, go_sem]) rfl ⟨rfl, cv2, L2, HFin.out⟩

set_option maxHeartbeats 2000000 in
theorem aggs_any (n : Nat) (x : XM) (W : World) (h : XAt W.heap.size W n x) (hlen : x.t.count ≤ 1000000) :
    Calls Try.prog 22 #[x.v] W (RetL W n (if rightX 20 x.t = true then pickX 6 false x.t else [])) := by
  have HX := Lib.hid (Slot8.new W 54 (.int .i64 x.t.lab.kd) (.int .u8 x.t.lab.v.k) (.int .i64 x.t.lab.v.n) (.string x.t.lab.v.s) (.string x.t.lab.tb) (.string x.t.lab.nm) (.string x.t.lab.op) (.slice x.a x.t.args.length x.cap))
  rw [XM.v_eq]
  obtain ⟨w0, hw0⟩ : ∃ w0, W.alloc (.cells #[.int .i64 x.t.lab.kd, .int .u8 x.t.lab.v.k, .int .i64 x.t.lab.v.n, .string x.t.lab.v.s, .string x.t.lab.tb, .string x.t.lab.nm, .string x.t.lab.op, .slice x.a x.t.args.length x.cap] 54) = w0 := ⟨_, rfl⟩
  have hb0 : Below W.heap.size W w0 := by rw [← hw0]; exact (Below.refl _ W).alloc (Nat.le_refl _) _
  have hs0 : w0.heap.size = W.heap.size + 1 := by rw [← hw0]; simp
  rw [hw0] at HX
  obtain ⟨w1, hw1⟩ : ∃ w1, w0.alloc (.cells #[.slice none 0 0] 52) = w1 := ⟨_, rfl⟩
  have hb1 : Below w0.heap.size w0 w1 := by rw [← hw1]; exact (Below.refl _ w0).alloc (Nat.le_refl _) _
  have hs1 : w1.heap.size = W.heap.size + 2 := by rw [← hw1]; simp [hs0]
  have hv : Blk w1 w0.heap.size 52 #[.slice none 0 0] := by
    have := Blk.new w0 52 #[.slice none 0 0]
    rw [hw1] at this; exact this
  have hP : PickIn w0.heap.size w1 n (.slice none 0 0) [] := ⟨hv, KidsIn.nil _ _ _ _⟩
  have hbw : Below W.heap.size W w1 := hb0.trans (hb1.mono hb0.size)
  have HY := Lib.hid (aggsVisit_any w0.heap.size n x w1 (.slice none 0 0) [] hP ((h.below hbw).mono (by omega)) (by simpa using hlen))
  have HZ := Lib.hid hs0
  have HX1 := Lib.hid (HX.out.later (by omega) hb1)
  have HBw := Lib.hid hbw
  have HP := Lib.hid hP
  generalize (if rightX 20 x.t = true then pickX 6 false x.t else []) = P at *
  clear h hlen hb0 hs0 hb1 hs1 hv hP hbw HX
  obtain ⟨x0, x1, x2, x3, x4, x5, x6, x7⟩ := HX1.out
  go_enter Try.func22, Try.ntmps22
  go_wp2_with fail
  refine HY.out.mono ?_
  rintro e w2 ⟨rfl, cv, L, hpk⟩
  clear x0 x1 x2 x3 x4 x5 x6 x7
  obtain ⟨ac, cc, hcv, hcc, hcm, hA⟩ := own_slice hpk.pick.kids.row
  have hl : w2.cell? ⟨w0.heap.size, 0, none⟩ = some cv := (hpk.pick.var.cell 0).trans rfl
  rw [hcv] at hl
  have HB2 : Hid (Below W.heap.size W w2) := HBw.out.trans ((hpk.below HP.out).mono (by have := HZ.out; omega))
  have HA := Lib.hid hA
  have HK : Hid (∀ y ∈ L, XAt w2.heap.size w2 n y) := fun y hy => XIn.at_ ((hpk.pick.kids.kid y hy).imp fun b hb => hb.2.1)
  have HLt : Hid (L.map (·.t) = P) := by have := hpk.list; simpa [Hid] using this
  have HC := Lib.hid hcc
  have HM := Lib.hid hcm
  clear hpk hA hcv hcc hcm HY
  go_wp2
  go_ret
  exact ⟨ac, cc, L, rfl, HC.out, HM.out, HLt.out, HA.out, HK.out, HB2.out⟩
end Go.Proofs.Ytmfdnphjhbbkiaa
