/- Several texts of one proof, one behind the other. -/
import Derived.Test.YtbnddpicpomakaaDoorGPk10
set_option linter.unusedSimpArgs false
set_option linter.unusedVariables false

/- 'append(l, m...)' of rows of expressions; which parts of an expression are of a kind. -/
set_option linter.unusedSimpArgs false
set_option linter.unusedVariables false
set_option maxRecDepth 100000
namespace Go.Proofs.YtbnddpicpomakaaDoor
open Go.RowKit

section
variable {P : Program}
theorem run_appW (w : World) (base : Nat) (t ty e : TypeId) (i : TypeInfo) (zr : Value) (z bytes : Nat) (ht : P.underlying t = some (.slice e)) (hi : P.info? e = some i) (hz : i.zero = some zr) (hzs : zr.cells.size = z)
    (hsize : i.size = z) (hz0 : 0 < z) (hby : i.bytes = bytes) (hb1000 : bytes ≤ 1000)
    (v : Value) (n : Nat) (l : List Value) (hown : w.ownsRow base e z v n l) (N : Nat) (A : Option Addr) (m c : Nat) (news : List Value) (hA : Arr N w A news) (hl : news.length = m * z) (h1 : ∀ u ∈ news, u.oneCell' = true)
    (hlen : n + m < 100000000000) (hbase : base ≤ w.heap.size) :
    ∃ v' w', (Builtin.append_ #[t, t] ty #[v, .slice A m c]).run P w = .ok v' w' ∧ w'.ownsRow base e z v' (n + m) (l ++ news) ∧ w.grownBy w' v.ownBlock := by
  have hby2 : (n + m) * bytes ≤ 140737488355328 := by
    have : (n + m) * bytes ≤ 100000000000 * 1000 := Nat.mul_le_mul (by omega) hb1000
    omega
  cases A with
  | none =>
    have hn : news = [] := by
      rcases hA with h | ⟨b, o, h, _⟩
      · exact h
      · cases h
    subst hn
    have hm : m = 0 := by
      rcases Nat.eq_zero_or_pos m with h0 | h0
      · exact h0
      · have := Nat.mul_pos h0 hz0
        simp at hl; omega
    subst hm
    exact ⟨v, w, run_appNil w base t ty e i z ht hi v n l hown c, by simpa using hown, World.grownBy.refl w _⟩
  | some ad =>
    obtain ⟨v', w', h2, h3, h4, _⟩ := run_append_own (P := P) w base t ty e i zr z bytes ht hi hz hsize hby hzs hz0 v n l hown ad m c news hl (fun j u hu => by
      rcases hA with h | ⟨b, o, h, _, hc⟩
      · rw [h] at hu; simp at hu
      · simp only [Option.some.injEq] at h
        subst h
        have e1 : (⟨b, o, none⟩ : Addr).add j = ⟨b, o + j, none⟩ := by unfold Addr.add; split <;> simp_all
        rw [e1]; exact hc j u hu) h1 (by unfold maxLen; omega) hby2 hbase
    exact ⟨v', w', h2, h3, h4⟩

theorem wp_appW {o : Oper} {a : Act} {K : Act → World → Prop} {Q : Exit → Act → World → Prop} (s x : Operand) (t : TypeId)
    (ho : o.op = .call { callee := .builtin .append, args := #[s, x], argTypes := #[t, t] })
    (base : Nat) (e : TypeId) (i : TypeInfo) (zr : Value) (z bytes : Nat) (ht : P.underlying t = some (.slice e)) (hi : P.info? e = some i) (hz : i.zero = some zr) (hzs : zr.cells.size = z)
    (hsize : i.size = z) (hz0 : 0 < z) (hby : i.bytes = bytes) (hb1000 : bytes ≤ 1000)
    (v : Value) (n : Nat) (l : List Value) (w : World) (hown : w.ownsRow base e z v n l) (hs : a.eval s = v) (N : Nat) (A : Option Addr) (m c : Nat) (news : List Value) (hA : Arr N w A news) (hl : news.length = m * z) (h1 : ∀ u ∈ news, u.oneCell' = true)
    (hx : a.eval x = .slice A m c) (hlen : n + m < 100000000000) (hbase : base ≤ w.heap.size)
    (h : ∀ v' w', w'.ownsRow base e z v' (n + m) (l ++ news) → Chg v.ownBlock.toList w w' → Below base w w' → K (a.put o.dst v') w') :
    o.wp P a w K Q := by
  obtain ⟨v', w', hrun, h2, h3⟩ := run_appW (P := P) w base t o.type e i zr z bytes ht hi hz hzs hsize hz0 hby hb1000 v n l hown N A m c news hA hl h1 hlen hbase
  unfold Oper.wp execOp
  simp only [ho, resolve, invoke, builtin, Sem.run_bind, Sem.run_pure, Result.andThen_ok, List.map_toArray, List.map_cons, List.map_nil, hs, hx, hrun]
  refine h v' w' h2 ⟨h3.os, h3.tape, h3.output, h3.size, fun k hk hn => h3.block k hk (by intro he; apply hn; rw [Option.mem_toList]; exact he.symm)⟩ ?_
  exact (Below.refl base w).grown h3 hbase (fun j hj => (hown.lt j hj).1)
theorem wpList_appW {ops : Array Oper} {rest : List Oper} {o : Oper} {a : Act} {Q : Exit → Act → World → Prop} (hgd : o.guard = none) (s x : Operand) (t : TypeId)
    (ho : o.op = .call { callee := .builtin .append, args := #[s, x], argTypes := #[t, t] })
    (base : Nat) (e : TypeId) (i : TypeInfo) (zr : Value) (z bytes : Nat) (ht : P.underlying t = some (.slice e)) (hi : P.info? e = some i) (hz : i.zero = some zr) (hzs : zr.cells.size = z)
    (hsize : i.size = z) (hz0 : 0 < z) (hby : i.bytes = bytes) (hb1000 : bytes ≤ 1000)
    (v : Value) (n : Nat) (l : List Value) (w : World) (hown : w.ownsRow base e z v n l) (hs : a.eval s = v) (N : Nat) (A : Option Addr) (m c : Nat) (news : List Value) (hA : Arr N w A news) (hl : news.length = m * z) (h1 : ∀ u ∈ news, u.oneCell' = true)
    (hx : a.eval x = .slice A m c) (hlen : n + m < 100000000000) (hbase : base ≤ w.heap.size)
    (h : ∀ v' w', w'.ownsRow base e z v' (n + m) (l ++ news) → Chg v.ownBlock.toList w w' → Below base w w' → wpList P ops Q rest (a.put o.dst v') w') :
    wpList P ops Q (o :: rest) a w :=
  wpList_plain hgd fun _ hK => wp_appW s x t ho base e i zr z bytes ht hi hz hzs hsize hz0 hby hb1000 v n l w hown hs N A m c news hA hl h1 hx hlen hbase fun v' w' h2 h3 h4 => hK _ _ (h v' w' h2 h3 h4)
end

theorem cells_one (L : List XM) : ∀ u ∈ cellsOf cellsX L, u.oneCell' = true := by
  intro u hu
  simp only [cellsOf, List.mem_flatMap] at hu
  obtain ⟨x, _, hx⟩ := hu
  exact one_X x u hx

/-- What is within columns is nothing: of an expression that may be, columns are the same picked either way. -/
theorem pick_cols : ∀ (e : Ex), e.allB Lb.ok = true → pickX 2 true e = pickX 2 false e := by
  intro e
  induction e using Rose.ind with
  | h l args ih =>
    intro h
    rw [Rose.allB_eq, Bool.and_eq_true, List.all_eq_true] at h
    rw [pickX_eq, pickX_eq]
    have hF : args.flatMap (pickX 2 true) = args.flatMap (pickX 2 false) := by
      have h2 : ∀ x ∈ args, pickX 2 true x = pickX 2 false x := fun x hx => ih x hx (h.2 x hx)
      clear ih h
      induction args with
      | nil => rfl
      | cons y r ih2 =>
        simp only [List.flatMap_cons]
        rw [h2 y List.mem_cons_self, ih2 (fun z hz => h2 z (List.mem_cons_of_mem _ hz))]
    show pickL 2 (Rose.mk l args) ++ (if l.kd = 2 ∧ true = false then [] else args.flatMap (pickX 2 true)) = pickL 2 (Rose.mk l args) ++ (if l.kd = 2 ∧ false = false then [] else args.flatMap (pickX 2 false))
    rw [if_neg (fun h => by cases h.2), hF]
    by_cases hk : l.kd = 2
    · rw [if_pos ⟨hk, rfl⟩]
      have h0 : args.length = 0 := by
        have := h.1
        simp only [Rose.lab, Rose.args] at this
        unfold Lb.ok at this
        rw [hk] at this
        simp at this
        simpa using this.2
      rw [List.length_eq_zero_iff.1 h0]; rfl
    · rw [if_neg (fun h => hk h.1)]
theorem pick_columns {n : Nat} {e : Ex} (h : rightX n e = true) : pickX 2 true e = pickX 2 false e := by
  rw [rightX_eq, Bool.and_eq_true] at h
  exact pick_cols e h.1
theorem kind_here {kd : Int} {e : Ex} (h : e.lab.kd = kd) : pickX kd false e = [e] := by
  rw [pickX_eq, if_pos ⟨h, rfl⟩, List.append_nil]; exact if_pos h
theorem kind_not {kd : Int} {e : Ex} (h : ¬ e.lab.kd = kd) : pickX kd false e = e.args.flatMap (pickX kd false) := by
  rw [pickX_eq, if_neg (fun h0 => h h0.1)]
  show (if e.lab.kd = kd then [e] else []) ++ _ = _
  rw [if_neg h]; rfl

/-- What comes back: a row of expressions whose arguments lie below block N. -/
def RetLN (N : Nat) (w : World) (n : Nat) (p : List Ex) (e : Ending) (w' : World) : Prop :=
  ∃ (a : Option Addr) (cap : Nat) (L : List XM), e = .returned (.slice a L.length cap) ∧ L.length ≤ cap ∧ cap ≤ 9223372036854775807 ∧ L.map (·.t) = p ∧ Arr w'.heap.size w' a (cellsOf cellsX L) ∧ (∀ y ∈ L, XAt N w' n y) ∧ Below w.heap.size w w'
end Go.Proofs.YtbnddpicpomakaaDoor

/- The walk of the law's As: an expression laid out anew. -/
set_option linter.unusedSimpArgs false
set_option linter.unusedVariables false
set_option maxRecDepth 100000
namespace Go.Proofs.YtbnddpicpomakaaDoor
open Go.RowKit

theorem run_storeVar_in1 {P : Program} (w : World) (g off : Nat) (T ty : TypeId) (cur : Array Value) (v : Value) (hg : w.heap[g]? = some (.cells cur T (0, 0))) (hi : (P.info? ty).map (·.size) = some 1) (hfit : off + 1 ≤ cur.size) (hc : v.cells = #[v]) (h1 : v.oneCell' = true) :
    (storeVar ty ⟨g, off, none⟩ v).run P w = .ok () (w.setRow g (cur.toList.take off ++ [v] ++ cur.toList.drop (off + 1)).toArray) := by
  have h := run_storeCells_at (P := P) g off T [v] 0 cur w hg (by simpa using hfit) (by simpa using h1)
  cases hq : P.info? ty with
  | none => simp [hq] at hi
  | some i =>
    simp [hq] at hi
    simp [storeVar, sizeOf, typeInfo, hq, hc, hi]
    simpa using h

/-- 'As' is at work. -/
structure AsIn (w W : World) (TI TO : TypeId) (l : Lb) (sv : Value) (n : Nat) (cv : Value) (L : List XM) : Prop where
  e : Blk W w.heap.size TI (l.csX sv)
  res : Blk W (w.heap.size + 1) TO zeroXc
  box : Blk W (w.heap.size + 2) TO (l.csX cv)
  bel : Below w.heap.size w W
  lo : w.heap.size + 3 ≤ W.heap.size
  kids : KidsIn (w.heap.size + 3) W TO n cv L
theorem AsIn.new (w : World) (TI TO : TypeId) (l : Lb) (sv : Value) (n : Nat) : AsIn w (((w.alloc (.cells (l.csX sv) TI)).alloc (.cells zeroXc TO)).alloc (.cells (l.csX (.slice none 0 0)) TO)) TI TO l sv n (.slice none 0 0) [] := by
  have h1 := Blk.new (w.alloc (.cells (l.csX sv) TI)) TO zeroXc
  rw [show (w.alloc (.cells (l.csX sv) TI)).heap.size = w.heap.size + 1 by simp] at h1
  have h2 := Blk.new ((w.alloc (.cells (l.csX sv) TI)).alloc (.cells zeroXc TO)) TO (l.csX (.slice none 0 0))
  rw [show ((w.alloc (.cells (l.csX sv) TI)).alloc (.cells zeroXc TO)).heap.size = w.heap.size + 2 by simp] at h2
  exact ⟨((Blk.new w TI (l.csX sv)).alloc _).alloc _, h1.alloc _, h2, (((Below.refl _ w).alloc (Nat.le_refl _) _).alloc (by simp) _).alloc (by simp; omega) _, by simp, KidsIn.nil _ _ _ _⟩

theorem AsIn.add {w W w2 w5 : World} {TI TO : TypeId} {l : Lb} {sv : Value} {n : Nat} {cv v5 : Value} {L : List XM} {y : XM} (h : AsIn w W TI TO l sv n cv L) (hb : Below W.heap.size W w2)
    (hy : XIn (fun b => W.heap.size ≤ b ∧ b < w2.heap.size) w2 n y) (hr : w5.ownsRow (w.heap.size + 3) TO 8 v5 (L.length + 1) (cellsOf cellsX L ++ cellsX y)) {o : Obj} (hc : Chg cv.ownBlock.toList (w2.alloc o) w5) (hf : v5.ownBlock = cv.ownBlock ∨ ∀ g, v5.ownBlock = some g → w2.heap.size < g) :
    AsIn w (w5.setRow (w.heap.size + 2) (l.csX v5)) TI TO l sv n v5 (L ++ [y]) := by
  have hsz := hc.size
  simp at hsz
  have h0 := hb.size
  have hlo := h.lo
  have hgt : ∀ g, cv.ownBlock = some g → w.heap.size + 3 ≤ g := fun g hg => (h.kids.row.lt g hg).1
  have hold : Below (w.heap.size + 3) W w5 := (hb.mono hlo).trans (((Below.refl (w.heap.size + 3) w2).alloc (by omega) o).trans (hc.below (by simp; omega) (fun g hg => hgt g (by simpa using hg))))
  have hbox := (hold.block (w.heap.size + 2) (by omega)).trans h.box
  have hR : Chg [w.heap.size + 2] w5 (w5.setRow (w.heap.size + 2) (l.csX v5)) := (Chg.refl _ _).setRow (.inl (by simp)) _
  have hRs := hR.size
  have hK := h.kids.add h0 (fun b _ hb2 => hb.block b hb2) hlo hy hr hc hf
  refine ⟨(hR.block _ (by omega) (by simp)).trans ((hold.block _ (by omega)).trans h.e), (hR.block _ (by omega) (by simp)).trans ((hold.block _ (by omega)).trans h.res), Blk.setRow hbox, (h.bel.trans (hold.mono (by omega))).trans (hR.below (by omega) (by simp)), by omega, hK.keep hRs fun b hb1 hb2 => hR.block b (by omega) (by simp; omega)⟩

/-- The step of a round: the store of the grown row. -/
theorem AsIn.store {P : Program} {w W w2 w5 : World} {TI TO ty : TypeId} {l : Lb} {sv : Value} {n : Nat} {cv v5 : Value} {L : List XM} (h : AsIn w W TI TO l sv n cv L) (hb : Below W.heap.size W w2) {o : Obj} (hc : Chg cv.ownBlock.toList (w2.alloc o) w5)
    (hi : (P.info? ty).map (·.size) = some 1) (hv : v5.cells = #[v5]) (h1 : v5.oneCell' = true) : (storeVar ty ⟨w.heap.size + 2, 7, none⟩ v5).run P w5 = .ok () (w5.setRow (w.heap.size + 2) (l.csX v5)) := by
  have h0 := hb.size
  have hlo := h.lo
  have hbox : w5.heap[w.heap.size + 2]? = some (.cells (l.csX cv) TO (0, 0)) := by
    refine (hc.block (w.heap.size + 2) (by simp; omega) (fun hm => ?_)).trans ((Below.heap_alloc w2 o _ (by omega)).trans ((hb.block _ (by omega)).trans h.box))
    rw [Option.mem_toList] at hm
    have := (h.kids.row.lt _ hm).1; omega
  exact run_storeVar_in1 w5 (w.heap.size + 2) 7 TO ty (l.csX cv) v5 hbox hi (by simp) hv h1

theorem info_exR : (Tryd.prog.info? 44).map (fun i => (i.zero, i.size, i.bytes)) = some (some (.agg #[.int .i64 0, .int .u8 0, .int .i64 0, .string ⟨#[]⟩, .string ⟨#[]⟩, .string ⟨#[]⟩, .string ⟨#[]⟩, .slice none 0 0]), 8, 112) := by kernel_rfl
theorem info_exRS : (Tryd.prog.info? 44).map (·.size) = some 8 := by kernel_rfl
theorem info_slR : (Tryd.prog.info? 42).map (·.size) = some 1 := by kernel_rfl

set_option maxHeartbeats 4000000 in
theorem As_any20 : ∀ (n : Nat) (x : XM) (w : World), XAt w.heap.size w n x → x.t.args.length ≤ 1000000 → x.t.allB (fun _ k => decide (k ≤ 1000000)) = true →
    Calls Tryd.prog 15 #[x.v] w (RetX w n x.t)
  | 0, _, _, h, _, _ => h.elim
  | n + 1, ⟨t, a, cap⟩, w, h, _, hall => by
    rw [XM.v_eq]
    obtain ⟨i0, hi, hz0, hz1, hz2⟩ := info_parts info_exR
    have HA := Lib.hid h
    have hF := h.fair.1
    rw [Rose.allB_eq, Bool.and_eq_true, List.all_eq_true] at hall
    have hm6 := hall.1
    simp only at hm6 hF ⊢
    have HAll := Lib.hid hall.2
    have HFa := Lib.hid hF
    obtain ⟨m, hm⟩ : ∃ m, t.args.length = m := ⟨_, rfl⟩
    have HM := Lib.hid hm
    rw [hm] at hm6 ⊢
    have hm6 : m ≤ 1000000 := by simpa using hm6
    have IH : Hid (∀ (y : XM) (W : World), XAt W.heap.size W n y → y.t ∈ t.args → Calls Tryd.prog 15 #[.agg #[.int .i64 y.t.lab.kd, .int .u8 y.t.lab.v.k, .int .i64 y.t.lab.v.n, .string y.t.lab.v.s, .string y.t.lab.tb, .string y.t.lab.nm, .string y.t.lab.op, .slice y.a y.t.args.length y.cap]] W (RetX W n y.t)) := fun y W hy hmem => by
      have hya := HAll.out y.t hmem
      have hyl : y.t.args.length ≤ 1000000 := by rw [Rose.allB_eq, Bool.and_eq_true] at hya; simpa using hya.1
      have := As_any20 n y W hy hyl hya
      rw [XM.v_eq] at this; exact this
    have HC0 := Lib.hid (AsIn.new w 39 44 t.lab (.slice a m cap) n)
    obtain ⟨w0, hw0⟩ : ∃ w0, (w.alloc (.cells (t.lab.csX (.slice a m cap)) 39)).alloc (.cells zeroXc 44) = w0 := ⟨_, rfl⟩
    have hb0 : Below (w.heap.size + 1) (w.alloc (.cells (t.lab.csX (.slice a m cap)) 39)) w0 := by rw [← hw0]; exact (Below.refl _ _).alloc (by simp) _
    have hx0 := (Slot8.new w 39 (.int .i64 t.lab.kd) (.int .u8 t.lab.v.k) (.int .i64 t.lab.v.n) (.string t.lab.v.s) (.string t.lab.tb) (.string t.lab.nm) (.string t.lab.op) (.slice a m cap)).later (N := w.heap.size + 1) (by omega) hb0
    have hs0 : w0.heap.size = w.heap.size + 2 := by rw [← hw0]; simp
    rw [hw0] at HC0
    clear h hm hF hall hb0
    obtain ⟨x0, x1, x2, x3, x4, x5, x6, x7⟩ := hx0
    go_enter Tryd.func15, Tryd.ntmps15
    go_wp2
    clear x0 x1 x2 x3 x4 x5 x6 x7
    go_loopw [4] (fun i wr => ∃ (k : Nat) (cv : Value) (L : List XM), k ≤ m ∧ i = .int .i64 (k : Int) ∧ Hid (L.map (·.t) = t.args.take k) ∧ Hid (AsIn w wr 39 44 t.lab (.slice a m cap) n cv L)) (fun i _ => m - (intOf i).toNat)
    case atStart => exact ⟨0, _, [], by omega, rfl, rfl, HC0.out⟩
    case round =>
      clear HC0
      obtain ⟨k, cv, L, hk, rfl, HLt, HC⟩ := hrel
      have HBs : Hid (w.heap.size + 3 ≤ wr.heap.size) := HC.out.lo
      have e7 := (HC.out.e.cell 7).trans rfl
      by_cases hlt : k < m
      · have hkl : k < t.args.length := by rw [HM.out]; exact hlt
        obtain ⟨y, hy, hAy, b, o, hab, hbN, hKid⟩ := (HA.out.below HC.out.bel).kid8 (k := k) hkl
        simp only at hab hy
        subst hab
        have hLk : L.length = k := by have := congrArg List.length HLt.out; rw [List.length_map, List.length_take] at this; omega
        have HLk := Lib.hid hLk
        have hmem : y.t ∈ t.args := by rw [hy]; exact List.getElem_mem hkl
        have hszr : w.heap.size ≤ wr.heap.size := by have := HBs.out; omega
        have hAr : XAt wr.heap.size wr n y := hAy.mono hszr
        have HY := Lib.hid (IH.out y wr.drew (hAr.later (Below.refl _ wr).drew) hmem)
        have HTk : Hid (t.args.take (k + 1) = t.args.take k ++ [y.t]) := by
          rw [List.take_succ_eq_append_getElem hkl, ← hy]; rfl
        obtain ⟨ac, cc, hcv, hcc, -, -⟩ := own_slice HC.out.kids.row
        rw [hLk] at hcv hcc
        have HCv := Lib.hid hcv
        obtain ⟨S, hS⟩ : ∃ S, cv.ownBlock.toList = S := ⟨_, rfl⟩
        have HS := Lib.hid hS
        have hSg : ∀ g ∈ S, w.heap.size + 3 ≤ g := fun g hg => by rw [← hS, Option.mem_toList] at hg; exact (HC.out.kids.row.lt g hg).1
        have hbS : b ∉ S := fun hm => by have := hSg b hm; omega
        have hbr : b < wr.drew.heap.size := by show b < wr.heap.size; omega
        have hlo := HBs.out
        have l0 : ∀ V, Chg S wr.drew V → V.cell? ⟨w.heap.size + 2, 7, none⟩ = some (.slice ac k cc) := fun V hV => by
          rw [← hcv]; exact (hV.cell (b := w.heap.size + 2) (by show w.heap.size + 2 < wr.heap.size; omega) (fun hm => by have := hSg _ hm; omega)).trans ((HC.out.box.cell 7).trans rfl)
        have l7 : ∀ V, Chg S wr.drew V → V.cell? ⟨w.heap.size, 7, none⟩ = some (.slice (some ⟨b, o, none⟩) m cap) := fun V hV =>
          (hV.cell (b := w.heap.size) (by show w.heap.size < wr.heap.size; omega) (fun hm => by have := hSg _ hm; omega)).trans ((HC.out.e.cell 7).trans rfl)
        have y0 : ∀ V, Chg S wr.drew V → V.cell? ⟨b, o + k * 8, none⟩ = some (.int .i64 y.t.lab.kd) := fun V hV => (hV.cell (b := b) hbr hbS).trans hKid.c0
        have y1 : ∀ V, Chg S wr.drew V → V.cell? ⟨b, o + k * 8 + 1, none⟩ = some (.int .u8 y.t.lab.v.k) := fun V hV => (hV.cell (b := b) hbr hbS).trans hKid.c1
        have y2 : ∀ V, Chg S wr.drew V → V.cell? ⟨b, o + k * 8 + 2, none⟩ = some (.int .i64 y.t.lab.v.n) := fun V hV => (hV.cell (b := b) hbr hbS).trans hKid.c2
        have y3 : ∀ V, Chg S wr.drew V → V.cell? ⟨b, o + k * 8 + 3, none⟩ = some (.string y.t.lab.v.s) := fun V hV => (hV.cell (b := b) hbr hbS).trans hKid.c3
        have y4 : ∀ V, Chg S wr.drew V → V.cell? ⟨b, o + k * 8 + 4, none⟩ = some (.string y.t.lab.tb) := fun V hV => (hV.cell (b := b) hbr hbS).trans hKid.c4
        have y5 : ∀ V, Chg S wr.drew V → V.cell? ⟨b, o + k * 8 + 5, none⟩ = some (.string y.t.lab.nm) := fun V hV => (hV.cell (b := b) hbr hbS).trans hKid.c5
        have y6 : ∀ V, Chg S wr.drew V → V.cell? ⟨b, o + k * 8 + 6, none⟩ = some (.string y.t.lab.op) := fun V hV => (hV.cell (b := b) hbr hbS).trans hKid.c6
        have y7 : ∀ V, Chg S wr.drew V → V.cell? ⟨b, o + k * 8 + 7, none⟩ = some (.slice y.a y.t.args.length y.cap) := fun V hV => (hV.cell (b := b) hbr hbS).trans hKid.c7
        clear hy hAy hkl hmem HA IH HAll hLk hAr hcc hS hSg hbS hbr hlo hcv hKid hbN
        go_wp2_with fail
        clear e7
        refine wp_region_tail (S) [11] (.free 0 (.free 1 (.free 2 (.free 3 (.free 4 (.free 5 (.free 6 (.one 7 (.one 8 (.one 9 (.free 10 (.last 11 (.nil))))))))))))) (by kernel_rfl) (by kernel_rfl) (by kernel_rfl) (by kernel_rfl) ?_
        repeat (first | ((refine wpL_F rfl (by rfl) (fun w' hL => exec_load rfl rfl (l0 w' hL)) ?_); try simp only [Act.put, List.setIfInBounds_toArray, List.set_cons_zero, List.set_cons_succ]) | (refine wpL_F (v := ?_) rfl (by rfl) (fun w' hL => ?_) ?_; rotate_left; (solve | (go_simp; with_reducible rfl) | go_simp); try simp only [Act.put, List.setIfInBounds_toArray, List.set_cons_zero, List.set_cons_succ]) | (refine wpL_G rfl (by rfl) ?_; try simp only [Act.put, List.setIfInBounds_toArray, List.set_cons_zero, List.set_cons_succ]))
        refine wpL_C rfl (by rfl) ?_
        go_simp
        refine HY.out.mono ?_
        rintro e w2 ⟨z, rfl, hzt, hzI, hb2⟩
        have HZt := Lib.hid hzt
        clear hzt
        refine ⟨below_chg hb2, ?_⟩
        try simp only [Act.put, List.setIfInBounds_toArray, List.set_cons_zero, List.set_cons_succ]
        refine wpL_C rfl (by rfl) ?_
        go_simp
        refine ⟨(Chg.refl _ _).alloc _, ?_⟩
        try simp only [Act.put, List.setIfInBounds_toArray, List.set_cons_zero, List.set_cons_succ]
        obtain ⟨wa, hwa⟩ : ∃ wa, w2.alloc (.cells #[.int .i64 z.t.lab.kd, .int .u8 z.t.lab.v.k, .int .i64 z.t.lab.v.n, .string z.t.lab.v.s, .string z.t.lab.tb, .string z.t.lab.nm, .string z.t.lab.op, .slice z.a z.t.args.length z.cap] 44) = wa := ⟨_, rfl⟩
        rw [hwa]
        have hbk : ∀ (j : Nat) u, (cellsX z)[j]? = some u → wa.cell? ⟨w2.heap.size, j, none⟩ = some u := fun j u hu => by
          rw [← hwa, World.cell?_alloc_at _ _ _ _ rfl]; simpa [cellsX, cellsR, Lb.cells] using hu
        have hB2 : Below wr.heap.size wr w2 := (Below.refl _ wr).drew.trans hb2
        have hWa : Below wr.heap.size wr wa := by rw [← hwa]; exact hB2.alloc hB2.size _
        have hrow : wa.ownsRow (w.heap.size + 3) 44 8 (.slice ac k cc) k (cellsOf cellsX L) := by
          have := own_below HC.out.kids.row (Nat.le_refl _) hWa
          rw [HLk.out] at this; rw [← HCv.out]; exact this
        refine wpL_C rfl (by rfl) ?_
        refine wp_appG (.tmp 24) (.tmp 31) 42 rfl (w.heap.size + 3) 44 i0 (.agg #[.int .i64 0, .int .u8 0, .int .i64 0, .string ⟨#[]⟩, .string ⟨#[]⟩, .string ⟨#[]⟩, .string ⟨#[]⟩, .slice none 0 0]) 8 112 1 Tryd.underlying42 hi hz0 rfl hz1 (by omega) hz2 (by omega) (.slice ac k cc) k _ (cellsX z) wa hrow rfl w2.heap.size 1 hbk rfl (one_X z) rfl (by omega) (by have := HBs.out; have := hWa.size; omega) ?_
        intro v5 w5 hown5 hc5 hf5
        rw [← HCv.out] at hc5 hf5
        have hc5S : Chg S wa w5 := by rw [← HS.out]; exact hc5
        refine ⟨hc5S, ?_⟩
        try simp only [Act.put, List.setIfInBounds_toArray, List.set_cons_zero, List.set_cons_succ]
        obtain ⟨a5, c5, hv5, -, -, -⟩ := own_slice hown5
        have hzB : XIn (fun b => wr.heap.size ≤ b ∧ b < w2.heap.size) w2 n z := hzI
        have hcw : Chg cv.ownBlock.toList (w2.alloc (.cells #[.int .i64 z.t.lab.kd, .int .u8 z.t.lab.v.k, .int .i64 z.t.lab.v.n, .string z.t.lab.v.s, .string z.t.lab.tb, .string z.t.lab.nm, .string z.t.lab.op, .slice z.a z.t.args.length z.cap] 44)) w5 := by rw [hwa]; exact hc5
        have hfw : v5.ownBlock = cv.ownBlock ∨ ∀ g, v5.ownBlock = some g → w2.heap.size < g := by
          rcases hf5 with h | h
          · exact .inl h
          · exact .inr fun g hg => by have := h g hg; rw [← hwa] at this; simp at this; omega
        have HN := Lib.hid (HC.out.add hB2 hzB (by rw [HLk.out]; exact hown5) hcw hfw)
        have HSt := Lib.hid (HC.out.store (P := Tryd.prog) (v5 := v5) hB2 hcw info_slR (by rw [hv5]; rfl) (by rw [hv5]; rfl))
        clear hbk hB2 hWa hrow hown5 hc5 hf5 hc5S hv5 hzB hcw hfw hzI hb2 l0 l7 y0 y1 y2 y3 y4 y5 y6 y7
        repeat (first | (refine wpL_F (v := ?_) rfl (by rfl) (fun w' hL => ?_) ?_; rotate_left; (solve | (go_simp; with_reducible rfl) | go_simp); try simp only [Act.put, List.setIfInBounds_toArray, List.set_cons_zero, List.set_cons_succ]) | (refine wpL_G rfl (by rfl) ?_; try simp only [Act.put, List.setIfInBounds_toArray, List.set_cons_zero, List.set_cons_succ]))
        refine wpL_X rfl (by rfl) ?_
        refine wp_skp (exec_store rfl rfl rfl HSt.out) ?_
        try simp only [Act.put, List.setIfInBounds_toArray, List.set_cons_zero, List.set_cons_succ]
        refine wpL_nil ?_
        try go_simp
        try simp only [NoPanic]
        go_wp2
        go_roundw
        case rel => exact ⟨k + 1, v5, L ++ [z], by omega, by go_num, by rw [HTk.out, List.map_append, HLt.out, ← HZt.out]; rfl, HN.out⟩
        case measure => simp [intOf]; omega
      · have hke : k = m := by omega
        have hLt := HLt.out
        rw [hke, ← HM.out, List.take_length] at hLt
        have hLm : L.length = m := by have := congrArg List.length hLt; rw [List.length_map] at this; rw [this]; exact HM.out
        obtain ⟨ac, cc, hcv, hX⟩ := HC.out.kids.tree t.lab HFa.out
        rw [hLm] at hcv
        rw [hLt] at hX
        subst hcv
        have z0 := (HC.out.box.cell 0).trans rfl
        have z1 := (HC.out.box.cell 1).trans rfl
        have z2 := (HC.out.box.cell 2).trans rfl
        have z3 := (HC.out.box.cell 3).trans rfl
        have z4 := (HC.out.box.cell 4).trans rfl
        have z5 := (HC.out.box.cell 5).trans rfl
        have z6 := (HC.out.box.cell 6).trans rfl
        have z7 := (HC.out.box.cell 7).trans rfl
        have HS : Hid ((storeVar 44 ⟨w.heap.size + 1, 0, none⟩ (.agg (t.lab.csX (.slice ac m cc)))).run Tryd.prog wr = .ok () (wr.setRow (w.heap.size + 1) (t.lab.csX (.slice ac m cc)))) :=
          run_storeVar_row _ _ _ 44 _ _ HC.out.res (by rw [info_exRS]; rfl) rfl (by simp [Value.oneCell'])
        have HL : Hid ((loadVar 44 ⟨w.heap.size + 1, 0, none⟩).run Tryd.prog (wr.setRow (w.heap.size + 1) (t.lab.csX (.slice ac m cc))) = .ok (.agg (t.lab.csX (.slice ac m cc))) (wr.setRow (w.heap.size + 1) (t.lab.csX (.slice ac m cc)))) :=
          run_loadVar_row _ _ _ 44 _ (0, 0) _ (Blk.setRow (new := t.lab.csX (.slice ac m cc)) HC.out.res) Tryd.underlying44 rfl (by rw [info_exRS]; rfl)
        have hcR : Chg [w.heap.size + 1] wr (wr.setRow (w.heap.size + 1) (t.lab.csX (.slice ac m cc))) := (Chg.refl _ _).setRow (.inl (by simp)) _
        have HF : Hid (Below w.heap.size w (wr.setRow (w.heap.size + 1) (t.lab.csX (.slice ac m cc)))) := HC.out.bel.trans (hcR.below HC.out.bel.size (by simp))
        have HX : Hid (XIn (fun b => w.heap.size ≤ b ∧ b < (wr.setRow (w.heap.size + 1) (t.lab.csX (.slice ac m cc))).heap.size) (wr.setRow (w.heap.size + 1) (t.lab.csX (.slice ac m cc))) (n + 1) ⟨.mk t.lab t.args, ac, cc⟩) :=
          (XIn.keep (fun b hb => hcR.block b hb.2 (by simp; omega)) hX).imp fun b hb => ⟨by omega, by have := hcR.size; omega⟩
        clear hcR hX HC HLt hLt hLm HA IH HAll HFa
        have hmk : (Rose.mk t.lab t.args).args.length = m := HM.out
        go_wp2_with (first | (guard_target =~ wpList _ _ _ (Oper.mk _ (Op.store 44 _ _) _ _ _ _ :: _) _ _; refine wpList_skp rfl (exec_store rfl rfl rfl HS.out) ?_))
        refine bodyPost_ret (v := .agg (t.lab.csX (.slice ac m cc))) (results_cell1x Tryd.results15 _ _ rfl HL.out) rfl ⟨⟨.mk t.lab t.args, ac, cc⟩, ?_, t.eta, HX.out, HF.out⟩
        rw [hmk]; rfl
end Go.Proofs.YtbnddpicpomakaaDoor

/- The walk of the reference's Kind. -/
set_option linter.unusedSimpArgs false
set_option linter.unusedVariables false
set_option maxRecDepth 100000
namespace Go.Proofs.YtbnddpicpomakaaDoor
open Go.RowKit

set_option maxHeartbeats 4000000 in
theorem RKind_any20 (Z : Nat) (kd : Int) : ∀ (n : Nat) (x : XM) (N : Nat) (w : World), n ≤ Z → N ≤ w.heap.size → XAt N w n x → x.t.count ≤ 1000000 →
    Calls Tryd.prog 20 #[x.v, .int .i64 kd] w (RetLN N w Z (pickX kd false x.t))
  | 0, _, _, _, _, _, h, _ => h.elim
  | n + 1, ⟨t, a, cap⟩, N, w, hn, hN, h, hc => by
    rw [XM.v_eq]
    have HA := Lib.hid h
    have hlen := h.fair.2.1
    have hcap := h.fair.2.2
    simp only at hlen hcap hc ⊢
    obtain ⟨m, hm⟩ : ∃ m, t.args.length = m := ⟨_, rfl⟩
    rw [hm] at hlen ⊢
    have HM := Lib.hid hm
    have HS := Lib.hid (Slot8.new w 44 (.int .i64 t.lab.kd) (.int .u8 t.lab.v.k) (.int .i64 t.lab.v.n) (.string t.lab.v.s) (.string t.lab.tb) (.string t.lab.nm) (.string t.lab.op) (.slice a m cap))
    obtain ⟨w0, hw0⟩ : ∃ w0, w.alloc (.cells #[.int .i64 t.lab.kd, .int .u8 t.lab.v.k, .int .i64 t.lab.v.n, .string t.lab.v.s, .string t.lab.tb, .string t.lab.nm, .string t.lab.op, .slice a m cap] 44) = w0 := ⟨_, rfl⟩
    have HB1 : Hid (Below w.heap.size w w0) := by rw [← hw0]; exact (Below.refl _ w).alloc (Nat.le_refl _) _
    have hs0 : w.heap.size < w0.heap.size := by rw [← hw0]; simp
    rw [hw0] at HS
    obtain ⟨x0, x1, x2, x3, x4, x5, x6, x7⟩ := HS.out
    by_cases hk : t.lab.kd = kd
    · have qk : (t.lab.kd == kd) = true := by simpa using hk
      rw [kind_here hk]
      have HR : Hid (RetLN N w Z [t] (.returned (.slice (some ⟨w0.heap.size, 0, none⟩) 1 1)) (w0.alloc (.cells #[.int .i64 t.lab.kd, .int .u8 t.lab.v.k, .int .i64 t.lab.v.n, .string t.lab.v.s, .string t.lab.tb, .string t.lab.nm, .string t.lab.op, .slice a m cap] 44))) := by
        have hb := HB1.out.trans (((Below.refl w0.heap.size w0).alloc (Nat.le_refl _) (.cells #[.int .i64 t.lab.kd, .int .u8 t.lab.v.k, .int .i64 t.lab.v.n, .string t.lab.v.s, .string t.lab.tb, .string t.lab.nm, .string t.lab.op, .slice a m cap] 44)).mono HB1.out.size)
        refine ⟨some ⟨w0.heap.size, 0, none⟩, 1, [⟨t, a, cap⟩], rfl, by simp, by omega, rfl, .inr ⟨w0.heap.size, 0, rfl, by simp, fun i v hi => ?_⟩, fun y hy => ?_, hb⟩
        · have hi2 : (cellsX ⟨t, a, cap⟩)[i]? = some v := by have h9 := hi; simp only [cellsOf, List.flatMap_cons, List.flatMap_nil, List.append_nil] at h9; exact h9
          rw [Nat.zero_add, World.cell?_alloc_at _ _ _ _ rfl, ← hi2]
          simp [cellsX, cellsR, Lb.cells, HM.out]
        · rw [List.mem_singleton.1 hy]
          exact (RoseAt.ups HA.out hn).below (hb.mono hN)
      clear h hn hN hc hk hm HA HM HB1
      go_enter Tryd.func20, Tryd.ntmps20
      go_wp2
      go_ret
      exact HR.out
    have qk : (t.lab.kd == kd) = false := by simpa using hk
    have HK := Lib.hid (kind_not hk)
    obtain ⟨i0, hi, hz0, hz1, hz2⟩ := info_parts info_exR
    have HN := Lib.hid hN
    have hcn : m < 1000000 := by
      have h1 := t.count_eq
      have h2 : t.args.length ≤ (t.args.map Rose.count).sum := by
        generalize t.args = l
        induction l with
        | nil => simp
        | cons y r ih => have := y.count_pos; simp only [List.length_cons, List.map_cons, List.sum_cons]; omega
      omega
    have IH : Hid (∀ (y : XM) (W : World), N ≤ W.heap.size → XAt N W n y → y.t.count ≤ 1000000 → Calls Tryd.prog 20 #[.agg #[.int .i64 y.t.lab.kd, .int .u8 y.t.lab.v.k, .int .i64 y.t.lab.v.n, .string y.t.lab.v.s, .string y.t.lab.tb, .string y.t.lab.nm, .string y.t.lab.op, .slice y.a y.t.args.length y.cap], .int .i64 kd] W (RetLN N W Z (pickX kd false y.t))) := fun y W h1 h2 h3 => by
      have := RKind_any20 Z kd n y N W (by omega) h1 h2 h3
      rw [XM.v_eq] at this; exact this
    have HCn : Hid (∀ k (hk : k < t.args.length), ((t.args.take k).flatMap (pickX kd false)).length + t.args[k].count ≤ 1000000) := fun k hk => by
      have h3 := pickT_len kd false t.args k
      have h5 := sum_take_succ hk
      have h6 := sum_take_le t.args (k + 1)
      have h7 := t.count_eq
      omega
    clear h hn hN hc hk hm
    go_enter Tryd.func20, Tryd.ntmps20
    go_wp2
    clear x0 x1 x2 x3 x4 x5 x6 x7
    go_loopw [5, 6] (fun v i wr => ∃ (k : Nat) (cv : Value) (L : List XM), cv = v ∧ k ≤ m ∧ i = .int .i64 (k : Int) ∧ Hid (L.map (·.t) = (t.args.take k).flatMap (pickX kd false)) ∧ Hid (wr.ownsRow w0.heap.size 44 8 cv L.length (cellsOf cellsX L)) ∧ Hid (∀ y ∈ L, XAt N wr Z y) ∧ Hid (Below w0.heap.size w0 wr)) (fun _ i _ => m - (intOf i).toNat)
    case atStart => exact ⟨0, _, [], rfl, by omega, rfl, rfl, World.ownsRow_nil _ _ _ _, (show ∀ y ∈ ([] : List XM), XAt N w0 Z y from fun y hy => by cases hy), Below.refl _ _⟩
    case round =>
      obtain ⟨k, cv, L, rfl, hk, rfl, HLt, HO, HKd, HBr⟩ := hrel
      have HBw := Lib.hid (HB1.out.trans (HBr.out.mono HB1.out.size))
      obtain ⟨x0, x1, x2, x3, x4, x5, x6, x7⟩ := HS.out.later hs0 HBr.out
      by_cases hlt : k < m
      · have hkl : k < t.args.length := by rw [HM.out]; exact hlt
        obtain ⟨y, hy, hAy, b, o, hab, hbN, hKid⟩ := (HA.out.below (HBw.out.mono HN.out)).kid8 (k := k) hkl
        simp only at hab hy
        subst hab
        obtain ⟨y0, y1, y2, y3, y4, y5, y6, y7⟩ := hKid
        have hcn2 := HCn.out k hkl
        rw [← hy] at hcn2
        have HLn : Hid (L.length = ((t.args.take k).flatMap (pickX kd false)).length) := by have := congrArg List.length HLt.out; rw [List.length_map] at this; exact this
        have HY := Lib.hid (IH.out y wr (Nat.le_trans HN.out HBw.out.size) hAy (by omega))
        have HTk : Hid ((t.args.take (k + 1)).flatMap (pickX kd false) = (t.args.take k).flatMap (pickX kd false) ++ pickX kd false y.t) := by
          rw [List.take_succ_eq_append_getElem hkl, List.flatMap_append, ← hy]; simp [Hid]
        have hpl := pickX_len kd false y.t
        have HPl : Hid (L.length + (pickX kd false y.t).length ≤ 1000000) := by show _ ≤ _; have := HLn.out; omega
        clear hy hAy hkl hcn2 hpl HA IH HCn
        go_wp2_with fail
        refine HY.out.mono ?_
        rintro e w2 ⟨a2, c2, L2, rfl, hl2, hc2, hLt2, hA2, hK2, hb2⟩
        have HB2 := Lib.hid (HBr.out.trans (hb2.mono HBr.out.size))
        have HL2 := Lib.hid hLt2
        have HA2 := Lib.hid hA2
        have HK2 := Lib.hid hK2
        have HKb := Lib.hid (fun y hy => (HKd.out y hy).below (hb2.mono (Nat.le_trans HN.out HBw.out.size)))
        have hrow2 := own_below HO.out (Nat.le_refl _) hb2
        have HR2 := Lib.hid hrow2
        have HLl : Hid (L2.length = (pickX kd false y.t).length) := by have := congrArg List.length hLt2; rw [List.length_map] at this; exact this
        have hll : L.length + L2.length ≤ 1000000 := by rw [HLl.out]; exact HPl.out
        have HS2 : Hid (w0.heap.size ≤ w2.heap.size) := HB2.out.size
        clear hLt2 hA2 hK2 hb2 hrow2 HY y0 y1 y2 y3 y4 y5 y6 y7 x0 x1 x2 x3 x4 x5 x6 x7
        go_wp2_with (first | (at_builtin; refine wpList_appW rfl _ _ 42 rfl w0.heap.size 44 i0 (.agg #[.int .i64 0, .int .u8 0, .int .i64 0, .string ⟨#[]⟩, .string ⟨#[]⟩, .string ⟨#[]⟩, .string ⟨#[]⟩, .slice none 0 0]) 8 112 Tryd.underlying42 hi hz0 rfl hz1 (by omega) hz2 (by omega) cv L.length (cellsOf cellsX L) w2 HR2.out rfl w2.heap.size a2 L2.length c2 (cellsOf cellsX L2) HA2.out (cellsOf_len cellsX 8 cellsX_len L2) (cells_one L2) rfl (by omega) HS2.out ?_; intro v5 w5 hown5 hc5 hb5; have HO5 := Lib.hid hown5; have HB5 := Lib.hid hb5; clear hown5 hc5 hb5))
        go_roundw
        case rel =>
          refine ⟨k + 1, v5, L ++ L2, rfl, by omega, by go_num, by rw [HTk.out, List.map_append, HLt.out, HL2.out]; rfl, ?_, ?_, HB2.out.trans HB5.out⟩
          · have := HO5.out
            rw [List.length_append, show cellsOf cellsX (L ++ L2) = cellsOf cellsX L ++ cellsOf cellsX L2 by simp [cellsOf]]; exact this
          · intro y hy
            have hNw : N ≤ w0.heap.size := Nat.le_trans HN.out HB1.out.size
            rcases List.mem_append.1 hy with hy | hy
            · exact (HKb.out y hy).below (HB5.out.mono hNw)
            · exact (HK2.out y hy).below (HB5.out.mono hNw)
        case measure => simp [intOf]; omega
      · have q0 : decide ((k : Int) < (m : Int)) = false := by simp; omega
        have hke : k = m := by omega
        have hLt := HLt.out
        rw [hke, ← HM.out, List.take_length, ← HK.out] at hLt
        obtain ⟨a3, c3, hv3, hcc, hcm, hA3⟩ := own_slice HO.out
        have HR : Hid (RetLN N w Z (pickX kd false t) (.returned cv) wr) := by
          rw [hv3]; exact ⟨a3, c3, L, rfl, hcc, hcm, hLt, hA3, HKd.out, HBw.out⟩
        clear hLt hv3 hcc hcm hA3 hke HA IH HCn
        go_wp2
        go_ret
        exact HR.out
end Go.Proofs.YtbnddpicpomakaaDoor

/- The walks of same, its closure, slices.EqualFunc at it, and of Same. -/
set_option linter.unusedSimpArgs false
set_option linter.unusedVariables false
set_option maxRecDepth 100000
namespace Go.Proofs.YtbnddpicpomakaaDoor
open Go.RowKit

def listSame (f : Ex → Ex → Bool) : List Ex → List Ex → Bool
  | [], [] => true
  | x :: r, y :: s => f x y && listSame f r s
  | _, _ => false
/-- Equal, and no more than so many levels. -/
def sameX : Nat → Ex → Ex → Bool
  | 0, _, _ => false
  | n + 1, a, b => decide (a.lab = b.lab) && listSame (sameX n) a.args b.args
theorem listSame_iff {f : Ex → Ex → Bool} : ∀ (l m : List Ex), listSame f l m = true ↔ l.length = m.length ∧ ∀ (i : Nat) x y, l[i]? = some x → m[i]? = some y → f x y = true
  | [], [] => by simp [listSame]
  | [], y :: s => by simp [listSame]
  | x :: r, [] => by simp [listSame]
  | x :: r, y :: s => by
    rw [listSame, Bool.and_eq_true, listSame_iff r s]
    constructor
    · rintro ⟨h1, h2, h3⟩
      refine ⟨by simp [h2], fun i a b ha hb => ?_⟩
      cases i with
      | zero => simp at ha hb; subst ha hb; exact h1
      | succ i => exact h3 i a b (by simpa using ha) (by simpa using hb)
    · rintro ⟨h1, h2⟩
      exact ⟨h2 0 x y rfl rfl, by simpa using h1, fun i a b ha hb => h2 (i + 1) a b (by simpa using ha) (by simpa using hb)⟩
theorem sameX_iff : ∀ (n : Nat) (a b : Ex), sameX n a b = true ↔ a = b ∧ a.depth ≤ n
  | 0, a, b => by have := a.depth_pos; simp [sameX]; omega
  | n + 1, a, b => by
    rw [sameX, Bool.and_eq_true, decide_eq_true_iff, listSame_iff, Rose.depth_le]
    constructor
    · rintro ⟨h1, h2, h3⟩
      have h4 : a.args = b.args := by
        apply List.ext_getElem? ; intro i
        by_cases hi : i < a.args.length
        · have hj : i < b.args.length := by omega
          have := (sameX_iff n _ _).1 (h3 i a.args[i] b.args[i] (List.getElem?_eq_getElem hi) (List.getElem?_eq_getElem hj))
          rw [List.getElem?_eq_getElem hi, List.getElem?_eq_getElem hj, this.1]
        · rw [List.getElem?_eq_none (by omega), List.getElem?_eq_none (by omega)]
      refine ⟨by rw [← a.eta, ← b.eta, h1, h4], fun x hx => ?_⟩
      obtain ⟨i, hi, rfl⟩ := List.getElem_of_mem hx
      have hj : i < b.args.length := by omega
      exact ((sameX_iff n _ _).1 (h3 i a.args[i] b.args[i] (List.getElem?_eq_getElem hi) (List.getElem?_eq_getElem hj))).2
    · rintro ⟨rfl, h2⟩
      refine ⟨rfl, rfl, fun i x y hx hy => ?_⟩
      rw [hx] at hy
      injection hy with hy
      subst hy
      exact (sameX_iff n x x).2 ⟨rfl, h2 x (List.mem_of_getElem? hx)⟩
theorem toList_ne {a b : ByteArray} (h : a ≠ b) : a.toList ≠ b.toList := fun h2 => h (toList_inj h2)
theorem listSame_take {f : Ex → Ex → Bool} {l m : List Ex} (hl : l.length = m.length) {k : Nat} (hk : k < l.length) : listSame f (l.take (k + 1)) (m.take (k + 1)) = (listSame f (l.take k) (m.take k) && f l[k] (m[k]'(by omega))) := by
  induction l generalizing m k with
  | nil => simp at hk
  | cons x r ih =>
    cases m with
    | nil => simp at hl
    | cons y s =>
      cases k with
      | zero => simp [listSame]
      | succ k =>
        rw [List.take_succ_cons, List.take_succ_cons, List.take_succ_cons, List.take_succ_cons, listSame, listSame, ih (by simpa using hl) (by simpa using hk), Bool.and_assoc]; rfl
theorem listSame_false {f : Ex → Ex → Bool} {l m : List Ex} {k : Nat} (hk : k < l.length) (hm : k < m.length) (h : f l[k] m[k] = false) : listSame f l m = false := by
  rw [Bool.eq_false_iff]
  intro ht
  have := ((listSame_iff l m).1 ht).2 k _ _ (List.getElem?_eq_getElem hk) (List.getElem?_eq_getElem hm)
  rw [h] at this; cases this

/-- What is known of same, with so many levels, of trees of so many. -/
def SameIs (n l : Nat) : Prop := ∀ (y z : XM) (W : World), XAt W.heap.size W n y → XAt W.heap.size W n z → Calls Tryd.prog 44 #[.agg #[.int .i64 y.t.lab.kd, .int .u8 y.t.lab.v.k, .int .i64 y.t.lab.v.n, .string y.t.lab.v.s, .string y.t.lab.tb, .string y.t.lab.nm, .string y.t.lab.op, .slice y.a y.t.args.length y.cap], .agg #[.int .i64 z.t.lab.kd, .int .u8 z.t.lab.v.k, .int .i64 z.t.lab.v.n, .string z.t.lab.v.s, .string z.t.lab.tb, .string z.t.lab.nm, .string z.t.lab.op, .slice z.a z.t.args.length z.cap], .int .i64 (l : Int)] W fun e w' => e = .returned (.bool (sameX l y.t z.t)) ∧ Below W.heap.size W w'

theorem same_clo (n l : Nat) (hl : l ≤ 1000) (IH : SameIs n l) (y z : XM) (g : Nat) (W : World) (hy : XAt W.heap.size W n y) (hz : XAt W.heap.size W n z) (hg : W.cell? ⟨g, 0, none⟩ = some (.int .i64 ((l + 1 : Nat) : Int))) :
    Calls Tryd.prog 72 #[.agg #[.int .i64 y.t.lab.kd, .int .u8 y.t.lab.v.k, .int .i64 y.t.lab.v.n, .string y.t.lab.v.s, .string y.t.lab.tb, .string y.t.lab.nm, .string y.t.lab.op, .slice y.a y.t.args.length y.cap], .agg #[.int .i64 z.t.lab.kd, .int .u8 z.t.lab.v.k, .int .i64 z.t.lab.v.n, .string z.t.lab.v.s, .string z.t.lab.tb, .string z.t.lab.nm, .string z.t.lab.op, .slice z.a z.t.args.length z.cap], .pointer (some ⟨g, 0, none⟩)] W fun e w' => e = .returned (.bool (sameX l y.t z.t)) ∧ Below W.heap.size W w' := by
  have HD := Lib.hid (fun V (hb : Below W.heap.size W V) => IH y z V (hy.later hb) (hz.later hb))
  obtain ⟨w0, hw0⟩ : ∃ w0, W.alloc (.cells #[.int .i64 y.t.lab.kd, .int .u8 y.t.lab.v.k, .int .i64 y.t.lab.v.n, .string y.t.lab.v.s, .string y.t.lab.tb, .string y.t.lab.nm, .string y.t.lab.op, .slice y.a y.t.args.length y.cap] 39) = w0 := ⟨_, rfl⟩
  obtain ⟨w1, hw1⟩ : ∃ w1, w0.alloc (.cells #[.int .i64 z.t.lab.kd, .int .u8 z.t.lab.v.k, .int .i64 z.t.lab.v.n, .string z.t.lab.v.s, .string z.t.lab.tb, .string z.t.lab.nm, .string z.t.lab.op, .slice z.a z.t.args.length z.cap] 39) = w1 := ⟨_, rfl⟩
  have hb0 : Below W.heap.size W w0 := by rw [← hw0]; exact (Below.refl _ W).alloc (Nat.le_refl _) _
  have hb1 : Below w0.heap.size w0 w1 := by rw [← hw1]; exact (Below.refl _ w0).alloc (Nat.le_refl _) _
  have hs0 : w0.heap.size = W.heap.size + 1 := by rw [← hw0]; simp
  have hY : Slot8 w0 W.heap.size (.int .i64 y.t.lab.kd) (.int .u8 y.t.lab.v.k) (.int .i64 y.t.lab.v.n) (.string y.t.lab.v.s) (.string y.t.lab.tb) (.string y.t.lab.nm) (.string y.t.lab.op) (.slice y.a y.t.args.length y.cap) := by rw [← hw0]; exact Slot8.new W 39 _ _ _ _ _ _ _ _
  have hZ : Slot8 w1 w0.heap.size (.int .i64 z.t.lab.kd) (.int .u8 z.t.lab.v.k) (.int .i64 z.t.lab.v.n) (.string z.t.lab.v.s) (.string z.t.lab.tb) (.string z.t.lab.nm) (.string z.t.lab.op) (.slice z.a z.t.args.length z.cap) := by rw [← hw1]; exact Slot8.new w0 39 _ _ _ _ _ _ _ _
  have hglt := World.block_lt_of_cell? _ _ hg
  have HB1 := Lib.hid (hb0.trans (hb1.mono hb0.size))
  have hg1 : w1.cell? ⟨g, 0, none⟩ = some (.int .i64 ((l + 1 : Nat) : Int)) := (HB1.out.cell (p := ⟨g, 0, none⟩) hglt).trans hg
  have hq1 : IntKind.i64.wrap (((l + 1 : Nat) : Int) - 1) = (l : Int) := by rw [show ((l + 1 : Nat) : Int) - 1 = (l : Int) by omega]; exact IntWalk.i64_in _ (by omega)
  generalize sameX l y.t z.t = d at *
  generalize hQ : ((l + 1 : Nat) : Int) = Q at *
  obtain ⟨y0, y1, y2, y3, y4, y5, y6, y7⟩ := hY.later (N := w0.heap.size) (by omega) hb1
  obtain ⟨z0, z1, z2, z3, z4, z5, z6, z7⟩ := hZ
  clear hy hz IH hb0 hb1 hs0 hg hglt hY
  go_enter Tryd.func72, Tryd.ntmps72
  go_wp2_with fail
  refine (HD.out _ HB1.out).mono ?_
  rintro e w2 ⟨rfl, hb2⟩
  have HB2 := Lib.hid (HB1.out.trans (hb2.mono HB1.out.size))
  clear hb2 y0 y1 y2 y3 y4 y5 y6 y7 z0 z1 z2 z3 z4 z5 z6 z7 hg1
  go_wp2
  go_ret
  exact ⟨rfl, HB2.out⟩

set_option maxHeartbeats 2000000 in
theorem same_eqf (n l : Nat) (hl : l ≤ 1000) (IH : SameIs n l) (t u : Ex) (a b : Option Addr) (cap cup : Nat) (g : Nat) (w : World) (h : XAt w.heap.size w (n + 1) ⟨t, a, cap⟩) (k : XAt w.heap.size w (n + 1) ⟨u, b, cup⟩) (hg : w.cell? ⟨g, 0, none⟩ = some (.int .i64 ((l + 1 : Nat) : Int))) :
    Calls Tryd.prog 71 #[.slice a t.args.length cap, .slice b u.args.length cup, .func (.func 72) #[] #[.pointer (some ⟨g, 0, none⟩)]] w fun e w' => e = .returned (.bool (listSame (sameX l) t.args u.args)) ∧ Below w.heap.size w w' := by
  have HA := Lib.hid h
  have HK := Lib.hid k
  have hlen := h.fair.2.1
  have hcap := h.fair.2.2
  have klen := k.fair.2.1
  have kcap := k.fair.2.2
  simp only at hlen hcap klen kcap
  have HCl := Lib.hid (fun y z V (hb : Below w.heap.size w V) hy hz => same_clo n l hl IH y z g V hy hz ((hb.cell (p := ⟨g, 0, none⟩) (World.block_lt_of_cell? _ _ hg)).trans hg))
  obtain ⟨r, hr⟩ : ∃ r, listSame (sameX l) t.args u.args = r := ⟨_, rfl⟩
  rw [hr]
  have HR := Lib.hid hr
  obtain ⟨m, hm⟩ : ∃ m, t.args.length = m := ⟨_, rfl⟩
  obtain ⟨q, hq⟩ : ∃ q, u.args.length = q := ⟨_, rfl⟩
  rw [hm] at hlen ⊢
  rw [hq] at klen ⊢
  have HM := Lib.hid hm
  have HQ := Lib.hid hq
  clear h k hm hq hg IH hr
  by_cases hmq : m = q
  rotate_left
  · have q0 : ((m : Int) != (q : Int)) = true := by simp; omega
    have hrf : r = false := by
      rw [← HR.out, Bool.eq_false_iff]
      intro ht
      have := ((listSame_iff _ _).1 ht).1
      rw [HM.out, HQ.out] at this; exact hmq this
    subst hrf
    go_enter Tryd.func71, Tryd.ntmps71
    go_wp2
    go_ret
    exact ⟨rfl, Below.refl _ _⟩
  subst hmq
  go_enter Tryd.func71, Tryd.ntmps71
  go_wp2
  go_loopw [17] (fun i wr => ∃ k : Nat, k ≤ m ∧ i = .int .i64 k ∧ Hid (listSame (sameX l) (t.args.take k) (u.args.take k) = true) ∧ Hid (Below w.heap.size w wr)) (fun i _ => m - (intOf i).toNat)
  case atStart => exact ⟨0, by omega, rfl, by simp [Hid, listSame], Below.refl _ _⟩
  case round =>
    obtain ⟨k, hk, rfl, HI, HBr⟩ := hrel
    by_cases hlt : k < m
    · have hkl : k < t.args.length := by rw [HM.out]; exact hlt
      have hku : k < u.args.length := by rw [HQ.out]; exact hlt
      obtain ⟨y, hy, hAy, b1, o1, hab, hbN, hKid⟩ := (HA.out.later HBr.out).kid8 (k := k) hkl
      obtain ⟨z, hz, hAz, b2, o2, hab2, hbN2, hKid2⟩ := (HK.out.later HBr.out).kid8 (k := k) hku
      simp only at hab hy hab2 hz
      subst hab hab2
      have HTk : Hid (listSame (sameX l) (t.args.take (k + 1)) (u.args.take (k + 1)) = sameX l y.t z.t) := by
        rw [listSame_take (by rw [HM.out, HQ.out]) hkl, HI.out, ← hy, ← hz]; simp [Hid]
      have HTf : Hid (sameX l y.t z.t = false → r = false) := fun hf => by
        rw [← HR.out]; exact listSame_false hkl hku (by rw [← hy, ← hz]; exact hf)
      obtain ⟨w1, hw1⟩ : ∃ w1, wr.alloc (.cells #[.int .i64 y.t.lab.kd, .int .u8 y.t.lab.v.k, .int .i64 y.t.lab.v.n, .string y.t.lab.v.s, .string y.t.lab.tb, .string y.t.lab.nm, .string y.t.lab.op, .slice y.a y.t.args.length y.cap] 39) = w1 := ⟨_, rfl⟩
      have hb1 : Below wr.heap.size wr w1 := by rw [← hw1]; exact (Below.refl _ wr).alloc (Nat.le_refl _) _
      have hY : Slot8 w1 wr.heap.size (.int .i64 y.t.lab.kd) (.int .u8 y.t.lab.v.k) (.int .i64 y.t.lab.v.n) (.string y.t.lab.v.s) (.string y.t.lab.tb) (.string y.t.lab.nm) (.string y.t.lab.op) (.slice y.a y.t.args.length y.cap) := by rw [← hw1]; exact Slot8.new wr 39 _ _ _ _ _ _ _ _
      have hs1 : w1.heap.size = wr.heap.size + 1 := by rw [← hw1]; simp
      obtain ⟨w2, hw2⟩ : ∃ w2, w1.alloc (.cells #[.int .i64 z.t.lab.kd, .int .u8 z.t.lab.v.k, .int .i64 z.t.lab.v.n, .string z.t.lab.v.s, .string z.t.lab.tb, .string z.t.lab.nm, .string z.t.lab.op, .slice z.a z.t.args.length z.cap] 39) = w2 := ⟨_, rfl⟩
      have hb2 : Below w1.heap.size w1 w2 := by rw [← hw2]; exact (Below.refl _ w1).alloc (Nat.le_refl _) _
      have HB2 := Lib.hid (hb1.trans (hb2.mono hb1.size))
      have HY := Lib.hid (HCl.out y z w2 (HBr.out.trans (HB2.out.mono HBr.out.size)) (hAy.later HB2.out) (hAz.later HB2.out))
      have hkd := hKid.c0
      obtain ⟨y0, y1, y2, y3, y4, y5, y6, y7⟩ := hKid
      obtain ⟨v0, v1, v2, v3, v4, v5, v6, v7⟩ := KidAt.later (N := wr.heap.size) hKid2 hbN2 hb1
      obtain ⟨s0, s1, s2, s3, s4, s5, s6, s7⟩ := hY.later (N := w1.heap.size) (by omega) hb2
      have hZ : Slot8 w2 w1.heap.size (.int .i64 z.t.lab.kd) (.int .u8 z.t.lab.v.k) (.int .i64 z.t.lab.v.n) (.string z.t.lab.v.s) (.string z.t.lab.tb) (.string z.t.lab.nm) (.string z.t.lab.op) (.slice z.a z.t.args.length z.cap) := by rw [← hw2]; exact Slot8.new w1 39 _ _ _ _ _ _ _ _
      obtain ⟨p0, p1, p2, p3, p4, p5, p6, p7⟩ := hZ
      generalize sameX l y.t z.t = d at *
      clear hy hAy hz hAz HA HK hkl hku HI HCl hbN hbN2 hKid2 hb1 hb2 hY hs1 hkd
      go_wp2_with fail
      refine (HY.out).mono ?_
      rintro e w3 ⟨rfl, hb3⟩
      have HB3 := Lib.hid (HBr.out.trans ((HB2.out.trans (hb3.mono HB2.out.size)).mono HBr.out.size))
      clear hb3 HY y0 y1 y2 y3 y4 y5 y6 y7 v0 v1 v2 v3 v4 v5 v6 v7 s0 s1 s2 s3 s4 s5 s6 s7 p0 p1 p2 p3 p4 p5 p6 p7
      cases d
      · have hrf := HTf.out rfl
        subst hrf
        go_wp2
        go_ret
        exact ⟨rfl, HB3.out⟩
      · go_wp2
        go_roundw
        case rel => exact ⟨k + 1, by omega, by go_num, HTk.out, HB3.out⟩
        case measure => simp [intOf]; omega
    · have q0 : decide (k < m) = false := by simpa using hlt
      have hrt : r = true := by
        have h1 := HI.out
        rw [show k = m by omega, List.take_of_length_le (by rw [HM.out]; omega), List.take_of_length_le (by rw [HQ.out]; omega), HR.out] at h1
        exact h1
      subst hrt
      go_wp2
      go_ret
      exact ⟨rfl, HBr.out⟩

theorem eqV20 (v v' : Vl) (q : Bool) (hq : decide (v = v') = q) (w : World) : (Op.equalIn 10000 36 (.agg #[.int .u8 v.k, .int .i64 v.n, .string v.s]) (.agg #[.int .u8 v'.k, .int .i64 v'.n, .string v'.s])).run Tryd.prog w = .ok q w := by
  have hS : Tryd.prog.underlying 36 = some (.struct (Tryd.prog.fieldsOf 36)) := by kernel_rfl
  have hp : Tryd.prog.stoodInHeld 36 = false := by kernel_rfl
  rw [show (10000 : Nat) = 9999 + 1 from rfl, run_equalIn_agg w 9999 36 _ _ hS hp]
  simp only [Program.fieldsOf, Tryd.underlying36]
  go_simp
  subst hq
  obtain ⟨k, n, s⟩ := v
  obtain ⟨k', n', s'⟩ := v'
  by_cases h1 : k = k' <;> by_cases h2 : n = n' <;> by_cases h3 : s = s' <;> simp [h1, h2, h3, toList_ne] <;> omega
@[go_sem] theorem eqGuardV20 : Tryd.prog.eqGuardType Tryd.prog.depth 36 = false := by kernel_rfl
theorem sameX_eq (l : Nat) (t u : Ex) : sameX (l + 1) t u = ((t.lab.kd == u.lab.kd) && (decide (t.lab.v = u.lab.v) && ((t.lab.tb.toList == u.lab.tb.toList) && ((t.lab.nm.toList == u.lab.nm.toList) && ((t.lab.op.toList == u.lab.op.toList) && listSame (sameX l) t.args u.args))))) := by
  rw [sameX]
  obtain ⟨⟨kd, v, tb, nm, op⟩, r⟩ := t
  obtain ⟨⟨kd', v', tb', nm', op'⟩, r'⟩ := u
  simp only [Rose.lab, Rose.args]
  by_cases h1 : kd = kd' <;> by_cases h2 : v = v' <;> by_cases h3 : tb = tb' <;> by_cases h4 : nm = nm' <;> by_cases h5 : op = op' <;> simp [h1, h2, h3, h4, h5, toList_ne]

set_option maxHeartbeats 4000000 in
theorem same_is : ∀ n l, l ≤ 1000 → SameIs n l
  | 0, _, _ => fun _ _ _ h => h.elim
  | n + 1, 0, _ => fun y z w hy hz => by
    rw [show sameX 0 y.t z.t = false from rfl]
    clear hy hz
    go_enter Tryd.func44, Tryd.ntmps44
    go_wp2
    go_ret
    exact ⟨rfl, (((Below.refl _ w).alloc (Nat.le_refl _) _).alloc (by simp <;> omega) _).alloc (by simp <;> omega) _⟩
  | n + 1, l + 1, hl => fun y z w hy hz => by
    have IH := same_is n l (by omega)
    obtain ⟨t, a, cap⟩ := y
    obtain ⟨u, b, cup⟩ := z
    have HE := Lib.hid (fun W g (hb : Below w.heap.size w W) hg => same_eqf n l (by omega) IH t u a b cap cup g W (hy.later hb) (hz.later hb) hg)
    simp only
    rw [sameX_eq]
    clear hy hz IH
    obtain ⟨w0, hw0⟩ : ∃ w0, w.alloc (.cells #[.int .i64 t.lab.kd, .int .u8 t.lab.v.k, .int .i64 t.lab.v.n, .string t.lab.v.s, .string t.lab.tb, .string t.lab.nm, .string t.lab.op, .slice a t.args.length cap] 39) = w0 := ⟨_, rfl⟩
    obtain ⟨w1, hw1⟩ : ∃ w1, w0.alloc (.cells #[.int .i64 u.lab.kd, .int .u8 u.lab.v.k, .int .i64 u.lab.v.n, .string u.lab.v.s, .string u.lab.tb, .string u.lab.nm, .string u.lab.op, .slice b u.args.length cup] 39) = w1 := ⟨_, rfl⟩
    have hb0 : Below w.heap.size w w0 := by rw [← hw0]; exact (Below.refl _ w).alloc (Nat.le_refl _) _
    have hb1 : Below w0.heap.size w0 w1 := by rw [← hw1]; exact (Below.refl _ w0).alloc (Nat.le_refl _) _
    have hY : Slot8 w0 w.heap.size (.int .i64 t.lab.kd) (.int .u8 t.lab.v.k) (.int .i64 t.lab.v.n) (.string t.lab.v.s) (.string t.lab.tb) (.string t.lab.nm) (.string t.lab.op) (.slice a t.args.length cap) := by rw [← hw0]; exact Slot8.new w 39 _ _ _ _ _ _ _ _
    have hZ : Slot8 w1 w0.heap.size (.int .i64 u.lab.kd) (.int .u8 u.lab.v.k) (.int .i64 u.lab.v.n) (.string u.lab.v.s) (.string u.lab.tb) (.string u.lab.nm) (.string u.lab.op) (.slice b u.args.length cup) := by rw [← hw1]; exact Slot8.new w0 39 _ _ _ _ _ _ _ _
    have hs0 : w0.heap.size = w.heap.size + 1 := by rw [← hw0]; simp
    have hs1 : w1.heap.size = w0.heap.size + 1 := by rw [← hw1]; simp
    obtain ⟨w2, hw2⟩ : ∃ w2, w1.alloc (.cells #[.int .i64 ((l + 1 : Nat) : Int)] 3) = w2 := ⟨_, rfl⟩
    have hb2 : Below w1.heap.size w1 w2 := by rw [← hw2]; exact (Below.refl _ w1).alloc (Nat.le_refl _) _
    have hg : w2.cell? ⟨w1.heap.size, 0, none⟩ = some (.int .i64 ((l + 1 : Nat) : Int)) := by rw [← hw2]; simp
    have HB2 := Lib.hid ((hb0.trans (hb1.mono hb0.size)).trans (hb2.mono (by omega)))
    have HC := Lib.hid (HE.out w2 w1.heap.size HB2.out hg)
    obtain ⟨y0, y1, y2, y3, y4, y5, y6, y7⟩ := (hY.later (N := w0.heap.size) (by omega) hb1).later (N := w1.heap.size) (by omega) hb2
    obtain ⟨z0, z1, z2, z3, z4, z5, z6, z7⟩ := hZ.later (N := w1.heap.size) (by omega) hb2
    clear hb0 hb1 hb2 hY hZ HE hs0 hs1
    have hl0 : (((l + 1 : Nat) : Int) == 0) = false := by simp; omega
    generalize hQ : ((l + 1 : Nat) : Int) = Q at *
    clear hQ
    obtain ⟨q0, hq0⟩ : ∃ q, (t.lab.kd == u.lab.kd) = q := ⟨_, rfl⟩
    obtain ⟨qv, hqv⟩ : ∃ q, decide (t.lab.v = u.lab.v) = q := ⟨_, rfl⟩
    obtain ⟨q2, hq2⟩ : ∃ q, (t.lab.tb.toList == u.lab.tb.toList) = q := ⟨_, rfl⟩
    obtain ⟨q3, hq3⟩ : ∃ q, (t.lab.nm.toList == u.lab.nm.toList) = q := ⟨_, rfl⟩
    obtain ⟨q4, hq4⟩ : ∃ q, (t.lab.op.toList == u.lab.op.toList) = q := ⟨_, rfl⟩
    have hE := eqV20 _ _ _ hqv
    have hn0 : (t.lab.kd != u.lab.kd) = !q0 := by rw [← hq0]; rfl
    have hn2 : (t.lab.tb.toList != u.lab.tb.toList) = !q2 := by rw [← hq2]; rfl
    have hn3 : (t.lab.nm.toList != u.lab.nm.toList) = !q3 := by rw [← hq3]; rfl
    have hn4 : (t.lab.op.toList != u.lab.op.toList) = !q4 := by rw [← hq4]; rfl
    rw [hq0, hqv, hq2, hq3, hq4]
    clear hqv
    generalize listSame (sameX l) t.args u.args = d at *
    go_enter Tryd.func44, Tryd.ntmps44
    cases q0
    · go_wp2
      go_ret
      exact ⟨rfl, HB2.out⟩
    cases qv
    · go_wp2
      go_ret
      exact ⟨rfl, HB2.out⟩
    cases q2
    · go_wp2
      go_ret
      exact ⟨rfl, HB2.out⟩
    cases q3
    · go_wp2
      go_ret
      exact ⟨rfl, HB2.out⟩
    cases q4
    · go_wp2
      go_ret
      exact ⟨rfl, HB2.out⟩
    go_wp2_with fail
    refine (HC.out).mono ?_
    rintro e w3 ⟨rfl, hb3⟩
    have HB3 := Lib.hid (HB2.out.trans (hb3.mono HB2.out.size))
    clear hb3
    go_wp2
    go_ret
    exact ⟨rfl, HB3.out⟩
theorem Same_any20 (n : Nat) (y z : XM) (w : World) (hy : XAt w.heap.size w n y) (hz : XAt w.heap.size w n z) :
    Calls Tryd.prog 24 #[y.v, z.v] w fun e w' => e = .returned (.bool (sameX 20 y.t z.t)) ∧ Below w.heap.size w w' := by
  have HS := Lib.hid (fun W (hb : Below w.heap.size w W) => same_is n 20 (by omega) y z W (hy.later hb) (hz.later hb))
  rw [XM.v_eq, XM.v_eq]
  generalize sameX 20 y.t z.t = d at *
  clear hy hz
  obtain ⟨w0, hw0⟩ : ∃ w0, w.alloc (.cells #[.int .i64 y.t.lab.kd, .int .u8 y.t.lab.v.k, .int .i64 y.t.lab.v.n, .string y.t.lab.v.s, .string y.t.lab.tb, .string y.t.lab.nm, .string y.t.lab.op, .slice y.a y.t.args.length y.cap] 39) = w0 := ⟨_, rfl⟩
  obtain ⟨w1, hw1⟩ : ∃ w1, w0.alloc (.cells #[.int .i64 z.t.lab.kd, .int .u8 z.t.lab.v.k, .int .i64 z.t.lab.v.n, .string z.t.lab.v.s, .string z.t.lab.tb, .string z.t.lab.nm, .string z.t.lab.op, .slice z.a z.t.args.length z.cap] 39) = w1 := ⟨_, rfl⟩
  have hb0 : Below w.heap.size w w0 := by rw [← hw0]; exact (Below.refl _ w).alloc (Nat.le_refl _) _
  have hb1 : Below w0.heap.size w0 w1 := by rw [← hw1]; exact (Below.refl _ w0).alloc (Nat.le_refl _) _
  have hs0 : w0.heap.size = w.heap.size + 1 := by rw [← hw0]; simp
  have hY : Slot8 w0 w.heap.size (.int .i64 y.t.lab.kd) (.int .u8 y.t.lab.v.k) (.int .i64 y.t.lab.v.n) (.string y.t.lab.v.s) (.string y.t.lab.tb) (.string y.t.lab.nm) (.string y.t.lab.op) (.slice y.a y.t.args.length y.cap) := by rw [← hw0]; exact Slot8.new w 39 _ _ _ _ _ _ _ _
  have hZ : Slot8 w1 w0.heap.size (.int .i64 z.t.lab.kd) (.int .u8 z.t.lab.v.k) (.int .i64 z.t.lab.v.n) (.string z.t.lab.v.s) (.string z.t.lab.tb) (.string z.t.lab.nm) (.string z.t.lab.op) (.slice z.a z.t.args.length z.cap) := by rw [← hw1]; exact Slot8.new w0 39 _ _ _ _ _ _ _ _
  obtain ⟨y0, y1, y2, y3, y4, y5, y6, y7⟩ := hY.later (N := w0.heap.size) (by omega) hb1
  obtain ⟨z0, z1, z2, z3, z4, z5, z6, z7⟩ := hZ
  have HB1 := Lib.hid (hb0.trans (hb1.mono hb0.size))
  clear hb0 hb1 hs0 hY
  go_enter Tryd.func24, Tryd.ntmps24
  go_wp2_with fail
  refine (HS.out _ HB1.out).mono ?_
  rintro e w2 ⟨rfl, hb2⟩
  have HB2 := Lib.hid (HB1.out.trans (hb2.mono HB1.out.size))
  clear hb2
  go_wp2
  go_ret
  exact ⟨rfl, HB2.out⟩
end Go.Proofs.YtbnddpicpomakaaDoor

/- The walk of the reference's Same. -/
set_option linter.unusedSimpArgs false
set_option linter.unusedVariables false
set_option maxRecDepth 100000
namespace Go.Proofs.YtbnddpicpomakaaDoor
open Go.RowKit

open Classical in
noncomputable def eqT (a b : Ex) : Bool := decide (a = b)
open Classical in
noncomputable def eqL (a b : List Ex) : Bool := decide (a = b)
theorem eqT_iff (a b : Ex) : eqT a b = true ↔ a = b := by unfold eqT; simp
theorem eqL_iff (a b : List Ex) : eqL a b = true ↔ a = b := by unfold eqL; simp
theorem lab_ext {l m : Lb} (h1 : l.kd = m.kd) (h2 : l.v = m.v) (h3 : l.tb = m.tb) (h4 : l.nm = m.nm) (h5 : l.op = m.op) : l = m := by
  obtain ⟨a, b, c, d, e⟩ := l
  obtain ⟨a', b', c', d', e'⟩ := m
  simp only at h1 h2 h3 h4 h5
  rw [h1, h2, h3, h4, h5]
theorem eqT_eq (t u : Ex) : eqT t u = ((t.lab.kd == u.lab.kd) && (decide (t.lab.v = u.lab.v) && ((t.lab.tb.toList == u.lab.tb.toList) && ((t.lab.nm.toList == u.lab.nm.toList) && ((t.lab.op.toList == u.lab.op.toList) && eqL t.args u.args))))) := by
  rw [Bool.eq_iff_iff]
  constructor
  · intro h
    have h1 := (eqT_iff t u).1 h
    subst h1
    simp [(eqL_iff t.args t.args).2 rfl]
  · intro h
    simp only [Bool.and_eq_true, beq_iff_eq, decide_eq_true_iff, eqL_iff] at h
    obtain ⟨h1, h2, h3, h4, h5, h6⟩ := h
    rw [eqT_iff, ← t.eta, ← u.eta, h6, lab_ext h1 h2 (toList_inj h3) (toList_inj h4) (toList_inj h5)]

set_option maxHeartbeats 8000000 in
theorem RSame_any20 : ∀ (n : Nat) (x y : XM) (w : World), XAt w.heap.size w n x → XAt w.heap.size w n y →
    Calls Tryd.prog 40 #[x.v, y.v] w fun e w' => e = .returned (.bool (eqT x.t y.t)) ∧ Below w.heap.size w w'
  | 0, _, _, _, h, _ => h.elim
  | n + 1, ⟨t, a, cap⟩, ⟨u, b, cup⟩, w, hx, hy => by
    have IH : Hid (∀ (x y : XM) (W : World), XAt W.heap.size W n x → XAt W.heap.size W n y → Calls Tryd.prog 40 #[.agg #[.int .i64 x.t.lab.kd, .int .u8 x.t.lab.v.k, .int .i64 x.t.lab.v.n, .string x.t.lab.v.s, .string x.t.lab.tb, .string x.t.lab.nm, .string x.t.lab.op, .slice x.a x.t.args.length x.cap], .agg #[.int .i64 y.t.lab.kd, .int .u8 y.t.lab.v.k, .int .i64 y.t.lab.v.n, .string y.t.lab.v.s, .string y.t.lab.tb, .string y.t.lab.nm, .string y.t.lab.op, .slice y.a y.t.args.length y.cap]] W fun e w' => e = .returned (.bool (eqT x.t y.t)) ∧ Below W.heap.size W w') := fun x y W h1 h2 => by
      have := RSame_any20 n x y W h1 h2
      rw [XM.v_eq, XM.v_eq] at this; exact this
    rw [XM.v_eq, XM.v_eq]
    have HA := Lib.hid hx
    have HK := Lib.hid hy
    have hlen := hx.fair.2.1
    have hcap := hx.fair.2.2
    have klen := hy.fair.2.1
    have kcap := hy.fair.2.2
    simp only at hlen hcap klen kcap ⊢
    rw [eqT_eq]
    obtain ⟨r, hr⟩ : ∃ r, eqL t.args u.args = r := ⟨_, rfl⟩
    rw [hr]
    have HR := Lib.hid hr
    obtain ⟨m, hm⟩ : ∃ m, t.args.length = m := ⟨_, rfl⟩
    obtain ⟨q, hq⟩ : ∃ q, u.args.length = q := ⟨_, rfl⟩
    rw [hm] at hlen ⊢
    rw [hq] at klen ⊢
    have HM := Lib.hid hm
    have HQ := Lib.hid hq
    clear hx hy hr hm hq
    obtain ⟨w0, hw0⟩ : ∃ w0, w.alloc (.cells #[.int .i64 t.lab.kd, .int .u8 t.lab.v.k, .int .i64 t.lab.v.n, .string t.lab.v.s, .string t.lab.tb, .string t.lab.nm, .string t.lab.op, .slice a m cap] 44) = w0 := ⟨_, rfl⟩
    obtain ⟨w1, hw1⟩ : ∃ w1, w0.alloc (.cells #[.int .i64 u.lab.kd, .int .u8 u.lab.v.k, .int .i64 u.lab.v.n, .string u.lab.v.s, .string u.lab.tb, .string u.lab.nm, .string u.lab.op, .slice b q cup] 44) = w1 := ⟨_, rfl⟩
    have hb0 : Below w.heap.size w w0 := by rw [← hw0]; exact (Below.refl _ w).alloc (Nat.le_refl _) _
    have hb1 : Below w0.heap.size w0 w1 := by rw [← hw1]; exact (Below.refl _ w0).alloc (Nat.le_refl _) _
    have hs0 : w0.heap.size = w.heap.size + 1 := by rw [← hw0]; simp
    have hs1 : w1.heap.size = w0.heap.size + 1 := by rw [← hw1]; simp
    have HY := Lib.hid ((by rw [← hw0]; exact Slot8.new w 44 _ _ _ _ _ _ _ _ : Slot8 w0 w.heap.size (.int .i64 t.lab.kd) (.int .u8 t.lab.v.k) (.int .i64 t.lab.v.n) (.string t.lab.v.s) (.string t.lab.tb) (.string t.lab.nm) (.string t.lab.op) (.slice a m cap)).later (N := w0.heap.size) (by omega) hb1)
    have HZ := Lib.hid (by rw [← hw1]; exact Slot8.new w0 44 _ _ _ _ _ _ _ _ : Slot8 w1 w0.heap.size (.int .i64 u.lab.kd) (.int .u8 u.lab.v.k) (.int .i64 u.lab.v.n) (.string u.lab.v.s) (.string u.lab.tb) (.string u.lab.nm) (.string u.lab.op) (.slice b q cup))
    have HB1 := Lib.hid (hb0.trans (hb1.mono hb0.size))
    have HL : Hid (w.heap.size < w1.heap.size ∧ w0.heap.size < w1.heap.size) := ⟨by omega, by omega⟩
    clear hb0 hb1 hs0 hs1
    obtain ⟨y0, y1, y2, y3, y4, y5, y6, y7⟩ := HY.out
    obtain ⟨z0, z1, z2, z3, z4, z5, z6, z7⟩ := HZ.out
    obtain ⟨q0, hq0⟩ : ∃ q, (t.lab.kd == u.lab.kd) = q := ⟨_, rfl⟩
    obtain ⟨qv, hqv⟩ : ∃ q, decide (t.lab.v = u.lab.v) = q := ⟨_, rfl⟩
    obtain ⟨q2, hq2⟩ : ∃ q, (t.lab.tb.toList == u.lab.tb.toList) = q := ⟨_, rfl⟩
    obtain ⟨q3, hq3⟩ : ∃ q, (t.lab.nm.toList == u.lab.nm.toList) = q := ⟨_, rfl⟩
    obtain ⟨q4, hq4⟩ : ∃ q, (t.lab.op.toList == u.lab.op.toList) = q := ⟨_, rfl⟩
    have hE := eqV20 _ _ _ hqv
    have hn0 : (t.lab.kd != u.lab.kd) = !q0 := by rw [← hq0]; rfl
    have hn2 : (t.lab.tb.toList != u.lab.tb.toList) = !q2 := by rw [← hq2]; rfl
    have hn3 : (t.lab.nm.toList != u.lab.nm.toList) = !q3 := by rw [← hq3]; rfl
    have hn4 : (t.lab.op.toList != u.lab.op.toList) = !q4 := by rw [← hq4]; rfl
    rw [hq0, hqv, hq2, hq3, hq4]
    clear hqv
    go_enter Tryd.func40, Tryd.ntmps40
    cases q0
    · go_wp2
      go_ret
      exact ⟨rfl, HB1.out⟩
    cases qv
    · go_wp2
      go_ret
      exact ⟨rfl, HB1.out⟩
    cases q2
    · go_wp2
      go_ret
      exact ⟨rfl, HB1.out⟩
    cases q3
    · go_wp2
      go_ret
      exact ⟨rfl, HB1.out⟩
    cases q4
    · go_wp2
      go_ret
      exact ⟨rfl, HB1.out⟩
    by_cases hmq : m = q
    rotate_left
    · have q5 : ((m : Int) != (q : Int)) = true := by simp; omega
      have hrf : r = false := by
        rw [← HR.out, Bool.eq_false_iff]
        intro ht
        have := congrArg List.length ((eqL_iff _ _).1 ht)
        rw [HM.out, HQ.out] at this; exact hmq this
      subst hrf
      go_wp2
      go_ret
      exact ⟨rfl, HB1.out⟩
    subst hmq
    have hmm : ((m : Int) != (m : Int)) = false := by simp
    go_wp2
    clear hE hn0 hn2 hn3 hn4 hq0 hq2 hq3 hq4 hmm
    clear y0 y1 y2 y3 y4 y5 y6 y7 z0 z1 z2 z3 z4 z5 z6 z7 hw0 hw1
    go_loopw [5] (fun i wr => ∃ k : Nat, k ≤ m ∧ i = .int .i64 k ∧ Hid (t.args.take k = u.args.take k) ∧ Hid (Below w1.heap.size w1 wr)) (fun i _ => m - (intOf i).toNat)
    case atStart => exact ⟨0, by omega, rfl, rfl, Below.refl _ _⟩
    case round =>
      obtain ⟨k, hk, rfl, HI, HBr⟩ := hrel
      have HBw := Lib.hid (HB1.out.trans (HBr.out.mono HB1.out.size))
      obtain ⟨y0, y1, y2, y3, y4, y5, y6, y7⟩ := HY.out.later HL.out.1 HBr.out
      obtain ⟨z0, z1, z2, z3, z4, z5, z6, z7⟩ := HZ.out.later HL.out.2 HBr.out
      by_cases hlt : k < m
      · have hkl : k < t.args.length := by rw [HM.out]; exact hlt
        have hku : k < u.args.length := by rw [HQ.out]; exact hlt
        obtain ⟨y, hy, hAy, b1, o1, hab, hbN, hKid⟩ := (HA.out.later HBw.out).kid8 (k := k) hkl
        obtain ⟨z, hz, hAz, b2, o2, hab2, hbN2, hKid2⟩ := (HK.out.later HBw.out).kid8 (k := k) hku
        simp only at hab hy hab2 hz
        subst hab hab2
        have HTk : Hid (eqT y.t z.t = true → t.args.take (k + 1) = u.args.take (k + 1)) := fun he => by
          rw [List.take_succ_eq_append_getElem hkl, List.take_succ_eq_append_getElem hku, HI.out, ← hy, ← hz, (eqT_iff _ _).1 he]
        have HTf : Hid (eqT y.t z.t = false → r = false) := fun hf => by
          rw [← HR.out, Bool.eq_false_iff]
          intro ht
          have h1 := (eqL_iff _ _).1 ht
          have h2 : t.args[k] = u.args[k] := by simp only [h1]
          rw [← hy, ← hz] at h2
          rw [(eqT_iff _ _).2 h2] at hf; cases hf
        have HC := Lib.hid (fun V (hV : Later wr.drew V) => IH.out y z V (hAy.later (Later.undrew hV)) (hAz.later (Later.undrew hV)))
        have HF := Lib.hid (fun V (hV : Later wr.drew V) => (⟨(HY.out.later HL.out.1 HBr.out).later (Nat.lt_of_lt_of_le HL.out.1 HBr.out.size) (Later.undrew hV), (HZ.out.later HL.out.2 HBr.out).later (Nat.lt_of_lt_of_le HL.out.2 HBr.out.size) (Later.undrew hV), hKid.later hbN (Later.undrew hV), hKid2.later hbN2 (Later.undrew hV)⟩ : Slot8 V w.heap.size (.int .i64 t.lab.kd) (.int .u8 t.lab.v.k) (.int .i64 t.lab.v.n) (.string t.lab.v.s) (.string t.lab.tb) (.string t.lab.nm) (.string t.lab.op) (.slice (some ⟨b1, o1, none⟩) m cap) ∧ Slot8 V w0.heap.size (.int .i64 u.lab.kd) (.int .u8 u.lab.v.k) (.int .i64 u.lab.v.n) (.string u.lab.v.s) (.string u.lab.tb) (.string u.lab.nm) (.string u.lab.op) (.slice (some ⟨b2, o2, none⟩) m cup) ∧ KidAt V b1 (o1 + k * 8) y ∧ KidAt V b2 (o2 + k * 8) z))
        generalize eqT y.t z.t = d at *
        have f7 := fun V hV => (HF.out V hV).1.c7
        have g7 := fun V hV => (HF.out V hV).2.1.c7
        have k0 := fun V hV => (HF.out V hV).2.2.1.c0
        have k1 := fun V hV => (HF.out V hV).2.2.1.c1
        have k2 := fun V hV => (HF.out V hV).2.2.1.c2
        have k3 := fun V hV => (HF.out V hV).2.2.1.c3
        have k4 := fun V hV => (HF.out V hV).2.2.1.c4
        have k5 := fun V hV => (HF.out V hV).2.2.1.c5
        have k6 := fun V hV => (HF.out V hV).2.2.1.c6
        have k7 := fun V hV => (HF.out V hV).2.2.1.c7
        have l0 := fun V hV => (HF.out V hV).2.2.2.c0
        have l1 := fun V hV => (HF.out V hV).2.2.2.c1
        have l2 := fun V hV => (HF.out V hV).2.2.2.c2
        have l3 := fun V hV => (HF.out V hV).2.2.2.c3
        have l4 := fun V hV => (HF.out V hV).2.2.2.c4
        have l5 := fun V hV => (HF.out V hV).2.2.2.c5
        have l6 := fun V hV => (HF.out V hV).2.2.2.c6
        have l7 := fun V hV => (HF.out V hV).2.2.2.c7
        clear hy hAy hz hAz hkl hku hbN hbN2 hKid hKid2
        go_wp2_with fail
        refine wp_region_ord [(0, true), (1, true), (2, true), (3, true), (4, true), (5, true), (6, true), (7, true), (8, true), (9, true), (10, false), (11, true)] (by kernel_rfl) (by kernel_rfl) (by kernel_rfl) (by kernel_rfl) ?_
        repeat (first | (refine wpO_F (v := ?_) rfl (by rfl) (fun w' hL => ?_) ?_; rotate_left; (solve | (go_simp; with_reducible rfl) | go_simp); try simp only [Act.put, List.setIfInBounds_toArray, List.set_cons_zero, List.set_cons_succ]) | (refine wpO_G rfl (by rfl) ?_; try simp only [Act.put, List.setIfInBounds_toArray, List.set_cons_zero, List.set_cons_succ]))
        refine wpO_C rfl (by rfl) ?_
        go_simp
        refine (HC.out _ (Below.refl _ _)).mono ?_
        rintro e w2 ⟨rfl, hb2⟩
        refine ⟨hb2, ?_⟩
        try simp only [Act.put, List.setIfInBounds_toArray, List.set_cons_zero, List.set_cons_succ]
        have HB2 := Lib.hid (HBr.out.trans (((Below.refl wr.heap.size wr).drew.trans hb2).mono HBr.out.size))
        clear hb2 f7 g7 k0 k1 k2 k3 k4 k5 k6 k7 l0 l1 l2 l3 l4 l5 l6 l7
        repeat (first | (refine wpO_F (v := ?_) rfl (by rfl) (fun w' hL => ?_) ?_; rotate_left; (solve | (go_simp; with_reducible rfl) | go_simp); try simp only [Act.put, List.setIfInBounds_toArray, List.set_cons_zero, List.set_cons_succ]) | (refine wpO_G rfl (by rfl) ?_; try simp only [Act.put, List.setIfInBounds_toArray, List.set_cons_zero, List.set_cons_succ]))
        refine wpO_nil ?_
        cases d
        · have hrf := HTf.out rfl
          subst hrf
          go_wp2
          go_ret
          exact ⟨rfl, HB1.out.trans (HB2.out.mono HB1.out.size)⟩
        · go_wp2
          go_roundw
          case rel => exact ⟨k + 1, by omega, by go_num, HTk.out rfl, HB2.out⟩
          case measure => simp [intOf]; omega
      · have q0 : decide (k < m) = false := by simpa using hlt
        have hrt : r = true := by
          have h1 := HI.out
          rw [show k = m by omega, List.take_of_length_le (by rw [HM.out]; omega), List.take_of_length_le (by rw [HQ.out]; omega)] at h1
          rw [← HR.out]; exact (eqL_iff _ _).2 h1
        subst hrt
        go_wp2
        go_ret
        exact ⟨rfl, HBw.out⟩
end Go.Proofs.YtbnddpicpomakaaDoor

/- The walk of the law's lists. -/
set_option linter.unusedSimpArgs false
set_option linter.unusedVariables false
set_option maxRecDepth 100000
namespace Go.Proofs.YtbnddpicpomakaaDoor
open Go.RowKit

/-- The k-th of a row of expressions: its cells. -/
theorem rowKid {N : Nat} {w : World} {a : Option Addr} {L : List XM} (h : Arr N w a (cellsOf cellsX L)) {k : Nat} (hk : k < L.length) :
    ∃ b o, a = some ⟨b, o, none⟩ ∧ b < N ∧ KidAt w b (o + k * 8) L[k] := by
  obtain ⟨b, o, ha, hb, hc⟩ := h.at_ (by intro h0; have := cellsOf_len cellsX 8 cellsX_len L; rw [h0] at this; simp at this; omega)
  have g := fun (j : Nat) (v : Value) (hv : (cellsX L[k])[j]? = some v) => hc _ _ (cellsOf_get cellsX 8 cellsX_len L k j L[k] v (List.getElem?_eq_getElem hk) hv)
  exact ⟨b, o, ha, hb, by simpa using g 0 _ rfl, by simpa [Nat.add_assoc] using g 1 _ rfl, by simpa [Nat.add_assoc] using g 2 _ rfl, by simpa [Nat.add_assoc] using g 3 _ rfl, by simpa [Nat.add_assoc] using g 4 _ rfl, by simpa [Nat.add_assoc] using g 5 _ rfl, by simpa [Nat.add_assoc] using g 6 _ rfl, by simpa [Nat.add_assoc] using g 7 _ rfl⟩

/-- Two lists of the same expressions are told to be the same. -/
theorem xLists_any (n : Nat) (L M : List XM) (a b : Option Addr) (c d : Nat) (w : World) (hL : Arr w.heap.size w a (cellsOf cellsX L)) (hM : Arr w.heap.size w b (cellsOf cellsX M))
    (hx : ∀ y ∈ L, XAt w.heap.size w n y) (hy : ∀ y ∈ M, XAt w.heap.size w n y) (hs : L.map (·.t) = M.map (·.t)) (hall : ∀ y ∈ L, y.t.args.length ≤ 1000000 ∧ y.t.allB (fun _ k => decide (k ≤ 1000000)) = true)
    (hc : L.length ≤ c) (hc2 : c ≤ 9223372036854775807) (hd : M.length ≤ d) (hd2 : d ≤ 9223372036854775807) :
    Calls Tryd.prog 19 #[.slice a L.length c, .slice b M.length d] w fun e w' => e = .returned (.bool true) ∧ Below w.heap.size w w' := by
  have hml : L.length = M.length := by have := congrArg List.length hs; simpa using this
  obtain ⟨m, hm⟩ : ∃ m, L.length = m := ⟨_, rfl⟩
  have hm2 : M.length = m := hml.symm.trans hm
  rw [hm] at hc
  rw [hm2] at hd
  have HK := Lib.hid (fun k (hk : k < L.length) => rowKid hL hk)
  have HQ := Lib.hid (fun k (hk : k < M.length) => rowKid hM hk)
  have HAs := Lib.hid (fun y (hy : y ∈ L) W (hb : Below w.heap.size w W) => As_any20 n y W ((hx y hy).later hb) (hall y hy).1 (hall y hy).2)
  have HY := Lib.hid (fun y (hyM : y ∈ M) W (hb : Below w.heap.size w W) => (hy y hyM).later hb)
  have HSm := Lib.hid hs
  have HM := Lib.hid hm
  have HM2 := Lib.hid hm2
  rw [hm, hm2]
  have hmm : ((m : Int) != (m : Int)) = false := by simp
  clear hL hM hx hy hall hs hml hm hm2
  go_enter Tryd.func19, Tryd.ntmps19
  go_wp2
  clear hmm
  go_loopw [5] (fun i wr => ∃ k : Nat, k ≤ m ∧ i = .int .i64 k ∧ Hid (Below w.heap.size w wr)) (fun i _ => m - (intOf i).toNat)
  case atStart => exact ⟨0, by omega, rfl, Below.refl _ _⟩
  case round =>
    obtain ⟨k, hk, rfl, HBr⟩ := hrel
    by_cases hlt : k < m
    · have hkl : k < L.length := by rw [HM.out]; exact hlt
      have hkm : k < M.length := by rw [HM2.out]; exact hlt
      obtain ⟨b1, o1, hab, hbN, hKid⟩ := HK.out k hkl
      obtain ⟨b2, o2, hab2, hbN2, hKid2⟩ := HQ.out k hkm
      have hyt : L[k].t = M[k].t := by
        have h1 : (L.map (·.t))[k]? = (M.map (·.t))[k]? := by rw [HSm.out]
        simpa [List.getElem?_eq_getElem hkl, List.getElem?_eq_getElem hkm] using h1
      have hyL : L[k] ∈ L := List.getElem_mem hkl
      have hzM : M[k] ∈ M := List.getElem_mem hkm
      generalize L[k] = y at *
      generalize M[k] = z at *
      subst hab hab2
      have HF := Lib.hid (fun V (hV : Later wr.drew V) => (⟨(hKid.later hbN HBr.out).later (Nat.lt_of_lt_of_le hbN HBr.out.size) (Later.undrew hV), (hKid2.later hbN2 HBr.out).later (Nat.lt_of_lt_of_le hbN2 HBr.out.size) (Later.undrew hV)⟩ : KidAt V b1 (o1 + k * 8) y ∧ KidAt V b2 (o2 + k * 8) z))
      have HC1 := Lib.hid (fun V (hV : Later wr.drew V) => HAs.out y hyL V (HBr.out.trans ((Later.undrew hV).mono HBr.out.size)))
      rw [XM.v_eq] at HC1
      have HC2 : Hid (∀ (q : XM) V, Later wr.drew V → q.t = y.t → XAt V.heap.size V n q → Calls Tryd.prog 40 #[.agg #[.int .i64 q.t.lab.kd, .int .u8 q.t.lab.v.k, .int .i64 q.t.lab.v.n, .string q.t.lab.v.s, .string q.t.lab.tb, .string q.t.lab.nm, .string q.t.lab.op, .slice q.a q.t.args.length q.cap], .agg #[.int .i64 z.t.lab.kd, .int .u8 z.t.lab.v.k, .int .i64 z.t.lab.v.n, .string z.t.lab.v.s, .string z.t.lab.tb, .string z.t.lab.nm, .string z.t.lab.op, .slice z.a z.t.args.length z.cap]] V fun e w' => e = .returned (.bool true) ∧ Below V.heap.size V w') := fun q V hV hq hX => by
        have := RSame_any20 n q z V hX (HY.out z hzM V (HBr.out.trans ((Later.undrew hV).mono HBr.out.size)))
        rw [XM.v_eq, XM.v_eq, (eqT_iff q.t z.t).2 (hq.trans hyt)] at this
        exact this
      have k0 := fun V hV => (HF.out V hV).1.c0
      have k1 := fun V hV => (HF.out V hV).1.c1
      have k2 := fun V hV => (HF.out V hV).1.c2
      have k3 := fun V hV => (HF.out V hV).1.c3
      have k4 := fun V hV => (HF.out V hV).1.c4
      have k5 := fun V hV => (HF.out V hV).1.c5
      have k6 := fun V hV => (HF.out V hV).1.c6
      have k7 := fun V hV => (HF.out V hV).1.c7
      have l0 := fun V hV => (HF.out V hV).2.c0
      have l1 := fun V hV => (HF.out V hV).2.c1
      have l2 := fun V hV => (HF.out V hV).2.c2
      have l3 := fun V hV => (HF.out V hV).2.c3
      have l4 := fun V hV => (HF.out V hV).2.c4
      have l5 := fun V hV => (HF.out V hV).2.c5
      have l6 := fun V hV => (HF.out V hV).2.c6
      have l7 := fun V hV => (HF.out V hV).2.c7
      clear hyt hyL hzM hkl hkm hbN hbN2 hKid hKid2 HK HQ HAs
      go_wp2_with fail
      refine wp_region_ord [(0, true), (1, true), (2, true), (3, true), (5, true), (6, true), (7, true), (8, true), (4, false), (9, false), (10, true)] (by kernel_rfl) (by kernel_rfl) (by kernel_rfl) (by kernel_rfl) ?_
      repeat (first | (refine wpO_F (v := ?_) rfl (by rfl) (fun w' hL => ?_) ?_; rotate_left; (solve | (go_simp; with_reducible rfl) | go_simp); try simp only [Act.put, List.setIfInBounds_toArray, List.set_cons_zero, List.set_cons_succ]) | (refine wpO_G rfl (by rfl) ?_; try simp only [Act.put, List.setIfInBounds_toArray, List.set_cons_zero, List.set_cons_succ]))
      refine wpO_C rfl (by rfl) ?_
      go_simp
      refine (HC1.out _ (Below.refl _ _)).mono ?_
      rintro e w2 ⟨q, rfl, hqt, hqI, hb2⟩
      refine ⟨hb2, ?_⟩
      try simp only [Act.put, List.setIfInBounds_toArray, List.set_cons_zero, List.set_cons_succ]
      have HB2 := Lib.hid hb2
      have HC3 := Lib.hid (fun V (hV : Later w2 V) => HC2.out q V (Below.trans hb2 (Below.mono hV hb2.size)) hqt ((XIn.at_ (hqI.imp fun b hb => hb.2)).later hV))
      clear hqt hqI hb2
      repeat (first | (refine wpO_F (v := ?_) rfl (by rfl) (fun w' hL => ?_) ?_; rotate_left; (solve | (go_simp; with_reducible rfl) | go_simp); try simp only [Act.put, List.setIfInBounds_toArray, List.set_cons_zero, List.set_cons_succ]) | (refine wpO_G rfl (by rfl) ?_; try simp only [Act.put, List.setIfInBounds_toArray, List.set_cons_zero, List.set_cons_succ]))
      refine wpO_C rfl (by rfl) ?_
      go_simp
      refine (HC3.out _ (Below.refl _ _)).mono ?_
      rintro e w3 ⟨rfl, hb3⟩
      refine ⟨hb3, ?_⟩
      try simp only [Act.put, List.setIfInBounds_toArray, List.set_cons_zero, List.set_cons_succ]
      have HB3 := Lib.hid (HBr.out.trans (((Below.refl wr.heap.size wr).drew.trans (HB2.out.trans (hb3.mono HB2.out.size))).mono HBr.out.size))
      clear hb3
      repeat (first | (refine wpO_F (v := ?_) rfl (by rfl) (fun w' hL => ?_) ?_; rotate_left; (solve | (go_simp; with_reducible rfl) | go_simp); try simp only [Act.put, List.setIfInBounds_toArray, List.set_cons_zero, List.set_cons_succ]) | (refine wpO_G rfl (by rfl) ?_; try simp only [Act.put, List.setIfInBounds_toArray, List.set_cons_zero, List.set_cons_succ]))
      refine wpO_nil ?_
      go_wp2
      go_roundw
      case rel => exact ⟨k + 1, by omega, by go_num, HB3.out⟩
      case measure => simp [intOf]; omega
    · have q0 : decide ((k : Int) < (m : Int)) = false := by simp; omega
      go_wp2
      go_ret
      exact ⟨rfl, HBr.out⟩
end Go.Proofs.YtbnddpicpomakaaDoor

/- The walk of the reference's Deep. -/
set_option linter.unusedSimpArgs false
set_option linter.unusedVariables false
set_option maxRecDepth 100000
namespace Go.Proofs.YtbnddpicpomakaaDoor
open Go.RowKit

theorem depTo_next {args : List Ex} {most k : Nat} (hk : k < args.length) (hm : 1 ≤ most) : depTo args most (k + 1) = max (depTo args most k) (1 + min args[k].depth (most - 1)) := by
  have := args[k].depth_pos
  unfold depTo; rw [maxL_take_succ hk]; omega

set_option maxHeartbeats 8000000 in
theorem RDeep_any20 : ∀ (n : Nat) (x : XM) (w : World) (left : Nat), XAt w.heap.size w n x → left ≤ 1000 →
    Calls Tryd.prog 38 #[x.v, .int .i64 (left : Int)] w fun e w' => e = .returned (.int .i64 ((min x.t.depth (left + 1) : Nat) : Int)) ∧ Below w.heap.size w w'
  | 0, _, _, _, h, _ => h.elim
  | n + 1, ⟨t, a, cap⟩, w, left, h, hl => by
    rw [XM.v_eq]
    have HA := Lib.hid h
    have hlen := h.fair.2.1
    have hcap := h.fair.2.2
    simp only at hlen hcap ⊢
    have HE := Lib.hid (depTo_end t (left + 1))
    have hdp := t.depth_pos
    obtain ⟨r, hr⟩ : ∃ r : Nat, min t.depth (left + 1) = r := ⟨_, rfl⟩
    rw [hr] at HE ⊢
    obtain ⟨m, hm⟩ : ∃ m, t.args.length = m := ⟨_, rfl⟩
    rw [hm] at hlen ⊢
    have HM := Lib.hid hm
    have HS := Lib.hid (Slot8.new w 44 (.int .i64 t.lab.kd) (.int .u8 t.lab.v.k) (.int .i64 t.lab.v.n) (.string t.lab.v.s) (.string t.lab.tb) (.string t.lab.nm) (.string t.lab.op) (.slice a m cap))
    obtain ⟨w0, hw0⟩ : ∃ w0, w.alloc (.cells #[.int .i64 t.lab.kd, .int .u8 t.lab.v.k, .int .i64 t.lab.v.n, .string t.lab.v.s, .string t.lab.tb, .string t.lab.nm, .string t.lab.op, .slice a m cap] 44) = w0 := ⟨_, rfl⟩
    have HB1 : Hid (Below w.heap.size w w0) := by rw [← hw0]; exact (Below.refl _ w).alloc (Nat.le_refl _) _
    have hs0 : w.heap.size < w0.heap.size := by rw [← hw0]; simp
    rw [hw0] at HS
    obtain ⟨x0, x1, x2, x3, x4, x5, x6, x7⟩ := HS.out
    cases left with
    | zero =>
      have hr1 := Lib.hid (show 1 = r by rw [← hr]; omega)
      clear hr hdp h hm HA HE HM
      go_enter Tryd.func38, Tryd.ntmps38
      go_wp2
      go_loopw [5, 6] (fun v i wr => v = .int .i64 1 ∧ i = .int .i64 0 ∧ wr = w0) (fun _ _ _ => 0)
      case atStart => exact ⟨rfl, rfl, rfl⟩
      case round =>
        obtain ⟨rfl, rfl, rfl⟩ := hrel
        by_cases h0 : 0 < m
        · have q0 : decide ((0 : Int) < (m : Int)) = true := by simp; omega
          go_wp2
          go_ret
          exact ⟨by rw [← hr1.out]; rfl, HB1.out⟩
        · have q0 : decide ((0 : Int) < (m : Int)) = false := by simp; omega
          go_wp2
          go_ret
          exact ⟨by rw [← hr1.out]; rfl, HB1.out⟩
    | succ l =>
      have IH : Hid (∀ (y : XM) (W : World), XAt W.heap.size W n y → Calls Tryd.prog 38 #[.agg #[.int .i64 y.t.lab.kd, .int .u8 y.t.lab.v.k, .int .i64 y.t.lab.v.n, .string y.t.lab.v.s, .string y.t.lab.tb, .string y.t.lab.nm, .string y.t.lab.op, .slice y.a y.t.args.length y.cap], .int .i64 (l : Int)] W fun e w' => e = .returned (.int .i64 ((min y.t.depth (l + 1) : Nat) : Int)) ∧ Below W.heap.size W w') := fun y W hy => by
        have := RDeep_any20 n y W l hy (by omega)
        rw [XM.v_eq] at this; exact this
      have hl1 : IntKind.i64.wrap (((l + 1 : Nat) : Int) - 1) = (l : Int) := by rw [show ((l + 1 : Nat) : Int) - 1 = (l : Int) by omega]; exact IntWalk.i64_in _ (by omega)
      have hl0 : decide ((0 : Int) < ((l + 1 : Nat) : Int)) = true := decide_eq_true (by omega)
      have HC : Hid (∀ k (hk : k < t.args.length), depTo t.args (l + 1 + 1) (k + 1) = max (depTo t.args (l + 1 + 1) k) (1 + min t.args[k].depth (l + 1))) := fun k hk => by
        exact depTo_next hk (by omega)
      have HC1 : Hid (∀ k, depTo t.args (l + 1 + 1) k ≤ l + 1 + 1) := fun k => depTo_le _ _ _
      have HC0 : Hid (depTo t.args (l + 1 + 1) 0 = 1) := by unfold depTo; simp [maxL, Hid]
      generalize depTo t.args (l + 1 + 1) = C at *
      generalize hL : ((l + 1 : Nat) : Int) = L at *
      clear hr hdp h hm hL
      go_enter Tryd.func38, Tryd.ntmps38
      go_wp2
      clear x0 x1 x2 x3 x4 x5 x6 x7
      go_loopw [5, 6] (fun v i wr => ∃ k : Nat, k ≤ m ∧ v = .int .i64 (C k : Int) ∧ i = .int .i64 (k : Int) ∧ Hid (Below w0.heap.size w0 wr)) (fun _ i _ => m - (intOf i).toNat)
      case atStart => exact ⟨0, by omega, by rw [HC0.out]; rfl, rfl, Below.refl _ _⟩
      case round =>
        obtain ⟨k, hk, rfl, rfl, HBr⟩ := hrel
        obtain ⟨x0, x1, x2, x3, x4, x5, x6, x7⟩ := HS.out.later hs0 HBr.out
        have HBw := Lib.hid (HB1.out.trans (HBr.out.mono HB1.out.size))
        by_cases hlt : k < m
        · have hkl : k < t.args.length := by rw [HM.out]; exact hlt
          obtain ⟨y, hy, hAy, b, o, hab, hbN, hKid⟩ := (HA.out.later HBw.out).kid8 (k := k) hkl
          simp only at hab hy
          subst hab
          have HCk := HC.out k hkl
          rw [← hy] at HCk
          have HY := Lib.hid (IH.out y wr hAy)
          obtain ⟨d, hd⟩ : ∃ d, min y.t.depth (l + 1) = d := ⟨_, rfl⟩
          rw [hd] at HY HCk
          have hCk1 := HC1.out k
          have hdl : d ≤ l + 1 := by omega
          obtain ⟨y0, y1, y2, y3, y4, y5, y6, y7⟩ := hKid
          clear hy hAy HA IH hd hkl
          by_cases hgt : C k < 1 + d
          · have q1 : decide ((C k : Int) < 1 + (d : Int)) = true := by simp; omega
            have HV : Hid (C (k + 1) = 1 + d) := by show _ = _; omega
            go_wp2_with fail
            refine HY.out.mono ?_
            rintro e w2 ⟨rfl, hb2⟩
            have HB2 := Lib.hid (HBr.out.trans (hb2.mono HBr.out.size))
            clear hb2 HY y0 y1 y2 y3 y4 y5 y6 y7 x0 x1 x2 x3 x4 x5 x6 x7 HCk
            go_wp2
            go_roundw
            case rel => exact ⟨k + 1, by omega, by rw [HV.out]; go_num, by go_num, HB2.out⟩
            case measure => simp [intOf]; omega
          · have q1 : decide ((C k : Int) < 1 + (d : Int)) = false := by simp; omega
            have HV : Hid (C (k + 1) = C k) := by show _ = _; omega
            go_wp2_with fail
            refine HY.out.mono ?_
            rintro e w2 ⟨rfl, hb2⟩
            have HB2 := Lib.hid (HBr.out.trans (hb2.mono HBr.out.size))
            clear hb2 HY y0 y1 y2 y3 y4 y5 y6 y7 x0 x1 x2 x3 x4 x5 x6 x7 HCk
            go_wp2
            go_roundw
            case rel => exact ⟨k + 1, by omega, by rw [HV.out], by go_num, HB2.out⟩
            case measure => simp [intOf]; omega
        · have HR : Hid (C k = r) := by rw [show k = m by omega, ← HM.out]; exact HE.out
          go_wp2
          go_ret
          exact ⟨ret_k HR.out, HBw.out⟩
end Go.Proofs.YtbnddpicpomakaaDoor
