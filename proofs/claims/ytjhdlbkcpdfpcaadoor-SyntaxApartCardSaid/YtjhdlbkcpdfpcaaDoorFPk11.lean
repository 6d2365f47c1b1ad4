/- Several texts of one proof, one behind the other. -/
import Derived.Test.YtjhdlbkcpdfpcaaDoorFPk10
import Derived.Deep.WholeRow
import Derived.Laws.Rows
import Derived.Laws.CopyRow
set_option linter.unusedSimpArgs false
set_option linter.unusedVariables false

/- A variable as a whole: handed back, stored. -/
set_option linter.unusedSimpArgs false
set_option linter.unusedVariables false
set_option maxRecDepth 100000
namespace Go.Proofs.YtjhdlbkcpdfpcaaDoor
open Go.RowKit

/-- What a call hands back: a variable as a whole, and a temporary. -/
theorem results_cell_tmp {P : Program} {fn : Func} {p t : Tmp} {ty : TypeId} (h : fn.results = #[.cell p ty, .tmp t]) (tmps : Array Value) (w : World) {ad : Addr} {v u : Value}
    (hp : tmps.getD p undef = .pointer (some ad)) (ht : tmps.getD t undef = u) (hl : (loadVar ty ad).run P w = .ok v w) : (results fn tmps).run P w = .ok (.tuple #[v, u]) w := by
  have hp' : tmps[p]?.getD undef = .pointer (some ad) := by simpa using hp
  have ht' : tmps[t]?.getD undef = u := by simpa using ht
  simp [results, h, hp', ht', asAddr, hl]

theorem Blk.setRow {w : World} {b : Nat} {T : TypeId} {old new : Array Value} (h : Blk w b T old) : Blk (w.setRow b new) b T new := setRow_heap w b old new T _ h
theorem Chg.setRow {S : List Nat} {a w : World} (h : Chg S a w) {b : Nat} (hb : b ∈ S ∨ a.heap.size ≤ b) (cs : Array Value) : Chg S a (w.setRow b cs) :=
  ⟨h.os, h.tape, h.output, by rw [size_setRow]; exact h.size, fun k hk hn => by
    have hne : k ≠ b := fun e => by
      subst e
      rcases hb with hb | hb
      · exact hn hb
      · omega
    exact (setRow_other w b k cs hne).trans (h.block k hk hn)⟩
end Go.Proofs.YtjhdlbkcpdfpcaaDoor

/- A row of expressions that grows, each with arguments of its own. -/
set_option linter.unusedSimpArgs false
set_option linter.unusedVariables false
set_option maxRecDepth 100000
namespace Go.Proofs.YtjhdlbkcpdfpcaaDoor
open Go.RowKit

structure KidsIn (lo : Nat) (W : World) (T : TypeId) (n : Nat) (cv : Value) (L : List XM) : Prop where
  row : W.ownsRow lo T 8 cv L.length (cellsOf cellsX L)
  kid : ∀ y ∈ L, XIn (fun b => lo ≤ b ∧ b < W.heap.size ∧ cv.ownBlock ≠ some b) W n y
theorem KidsIn.nil (lo : Nat) (W : World) (T : TypeId) (n : Nat) : KidsIn lo W T n (.slice none 0 0) [] := ⟨World.ownsRow_nil _ _ _ _, fun y hy => by cases hy⟩

theorem KidsIn.keep {lo : Nat} {W W' : World} {T : TypeId} {n : Nat} {cv : Value} {L : List XM} (h : KidsIn lo W T n cv L) (hs : W.heap.size ≤ W'.heap.size) (hk : ∀ b, lo ≤ b → b < W.heap.size → W'.heap[b]? = W.heap[b]?) : KidsIn lo W' T n cv L := by
  refine ⟨own_keep h.row fun g hg => hk g (h.row.lt g hg).1 (own_lt h.row hg), fun y hy => ?_⟩
  exact ((h.kid y hy).keep (fun b hb => hk b hb.1 hb.2.1)).imp fun b hb => ⟨hb.1, by omega, hb.2.2⟩

theorem KidsIn.add {lo : Nat} {W w2 w5 : World} {T : TypeId} {n : Nat} {cv v5 : Value} {L : List XM} {y : XM} (h : KidsIn lo W T n cv L) (hs : W.heap.size ≤ w2.heap.size) (hk : ∀ b, lo ≤ b → b < W.heap.size → w2.heap[b]? = W.heap[b]?) (hlo : lo ≤ W.heap.size)
    (hy : XIn (fun b => W.heap.size ≤ b ∧ b < w2.heap.size) w2 n y) (hr : w5.ownsRow lo T 8 v5 (L.length + 1) (cellsOf cellsX L ++ cellsX y)) {o : Obj} (hc : Chg cv.ownBlock.toList (w2.alloc o) w5) (hf : v5.ownBlock = cv.ownBlock ∨ ∀ g, v5.ownBlock = some g → w2.heap.size < g) :
    KidsIn lo w5 T n v5 (L ++ [y]) := by
  have hsz := hc.size
  simp at hsz
  have hold : ∀ b, b < w2.heap.size → cv.ownBlock ≠ some b → w5.heap[b]? = w2.heap[b]? := fun b hb hn =>
    (hc.block b (by simp; omega) (by rw [Option.mem_toList]; exact hn)).trans (Below.heap_alloc w2 o b hb)
  have hown : ∀ g, cv.ownBlock = some g → g < W.heap.size := fun g hg => own_lt h.row hg
  refine ⟨by rw [List.length_append]; exact (cellsOf_snoc cellsX L y).symm ▸ hr, fun z hz => ?_⟩
  rcases List.mem_append.1 hz with hz | hz
  · have hz2 := h.kid z hz
    refine (hz2.keep (w' := w5) (fun b hb => (hold b (by omega) hb.2.2).trans (hk b hb.1 hb.2.1))).imp fun b hb => ⟨hb.1, by omega, ?_⟩
    rcases hf with hf | hf
    · rw [hf]; exact hb.2.2
    · intro hg; have := hf b hg; omega
  · rw [List.mem_singleton.1 hz]
    refine (hy.keep (w' := w5) (fun b hb => hold b hb.2 (fun hg => by have := hown b hg; omega))).imp fun b hb => ⟨by omega, by omega, ?_⟩
    rcases hf with hf | hf
    · rw [hf]; intro hg; have := hown b hg; omega
    · intro hg; have := hf b hg; omega

theorem KidsIn.tree {lo : Nat} {W : World} {T : TypeId} {n : Nat} {cv : Value} {L : List XM} (h : KidsIn lo W T n cv L) (l : Lb) (hl : l.fair) :
    ∃ ac cc, cv = .slice ac L.length cc ∧ XIn (fun b => lo ≤ b ∧ b < W.heap.size) W (n + 1) ⟨.mk l (L.map (·.t)), ac, cc⟩ := by
  obtain ⟨h1, h2⟩ := h.row
  rcases h2 with ⟨rfl, hn⟩ | ⟨g, cap, cur, rfl, hg, hh, hnc, hcm, hcs, hcur⟩
  · have hL : L = [] := List.length_eq_zero_iff.1 hn
    subst hL
    exact ⟨none, 0, rfl, hl, by simp [Rose.args], by simp, [], rfl, .inl rfl, fun y hy => by cases hy⟩
  · have hglt : g < W.heap.size := (Array.getElem?_eq_some_iff.1 hh).1
    refine ⟨_, cap, rfl, hl, by simpa [Rose.args] using hnc, by unfold maxLen at hcm; simp only; omega, L, rfl, .inr ⟨g, 0, rfl, ⟨hg, hglt⟩, fun i v hi => ?_⟩, fun y hy => (h.kid y hy).imp fun b hb => ⟨hb.1, hb.2.1⟩⟩
    have e1 : (cur.toList.take (L.length * 8))[i]? = some v := by rw [hcur]; exact hi
    rw [List.getElem?_take] at e1
    split at e1
    · simp only [World.cell?, hh, Nat.zero_add]
      simpa using e1
    · simp at e1

/-- What a call hands back: an expression in memory of its own. -/
def RetX (w : World) (n : Nat) (t : Ex) (e : Ending) (w' : World) : Prop :=
  ∃ y : XM, e = .returned (.agg #[.int .i64 y.t.lab.kd, .int .u8 y.t.lab.v.k, .int .i64 y.t.lab.v.n, .string y.t.lab.v.s, .string y.t.lab.tb, .string y.t.lab.nm, .string y.t.lab.op, .slice y.a y.t.args.length y.cap]) ∧ y.t = t ∧ XIn (fun b => w.heap.size ≤ b ∧ b < w'.heap.size) w' n y ∧ Below w.heap.size w w'

theorem info_ex : (Tryd.prog.info? 39).map (fun i => (i.zero, i.size, i.bytes)) = some (some (.agg #[.int .i64 0, .int .u8 0, .int .i64 0, .string ⟨#[]⟩, .string ⟨#[]⟩, .string ⟨#[]⟩, .string ⟨#[]⟩, .slice none 0 0]), 8, 112) := by kernel_rfl
theorem info_exS : (Tryd.prog.info? 39).map (·.size) = some 8 := by kernel_rfl
theorem results_cell1x {P : Program} {fn : Func} {p : Tmp} {ty : TypeId} (h : fn.results = #[.cell p ty]) (tmps : Array Value) (w : World) {ad : Addr} {v : Value}
    (hp : tmps.getD p undef = .pointer (some ad)) (hl : (loadVar ty ad).run P w = .ok v w) : (results fn tmps).run P w = .ok v w := by
  have hp' : tmps[p]?.getD undef = .pointer (some ad) := by simpa using hp
  simp [results, h, hp', asAddr, hl]
end Go.Proofs.YtjhdlbkcpdfpcaaDoor

/- A region that draws its order, walked along a tree of orders: as Ord's, but where two operations may come up at once both ways are walked. -/
set_option linter.unusedSimpArgs false
set_option linter.unusedVariables false
set_option maxRecDepth 100000
namespace Go.Proofs.YtjhdlbkcpdfpcaaDoor
open Go.RowKit

theorem undrewL {a w : World} (h : Later a.drew w) : Later a w := ⟨h.os, h.tape, h.output, h.size, h.block⟩

/-- A tree of orders. -/
inductive OT where
  | nil : OT
  | free : Nat → OT → OT
  | one : Nat → OT → OT
  | two : Nat → Nat → OT → OT → OT
  | three : Nat → Nat → Nat → OT → OT → OT → OT

section
variable {P : Program} {ops : Array Oper} {Q : Exit → Act → World → Prop} {md : Region.Mode}

def wpT (P : Program) (ops : Array Oper) (Q : Exit → Act → World → Prop) (L : World → World → Prop) : OT → Act → World → Prop
  | .nil, a, w => Q .normal a w
  | .free i r, a, w => ∃ o v, ops[i]? = some o ∧ YieldsIf P ops (L w) o v a ∧ wpT P ops Q L r (a.put o.dst v) w
  | .one i r, a, w => wpOp P ops Q i (fun a' w' => L w w' ∧ wpT P ops Q L r a' w') a w
  | .two i j r s, a, w => wpOp P ops Q i (fun a' w' => L w w' ∧ wpT P ops Q L r a' w') a w ∧ wpOp P ops Q j (fun a' w' => L w w' ∧ wpT P ops Q L s a' w') a w
  | .three i j k r s t, a, w => wpOp P ops Q i (fun a' w' => L w w' ∧ wpT P ops Q L r a' w') a w ∧ wpOp P ops Q j (fun a' w' => L w w' ∧ wpT P ops Q L s a' w') a w ∧ wpOp P ops Q k (fun a' w' => L w w' ∧ wpT P ops Q L t a' w') a w

def OT.high : OT → Nat
  | .nil => 0
  | .free _ r => r.high + 1
  | .one _ r => r.high + 1
  | .two _ _ r s => max r.high s.high + 1
  | .three _ _ _ r s t => max r.high (max s.high t.high) + 1

def checkT (md : Region.Mode) (ops : Array Oper) : OT → Array Bool → Bool
  | .nil, l => Region.ready md ops l == []
  | .free i r, l => Region.free md ops l i && (Region.ready md ops l).contains i && checkT md ops r (l.setIfInBounds i true)
  | .one i r, l => Region.ready md ops l == [i] && checkT md ops r (l.setIfInBounds i true)
  | .two i j r s, l => Region.ready md ops l == [i, j] && checkT md ops r (l.setIfInBounds i true) && checkT md ops s (l.setIfInBounds j true)
  | .three i j k r s t, l => Region.ready md ops l == [i, j, k] && checkT md ops r (l.setIfInBounds i true) && checkT md ops s (l.setIfInBounds j true) && checkT md ops t (l.setIfInBounds k true)

theorem wpT_sound {L : World → World → Prop} (Lr : ∀ w, L w w) (Lt : ∀ {a b c}, L a b → L b c → L a c) (hs : Region.noSelect ops = true) (hQ : ∀ c (a : Act) d v w, Q (.panic c) (a.put d v) w → Q (.panic c) a w) :
    ∀ (t : OT) (fuel : Nat) (listed : Array Bool) (a : Act) (w : World), t.high ≤ fuel → checkT md ops t listed = true → wpT P ops Q L t a w → wpAnyH P md ops Q (L w) fuel listed a w
  | .nil, fuel, listed, a, w, _, hc, h => wpAnyH_done (by simpa [checkT] using hc) h fuel
  | .free i r, fuel, listed, a, w, hf, hc, h => by
    obtain ⟨o, v, ho, hy, h⟩ := h
    simp only [checkT, Bool.and_eq_true] at hc
    cases fuel with
    | zero => simp [OT.high] at hf
    | succ fuel =>
      exact wpAnyH_take ho hs hc.1.1 hc.1.2 (fun c a w => hQ c a o.dst v w) hy (Lr w) (wpT_sound Lr Lt hs hQ r fuel _ _ w (by simpa [OT.high] using hf) hc.2 h)
  | .one i r, fuel, listed, a, w, hf, hc, h => by
    simp only [checkT, Bool.and_eq_true, beq_iff_eq] at hc
    cases fuel with
    | zero => simp [OT.high] at hf
    | succ fuel =>
      refine wpAnyH_all (rs := [i]) hc.1 (by simp) ?_
      intro j hj
      rw [List.mem_singleton.1 hj]
      exact wpOp_mono (fun a' w' h' => ⟨h'.1, wpAnyH_stronger (fun x hx => Lt h'.1 hx) fuel _ _ _ (wpT_sound Lr Lt hs hQ r fuel _ a' w' (by simpa [OT.high] using hf) hc.2 h'.2)⟩) h
  | .two i j r s, fuel, listed, a, w, hf, hc, h => by
    simp only [checkT, Bool.and_eq_true, beq_iff_eq] at hc
    cases fuel with
    | zero => simp [OT.high] at hf
    | succ fuel =>
      refine wpAnyH_all (rs := [i, j]) hc.1.1 (by simp) ?_
      have hf1 : r.high ≤ fuel ∧ s.high ≤ fuel := by simp [OT.high] at hf; omega
      intro k hk
      rcases List.mem_cons.1 hk with hk | hk
      · rw [hk]
        exact wpOp_mono (fun a' w' h' => ⟨h'.1, wpAnyH_stronger (fun x hx => Lt h'.1 hx) fuel _ _ _ (wpT_sound Lr Lt hs hQ r fuel _ a' w' hf1.1 hc.1.2 h'.2)⟩) h.1
      · rw [List.mem_singleton.1 hk]
        exact wpOp_mono (fun a' w' h' => ⟨h'.1, wpAnyH_stronger (fun x hx => Lt h'.1 hx) fuel _ _ _ (wpT_sound Lr Lt hs hQ s fuel _ a' w' hf1.2 hc.2 h'.2)⟩) h.2
  | .three i j k r s t, fuel, listed, a, w, hf, hc, h => by
    simp only [checkT, Bool.and_eq_true, beq_iff_eq] at hc
    cases fuel with
    | zero => simp [OT.high] at hf
    | succ fuel =>
      refine wpAnyH_all (rs := [i, j, k]) hc.1.1.1 (by simp) ?_
      have hf1 : r.high ≤ fuel ∧ s.high ≤ fuel ∧ t.high ≤ fuel := by simp [OT.high] at hf; omega
      intro x hx
      rcases List.mem_cons.1 hx with hx | hx
      · rw [hx]
        exact wpOp_mono (fun a' w' h' => ⟨h'.1, wpAnyH_stronger (fun x hx => Lt h'.1 hx) fuel _ _ _ (wpT_sound Lr Lt hs hQ r fuel _ a' w' hf1.1 hc.1.1.2 h'.2)⟩) h.1
      rcases List.mem_cons.1 hx with hx | hx
      · rw [hx]
        exact wpOp_mono (fun a' w' h' => ⟨h'.1, wpAnyH_stronger (fun x hx => Lt h'.1 hx) fuel _ _ _ (wpT_sound Lr Lt hs hQ s fuel _ a' w' hf1.2.1 hc.1.2 h'.2)⟩) h.2.1
      · rw [List.mem_singleton.1 hx]
        exact wpOp_mono (fun a' w' h' => ⟨h'.1, wpAnyH_stronger (fun x hx => Lt h'.1 hx) fuel _ _ _ (wpT_sound Lr Lt hs hQ t fuel _ a' w' hf1.2.2 hc.2 h'.2)⟩) h.2.2

/-- The beginning, where blocks S may be written. -/
theorem wp_region_tree {id : Nat} {a : Act} {w : World} (S : List Nat) (t : OT) (hm : P.follows .mixedOrders = true) (hs : Region.noSelect ops = true)
    (hl : decide (t.high ≤ ops.size) = true) (hc : checkT .any ops t (Array.replicate ops.size false) = true) (h : wpT P ops (NoPanic Q) (Chg S) t a w.drew) : (Code.region id ops true).wp P Q a w :=
  wp_region_noPanic (wp_region_held hm (wpT_sound (Chg.refl S) Chg.trans hs (NoPanic.put Q) t ops.size _ a w.drew (of_decide_eq_true hl) hc h))

variable {L : World → World → Prop}
theorem wpT_nil {a : Act} {w : World} (h : Q .normal a w) : wpT P ops (NoPanic Q) L .nil a w := h
theorem wpT_F {i : Nat} {r : OT} {a : Act} {w : World} {o : Oper} {v : Value} (ho : nth ops.toList i = some o) (hw : Region.wanted o (yielded ops a.tmps) = true)
    (hv : ∀ w', L w w' → (execOp a.eval o).run P w' = .ok (.value v) w') (h : wpT P ops Q L r (a.put o.dst v) w) : wpT P ops Q L (.free i r) a w :=
  ⟨o, v, nth_ops ho, .inl ⟨hw, hv⟩, h⟩
theorem wpT_G {i : Nat} {r : OT} {a : Act} {w : World} {o : Oper} (ho : nth ops.toList i = some o) (hw : Region.wanted o (yielded ops a.tmps) = false)
    (h : wpT P ops Q L r (a.put o.dst undef) w) : wpT P ops Q L (.free i r) a w :=
  ⟨o, undef, nth_ops ho, .inr ⟨hw, rfl⟩, h⟩
theorem wpT_skip (Lr : ∀ w, L w w) {i : Nat} {r : OT} {a : Act} {w : World} {o : Oper} (ho : nth ops.toList i = some o) (hw : Region.wanted o (yielded ops a.tmps) = false)
    (h : wpT P ops Q L r (a.put o.dst undef) w) : wpT P ops Q L (.one i r) a w := by
  show wpOp P ops Q i _ a w
  unfold wpOp
  simp only [nth_ops ho, hw]
  exact ⟨Lr w, h⟩
theorem wpT_C {i : Nat} {r : OT} {a : Act} {w : World} {o : Oper} (ho : nth ops.toList i = some o) (hw : Region.wanted o (yielded ops a.tmps) = true)
    (h : o.wp P a w (fun a' w' => L w w' ∧ wpT P ops Q L r a' w') Q) : wpT P ops Q L (.one i r) a w := by
  show wpOp P ops Q i _ a w
  unfold wpOp
  simp only [nth_ops ho, hw]
  exact .inl h
theorem wpT_two {i j : Nat} {r s : OT} {a : Act} {w : World} (h1 : wpT P ops Q L (.one i r) a w) (h2 : wpT P ops Q L (.one j s) a w) : wpT P ops Q L (.two i j r s) a w := ⟨h1, h2⟩
theorem wpT_three {i j k : Nat} {r s t : OT} {a : Act} {w : World} (h1 : wpT P ops Q L (.one i r) a w) (h2 : wpT P ops Q L (.one j s) a w) (h3 : wpT P ops Q L (.one k t) a w) : wpT P ops Q L (.three i j k r s t) a w := ⟨h1, h2, h3⟩
end
attribute [irreducible] wpT
end Go.Proofs.YtjhdlbkcpdfpcaaDoor

/- A region that draws its order, walked along a tree of orders, at whose end come operations X, in any order, that may write what the others read. -/
set_option linter.unusedSimpArgs false
set_option linter.unusedVariables false
set_option maxRecDepth 100000
namespace Go.Proofs.YtjhdlbkcpdfpcaaDoor
open Go.RowKit

/-- A tree of orders with a tail. -/
inductive OL where
  | nil : OL
  | free : Nat → OL → OL
  | one : Nat → OL → OL
  | two : Nat → Nat → OL → OL → OL
  | last : Nat → OL → OL
  | lasts : Nat → Nat → OL → OL → OL

section
variable {P : Program} {ops : Array Oper} {Q : Exit → Act → World → Prop} {md : Region.Mode}

/-- Whatever order is picked; S holds behind each operation but those of X. -/
def wpAnyL (P : Program) (md : Region.Mode) (ops : Array Oper) (Q : Exit → Act → World → Prop) (X : List Nat) (S : World → Prop) : Nat → Array Bool → Act → World → Prop
  | 0, l, a, w => Region.ready md ops l = [] ∧ Q .normal a w
  | n + 1, l, a, w => (Region.ready md ops l = [] → Q .normal a w) ∧
      ∀ i, i ∈ Region.ready md ops l → wpOp P ops Q i (fun a' w' => (i ∉ X → S w') ∧ wpAnyL P md ops Q X S n (l.setIfInBounds i true) a' w') a w

theorem wpAny_of_L {X : List Nat} {S : World → Prop} : ∀ (n : Nat) (l : Array Bool) (a : Act) (w : World), wpAnyL P md ops Q X S n l a w → wpAny P md ops Q n l a w
  | 0, _, _, _, h => h
  | n + 1, _, _, _, h => ⟨h.1, fun i hi => wpOp_mono (fun a' w' h' => wpAny_of_L n _ a' w' h'.2) (h.2 i hi)⟩

theorem wpAnyL_first {X : List Nat} {i : Nat} {S : World → Prop} {oi : Oper} {v : Value} (hi : ops[i]? = some oi) (hsel : ∀ (j : Nat) (o : Oper) cs b, ops[j]? = some o → o.op ≠ .select cs b)
    (hQ : ∀ c (a : Act) w, Q (.panic c) (a.put oi.dst v) w → Q (.panic c) a w) (m : Nat) (hxi : ∀ x ∈ X, waitsN md ops i m x = true) :
    ∀ (n : Nat) (l : Array Bool) (a : Act) (w : World), Closed md ops l →
      (∀ j oj, ops[j]? = some oj → j ≠ i → l.getD j true = false → (∀ e ∈ oj.after, Region.binds md e = true → e.on ≠ i) → oi.apart ops oj = true) →
      i ∈ Region.ready md ops l → YieldsIf P ops S oi v a → S w →
      wpAnyL P md ops Q X S n (l.setIfInBounds i true) (a.put oi.dst v) w → wpAnyL P md ops Q X S (n + 1) l a w
  | n, l, a, w, hcl, hfree, hr, hy, hS, H => by
    refine ⟨fun h => absurd hr (by rw [h]; simp), fun j hj => ?_⟩
    by_cases hji : j = i
    · subst hji
      exact hy.wpOp hi hS ⟨fun _ => hS, H⟩
    obtain ⟨hjun, oj, hoj, hall⟩ := mem_ready.1 hj
    have hun : ¬ l.getD i false = true := by
      intro h1
      have h0 := (mem_ready.1 hr).1
      by_cases hlt : i < l.size
      · simp [hlt] at h0 h1
        rw [h0] at h1
        cases h1
      · simp [Array.getElem?_eq_none (Nat.le_of_not_lt hlt)] at h1
    have hnot : ∀ e ∈ oj.after, Region.binds md e = true → e.on ≠ i := by
      intro e he hb heq
      have h1 := hall e he hb
      rw [heq] at h1
      exact hun h1
    have hjX : j ∉ X := fun hj => hun (hcl.waits m j oj hoj hall (hxi j hj))
    match n, H with
    | 0, H =>
      have := ready_mono hj hji
      rw [H.1] at this
      cases this
    | n + 1, H =>
      have h1 := H.2 j (ready_mono hj hji)
      have h2 := wpOp_putIf hoj (hfree j oj hoj hji hjun hnot) (fun cs b => hsel i oi cs b hi) (fun cs b => hsel j oj cs b hoj) hQ hy h1
      refine wpOp_mono (fun a' w' h3 => ⟨fun _ => h3.2.1 hjX, ?_⟩) h2
      refine wpAnyL_first hi hsel hQ m hxi n _ a' w' (hcl.set_ hj) ?_ (ready_mono hr (Ne.symm hji)) h3.1 (h3.2.1 hjX) ?_
      · intro k ok hk hki hun hno
        refine hfree k ok hk hki ?_ hno
        by_cases hjk : j = k
        · subst hjk; exact hjun
        · rw [getD_set_ne true hjk] at hun; exact hun
      · rw [Array.setIfInBounds_comm _ _ hji]
        exact h3.2.2

theorem wpAnyL_stronger {X : List Nat} {S S' : World → Prop} (hS : ∀ w, S' w → S w) : ∀ (n : Nat) (l : Array Bool) (a : Act) (w : World), wpAnyL P md ops Q X S' n l a w → wpAnyL P md ops Q X S n l a w
  | 0, _, _, _, h => h
  | n + 1, _, _, _, h => ⟨h.1, fun i hi => wpOp_mono (fun _ _ h' => ⟨fun hx => hS _ (h'.1 hx), wpAnyL_stronger hS n _ _ _ h'.2⟩) (h.2 i hi)⟩

def wpL (P : Program) (ops : Array Oper) (Q : Exit → Act → World → Prop) (L : World → World → Prop) : OL → Act → World → Prop
  | .nil, a, w => Q .normal a w
  | .free i r, a, w => ∃ o v, ops[i]? = some o ∧ YieldsIf P ops (L w) o v a ∧ wpL P ops Q L r (a.put o.dst v) w
  | .one i r, a, w => wpOp P ops Q i (fun a' w' => L w w' ∧ wpL P ops Q L r a' w') a w
  | .two i j r s, a, w => wpOp P ops Q i (fun a' w' => L w w' ∧ wpL P ops Q L r a' w') a w ∧ wpOp P ops Q j (fun a' w' => L w w' ∧ wpL P ops Q L s a' w') a w
  | .last i r, a, w => wpOp P ops Q i (fun a' w' => wpL P ops Q L r a' w') a w
  | .lasts i j r s, a, w => wpOp P ops Q i (fun a' w' => wpL P ops Q L r a' w') a w ∧ wpOp P ops Q j (fun a' w' => wpL P ops Q L s a' w') a w

def OL.high : OL → Nat
  | .nil => 0
  | .free _ r => r.high + 1
  | .one _ r => r.high + 1
  | .two _ _ r s => max r.high s.high + 1
  | .last _ r => r.high + 1
  | .lasts _ _ r s => max r.high s.high + 1

def OL.isTail : OL → Bool
  | .nil => true
  | .last _ r => r.isTail
  | .lasts _ _ r s => r.isTail && s.isTail
  | _ => false
def checkL (md : Region.Mode) (ops : Array Oper) (X : List Nat) : OL → Array Bool → Bool
  | .nil, l => Region.ready md ops l == []
  | .free i r, l => X.all (waitsN md ops i ops.size) && (Region.free md ops l i && (Region.ready md ops l).contains i && checkL md ops X r (l.setIfInBounds i true))
  | .one i r, l => Region.ready md ops l == [i] && checkL md ops X r (l.setIfInBounds i true)
  | .two i j r s, l => Region.ready md ops l == [i, j] && checkL md ops X r (l.setIfInBounds i true) && checkL md ops X s (l.setIfInBounds j true)
  | .last i r, l => r.isTail && X.contains i && Region.ready md ops l == [i] && checkL md ops X r (l.setIfInBounds i true)
  | .lasts i j r s, l => r.isTail && s.isTail && X.contains i && X.contains j && Region.ready md ops l == [i, j] && checkL md ops X r (l.setIfInBounds i true) && checkL md ops X s (l.setIfInBounds j true)

theorem wpL_tail {L : World → World → Prop} {X : List Nat} : ∀ (t : OL) (n : Nat) (l : Array Bool) (a : Act) (w : World) (S : World → Prop), t.isTail = true → t.high ≤ n → checkL md ops X t l = true → wpL P ops Q L t a w → wpAnyL P md ops Q X S n l a w
  | .nil, n, l, a, w, S, _, hn, hc, h => by
    have hr : Region.ready md ops l = [] := by simpa [checkL] using hc
    cases n with
    | zero => exact ⟨hr, h⟩
    | succ n => exact ⟨fun _ => h, fun k hk => absurd hk (by rw [hr]; simp)⟩
  | .last i r, n, l, a, w, S, ht, hn, hc, h => by
    simp only [checkL, Bool.and_eq_true, beq_iff_eq, List.contains_iff_mem] at hc
    match n, hn with
    | n + 1, hn =>
      refine ⟨fun h0 => absurd hc.1.2 (by rw [h0]; simp), fun j hj => ?_⟩
      rw [hc.1.2] at hj
      obtain rfl := List.mem_singleton.1 hj
      exact wpOp_mono (fun a' w' h' => ⟨fun hx => absurd hc.1.1.2 hx, wpL_tail r n _ a' w' S hc.1.1.1 (by simpa [OL.high] using hn) hc.2 h'⟩) h
  | .lasts i j r s, n, l, a, w, S, ht, hn, hc, h => by
    simp only [checkL, Bool.and_eq_true, beq_iff_eq, List.contains_iff_mem] at hc
    match n, hn with
    | n + 1, hn =>
      have hf1 : r.high ≤ n ∧ s.high ≤ n := by simp [OL.high] at hn; omega
      refine ⟨fun h0 => absurd hc.1.1.2 (by rw [h0]; simp), fun k hk => ?_⟩
      rw [hc.1.1.2] at hk
      rcases List.mem_cons.1 hk with hk | hk
      · subst hk
        exact wpOp_mono (fun a' w' h' => ⟨fun hx => absurd hc.1.1.1.1.2 hx, wpL_tail r n _ a' w' S hc.1.1.1.1.1.1 hf1.1 hc.1.2 h'⟩) h.1
      · obtain rfl := List.mem_singleton.1 hk
        exact wpOp_mono (fun a' w' h' => ⟨fun hx => absurd hc.1.1.1.2 hx, wpL_tail s n _ a' w' S hc.1.1.1.1.1.2 hf1.2 hc.2 h'⟩) h.2
theorem wpL_sound {L : World → World → Prop} {X : List Nat} (Lr : ∀ w, L w w) (Lt : ∀ {a b c}, L a b → L b c → L a c) (hs : Region.noSelect ops = true) (hQ : ∀ c (a : Act) d v w, Q (.panic c) (a.put d v) w → Q (.panic c) a w) :
    ∀ (t : OL) (n : Nat) (l : Array Bool) (a : Act) (w : World) (S : World → Prop), t.high ≤ n → Closed md ops l → checkL md ops X t l = true → (∀ w', L w w' → S w') → wpL P ops Q L t a w → wpAnyL P md ops Q X S n l a w
  | .nil, n, l, a, w, S, hn, hcl, hc, hS, h => by
    have hr : Region.ready md ops l = [] := by simpa [checkL] using hc
    cases n with
    | zero => exact ⟨hr, h⟩
    | succ n => exact ⟨fun _ => h, fun k hk => absurd hk (by rw [hr]; simp)⟩
  | .free i r, n, l, a, w, S, hn, hcl, hc, hS, h => by
    obtain ⟨o, v, ho, hy, h⟩ := h
    simp only [checkL, Bool.and_eq_true, List.all_eq_true] at hc
    have hri : i ∈ Region.ready md ops l := by simpa using hc.2.1.2
    match n, hn with
    | n + 1, hn =>
      exact wpAnyL_stronger hS _ _ _ _ (wpAnyL_first (S := L w) ho (Region.noSelect_spec hs) (fun c a w => hQ c a o.dst v w) ops.size hc.1 n l a w hcl (Region.free_spec ho hc.2.1.1) hri hy (Lr w) (wpL_sound Lr Lt hs hQ r n _ _ w (L w) (by simpa [OL.high] using hn) (hcl.set_ hri) hc.2.2 (fun _ h => h) h))
  | .one i r, n, l, a, w, S, hn, hcl, hc, hS, h => by
    simp only [checkL, Bool.and_eq_true, beq_iff_eq] at hc
    match n, hn with
    | n + 1, hn =>
      refine ⟨fun h0 => absurd hc.1 (by rw [h0]; simp), fun j hj => ?_⟩
      have hj0 := hj
      rw [hc.1] at hj
      obtain rfl := List.mem_singleton.1 hj
      exact wpOp_mono (fun a' w' h' => ⟨fun _ => hS _ h'.1, wpL_sound Lr Lt hs hQ r n _ a' w' S (by simpa [OL.high] using hn) (hcl.set_ hj0) hc.2 (fun y hy => hS _ (Lt h'.1 hy)) h'.2⟩) h
  | .two i j r s, n, l, a, w, S, hn, hcl, hc, hS, h => by
    simp only [checkL, Bool.and_eq_true, beq_iff_eq] at hc
    match n, hn with
    | n + 1, hn =>
      have hf1 : r.high ≤ n ∧ s.high ≤ n := by simp [OL.high] at hn; omega
      refine ⟨fun h0 => absurd hc.1.1 (by rw [h0]; simp), fun k hk => ?_⟩
      have hk0 := hk
      rw [hc.1.1] at hk
      rcases List.mem_cons.1 hk with hk | hk
      · subst hk
        exact wpOp_mono (fun a' w' h' => ⟨fun _ => hS _ h'.1, wpL_sound Lr Lt hs hQ r n _ a' w' S hf1.1 (hcl.set_ hk0) hc.1.2 (fun y hy => hS _ (Lt h'.1 hy)) h'.2⟩) h.1
      · obtain rfl := List.mem_singleton.1 hk
        exact wpOp_mono (fun a' w' h' => ⟨fun _ => hS _ h'.1, wpL_sound Lr Lt hs hQ s n _ a' w' S hf1.2 (hcl.set_ hk0) hc.2 (fun y hy => hS _ (Lt h'.1 hy)) h'.2⟩) h.2
  | .last i r, n, l, a, w, S, hn, hcl, hc, hS, h => by
    simp only [checkL, Bool.and_eq_true, beq_iff_eq, List.contains_iff_mem] at hc
    match n, hn with
    | n + 1, hn =>
      refine ⟨fun h0 => absurd hc.1.2 (by rw [h0]; simp), fun j hj => ?_⟩
      have hj0 := hj
      rw [hc.1.2] at hj
      obtain rfl := List.mem_singleton.1 hj
      exact wpOp_mono (fun a' w' h' => ⟨fun hx => absurd hc.1.1.2 hx, wpL_tail r n _ a' w' S hc.1.1.1 (by simpa [OL.high] using hn) hc.2 h'⟩) h
  | .lasts i j r s, n, l, a, w, S, hn, hcl, hc, hS, h => by
    simp only [checkL, Bool.and_eq_true, beq_iff_eq, List.contains_iff_mem] at hc
    match n, hn with
    | n + 1, hn =>
      have hf1 : r.high ≤ n ∧ s.high ≤ n := by simp [OL.high] at hn; omega
      refine ⟨fun h0 => absurd hc.1.1.2 (by rw [h0]; simp), fun k hk => ?_⟩
      have hk0 := hk
      rw [hc.1.1.2] at hk
      rcases List.mem_cons.1 hk with hk | hk
      · subst hk
        exact wpOp_mono (fun a' w' h' => ⟨fun hx => absurd hc.1.1.1.1.2 hx, wpL_tail r n _ a' w' S hc.1.1.1.1.1.1 hf1.1 hc.1.2 h'⟩) h.1
      · obtain rfl := List.mem_singleton.1 hk
        exact wpOp_mono (fun a' w' h' => ⟨fun hx => absurd hc.1.1.1.2 hx, wpL_tail s n _ a' w' S hc.1.1.1.1.1.2 hf1.2 hc.2 h'⟩) h.2

/-- The beginning: blocks S may be written ahead of the tail X. -/
theorem wp_region_tail {id : Nat} {a : Act} {w : World} (S X : List Nat) (t : OL) (hm : P.follows .mixedOrders = true) (hs : Region.noSelect ops = true)
    (hl : decide (t.high ≤ ops.size) = true) (hc : checkL .any ops X t (Array.replicate ops.size false) = true) (h : wpL P ops (NoPanic Q) (Chg S) t a w.drew) : (Code.region id ops true).wp P Q a w :=
  wp_region_noPanic (wp_region_any hm (wpAny_of_L (X := X) (S := fun _ => True) _ _ _ _ (wpL_sound (Chg.refl S) Chg.trans hs (NoPanic.put Q) t ops.size _ a w.drew _ (of_decide_eq_true hl) (closed_none _) hc (fun _ _ => trivial) h)))

variable {L : World → World → Prop}
theorem wpL_nil {a : Act} {w : World} (h : Q .normal a w) : wpL P ops (NoPanic Q) L .nil a w := h
theorem wpL_F {i : Nat} {r : OL} {a : Act} {w : World} {o : Oper} {v : Value} (ho : nth ops.toList i = some o) (hw : Region.wanted o (yielded ops a.tmps) = true)
    (hv : ∀ w', L w w' → (execOp a.eval o).run P w' = .ok (.value v) w') (h : wpL P ops Q L r (a.put o.dst v) w) : wpL P ops Q L (.free i r) a w :=
  ⟨o, v, nth_ops ho, .inl ⟨hw, hv⟩, h⟩
theorem wpL_G {i : Nat} {r : OL} {a : Act} {w : World} {o : Oper} (ho : nth ops.toList i = some o) (hw : Region.wanted o (yielded ops a.tmps) = false)
    (h : wpL P ops Q L r (a.put o.dst undef) w) : wpL P ops Q L (.free i r) a w :=
  ⟨o, undef, nth_ops ho, .inr ⟨hw, rfl⟩, h⟩
theorem wpL_C {i : Nat} {r : OL} {a : Act} {w : World} {o : Oper} (ho : nth ops.toList i = some o) (hw : Region.wanted o (yielded ops a.tmps) = true)
    (h : o.wp P a w (fun a' w' => L w w' ∧ wpL P ops Q L r a' w') Q) : wpL P ops Q L (.one i r) a w := by
  show wpOp P ops Q i _ a w
  unfold wpOp
  simp only [nth_ops ho, hw]
  exact .inl h
theorem wpL_X {i : Nat} {r : OL} {a : Act} {w : World} {o : Oper} (ho : nth ops.toList i = some o) (hw : Region.wanted o (yielded ops a.tmps) = true)
    (h : o.wp P a w (fun a' w' => wpL P ops Q L r a' w') Q) : wpL P ops Q L (.last i r) a w := by
  show wpOp P ops Q i _ a w
  unfold wpOp
  simp only [nth_ops ho, hw]
  exact .inl h
theorem wpL_two {i j : Nat} {r s : OL} {a : Act} {w : World} (h1 : wpL P ops Q L (.one i r) a w) (h2 : wpL P ops Q L (.one j s) a w) : wpL P ops Q L (.two i j r s) a w := ⟨h1, h2⟩
theorem wpL_lasts {i j : Nat} {r s : OL} {a : Act} {w : World} (h1 : wpL P ops Q L (.last i r) a w) (h2 : wpL P ops Q L (.last j s) a w) : wpL P ops Q L (.lasts i j r s) a w := ⟨h1, h2⟩
end
attribute [irreducible] wpL
end Go.Proofs.YtjhdlbkcpdfpcaaDoor

/- An element of a row of the call's own that is stored into its place. -/
set_option linter.unusedSimpArgs false
set_option linter.unusedVariables false
set_option maxRecDepth 100000
namespace Go.Proofs.YtjhdlbkcpdfpcaaDoor
open Go.RowKit

theorem run_storeVar_in {P : Program} (w : World) (g off : Nat) (T ty : TypeId) (cur : Array Value) (cells : Array Value) (hg : w.heap[g]? = some (.cells cur T (0, 0))) (hi : (P.info? ty).map (·.size) = some cells.size) (hfit : off + cells.size ≤ cur.size) (h1 : ∀ v ∈ cells.toList, v.oneCell' = true) :
    (storeVar ty ⟨g, off, none⟩ (.agg cells)).run P w = .ok () (w.setRow g (cur.toList.take off ++ cells.toList ++ cur.toList.drop (off + cells.size)).toArray) := by
  have h := run_storeCells_at (P := P) g off T cells.toList 0 cur w hg (by simpa using hfit) h1
  cases hq : P.info? ty with
  | none => simp [hq] at hi
  | some i =>
    simp [hq] at hi
    have e : (Value.agg cells).cells = cells := rfl
    simp [storeVar, sizeOf, typeInfo, hq, e, hi]
    simpa using h

/-- The row with its last element stored anew. -/
theorem own_put {P : Program} {w : World} {base : Nat} {e : TypeId} {z n : Nat} {v : Value} {l news : List Value} (h : w.ownsRow base e z v (n + 1) (l ++ news)) (hl : l.length = n * z) (hn : news.length = z) (cs : Array Value) (hc : cs.size = z) (hi : (P.info? e).map (·.size) = some z) (h1 : ∀ u ∈ cs.toList, u.oneCell' = true) :
    ∃ g cap R, v = .slice (some ⟨g, 0, none⟩) (n + 1) cap ∧ base ≤ g ∧ g < w.heap.size ∧ n + 1 ≤ cap ∧ cap ≤ 9223372036854775807 ∧
      (∀ W : World, W.heap[g]? = w.heap[g]? → (storeVar e ⟨g, n * z, none⟩ (.agg cs)).run P W = .ok () (W.setRow g R) ∧ (W.setRow g R).ownsRow base e z v (n + 1) (l ++ cs.toList)) ∧ ∀ j, j < z → ∃ u, w.cell? ⟨g, n * z + j, none⟩ = some u := by
  obtain ⟨h2, h3⟩ := h
  rcases h3 with ⟨_, h0⟩ | ⟨g, cap, cur, rfl, hg, hh, hnc, hcm, hcs, hcur⟩
  · omega
  · have hglt : g < w.heap.size := (Array.getElem?_eq_some_iff.1 hh).1
    have hfit : n * z + z ≤ cur.size := by rw [hcs]; have := Nat.mul_le_mul_right z hnc; rw [Nat.add_mul] at this; omega
    have hnz : (n + 1) * z = n * z + z := by rw [Nat.add_mul]; omega
    have hlt : cur.toList.take (n * z) = l := by
      have h5 := congrArg (List.take (n * z)) hcur
      rw [List.take_take, hnz, Nat.min_eq_left (by omega), ← hl, List.take_left] at h5
      rw [← hl]; exact h5
    refine ⟨g, cap, (cur.toList.take (n * z) ++ cs.toList ++ cur.toList.drop (n * z + cs.size)).toArray, rfl, hg, hglt, hnc, by unfold maxLen at hcm; omega, fun W hW => ?_, fun j hj => ?_⟩
    · have hWg : W.heap[g]? = some (.cells cur e (0, 0)) := hW.trans hh
      refine ⟨run_storeVar_in W g (n * z) e e cur cs hWg (by rw [hi, hc]) (by rw [hc]; exact hfit) h1, ?_, .inr ⟨g, cap, _, rfl, hg, setRow_heap W g cur _ e _ hWg, hnc, hcm, ?_, ?_⟩⟩
      · rw [List.length_append, hl, hnz]; simp [hc]
      · simp only [List.size_toArray, List.length_append, List.length_take, List.length_drop, Array.length_toList]
        omega
      · rw [hlt]
        have : (l ++ cs.toList).length = (n + 1) * z := by rw [List.length_append, hl, hnz]; simp [hc]
        rw [← this, List.toList_toArray]
        exact List.take_left
    · have hj2 : n * z + j < cur.size := by omega
      exact ⟨cur[n * z + j], by simp only [World.cell?, hh]; simp [hj2]⟩

/-- 'append(s, x..)' of m values that lie in a block: one operation; where the row lies behind it. -/
theorem wp_appG {P : Program} {o : Oper} {a : Act} {K : Act → World → Prop} {Q : Exit → Act → World → Prop} (s x : Operand) (t : TypeId)
    (ho : o.op = .call { callee := .builtin .append, args := #[s, x], argTypes := #[t, t] })
    (base : Nat) (e : TypeId) (i : TypeInfo) (zr : Value) (z bytes m : Nat) (ht : P.underlying t = some (.slice e)) (hi : P.info? e = some i) (hz : i.zero = some zr) (hzs : zr.cells.size = z)
    (hsize : i.size = z) (hz0 : 0 < z) (hby : i.bytes = bytes) (hb1000 : bytes ≤ 1000)
    (v : Value) (n : Nat) (l news : List Value) (w : World) (hown : w.ownsRow base e z v n l) (hs : a.eval s = v) (b c : Nat) (hn : ∀ (j : Nat) u, news[j]? = some u → w.cell? ⟨b, j, none⟩ = some u) (hl : news.length = m * z) (h1 : ∀ u ∈ news, u.oneCell' = true)
    (hx : a.eval x = .slice (some ⟨b, 0, none⟩) m c) (hlen : n + m < 100000000000) (hbase : base ≤ w.heap.size)
    (h : ∀ v' w', w'.ownsRow base e z v' (n + m) (l ++ news) → Chg v.ownBlock.toList w w' → (v'.ownBlock = v.ownBlock ∨ ∀ g, v'.ownBlock = some g → w.heap.size ≤ g) → K (a.put o.dst v') w') :
    o.wp P a w K Q := by
  have hnews : ∀ j u, news[j]? = some u → w.cell? ((⟨b, 0, none⟩ : Addr).add j) = some u := by
    intro j u hj
    have e0 : (⟨b, 0, none⟩ : Addr).add j = ⟨b, j, none⟩ := by
      unfold Addr.add; split <;> simp_all
    rw [e0]; exact hn j u hj
  have h63 : n + m ≤ maxLen := by unfold maxLen; omega
  have hbs : (n + m) * bytes ≤ 140737488355328 := by
    have : (n + m) * bytes ≤ 100000000000 * 1000 := Nat.mul_le_mul (by omega) hb1000
    omega
  obtain ⟨v', w', hrun, h2, h3, _⟩ := run_append_own (P := P) w base t o.type e i zr z bytes ht hi hz hsize hby hzs hz0 v n l hown ⟨b, 0, none⟩ m c news hl hnews h1 h63 hbs hbase
  have hfr := append_fresh (P := P) w base t o.type e i zr z bytes ht hi hz hsize hby hzs hz0 v n l hown ⟨b, 0, none⟩ m c news hl hnews h1 h63 hbs v' w' hrun
  unfold Oper.wp execOp
  simp only [ho, resolve, invoke, builtin, Sem.run_bind, Sem.run_pure, Result.andThen_ok, List.map_toArray, List.map_cons, List.map_nil, hs, hx, hrun]
  exact h v' w' h2 ⟨h3.os, h3.tape, h3.output, h3.size, fun k hk hn => h3.block k hk (by intro he; apply hn; rw [Option.mem_toList]; exact he.symm)⟩ hfr

theorem KidsIn.add2 {lo : Nat} {W w6 : World} {T : TypeId} {n : Nat} {cv v6 : Value} {L : List XM} {y : XM} (h : KidsIn lo W T n cv L) (hs : W.heap.size ≤ w6.heap.size) (hlo : lo ≤ W.heap.size)
    (hk : ∀ b, lo ≤ b → b < W.heap.size → cv.ownBlock ≠ some b → w6.heap[b]? = W.heap[b]?)
    (hy : XIn (fun b => W.heap.size ≤ b ∧ b < w6.heap.size ∧ v6.ownBlock ≠ some b) w6 n y) (hr : w6.ownsRow lo T 8 v6 (L.length + 1) (cellsOf cellsX L ++ cellsX y)) (hf : v6.ownBlock = cv.ownBlock ∨ ∀ g, v6.ownBlock = some g → W.heap.size ≤ g) :
    KidsIn lo w6 T n v6 (L ++ [y]) := by
  refine ⟨by rw [List.length_append]; exact (cellsOf_snoc cellsX L y).symm ▸ hr, fun z hz => ?_⟩
  rcases List.mem_append.1 hz with hz | hz
  · have hz2 := h.kid z hz
    refine (hz2.keep (w' := w6) (fun b hb => hk b hb.1 hb.2.1 hb.2.2)).imp fun b hb => ⟨hb.1, by omega, ?_⟩
    rcases hf with hf | hf
    · rw [hf]; exact hb.2.2
    · intro hg; have := hf b hg; omega
  · rw [List.mem_singleton.1 hz]
    exact hy.imp fun b hb => ⟨by omega, hb.2.1, hb.2.2⟩
end Go.Proofs.YtjhdlbkcpdfpcaaDoor

/- Operations on large arrays and structs, carried out as one step. -/
set_option linter.unusedSimpArgs false
set_option linter.unusedVariables false
set_option maxRecDepth 100000
namespace Go.Proofs.YtjhdlbkcpdfpcaaDoor
open Go.RowKit

section
variable {P : Program} {ops : Array Oper} {Q : Exit → Act → World → Prop}

theorem exec_load {o : Oper} {a : Act} {w : World} {ty : TypeId} {x : Operand} {ad : Addr} {v : Value} (ho : o.op = .load ty x) (hx : a.eval x = .pointer (some ad)) (h : (loadVar ty ad).run P w = .ok v w) :
    (execOp a.eval o).run P w = .ok (.value v) w := by
  unfold execOp
  simp only [ho, hx, Instr.loadAt, Instr.sureAddr, Sem.run_bind, Sem.run_pure, Result.andThen_ok, h]

/-- A load in a plain region. -/
theorem wpList_loadV {rest : List Oper} {o : Oper} {a : Act} {w : World} (hg : o.guard = none) (ty : TypeId) (x : Operand) (ho : o.op = .load ty x) {ad : Addr} (hx : a.eval x = .pointer (some ad)) {v : Value} (h : (loadVar ty ad).run P w = .ok v w)
    (hK : wpList P ops Q rest (a.put o.dst v) w) : wpList P ops Q (o :: rest) a w :=
  wpList_plain hg fun _ hk => by
    unfold Oper.wp
    rw [exec_load ho hx h]
    exact hk _ _ hK

/-- A store in a plain region. -/
theorem wpList_storeV {rest : List Oper} {o : Oper} {a : Act} {w w' : World} (hg : o.guard = none) (ty : TypeId) (x y : Operand) (ho : o.op = .store ty x y) {ad : Addr} (hx : a.eval x = .pointer (some ad)) {v : Value} (hy : a.eval y = v) (h : (storeVar ty ad v).run P w = .ok () w')
    (hK : wpList P ops Q rest (a.put o.dst undef) w') : wpList P ops Q (o :: rest) a w :=
  wpList_plain hg fun _ hk => by
    unfold Oper.wp execOp
    simp only [ho, hx, hy, Instr.storeAt, Instr.sureAddr, Sem.run_bind, Sem.run_pure, Result.andThen_ok, h]
    exact hk _ _ hK

/-- An operation of a plain region whose run is known. -/
theorem wpList_val {rest : List Oper} {o : Oper} {a : Act} {w w' : World} (hg : o.guard = none) {v : Value} (h : (execOp a.eval o).run P w = .ok (.value v) w')
    (hK : wpList P ops Q rest (a.put o.dst v) w') : wpList P ops Q (o :: rest) a w :=
  wpList_plain hg fun _ hk => by
    unfold Oper.wp
    rw [h]
    exact hk _ _ hK
theorem wpList_skp {rest : List Oper} {o : Oper} {a : Act} {w w' : World} (hg : o.guard = none) (h : (execOp a.eval o).run P w = .ok .skip w')
    (hK : wpList P ops Q rest (a.put o.dst undef) w') : wpList P ops Q (o :: rest) a w :=
  wpList_plain hg fun _ hk => by
    unfold Oper.wp
    rw [h]
    exact hk _ _ hK
/-- One whose run is known, at its own. -/
theorem wp_val {o : Oper} {a : Act} {w w' : World} {K : Act → World → Prop} {v : Value} (h : (execOp a.eval o).run P w = .ok (.value v) w') (hK : K (a.put o.dst v) w') : o.wp P a w K Q := by
  unfold Oper.wp
  rw [h]
  exact hK
theorem wp_skp {o : Oper} {a : Act} {w w' : World} {K : Act → World → Prop} (h : (execOp a.eval o).run P w = .ok .skip w') (hK : K (a.put o.dst undef) w') : o.wp P a w K Q := by
  unfold Oper.wp
  rw [h]
  exact hK

theorem exec_mapUpdate {o : Oper} {a : Act} {w w' : World} {T : TypeId} {m k x : Operand} (ho : o.op = .mapUpdate T m k x) {vm vk vx : Value} (hm : a.eval m = vm) (hk : a.eval k = vk) (hx : a.eval x = vx) (h : (Instr.mapUpdate T vm vk vx).run P w = .ok () w') :
    (execOp a.eval o).run P w = .ok .skip w' := by
  unfold execOp
  simp only [ho, hm, hk, hx, Sem.run_bind, h, Result.andThen_ok, Sem.run_pure]
theorem exec_lookup {o : Oper} {a : Act} {w : World} {T : TypeId} {m k : Operand} {ok : Bool} (ho : o.op = .lookup T m k ok) {vm vk v : Value} (hm : a.eval m = vm) (hk : a.eval k = vk) (h : (Instr.lookup T vm vk ok).run P w = .ok v w) :
    (execOp a.eval o).run P w = .ok (.value v) w := by
  unfold execOp
  simp only [ho, hm, hk, Sem.run_bind, h, Result.andThen_ok, Sem.run_pure]
theorem exec_alloc {o : Oper} {a : Act} {w : World} {e : TypeId} (ho : o.op = .alloc e) {z : Value} (hz : ∀ W, (zeroValue e).run P W = .ok z W) :
    (execOp a.eval o).run P w = .ok (.value (.pointer (some ⟨w.heap.size, 0, none⟩))) (w.alloc (.cells z.cells e)) := by
  unfold execOp
  simp only [ho, Instr.alloc, Sem.run_bind, hz, Result.andThen_ok]
  rfl
theorem exec_build {o : Oper} {a : Act} {w : World} {t : TypeId} {parts : Array (Nat × Operand)} (ho : o.op = .build t parts) {cells : Array Value} (h : (Instr.build t (parts.map fun (i, x) => (i, a.eval x))).run P w = .ok (.agg cells) w) :
    (execOp a.eval o).run P w = .ok (.value (.agg cells)) w := by
  unfold execOp
  simp only [ho, Sem.run_bind, h, Result.andThen_ok, Sem.run_pure]
theorem exec_buildSlice {o : Oper} {a : Act} {w w' : World} {t : TypeId} {n : Nat} {parts : Array (Nat × Operand)} (ho : o.op = .buildSlice t n parts) {v : Value} (h : (Instr.buildSlice t n (parts.map fun (i, x) => (i, a.eval x))).run P w = .ok v w') :
    (execOp a.eval o).run P w = .ok (.value v) w' := by
  unfold execOp
  simp only [ho, Sem.run_bind, h, Result.andThen_ok, Sem.run_pure]
theorem exec_buildSlice1 {o : Oper} {a : Act} {w w' : World} {t : TypeId} {n : Nat} {i : Nat} {x : Operand} (ho : o.op = .buildSlice t n #[(i, x)]) {vx v : Value} (hx : a.eval x = vx) (h : (Instr.buildSlice t n #[(i, vx)]).run P w = .ok v w') :
    (execOp a.eval o).run P w = .ok (.value v) w' := exec_buildSlice ho (by simpa [hx] using h)
theorem exec_build1 {o : Oper} {a : Act} {w : World} {t : TypeId} {i : Nat} {x : Operand} (ho : o.op = .build t #[(i, x)]) {vx : Value} {cells : Array Value} (hx : a.eval x = vx) (h : (Instr.build t #[(i, vx)]).run P w = .ok (.agg cells) w) :
    (execOp a.eval o).run P w = .ok (.value (.agg cells)) w := exec_build ho (by simpa [hx] using h)
theorem exec_build2 {o : Oper} {a : Act} {w : World} {t : TypeId} {i j : Nat} {x y : Operand} (ho : o.op = .build t #[(i, x), (j, y)]) {vx vy : Value} {cells : Array Value} (hx : a.eval x = vx) (hy : a.eval y = vy) (h : (Instr.build t #[(i, vx), (j, vy)]).run P w = .ok (.agg cells) w) :
    (execOp a.eval o).run P w = .ok (.value (.agg cells)) w := exec_build ho (by simpa [hx, hy] using h)
theorem exec_store {o : Oper} {a : Act} {w w' : World} {ty : TypeId} {x y : Operand} (ho : o.op = .store ty x y) {ad : Addr} (hx : a.eval x = .pointer (some ad)) {v : Value} (hy : a.eval y = v) (h : (storeVar ty ad v).run P w = .ok () w') :
    (execOp a.eval o).run P w = .ok .skip w' := by
  unfold execOp
  simp only [ho, hx, hy, Instr.storeAt, Instr.sureAddr, Sem.run_bind, Sem.run_pure, Result.andThen_ok, h]
end

/-- The zero value of a type, and its size. -/
theorem zero_of {P : Program} {t : TypeId} {v : Value} (h : (P.info? t).map (·.zero) = some (some v)) (w : World) : (zeroValue t).run P w = .ok v w := by
  cases hq : P.info? t with
  | none => simp [hq] at h
  | some i =>
    simp [hq] at h
    simp [zeroValue, typeInfo, hq, h]
end Go.Proofs.YtjhdlbkcpdfpcaaDoor
