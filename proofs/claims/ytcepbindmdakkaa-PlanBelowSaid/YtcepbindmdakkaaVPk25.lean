/- Several texts of one proof, one behind the other. -/
import Derived.Test.YtcepbindmdakkaaVPk24
import Derived.WalkMore
set_option linter.unusedSimpArgs false
set_option linter.unusedVariables false

/- plan.clone. -/
set_option linter.unusedSimpArgs false
set_option linter.unusedVariables false
set_option maxRecDepth 100000
namespace Go.Proofs.Ytcepbindmdakkaa
open Go.RowKit

/-- A node in blocks of which p holds. -/
def NdIn (p : Nat → Prop) (w : World) (n : Nat) (x : NM) : Prop := RoseIn NLb.fair NLb.cells p w n x
theorem NdIn.imp {p q : Nat → Prop} (h : ∀ b, p b → q b) {w : World} {n : Nat} {x : NM} (hx : NdIn p w n x) : NdIn q w n x := RoseIn.imp h hx
theorem NdIn.keep {p : Nat → Prop} {w w' : World} (h : ∀ b, p b → w'.heap[b]? = w.heap[b]?) {n : Nat} {x : NM} (hx : NdIn p w n x) : NdIn p w' n x := RoseIn.keep h hx
theorem NdIn.at_ {N : Nat} {w : World} {n : Nat} {x : NM} (hx : NdIn (· < N) w n x) : NdAt N w n x := RoseIn.at_ hx

abbrev zeroNdc : Array Value := #[.int .i64 0, .string ⟨#[]⟩, .int .u8 0, .int .i64 0, .string ⟨#[]⟩, .int .i64 0, .int .u8 0, .slice none 0 0]
/-- The cells of a node, with another slice of arguments. -/
abbrev NLb.csN (l : NLb) (v : Value) : Array Value := #[.int .i64 l.kd, .string l.op, .int .u8 l.v.k, .int .i64 l.v.n, .string l.v.s, .int .i64 l.sl, .int .u8 (l.ty : Int), v]
/-- What a call hands back: a node in memory of its own. -/
def RetNd (w : World) (n : Nat) (t : Nx) (e : Ending) (w' : World) : Prop :=
  ∃ y : NM, e = .returned (.agg #[.int .i64 y.t.lab.kd, .string y.t.lab.op, .int .u8 y.t.lab.v.k, .int .i64 y.t.lab.v.n, .string y.t.lab.v.s, .int .i64 y.t.lab.sl, .int .u8 (y.t.lab.ty : Int), .slice y.a y.t.args.length y.cap]) ∧ y.t = t ∧ NdIn (fun b => w.heap.size ≤ b ∧ b < w'.heap.size) w' n y ∧ Below w.heap.size w w'

/-- 'clone' is at work: k arguments have been cloned in place. -/
structure PlIn (w W : World) (l : NLb) (v : Value) (n m k : Nat) (LC LO : List NM) : Prop where
  box : Blk W w.heap.size 36 (l.csN v)
  res : Blk W (w.heap.size + 1) 36 zeroNdc
  bel : Below w.heap.size w W
  lo : w.heap.size + 2 ≤ W.heap.size
  row : W.ownsRow (w.heap.size + 2) 36 8 v m (cellsNs LC ++ cellsNs (LO.drop k))
  kids : ∀ z ∈ LC, NdIn (fun b => w.heap.size + 2 ≤ b ∧ b < W.heap.size ∧ v.ownBlock ≠ some b) W n z
  list : LC.map (·.t) = (LO.take k).map (·.t)
theorem PlIn.len {w W : World} {l : NLb} {v : Value} {n m k : Nat} {LC LO : List NM} (h : PlIn w W l v n m k LC LO) (hk : k ≤ LO.length) : LC.length = k := by
  have := congrArg List.length h.list
  simpa [Nat.min_eq_left hk] using this
theorem cellsNs_cons (y : NM) (l : List NM) : cellsNs (y :: l) = cellsNd y ++ cellsNs l := by simp [cellsNs, cellsOf]
theorem cellsNs_snoc (l : List NM) (y : NM) : cellsNs (l ++ [y]) = cellsNs l ++ cellsNd y := cellsOf_snoc cellsNd l y

/-- One more argument is cloned and stored. -/
theorem PlIn.add {w W w2 W6 : World} {l : NLb} {v : Value} {n m k g : Nat} {LC LO : List NM} {z : NM} {R : Array Value} (h : PlIn w W l v n m k LC LO) (hk : k < LO.length) (hb : Below W.heap.size W w2)
    (hz : NdIn (fun b => W.heap.size ≤ b ∧ b < w2.heap.size) w2 n z) (hzt : z.t = LO[k].t) (hvg : v.ownBlock = some g) (hW6 : W6 = w2.setRow g R)
    (hr : W6.ownsRow (w.heap.size + 2) 36 8 v m (cellsNs LC ++ cellsNd z ++ cellsNs (LO.drop (k + 1)))) :
    PlIn w W6 l v n m (k + 1) (LC ++ [z]) LO := by
  have hs2 := hb.size
  have hlo := h.lo
  have hgl : g < W.heap.size := own_lt h.row hvg
  have hgb : w.heap.size + 2 ≤ g := (h.row.lt g hvg).1
  have hs6 : W6.heap.size = w2.heap.size := by rw [hW6]; simp
  have hold : ∀ b, b < W.heap.size → b ≠ g → W6.heap[b]? = W.heap[b]? := fun b h1 h2 => by rw [hW6]; exact (setRow_other _ g b _ h2).trans (hb.block b h1)
  have hchg : Chg [g] w2 W6 := by rw [hW6]; exact (Chg.refl _ _).setRow (.inl (by simp)) _
  have hbel : Below (w.heap.size + 2) W W6 := (hb.mono hlo).trans (hchg.below (by omega) (by simp; omega))
  refine ⟨(hold _ (by omega) (by omega)).trans h.box, (hold _ (by omega) (by omega)).trans h.res, h.bel.trans (hbel.mono (by omega)), by omega, ?_, fun q hq => ?_, ?_⟩
  · rw [cellsNs_snoc]; exact hr
  · rcases List.mem_append.1 hq with hq | hq
    · exact ((h.kids q hq).keep (fun b hb' => hold b hb'.2.1 (fun e => hb'.2.2 (by rw [hvg, e])))).imp fun b hb' => ⟨hb'.1, by omega, hb'.2.2⟩
    · rw [List.mem_singleton.1 hq]
      refine (hz.keep (w' := W6) (fun b hb' => by rw [hW6]; exact setRow_other _ g b _ (by omega))).imp fun b hb' => ⟨by omega, by omega, ?_⟩
      rw [hvg]; intro he; injection he with he; omega
  · rw [List.map_append, h.list, List.take_succ_eq_append_getElem hk, List.map_append]; simp [hzt]

theorem PlIn.tree {w W : World} {l : NLb} {v : Value} {n m : Nat} {LC LO : List NM} {args : List Nx} (h : PlIn w W l v n m m LC LO) (hm : LO.length = m) (hl : l.fair) (ha : LO.map (·.t) = args) :
    ∃ ac cc, v = .slice ac m cc ∧ NdIn (fun b => w.heap.size + 2 ≤ b ∧ b < W.heap.size) W (n + 1) ⟨.mk l args, ac, cc⟩ := by
  have hLC : LC.map (·.t) = args := by rw [h.list, ← hm, List.take_length]; exact ha
  have hrow := h.row
  rw [← hm, List.drop_length] at hrow
  have hnil : cellsNs [] = [] := rfl
  rw [hnil, List.append_nil, hm] at hrow
  have hal : args.length = m := by rw [← ha, List.length_map]; exact hm
  obtain ⟨h1, h2⟩ := hrow
  rcases h2 with ⟨rfl, hn⟩ | ⟨g, cap, cur, rfl, hg, hh, hnc, hcm, hcs, hcur⟩
  · subst hn
    refine ⟨none, 0, rfl, hl, by simp only [Rose.args]; omega, by simp, LC, hLC, .inl ?_, fun y hy => (h.kids y hy).imp fun b hb => ⟨hb.1, hb.2.1⟩⟩
    show cellsNs LC = []
    exact List.length_eq_zero_iff.1 (by simpa using h1)
  · have hglt : g < W.heap.size := (Array.getElem?_eq_some_iff.1 hh).1
    refine ⟨_, cap, rfl, hl, by simp only [Rose.args]; omega, by unfold maxLen at hcm; simp only; omega, LC, hLC, .inr ⟨g, 0, rfl, ⟨hg, hglt⟩, fun i u hi => ?_⟩, fun y hy => (h.kids y hy).imp fun b hb => ⟨hb.1, hb.2.1⟩⟩
    have e1 : (cur.toList.take (m * 8))[i]? = some u := by rw [hcur]; exact hi
    rw [List.getElem?_take] at e1
    split at e1
    · simp only [World.cell?, hh, Nat.zero_add]
      simpa using e1
    · simp at e1

theorem mem_le_sum : ∀ {l : List Nat} {k : Nat}, k ∈ l → k ≤ l.sum
  | [], _, h => by cases h
  | a :: r, k, h => by
    rcases List.mem_cons.1 h with rfl | h
    · simp
    · have := mem_le_sum h; simp only [List.sum_cons]; omega
set_option maxHeartbeats 4000000 in
theorem planClone_is : ∀ (n : Nat) (x : NM) (w : World), NdAt w.heap.size w n x → x.t.count ≤ 1000000 →
    Calls Try.prog 57 #[x.nv] w (RetNd w n x.t)
  | 0, _, _, h, _ => h.elim
  | n + 1, ⟨t, a, cap⟩, w, h, hc => by
    rw [NM.nv_eq]
    have hF := h.fair.1
    have hlen := h.fair.2.1
    have hcap := h.fair.2.2
    obtain ⟨-, -, -, LO, hLO, hArr, hKid⟩ := h
    simp only at hF hlen hcap hc hLO hArr ⊢
    obtain ⟨m, hm⟩ : ∃ m, t.args.length = m := ⟨_, rfl⟩
    have HM := Lib.hid hm
    have hm1 : m ≤ 1000000 := by
      have h7 := t.count_eq
      have : ∀ l : List Nx, l.length ≤ (l.map Rose.count).sum := fun l => by
        induction l with
        | nil => simp
        | cons y r ih => have := y.count_pos; simp only [List.length_cons, List.map_cons, List.sum_cons]; omega
      have := this t.args
      omega
    have hLm : LO.length = m := by rw [← hm, ← hLO, List.length_map]
    have HLm := Lib.hid hLm
    have HLO := Lib.hid hLO
    have HFa := Lib.hid hF
    have HKid := Lib.hid hKid
    have HCt : Hid (∀ y ∈ LO, y.t.count ≤ 1000000) := fun y hy => by
      have h7 := t.count_eq
      have h8 : y.t.count ∈ t.args.map Rose.count := by rw [← hLO]; exact List.mem_map_of_mem (List.mem_map_of_mem hy)
      have := mem_le_sum h8
      omega
    rw [hm] at hlen ⊢
    have HCl := Lib.hid (fun W (hb : Below w.heap.size w W) => cloneNs_any LO a m cap W ((Arr.below hArr hb).mono hb.size) hLm.symm (by omega))
    have IH : Hid (∀ (y : NM) (W : World), NdAt W.heap.size W n y → y.t.count ≤ 1000000 → Calls Try.prog 57 #[.agg #[.int .i64 y.t.lab.kd, .string y.t.lab.op, .int .u8 y.t.lab.v.k, .int .i64 y.t.lab.v.n, .string y.t.lab.v.s, .int .i64 y.t.lab.sl, .int .u8 (y.t.lab.ty : Int), .slice y.a y.t.args.length y.cap]] W (RetNd W n y.t)) := fun y W hy hyc => by
      have := planClone_is n y W hy hyc
      rw [NM.nv_eq] at this; exact this
    obtain ⟨w0, hw0⟩ : ∃ w0, (w.alloc (.cells (t.lab.csN (.slice a m cap)) 36)).alloc (.cells zeroNdc 36) = w0 := ⟨_, rfl⟩
    have hbox0 : Blk w0 w.heap.size 36 (t.lab.csN (.slice a m cap)) := by rw [← hw0]; exact (Blk.new w _ _).alloc _
    have hres0 : Blk w0 (w.heap.size + 1) 36 zeroNdc := by
      rw [← hw0]
      have := Blk.new (w.alloc (.cells (t.lab.csN (.slice a m cap)) 36)) 36 zeroNdc
      rw [show (w.alloc (.cells (t.lab.csN (.slice a m cap)) 36)).heap.size = w.heap.size + 1 by simp] at this
      exact this
    have hb0 : Below w.heap.size w w0 := by rw [← hw0]; exact ((Below.refl _ w).alloc (Nat.le_refl _) _).alloc (by simp) _
    have hs0 : w0.heap.size = w.heap.size + 2 := by rw [← hw0]; simp
    have HB0 := Lib.hid hb0
    have HS0 := Lib.hid hs0
    have HBx := Lib.hid hbox0
    have HRs := Lib.hid hres0
    have x7 := (hbox0.cell 7).trans rfl
    clear hF hKid hLO hArr hLm hm hc hbox0 hres0 hb0 hs0
    go_enter Try.func57, Try.ntmps57
    go_wp2_with fail
    refine (HCl.out _ HB0.out).mono ?_
    rintro e w2 ⟨v, rfl, hown, hb2⟩
    rw [HS0.out] at hown
    have hbox2 : Blk w2 w.heap.size 36 (t.lab.csN (.slice a m cap)) := (hb2.block _ (by have := HS0.out; omega)).trans HBx.out
    have hres2 : Blk w2 (w.heap.size + 1) 36 zeroNdc := (hb2.block _ (by have := HS0.out; omega)).trans HRs.out
    obtain ⟨av, cv, hv, -, -, -⟩ := own_slice hown
    subst hv
    have x7' := (hbox2.cell 7).trans rfl
    have f7' := hbox2.frozen 7
    have HI0 : Hid (PlIn w (w2.setCell ⟨w.heap.size, 7, none⟩ (.slice av m cv)) t.lab (.slice av m cv) n m 0 [] LO) := by
      have hs2 := hb2.size
      have hS0 := HS0.out
      refine ⟨hbox2.set_ 7 _, hres2.far (by omega) _, (HB0.out.trans (hb2.mono (by omega))).setCell (p := ⟨w.heap.size, 7, none⟩) (Nat.le_refl _) _, by simp; omega, ?_, fun z hz => (by cases hz), rfl⟩
      have e : cellsNs [] ++ cellsNs (LO.drop 0) = cellsNs LO := rfl
      rw [e]
      exact own_keep hown fun g hg => Below.heap_setCell w2 ⟨w.heap.size, 7, none⟩ _ g (by have := (hown.lt g hg).1; show g ≠ w.heap.size; omega)
    clear hown hb2 hbox2 hres2 HCl x7
    go_wp2
    clear x7' f7'
    go_loopw [12] (fun i wr => ∃ (k : Nat) (LC : List NM), k ≤ m ∧ i = .int .i64 (k : Int) ∧ Hid (PlIn w wr t.lab (.slice av m cv) n m k LC LO)) (fun i _ => m - (intOf i).toNat)
    case atStart => exact ⟨0, [], by omega, rfl, HI0.out⟩
    case round =>
      clear HI0
      obtain ⟨k, LC, hk, rfl, HI⟩ := hrel
      by_cases hlt : k < m
      · have hkl : k < LO.length := by rw [HLm.out]; exact hlt
        obtain ⟨y, hy⟩ : ∃ y, LO[k] = y := ⟨_, rfl⟩
        have hdr : LO.drop k = y :: LO.drop (k + 1) := by rw [← hy]; exact List.drop_eq_getElem_cons hkl
        have hrow := HI.out.row
        rw [hdr, cellsNs_cons, ← List.append_assoc] at hrow
        have hll : (cellsNs LC).length = k * 8 := by rw [cellsNs_len, HI.out.len (by omega)]
        obtain ⟨g, hav, hgw⟩ : ∃ g, av = some ⟨g, 0, none⟩ ∧ w.heap.size + 2 ≤ g := by
          rcases hrow.2 with ⟨h0, hn0⟩ | ⟨g, cap', cur, hv, hg, hh, _⟩
          · omega
          · injection hv with e1 e2 e3; exact ⟨g, e1, hg⟩
        subst hav
        have hcl : ∀ (j : Nat) u, (cellsNd y)[j]? = some u → wr.cell? ⟨g, k * 8 + j, none⟩ = some u := fun j u hu => by
          have hj : j < 8 := by
            have := (List.getElem?_eq_some_iff.1 hu).1
            rwa [cellsNd_len] at this
          rw [hrow.cellAt (k * 8 + j) (by omega), List.append_assoc, List.getElem?_append_right (by omega), hll, show k * 8 + j - k * 8 = j by omega, List.getElem?_append_left (by rw [cellsNd_len]; exact hj)]
          exact hu
        have y0 : wr.cell? ⟨g, k * 8, none⟩ = some (.int .i64 y.t.lab.kd) := hcl 0 _ rfl
        have y1 := hcl 1 _ rfl
        have y2 := hcl 2 _ rfl
        have y3 := hcl 3 _ rfl
        have y4 := hcl 4 _ rfl
        have y5 := hcl 5 _ rfl
        have y6 := hcl 6 _ rfl
        have y7 := hcl 7 _ rfl
        have HX := Lib.hid (Slot8.new wr 36 (.int .i64 y.t.lab.kd) (.string y.t.lab.op) (.int .u8 y.t.lab.v.k) (.int .i64 y.t.lab.v.n) (.string y.t.lab.v.s) (.int .i64 y.t.lab.sl) (.int .u8 (y.t.lab.ty : Int)) (.slice y.a y.t.args.length y.cap))
        obtain ⟨w1, hw1⟩ : ∃ w1, wr.alloc (.cells #[.int .i64 y.t.lab.kd, .string y.t.lab.op, .int .u8 y.t.lab.v.k, .int .i64 y.t.lab.v.n, .string y.t.lab.v.s, .int .i64 y.t.lab.sl, .int .u8 (y.t.lab.ty : Int), .slice y.a y.t.args.length y.cap] 36) = w1 := ⟨_, rfl⟩
        have hb1 : Below wr.heap.size wr w1 := by rw [← hw1]; exact (Below.refl _ wr).alloc (Nat.le_refl _) _
        have hs1 : w1.heap.size = wr.heap.size + 1 := by rw [← hw1]; simp
        rw [hw1] at HX
        have hmem : y ∈ LO := by rw [← hy]; exact List.getElem_mem hkl
        have hbd : Below wr.heap.size wr w1.drew := hb1.drew
        have HY := Lib.hid (IH.out y w1.drew (((HKid.out y hmem).below (HI.out.bel.trans (hbd.mono HI.out.bel.size))).mono (Nat.le_trans HI.out.bel.size hbd.size)) (HCt.out y hmem))
        have HBd := Lib.hid hbd
        have HS1 := Lib.hid hs1
        have hlo := HI.out.lo
        have HLo := Lib.hid hlo
        have HBox := Lib.hid (HI.out.box.cell 7)
        have l7 : ∀ V, Chg [] w1.drew V → V.cell? ⟨w.heap.size, 7, none⟩ = some (.slice (some ⟨g, 0, none⟩) m cv) := fun V hV => (hV.cell (b := w.heap.size) (by show w.heap.size < w1.heap.size; omega) (by simp)).trans ((hbd.cell (p := ⟨w.heap.size, 7, none⟩) (by show w.heap.size < wr.heap.size; omega)).trans (HBox.out.trans rfl))
        have b0 : ∀ V, Chg [] w1.drew V → V.cell? ⟨wr.heap.size, 0, none⟩ = some (.int .i64 y.t.lab.kd) := fun V hV => (hV.cell (b := wr.heap.size) (by show wr.heap.size < w1.heap.size; omega) (by simp)).trans HX.out.c0
        have b1 : ∀ V, Chg [] w1.drew V → V.cell? ⟨wr.heap.size, 1, none⟩ = some (.string y.t.lab.op) := fun V hV => (hV.cell (b := wr.heap.size) (by show wr.heap.size < w1.heap.size; omega) (by simp)).trans HX.out.c1
        have b2 : ∀ V, Chg [] w1.drew V → V.cell? ⟨wr.heap.size, 2, none⟩ = some (.int .u8 y.t.lab.v.k) := fun V hV => (hV.cell (b := wr.heap.size) (by show wr.heap.size < w1.heap.size; omega) (by simp)).trans HX.out.c2
        have b3 : ∀ V, Chg [] w1.drew V → V.cell? ⟨wr.heap.size, 3, none⟩ = some (.int .i64 y.t.lab.v.n) := fun V hV => (hV.cell (b := wr.heap.size) (by show wr.heap.size < w1.heap.size; omega) (by simp)).trans HX.out.c3
        have b4 : ∀ V, Chg [] w1.drew V → V.cell? ⟨wr.heap.size, 4, none⟩ = some (.string y.t.lab.v.s) := fun V hV => (hV.cell (b := wr.heap.size) (by show wr.heap.size < w1.heap.size; omega) (by simp)).trans HX.out.c4
        have b5 : ∀ V, Chg [] w1.drew V → V.cell? ⟨wr.heap.size, 5, none⟩ = some (.int .i64 y.t.lab.sl) := fun V hV => (hV.cell (b := wr.heap.size) (by show wr.heap.size < w1.heap.size; omega) (by simp)).trans HX.out.c5
        have b6 : ∀ V, Chg [] w1.drew V → V.cell? ⟨wr.heap.size, 6, none⟩ = some (.int .u8 (y.t.lab.ty : Int)) := fun V hV => (hV.cell (b := wr.heap.size) (by show wr.heap.size < w1.heap.size; omega) (by simp)).trans HX.out.c6
        have b7 : ∀ V, Chg [] w1.drew V → V.cell? ⟨wr.heap.size, 7, none⟩ = some (.slice y.a y.t.args.length y.cap) := fun V hV => (hV.cell (b := wr.heap.size) (by show wr.heap.size < w1.heap.size; omega) (by simp)).trans HX.out.c7
        have HRow := Lib.hid hrow
        have HLl := Lib.hid hll
        have HYk := Lib.hid hy
        clear hdr hrow hll hcl hmem hbd hb1 hs1 hlo hy IH HKid HCt
        go_wp2_with fail
        clear y0 y1 y2 y3 y4 y5 y6 y7
        refine wp_region_tail ([]) [6] (.free 0 (.free 1 (.free 2 (.free 3 (.one 4 (.free 5 (.last 6 (.nil)))))))) (by kernel_rfl) (by kernel_rfl) (by kernel_rfl) (by kernel_rfl) ?_
        repeat (first | ((refine wpL_F rfl (by rfl) (fun w' hL => exec_load rfl rfl (l7 w' hL)) ?_); try simp only [Act.put, List.setIfInBounds_toArray, List.set_cons_zero, List.set_cons_succ]) | (refine wpL_F (v := ?_) rfl (by rfl) (fun w' hL => ?_) ?_; rotate_left; (solve | (go_simp; with_reducible rfl) | go_simp); try simp only [Act.put, List.setIfInBounds_toArray, List.set_cons_zero, List.set_cons_succ]) | (refine wpL_G rfl (by rfl) ?_; try simp only [Act.put, List.setIfInBounds_toArray, List.set_cons_zero, List.set_cons_succ]))
        refine wpL_C rfl (by rfl) ?_
        go_simp
        refine HY.out.mono ?_
        rintro e w3 ⟨z, rfl, hzt, hzI, hb3⟩
        refine ⟨below_chgN hb3, ?_⟩
        try simp only [Act.put, List.setIfInBounds_toArray, List.set_cons_zero, List.set_cons_succ]
        refine wpL_F (v := .pointer (some ⟨g, k * 8, none⟩)) rfl (by rfl) (fun w' hL => by first | (go_simp; done) | (go_simp; rw [if_pos (by omega)])) ?_
        try simp only [Act.put, List.setIfInBounds_toArray, List.set_cons_zero, List.set_cons_succ]
        have HB3 : Hid (Below wr.heap.size wr w3) := HBd.out.trans (hb3.mono HBd.out.size)
        have hz : NdIn (fun b => wr.heap.size ≤ b ∧ b < w3.heap.size) w3 n z := hzI.imp fun b hb => ⟨Nat.le_trans HBd.out.size hb.1, hb.2⟩
        obtain ⟨g', cap', R, hv', -, -, -, hput⟩ := own_set (P := Try.prog) (own_below HRow.out (Nat.le_refl _) HB3.out) HLl.out (cellsNd_len y) hlt (by omega) (cellsNd z).toArray rfl info_ndS (by simpa using one_Nd z)
        injection hv' with e1 e2 e3
        injection e1 with e1
        injection e1 with e1
        subst e1
        have HSt := Lib.hid (hput w3 rfl).1
        have HN : Hid (PlIn w (w3.setRow g R) t.lab (.slice (some ⟨g, 0, none⟩) m cv) n m (k + 1) (LC ++ [z]) LO) :=
          HI.out.add hkl HB3.out hz (by rw [HYk.out]; exact hzt) rfl rfl (by have := (hput w3 rfl).2; simpa using this)
        clear hput hz hzI hzt hb3 e2 e3 l7 b0 b1 b2 b3 b4 b5 b6 b7
        refine wpL_X rfl (by rfl) ?_
        refine wp_skp (exec_store rfl rfl rfl HSt.out) ?_
        try simp only [Act.put, List.setIfInBounds_toArray, List.set_cons_zero, List.set_cons_succ]
        refine wpL_nil ?_
        try go_simp
        try simp only [NoPanic]
        go_wp2
        go_roundw
        case rel => exact ⟨k + 1, LC ++ [z], by omega, by go_num, HN.out⟩
        case measure => simp [intOf]; omega
      · have hke : k = m := by omega
        subst hke
        obtain ⟨ac, cc, hcv, hX⟩ := HI.out.tree HLm.out HFa.out HLO.out
        injection hcv with e1 e2 e3
        subst e1 e3
        have hBlk1 := HI.out.box
        have hres1 := HI.out.res
        have z0 := (hBlk1.cell 0).trans rfl
        have z1 := (hBlk1.cell 1).trans rfl
        have z2 := (hBlk1.cell 2).trans rfl
        have z3 := (hBlk1.cell 3).trans rfl
        have z4 := (hBlk1.cell 4).trans rfl
        have z5 := (hBlk1.cell 5).trans rfl
        have z6 := (hBlk1.cell 6).trans rfl
        have z7 := (hBlk1.cell 7).trans rfl
        have HS : Hid ((storeVar 36 ⟨w.heap.size + 1, 0, none⟩ (.agg (t.lab.csN (.slice av k cv)))).run Try.prog wr = .ok () (wr.setRow (w.heap.size + 1) (t.lab.csN (.slice av k cv)))) :=
          run_storeVar_row _ _ _ 36 _ _ hres1 (by rw [info_ndS]; rfl) rfl (by simp [Value.oneCell'])
        have HL : Hid ((loadVar 36 ⟨w.heap.size + 1, 0, none⟩).run Try.prog (wr.setRow (w.heap.size + 1) (t.lab.csN (.slice av k cv))) = .ok (.agg (t.lab.csN (.slice av k cv))) (wr.setRow (w.heap.size + 1) (t.lab.csN (.slice av k cv)))) :=
          run_loadVar_row _ _ _ 36 _ (0, 0) _ (Blk.setRow (new := t.lab.csN (.slice av k cv)) hres1) Try.underlying36 rfl (by rw [info_ndS]; rfl)
        have hcR : Chg [w.heap.size + 1] wr (wr.setRow (w.heap.size + 1) (t.lab.csN (.slice av k cv))) := (Chg.refl _ _).setRow (.inl (by simp)) _
        have HF : Hid (Below w.heap.size w (wr.setRow (w.heap.size + 1) (t.lab.csN (.slice av k cv)))) := HI.out.bel.trans (hcR.below HI.out.bel.size (by simp))
        have HX : Hid (NdIn (fun b => w.heap.size ≤ b ∧ b < (wr.setRow (w.heap.size + 1) (t.lab.csN (.slice av k cv))).heap.size) (wr.setRow (w.heap.size + 1) (t.lab.csN (.slice av k cv))) (n + 1) ⟨.mk t.lab t.args, av, cv⟩) :=
          (NdIn.keep (fun b hb => hcR.block b hb.2 (by simp; omega)) hX).imp fun b hb => ⟨by omega, by have := hcR.size; omega⟩
        have hmk : (Rose.mk t.lab t.args).args.length = k := HM.out
        clear hBlk1 hres1 hcR hX HI HKid HCt IH HFa e2
        go_wp2_with (first | (guard_target =~ wpList _ _ _ (Oper.mk _ (Op.store 36 _ _) _ _ _ _ :: _) _ _; refine wpList_skp rfl (exec_store rfl rfl rfl HS.out) ?_))
        refine bodyPost_ret (v := .agg (t.lab.csN (.slice av k cv))) (results_cell1x Try.results57 _ _ rfl HL.out) rfl ⟨⟨.mk t.lab t.args, av, cv⟩, ?_, t.eta, HX.out, HF.out⟩
        rw [hmk]; rfl
end Go.Proofs.Ytcepbindmdakkaa

/- plan.Equal: its model. -/
set_option linter.unusedSimpArgs false
set_option linter.unusedVariables false
set_option maxRecDepth 100000
namespace Go.Proofs.Ytcepbindmdakkaa
open Go.RowKit

/-- Is x the column of this slot and y of slots below first? -/
def eqArg (slot first : Int) (x y : Nx) : Bool := decide (x.lab.kd = 2) && decide (x.lab.sl = slot) && lowZ first y
/-- What a part tells the slot to be equal to. -/
def eqPart (slot first : Int) (p : Nx) : Option Nx :=
  if binN p [61] = true then
    match p.args with
    | [x, y] => if eqArg slot first x y = true then some y else if eqArg slot first y x = true then some x else none
    | _ => none
  else none
def eqParts (slot first : Int) (l : List Nx) : Option Nx := l.findSome? (eqPart slot first)
theorem eqParts_snoc (slot first : Int) (l : List Nx) (p : Nx) (h : eqParts slot first l = none) : eqParts slot first (l ++ [p]) = eqPart slot first p := by
  unfold eqParts at h ⊢
  rw [List.findSome?_append, h]
  cases hq : eqPart slot first p <;> simp [hq]
theorem eqParts_hit (slot first : Int) (l : List Nx) (k : Nat) (hk : k < l.length) (t : Nx) (h : eqParts slot first (l.take k) = none) (hp : eqPart slot first l[k] = some t) : eqParts slot first l = some t := by
  have e : l = l.take k ++ (l[k] :: l.drop (k + 1)) := by rw [← List.drop_eq_getElem_cons hk, List.take_append_drop]
  have h2 : List.findSome? (eqPart slot first) (l.take k ++ (l[k] :: l.drop (k + 1))) = some t := by
    unfold eqParts at h
    rw [List.findSome?_append, h, List.findSome?_cons, hp]; rfl
  exact (congrArg (List.findSome? (eqPart slot first)) e).trans h2
/-- What Equal hands back. -/
def RetEq (w : World) (n : Nat) (o : Option Nx) (e : Ending) (w' : World) : Prop :=
  Below w.heap.size w w' ∧ ((o = none ∧ e = .returned (.tuple #[.agg zeroNdc, .bool false])) ∨
    ∃ (t : Nx) (y : NM), o = some t ∧ y.t = t ∧ e = .returned (.tuple #[.agg #[.int .i64 y.t.lab.kd, .string y.t.lab.op, .int .u8 y.t.lab.v.k, .int .i64 y.t.lab.v.n, .string y.t.lab.v.s, .int .i64 y.t.lab.sl, .int .u8 (y.t.lab.ty : Int), .slice y.a y.t.args.length y.cap], .bool true]) ∧ NdIn (fun b => w.heap.size ≤ b ∧ b < w'.heap.size) w' n y)
/-- A row of nodes that came in. -/
structure NsAt (N : Nat) (W : World) (n : Nat) (a : Option Addr) (cap : Nat) (L : List NM) : Prop where
  arr : Arr N W a (cellsNs L)
  kids : ∀ y ∈ L, NdAt N W n y
  hcap : L.length ≤ cap
  hmax : cap ≤ 9223372036854775807
theorem NsAt.later {W W' : World} {n : Nat} {a : Option Addr} {cap : Nat} {L : List NM} (h : NsAt W.heap.size W n a cap L) (hb : Below W.heap.size W W') : NsAt W'.heap.size W' n a cap L :=
  ⟨(h.arr.below hb).mono hb.size, fun y hy => (h.kids y hy).later hb, h.hcap, h.hmax⟩
/-- The k-th node's cells. -/
theorem NsAt.at_ {N : Nat} {W : World} {n : Nat} {a : Option Addr} {cap : Nat} {L : List NM} (h : NsAt N W n a cap L) {k : Nat} (hk : k < L.length) : ∃ b o, a = some ⟨b, o, none⟩ ∧ b < N ∧ KidNd W b (o + k * 8) L[k] := by
  obtain ⟨b, o, ha, hb, hc⟩ := h.arr.at_ (by intro h0; have := cellsNs_len L; rw [h0] at this; simp at this; omega)
  have g := fun (j : Nat) (v : Value) (hv : (cellsNd L[k])[j]? = some v) => hc _ _ (cellsOf_get cellsNd 8 cellsNd_len L k j L[k] v (List.getElem?_eq_getElem hk) hv)
  refine ⟨b, o, ha, hb, ?_, ?_, ?_, ?_, ?_, ?_, ?_, ?_⟩
  · simpa using g 0 _ rfl
  · simpa [Nat.add_assoc] using g 1 _ rfl
  · simpa [Nat.add_assoc] using g 2 _ rfl
  · simpa [Nat.add_assoc] using g 3 _ rfl
  · simpa [Nat.add_assoc] using g 4 _ rfl
  · simpa [Nat.add_assoc] using g 5 _ rfl
  · simpa [Nat.add_assoc] using g 6 _ rfl
  · simpa [Nat.add_assoc] using g 7 _ rfl
end Go.Proofs.Ytcepbindmdakkaa

/- The walk of plan.Equal. -/
set_option linter.unusedSimpArgs false
set_option linter.unusedVariables false
set_option maxRecDepth 100000
namespace Go.Proofs.Ytcepbindmdakkaa
open Go.RowKit


set_option maxHeartbeats 4000000 in
theorem equal_any (slot first : Int) (n : Nat) (L : List NM) (a : Option Addr) (cap m : Nat) (w : World) (h : NsAt w.heap.size w (n + 1) a cap L) (hm : L.length = m) (hc : ∀ y ∈ L, y.t.count ≤ 1000000) :
    Calls Try.prog 43 #[.slice a m cap, .int .i64 slot, .int .i64 first] w (RetEq w n (eqParts slot first (L.map (·.t)))) := by
  have HA := Lib.hid h
  have hcap : m ≤ cap := by rw [← hm]; exact h.hcap
  have hmax := h.hmax
  have HM := Lib.hid hm
  have HCt := Lib.hid hc
  obtain ⟨w0, hw0⟩ : ∃ w0, (w.alloc (.cells zeroNdc 36)).alloc (.cells zeroNdc 36) = w0 := ⟨_, rfl⟩
  have HR6 : Hid (Blk w0 w.heap.size 36 zeroNdc) := by rw [← hw0]; exact (Blk.new w _ _).alloc _
  have HR8 : Hid (Blk w0 (w.heap.size + 1) 36 zeroNdc) := by
    rw [← hw0]
    have := Blk.new (w.alloc (.cells zeroNdc 36)) 36 zeroNdc
    rw [show (w.alloc (.cells zeroNdc 36)).heap.size = w.heap.size + 1 by simp] at this
    exact this
  have HB0 : Hid (Below w.heap.size w w0) := by rw [← hw0]; exact ((Below.refl _ w).alloc (Nat.le_refl _) _).alloc (by simp) _
  have HS0 : Hid (w0.heap.size = w.heap.size + 2) := by rw [← hw0]; simp [Hid]
  clear h hm hc
  go_enter Try.func43, Try.ntmps43
  go_wp2
  go_step3
  go_wp2
  go_step3
  go_wp2
  go_loopw [9, 17] (fun fv i wr => ∃ k : Nat, fv = .bool false ∧ k ≤ m ∧ i = .int .i64 (k : Int) ∧ Hid (eqParts slot first ((L.take k).map (·.t)) = none) ∧ Hid (Below w0.heap.size w0 wr)) (fun _ i _ => m - (intOf i).toNat)
  case atStart => exact ⟨0, rfl, by omega, rfl, rfl, Below.refl _ _⟩
  case round =>
    obtain ⟨k, rfl, hk, rfl, HI, HBr⟩ := hrel
    have HBw : Hid (Below w.heap.size w wr) := HB0.out.trans (HBr.out.mono HB0.out.size)
    by_cases hlt : k < m
    · have hkl : k < L.length := by rw [HM.out]; exact hlt
      obtain ⟨y, hy⟩ : ∃ y, L[k] = y := ⟨_, rfl⟩
      have hAr := HA.out.later HBw.out
      obtain ⟨b, o, hab, -, hKid⟩ := hAr.at_ hkl
      rw [hy] at hKid
      have hmem : y ∈ L := by rw [← hy]; exact List.getElem_mem hkl
      have HNd : Hid (NdAt wr.heap.size wr (n + 1) y) := hAr.kids y hmem
      have hyc := HCt.out y hmem
      subst hab
      obtain ⟨y0, y1, y2, y3, y4, y5, y6, y7⟩ := hKid
      have hTk : L.take (k + 1) = L.take k ++ [y] := by rw [List.take_succ_eq_append_getElem hkl, hy]
      have HTk : Hid (eqParts slot first ((L.take (k + 1)).map (·.t)) = eqPart slot first y.t) := by
        rw [hTk, List.map_append]; exact eqParts_snoc _ _ _ _ HI.out
      have HHit : Hid (∀ t, eqPart slot first y.t = some t → eqParts slot first (L.map (·.t)) = some t) := fun t ht => by
        refine eqParts_hit slot first (L.map (·.t)) k (by simpa using hkl) t ?_ ?_
        · rw [← List.map_take]; exact HI.out
        · rw [List.getElem_map, hy]; exact ht
      have HX := Lib.hid (Slot8.new wr 36 (.int .i64 y.t.lab.kd) (.string y.t.lab.op) (.int .u8 y.t.lab.v.k) (.int .i64 y.t.lab.v.n) (.string y.t.lab.v.s) (.int .i64 y.t.lab.sl) (.int .u8 (y.t.lab.ty : Int)) (.slice y.a y.t.args.length y.cap))
      obtain ⟨w1, hw1⟩ : ∃ w1, wr.alloc (.cells #[.int .i64 y.t.lab.kd, .string y.t.lab.op, .int .u8 y.t.lab.v.k, .int .i64 y.t.lab.v.n, .string y.t.lab.v.s, .int .i64 y.t.lab.sl, .int .u8 (y.t.lab.ty : Int), .slice y.a y.t.args.length y.cap] 36) = w1 := ⟨_, rfl⟩
      have hb1 : Below wr.heap.size wr w1 := by rw [← hw1]; exact (Below.refl _ wr).alloc (Nat.le_refl _) _
      have hs1 : w1.heap.size = wr.heap.size + 1 := by rw [← hw1]; simp
      rw [hw1] at HX
      have HB1 := Lib.hid hb1
      have HS1 := Lib.hid hs1
      have HIs := Lib.hid (pBin_any y ⟨#[61]⟩ w1)
      obtain ⟨bi, hbi⟩ : ∃ bi, binN y.t [61] = bi := ⟨_, rfl⟩
      have HBi := Lib.hid hbi
      have hIsB : binN y.t (ByteArray.mk #[61]).toList = bi := by rw [ByteArray.toList_eq]; exact hbi
      rw [hIsB] at HIs
      clear hy hAr hmem hTk hb1 hs1 hbi hIsB hkl HA HCt
      cases bi with
      | false =>
        have HN : Hid (eqParts slot first ((L.take (k + 1)).map (·.t)) = none) := by
          rw [HTk.out, eqPart, HBi.out, if_neg (by simp)]; exact rfl
        obtain ⟨x0, x1, x2, x3, x4, x5, x6, x7⟩ := HX.out
        go_wp2_with fail
        refine HIs.out.mono ?_
        rintro e w2 ⟨rfl, hb2⟩
        have HB2 : Hid (Below w0.heap.size w0 w2) := HBr.out.trans ((HB1.out.trans (hb2.mono HB1.out.size)).mono HBr.out.size)
        clear hb2 HIs y0 y1 y2 y3 y4 y5 y6 y7 x0 x1 x2 x3 x4 x5 x6 x7
        go_wp2
        go_roundw
        case rel => exact ⟨k + 1, rfl, by omega, by go_num, HN.out, HB2.out⟩
        case measure => simp [intOf]; omega
      | true =>
        have hl2 : y.t.args.length = 2 := by
          have := HBi.out
          unfold binN at this
          simp only [Bool.and_eq_true, decide_eq_true_eq] at this
          exact this.2
        obtain ⟨X, Z, hXZ⟩ : ∃ X Z, y.t.args = [X, Z] := by
          match y.t.args, hl2 with
          | [X, Z], _ => exact ⟨X, Z, rfl⟩
        have HP : Hid (eqPart slot first y.t = if eqArg slot first X Z = true then some Z else if eqArg slot first Z X = true then some X else none) := by
          rw [eqPart, HBi.out, if_pos rfl, hXZ]; exact rfl
        have HXZ := Lib.hid hXZ
        obtain ⟨q, hq⟩ : ∃ q, y.t.args.length = q := ⟨_, rfl⟩
        have HQ := Lib.hid hq
        have HQ2 : Hid (q = 2) := by rw [← hq]; exact hl2
        obtain ⟨ya, hya⟩ : ∃ ya, y.a = ya := ⟨_, rfl⟩
        have HYa := Lib.hid hya
        have hqc : q ≤ y.cap ∧ y.cap ≤ 9223372036854775807 := by rw [← hq]; exact HNd.out.fair.2
        obtain ⟨hqc, hyc2⟩ := hqc
        rw [hq, hya] at HX HIs y7 hw1
        clear hl2 hXZ hq hya
        obtain ⟨x0, x1, x2, x3, x4, x5, x6, x7⟩ := HX.out
        go_wp2_with fail
        refine HIs.out.mono ?_
        rintro e w2 ⟨rfl, hb2⟩
        obtain ⟨wo, rfl⟩ : ∃ wo, wo = wr := ⟨wr, rfl⟩
        have z7 := (HX.out.later (by have := HS1.out; omega) hb2).c7
        have HB2 := Lib.hid (HB1.out.trans (hb2.mono HB1.out.size))
        have HS2 : Hid (wo.heap.size < w2.heap.size) := by have := HS1.out; have := hb2.size; show _ < _; omega
        clear hb2 HIs y0 y1 y2 y3 y4 y5 y6 y7 x0 x1 x2 x3 x4 x5 x6 x7 hw1
        go_wp2
        have Z7 := Lib.hid z7
        clear z7
        go_loopw [9, 27] (fun fv i wi => ∃ j : Nat, fv = .bool false ∧ j ≤ q ∧ i = .int .i64 (j : Int) ∧ Hid (0 < j → eqArg slot first X Z = false) ∧ Hid (1 < j → eqArg slot first Z X = false) ∧ Hid (Below w2.heap.size w2 wi)) (fun _ i _ => q - (intOf i).toNat)
        case atStart => exact ⟨0, rfl, by omega, rfl, fun h => absurd h (by omega), fun h => absurd h (by omega), Below.refl _ _⟩
        case round =>
          obtain ⟨j, rfl, hj, rfl, HJ0, HJ1, HBj⟩ := hrel
          have HBoj := Lib.hid (HB2.out.trans (HBj.out.mono HB2.out.size))
          by_cases hjl : j < q
          · have hq2 := HQ2.out
            have hNy := HNd.out.later HBoj.out
            obtain ⟨x, hx, hAx, b1, o1, hab1, -, hKx⟩ := hNy.kid8 (k := j) (by rw [HQ.out]; exact hjl)
            rw [HYa.out] at hab1
            subst hab1
            have HX3 := Lib.hid (Slot8.new wr 36 (.int .i64 x.t.lab.kd) (.string x.t.lab.op) (.int .u8 x.t.lab.v.k) (.int .i64 x.t.lab.v.n) (.string x.t.lab.v.s) (.int .i64 x.t.lab.sl) (.int .u8 (x.t.lab.ty : Int)) (.slice x.a x.t.args.length x.cap))
            obtain ⟨w3, hw3⟩ : ∃ w3, wr.alloc (.cells #[.int .i64 x.t.lab.kd, .string x.t.lab.op, .int .u8 x.t.lab.v.k, .int .i64 x.t.lab.v.n, .string x.t.lab.v.s, .int .i64 x.t.lab.sl, .int .u8 (x.t.lab.ty : Int), .slice x.a x.t.args.length x.cap] 36) = w3 := ⟨_, rfl⟩
            have hb3 : Below wr.heap.size wr w3 := by rw [← hw3]; exact (Below.refl _ wr).alloc (Nat.le_refl _) _
            have hs3 : w3.heap.size = wr.heap.size + 1 := by rw [← hw3]; simp
            rw [hw3] at HX3
            obtain ⟨j2, hj2⟩ : ∃ j2, 1 - j = j2 := ⟨_, rfl⟩
            obtain ⟨z, hz, hAz, b2, o2, hab2, -, hKz⟩ := (hNy.later hb3).kid8 (k := j2) (by rw [HQ.out]; omega)
            rw [HYa.out] at hab2
            obtain ⟨rfl, rfl⟩ : b1 = b2 ∧ o1 = o2 := by simpa using hab2
            have hxz : (j = 0 ∧ x.t = X ∧ z.t = Z) ∨ (j = 1 ∧ x.t = Z ∧ z.t = X) := by
              have e1 : y.t.args[j]? = some x.t := by rw [hx]; exact List.getElem?_eq_getElem _
              have e2 : y.t.args[j2]? = some z.t := by rw [hz]; exact List.getElem?_eq_getElem _
              rw [HXZ.out] at e1 e2
              rcases (show j = 0 ∨ j = 1 by omega) with h0 | h0
              · left
                subst h0
                subst hj2
                simp at e1 e2
                exact ⟨rfl, e1.symm, e2.symm⟩
              · right
                subst h0
                subst hj2
                simp at e1 e2
                exact ⟨rfl, e1.symm, e2.symm⟩
            have HXz := Lib.hid hxz
            have HX4 := Lib.hid (Slot8.new w3 36 (.int .i64 z.t.lab.kd) (.string z.t.lab.op) (.int .u8 z.t.lab.v.k) (.int .i64 z.t.lab.v.n) (.string z.t.lab.v.s) (.int .i64 z.t.lab.sl) (.int .u8 (z.t.lab.ty : Int)) (.slice z.a z.t.args.length z.cap))
            obtain ⟨w4, hw4⟩ : ∃ w4, w3.alloc (.cells #[.int .i64 z.t.lab.kd, .string z.t.lab.op, .int .u8 z.t.lab.v.k, .int .i64 z.t.lab.v.n, .string z.t.lab.v.s, .int .i64 z.t.lab.sl, .int .u8 (z.t.lab.ty : Int), .slice z.a z.t.args.length z.cap] 36) = w4 := ⟨_, rfl⟩
            have hb4 : Below w3.heap.size w3 w4 := by rw [← hw4]; exact (Below.refl _ w3).alloc (Nat.le_refl _) _
            have hs4 : w4.heap.size = w3.heap.size + 1 := by rw [← hw4]; simp
            rw [hw4] at HX4
            have HX34 := Lib.hid (HX3.out.later (by omega) hb4)
            have HB4 : Hid (Below wr.heap.size wr w4) := hb3.trans (hb4.mono hb3.size)
            have v7 := Z7.out
            have v7a := (HBj.out.cell (p := ⟨wo.heap.size, 7, none⟩) HS2.out).trans v7
            have v7b := (hb3.cell (p := ⟨wo.heap.size, 7, none⟩) (by have := HS2.out; have := HBj.out.size; show wo.heap.size < wr.heap.size; omega)).trans v7a
            have hzc : z.t.count ≤ 1000000 := by
              have h7 := y.t.count_eq
              have h8 : z.t.count ∈ y.t.args.map Rose.count := by rw [hz]; exact List.mem_map_of_mem (List.getElem_mem _)
              have := mem_le_sum h8
              omega
            have hAz4 := hAz.later hb4
            have HIb := Lib.hid (isBelow_any first n z w4 hAz4 hzc)
            have HCl := Lib.hid (fun V (hb : Below w4.heap.size w4 V) => planClone_is n z V (hAz4.later hb) hzc)
            rw [NM.nv_eq] at HCl
            obtain ⟨b1', hb1'⟩ : ∃ b, decide (x.t.lab.kd = 2) = b := ⟨_, rfl⟩
            obtain ⟨b2', hb2'⟩ : ∃ b, decide (x.t.lab.sl = slot) = b := ⟨_, rfl⟩
            have q1 : (x.t.lab.kd == 2) = b1' := by rw [← hb1', Bool.eq_iff_iff]; simp
            have q2 : (x.t.lab.sl == slot) = b2' := by rw [← hb2', Bool.eq_iff_iff]; simp
            have HEa : Hid (eqArg slot first x.t z.t = (b1' && b2' && lowZ first z.t)) := by unfold eqArg; rw [hb1', hb2']; exact rfl
            have hwj : IntKind.i64.wrap (1 - (j : Int)) = (j2 : Int) := by rw [IntWalk.i64_in _ (by omega)]; omega
            have hj2q : j2 < q := by omega
            obtain ⟨y0, y1, y2, y3, y4, y5, y6, y7⟩ := hKx
            obtain ⟨z0, z1, z2, z3, z4, z5, z6, z7⟩ := hKz
            have HBn : Hid (∀ V, Below w4.heap.size w4 V → Below w2.heap.size w2 V) := fun V hV => HBj.out.trans ((HB4.out.trans (hV.mono HB4.out.size)).mono HBj.out.size)
            have HNo : Hid (eqArg slot first x.t z.t = false → (0 < j + 1 → eqArg slot first X Z = false) ∧ (1 < j + 1 → eqArg slot first Z X = false)) := fun hf => by
              rcases HXz.out with ⟨h0, h1, h2⟩ | ⟨h0, h1, h2⟩
              · rw [h1, h2] at hf; exact ⟨fun _ => hf, fun h => absurd h (by omega)⟩
              · rw [h1, h2] at hf; exact ⟨fun _ => HJ0.out (by omega), fun _ => hf⟩
            have HYes : Hid (eqArg slot first x.t z.t = true → eqParts slot first (L.map (·.t)) = some z.t) := fun ht => by
              refine HHit.out _ ?_
              rw [HP.out]
              rcases HXz.out with ⟨h0, h1, h2⟩ | ⟨h0, h1, h2⟩
              · rw [h1, h2] at ht; rw [if_pos ht, h2]
              · rw [h1, h2] at ht; rw [if_neg (by rw [HJ0.out (by omega)]; simp), if_pos ht, h2]
            clear hx hAx hz hAz hab2 hxz hb3 hs3 hb4 hs4 hAz4 hzc hNy hb1' hb2' hj2 hq2 v7
            obtain ⟨p0, p1, p2, p3, p4, p5, p6, p7⟩ := HX34.out
            obtain ⟨r0, r1, r2, r3, r4, r5, r6, r7⟩ := HX4.out
            cases b1' with
            | false =>
              go_wp2
              go_roundw
              case rel =>
                have := HNo.out (by rw [HEa.out]; rfl)
                exact ⟨j + 1, rfl, by omega, by go_num, this.1, this.2, HBn.out _ (Below.refl _ _)⟩
              case measure => simp [intOf]; omega
            | true =>
              cases b2' with
              | false =>
                go_wp2
                go_roundw
                case rel =>
                  have := HNo.out (by rw [HEa.out]; rfl)
                  exact ⟨j + 1, rfl, by omega, by go_num, this.1, this.2, HBn.out _ (Below.refl _ _)⟩
                case measure => simp [intOf]; omega
              | true =>
                obtain ⟨bl, hbl⟩ : ∃ b, lowZ first z.t = b := ⟨_, rfl⟩
                rw [hbl] at HIb HEa
                clear hbl
                go_wp2_with fail
                refine HIb.out.mono ?_
                rintro e w5 ⟨rfl, hb5⟩
                have HB5 := Lib.hid hb5
                have HX5 := Lib.hid (HX4.out.later (N := w4.heap.size) (by have : w3.heap.size < w4.heap.size := by { rw [← hw4]; simp }; omega) hb5)
                clear HIb hb5 p0 p1 p2 p3 p4 p5 p6 p7 r0 r1 r2 r3 r4 r5 r6 r7 y0 y1 y2 y3 y4 y5 y6 y7 z0 z1 z2 z3 z4 z5 z6 z7
                cases bl with
                | false =>
                  go_wp2
                  go_roundw
                  case rel =>
                    have := HNo.out (by rw [HEa.out]; rfl)
                    exact ⟨j + 1, rfl, by omega, by go_num, this.1, this.2, HBn.out _ HB5.out⟩
                  case measure => simp [intOf]; omega
                | true =>
                  have HE : Hid (eqParts slot first (L.map (·.t)) = some z.t) := HYes.out (by rw [HEa.out]; rfl)
                  obtain ⟨r0, r1, r2, r3, r4, r5, r6, r7⟩ := HX5.out
                  go_wp2_with fail
                  refine (HCl.out _ HB5.out).mono ?_
                  rintro e w6 ⟨c, rfl, hct, hcI, hb6⟩
                  have HCt2 := Lib.hid hct
                  have hbo : Below wo.heap.size wo w6 := (HBoj.out.trans (HB4.out.mono HBoj.out.size)).trans ((HB5.out.trans (hb6.mono HB5.out.size)).mono (Nat.le_trans HBoj.out.size HB4.out.size))
                  have hb06 : Below w0.heap.size w0 w6 := HBr.out.trans (hbo.mono HBr.out.size)
                  have hS0 := HS0.out
                  have hs5 : w0.heap.size ≤ w5.heap.size := Nat.le_trans HBr.out.size (Nat.le_trans HBoj.out.size (Nat.le_trans HB4.out.size HB5.out.size))
                  have hR8 : Blk w6 (w.heap.size + 1) 36 zeroNdc := (hb06.block _ (by omega)).trans HR8.out
                  have hR6 : Blk w6 w.heap.size 36 zeroNdc := (hb06.block _ (by omega)).trans HR6.out
                  obtain ⟨cs, hcs⟩ : ∃ cs : Array Value, #[.int .i64 c.t.lab.kd, .string c.t.lab.op, .int .u8 c.t.lab.v.k, .int .i64 c.t.lab.v.n, .string c.t.lab.v.s, .int .i64 c.t.lab.sl, .int .u8 (c.t.lab.ty : Int), .slice c.a c.t.args.length c.cap] = cs := ⟨_, rfl⟩
                  have hcz : cs.size = 8 := by rw [← hcs]; rfl
                  have hc1 : (cs.all fun x => x.oneCell') = true := by rw [← hcs]; simp [Value.oneCell']
                  have hR6' : Blk (w6.setRow (w.heap.size + 1) cs) w.heap.size 36 zeroNdc := (setRow_other _ _ _ _ (by omega)).trans hR6
                  have HS8 := Lib.hid (run_storeVar_row (P := Try.prog) w6 (w.heap.size + 1) 36 36 zeroNdc cs hR8 (by rw [info_ndS, hcz]) (by rw [hcz]; rfl) hc1)
                  have HL8 := Lib.hid (run_loadVar_row (P := Try.prog) _ _ _ 36 _ (0, 0) _ (Blk.setRow (new := cs) hR8) Try.underlying36 rfl (by rw [info_ndS, hcz]))
                  have HS6 := Lib.hid (run_storeVar_row (P := Try.prog) (w6.setRow (w.heap.size + 1) cs) w.heap.size 36 36 zeroNdc cs hR6' (by rw [info_ndS, hcz]) (by rw [hcz]; rfl) hc1)
                  have HL6 := Lib.hid (run_loadVar_row (P := Try.prog) _ _ _ 36 _ (0, 0) _ (Blk.setRow (new := cs) hR6') Try.underlying36 rfl (by rw [info_ndS, hcz]))
                  have hch : Chg [w.heap.size, w.heap.size + 1] w6 ((w6.setRow (w.heap.size + 1) cs).setRow w.heap.size cs) := ((Chg.refl _ w6).setRow (.inl (by simp)) _).setRow (.inl (by simp)) _
                  have HBE : Hid (Below w.heap.size w ((w6.setRow (w.heap.size + 1) cs).setRow w.heap.size cs)) := (HB0.out.trans (hb06.mono HB0.out.size)).trans (hch.below (by have := hb06.size; omega) (by simp))
                  have HIn : Hid (NdIn (fun b => w.heap.size ≤ b ∧ b < ((w6.setRow (w.heap.size + 1) cs).setRow w.heap.size cs).heap.size) ((w6.setRow (w.heap.size + 1) cs).setRow w.heap.size cs) n c) :=
                    (hcI.keep (fun b hb => hch.block b hb.2 (by simp; omega))).imp fun b hb => ⟨by omega, by have := hch.size; omega⟩
                  have HCs := Lib.hid hcs
                  clear hct hcI hb6 hbo hb06 hS0 hs5 hR8 hR6 hR6' hc1 hcz hch HCl HX5 r0 r1 r2 r3 r4 r5 r6 r7
                  rw [hcs]
                  clear hcs
                  go_wp2_with (first | (guard_target =~ wpList _ _ _ (Oper.mk _ (Op.load 36 _) _ _ _ _ :: _) _ _; refine wpList_loadV rfl 36 _ rfl rfl HL8.out ?_) | (guard_target =~ wpList _ _ _ (Oper.mk _ (Op.store 36 _ _) _ _ _ _ :: _) _ _; first | refine wpList_skp rfl (exec_store rfl rfl rfl HS8.out) ?_ | refine wpList_skp rfl (exec_store rfl rfl rfl HS6.out) ?_))
                  try rw [Exit.noGoto_ret]
                  refine bodyPost_ret (results_cell_tmp Try.results43 _ _ rfl rfl HL6.out) rfl ⟨HBE.out, .inr ⟨z.t, c, HE.out, HCt2.out, by rw [HCs.out]; rfl, HIn.out⟩⟩
          · have HN : Hid (eqParts slot first ((L.take (k + 1)).map (·.t)) = none) := by
              have := HQ2.out
              rw [HTk.out, HP.out, if_neg (by rw [HJ0.out (by omega)]; simp), if_neg (by rw [HJ1.out (by omega)]; simp)]; exact rfl
            have HBe : Hid (Below w0.heap.size w0 wr) := HBr.out.trans (HBoj.out.mono HBr.out.size)
            go_wp2
            go_roundw
            case rel => exact ⟨k + 1, rfl, by omega, by go_num, HN.out, HBe.out⟩
            case measure => simp [intOf]; omega
    · have HE : Hid (eqParts slot first (L.map (·.t)) = none) := by
        have := HI.out
        rwa [show k = m by omega, ← HM.out, List.take_length] at this
      have hR8 : Blk wr (w.heap.size + 1) 36 zeroNdc := (HBr.out.block _ (by have := HS0.out; omega)).trans HR8.out
      have hR6 : Blk wr w.heap.size 36 zeroNdc := (HBr.out.block _ (by have := HS0.out; omega)).trans HR6.out
      have HLD := Lib.hid (run_loadVar_row (P := Try.prog) _ _ _ 36 _ (0, 0) _ hR8 Try.underlying36 rfl (by rw [info_ndS]; rfl))
      have HST := Lib.hid (run_storeVar_row (P := Try.prog) wr w.heap.size 36 36 zeroNdc zeroNdc hR6 (by rw [info_ndS]; rfl) rfl (by simp [Value.oneCell']))
      have HLE := Lib.hid (run_loadVar_row (P := Try.prog) _ _ _ 36 _ (0, 0) _ (Blk.setRow (new := zeroNdc) hR6) Try.underlying36 rfl (by rw [info_ndS]; rfl))
      have HBE : Hid (Below w.heap.size w (wr.setRow w.heap.size zeroNdc)) := HBw.out.trans (((Chg.refl _ wr).setRow (.inl (by simp)) _ : Chg [w.heap.size] wr _).below HBw.out.size (by simp))
      clear hR8 hR6
      go_wp2_with (first | (guard_target =~ wpList _ _ _ (Oper.mk _ (Op.load 36 _) _ _ _ _ :: _) _ _; refine wpList_loadV rfl 36 _ rfl rfl HLD.out ?_) | (guard_target =~ wpList _ _ _ (Oper.mk _ (Op.store 36 _ _) _ _ _ _ :: _) _ _; refine wpList_skp rfl (exec_store rfl rfl rfl HST.out) ?_))
      refine bodyPost_ret (results_cell_tmp Try.results43 _ _ rfl rfl HLE.out) rfl ⟨HBE.out, .inl ⟨HE.out, rfl⟩⟩
end Go.Proofs.Ytcepbindmdakkaa

/- A row of nodes of a call's own; plan.equals. -/
set_option linter.unusedSimpArgs false
set_option linter.unusedVariables false
set_option maxRecDepth 100000
namespace Go.Proofs.Ytcepbindmdakkaa
open Go.RowKit

/-- A row of nodes of the call's own, each with arguments in blocks of its own. -/
structure NdsIn (lo : Nat) (W : World) (n : Nat) (cv : Value) (L : List NM) : Prop where
  row : W.ownsRow lo 36 8 cv L.length (cellsNs L)
  kid : ∀ y ∈ L, NdIn (fun b => lo ≤ b ∧ b < W.heap.size ∧ cv.ownBlock ≠ some b) W n y
theorem NdsIn.nil (lo : Nat) (W : World) (n : Nat) : NdsIn lo W n (.slice none 0 0) [] := ⟨World.ownsRow_nil _ _ _ _, fun y hy => by cases hy⟩
theorem NdsIn.keep {lo : Nat} {W W' : World} {n : Nat} {cv : Value} {L : List NM} (h : NdsIn lo W n cv L) (hs : W.heap.size ≤ W'.heap.size) (hk : ∀ b, lo ≤ b → b < W.heap.size → W'.heap[b]? = W.heap[b]?) : NdsIn lo W' n cv L := by
  refine ⟨own_keep h.row fun g hg => hk g (h.row.lt g hg).1 (own_lt h.row hg), fun y hy => ?_⟩
  exact ((h.kid y hy).keep (fun b hb => hk b hb.1 hb.2.1)).imp fun b hb => ⟨hb.1, by omega, hb.2.2⟩
theorem NdsIn.later {lo : Nat} {W W' : World} {n : Nat} {cv : Value} {L : List NM} (h : NdsIn lo W n cv L) (hb : Below W.heap.size W W') : NdsIn lo W' n cv L :=
  h.keep hb.size fun b _ h2 => hb.block b h2
theorem NdsIn.base {lo lo2 : Nat} {W : World} {n : Nat} {cv : Value} {L : List NM} (h : NdsIn lo W n cv L) (hl : lo2 ≤ lo) : NdsIn lo2 W n cv L :=
  ⟨own_basP h.row hl, fun y hy => (h.kid y hy).imp fun b hb => ⟨by omega, hb.2⟩⟩
theorem NdsIn.add {lo : Nat} {W w2 w5 : World} {n : Nat} {cv v5 : Value} {L : List NM} {y : NM} (h : NdsIn lo W n cv L) (hs : W.heap.size ≤ w2.heap.size) (hk : ∀ b, lo ≤ b → b < W.heap.size → w2.heap[b]? = W.heap[b]?) (hlo : lo ≤ W.heap.size)
    (hy : NdIn (fun b => W.heap.size ≤ b ∧ b < w2.heap.size) w2 n y) (hr : w5.ownsRow lo 36 8 v5 (L.length + 1) (cellsNs L ++ cellsNd y)) {o : Obj} (hc : Chg cv.ownBlock.toList (w2.alloc o) w5) (hf : v5.ownBlock = cv.ownBlock ∨ ∀ g, v5.ownBlock = some g → w2.heap.size < g) :
    NdsIn lo w5 n v5 (L ++ [y]) := by
  have hsz := hc.size
  simp at hsz
  have hold : ∀ b, b < w2.heap.size → cv.ownBlock ≠ some b → w5.heap[b]? = w2.heap[b]? := fun b hb hn =>
    (hc.block b (by simp; omega) (by rw [Option.mem_toList]; exact hn)).trans (Below.heap_alloc w2 o b hb)
  have hown : ∀ g, cv.ownBlock = some g → g < W.heap.size := fun g hg => own_lt h.row hg
  refine ⟨by rw [List.length_append, cellsNs_snoc]; exact hr, fun z hz => ?_⟩
  rcases List.mem_append.1 hz with hz | hz
  · have hz2 := h.kid z hz
    refine (hz2.keep (w' := w5) (fun b hb => (hold b (by omega) hb.2.2).trans (hk b hb.1 hb.2.1))).imp fun b hb => ⟨hb.1, by omega, ?_⟩
    rcases hf with hf | hf
    · rw [hf]; exact hb.2.2
    · intro hg; have := hf b hg; omega
  · rw [List.mem_singleton.1 hz]
    refine (hy.keep (w' := w5) (fun b hb => hold b hb.2 (fun hg => by have := hown b hg; omega))).imp fun b hb => ⟨by omega, by omega, ?_⟩
    rcases hf with hf | hf
    · rw [hf]; intro hg; have := hown b hg; omega
    · intro hg; have := hf b hg; omega

/-- A node that a step may hold. -/
def goodN (fr : Int) (t : Nx) : Prop := lowZ fr t = true ∧ t.count ≤ 1000000
theorem eqPart_good {slot fr : Int} {p t : Nx} (h : eqPart slot fr p = some t) (hp : p.count ≤ 1000000) : goodN fr t := by
  unfold eqPart at h
  split at h
  · split at h
    · rename_i hxs
      rename_i x y
      have hx : x.count ≤ 1000000 := by
        have h7 := p.count_eq
        rw [hxs] at h7
        simp at h7; omega
      have hy : y.count ≤ 1000000 := by
        have h7 := p.count_eq
        rw [hxs] at h7
        simp at h7; omega
      split at h
      · rename_i he
        injection h with h
        subst h
        unfold eqArg at he
        simp only [Bool.and_eq_true] at he
        exact ⟨he.2, hy⟩
      · split at h
        · rename_i he
          injection h with h
          subst h
          unfold eqArg at he
          simp only [Bool.and_eq_true] at he
          exact ⟨he.2, hx⟩
        · cases h
    · cases h
  · cases h
theorem eqParts_good {slot fr : Int} {l : List Nx} {t : Nx} (h : eqParts slot fr l = some t) (hl : ∀ p ∈ l, p.count ≤ 1000000) : goodN fr t := by
  unfold eqParts at h
  obtain ⟨p, hp, hpt⟩ := List.exists_of_findSome?_eq_some h
  exact eqPart_good hpt (hl p hp)

/-- What equals hands back. -/
def RetEqs (w : World) (n m : Nat) (fr : Int) (I : List Int) (P : List Nx) (e : Ending) (w' : World) : Prop :=
  Below w.heap.size w w' ∧ ((e = .returned (.tuple #[.slice none 0 0, .bool false]) ∧ ∃ i ∈ I, eqParts (fr + i) fr P = none) ∨
    ∃ (cv : Value) (L : List NM), e = .returned (.tuple #[cv, .bool true]) ∧ NdsIn w.heap.size w' n cv L ∧ L.length = m ∧ ∀ y ∈ L, goodN fr y.t)

abbrev tabCs (x : PTm) : Array Value := #[.int .i64 x.t.fr, .int .i64 x.t.co, .slice x.ka x.t.key.length x.kc, .slice x.ia x.t.idx.length x.ic, .bool x.t.now]

set_option maxHeartbeats 4000000 in
theorem equals_any (x : PTm) (I : List Int) (ia : Option Addr) (ic m : Nat) (n : Nat) (P : List NM) (a : Option Addr) (cap q : Nat) (w : World)
    (hfr : -10000 < x.t.fr ∧ x.t.fr < 10000) (hI : ∀ i ∈ I, 0 ≤ i ∧ i < 10000) (hIa : Arr w.heap.size w ia (rowZ I)) (hm : I.length = m) (hic : m ≤ ic) (hm6 : m ≤ 1000000)
    (hP : NsAt w.heap.size w (n + 1) a cap P) (hq : P.length = q) (hc : ∀ y ∈ P, y.t.count ≤ 1000000) :
    Calls Try.prog 35 #[.agg #[.int .i64 x.t.fr, .int .i64 x.t.co, .slice x.ka x.t.key.length x.kc, .slice x.ia x.t.idx.length x.ic, .bool x.t.now], .slice ia m ic, .slice a q cap] w (RetEqs w n m x.t.fr I (P.map (·.t))) := by
  obtain ⟨i0, hi, hz0, hz1, hz2⟩ := info_parts info_nd
  have HP := Lib.hid hP
  have HIa := Lib.hid hIa
  have HI := Lib.hid hI
  have HM := Lib.hid hm
  have HCt := Lib.hid hc
  obtain ⟨fr, hfr0⟩ : ∃ fr, x.t.fr = fr := ⟨_, rfl⟩
  obtain ⟨w0, hw0⟩ : ∃ w0, w.alloc (.cells (tabCs x) 29) = w0 := ⟨_, rfl⟩
  have HV : Hid (Blk w0 w.heap.size 29 (tabCs x)) := by rw [← hw0]; exact Blk.new w _ _
  have HB0 : Hid (Below w.heap.size w w0) := by rw [← hw0]; exact (Below.refl _ w).alloc (Nat.le_refl _) _
  have HS0 : Hid (w0.heap.size = w.heap.size + 1) := by rw [← hw0]; simp [Hid]
  have HE := Lib.hid (fun (s : Int) (V : World) (hb : Below w.heap.size w V) => equal_any s fr n P a cap q V (hP.later hb) hq hc)
  rw [hfr0] at hfr ⊢
  simp only [tabCs] at hw0
  rw [hfr0] at hw0
  have c0 : w0.cell? ⟨w.heap.size, 0, none⟩ = some (.int .i64 fr) := by rw [← hfr0]; exact (HV.out.cell 0).trans rfl
  have HC0 := Lib.hid c0
  have HEg := Lib.hid (fun (s : Int) (t : Nx) (h : eqParts s fr (P.map (·.t)) = some t) => eqParts_good h (fun p hp => by
    obtain ⟨y, hy, rfl⟩ := List.mem_map.1 hp
    exact hc y hy))
  clear hP hq hc hI hIa hm HV c0 hfr0 HP HCt
  go_enter Try.func35, Try.ntmps35
  go_wp2
  go_loopw [8, 15] (fun v i wr => ∃ (k : Nat) (cv : Value) (L : List NM), cv = v ∧ k ≤ m ∧ i = .int .i64 (k : Int) ∧ Hid (L.length = k) ∧ Hid (∀ y ∈ L, goodN fr y.t) ∧ Hid (NdsIn w0.heap.size wr n cv L) ∧ Hid (Below w0.heap.size w0 wr)) (fun _ i _ => m - (intOf i).toNat)
  case atStart => exact ⟨0, _, [], rfl, by omega, rfl, rfl, (fun y hy => by cases hy), NdsIn.nil _ _ _, Below.refl _ _⟩
  case round =>
    obtain ⟨k, cv, L, rfl, hk, rfl, HLk, HG, HN, HBr⟩ := hrel
    have HBw := Lib.hid (HB0.out.trans (HBr.out.mono HB0.out.size))
    by_cases hlt : k < m
    · have hkl : k < I.length := by rw [HM.out]; exact hlt
      obtain ⟨s, hs⟩ : ∃ s, I[k] = s := ⟨_, rfl⟩
      have hsb := HI.out s (by rw [← hs]; exact List.getElem_mem hkl)
      rcases (HIa.out.later (N := 0) HBw.out) with h0 | ⟨b, o, hab, hbN, hcc⟩
      · have : I = [] := by simpa [rowZ] using h0
        rw [this] at hkl; exact absurd hkl (by simp)
      subst hab
      have y0 : wr.cell? ⟨b, o + k, none⟩ = some (.int .i64 s) := hcc k _ (by simp [rowZ, List.getElem?_eq_getElem hkl, hs])
      have c0 := (HBr.out.cell (p := ⟨w.heap.size, 0, none⟩) (by have := HS0.out; show w.heap.size < w0.heap.size; omega)).trans HC0.out
      have q1 : IntKind.i64.wrap (9223372036854775807 - s) = 9223372036854775807 - s := IntWalk.i64_in _ (by omega)
      have q2 : decide (9223372036854775807 - s < fr) = false := by simp; omega
      have q3 : IntKind.i64.wrap (fr + s) = fr + s := IntWalk.i64_in _ (by omega)
      have HY := Lib.hid (HE.out (fr + s) wr HBw.out)
      have HYg := Lib.hid (HEg.out (fr + s))
      have HMem : Hid (s ∈ I) := by rw [← hs]; exact List.getElem_mem hkl
      clear hs hkl hcc HE HEg HI HIa hbN
      generalize hf1 : 9223372036854775807 - s = f1 at *
      generalize hf2 : fr + s = f2 at *
      go_wp2_with fail
      refine HY.out.mono ?_
      rintro e w2 ⟨hb2, ⟨ho, rfl⟩ | ⟨t, y, ho, hyt, rfl, hyI⟩⟩
      · have HB2 := Lib.hid (HBw.out.trans (hb2.mono HBw.out.size))
        have HNo : Hid (∃ i ∈ I, eqParts (fr + i) fr (P.map (·.t)) = none) := ⟨s, HMem.out, by rw [hf2]; exact ho⟩
        clear hb2 HY y0 c0 q1 q2 q3 hf1 hf2 ho
        go_wp2
        go_ret2
        exact ⟨HB2.out.alloc HB2.out.size _, .inl ⟨rfl, HNo.out⟩⟩
      · have HB2r := Lib.hid hb2
        have HgY : Hid (goodN fr y.t) := by rw [hyt]; exact HYg.out t ho
        have HYI := Lib.hid hyI
        have HX := Lib.hid (Slot8.new w2 36 (.int .i64 y.t.lab.kd) (.string y.t.lab.op) (.int .u8 y.t.lab.v.k) (.int .i64 y.t.lab.v.n) (.string y.t.lab.v.s) (.int .i64 y.t.lab.sl) (.int .u8 (y.t.lab.ty : Int)) (.slice y.a y.t.args.length y.cap))
        obtain ⟨w3, hw3⟩ : ∃ w3, w2.alloc (.cells #[.int .i64 y.t.lab.kd, .string y.t.lab.op, .int .u8 y.t.lab.v.k, .int .i64 y.t.lab.v.n, .string y.t.lab.v.s, .int .i64 y.t.lab.sl, .int .u8 (y.t.lab.ty : Int), .slice y.a y.t.args.length y.cap] 36) = w3 := ⟨_, rfl⟩
        have hb3 : Below w2.heap.size w2 w3 := by rw [← hw3]; exact (Below.refl _ w2).alloc (Nat.le_refl _) _
        rw [hw3] at HX
        have HB3 := Lib.hid hb3
        have hrow3 : w3.ownsRow w0.heap.size 36 8 cv k (cellsNs L) := by
          have h1 := own_below (own_below HN.out.row (Nat.le_refl _) HB2r.out) (Nat.le_refl _) HB3.out
          rw [HLk.out] at h1; exact h1
        have HR3 := Lib.hid hrow3
        have HBs : Hid (w0.heap.size ≤ w3.heap.size) := Nat.le_trans HBr.out.size (Nat.le_trans hb2.size hb3.size)
        obtain ⟨x0, x1, x2, x3, x4, x5, x6, x7⟩ := HX.out
        clear hb2 HY y0 c0 q1 q2 q3 hf1 hf2 hyI hyt ho hb3 hrow3
        go_wp2_with (first | (at_builtin; refine wpList_appF rfl _ _ 23 rfl w0.heap.size 36 i0 (.agg #[.int .i64 0, .string ⟨#[]⟩, .int .u8 0, .int .i64 0, .string ⟨#[]⟩, .int .i64 0, .int .u8 0, .slice none 0 0]) 8 96 1 Try.underlying23 hi hz0 rfl hz1 (by omega) hz2 (by omega) cv k _ (cellsNd y) w3 HR3.out rfl _ rfl rfl (one_Nd y) rfl (by omega) HBs.out ?_; intro v5 w5 hown5 hc5 hsz5 hf5; have HO5 := Lib.hid hown5; have HC5 := Lib.hid hc5; have HF5 := Lib.hid hf5; clear hown5 hc5 hsz5 hf5))
        have HN5 : Hid (NdsIn w0.heap.size w5 n v5 (L ++ [y])) := HN.out.add (Nat.le_trans HB2r.out.size HB3.out.size) (fun b _ hb => (HB3.out.block b (Nat.lt_of_lt_of_le hb HB2r.out.size)).trans (HB2r.out.block b hb)) HBr.out.size
          ((HYI.out.keep (fun b hb => HB3.out.block b hb.2)).imp fun b hb => ⟨hb.1, Nat.lt_of_lt_of_le hb.2 HB3.out.size⟩) (by rw [HLk.out]; exact HO5.out) HC5.out HF5.out
        have HB5 : Hid (Below w0.heap.size w0 w5) := HBr.out.trans (((HB2r.out.trans (HB3.out.mono HB2r.out.size)).mono HBr.out.size).trans (((Below.refl w0.heap.size w3).alloc HBs.out _).trans (HC5.out.below (by have := HBs.out; simp; omega) (fun g hg => (HR3.out.lt g (by simpa using hg)).1))))
        clear x0 x1 x2 x3 x4 x5 x6 x7
        go_roundw
        case rel => exact ⟨k + 1, v5, L ++ [y], rfl, by omega, by go_num, (by show _ = _; simp [HLk.out]), (fun z hz => by rcases List.mem_append.1 hz with hz | hz; exact HG.out z hz; rw [List.mem_singleton.1 hz]; exact HgY.out), HN5.out, HB5.out⟩
        case measure => simp [intOf]; omega
    · have hke : k = m := by omega
      go_wp2
      go_ret2
      exact ⟨HBw.out, .inr ⟨cv, L, rfl, HN.out.base (by have := HS0.out; omega), by rw [HLk.out]; exact hke, HG.out⟩⟩
end Go.Proofs.Ytcepbindmdakkaa

/- An expression that comes in as an argument. -/
set_option linter.unusedSimpArgs false
set_option linter.unusedVariables false
set_option maxRecDepth 100000
namespace Go.Proofs.Ytcepbindmdakkaa
open Go.RowKit Go.ChangeShapes Go.WideShapes Go.Deep Go.Joins

theorem weights_all_mem {H : Type} {P : Program} {e : TypeId} : ∀ {l : List (DataW H)} {d : DataW H}, d ∈ l → ∀ n ∈ d.weights P e, n ∈ DataW.weightsAll P e l
  | [], _, h, _, _ => by cases h
  | y :: r, d, h, n, hn => by
    simp only [DataW.weightsAll, List.mem_append]
    rcases List.mem_cons.1 h with rfl | h
    · exact .inl hn
    · exact .inr (weights_all_mem h n hn)

theorem ListR.of {α β : Type} (R : α → β → Prop) : ∀ (l : List α), (∀ x ∈ l, ∃ y, R x y) → ∃ m : List β, m.length = l.length ∧ ∀ (i : Nat) (x : α), l[i]? = some x → ∃ y, m[i]? = some y ∧ R x y
  | [], _ => ⟨[], rfl, fun i x h => by simp at h⟩
  | a :: r, h => by
    obtain ⟨y, hy⟩ := h a List.mem_cons_self
    obtain ⟨m, hm, hR⟩ := ListR.of R r (fun x hx => h x (List.mem_cons_of_mem _ hx))
    refine ⟨y :: m, by simp [hm], fun i x hi => ?_⟩
    cases i with
    | zero => simp at hi; subst hi; exact ⟨y, rfl, hy⟩
    | succ i => obtain ⟨z, h1, h2⟩ := hR i x (by simpa using hi); exact ⟨z, by simpa using h1, h2⟩

/-- What is asked of the sizes. -/
def Sized {H : Type} (T : TypeId) (d : DataW H) : Prop := ∀ n ∈ d.weights Try.prog T, n ≤ reachBytes

set_option maxRecDepth 100000 in
theorem trod_expr {T S : TypeId} {f0 f1 f2 f3 f4 f5 : Field} (hT : Try.prog.underlying T = some (.struct #[f0, f1, f2, f3, f4, f5])) (hS : Try.prog.underlying S = some (.slice T)) (hC : Try.prog.cellsOf T = 8) (c4 : Try.prog.cellsOf S = 1)
    (e0 : f0.type = 3 ∧ f0.offset = 0) (e1 : f1.type = 34 ∧ f1.offset = 1) (e2 : f2.type = 9 ∧ f2.offset = 4) (e3 : f3.type = 9 ∧ f3.offset = 5) (e4 : f4.type = 9 ∧ f4.offset = 6) (e5 : f5.type = S ∧ f5.offset = 7)
    {H : Type} {enc : TypeId × Value → H} {w : World} : ∀ (fuel : Nat) (cs : List Value) (x : DataW H × List MemPlace), DataW.trod enc Try.prog w 0 (fun _ => true) true fuel T cs = some x → Sized T x.1 →
    ∃ r : XM, cs = cellsX r ∧ XAt w.heap.size w fuel r := by
  intro fuel
  induction fuel using Nat.strongRecOn with
  | ind fuel ih =>
    intro cs x h hsz
    obtain ⟨xs, n, rfl, rfl, hl, hlen, hf⟩ := DataW.trod_struct hT h
    rw [hC] at hl
    match cs, hl with
    | [v0, v1, v2, v3, v4, v5, v6, v7], _ =>
      match xs, hlen with
      | [y0, y1, y2, y3, y4, y5], _ =>
        have c1 : Try.prog.cellsOf 3 = 1 := by kernel_rfl
        have c2 : Try.prog.cellsOf 34 = 3 := by kernel_rfl
        have c3 : Try.prog.cellsOf 9 = 1 := by kernel_rfl
        have g0 : DataW.trod enc Try.prog w 0 (fun _ => true) true n 3 [v0] = some y0 := by have := hf 0 f0 rfl; rw [e0.1, e0.2, c1] at this; exact this
        have g1 : DataW.trod enc Try.prog w 0 (fun _ => true) true n 34 [v1, v2, v3] = some y1 := by have := hf 1 f1 rfl; rw [e1.1, e1.2, c2] at this; exact this
        have g2 : DataW.trod enc Try.prog w 0 (fun _ => true) true n 9 [v4] = some y2 := by have := hf 2 f2 rfl; rw [e2.1, e2.2, c3] at this; exact this
        have g3 : DataW.trod enc Try.prog w 0 (fun _ => true) true n 9 [v5] = some y3 := by have := hf 3 f3 rfl; rw [e3.1, e3.2, c3] at this; exact this
        have g4 : DataW.trod enc Try.prog w 0 (fun _ => true) true n 9 [v6] = some y4 := by have := hf 4 f4 rfl; rw [e4.1, e4.2, c3] at this; exact this
        have g5 : DataW.trod enc Try.prog w 0 (fun _ => true) true n S [v7] = some y5 := by have := hf 5 f5 rfl; rw [e5.1, e5.2, c4] at this; exact this
        obtain ⟨z0, q0, p0, w0⟩ := DataW.trod_int Try.underlying3 g0
        obtain ⟨u0, u1, u2, n1, rfl, _, k0, k1, k2⟩ := trod_struct3 Try.underlying34 g1
        have m0 : DataW.trod enc Try.prog w 0 (fun _ => true) true n1 5 [v1] = some u0 := k0
        have m1 : DataW.trod enc Try.prog w 0 (fun _ => true) true n1 2 [v2] = some u1 := k1
        have m2 : DataW.trod enc Try.prog w 0 (fun _ => true) true n1 9 [v3] = some u2 := k2
        obtain ⟨b0, q1, p1, w1⟩ := DataW.trod_int Try.underlying5 m0
        obtain ⟨b1, q2, p2, w2⟩ := DataW.trod_int Try.underlying2 m1
        obtain ⟨s3, q3, p3, w3⟩ := DataW.trod_string Try.underlying9 m2
        obtain ⟨s4, q4, p4, w4⟩ := DataW.trod_string Try.underlying9 g2
        obtain ⟨s5, q5, p5, w5⟩ := DataW.trod_string Try.underlying9 g3
        obtain ⟨s6, q6, p6, w6⟩ := DataW.trod_string Try.underlying9 g4
        simp only [List.cons.injEq, and_true] at q0 q1 q2 q3 q4 q5 q6
        subst q0 q1 q2 q3 q4 q5 q6
        obtain ⟨kk, rfl, hkk⟩ := nat_u8 w1
        have hW : ∀ m, (m ∈ (u2.1).weights Try.prog 9 ∨ m ∈ y2.1.weights Try.prog 9 ∨ m ∈ y3.1.weights Try.prog 9 ∨ m ∈ y4.1.weights Try.prog 9 ∨ m ∈ y5.1.weights Try.prog S) → m ≤ reachBytes := by
          intro m hm
          refine hsz m ?_
          simp only [DataW.weights, hT, List.map_cons, List.map_nil, DataW.weightsEach, e0.1, e1.1, e2.1, e3.1, e4.1, e5.1, List.mem_append, Try.underlying34]
          simp
          rcases hm with h | h | h | h | h <;> simp [h]
        have B3 : s3.size ≤ 140737488351232 := by have := hW s3.data.toList.length (by rw [p3]; simp [DataW.weights]); unfold reachBytes at this; simpa using this
        have B4 : s4.size ≤ 140737488351232 := by have := hW s4.data.toList.length (by rw [p4]; simp [DataW.weights]); unfold reachBytes at this; simpa using this
        have B5 : s5.size ≤ 140737488351232 := by have := hW s5.data.toList.length (by rw [p5]; simp [DataW.weights]); unfold reachBytes at this; simpa using this
        have B6 : s6.size ≤ 140737488351232 := by have := hW s6.data.toList.length (by rw [p6]; simp [DataW.weights]); unfold reachBytes at this; simpa using this
        have HL : Lb.fair ⟨z0, ⟨kk, b1, s3⟩, s4, s5, s6⟩ := ⟨bd_i64 w0, hkk, bd_i64 w2, B3, B4, B5, B6⟩
        rcases DataW.trod_slice hS g5 with ⟨hcs, _⟩ | ⟨a, len, cap, elems, rest, n2, hn, hcs, hy5, hb, hlc, hcm, hel, hel2, -, -⟩
        · simp only [List.cons.injEq, and_true] at hcs
          subst hcs
          exact ⟨⟨.mk ⟨z0, ⟨kk, b1, s3⟩, s4, s5, s6⟩ [], none, 0⟩, rfl, HL, Nat.le_refl _, by simp, [], rfl, .inl rfl, fun y hy => by cases hy⟩
        · simp only [List.cons.injEq, and_true] at hcs
          subst hcs hn
          have hkid : ∀ i : Fin len, ∃ r : XM, XAt w.heap.size w n2 r ∧ ∀ (j : Nat) (v : Value), (cellsX r)[j]? = some v → w.cell? ((a.add (i.1 * 8)).add j) = some v := by
            intro i
            have hi := hel2 i.1 i.2
            rw [hC] at hi
            have hil : i.1 < elems.length := by rw [hel]; exact i.2
            rw [List.getElem?_eq_getElem hil] at hi
            obtain ⟨cs', hc', ht'⟩ := Option.bind_eq_some_iff.1 hi
            obtain ⟨_, hlen, hat⟩ := World.cells?_some hc'
            obtain ⟨r, rfl, hr⟩ := ih n2 (by omega) cs' _ ht' (fun m hm => hW m (.inr (.inr (.inr (.inr (by
              rw [hy5]
              simp only [DataW.weights, hS, List.mem_cons, List.mem_append]
              exact .inr (.inl (weights_all_mem (List.mem_map.2 ⟨_, List.getElem_mem hil, rfl⟩) m hm))))))))
            exact ⟨r, hr, fun j v hj => by rw [hat j (by have h9 := (List.getElem?_eq_some_iff.1 hj).1; rw [cellsX_len] at h9; exact h9)]; exact hj⟩
          obtain ⟨L, h1, h2, h3⟩ := row_of cellsX 8 (by omega) cellsX_len (fun r => XAt w.heap.size w n2 r) w a len hkid
          unfold maxLen at hcm
          refine ⟨⟨.mk ⟨z0, ⟨kk, b1, s3⟩, s4, s5, s6⟩ (L.map (·.t)), some a, cap⟩, ?_, HL, ?_, by simp only; omega, L, rfl, h2, fun y hy => RoseAt.up (h3 y hy)⟩
          · subst h1; simp [cellsX, cellsR, Lb.cells, Rose.lab, Rose.args]
          · simp [Rose.args]; omega

end Go.Proofs.Ytcepbindmdakkaa
