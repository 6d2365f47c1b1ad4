/- Several texts of one proof, one behind the other. -/
import Derived.Test.YtlcphgomhhejbaaNPk26
set_option linter.unusedSimpArgs false
set_option linter.unusedVariables false

/- A region that draws its order, walked along a tree of orders: as Ord's, but where two operations may come up at once both ways are walked. -/
namespace Go.Proofs.Ytlcphgomhhejbaa
open Go.RowKit

theorem undrewL {a w : World} (h : Later a.drew w) : Later a w := ⟨h.os, h.tape, h.output, h.size, h.block⟩

/-- A tree of orders. -/
inductive OT where
  | nil : OT
  | free : Nat → OT → OT
  | one : Nat → OT → OT
  | two : Nat → Nat → OT → OT → OT

section
variable {P : Program} {ops : Array Oper} {Q : Exit → Act → World → Prop} {md : Region.Mode}

def wpT (P : Program) (ops : Array Oper) (Q : Exit → Act → World → Prop) (L : World → World → Prop) : OT → Act → World → Prop
  | .nil, a, w => Q .normal a w
  | .free i r, a, w => ∃ o v, ops[i]? = some o ∧ YieldsIf P ops (L w) o v a ∧ wpT P ops Q L r (a.put o.dst v) w
  | .one i r, a, w => wpOp P ops Q i (fun a' w' => L w w' ∧ wpT P ops Q L r a' w') a w
  | .two i j r s, a, w => wpOp P ops Q i (fun a' w' => L w w' ∧ wpT P ops Q L r a' w') a w ∧ wpOp P ops Q j (fun a' w' => L w w' ∧ wpT P ops Q L s a' w') a w

def OT.high : OT → Nat
  | .nil => 0
  | .free _ r => r.high + 1
  | .one _ r => r.high + 1
  | .two _ _ r s => max r.high s.high + 1

def checkT (md : Region.Mode) (ops : Array Oper) : OT → Array Bool → Bool
  | .nil, l => Region.ready md ops l == []
  | .free i r, l => Region.free md ops l i && (Region.ready md ops l).contains i && checkT md ops r (l.setIfInBounds i true)
  | .one i r, l => Region.ready md ops l == [i] && checkT md ops r (l.setIfInBounds i true)
  | .two i j r s, l => Region.ready md ops l == [i, j] && checkT md ops r (l.setIfInBounds i true) && checkT md ops s (l.setIfInBounds j true)

theorem wpT_sound {L : World → World → Prop} (Lr : ∀ w, L w w) (Lt : ∀ {a b c}, L a b → L b c → L a c) (hs : Region.noSelect ops = true) (hQ : ∀ c (a : Act) d v w, Q (.panic c) (a.put d v) w → Q (.panic c) a w) :
    ∀ (t : OT) (fuel : Nat) (listed : Array Bool) (a : Act) (w : World), t.high ≤ fuel → checkT md ops t listed = true → wpT P ops Q L t a w → wpAnyH P md ops Q (L w) fuel listed a w
  | .nil, fuel, listed, a, w, _, hc, h => wpAnyH_done (by simpa [checkT] using hc) h fuel
  | .free i r, fuel, listed, a, w, hf, hc, h => by
    obtain ⟨o, v, ho, hy, h⟩ := h
    simp only [checkT, Bool.and_eq_true] at hc
    cases fuel with
    | zero => simp [OT.high] at hf
    | succ fuel =>
      exact wpAnyH_take ho hs hc.1.1 hc.1.2 (fun c a w => hQ c a o.dst v w) hy (Lr w) (wpT_sound Lr Lt hs hQ r fuel _ _ w (by simpa [OT.high] using hf) hc.2 h)
  | .one i r, fuel, listed, a, w, hf, hc, h => by
    simp only [checkT, Bool.and_eq_true, beq_iff_eq] at hc
    cases fuel with
    | zero => simp [OT.high] at hf
    | succ fuel =>
      refine wpAnyH_all (rs := [i]) hc.1 (by simp) ?_
      intro j hj
      rw [List.mem_singleton.1 hj]
      exact wpOp_mono (fun a' w' h' => ⟨h'.1, wpAnyH_stronger (fun x hx => Lt h'.1 hx) fuel _ _ _ (wpT_sound Lr Lt hs hQ r fuel _ a' w' (by simpa [OT.high] using hf) hc.2 h'.2)⟩) h
  | .two i j r s, fuel, listed, a, w, hf, hc, h => by
    simp only [checkT, Bool.and_eq_true, beq_iff_eq] at hc
    cases fuel with
    | zero => simp [OT.high] at hf
    | succ fuel =>
      refine wpAnyH_all (rs := [i, j]) hc.1.1 (by simp) ?_
      have hf1 : r.high ≤ fuel ∧ s.high ≤ fuel := by simp [OT.high] at hf; omega
      intro k hk
      rcases List.mem_cons.1 hk with hk | hk
      · rw [hk]
        exact wpOp_mono (fun a' w' h' => ⟨h'.1, wpAnyH_stronger (fun x hx => Lt h'.1 hx) fuel _ _ _ (wpT_sound Lr Lt hs hQ r fuel _ a' w' hf1.1 hc.1.2 h'.2)⟩) h.1
      · rw [List.mem_singleton.1 hk]
        exact wpOp_mono (fun a' w' h' => ⟨h'.1, wpAnyH_stronger (fun x hx => Lt h'.1 hx) fuel _ _ _ (wpT_sound Lr Lt hs hQ s fuel _ a' w' hf1.2 hc.2 h'.2)⟩) h.2

/-- The beginning, where blocks S may be written. -/
theorem wp_region_tree {id : Nat} {a : Act} {w : World} (S : List Nat) (t : OT) (hm : P.follows .mixedOrders = true) (hs : Region.noSelect ops = true)
    (hl : decide (t.high ≤ ops.size) = true) (hc : checkT .any ops t (Array.replicate ops.size false) = true) (h : wpT P ops (NoPanic Q) (Chg S) t a w.drew) : (Code.region id ops true).wp P Q a w :=
  wp_region_noPanic (wp_region_held hm (wpT_sound (Chg.refl S) Chg.trans hs (NoPanic.put Q) t ops.size _ a w.drew (of_decide_eq_true hl) hc h))

variable {L : World → World → Prop}
theorem wpT_nil {a : Act} {w : World} (h : Q .normal a w) : wpT P ops (NoPanic Q) L .nil a w := h
theorem wpT_F {i : Nat} {r : OT} {a : Act} {w : World} {o : Oper} {v : Value} (ho : nth ops.toList i = some o) (hw : Region.wanted o (yielded ops a.tmps) = true)
    (hv : ∀ w', L w w' → (execOp a.eval o).run P w' = .ok (.value v) w') (h : wpT P ops Q L r (a.put o.dst v) w) : wpT P ops Q L (.free i r) a w :=
  ⟨o, v, nth_ops ho, .inl ⟨hw, hv⟩, h⟩
theorem wpT_G {i : Nat} {r : OT} {a : Act} {w : World} {o : Oper} (ho : nth ops.toList i = some o) (hw : Region.wanted o (yielded ops a.tmps) = false)
    (h : wpT P ops Q L r (a.put o.dst undef) w) : wpT P ops Q L (.free i r) a w :=
  ⟨o, undef, nth_ops ho, .inr ⟨hw, rfl⟩, h⟩
theorem wpT_skip (Lr : ∀ w, L w w) {i : Nat} {r : OT} {a : Act} {w : World} {o : Oper} (ho : nth ops.toList i = some o) (hw : Region.wanted o (yielded ops a.tmps) = false)
    (h : wpT P ops Q L r (a.put o.dst undef) w) : wpT P ops Q L (.one i r) a w := by
  show wpOp P ops Q i _ a w
  unfold wpOp
  simp only [nth_ops ho, hw]
  exact ⟨Lr w, h⟩
theorem wpT_C {i : Nat} {r : OT} {a : Act} {w : World} {o : Oper} (ho : nth ops.toList i = some o) (hw : Region.wanted o (yielded ops a.tmps) = true)
    (h : o.wp P a w (fun a' w' => L w w' ∧ wpT P ops Q L r a' w') Q) : wpT P ops Q L (.one i r) a w := by
  show wpOp P ops Q i _ a w
  unfold wpOp
  simp only [nth_ops ho, hw]
  exact .inl h
theorem wpT_two {i j : Nat} {r s : OT} {a : Act} {w : World} (h1 : wpT P ops Q L (.one i r) a w) (h2 : wpT P ops Q L (.one j s) a w) : wpT P ops Q L (.two i j r s) a w := ⟨h1, h2⟩
end
attribute [irreducible] wpT
end Go.Proofs.Ytlcphgomhhejbaa

/- The walk of the law NodeParts. (Made by wip/gen/gennp.py.) -/
namespace Go.Proofs.Ytlcphgomhhejbaa
open Go.RowKit

/-- The law's node and both halves, where they lie. -/
structure PX (w : World) (lf : Bool) (m : NB) (n a b : Nd) (ma mb : NB) (ga : Nat) (W : World) : Prop where
  n0 : Blk W w.heap.size 26 #[.bool lf, .slice m.ka m.kl m.kc, .slice m.ca m.cl m.cc, .slice m.da m.dl m.dc]
  a0 : Blk W ga 26 #[.bool a.leaf, .slice ma.ka ma.kl ma.kc, .slice ma.ca ma.cl ma.cc, .slice ma.da ma.dl ma.dc]
  b0 : Blk W (ga + 1) 26 #[.bool b.leaf, .slice mb.ka mb.kl mb.kc, .slice mb.ca mb.cl mb.cc, .slice mb.da mb.dl mb.dc]
  nn : NAt W n m
  na : NAt W a ma
  nb : NAt W b mb
  bel : Below w.heap.size w W
theorem PX.go {w : World} {lf : Bool} {m : NB} {n a b : Nd} {ma mb : NB} {ga : Nat} {W W' : World} (h : PX w lf m n a b ma mb ga W) (hb : Below W.heap.size W W') : PX w lf m n a b ma mb ga W' :=
  ⟨h.n0.bel hb h.n0.lt, h.a0.bel hb h.a0.lt, h.b0.bel hb h.b0.lt, h.nn.later hb, h.na.later hb, h.nb.later hb, h.bel.trans (hb.mono h.bel.size)⟩
theorem cellsS_app (l m : List ByteArray) : cellsS (l ++ m) = cellsS l ++ cellsS m := by simp [cellsS, cellsOf]
theorem cellsC_app (l m : List Cl) : cellsC (l ++ m) = cellsC l ++ cellsC m := by simp [cellsC, cellsOf]
theorem cellsI_app (l m : List Int) : cellsI (l ++ m) = cellsI l ++ cellsI m := by simp [cellsI, cellsOf]
set_option maxRecDepth 100000 in
set_option maxHeartbeats 16000000 in
theorem nodeParts_walk (n : Nd) (m : NB) (at_ : Int) (w : World) (hin : NIn w n m) (hat : (Lit.int .i64 at_).wf = true) :
    Calls Try.prog 7 #[m.v n.leaf, .int .i64 at_] w fun e w' => e = .returned (.bool true) ∧ Below w.heap.size w w' := by
  obtain ⟨iS, hiS, hzS, hsS, hbS⟩ := info_parts info_str
  obtain ⟨iC, hiC, hzC, hsC, hbC⟩ := info_parts info_cell
  obtain ⟨iI, hiI, hzI, hsI, hbI⟩ := info_parts info_int
  have hbx := Below.box w (.cells #[.bool n.leaf, .slice m.ka m.kl m.kc, .slice m.ca m.cl m.cc, .slice m.da m.dl m.dc] 26)
  have HGr := Lib.hid (NGreat_any n m _ (hin.later hbx))
  have HAl := Lib.hid alive_any10
  have HIn := Lib.hid hin
  have HBx := Lib.hid hbx
  have HBlk0 := Lib.hid (Blk.new w 26 #[.bool n.leaf, .slice m.ka m.kl m.kc, .slice m.ca m.cl m.cc, .slice m.da m.dl m.dc])
  obtain ⟨lf, hlf⟩ : ∃ lf, n.leaf = lf := ⟨_, rfl⟩
  rw [hlf] at HGr HBx HBlk0 ⊢
  have HLf := Lib.hid hlf
  have HAt := Lib.hid hat
  clear hin hbx hlf hat
  obtain ⟨ka, kl, kc, ca, cl, cc, da, dl, dc⟩ := m
  simp only at *
  go_enter Try.func7, Try.ntmps7
  go_wp2_with fail
  refine HGr.out.mono ?_
  rintro e w1 ⟨r, rfl, hfit, hb1⟩
  have L01 : Later _ w1 := hb1
  have HB1 : Hid (Below w.heap.size w w1) := HBx.out.trans (Below.mono L01 HBx.out.size)
  cases r with
  | true =>
    clear hfit hb1 L01
    go_wp2_with fail
    refine (HAl.out _).mono ?_
    rintro e w2 ⟨rfl, hb2⟩
    go_wp2
    go_ret
    exact ⟨rfl, HB1.out.trans (Below.mono hb2 HB1.out.size)⟩
  | false =>
    have HF := Lib.hid (hfit rfl)
    have HNA := Lib.hid (HIn.out.at_ HF.out)
    have HBk1 : Hid (Blk w1 w.heap.size 26 #[.bool lf, .slice ka kl kc, .slice ca cl cc, .slice da dl dc]) := HBlk0.out.bel L01 HBlk0.out.lt
    have hkl : kl ≤ 60 := by have := HF.out.kn; have := HNA.out.hk; simp only at this; omega
    have hcl : cl ≤ 60 := by have := HF.out.cn; have := HNA.out.hc; simp only at this; omega
    have hdl : dl ≤ 80 := by have := HF.out.dn; have := HNA.out.hd; simp only at this; omega
    have HAn1 := Lib.hid (HNA.out.later HB1.out)
    have HRt := NRight_any n ⟨ka, kl, kc, ca, cl, cc, da, dl, dc⟩ w1 HAn1.out
    rw [HLf.out] at HRt
    have HRt := Lib.hid HRt
    clear hfit hb1 L01
    have n0 : w1.cell? ⟨w.heap.size, 0, none⟩ = some (.bool lf) := Blk.cell HBk1.out 0
    have n1 : w1.cell? ⟨w.heap.size, 1, none⟩ = some (.slice ka kl kc) := Blk.cell HBk1.out 1
    have n2 : w1.cell? ⟨w.heap.size, 2, none⟩ = some (.slice ca cl cc) := Blk.cell HBk1.out 2
    have n3 : w1.cell? ⟨w.heap.size, 3, none⟩ = some (.slice da dl dc) := Blk.cell HBk1.out 3
    have nlt : w.heap.size < w1.heap.size := Blk.lt HBk1.out
    go_wp2_with fail
    refine HRt.out.mono ?_
    rintro e w2 ⟨rfl, L12⟩
    replace L12 : Later w1 w2 := L12
    have HB2 : Hid (Below w.heap.size w w2) := HB1.out.trans (Below.mono L12 HB1.out.size)
    have HBk2 := Lib.hid (HBk1.out.bel L12 HBk1.out.lt)
    have HAn2 := Lib.hid (HAn1.out.later L12)
    obtain ⟨ok, hok⟩ : ∃ ok, n.ok = ok := ⟨_, rfl⟩
    rw [hok]
    clear L12 HRt
    clear n0 n1 n2 n3 nlt
    cases ok with
    | false =>
      clear hok
      go_wp2_with fail
      refine (HAl.out _).mono ?_
      rintro e w3 ⟨rfl, hb3⟩
      go_wp2
      go_ret
      exact ⟨rfl, HB2.out.trans (Below.mono hb3 HB2.out.size)⟩
    | true =>
      have HOk := Lib.hid (Nd.ok_true hok)
      clear hok
      have HHv := NHalve_any n ⟨ka, kl, kc, ca, cl, cc, da, dl, dc⟩ _ HAn2.out (by simp only; omega)
      rw [HLf.out] at HHv
      have HHv := Lib.hid HHv
      have n0 : w2.cell? ⟨w.heap.size, 0, none⟩ = some (.bool lf) := Blk.cell HBk2.out 0
      have n1 : w2.cell? ⟨w.heap.size, 1, none⟩ = some (.slice ka kl kc) := Blk.cell HBk2.out 1
      have n2 : w2.cell? ⟨w.heap.size, 2, none⟩ = some (.slice ca cl cc) := Blk.cell HBk2.out 2
      have n3 : w2.cell? ⟨w.heap.size, 3, none⟩ = some (.slice da dl dc) := Blk.cell HBk2.out 3
      have nlt : w.heap.size < w2.heap.size := Blk.lt HBk2.out
      go_wp2_with fail
      refine HHv.out.mono ?_
      rintro e w3 ⟨a, b, k, ma, mb, rfl, hH, hNa, hNb, L23⟩
      clear n0 n1 n2 n3 nlt
      have LA : Later w3 ((w3.alloc (.cells #[.bool a.leaf, .slice ma.ka ma.kl ma.kc, .slice ma.ca ma.cl ma.cc, .slice ma.da ma.dl ma.dc] 26)).alloc (.cells #[.bool b.leaf, .slice mb.ka mb.kl mb.kc, .slice mb.ca mb.cl mb.cc, .slice mb.da mb.dl mb.dc] 26)) := ((Below.refl _ w3).alloc (Nat.le_refl _) _).alloc (by simp) _
      have HB3 : Hid (Below w.heap.size w w3) := HB2.out.trans (Below.mono L23 HB2.out.size)
      have HBb3 : Hid (Blk ((w3.alloc (.cells #[.bool a.leaf, .slice ma.ka ma.kl ma.kc, .slice ma.ca ma.cl ma.cc, .slice ma.da ma.dl ma.dc] 26)).alloc (.cells #[.bool b.leaf, .slice mb.ka mb.kl mb.kc, .slice mb.ca mb.cl mb.cc, .slice mb.da mb.dl mb.dc] 26)) (w3.heap.size + 1) 26 #[.bool b.leaf, .slice mb.ka mb.kl mb.kc, .slice mb.ca mb.cl mb.cc, .slice mb.da mb.dl mb.dc]) := by
        have h1 := Blk.new (w3.alloc (.cells #[.bool a.leaf, .slice ma.ka ma.kl ma.kc, .slice ma.ca ma.cl ma.cc, .slice ma.da ma.dl ma.dc] 26)) 26 #[.bool b.leaf, .slice mb.ka mb.kl mb.kc, .slice mb.ca mb.cl mb.cc, .slice mb.da mb.dl mb.dc]
        rw [show (w3.alloc (.cells #[.bool a.leaf, .slice ma.ka ma.kl ma.kc, .slice ma.ca ma.cl ma.cc, .slice ma.da ma.dl ma.dc] 26)).heap.size = w3.heap.size + 1 by simp] at h1
        exact h1
      have HP : Hid (PX w lf ⟨ka, kl, kc, ca, cl, cc, da, dl, dc⟩ n a b ma mb w3.heap.size ((w3.alloc (.cells #[.bool a.leaf, .slice ma.ka ma.kl ma.kc, .slice ma.ca ma.cl ma.cc, .slice ma.da ma.dl ma.dc] 26)).alloc (.cells #[.bool b.leaf, .slice mb.ka mb.kl mb.kc, .slice mb.ca mb.cl mb.cc, .slice mb.da mb.dl mb.dc] 26))) :=
        ⟨(HBk2.out.bel L23 HBk2.out.lt).bel LA (HBk2.out.bel L23 HBk2.out.lt).lt, (Blk.new w3 26 #[.bool a.leaf, .slice ma.ka ma.kl ma.kc, .slice ma.ca ma.cl ma.cc, .slice ma.da ma.dl ma.dc]).alloc (.cells #[.bool b.leaf, .slice mb.ka mb.kl mb.kc, .slice mb.ca mb.cl mb.cc, .slice mb.da mb.dl mb.dc] 26), HBb3.out, (HAn2.out.later L23).later LA, hNa.later LA, hNb.later LA, HB3.out.trans (Below.mono LA HB3.out.size)⟩
      have HH := Lib.hid hH
      have HKL : Hid (kl = n.keys.length) := HNA.out.hk
      have HCL : Hid (cl = n.cells.length) := HNA.out.hc
      have HDL : Hid (dl = n.kids.length) := HNA.out.hd
      clear hH hNa hNb L23 LA HHv HB3 HBb3 HBk2 HAn2 HBk1 HAn1 HB1 HB2 HBlk0 HBx HGr HIn
      go_upto_region 4 with (fail)
      obtain ⟨W3, hW3⟩ : ∃ W3, ((w3.alloc (.cells #[.bool a.leaf, .slice ma.ka ma.kl ma.kc, .slice ma.ca ma.cl ma.cc, .slice ma.da ma.dl ma.dc] 26)).alloc (.cells #[.bool b.leaf, .slice mb.ka mb.kl mb.kc, .slice mb.ca mb.cl mb.cc, .slice mb.da mb.dl mb.dc] 26)) = W3 := ⟨_, rfl⟩
      rw [hW3] at HP
      rw [hW3]
      clear hW3
      generalize w3.heap.size = ga at *
      have a0 : W3.cell? ⟨ga, 0, none⟩ = some (.bool a.leaf) := Blk.cell HP.out.a0 0
      have a1 : W3.cell? ⟨ga, 1, none⟩ = some (.slice ma.ka ma.kl ma.kc) := Blk.cell HP.out.a0 1
      have a2 : W3.cell? ⟨ga, 2, none⟩ = some (.slice ma.ca ma.cl ma.cc) := Blk.cell HP.out.a0 2
      have a3 : W3.cell? ⟨ga, 3, none⟩ = some (.slice ma.da ma.dl ma.dc) := Blk.cell HP.out.a0 3
      have alt : ga < W3.heap.size := Blk.lt HP.out.a0
      rcases HH.out with ⟨hno, rfl, rfl, rfl⟩ | ⟨_, hge, i, hsh, ha, hki, hb⟩
      · have hm0 : ma.kl = 0 := by have := HP.out.na.hk; simpa [zeroN] using this
        obtain ⟨mka, mkl, mkc, mca, mcl, mcc, mda, mdl, mdc⟩ := ma
        simp only at hm0
        subst hm0
        have hno2 : ¬ 2 + movedN n ≤ kl := by intro h; exact hno ⟨HOk.out, by rw [← HKL.out]; exact h⟩
        clear hno HH
        go_wp2_with fail
        clear a0 a1 a2 a3 alt
        refine (HAl.out _).mono ?_
        rintro e w4 ⟨rfl, hb4⟩
        replace HP := Lib.hid (HP.out.go hb4)
        clear hb4
        have n0 : w4.cell? ⟨w.heap.size, 0, none⟩ = some (.bool lf) := Blk.cell HP.out.n0 0
        have n1 : w4.cell? ⟨w.heap.size, 1, none⟩ = some (.slice ka kl kc) := Blk.cell HP.out.n0 1
        have n2 : w4.cell? ⟨w.heap.size, 2, none⟩ = some (.slice ca cl cc) := Blk.cell HP.out.n0 2
        have n3 : w4.cell? ⟨w.heap.size, 3, none⟩ = some (.slice da dl dc) := Blk.cell HP.out.n0 3
        have nlt : w.heap.size < w4.heap.size := Blk.lt HP.out.n0
        by_cases h2 : kl < 2
        · have q2 : decide ((kl : Int) < 2) = true := by simp; omega
          have q2n : decide (kl < 2) = true := by simpa using h2
          go_wp2
          go_ret
          exact ⟨rfl, HP.out.bel⟩
        · have q2 : decide ((kl : Int) < 2) = false := by simp; omega
          have q2n : decide (kl < 2) = false := by simpa using h2
          cases lf with
          | true => exact absurd (by rw [moved_leaf HLf.out]; omega) hno2
          | false =>
            rw [moved_inner HLf.out] at hno2
            have q3 : decide ((kl : Int) < 3) = true := by simp; omega
            have q3n : decide (kl < 3) = true := by simp; omega
            clear h2
            go_wp2
            go_ret
            exact ⟨rfl, HP.out.bel⟩
      · have hbd := hsh.bd
        have HHa : Hid (ma.kl = i) := by
          show _ = _
          have := HP.out.na.hk
          rw [this, ha, partN_keys2, List.length_take, List.drop_zero]
          omega
        have hi0 : ((ma.kl : Int) == 0) = false := by have := HHa.out; simp; omega
        have hi1 : (ma.kl == 0) = false := by have := HHa.out; simp; omega
        clear a0 a1 a2 a3 alt
        have hal : a.leaf = lf := by rw [ha, partN_leaf]; exact HLf.out
        have hbl : b.leaf = lf := by rw [hb, partN_leaf]; exact HLf.out
        have HAl2 := Lib.hid hal
        have HBl2 := Lib.hid hbl
        have HAok : Hid (a.ok = true) := Nd.ok_eq (b := true) ⟨fun _ => rfl, fun _ => by rw [ha]; exact partN_ok HOk.out (by omega) (by omega)⟩
        have hmv : movedN n ≤ 1 := by unfold movedN; split <;> omega
        have HBok : Hid (b.ok = true) := Nd.ok_eq (b := true) ⟨fun _ => rfl, fun _ => by rw [hb]; exact partN_ok HOk.out (by omega) (Nat.le_refl _)⟩
        have hwh := parts_whole HOk.out (i := i) (k := k) (by omega) hki
        rw [← ha, ← hb, HLf.out] at hwh
        have HWh := Lib.hid hwh
        have HSh := Lib.hid hsh
        have HKi := Lib.hid hki
        have HGe := Lib.hid hge
        have HA := Lib.hid ha
        have HB := Lib.hid hb
        have hi1 : 1 ≤ i := hbd.1
        have HI2 : Hid (i ≤ n.keys.length - 1 - movedN n) := hbd.2
        clear hal hbl hmv hwh hsh hki hge ha hb hbd HH
        have HRa := NRight_any a ma W3 HP.out.na
        rw [HAl2.out] at HRa
        have HRa := Lib.hid HRa
        have a0 : W3.cell? ⟨ga, 0, none⟩ = some (.bool lf) := by rw [← HAl2.out]; exact Blk.cell HP.out.a0 0
        have a1 : W3.cell? ⟨ga, 1, none⟩ = some (.slice ma.ka ma.kl ma.kc) := Blk.cell HP.out.a0 1
        have a2 : W3.cell? ⟨ga, 2, none⟩ = some (.slice ma.ca ma.cl ma.cc) := Blk.cell HP.out.a0 2
        have a3 : W3.cell? ⟨ga, 3, none⟩ = some (.slice ma.da ma.dl ma.dc) := Blk.cell HP.out.a0 3
        have alt : ga < W3.heap.size := Blk.lt HP.out.a0
        go_wp2_with fail
        clear a0 a1 a2 a3 alt
        clear hi0 hi1
        refine HRa.out.mono ?_
        rintro e w4 ⟨rfl, hb4⟩
        rw [HAok.out]
        replace HP := Lib.hid (HP.out.go hb4)
        clear hb4 HRa
        have HRb := NRight_any b mb w4 HP.out.nb
        rw [HBl2.out] at HRb
        have HRb := Lib.hid HRb
        have b0 : w4.cell? ⟨ga + 1, 0, none⟩ = some (.bool lf) := by rw [← HBl2.out]; exact Blk.cell HP.out.b0 0
        have b1 : w4.cell? ⟨ga + 1, 1, none⟩ = some (.slice mb.ka mb.kl mb.kc) := Blk.cell HP.out.b0 1
        have b2 : w4.cell? ⟨ga + 1, 2, none⟩ = some (.slice mb.ca mb.cl mb.cc) := Blk.cell HP.out.b0 2
        have b3 : w4.cell? ⟨ga + 1, 3, none⟩ = some (.slice mb.da mb.dl mb.dc) := Blk.cell HP.out.b0 3
        have blt : ga + 1 < w4.heap.size := Blk.lt HP.out.b0
        go_wp2_with fail
        clear b0 b1 b2 b3 blt
        refine HRb.out.mono ?_
        rintro e w5 ⟨rfl, hb5⟩
        rw [HBok.out]
        replace HP := Lib.hid (HP.out.go hb5)
        clear hb5 HRb
        have hmk : ma.kl + mb.kl ≤ 60 ∧ ma.cl + mb.cl = cl ∧ ma.dl + mb.dl = dl := by
          have h1 := HP.out.na.hk
          have h2 := HP.out.nb.hk
          have h3 := HP.out.na.hc
          have h4 := HP.out.nb.hc
          have h5 := HP.out.na.hd
          have h6 := HP.out.nb.hd
          have e1 := congrArg List.length HWh.out.1
          have e2 := congrArg List.length HWh.out.2.1
          have e3 := congrArg List.length HWh.out.2.2
          rw [List.length_append, List.length_append] at e1
          rw [List.length_append] at e2 e3
          have := HKL.out
          have := HCL.out
          have := HDL.out
          omega
        obtain ⟨hmk1, hmk2, hmk3⟩ := hmk
        have HAAl : Hid ((cellsS a.keys).length = ma.kl * 1) := by show _ = _; rw [cellsS_len, HP.out.na.hk]
        have HBAl : Hid ((cellsS b.keys).length = mb.kl * 1) := by show _ = _; rw [cellsS_len, HP.out.nb.hk]
        have a0 : w5.cell? ⟨ga, 0, none⟩ = some (.bool lf) := by rw [← HAl2.out]; exact Blk.cell HP.out.a0 0
        have a1 : w5.cell? ⟨ga, 1, none⟩ = some (.slice ma.ka ma.kl ma.kc) := Blk.cell HP.out.a0 1
        have a2 : w5.cell? ⟨ga, 2, none⟩ = some (.slice ma.ca ma.cl ma.cc) := Blk.cell HP.out.a0 2
        have a3 : w5.cell? ⟨ga, 3, none⟩ = some (.slice ma.da ma.dl ma.dc) := Blk.cell HP.out.a0 3
        have alt : ga < w5.heap.size := Blk.lt HP.out.a0
        go_upto_region 8 with (fail)
        cases lf with
        | true =>
          have HKs : Hid (a.keys ++ b.keys = n.keys ∧ ma.kl + mb.kl = kl) := by
            have h1 : a.keys ++ b.keys = n.keys := by have := HWh.out.1; simpa using this
            refine ⟨h1, ?_⟩
            have e1 := congrArg List.length h1
            rw [List.length_append] at e1
            have h2 := HP.out.na.hk
            have h3 := HP.out.nb.hk
            have := HKL.out
            omega
          go_wp2_with (first | (at_builtin; refine wpList_appS rfl (.tmp 55) (.tmp 57) 22 rfl w5.heap.size 9 iS (.string ⟨#[]⟩) 1 16 Try.underlying22 hiS hzS rfl hsS (by omega) hbS (by omega) (.slice (some ⟨w5.heap.size, 0, none⟩) 0 0) 0 [] _ (own_new0 w5 w5.heap.size 9 1 (Nat.le_refl _)) rfl _ ma.ka ma.kl ma.kc _ (HP.out.na.karr.later (N := 0) ((Below.refl w5.heap.size w5).alloc (Nat.le_refl _) (.cells #[] 9))) HAAl.out (one_S _) rfl (by omega) (by simp) ?_; intro v6 x6 h6 _ hb6; rw [Nat.zero_add, List.nil_append] at h6; obtain ⟨a6, c6, rfl, _, _, _⟩ := own_slice h6; have H6 := Lib.hid h6; have HB6 := Lib.hid (((Below.refl w5.heap.size w5).alloc (Nat.le_refl _) (.cells #[] 9)).trans hb6); have n0 : x6.cell? ⟨w.heap.size, 0, none⟩ = some (.bool true) := Blk.cell (HP.out.go HB6.out).n0 0; have b1 : x6.cell? ⟨ga + 1, 1, none⟩ = some (.slice mb.ka mb.kl mb.kc) := Blk.cell (HP.out.go HB6.out).b0 1; have blt : ga + 1 < x6.heap.size := Blk.lt (HP.out.go HB6.out).b0; have nlt : w.heap.size < x6.heap.size := Blk.lt (HP.out.go HB6.out).n0; have hs6 := HB6.out.size; clear h6 hb6) | (at_builtin; refine wpList_appS rfl (.tmp 66) (.tmp 68) 22 rfl w5.heap.size 9 iS (.string ⟨#[]⟩) 1 16 Try.underlying22 hiS hzS rfl hsS (by omega) hbS (by omega) (.slice a6 ma.kl c6) ma.kl _ x6 H6.out rfl _ mb.ka mb.kl mb.kc _ (HP.out.nb.karr.later (N := 0) HB6.out) HBAl.out (one_S _) rfl (by omega) hs6 ?_; intro v9 x9 h9 _ hb9; rw [← cellsS_app, HKs.out.1] at h9; rw [show ma.kl + mb.kl = kl from HKs.out.2] at h9; obtain ⟨a9, c9, rfl, hc9, hm9, _⟩ := own_slice h9; have H9 := Lib.hid h9; have HB9 := Lib.hid (HB6.out.trans hb9); have hs9 := HB9.out.size; clear h9 hb9))
          have HPX := Lib.hid (HP.out.go HB9.out)
          have HACl : Hid ((cellsC a.cells).length = ma.cl * 3) := by show _ = _; rw [cellsC_len, HPX.out.na.hc]
          have HBCl : Hid ((cellsC b.cells).length = mb.cl * 3) := by show _ = _; rw [cellsC_len, HPX.out.nb.hc]
          have HADl : Hid ((cellsI a.kids).length = ma.dl * 1) := by show _ = _; rw [cellsI_len, HPX.out.na.hd]
          have HBDl : Hid ((cellsI b.kids).length = mb.dl * 1) := by show _ = _; rw [cellsI_len, HPX.out.nb.hd]
          have HKw : Hid (∀ W, Kp x9.heap.size (fun _ => True) x9.drew W → Below x9.heap.size x9 W) := fun W h => h.undrew.below (Nat.le_refl _)
          have n0 : ∀ W, Kp x9.heap.size (fun _ => True) x9.drew W → W.cell? ⟨w.heap.size, 0, none⟩ = some (.bool true) := fun W h => Blk.cell (HPX.out.go (HKw.out W h)).n0 0
          have a2 : ∀ W, Kp x9.heap.size (fun _ => True) x9.drew W → W.cell? ⟨ga, 2, none⟩ = some (.slice ma.ca ma.cl ma.cc) := fun W h => Blk.cell (HPX.out.go (HKw.out W h)).a0 2
          have a3 : ∀ W, Kp x9.heap.size (fun _ => True) x9.drew W → W.cell? ⟨ga, 3, none⟩ = some (.slice ma.da ma.dl ma.dc) := fun W h => Blk.cell (HPX.out.go (HKw.out W h)).a0 3
          have b2 : ∀ W, Kp x9.heap.size (fun _ => True) x9.drew W → W.cell? ⟨ga + 1, 2, none⟩ = some (.slice mb.ca mb.cl mb.cc) := fun W h => Blk.cell (HPX.out.go (HKw.out W h)).b0 2
          have b3 : ∀ W, Kp x9.heap.size (fun _ => True) x9.drew W → W.cell? ⟨ga + 1, 3, none⟩ = some (.slice mb.da mb.dl mb.dc) := fun W h => Blk.cell (HPX.out.go (HKw.out W h)).b0 3
          refine wp_region_main x9.heap.size 200 [.f 0, .f 1, .f 2, .f 4, .f 5, .f 7, .f 8, .f 11, .f 12, .f 14, .f 15, .s [10], .s [18], .c 3, .c 6, .c 9, .w, .c 13, .c 16, .f 17, .w, .c 19] (by kernel_rfl) (by kernel_rfl) (by kernel_rfl) (by kernel_rfl) ?_
          repeat (first | ((refine wpM_F rfl (by rfl) (fun w' hL => exec_load rfl rfl (n0 w' hL)) ?_); try simp only [Act.put, List.setIfInBounds_toArray, List.set_cons_zero, List.set_cons_succ]) | ((refine wpM_F rfl (by rfl) (fun w' hL => exec_load rfl rfl (a2 w' hL)) ?_); try simp only [Act.put, List.setIfInBounds_toArray, List.set_cons_zero, List.set_cons_succ]) | ((refine wpM_F rfl (by rfl) (fun w' hL => exec_load rfl rfl (a3 w' hL)) ?_); try simp only [Act.put, List.setIfInBounds_toArray, List.set_cons_zero, List.set_cons_succ]) | ((refine wpM_F rfl (by rfl) (fun w' hL => exec_load rfl rfl (b2 w' hL)) ?_); try simp only [Act.put, List.setIfInBounds_toArray, List.set_cons_zero, List.set_cons_succ]) | ((refine wpM_F rfl (by rfl) (fun w' hL => exec_load rfl rfl (b3 w' hL)) ?_); try simp only [Act.put, List.setIfInBounds_toArray, List.set_cons_zero, List.set_cons_succ]) | (refine wpM_F (v := ?_) rfl (by rfl) (fun w' hL => ?_) ?_; rotate_left; (solve | (go_simp; with_reducible rfl) | go_simp); try simp only [Act.put, List.setIfInBounds_toArray, List.set_cons_zero, List.set_cons_succ]) | (refine wpM_G rfl (by rfl) ?_; try simp only [Act.put, List.setIfInBounds_toArray, List.set_cons_zero, List.set_cons_succ]))
          clear n0 a2 a3 b2 b3
          refine wpM_S (fun l W => ∃ g, l = [(some 80, .slice (some ⟨g, 0, none⟩) 0 0)] ∧ W.ownsRow x9.heap.size 3 1 (.slice (some ⟨g, 0, none⟩) 0 0) 0 []) (floatT x9.heap.size 3) (floatT_ok _ _) (fun _ _ h => h) (fun _ h => by cases h) ?_
          intro x0 hR0
          have hz0 : x9.heap.size ≤ x0.heap.size := hR0.size
          refine ⟨?_, ?_⟩
          · refine rob_C rfl (by rfl) ?_
            intro x1 hR1 K HK
            have hz1 : x9.heap.size ≤ x1.heap.size := Nat.le_trans hz0 (Kp.size hR1)
            simp only [puts, List.nil_append, List.cons_append, List.foldl_cons, List.foldl_nil, Act.put, List.setIfInBounds_toArray, List.set_cons_zero, List.set_cons_succ]
            have HO1 := Lib.hid (own_new0 x1 x9.heap.size 3 1 hz1)
            clear hR1
            go_simp
            refine HK.out (.slice (some ⟨x1.heap.size, 0, none⟩) 0 0) _ _ (by simp only [puts, List.nil_append, List.cons_append, List.foldl_cons, List.foldl_nil, Act.put, List.setIfInBounds_toArray, List.set_cons_zero, List.set_cons_succ]) (Kp.of_below ((Below.refl _ _).alloc (Nat.le_refl _) _)) ?_
            refine rob_nil ?_
            intro x8 hR8
            exact ⟨x1.heap.size, rfl, own_kpn HO1.out hR8⟩
          refine wpM_S (fun l W => ∃ g, l = [(some 9, .pointer (some ⟨g, 0, none⟩))] ∧ Blk W g 26 #[.bool false, .slice none 0 0, .slice none 0 0, .slice none 0 0] ∧ x9.heap.size ≤ g) (floatT x9.heap.size 26) (floatT_ok _ _) (fun _ _ h => h) (fun d hd => by simp only [List.nil_append, List.mem_singleton] at hd; subst hd; exact floatT_with _ _ _) ?_
          intro y0 hR0b
          have HXY := Lib.hid (HKw.out _ ((hR0.trans hR0b).mono fun _ h => h.elim))
          have hzy : x9.heap.size ≤ y0.heap.size := HXY.out.size
          clear hR0 hR0b hz0
          refine ⟨?_, ?_⟩
          · refine rob_C rfl (by rfl) ?_
            intro x1 hR1 K HK
            have hz1 : x9.heap.size ≤ x1.heap.size := Nat.le_trans hzy (Kp.size hR1)
            simp only [puts, List.nil_append, List.cons_append, List.foldl_cons, List.foldl_nil, Act.put, List.setIfInBounds_toArray, List.set_cons_zero, List.set_cons_succ]
            have HG1 := Lib.hid (Blk.new x1 26 #[.bool false, .slice none 0 0, .slice none 0 0, .slice none 0 0])
            clear hR1
            go_simp
            refine HK.out (.pointer (some ⟨x1.heap.size, 0, none⟩)) _ _ (by simp only [puts, List.nil_append, List.cons_append, List.foldl_cons, List.foldl_nil, Act.put, List.setIfInBounds_toArray, List.set_cons_zero, List.set_cons_succ]) (Kp.of_below ((Below.refl _ _).alloc (Nat.le_refl _) _)) ?_
            refine rob_nil ?_
            intro x8 hR8
            exact ⟨x1.heap.size, rfl, HG1.out.kpn hR8, hz1⟩
          refine wpM_C rfl (by rfl) ?_
          intro y1 hR K HK
          replace HXY := Lib.hid (HXY.out.trans (Kp.below (N := x9.heap.size) hR hzy))
          replace hzy : x9.heap.size ≤ y1.heap.size := HXY.out.size
          have HC := Lib.hid (own_new0 y1 x9.heap.size 63 3 hzy)
          clear hR
          try simp only [puts, List.nil_append, List.cons_append, List.foldl_cons, List.foldl_nil, Act.put, List.setIfInBounds_toArray, List.set_cons_zero, List.set_cons_succ]
          go_simp
          refine HK.out (.slice (some ⟨y1.heap.size, 0, none⟩) 0 0) _ _ (by simp only [puts, List.nil_append, List.cons_append, List.foldl_cons, List.foldl_nil, Act.put, List.setIfInBounds_toArray, List.set_cons_zero, List.set_cons_succ]) (Kp.of_below ((Below.refl _ _).alloc (Nat.le_refl _) _)) (bg2 (Kp.of_below ((Below.refl _ _).alloc (Nat.le_refl _) _)) (Kp.of_below ((Below.refl _ _).alloc (Nat.le_refl _) _))) ?_
          replace HXY := Lib.hid (HXY.out.alloc hzy (.cells #[] 63))
          clear HK
          refine wpM_C rfl (by rfl) ?_
          intro y2 hR K HK
          replace HC := Lib.hid (own_kp0 HC.out hR)
          replace HXY := Lib.hid (HXY.out.trans (Kp.below (N := x9.heap.size) hR HXY.out.size))
          replace hzy : x9.heap.size ≤ y2.heap.size := HXY.out.size
          clear hR
          try simp only [puts, List.nil_append, List.cons_append, List.foldl_cons, List.foldl_nil, Act.put, List.setIfInBounds_toArray, List.set_cons_zero, List.set_cons_succ]
          refine wp_appS (.tmp 73) (.tmp 75) 23 rfl x9.heap.size 63 iC (.agg #[.int .i64 0, .string ⟨#[]⟩, .int .i64 0]) 3 32 Try.underlying23 hiC hzC rfl hsC (by omega) hbC (by omega) (.slice (some ⟨y1.heap.size, 0, none⟩) 0 0) 0 [] y2 HC.out rfl _ ma.ca ma.cl ma.cc _ (HPX.out.go HXY.out).na.carr HACl.out (one_C _) rfl (by omega) hzy ?_
          intro v6 y3 h6 hc6 hb6
          rw [Nat.zero_add, List.nil_append] at h6
          refine HK.out v6 y3 _ (by simp only [puts, List.nil_append, List.cons_append, List.foldl_cons, List.foldl_nil, Act.put, List.setIfInBounds_toArray, List.set_cons_zero, List.set_cons_succ]) (Kp.of_chg hc6 fun q hq => ⟨(own_isT HC.out hq).1, trivial⟩) (bg2 (floatT_R (Kp.of_chg hc6 fun q hq => own_isT HC.out hq) (by decide)) (floatT_R (Kp.of_chg hc6 fun q hq => own_isT HC.out hq) (by decide))) ?_
          replace HC := Lib.hid h6
          replace HXY := Lib.hid (HXY.out.trans hb6)
          clear h6 hc6 hb6 HK
          refine wpM_C rfl (by rfl) ?_
          intro y4 hR K HK
          replace HC := Lib.hid (own_kp0 HC.out hR)
          replace HXY := Lib.hid (HXY.out.trans (Kp.below (N := x9.heap.size) hR HXY.out.size))
          replace hzy : x9.heap.size ≤ y4.heap.size := HXY.out.size
          clear hR
          try simp only [puts, List.nil_append, List.cons_append, List.foldl_cons, List.foldl_nil, Act.put, List.setIfInBounds_toArray, List.set_cons_zero, List.set_cons_succ]
          refine wp_appS (.tmp 76) (.tmp 78) 23 rfl x9.heap.size 63 iC (.agg #[.int .i64 0, .string ⟨#[]⟩, .int .i64 0]) 3 32 Try.underlying23 hiC hzC rfl hsC (by omega) hbC (by omega) v6 ma.cl _ y4 HC.out rfl _ mb.ca mb.cl mb.cc _ (HPX.out.go HXY.out).nb.carr HBCl.out (one_C _) rfl (by omega) hzy ?_
          intro v7 y5 h7 hc7 hb7
          rw [← cellsC_app, HWh.out.2.1, show ma.cl + mb.cl = cl from hmk2] at h7
          obtain ⟨a79, c79, rfl, _, _, _⟩ := own_slice h7
          refine HK.out (.slice a79 cl c79) y5 _ (by simp only [puts, List.nil_append, List.cons_append, List.foldl_cons, List.foldl_nil, Act.put, List.setIfInBounds_toArray, List.set_cons_zero, List.set_cons_succ]) (Kp.of_chg hc7 fun q hq => ⟨(own_isT HC.out hq).1, trivial⟩) (bg2 (floatT_R (Kp.of_chg hc7 fun q hq => own_isT HC.out hq) (by decide)) (floatT_R (Kp.of_chg hc7 fun q hq => own_isT HC.out hq) (by decide))) ?_
          replace HC := Lib.hid h7
          replace HXY := Lib.hid (HXY.out.trans hb7)
          clear h7 hc7 hb7 HK
          refine wpM_W ?_
          intro y6 l hR hE
          obtain ⟨g80, rfl, hI⟩ := hE
          have HI := Lib.hid hI
          replace HC := Lib.hid (own_kp0 HC.out hR)
          replace HXY := Lib.hid (HXY.out.trans (Kp.below (N := x9.heap.size) hR HXY.out.size))
          clear hI hR
          simp only [puts, List.nil_append, List.cons_append, List.foldl_cons, List.foldl_nil, Act.put, List.setIfInBounds_toArray, List.set_cons_zero, List.set_cons_succ]
          refine wpM_C rfl (by rfl) ?_
          intro y7 hR K HK
          replace HC := Lib.hid (own_kp0 HC.out hR)
          replace HXY := Lib.hid (HXY.out.trans (Kp.below (N := x9.heap.size) hR HXY.out.size))
          replace hzy : x9.heap.size ≤ y7.heap.size := HXY.out.size
          replace HI := Lib.hid (own_kp0 HI.out hR)
          clear hR
          try simp only [puts, List.nil_append, List.cons_append, List.foldl_cons, List.foldl_nil, Act.put, List.setIfInBounds_toArray, List.set_cons_zero, List.set_cons_succ]
          refine wp_appS (.tmp 80) (.tmp 82) 24 rfl x9.heap.size 3 iI (.int .i64 0) 1 8 Try.underlying24 hiI hzI rfl hsI (by omega) hbI (by omega) (.slice (some ⟨g80, 0, none⟩) 0 0) 0 [] y7 HI.out rfl _ ma.da ma.dl ma.dc _ (HPX.out.go HXY.out).na.darr HADl.out (one_I _) rfl (by omega) hzy ?_
          intro v83 y8 h83 hc83 hb83
          rw [Nat.zero_add, List.nil_append] at h83
          refine HK.out v83 y8 _ (by simp only [puts, List.nil_append, List.cons_append, List.foldl_cons, List.foldl_nil, Act.put, List.setIfInBounds_toArray, List.set_cons_zero, List.set_cons_succ]) (Kp.of_chg hc83 fun q hq => ⟨(own_isT HI.out hq).1, trivial⟩) (bg1 (floatT_R (Kp.of_chg hc83 fun q hq => own_isT HI.out hq) (by decide))) ?_
          replace HC := Lib.hid (own_chg HC.out hc83 (fun g hg hm => own_apart HC.out HI.out (by decide) g hg (Option.mem_toList.1 hm)))
          replace HI := Lib.hid h83
          replace HXY := Lib.hid (HXY.out.trans hb83)
          clear h83 hc83 hb83 HK
          refine wpM_C rfl (by rfl) ?_
          intro y9 hR K HK
          replace HC := Lib.hid (own_kp0 HC.out hR)
          replace HXY := Lib.hid (HXY.out.trans (Kp.below (N := x9.heap.size) hR HXY.out.size))
          replace hzy : x9.heap.size ≤ y9.heap.size := HXY.out.size
          replace HI := Lib.hid (own_kp0 HI.out hR)
          clear hR
          try simp only [puts, List.nil_append, List.cons_append, List.foldl_cons, List.foldl_nil, Act.put, List.setIfInBounds_toArray, List.set_cons_zero, List.set_cons_succ]
          refine wp_appS (.tmp 83) (.tmp 85) 24 rfl x9.heap.size 3 iI (.int .i64 0) 1 8 Try.underlying24 hiI hzI rfl hsI (by omega) hbI (by omega) v83 ma.dl _ y9 HI.out rfl _ mb.da mb.dl mb.dc _ (HPX.out.go HXY.out).nb.darr HBDl.out (one_I _) rfl (by omega) hzy ?_
          intro v86 y10 h86 hc86 hb86
          rw [← cellsI_app, HWh.out.2.2, show ma.dl + mb.dl = dl from hmk3] at h86
          obtain ⟨a86, c86, rfl, hc86l, hc86m, _⟩ := own_slice h86
          refine HK.out (.slice a86 dl c86) y10 _ (by simp only [puts, List.nil_append, List.cons_append, List.foldl_cons, List.foldl_nil, Act.put, List.setIfInBounds_toArray, List.set_cons_zero, List.set_cons_succ]) (Kp.of_chg hc86 fun q hq => ⟨(own_isT HI.out hq).1, trivial⟩) (bg1 (floatT_R (Kp.of_chg hc86 fun q hq => own_isT HI.out hq) (by decide))) ?_
          replace HC := Lib.hid (own_chg HC.out hc86 (fun g hg hm => own_apart HC.out HI.out (by decide) g hg (Option.mem_toList.1 hm)))
          replace HI := Lib.hid h86
          replace HXY := Lib.hid (HXY.out.trans hb86)
          clear h86 hc86 hb86 HK
          repeat (first | (refine wpM_F (v := ?_) rfl (by rfl) (fun w' hL => ?_) ?_; rotate_left; (solve | (go_simp; with_reducible rfl) | go_simp); try simp only [Act.put, List.setIfInBounds_toArray, List.set_cons_zero, List.set_cons_succ]) | (refine wpM_G rfl (by rfl) ?_; try simp only [Act.put, List.setIfInBounds_toArray, List.set_cons_zero, List.set_cons_succ]))
          refine wpM_W ?_
          intro y11 l hR hE
          obtain ⟨gw, rfl, hG, hgN⟩ := hE
          have HG := Lib.hid hG
          replace HC := Lib.hid (own_kp0 HC.out hR)
          replace HI := Lib.hid (own_kp0 HI.out hR)
          replace HXY := Lib.hid (HXY.out.trans (Kp.below (N := x9.heap.size) hR HXY.out.size))
          clear hG hR
          simp only [puts, List.nil_append, List.cons_append, List.foldl_cons, List.foldl_nil, Act.put, List.setIfInBounds_toArray, List.set_cons_zero, List.set_cons_succ]
          refine wpM_C rfl (by rfl) ?_
          intro y2 hR K HK
          replace HC := Lib.hid (own_kp0 HC.out hR)
          replace HXY := Lib.hid (HXY.out.trans (Kp.below (N := x9.heap.size) hR HXY.out.size))
          replace hzy : x9.heap.size ≤ y2.heap.size := HXY.out.size
          replace HI := Lib.hid (own_kp0 HI.out hR)
          replace HG := Lib.hid (HG.out.kp0 hR)
          clear hR
          try simp only [puts, List.nil_append, List.cons_append, List.foldl_cons, List.foldl_nil, Act.put, List.setIfInBounds_toArray, List.set_cons_zero, List.set_cons_succ]
          have g0 : (y2.cell? ⟨gw, 0, none⟩) = some (.bool false) := HG.out.cell 0
          have gf0 : y2.frozen? ⟨gw, 0, none⟩ = false := HG.out.frozen 0
          have g1 : (y2.cell? ⟨gw, 1, none⟩) = some (.slice none 0 0) := HG.out.cell 1
          have gf1 : y2.frozen? ⟨gw, 1, none⟩ = false := HG.out.frozen 1
          have g2 : (y2.cell? ⟨gw, 2, none⟩) = some (.slice none 0 0) := HG.out.cell 2
          have gf2 : y2.frozen? ⟨gw, 2, none⟩ = false := HG.out.frozen 2
          have g3 : (y2.cell? ⟨gw, 3, none⟩) = some (.slice none 0 0) := HG.out.cell 3
          have gf3 : y2.frozen? ⟨gw, 3, none⟩ = false := HG.out.frozen 3
          have glt := HG.out.lt
          have hzc : Chg [gw] y2 ((((y2.setCell ⟨gw, 0, none⟩ (.bool true)).setCell ⟨gw, 1, none⟩ (.slice a9 kl c9)).setCell ⟨gw, 2, none⟩ (.slice a79 cl c79)).setCell ⟨gw, 3, none⟩ (.slice a86 dl c86)) := set4_chg (by simp) _ _ _ _
          have HXZ : Hid (Below x9.heap.size x9 ((((y2.setCell ⟨gw, 0, none⟩ (.bool true)).setCell ⟨gw, 1, none⟩ (.slice a9 kl c9)).setCell ⟨gw, 2, none⟩ (.slice a79 cl c79)).setCell ⟨gw, 3, none⟩ (.slice a86 dl c86))) := HXY.out.trans (hzc.below HXY.out.size (by simpa using hgN))
          have HGZ : Hid (Blk ((((y2.setCell ⟨gw, 0, none⟩ (.bool true)).setCell ⟨gw, 1, none⟩ (.slice a9 kl c9)).setCell ⟨gw, 2, none⟩ (.slice a79 cl c79)).setCell ⟨gw, 3, none⟩ (.slice a86 dl c86)) gw 26 #[.bool true, .slice a9 kl c9, .slice a79 cl c79, .slice a86 dl c86]) := Blk.st4 HG.out _ _ _ _
          have HWZ : Hid (NAt ((((y2.setCell ⟨gw, 0, none⟩ (.bool true)).setCell ⟨gw, 1, none⟩ (.slice a9 kl c9)).setCell ⟨gw, 2, none⟩ (.slice a79 cl c79)).setCell ⟨gw, 3, none⟩ (.slice a86 dl c86)) n ⟨a9, kl, c9, a79, cl, c79, a86, dl, c86⟩) := by
            have hk := own_chg (own_below H9.out (Nat.le_refl _) HXY.out) hzc (fun g hg hm => own_ne (own_below H9.out (Nat.le_refl _) HXY.out) HG.out (by decide) (by simp at hm; rw [hg, hm]))
            have hc := own_chg HC.out hzc (fun g hg hm => own_ne HC.out HG.out (by decide) (by simp at hm; rw [hg, hm]))
            have hd := own_chg HI.out hzc (fun g hg hm => own_ne HI.out HG.out (by decide) (by simp at hm; rw [hg, hm]))
            obtain ⟨_, _, e1, k1, k2, k3⟩ := own_slice hk
            obtain ⟨_, _, e2, c1, c2, c3⟩ := own_slice hc
            obtain ⟨_, _, e3, d1, d2, d3⟩ := own_slice hd
            simp only [Value.slice.injEq, true_and] at e1 e2 e3
            obtain ⟨rfl, rfl⟩ := e1
            obtain ⟨rfl, rfl⟩ := e2
            obtain ⟨rfl, rfl⟩ := e3
            exact ⟨HKL.out, HCL.out, HDL.out, k1, c1, d1, by simp only; omega, by simp only; omega, by simp only; omega, k3, c3, d3, HPX.out.nn.kfair, HPX.out.nn.cfair, HPX.out.nn.dfair⟩
          clear hzc
          go_simp
          refine HK.out undef _ _ (by simp only [puts, List.nil_append, List.cons_append, List.foldl_cons, List.foldl_nil, Act.put, List.setIfInBounds_toArray, List.set_cons_zero, List.set_cons_succ]) (Kp.of_chg (set4_chg (S := [gw]) (by simp) _ _ _ _) (fun q hq => by simp only [List.mem_singleton] at hq; subst hq; exact ⟨hgN, trivial⟩)) bg0 ?_
          clear HK
          clear g0 gf0 g1 gf1 g2 gf2 g3 gf3 glt HC HI HG HXY H9 HKw hzy
          obtain ⟨Z0, hZ⟩ : ∃ Z, ((((y2.setCell ⟨gw, 0, none⟩ (.bool true)).setCell ⟨gw, 1, none⟩ (.slice a9 kl c9)).setCell ⟨gw, 2, none⟩ (.slice a79 cl c79)).setCell ⟨gw, 3, none⟩ (.slice a86 dl c86)) = Z := ⟨_, rfl⟩
          rw [hZ] at HXZ HGZ HWZ
          rw [hZ]
          clear hZ
          refine wpM_nil ?_
          intro Z hR
          have hbZ : Below x9.heap.size Z0 Z := Kp.below (N := x9.heap.size) hR HXZ.out.size
          have hbZ2 : Below Z0.heap.size Z0 Z := ⟨hR.os, hR.tape, hR.output, hR.size, fun k hk => by rcases hR.block k hk with h1 | ⟨_, h1⟩; exact h1; exact h1.elim⟩
          replace HP := Lib.hid (HPX.out.go (HXZ.out.trans hbZ))
          replace HGZ := Lib.hid (HGZ.out.kp0 hR)
          replace HWZ := Lib.hid (HWZ.out.later hbZ2)
          clear HPX HXZ HACl HBCl HADl HBDl hbZ hbZ2 hR
          have HSm := NSame_any n n ⟨a9, kl, c9, a79, cl, c79, a86, dl, c86⟩ ⟨ka, kl, kc, ca, cl, cc, da, dl, dc⟩ Z HWZ.out HP.out.nn
          rw [HLf.out, decide_eq_true (rfl : n = n)] at HSm
          have HSm := Lib.hid HSm
          have g0 : Z.cell? ⟨gw, 0, none⟩ = some (.bool true) := HGZ.out.cell 0
          have g1 : Z.cell? ⟨gw, 1, none⟩ = some (.slice a9 kl c9) := HGZ.out.cell 1
          have g2 : Z.cell? ⟨gw, 2, none⟩ = some (.slice a79 cl c79) := HGZ.out.cell 2
          have g3 : Z.cell? ⟨gw, 3, none⟩ = some (.slice a86 dl c86) := HGZ.out.cell 3
          have glt : gw < Z.heap.size := HGZ.out.lt
          have n0 : Z.cell? ⟨w.heap.size, 0, none⟩ = some (.bool true) := HP.out.n0.cell 0
          have n1 : Z.cell? ⟨w.heap.size, 1, none⟩ = some (.slice ka kl kc) := HP.out.n0.cell 1
          have n2 : Z.cell? ⟨w.heap.size, 2, none⟩ = some (.slice ca cl cc) := HP.out.n0.cell 2
          have n3 : Z.cell? ⟨w.heap.size, 3, none⟩ = some (.slice da dl dc) := HP.out.n0.cell 3
          have nlt : w.heap.size < Z.heap.size := HP.out.n0.lt
          go_wp2_with fail
          clear g0 g1 g2 g3 glt n0 n1 n2 n3 nlt
          refine HSm.out.mono ?_
          rintro e z1 ⟨rfl, hb⟩
          replace HP := Lib.hid (HP.out.go hb)
          clear hb HSm HWZ HGZ
          have hb0 : b.keys[0]? = some k := by
            rw [HB.out, partN_keys2, moved_leaf HLf.out, Nat.add_zero, List.getElem?_take, if_pos (by have := HI2.out; have := HKL.out; have := HGe.out; omega), List.getElem?_drop, Nat.add_zero]
            exact HKi.out
          obtain ⟨hb1, hb2⟩ := List.getElem?_eq_some_iff.1 hb0
          obtain ⟨bb, bo, hka, hbb, hs0⟩ := strAt HP.out.nb.karr hb1
          rw [hb2, Nat.add_zero] at hs0
          have hbk : 0 < mb.kl := by rw [HP.out.nb.hk]; exact hb1
          have b1 : z1.cell? ⟨ga + 1, 1, none⟩ = some (.slice (some ⟨bb, bo, none⟩) mb.kl mb.kc) := by rw [← hka]; exact HP.out.b0.cell 1
          have blt : ga + 1 < z1.heap.size := HP.out.b0.lt
          clear hb0 hb1 hb2 hka
          have n0 : z1.cell? ⟨w.heap.size, 0, none⟩ = some (.bool true) := HP.out.n0.cell 0
          have n1 : z1.cell? ⟨w.heap.size, 1, none⟩ = some (.slice ka kl kc) := HP.out.n0.cell 1
          have n2 : z1.cell? ⟨w.heap.size, 2, none⟩ = some (.slice ca cl cc) := HP.out.n0.cell 2
          have n3 : z1.cell? ⟨w.heap.size, 3, none⟩ = some (.slice da dl dc) := HP.out.n0.cell 3
          have nlt : w.heap.size < z1.heap.size := HP.out.n0.lt
          by_cases c1 : at_ < 0
          · have q1 : decide (at_ < 0) = true := by simpa using c1
            go_wp2_with fail
            refine (HAl.out _).mono ?_
            rintro e z2 ⟨rfl, hb⟩
            replace HP := Lib.hid (HP.out.go hb)
            go_wp2
            go_ret
            exact ⟨rfl, HP.out.bel⟩
          · have q1 : decide (at_ < 0) = false := by simpa using c1
            by_cases c2 : (kl : Int) ≤ at_
            · have q2 : decide ((kl : Int) ≤ at_) = true := by simpa using c2
              go_wp2_with fail
              refine (HAl.out _).mono ?_
              rintro e z2 ⟨rfl, hb⟩
              replace HP := Lib.hid (HP.out.go hb)
              go_wp2
              go_ret
              exact ⟨rfl, HP.out.bel⟩
            · have q2 : decide ((kl : Int) ≤ at_) = false := by simpa using c2
              obtain ⟨q, rfl⟩ : ∃ q : Nat, at_ = q := ⟨at_.toNat, by omega⟩
              have hq : q < kl := by omega
              have q2n : decide (kl ≤ q) = false := by simp; omega
              clear c1 c2
              go_wp2_with fail
              clear q1 q2 q2n n0 n1 n2 n3 nlt b1 blt hs0 hbb hbk
              have hclk : cl = kl := by have h1 := HOk.out.2; rw [HLf.out] at h1; simp only [if_true] at h1; rw [HCL.out, HKL.out, h1.1]
              have hkk := HP.out.nn.kcap
              have hck := HP.out.nn.ccap
              simp only at hkk hck
              obtain ⟨k1, hk1, hs1⟩ := HP.out.nn.karr.front 22 9 1 Try.underlying22 sizeOf_str kl kc q (by rw [cellsS_len, ← HKL.out]) (by omega) hkk
              obtain ⟨k2, hk2, hs2⟩ := HP.out.nn.karr.from 22 9 1 Try.underlying22 sizeOf_str kl kc (q + 1) (by rw [cellsS_len, ← HKL.out]) (by omega) hkk (by omega)
              obtain ⟨k3, hk3, hs3⟩ := HP.out.nn.carr.front 23 63 3 Try.underlying23 sizeOf_cell cl cc q (by rw [cellsC_len, ← HCL.out]) (by omega) hck
              obtain ⟨k4, hk4, hs4⟩ := HP.out.nn.carr.from 23 63 3 Try.underlying23 sizeOf_cell cl cc (q + 1) (by rw [cellsC_len, ← HCL.out]) (by omega) hck (by omega)
              have hwr : ((q + 1 : Nat) : Int) = IntKind.i64.wrap ((q : Int) + 1) := by rw [IntWalk.i64_in _ ⟨by omega, by omega⟩]; omega
              rw [hwr] at hs2 hs4
              clear hwr
              have hqc : q < cl := by omega
              have HClk := Lib.hid hclk
              clear hclk
              rw [show (cellsS n.keys).take (q * 1) = cellsS (n.keys.take q) from (cellsOf_take _ 1 (fun _ => rfl) _ _).symm] at hk1
              rw [show (cellsS n.keys).drop ((q + 1) * 1) = cellsS (n.keys.drop (q + 1)) from (cellsOf_drop _ 1 (fun _ => rfl) _ _).symm] at hk2
              rw [show (cellsC n.cells).take (q * 3) = cellsC (n.cells.take q) from (cellsOf_take _ 3 (fun _ => rfl) _ _).symm] at hk3
              rw [show (cellsC n.cells).drop ((q + 1) * 3) = cellsC (n.cells.drop (q + 1)) from (cellsOf_drop _ 3 (fun _ => rfl) _ _).symm] at hk4
              have HK1 := Lib.hid hk1
              have HK2 := Lib.hid hk2
              have HK3 := Lib.hid hk3
              have HK4 := Lib.hid hk4
              clear hk1 hk2 hk3 hk4 hkk hck
              have HL1 : Hid ((cellsS (n.keys.take q)).length = q * 1) := by show _ = _; rw [cellsS_len, List.length_take, ← HKL.out]; congr 1; omega
              have HL2 : Hid ((cellsS (n.keys.drop (q + 1))).length = (kl - (q + 1)) * 1) := by show _ = _; rw [cellsS_len, List.length_drop, ← HKL.out]
              have HL3 : Hid ((cellsC (n.cells.take q)).length = q * 3) := by show _ = _; rw [cellsC_len, List.length_take, ← HCL.out]; congr 1; omega
              have HL4 : Hid ((cellsC (n.cells.drop (q + 1))).length = (cl - (q + 1)) * 3) := by show _ = _; rw [cellsC_len, List.length_drop, ← HCL.out]
              have HKw : Hid (∀ W, Kp z1.heap.size (fun _ => True) z1.drew W → Below z1.heap.size z1 W) := fun W h => h.undrew.below (Nat.le_refl _)
              have n1 : ∀ W, Kp z1.heap.size (fun _ => True) z1.drew W → W.cell? ⟨w.heap.size, 1, none⟩ = some (.slice ka kl kc) := fun W h => Blk.cell (HP.out.go (HKw.out W h)).n0 1
              have n2 : ∀ W, Kp z1.heap.size (fun _ => True) z1.drew W → W.cell? ⟨w.heap.size, 2, none⟩ = some (.slice ca cl cc) := fun W h => Blk.cell (HP.out.go (HKw.out W h)).n0 2
              refine wp_region_main z1.heap.size 200 [.f 1, .f 2, .f 3, .f 4, .f 6, .f 7, .f 8, .f 9, .f 10, .f 13, .f 14, .f 15, .f 16, .f 18, .f 19, .f 20, .f 21, .f 22, .s [12], .s [25], .c 0, .c 5, .c 11, .w, .c 17, .c 23, .f 24, .w, .c 26] (by kernel_rfl) (by kernel_rfl) (by kernel_rfl) (by kernel_rfl) ?_
              repeat (first | ((refine wpM_F rfl (by rfl) (fun w' hL => exec_load rfl rfl (n1 w' hL)) ?_); try simp only [Act.put, List.setIfInBounds_toArray, List.set_cons_zero, List.set_cons_succ]) | ((refine wpM_F rfl (by rfl) (fun w' hL => exec_load rfl rfl (n2 w' hL)) ?_); try simp only [Act.put, List.setIfInBounds_toArray, List.set_cons_zero, List.set_cons_succ]) | (refine wpM_F (v := ?_) rfl (by rfl) (fun w' hL => ?_) ?_; rotate_left; (solve | (go_simp; with_reducible rfl) | go_simp); try simp only [Act.put, List.setIfInBounds_toArray, List.set_cons_zero, List.set_cons_succ]) | (refine wpM_G rfl (by rfl) ?_; try simp only [Act.put, List.setIfInBounds_toArray, List.set_cons_zero, List.set_cons_succ]))
              clear n1 n2 hs1 hs2 hs3 hs4
              generalize IntKind.i64.wrap ((q : Int) + 1) = qq at *
              refine wpM_S (fun l W => ∃ g, l = [(some 131, .slice (some ⟨g, 0, none⟩) 0 0)] ∧ W.ownsRow z1.heap.size 63 3 (.slice (some ⟨g, 0, none⟩) 0 0) 0 []) (floatT z1.heap.size 63) (floatT_ok _ _) (fun _ _ h => h) (fun _ h => by cases h) ?_
              intro x0 hR0
              have hz0 : z1.heap.size ≤ x0.heap.size := hR0.size
              refine ⟨?_, ?_⟩
              · refine rob_C rfl (by rfl) ?_
                intro x1 hR1 K HK
                have hz1 : z1.heap.size ≤ x1.heap.size := Nat.le_trans hz0 (Kp.size hR1)
                simp only [puts, List.nil_append, List.cons_append, List.foldl_cons, List.foldl_nil, Act.put, List.setIfInBounds_toArray, List.set_cons_zero, List.set_cons_succ]
                have HO1 := Lib.hid (own_new0 x1 z1.heap.size 63 3 hz1)
                clear hR1
                go_simp
                refine HK.out (.slice (some ⟨x1.heap.size, 0, none⟩) 0 0) _ _ (by simp only [puts, List.nil_append, List.cons_append, List.foldl_cons, List.foldl_nil, Act.put, List.setIfInBounds_toArray, List.set_cons_zero, List.set_cons_succ]) (Kp.of_below ((Below.refl _ _).alloc (Nat.le_refl _) _)) ?_
                refine rob_nil ?_
                intro x8 hR8
                exact ⟨x1.heap.size, rfl, own_kpn HO1.out hR8⟩
              refine wpM_S (fun l W => ∃ g, l = [(some 10, .pointer (some ⟨g, 0, none⟩))] ∧ Blk W g 26 #[.bool false, .slice none 0 0, .slice none 0 0, .slice none 0 0] ∧ z1.heap.size ≤ g) (floatT z1.heap.size 26) (floatT_ok _ _) (fun _ _ h => h) (fun d hd => by simp only [List.nil_append, List.mem_singleton] at hd; subst hd; exact floatT_with _ _ _) ?_
              intro y0 hR0b
              have HXY := Lib.hid (HKw.out _ ((hR0.trans hR0b).mono fun _ h => h.elim))
              have hzy : z1.heap.size ≤ y0.heap.size := HXY.out.size
              clear hR0 hR0b hz0
              refine ⟨?_, ?_⟩
              · refine rob_C rfl (by rfl) ?_
                intro x1 hR1 K HK
                have hz1 : z1.heap.size ≤ x1.heap.size := Nat.le_trans hzy (Kp.size hR1)
                simp only [puts, List.nil_append, List.cons_append, List.foldl_cons, List.foldl_nil, Act.put, List.setIfInBounds_toArray, List.set_cons_zero, List.set_cons_succ]
                have HG1 := Lib.hid (Blk.new x1 26 #[.bool false, .slice none 0 0, .slice none 0 0, .slice none 0 0])
                clear hR1
                go_simp
                refine HK.out (.pointer (some ⟨x1.heap.size, 0, none⟩)) _ _ (by simp only [puts, List.nil_append, List.cons_append, List.foldl_cons, List.foldl_nil, Act.put, List.setIfInBounds_toArray, List.set_cons_zero, List.set_cons_succ]) (Kp.of_below ((Below.refl _ _).alloc (Nat.le_refl _) _)) ?_
                refine rob_nil ?_
                intro x8 hR8
                exact ⟨x1.heap.size, rfl, HG1.out.kpn hR8, hz1⟩
              refine wpM_C rfl (by rfl) ?_
              intro y1 hR K HK
              replace HXY := Lib.hid (HXY.out.trans (Kp.below (N := z1.heap.size) hR hzy))
              replace hzy : z1.heap.size ≤ y1.heap.size := HXY.out.size
              have HS := Lib.hid (own_new0 y1 z1.heap.size 9 1 hzy)
              clear hR
              try simp only [puts, List.nil_append, List.cons_append, List.foldl_cons, List.foldl_nil, Act.put, List.setIfInBounds_toArray, List.set_cons_zero, List.set_cons_succ]
              go_simp
              refine HK.out (.slice (some ⟨y1.heap.size, 0, none⟩) 0 0) _ _ (by simp only [puts, List.nil_append, List.cons_append, List.foldl_cons, List.foldl_nil, Act.put, List.setIfInBounds_toArray, List.set_cons_zero, List.set_cons_succ]) (Kp.of_below ((Below.refl _ _).alloc (Nat.le_refl _) _)) (bg2 (Kp.of_below ((Below.refl _ _).alloc (Nat.le_refl _) _)) (Kp.of_below ((Below.refl _ _).alloc (Nat.le_refl _) _))) ?_
              replace HXY := Lib.hid (HXY.out.alloc hzy (.cells #[] 9))
              clear HK
              refine wpM_C rfl (by rfl) ?_
              intro y2 hR K HK
              replace HS := Lib.hid (own_kp0 HS.out hR)
              replace HXY := Lib.hid (HXY.out.trans (Kp.below (N := z1.heap.size) hR HXY.out.size))
              replace hzy : z1.heap.size ≤ y2.heap.size := HXY.out.size
              clear hR
              try simp only [puts, List.nil_append, List.cons_append, List.foldl_cons, List.foldl_nil, Act.put, List.setIfInBounds_toArray, List.set_cons_zero, List.set_cons_succ]
              refine wp_appS (.tmp 119) (.tmp 123) 22 rfl z1.heap.size 9 iS (.string ⟨#[]⟩) 1 16 Try.underlying22 hiS hzS rfl hsS (by omega) hbS (by omega) (.slice (some ⟨y1.heap.size, 0, none⟩) 0 0) 0 [] y2 HS.out rfl _ k1 q kc _ (HK1.out.below HXY.out) HL1.out (one_S _) rfl (by omega) hzy ?_
              intro v6 y3 h6 hc6 hb6
              rw [Nat.zero_add, List.nil_append] at h6
              refine HK.out v6 y3 _ (by simp only [puts, List.nil_append, List.cons_append, List.foldl_cons, List.foldl_nil, Act.put, List.setIfInBounds_toArray, List.set_cons_zero, List.set_cons_succ]) (Kp.of_chg hc6 fun q hq => ⟨(own_isT HS.out hq).1, trivial⟩) (bg2 (floatT_R (Kp.of_chg hc6 fun q hq => own_isT HS.out hq) (by decide)) (floatT_R (Kp.of_chg hc6 fun q hq => own_isT HS.out hq) (by decide))) ?_
              replace HS := Lib.hid h6
              replace HXY := Lib.hid (HXY.out.trans hb6)
              clear h6 hc6 hb6 HK
              refine wpM_C rfl (by rfl) ?_
              intro y4 hR K HK
              replace HS := Lib.hid (own_kp0 HS.out hR)
              replace HXY := Lib.hid (HXY.out.trans (Kp.below (N := z1.heap.size) hR HXY.out.size))
              replace hzy : z1.heap.size ≤ y4.heap.size := HXY.out.size
              clear hR
              try simp only [puts, List.nil_append, List.cons_append, List.foldl_cons, List.foldl_nil, Act.put, List.setIfInBounds_toArray, List.set_cons_zero, List.set_cons_succ]
              refine wp_appS (.tmp 124) (.tmp 129) 22 rfl z1.heap.size 9 iS (.string ⟨#[]⟩) 1 16 Try.underlying22 hiS hzS rfl hsS (by omega) hbS (by omega) v6 q _ y4 HS.out rfl _ k2 (kl - (q + 1)) (kc - (q + 1)) _ (HK2.out.below HXY.out) HL2.out (one_S _) rfl (by omega) hzy ?_
              intro v7 y5 h7 hc7 hb7
              rw [← cellsS_app] at h7
              obtain ⟨a79, c79, rfl, _, _, _⟩ := own_slice h7
              refine HK.out (.slice a79 (q + (kl - (q + 1))) c79) y5 _ (by simp only [puts, List.nil_append, List.cons_append, List.foldl_cons, List.foldl_nil, Act.put, List.setIfInBounds_toArray, List.set_cons_zero, List.set_cons_succ]) (Kp.of_chg hc7 fun q hq => ⟨(own_isT HS.out hq).1, trivial⟩) (bg2 (floatT_R (Kp.of_chg hc7 fun q hq => own_isT HS.out hq) (by decide)) (floatT_R (Kp.of_chg hc7 fun q hq => own_isT HS.out hq) (by decide))) ?_
              replace HS := Lib.hid h7
              replace HXY := Lib.hid (HXY.out.trans hb7)
              clear h7 hc7 hb7 HK
              refine wpM_W ?_
              intro y6 l hR hE
              obtain ⟨g80, rfl, hC⟩ := hE
              have HC := Lib.hid hC
              replace HS := Lib.hid (own_kp0 HS.out hR)
              replace HXY := Lib.hid (HXY.out.trans (Kp.below (N := z1.heap.size) hR HXY.out.size))
              clear hC hR
              simp only [puts, List.nil_append, List.cons_append, List.foldl_cons, List.foldl_nil, Act.put, List.setIfInBounds_toArray, List.set_cons_zero, List.set_cons_succ]
              refine wpM_C rfl (by rfl) ?_
              intro y7 hR K HK
              replace HS := Lib.hid (own_kp0 HS.out hR)
              replace HC := Lib.hid (own_kp0 HC.out hR)
              replace HXY := Lib.hid (HXY.out.trans (Kp.below (N := z1.heap.size) hR HXY.out.size))
              replace hzy : z1.heap.size ≤ y7.heap.size := HXY.out.size
              clear hR
              try simp only [puts, List.nil_append, List.cons_append, List.foldl_cons, List.foldl_nil, Act.put, List.setIfInBounds_toArray, List.set_cons_zero, List.set_cons_succ]
              refine wp_appS (.tmp 131) (.tmp 135) 23 rfl z1.heap.size 63 iC (.agg #[.int .i64 0, .string ⟨#[]⟩, .int .i64 0]) 3 32 Try.underlying23 hiC hzC rfl hsC (by omega) hbC (by omega) (.slice (some ⟨g80, 0, none⟩) 0 0) 0 [] y7 HC.out rfl _ k3 q cc _ (HK3.out.below HXY.out) HL3.out (one_C _) rfl (by omega) hzy ?_
              intro v83 y8 h83 hc83 hb83
              rw [Nat.zero_add, List.nil_append] at h83
              refine HK.out v83 y8 _ (by simp only [puts, List.nil_append, List.cons_append, List.foldl_cons, List.foldl_nil, Act.put, List.setIfInBounds_toArray, List.set_cons_zero, List.set_cons_succ]) (Kp.of_chg hc83 fun q hq => ⟨(own_isT HC.out hq).1, trivial⟩) (bg1 (floatT_R (Kp.of_chg hc83 fun q hq => own_isT HC.out hq) (by decide))) ?_
              replace HS := Lib.hid (own_chg HS.out hc83 (fun g hg hm => own_apart HS.out HC.out (by decide) g hg (Option.mem_toList.1 hm)))
              replace HC := Lib.hid h83
              replace HXY := Lib.hid (HXY.out.trans hb83)
              clear h83 hc83 hb83 HK
              refine wpM_C rfl (by rfl) ?_
              intro y9 hR K HK
              replace HS := Lib.hid (own_kp0 HS.out hR)
              replace HC := Lib.hid (own_kp0 HC.out hR)
              replace HXY := Lib.hid (HXY.out.trans (Kp.below (N := z1.heap.size) hR HXY.out.size))
              replace hzy : z1.heap.size ≤ y9.heap.size := HXY.out.size
              clear hR
              try simp only [puts, List.nil_append, List.cons_append, List.foldl_cons, List.foldl_nil, Act.put, List.setIfInBounds_toArray, List.set_cons_zero, List.set_cons_succ]
              refine wp_appS (.tmp 136) (.tmp 141) 23 rfl z1.heap.size 63 iC (.agg #[.int .i64 0, .string ⟨#[]⟩, .int .i64 0]) 3 32 Try.underlying23 hiC hzC rfl hsC (by omega) hbC (by omega) v83 q _ y9 HC.out rfl _ k4 (cl - (q + 1)) (cc - (q + 1)) _ (HK4.out.below HXY.out) HL4.out (one_C _) rfl (by omega) hzy ?_
              intro v86 y10 h86 hc86 hb86
              rw [← cellsC_app] at h86
              obtain ⟨a86, c86, rfl, hc86l, hc86m, _⟩ := own_slice h86
              refine HK.out (.slice a86 (q + (cl - (q + 1))) c86) y10 _ (by simp only [puts, List.nil_append, List.cons_append, List.foldl_cons, List.foldl_nil, Act.put, List.setIfInBounds_toArray, List.set_cons_zero, List.set_cons_succ]) (Kp.of_chg hc86 fun q hq => ⟨(own_isT HC.out hq).1, trivial⟩) (bg1 (floatT_R (Kp.of_chg hc86 fun q hq => own_isT HC.out hq) (by decide))) ?_
              replace HS := Lib.hid (own_chg HS.out hc86 (fun g hg hm => own_apart HS.out HC.out (by decide) g hg (Option.mem_toList.1 hm)))
              replace HC := Lib.hid h86
              replace HXY := Lib.hid (HXY.out.trans hb86)
              clear h86 hc86 hb86 HK
              repeat (first | (refine wpM_F (v := ?_) rfl (by rfl) (fun w' hL => ?_) ?_; rotate_left; (solve | (go_simp; with_reducible rfl) | go_simp); try simp only [Act.put, List.setIfInBounds_toArray, List.set_cons_zero, List.set_cons_succ]) | (refine wpM_G rfl (by rfl) ?_; try simp only [Act.put, List.setIfInBounds_toArray, List.set_cons_zero, List.set_cons_succ]))
              refine wpM_W ?_
              intro y11 l hR hE
              obtain ⟨gl, rfl, hG, hgN⟩ := hE
              have HG := Lib.hid hG
              replace HS := Lib.hid (own_kp0 HS.out hR)
              replace HC := Lib.hid (own_kp0 HC.out hR)
              replace HXY := Lib.hid (HXY.out.trans (Kp.below (N := z1.heap.size) hR HXY.out.size))
              clear hG hR
              simp only [puts, List.nil_append, List.cons_append, List.foldl_cons, List.foldl_nil, Act.put, List.setIfInBounds_toArray, List.set_cons_zero, List.set_cons_succ]
              refine wpM_C rfl (by rfl) ?_
              intro y12 hR K HK
              replace HS := Lib.hid (own_kp0 HS.out hR)
              replace HC := Lib.hid (own_kp0 HC.out hR)
              replace HXY := Lib.hid (HXY.out.trans (Kp.below (N := z1.heap.size) hR HXY.out.size))
              replace hzy : z1.heap.size ≤ y12.heap.size := HXY.out.size
              replace HG := Lib.hid (HG.out.kp0 hR)
              clear hR
              try simp only [puts, List.nil_append, List.cons_append, List.foldl_cons, List.foldl_nil, Act.put, List.setIfInBounds_toArray, List.set_cons_zero, List.set_cons_succ]
              have g0 : (y12.cell? ⟨gl, 0, none⟩) = some (.bool false) := HG.out.cell 0
              have gf0 : y12.frozen? ⟨gl, 0, none⟩ = false := HG.out.frozen 0
              have g1 : (y12.cell? ⟨gl, 1, none⟩) = some (.slice none 0 0) := HG.out.cell 1
              have gf1 : y12.frozen? ⟨gl, 1, none⟩ = false := HG.out.frozen 1
              have g2 : (y12.cell? ⟨gl, 2, none⟩) = some (.slice none 0 0) := HG.out.cell 2
              have gf2 : y12.frozen? ⟨gl, 2, none⟩ = false := HG.out.frozen 2
              have g3 : (y12.cell? ⟨gl, 3, none⟩) = some (.slice none 0 0) := HG.out.cell 3
              have gf3 : y12.frozen? ⟨gl, 3, none⟩ = false := HG.out.frozen 3
              have glt := HG.out.lt
              have hzc : Chg [gl] y12 ((((y12.setCell ⟨gl, 0, none⟩ (.bool true)).setCell ⟨gl, 1, none⟩ (.slice a79 (q + (kl - (q + 1))) c79)).setCell ⟨gl, 2, none⟩ (.slice a86 (q + (cl - (q + 1))) c86)).setCell ⟨gl, 3, none⟩ (.slice none 0 0)) := set4_chg (by simp) _ _ _ _
              have HXZ : Hid (Below z1.heap.size z1 ((((y12.setCell ⟨gl, 0, none⟩ (.bool true)).setCell ⟨gl, 1, none⟩ (.slice a79 (q + (kl - (q + 1))) c79)).setCell ⟨gl, 2, none⟩ (.slice a86 (q + (cl - (q + 1))) c86)).setCell ⟨gl, 3, none⟩ (.slice none 0 0))) := HXY.out.trans (hzc.below HXY.out.size (by simpa using hgN))
              have HGZ : Hid (Blk ((((y12.setCell ⟨gl, 0, none⟩ (.bool true)).setCell ⟨gl, 1, none⟩ (.slice a79 (q + (kl - (q + 1))) c79)).setCell ⟨gl, 2, none⟩ (.slice a86 (q + (cl - (q + 1))) c86)).setCell ⟨gl, 3, none⟩ (.slice none 0 0)) gl 26 #[.bool true, .slice a79 (q + (kl - (q + 1))) c79, .slice a86 (q + (cl - (q + 1))) c86, .slice none 0 0]) := Blk.st4 HG.out _ _ _ _
              have HWZ : Hid (NAt ((((y12.setCell ⟨gl, 0, none⟩ (.bool true)).setCell ⟨gl, 1, none⟩ (.slice a79 (q + (kl - (q + 1))) c79)).setCell ⟨gl, 2, none⟩ (.slice a86 (q + (cl - (q + 1))) c86)).setCell ⟨gl, 3, none⟩ (.slice none 0 0)) (lessN n q) ⟨a79, q + (kl - (q + 1)), c79, a86, q + (cl - (q + 1)), c86, none, 0, 0⟩) := by
                have hk := own_chg HS.out hzc (fun g hg hm => own_ne HS.out HG.out (by decide) (by simp at hm; rw [hg, hm]))
                have hc := own_chg HC.out hzc (fun g hg hm => own_ne HC.out HG.out (by decide) (by simp at hm; rw [hg, hm]))
                obtain ⟨_, _, e1, k1, k2, k3⟩ := own_slice hk
                obtain ⟨_, _, e2, c1, c2, c3⟩ := own_slice hc
                simp only [Value.slice.injEq, true_and] at e1 e2
                obtain ⟨rfl, rfl⟩ := e1
                obtain ⟨rfl, rfl⟩ := e2
                have hk0 := HKL.out
                have hc0 := HCL.out
                have hck0 := HClk.out
                refine ⟨?_, ?_, rfl, k1, c1, Nat.le_refl _, by simp only; omega, by simp only; omega, by simp only; omega, k3, c3, .inl rfl, fun x hx => HP.out.nn.kfair x ?_, fun x hx => HP.out.nn.cfair x ?_, fun x hx => by cases hx⟩
                · simp only [lessN, List.length_append, List.length_take, List.length_drop]; omega
                · simp only [lessN, List.length_append, List.length_take, List.length_drop]; omega
                · rcases List.mem_append.1 hx with h | h
                  · exact List.mem_of_mem_take h
                  · exact List.mem_of_mem_drop h
                · rcases List.mem_append.1 hx with h | h
                  · exact List.mem_of_mem_take h
                  · exact List.mem_of_mem_drop h
              clear hzc
              go_simp
              refine HK.out undef _ _ (by simp only [puts, List.nil_append, List.cons_append, List.foldl_cons, List.foldl_nil, Act.put, List.setIfInBounds_toArray, List.set_cons_zero, List.set_cons_succ]) (Kp.of_chg (set4_chg (S := [gl]) (by simp) _ _ _ _) (fun q hq => by simp only [List.mem_singleton] at hq; subst hq; exact ⟨hgN, trivial⟩)) bg0 ?_
              clear HK
              clear g0 gf0 g1 gf1 g2 gf2 g3 gf3 glt HC HS HG HXY HKw hzy HK1 HK2 HK3 HK4 HL1 HL2 HL3 HL4
              obtain ⟨Z0, hZ⟩ : ∃ Z, ((((y12.setCell ⟨gl, 0, none⟩ (.bool true)).setCell ⟨gl, 1, none⟩ (.slice a79 (q + (kl - (q + 1))) c79)).setCell ⟨gl, 2, none⟩ (.slice a86 (q + (cl - (q + 1))) c86)).setCell ⟨gl, 3, none⟩ (.slice none 0 0)) = Z := ⟨_, rfl⟩
              rw [hZ] at HXZ HGZ HWZ
              rw [hZ]
              clear hZ
              refine wpM_nil ?_
              intro Z2 hR
              have hbZ : Below z1.heap.size Z0 Z2 := Kp.below (N := z1.heap.size) hR HXZ.out.size
              have hbZ2 : Below Z0.heap.size Z0 Z2 := ⟨hR.os, hR.tape, hR.output, hR.size, fun k hk => by rcases hR.block k hk with h1 | ⟨_, h1⟩; exact h1; exact h1.elim⟩
              replace HP := Lib.hid (HP.out.go (HXZ.out.trans hbZ))
              replace HGZ := Lib.hid (HGZ.out.kp0 hR)
              replace HWZ := Lib.hid (HWZ.out.later hbZ2)
              clear HXZ hbZ hbZ2 hR
              have HLok : Hid ((lessN n q).ok = true) := Nd.ok_eq (b := true) ⟨fun _ => rfl, fun _ => lessN_ok HOk.out HLf.out q⟩
              have HLes : Hid ((encN (lessN n q).asR).length ≤ 512 → (encN a.asR).length ≤ 512 ∧ (encN b.asR).length ≤ 512) := by
                intro h
                rw [HA.out, HB.out, moved_leaf HLf.out, Nat.add_zero]
                have h1 := HGe.out
                have h2 := HSh.out
                rw [moved_leaf HLf.out] at h1 h2
                exact less_halves HOk.out HLf.out (by omega) (by simpa using h2) (by rw [← HKL.out]; exact hq) h
              go_wp2_with fail
              refine (HAl.out _).mono ?_
              rintro e v1 ⟨rfl, hb⟩
              replace HP := Lib.hid (HP.out.go hb)
              replace HGZ := Lib.hid (HGZ.out.bel hb HGZ.out.lt)
              replace HWZ := Lib.hid (HWZ.out.later hb)
              clear hb
              have g0 : v1.cell? ⟨gl, 0, none⟩ = some (.bool true) := HGZ.out.cell 0
              have g1 : v1.cell? ⟨gl, 1, none⟩ = some (.slice a79 (q + (kl - (q + 1))) c79) := HGZ.out.cell 1
              have g2 : v1.cell? ⟨gl, 2, none⟩ = some (.slice a86 (q + (cl - (q + 1))) c86) := HGZ.out.cell 2
              have g3 : v1.cell? ⟨gl, 3, none⟩ = some (.slice none 0 0) := HGZ.out.cell 3
              have glt : gl < v1.heap.size := HGZ.out.lt
              have HSz := NSize_any (lessN n q) ⟨a79, q + (kl - (q + 1)), c79, a86, q + (cl - (q + 1)), c86, none, 0, 0⟩ v1 HWZ.out (by simp only; omega)
              rw [HLok.out, if_pos rfl] at HSz
              rw [show (lessN n q).leaf = true from rfl] at HSz
              obtain ⟨SL, hSL⟩ : ∃ S, (encN (lessN n q).asR).length = S := ⟨_, rfl⟩
              rw [hSL] at HSz HLes
              have HSz := Lib.hid HSz
              clear hSL
              go_wp2_with fail
              clear g0 g1 g2 g3 glt
              refine HSz.out.mono ?_
              rintro e v2 ⟨rfl, hb⟩
              replace HP := Lib.hid (HP.out.go hb)
              clear hb HSz HWZ HGZ
              by_cases h5 : 512 < SL
              · have q5 : decide ((512 : Int) < (SL : Int)) = true := by simp; omega
                go_wp2
                go_ret
                exact ⟨rfl, HP.out.bel⟩
              · have q5 : decide ((512 : Int) < (SL : Int)) = false := by simp; omega
                obtain ⟨hsa, hsb⟩ := HLes.out (by omega)
                have HSa := NSize_any a ma v2 HP.out.na (by omega)
                rw [HAok.out, if_pos rfl, HAl2.out] at HSa
                obtain ⟨Sa, hSa⟩ : ∃ S, (encN a.asR).length = S := ⟨_, rfl⟩
                rw [hSa] at HSa hsa
                have HSa := Lib.hid HSa
                clear hSa
                have qa : decide ((Sa : Int) ≤ 512) = true := by simp; omega
                have a0 : v2.cell? ⟨ga, 0, none⟩ = some (.bool true) := by rw [← HAl2.out]; exact Blk.cell HP.out.a0 0
                have a1 : v2.cell? ⟨ga, 1, none⟩ = some (.slice ma.ka ma.kl ma.kc) := Blk.cell HP.out.a0 1
                have a2 : v2.cell? ⟨ga, 2, none⟩ = some (.slice ma.ca ma.cl ma.cc) := Blk.cell HP.out.a0 2
                have a3 : v2.cell? ⟨ga, 3, none⟩ = some (.slice ma.da ma.dl ma.dc) := Blk.cell HP.out.a0 3
                have alt : ga < v2.heap.size := Blk.lt HP.out.a0
                go_wp2_with fail
                clear a0 a1 a2 a3 alt
                refine HSa.out.mono ?_
                rintro e v3 ⟨rfl, hb⟩
                replace HP := Lib.hid (HP.out.go hb)
                clear hb HSa
                have HSb := NSize_any b mb v3 HP.out.nb (by omega)
                rw [HBok.out, if_pos rfl, HBl2.out] at HSb
                obtain ⟨Sb, hSb⟩ : ∃ S, (encN b.asR).length = S := ⟨_, rfl⟩
                rw [hSb] at HSb hsb
                have HSb := Lib.hid HSb
                clear hSb
                have qb : decide ((Sb : Int) ≤ 512) = true := by simp; omega
                have b0 : v3.cell? ⟨ga + 1, 0, none⟩ = some (.bool true) := by rw [← HBl2.out]; exact Blk.cell HP.out.b0 0
                have b1 : v3.cell? ⟨ga + 1, 1, none⟩ = some (.slice mb.ka mb.kl mb.kc) := Blk.cell HP.out.b0 1
                have b2 : v3.cell? ⟨ga + 1, 2, none⟩ = some (.slice mb.ca mb.cl mb.cc) := Blk.cell HP.out.b0 2
                have b3 : v3.cell? ⟨ga + 1, 3, none⟩ = some (.slice mb.da mb.dl mb.dc) := Blk.cell HP.out.b0 3
                have blt : ga + 1 < v3.heap.size := Blk.lt HP.out.b0
                go_wp2_with fail
                clear b0 b1 b2 b3 blt
                refine HSb.out.mono ?_
                rintro e v4 ⟨rfl, hb⟩
                replace HP := Lib.hid (HP.out.go hb)
                clear hb HSb
                go_wp2
                go_ret
                exact ⟨rfl, HP.out.bel⟩
        | false =>
          have HKs : Hid (a.keys ++ ([k] ++ b.keys) = n.keys ∧ ma.kl + 1 + mb.kl = kl) := by
            have h1 : a.keys ++ ([k] ++ b.keys) = n.keys := by have := HWh.out.1; simpa using this
            refine ⟨h1, ?_⟩
            have e1 := congrArg List.length h1
            rw [List.length_append, List.length_append, List.length_singleton] at e1
            have h2 := HP.out.na.hk
            have h3 := HP.out.nb.hk
            have := HKL.out
            omega
          go_wp2_with (first | (at_builtin; refine wpList_appS rfl (.tmp 55) (.tmp 57) 22 rfl w5.heap.size 9 iS (.string ⟨#[]⟩) 1 16 Try.underlying22 hiS hzS rfl hsS (by omega) hbS (by omega) (.slice (some ⟨w5.heap.size, 0, none⟩) 0 0) 0 [] _ (own_new0 w5 w5.heap.size 9 1 (Nat.le_refl _)) rfl _ ma.ka ma.kl ma.kc _ (HP.out.na.karr.later (N := 0) ((Below.refl w5.heap.size w5).alloc (Nat.le_refl _) (.cells #[] 9))) HAAl.out (one_S _) rfl (by omega) (by simp) ?_; intro v6 x6 h6 _ hb6; rw [Nat.zero_add, List.nil_append] at h6; obtain ⟨a6, c6, rfl, _, _, _⟩ := own_slice h6; have H6 := Lib.hid h6; have HB6 := Lib.hid (((Below.refl w5.heap.size w5).alloc (Nat.le_refl _) (.cells #[] 9)).trans hb6); have n0 : x6.cell? ⟨w.heap.size, 0, none⟩ = some (.bool false) := Blk.cell (HP.out.go HB6.out).n0 0; have b1 : x6.cell? ⟨ga + 1, 1, none⟩ = some (.slice mb.ka mb.kl mb.kc) := Blk.cell (HP.out.go HB6.out).b0 1; have blt : ga + 1 < x6.heap.size := Blk.lt (HP.out.go HB6.out).b0; have nlt : w.heap.size < x6.heap.size := Blk.lt (HP.out.go HB6.out).n0; have hs6 := HB6.out.size; clear h6 hb6) | (at_builtin; refine wpList_appN rfl (.tmp 62) (.tmp 64) 22 rfl w5.heap.size 9 iS (.string ⟨#[]⟩) 1 16 Try.underlying22 hiS hzS rfl hsS (by omega) hbS (by omega) (.slice a6 ma.kl c6) ma.kl _ [.string k] x6 H6.out rfl _ rfl rfl (by simp [Value.oneCell']) rfl (by omega) hs6 ?_; intro v7 x7 h7 hb7 _; obtain ⟨a7, c7, rfl, _, _, _⟩ := own_slice h7; have H7 := Lib.hid h7; have HB7 := Lib.hid (HB6.out.trans hb7); have b1 : x7.cell? ⟨ga + 1, 1, none⟩ = some (.slice mb.ka mb.kl mb.kc) := Blk.cell (HP.out.go HB7.out).b0 1; have blt : ga + 1 < x7.heap.size := Blk.lt (HP.out.go HB7.out).b0; have hs7 := HB7.out.size; clear h7 hb7) | (at_builtin; refine wpList_appS rfl (.tmp 66) (.tmp 68) 22 rfl w5.heap.size 9 iS (.string ⟨#[]⟩) 1 16 Try.underlying22 hiS hzS rfl hsS (by omega) hbS (by omega) (.slice a7 (ma.kl + 1) c7) (ma.kl + 1) _ x7 H7.out rfl _ mb.ka mb.kl mb.kc _ (HP.out.nb.karr.later (N := 0) HB7.out) HBAl.out (one_S _) rfl (by omega) hs7 ?_; intro v9 x9 h9 _ hb9; rw [show cellsS a.keys ++ [Value.string k] ++ cellsS b.keys = cellsS n.keys by rw [← HKs.out.1, cellsS_app, cellsS_app, List.append_assoc]; rfl] at h9; rw [show (ma.kl + 1) + mb.kl = kl from HKs.out.2] at h9; obtain ⟨a9, c9, rfl, hc9, hm9, _⟩ := own_slice h9; have H9 := Lib.hid h9; have HB9 := Lib.hid (HB7.out.trans hb9); have hs9 := HB9.out.size; clear h9 hb9))
          have HPX := Lib.hid (HP.out.go HB9.out)
          have HACl : Hid ((cellsC a.cells).length = ma.cl * 3) := by show _ = _; rw [cellsC_len, HPX.out.na.hc]
          have HBCl : Hid ((cellsC b.cells).length = mb.cl * 3) := by show _ = _; rw [cellsC_len, HPX.out.nb.hc]
          have HADl : Hid ((cellsI a.kids).length = ma.dl * 1) := by show _ = _; rw [cellsI_len, HPX.out.na.hd]
          have HBDl : Hid ((cellsI b.kids).length = mb.dl * 1) := by show _ = _; rw [cellsI_len, HPX.out.nb.hd]
          have HKw : Hid (∀ W, Kp x9.heap.size (fun _ => True) x9.drew W → Below x9.heap.size x9 W) := fun W h => h.undrew.below (Nat.le_refl _)
          have n0 : ∀ W, Kp x9.heap.size (fun _ => True) x9.drew W → W.cell? ⟨w.heap.size, 0, none⟩ = some (.bool false) := fun W h => Blk.cell (HPX.out.go (HKw.out W h)).n0 0
          have a2 : ∀ W, Kp x9.heap.size (fun _ => True) x9.drew W → W.cell? ⟨ga, 2, none⟩ = some (.slice ma.ca ma.cl ma.cc) := fun W h => Blk.cell (HPX.out.go (HKw.out W h)).a0 2
          have a3 : ∀ W, Kp x9.heap.size (fun _ => True) x9.drew W → W.cell? ⟨ga, 3, none⟩ = some (.slice ma.da ma.dl ma.dc) := fun W h => Blk.cell (HPX.out.go (HKw.out W h)).a0 3
          have b2 : ∀ W, Kp x9.heap.size (fun _ => True) x9.drew W → W.cell? ⟨ga + 1, 2, none⟩ = some (.slice mb.ca mb.cl mb.cc) := fun W h => Blk.cell (HPX.out.go (HKw.out W h)).b0 2
          have b3 : ∀ W, Kp x9.heap.size (fun _ => True) x9.drew W → W.cell? ⟨ga + 1, 3, none⟩ = some (.slice mb.da mb.dl mb.dc) := fun W h => Blk.cell (HPX.out.go (HKw.out W h)).b0 3
          refine wp_region_main x9.heap.size 200 [.f 0, .f 1, .f 2, .f 4, .f 5, .f 7, .f 8, .f 11, .f 12, .f 14, .f 15, .s [10], .s [18], .c 3, .c 6, .c 9, .w, .c 13, .c 16, .f 17, .w, .c 19] (by kernel_rfl) (by kernel_rfl) (by kernel_rfl) (by kernel_rfl) ?_
          repeat (first | ((refine wpM_F rfl (by rfl) (fun w' hL => exec_load rfl rfl (n0 w' hL)) ?_); try simp only [Act.put, List.setIfInBounds_toArray, List.set_cons_zero, List.set_cons_succ]) | ((refine wpM_F rfl (by rfl) (fun w' hL => exec_load rfl rfl (a2 w' hL)) ?_); try simp only [Act.put, List.setIfInBounds_toArray, List.set_cons_zero, List.set_cons_succ]) | ((refine wpM_F rfl (by rfl) (fun w' hL => exec_load rfl rfl (a3 w' hL)) ?_); try simp only [Act.put, List.setIfInBounds_toArray, List.set_cons_zero, List.set_cons_succ]) | ((refine wpM_F rfl (by rfl) (fun w' hL => exec_load rfl rfl (b2 w' hL)) ?_); try simp only [Act.put, List.setIfInBounds_toArray, List.set_cons_zero, List.set_cons_succ]) | ((refine wpM_F rfl (by rfl) (fun w' hL => exec_load rfl rfl (b3 w' hL)) ?_); try simp only [Act.put, List.setIfInBounds_toArray, List.set_cons_zero, List.set_cons_succ]) | (refine wpM_F (v := ?_) rfl (by rfl) (fun w' hL => ?_) ?_; rotate_left; (solve | (go_simp; with_reducible rfl) | go_simp); try simp only [Act.put, List.setIfInBounds_toArray, List.set_cons_zero, List.set_cons_succ]) | (refine wpM_G rfl (by rfl) ?_; try simp only [Act.put, List.setIfInBounds_toArray, List.set_cons_zero, List.set_cons_succ]))
          clear n0 a2 a3 b2 b3
          refine wpM_S (fun l W => ∃ g, l = [(some 80, .slice (some ⟨g, 0, none⟩) 0 0)] ∧ W.ownsRow x9.heap.size 3 1 (.slice (some ⟨g, 0, none⟩) 0 0) 0 []) (floatT x9.heap.size 3) (floatT_ok _ _) (fun _ _ h => h) (fun _ h => by cases h) ?_
          intro x0 hR0
          have hz0 : x9.heap.size ≤ x0.heap.size := hR0.size
          refine ⟨?_, ?_⟩
          · refine rob_C rfl (by rfl) ?_
            intro x1 hR1 K HK
            have hz1 : x9.heap.size ≤ x1.heap.size := Nat.le_trans hz0 (Kp.size hR1)
            simp only [puts, List.nil_append, List.cons_append, List.foldl_cons, List.foldl_nil, Act.put, List.setIfInBounds_toArray, List.set_cons_zero, List.set_cons_succ]
            have HO1 := Lib.hid (own_new0 x1 x9.heap.size 3 1 hz1)
            clear hR1
            go_simp
            refine HK.out (.slice (some ⟨x1.heap.size, 0, none⟩) 0 0) _ _ (by simp only [puts, List.nil_append, List.cons_append, List.foldl_cons, List.foldl_nil, Act.put, List.setIfInBounds_toArray, List.set_cons_zero, List.set_cons_succ]) (Kp.of_below ((Below.refl _ _).alloc (Nat.le_refl _) _)) ?_
            refine rob_nil ?_
            intro x8 hR8
            exact ⟨x1.heap.size, rfl, own_kpn HO1.out hR8⟩
          refine wpM_S (fun l W => ∃ g, l = [(some 9, .pointer (some ⟨g, 0, none⟩))] ∧ Blk W g 26 #[.bool false, .slice none 0 0, .slice none 0 0, .slice none 0 0] ∧ x9.heap.size ≤ g) (floatT x9.heap.size 26) (floatT_ok _ _) (fun _ _ h => h) (fun d hd => by simp only [List.nil_append, List.mem_singleton] at hd; subst hd; exact floatT_with _ _ _) ?_
          intro y0 hR0b
          have HXY := Lib.hid (HKw.out _ ((hR0.trans hR0b).mono fun _ h => h.elim))
          have hzy : x9.heap.size ≤ y0.heap.size := HXY.out.size
          clear hR0 hR0b hz0
          refine ⟨?_, ?_⟩
          · refine rob_C rfl (by rfl) ?_
            intro x1 hR1 K HK
            have hz1 : x9.heap.size ≤ x1.heap.size := Nat.le_trans hzy (Kp.size hR1)
            simp only [puts, List.nil_append, List.cons_append, List.foldl_cons, List.foldl_nil, Act.put, List.setIfInBounds_toArray, List.set_cons_zero, List.set_cons_succ]
            have HG1 := Lib.hid (Blk.new x1 26 #[.bool false, .slice none 0 0, .slice none 0 0, .slice none 0 0])
            clear hR1
            go_simp
            refine HK.out (.pointer (some ⟨x1.heap.size, 0, none⟩)) _ _ (by simp only [puts, List.nil_append, List.cons_append, List.foldl_cons, List.foldl_nil, Act.put, List.setIfInBounds_toArray, List.set_cons_zero, List.set_cons_succ]) (Kp.of_below ((Below.refl _ _).alloc (Nat.le_refl _) _)) ?_
            refine rob_nil ?_
            intro x8 hR8
            exact ⟨x1.heap.size, rfl, HG1.out.kpn hR8, hz1⟩
          refine wpM_C rfl (by rfl) ?_
          intro y1 hR K HK
          replace HXY := Lib.hid (HXY.out.trans (Kp.below (N := x9.heap.size) hR hzy))
          replace hzy : x9.heap.size ≤ y1.heap.size := HXY.out.size
          have HC := Lib.hid (own_new0 y1 x9.heap.size 63 3 hzy)
          clear hR
          try simp only [puts, List.nil_append, List.cons_append, List.foldl_cons, List.foldl_nil, Act.put, List.setIfInBounds_toArray, List.set_cons_zero, List.set_cons_succ]
          go_simp
          refine HK.out (.slice (some ⟨y1.heap.size, 0, none⟩) 0 0) _ _ (by simp only [puts, List.nil_append, List.cons_append, List.foldl_cons, List.foldl_nil, Act.put, List.setIfInBounds_toArray, List.set_cons_zero, List.set_cons_succ]) (Kp.of_below ((Below.refl _ _).alloc (Nat.le_refl _) _)) (bg2 (Kp.of_below ((Below.refl _ _).alloc (Nat.le_refl _) _)) (Kp.of_below ((Below.refl _ _).alloc (Nat.le_refl _) _))) ?_
          replace HXY := Lib.hid (HXY.out.alloc hzy (.cells #[] 63))
          clear HK
          refine wpM_C rfl (by rfl) ?_
          intro y2 hR K HK
          replace HC := Lib.hid (own_kp0 HC.out hR)
          replace HXY := Lib.hid (HXY.out.trans (Kp.below (N := x9.heap.size) hR HXY.out.size))
          replace hzy : x9.heap.size ≤ y2.heap.size := HXY.out.size
          clear hR
          try simp only [puts, List.nil_append, List.cons_append, List.foldl_cons, List.foldl_nil, Act.put, List.setIfInBounds_toArray, List.set_cons_zero, List.set_cons_succ]
          refine wp_appS (.tmp 73) (.tmp 75) 23 rfl x9.heap.size 63 iC (.agg #[.int .i64 0, .string ⟨#[]⟩, .int .i64 0]) 3 32 Try.underlying23 hiC hzC rfl hsC (by omega) hbC (by omega) (.slice (some ⟨y1.heap.size, 0, none⟩) 0 0) 0 [] y2 HC.out rfl _ ma.ca ma.cl ma.cc _ (HPX.out.go HXY.out).na.carr HACl.out (one_C _) rfl (by omega) hzy ?_
          intro v6 y3 h6 hc6 hb6
          rw [Nat.zero_add, List.nil_append] at h6
          refine HK.out v6 y3 _ (by simp only [puts, List.nil_append, List.cons_append, List.foldl_cons, List.foldl_nil, Act.put, List.setIfInBounds_toArray, List.set_cons_zero, List.set_cons_succ]) (Kp.of_chg hc6 fun q hq => ⟨(own_isT HC.out hq).1, trivial⟩) (bg2 (floatT_R (Kp.of_chg hc6 fun q hq => own_isT HC.out hq) (by decide)) (floatT_R (Kp.of_chg hc6 fun q hq => own_isT HC.out hq) (by decide))) ?_
          replace HC := Lib.hid h6
          replace HXY := Lib.hid (HXY.out.trans hb6)
          clear h6 hc6 hb6 HK
          refine wpM_C rfl (by rfl) ?_
          intro y4 hR K HK
          replace HC := Lib.hid (own_kp0 HC.out hR)
          replace HXY := Lib.hid (HXY.out.trans (Kp.below (N := x9.heap.size) hR HXY.out.size))
          replace hzy : x9.heap.size ≤ y4.heap.size := HXY.out.size
          clear hR
          try simp only [puts, List.nil_append, List.cons_append, List.foldl_cons, List.foldl_nil, Act.put, List.setIfInBounds_toArray, List.set_cons_zero, List.set_cons_succ]
          refine wp_appS (.tmp 76) (.tmp 78) 23 rfl x9.heap.size 63 iC (.agg #[.int .i64 0, .string ⟨#[]⟩, .int .i64 0]) 3 32 Try.underlying23 hiC hzC rfl hsC (by omega) hbC (by omega) v6 ma.cl _ y4 HC.out rfl _ mb.ca mb.cl mb.cc _ (HPX.out.go HXY.out).nb.carr HBCl.out (one_C _) rfl (by omega) hzy ?_
          intro v7 y5 h7 hc7 hb7
          rw [← cellsC_app, HWh.out.2.1, show ma.cl + mb.cl = cl from hmk2] at h7
          obtain ⟨a79, c79, rfl, _, _, _⟩ := own_slice h7
          refine HK.out (.slice a79 cl c79) y5 _ (by simp only [puts, List.nil_append, List.cons_append, List.foldl_cons, List.foldl_nil, Act.put, List.setIfInBounds_toArray, List.set_cons_zero, List.set_cons_succ]) (Kp.of_chg hc7 fun q hq => ⟨(own_isT HC.out hq).1, trivial⟩) (bg2 (floatT_R (Kp.of_chg hc7 fun q hq => own_isT HC.out hq) (by decide)) (floatT_R (Kp.of_chg hc7 fun q hq => own_isT HC.out hq) (by decide))) ?_
          replace HC := Lib.hid h7
          replace HXY := Lib.hid (HXY.out.trans hb7)
          clear h7 hc7 hb7 HK
          refine wpM_W ?_
          intro y6 l hR hE
          obtain ⟨g80, rfl, hI⟩ := hE
          have HI := Lib.hid hI
          replace HC := Lib.hid (own_kp0 HC.out hR)
          replace HXY := Lib.hid (HXY.out.trans (Kp.below (N := x9.heap.size) hR HXY.out.size))
          clear hI hR
          simp only [puts, List.nil_append, List.cons_append, List.foldl_cons, List.foldl_nil, Act.put, List.setIfInBounds_toArray, List.set_cons_zero, List.set_cons_succ]
          refine wpM_C rfl (by rfl) ?_
          intro y7 hR K HK
          replace HC := Lib.hid (own_kp0 HC.out hR)
          replace HXY := Lib.hid (HXY.out.trans (Kp.below (N := x9.heap.size) hR HXY.out.size))
          replace hzy : x9.heap.size ≤ y7.heap.size := HXY.out.size
          replace HI := Lib.hid (own_kp0 HI.out hR)
          clear hR
          try simp only [puts, List.nil_append, List.cons_append, List.foldl_cons, List.foldl_nil, Act.put, List.setIfInBounds_toArray, List.set_cons_zero, List.set_cons_succ]
          refine wp_appS (.tmp 80) (.tmp 82) 24 rfl x9.heap.size 3 iI (.int .i64 0) 1 8 Try.underlying24 hiI hzI rfl hsI (by omega) hbI (by omega) (.slice (some ⟨g80, 0, none⟩) 0 0) 0 [] y7 HI.out rfl _ ma.da ma.dl ma.dc _ (HPX.out.go HXY.out).na.darr HADl.out (one_I _) rfl (by omega) hzy ?_
          intro v83 y8 h83 hc83 hb83
          rw [Nat.zero_add, List.nil_append] at h83
          refine HK.out v83 y8 _ (by simp only [puts, List.nil_append, List.cons_append, List.foldl_cons, List.foldl_nil, Act.put, List.setIfInBounds_toArray, List.set_cons_zero, List.set_cons_succ]) (Kp.of_chg hc83 fun q hq => ⟨(own_isT HI.out hq).1, trivial⟩) (bg1 (floatT_R (Kp.of_chg hc83 fun q hq => own_isT HI.out hq) (by decide))) ?_
          replace HC := Lib.hid (own_chg HC.out hc83 (fun g hg hm => own_apart HC.out HI.out (by decide) g hg (Option.mem_toList.1 hm)))
          replace HI := Lib.hid h83
          replace HXY := Lib.hid (HXY.out.trans hb83)
          clear h83 hc83 hb83 HK
          refine wpM_C rfl (by rfl) ?_
          intro y9 hR K HK
          replace HC := Lib.hid (own_kp0 HC.out hR)
          replace HXY := Lib.hid (HXY.out.trans (Kp.below (N := x9.heap.size) hR HXY.out.size))
          replace hzy : x9.heap.size ≤ y9.heap.size := HXY.out.size
          replace HI := Lib.hid (own_kp0 HI.out hR)
          clear hR
          try simp only [puts, List.nil_append, List.cons_append, List.foldl_cons, List.foldl_nil, Act.put, List.setIfInBounds_toArray, List.set_cons_zero, List.set_cons_succ]
          refine wp_appS (.tmp 83) (.tmp 85) 24 rfl x9.heap.size 3 iI (.int .i64 0) 1 8 Try.underlying24 hiI hzI rfl hsI (by omega) hbI (by omega) v83 ma.dl _ y9 HI.out rfl _ mb.da mb.dl mb.dc _ (HPX.out.go HXY.out).nb.darr HBDl.out (one_I _) rfl (by omega) hzy ?_
          intro v86 y10 h86 hc86 hb86
          rw [← cellsI_app, HWh.out.2.2, show ma.dl + mb.dl = dl from hmk3] at h86
          obtain ⟨a86, c86, rfl, hc86l, hc86m, _⟩ := own_slice h86
          refine HK.out (.slice a86 dl c86) y10 _ (by simp only [puts, List.nil_append, List.cons_append, List.foldl_cons, List.foldl_nil, Act.put, List.setIfInBounds_toArray, List.set_cons_zero, List.set_cons_succ]) (Kp.of_chg hc86 fun q hq => ⟨(own_isT HI.out hq).1, trivial⟩) (bg1 (floatT_R (Kp.of_chg hc86 fun q hq => own_isT HI.out hq) (by decide))) ?_
          replace HC := Lib.hid (own_chg HC.out hc86 (fun g hg hm => own_apart HC.out HI.out (by decide) g hg (Option.mem_toList.1 hm)))
          replace HI := Lib.hid h86
          replace HXY := Lib.hid (HXY.out.trans hb86)
          clear h86 hc86 hb86 HK
          repeat (first | (refine wpM_F (v := ?_) rfl (by rfl) (fun w' hL => ?_) ?_; rotate_left; (solve | (go_simp; with_reducible rfl) | go_simp); try simp only [Act.put, List.setIfInBounds_toArray, List.set_cons_zero, List.set_cons_succ]) | (refine wpM_G rfl (by rfl) ?_; try simp only [Act.put, List.setIfInBounds_toArray, List.set_cons_zero, List.set_cons_succ]))
          refine wpM_W ?_
          intro y11 l hR hE
          obtain ⟨gw, rfl, hG, hgN⟩ := hE
          have HG := Lib.hid hG
          replace HC := Lib.hid (own_kp0 HC.out hR)
          replace HI := Lib.hid (own_kp0 HI.out hR)
          replace HXY := Lib.hid (HXY.out.trans (Kp.below (N := x9.heap.size) hR HXY.out.size))
          clear hG hR
          simp only [puts, List.nil_append, List.cons_append, List.foldl_cons, List.foldl_nil, Act.put, List.setIfInBounds_toArray, List.set_cons_zero, List.set_cons_succ]
          refine wpM_C rfl (by rfl) ?_
          intro y2 hR K HK
          replace HC := Lib.hid (own_kp0 HC.out hR)
          replace HXY := Lib.hid (HXY.out.trans (Kp.below (N := x9.heap.size) hR HXY.out.size))
          replace hzy : x9.heap.size ≤ y2.heap.size := HXY.out.size
          replace HI := Lib.hid (own_kp0 HI.out hR)
          replace HG := Lib.hid (HG.out.kp0 hR)
          clear hR
          try simp only [puts, List.nil_append, List.cons_append, List.foldl_cons, List.foldl_nil, Act.put, List.setIfInBounds_toArray, List.set_cons_zero, List.set_cons_succ]
          have g0 : (y2.cell? ⟨gw, 0, none⟩) = some (.bool false) := HG.out.cell 0
          have gf0 : y2.frozen? ⟨gw, 0, none⟩ = false := HG.out.frozen 0
          have g1 : (y2.cell? ⟨gw, 1, none⟩) = some (.slice none 0 0) := HG.out.cell 1
          have gf1 : y2.frozen? ⟨gw, 1, none⟩ = false := HG.out.frozen 1
          have g2 : (y2.cell? ⟨gw, 2, none⟩) = some (.slice none 0 0) := HG.out.cell 2
          have gf2 : y2.frozen? ⟨gw, 2, none⟩ = false := HG.out.frozen 2
          have g3 : (y2.cell? ⟨gw, 3, none⟩) = some (.slice none 0 0) := HG.out.cell 3
          have gf3 : y2.frozen? ⟨gw, 3, none⟩ = false := HG.out.frozen 3
          have glt := HG.out.lt
          have hzc : Chg [gw] y2 ((((y2.setCell ⟨gw, 0, none⟩ (.bool false)).setCell ⟨gw, 1, none⟩ (.slice a9 kl c9)).setCell ⟨gw, 2, none⟩ (.slice a79 cl c79)).setCell ⟨gw, 3, none⟩ (.slice a86 dl c86)) := set4_chg (by simp) _ _ _ _
          have HXZ : Hid (Below x9.heap.size x9 ((((y2.setCell ⟨gw, 0, none⟩ (.bool false)).setCell ⟨gw, 1, none⟩ (.slice a9 kl c9)).setCell ⟨gw, 2, none⟩ (.slice a79 cl c79)).setCell ⟨gw, 3, none⟩ (.slice a86 dl c86))) := HXY.out.trans (hzc.below HXY.out.size (by simpa using hgN))
          have HGZ : Hid (Blk ((((y2.setCell ⟨gw, 0, none⟩ (.bool false)).setCell ⟨gw, 1, none⟩ (.slice a9 kl c9)).setCell ⟨gw, 2, none⟩ (.slice a79 cl c79)).setCell ⟨gw, 3, none⟩ (.slice a86 dl c86)) gw 26 #[.bool false, .slice a9 kl c9, .slice a79 cl c79, .slice a86 dl c86]) := Blk.st4 HG.out _ _ _ _
          have HWZ : Hid (NAt ((((y2.setCell ⟨gw, 0, none⟩ (.bool false)).setCell ⟨gw, 1, none⟩ (.slice a9 kl c9)).setCell ⟨gw, 2, none⟩ (.slice a79 cl c79)).setCell ⟨gw, 3, none⟩ (.slice a86 dl c86)) n ⟨a9, kl, c9, a79, cl, c79, a86, dl, c86⟩) := by
            have hk := own_chg (own_below H9.out (Nat.le_refl _) HXY.out) hzc (fun g hg hm => own_ne (own_below H9.out (Nat.le_refl _) HXY.out) HG.out (by decide) (by simp at hm; rw [hg, hm]))
            have hc := own_chg HC.out hzc (fun g hg hm => own_ne HC.out HG.out (by decide) (by simp at hm; rw [hg, hm]))
            have hd := own_chg HI.out hzc (fun g hg hm => own_ne HI.out HG.out (by decide) (by simp at hm; rw [hg, hm]))
            obtain ⟨_, _, e1, k1, k2, k3⟩ := own_slice hk
            obtain ⟨_, _, e2, c1, c2, c3⟩ := own_slice hc
            obtain ⟨_, _, e3, d1, d2, d3⟩ := own_slice hd
            simp only [Value.slice.injEq, true_and] at e1 e2 e3
            obtain ⟨rfl, rfl⟩ := e1
            obtain ⟨rfl, rfl⟩ := e2
            obtain ⟨rfl, rfl⟩ := e3
            exact ⟨HKL.out, HCL.out, HDL.out, k1, c1, d1, by simp only; omega, by simp only; omega, by simp only; omega, k3, c3, d3, HPX.out.nn.kfair, HPX.out.nn.cfair, HPX.out.nn.dfair⟩
          clear hzc
          go_simp
          refine HK.out undef _ _ (by simp only [puts, List.nil_append, List.cons_append, List.foldl_cons, List.foldl_nil, Act.put, List.setIfInBounds_toArray, List.set_cons_zero, List.set_cons_succ]) (Kp.of_chg (set4_chg (S := [gw]) (by simp) _ _ _ _) (fun q hq => by simp only [List.mem_singleton] at hq; subst hq; exact ⟨hgN, trivial⟩)) bg0 ?_
          clear HK
          clear g0 gf0 g1 gf1 g2 gf2 g3 gf3 glt HC HI HG HXY H9 HKw hzy
          obtain ⟨Z0, hZ⟩ : ∃ Z, ((((y2.setCell ⟨gw, 0, none⟩ (.bool false)).setCell ⟨gw, 1, none⟩ (.slice a9 kl c9)).setCell ⟨gw, 2, none⟩ (.slice a79 cl c79)).setCell ⟨gw, 3, none⟩ (.slice a86 dl c86)) = Z := ⟨_, rfl⟩
          rw [hZ] at HXZ HGZ HWZ
          rw [hZ]
          clear hZ
          refine wpM_nil ?_
          intro Z hR
          have hbZ : Below x9.heap.size Z0 Z := Kp.below (N := x9.heap.size) hR HXZ.out.size
          have hbZ2 : Below Z0.heap.size Z0 Z := ⟨hR.os, hR.tape, hR.output, hR.size, fun k hk => by rcases hR.block k hk with h1 | ⟨_, h1⟩; exact h1; exact h1.elim⟩
          replace HP := Lib.hid (HPX.out.go (HXZ.out.trans hbZ))
          replace HGZ := Lib.hid (HGZ.out.kp0 hR)
          replace HWZ := Lib.hid (HWZ.out.later hbZ2)
          clear HPX HXZ HACl HBCl HADl HBDl hbZ hbZ2 hR
          have HSm := NSame_any n n ⟨a9, kl, c9, a79, cl, c79, a86, dl, c86⟩ ⟨ka, kl, kc, ca, cl, cc, da, dl, dc⟩ Z HWZ.out HP.out.nn
          rw [HLf.out, decide_eq_true (rfl : n = n)] at HSm
          have HSm := Lib.hid HSm
          have g0 : Z.cell? ⟨gw, 0, none⟩ = some (.bool false) := HGZ.out.cell 0
          have g1 : Z.cell? ⟨gw, 1, none⟩ = some (.slice a9 kl c9) := HGZ.out.cell 1
          have g2 : Z.cell? ⟨gw, 2, none⟩ = some (.slice a79 cl c79) := HGZ.out.cell 2
          have g3 : Z.cell? ⟨gw, 3, none⟩ = some (.slice a86 dl c86) := HGZ.out.cell 3
          have glt : gw < Z.heap.size := HGZ.out.lt
          have n0 : Z.cell? ⟨w.heap.size, 0, none⟩ = some (.bool false) := HP.out.n0.cell 0
          have n1 : Z.cell? ⟨w.heap.size, 1, none⟩ = some (.slice ka kl kc) := HP.out.n0.cell 1
          have n2 : Z.cell? ⟨w.heap.size, 2, none⟩ = some (.slice ca cl cc) := HP.out.n0.cell 2
          have n3 : Z.cell? ⟨w.heap.size, 3, none⟩ = some (.slice da dl dc) := HP.out.n0.cell 3
          have nlt : w.heap.size < Z.heap.size := HP.out.n0.lt
          go_wp2_with fail
          clear g0 g1 g2 g3 glt n0 n1 n2 n3 nlt
          refine HSm.out.mono ?_
          rintro e z1 ⟨rfl, hb⟩
          replace HP := Lib.hid (HP.out.go hb)
          clear hb HSm HWZ HGZ
          have n0 : z1.cell? ⟨w.heap.size, 0, none⟩ = some (.bool false) := HP.out.n0.cell 0
          have n1 : z1.cell? ⟨w.heap.size, 1, none⟩ = some (.slice ka kl kc) := HP.out.n0.cell 1
          have n2 : z1.cell? ⟨w.heap.size, 2, none⟩ = some (.slice ca cl cc) := HP.out.n0.cell 2
          have n3 : z1.cell? ⟨w.heap.size, 3, none⟩ = some (.slice da dl dc) := HP.out.n0.cell 3
          have nlt : w.heap.size < z1.heap.size := HP.out.n0.lt
          by_cases c1 : at_ < 0
          · have q1 : decide (at_ < 0) = true := by simpa using c1
            go_wp2_with fail
            refine (HAl.out _).mono ?_
            rintro e z2 ⟨rfl, hb⟩
            replace HP := Lib.hid (HP.out.go hb)
            go_wp2
            go_ret
            exact ⟨rfl, HP.out.bel⟩
          · have q1 : decide (at_ < 0) = false := by simpa using c1
            by_cases c2 : (kl : Int) ≤ at_
            · have q2 : decide ((kl : Int) ≤ at_) = true := by simpa using c2
              go_wp2_with fail
              refine (HAl.out _).mono ?_
              rintro e z2 ⟨rfl, hb⟩
              replace HP := Lib.hid (HP.out.go hb)
              go_wp2
              go_ret
              exact ⟨rfl, HP.out.bel⟩
            · have q2 : decide ((kl : Int) ≤ at_) = false := by simpa using c2
              go_wp2_with fail
              refine (HAl.out _).mono ?_
              rintro e z2 ⟨rfl, hb⟩
              replace HP := Lib.hid (HP.out.go hb)
              go_wp2
              go_ret
              exact ⟨rfl, HP.out.bel⟩
end Go.Proofs.Ytlcphgomhhejbaa

/- The walk of the reference's part. -/
namespace Go.Proofs.Ytlcphgomhhejbaa
open Go.RowKit

/-- What the reference's part tells. -/
def RetPart (w : World) (leaf : Bool) (b : List Nat) (at_ : Nat) (e : Ending) (w' : World) : Prop :=
  ∃ (x : Pt) (q : Nat) (r : Bool), e = .returned (.tuple #[.agg #[.string x.key, .int .i64 x.len, .string x.data, .int .i64 x.page], .int .i64 (q : Int), .bool r]) ∧
    ((r = true ∧ decP leaf b at_ = some (x, q)) ∨ (r = false ∧ decP leaf b at_ = none)) ∧ Below w.heap.size w w'
theorem RetPart.no {w w' : World} {leaf : Bool} {b : List Nat} {at_ : Nat} (x : Pt) (h : decP leaf b at_ = none) (hb : Below w.heap.size w w') : RetPart w leaf b at_ (.returned (.tuple #[.agg #[.string x.key, .int .i64 x.len, .string x.data, .int .i64 x.page], .int .i64 0, .bool false])) w' :=
  ⟨x, 0, false, rfl, .inr ⟨rfl, h⟩, hb⟩
theorem RetPart.yes {w w' : World} {leaf : Bool} {b : List Nat} {at_ q : Nat} {x : Pt} (h : decP leaf b at_ = some (x, q)) (hb : Below w.heap.size w w') : RetPart w leaf b at_ (.returned (.tuple #[.agg #[.string x.key, .int .i64 x.len, .string x.data, .int .i64 x.page], .int .i64 (q : Int), .bool true])) w' :=
  ⟨x, q, true, rfl, .inl ⟨rfl, h⟩, hb⟩
theorem cutL_one {b : List Nat} {at_ c : Nat} (h : b[at_]? = some c) : valL (cutL b at_ 1) = c := by
  obtain ⟨h1, h2⟩ := List.getElem?_eq_some_iff.1 h
  unfold cutL
  rw [List.drop_eq_getElem_cons h1, h2]
  simp [valL]
/-- 'b[i:j]' and its bytes as a string. -/
theorem Bs.cut {w : World} {a : Option Addr} {b : List Nat} (h : Bs w.heap.size w a b) (len cap i j : Nat) (hlen : len = b.length) (hij : i ≤ j) (hj : j ≤ len) (hcap : len ≤ cap) :
    ∃ a', Bs w.heap.size w a' (cutL b i (j - i)) ∧ (∀ W, (Instr.slice 27 (.slice a len cap) (some (.int .i64 (i : Int))) (some (.int .i64 (j : Int))) none).run Try.prog W = .ok (.slice a' (j - i) (cap - i)) W) ∧
      ∀ W, Below w.heap.size w W → (convert 27 9 (.slice a' (j - i) (cap - i))).run Try.prog W = .ok (.string (strN (cutL b i (j - i)))) W := by
  have hz : ∀ w, (Go.sizeOf 5).run Try.prog w = .ok 1 w := by
    intro w
    obtain ⟨x, hx, _⟩ := info_parts Try.info5
    have := run_sizeOf (P := Try.prog) w hx
    rw [show Try.prog.cellsOf 5 = 1 from by kernel_rfl] at this
    exact this
  obtain ⟨a', h1, h2⟩ := h.window 27 5 Try.underlying27 hz len cap i j hlen hij hj hcap
  refine ⟨a', h1, h2, fun W hb => ?_⟩
  exact (h1.below hb).conv 27 5 Try.underlying27 Try.underlying5 9 Try.underlying9 (j - i) (cap - i) (by show _ = (cutL b i (j - i)).length; rw [cutL_len (by omega)])

set_option maxRecDepth 100000 in
set_option maxHeartbeats 8000000 in
theorem rpartI_any (b : List Nat) (a : Option Addr) (cap at_ : Nat) (w : World) (hB : Bs w.heap.size w a b) (hl : b.length = 512) (hcap : 512 ≤ cap) (hcm : cap ≤ 9223372036854775807) (hat : at_ ≤ 512) :
    Calls Try.prog 43 #[.slice a 512 cap, .int .i64 (at_ : Int), .bool false] w (RetPart w false b at_) := by
  have HNo : Hid (∀ (x : Pt) W, decP false b at_ = none → Below w.heap.size w W → RetPart w false b at_ (.returned (.tuple #[.agg #[.string x.key, .int .i64 x.len, .string x.data, .int .i64 x.page], .int .i64 0, .bool false])) W) := fun x W h hb => RetPart.no x h hb
  have HYes : Hid (∀ (x : Pt) (q : Nat) W, decP false b at_ = some (x, q) → Below w.heap.size w W → RetPart w false b at_ (.returned (.tuple #[.agg #[.string x.key, .int .i64 x.len, .string x.data, .int .i64 x.page], .int .i64 (q : Int), .bool true])) W) := fun x q W h hb => RetPart.yes h hb
  have hd : decP false b at_ = decP false b at_ := rfl
  conv at hd => rhs; unfold decP
  simp only [Bool.false_eq_true, if_false, Bool.false_and, hl] at hd
  generalize RetPart w false b at_ = RR at *
  by_cases hf : at_ + 1 ≤ 512
  · have hcl : at_ < b.length := by omega
    have hc := List.getElem?_eq_getElem hcl
    have hne : b ≠ [] := by intro h0; rw [h0] at hl; simp at hl
    obtain ⟨bb, o, rfl, hbN, hcell⟩ := hB.2.resolve_left hne
    have c0 := hcell at_ _ hc
    have hc256 := hB.1 _ (List.getElem_mem hcl)
    obtain ⟨c, hcc⟩ : ∃ c, b[at_] = c := ⟨_, rfl⟩
    rw [hcc] at hc c0 hc256
    rw [cutL_one hc, if_neg (by omega)] at hd
    clear hcell hcc hc hcl hne
    have q1 : decide ((512 : Int) < (at_ : Int) + 1) = false := by simp; omega
    by_cases h2 : at_ + 1 + c + 4 ≤ 512
    · rw [if_neg (by omega)] at hd
      have HD := Lib.hid hd
      clear hd HNo
      obtain ⟨a1, hB1, hs1, hc1⟩ := hB.cut 512 cap (at_ + 1) (at_ + 1 + c) hl.symm (by omega) (by omega) hcap
      obtain ⟨a2, hB2, hs2, _⟩ := hB.cut 512 cap (at_ + 1 + c) (at_ + 1 + c + 4) hl.symm (by omega) (by omega) hcap
      rw [show at_ + 1 + c - (at_ + 1) = c by omega] at hB1 hs1 hc1
      rw [show at_ + 1 + c + 4 - (at_ + 1 + c) = 4 by omega] at hB2 hs2
      simp only [Int.natCast_add, Int.cast_ofNat_Int] at hs1 hs2
      have hw : Below w.heap.size w ((w.alloc (.cells #[.string ⟨#[]⟩, .int .i64 0, .string ⟨#[]⟩, .int .i64 0] 65)).alloc (.cells #[.string ⟨#[]⟩, .int .i64 0, .string ⟨#[]⟩, .int .i64 0] 65)) := ((Below.refl _ _).alloc (Nat.le_refl _) _).alloc (by simp) _
      have hcv := hc1 ((w.alloc (.cells #[.string ⟨#[]⟩, .int .i64 0, .string ⟨#[]⟩, .int .i64 0] 65)).alloc (.cells #[.string ⟨#[]⟩, .int .i64 0, .string ⟨#[]⟩, .int .i64 0] 65)) hw
      have q2 : decide ((512 : Int) < (at_ : Int) + 1 + (c : Int) + 4) = false := by simp; omega
      have HB2 : Hid (∀ W, Below w.heap.size w W → Bs W.heap.size W a2 (cutL b (at_ + 1 + c) 4)) := fun W h => (hB2.below h).mono h.size
      clear hc1 hB1 hB2 hw hB
      go_enter Try.func43, Try.ntmps43
      go_wp2_with fail
      refine (rval_any (cutL b (at_ + 1 + c) 4) a2 4 _ _ (HB2.out _ ?_) (cutL_len (by omega)).symm (by omega)).mono ?_
      · skip
        repeat (refine Below.setCell ?_ (by first | exact Nat.le_refl _ | (simp; done) | (simp; omega)) _)
        first | exact ((Below.refl _ _).alloc (Nat.le_refl _) _).alloc (by simp) _ | exact (Below.refl _ _).alloc (Nat.le_refl _) _ | exact (((Below.refl _ _).alloc (Nat.le_refl _) _).alloc (by simp) _).alloc (by simp; omega) _
      rintro e w1 ⟨rfl, rfl⟩
      clear HB2
      obtain ⟨vv, hvv⟩ : ∃ vv, valL (cutL b (at_ + 1 + c) 4) = vv := ⟨_, rfl⟩
      rw [hvv] at HD ⊢
      clear hvv
      obtain ⟨ky, hky⟩ : ∃ ky, strN (cutL b (at_ + 1) c) = ky := ⟨_, rfl⟩
      rw [hky] at HD ⊢
      try rw [hky] at hcv
      clear hky
      go_wp2
      refine bodyPost_ret (v := .tuple #[.agg #[.string ky, .int .i64 0, .string ⟨#[]⟩, .int .i64 (vv : Int)], .int .i64 ((at_ + 1 + c + 4 : Nat) : Int), .bool true]) (by simp [results, Try.results43, go_sem]) rfl (HYes.out ⟨ky, 0, ⟨#[]⟩, (vv : Int)⟩ (at_ + 1 + c + 4) _ HD.out ?_)
      repeat (refine Below.setCell ?_ (by first | exact Nat.le_refl _ | (simp; done) | (simp; omega)) _)
      first | exact ((Below.refl _ _).alloc (Nat.le_refl _) _).alloc (by simp) _ | exact (Below.refl _ _).alloc (Nat.le_refl _) _ | exact (((Below.refl _ _).alloc (Nat.le_refl _) _).alloc (by simp) _).alloc (by simp; omega) _
    · rw [if_pos (by omega)] at hd
      have HD := Lib.hid hd
      clear hd hB HYes
      have q2 : decide ((512 : Int) < (at_ : Int) + 1 + (c : Int) + 4) = true := by simp; omega
      go_enter Try.func43, Try.ntmps43
      go_wp2
      refine bodyPost_ret (v := .tuple #[.agg #[.string ⟨#[]⟩, .int .i64 0, .string ⟨#[]⟩, .int .i64 0], .int .i64 0, .bool false]) (by simp [results, Try.results43, go_sem]) rfl (HNo.out ⟨⟨#[]⟩, 0, ⟨#[]⟩, 0⟩ _ HD.out ?_)
      repeat (refine Below.setCell ?_ (by first | exact Nat.le_refl _ | (simp; done) | (simp; omega)) _)
      first | exact ((Below.refl _ _).alloc (Nat.le_refl _) _).alloc (by simp) _ | exact (Below.refl _ _).alloc (Nat.le_refl _) _ | exact (((Below.refl _ _).alloc (Nat.le_refl _) _).alloc (by simp) _).alloc (by simp; omega) _
  · rw [if_pos (by omega)] at hd
    have HD := Lib.hid hd
    have q1 : decide ((512 : Int) < (at_ : Int) + 1) = true := by simp; omega
    clear hd hB HYes
    go_enter Try.func43, Try.ntmps43
    go_wp2
    refine bodyPost_ret (v := .tuple #[.agg #[.string ⟨#[]⟩, .int .i64 0, .string ⟨#[]⟩, .int .i64 0], .int .i64 0, .bool false]) (by simp [results, Try.results43, go_sem]) rfl (HNo.out ⟨⟨#[]⟩, 0, ⟨#[]⟩, 0⟩ _ HD.out ?_)
    repeat (refine Below.setCell ?_ (by first | exact Nat.le_refl _ | (simp; done) | (simp; omega)) _)
    first | exact ((Below.refl _ _).alloc (Nat.le_refl _) _).alloc (by simp) _ | exact (Below.refl _ _).alloc (Nat.le_refl _) _ | exact (((Below.refl _ _).alloc (Nat.le_refl _) _).alloc (by simp) _).alloc (by simp; omega) _

set_option maxRecDepth 100000 in
set_option maxHeartbeats 8000000 in
theorem rpartL_any (b : List Nat) (a : Option Addr) (cap at_ : Nat) (w : World) (hB : Bs w.heap.size w a b) (hl : b.length = 512) (hcap : 512 ≤ cap) (hcm : cap ≤ 9223372036854775807) (hat : at_ ≤ 512) :
    Calls Try.prog 43 #[.slice a 512 cap, .int .i64 (at_ : Int), .bool true] w (RetPart w true b at_) := by
  have HNo : Hid (∀ (x : Pt) W, decP true b at_ = none → Below w.heap.size w W → RetPart w true b at_ (.returned (.tuple #[.agg #[.string x.key, .int .i64 x.len, .string x.data, .int .i64 x.page], .int .i64 0, .bool false])) W) := fun x W h hb => RetPart.no x h hb
  have HYes : Hid (∀ (x : Pt) (q : Nat) W, decP true b at_ = some (x, q) → Below w.heap.size w W → RetPart w true b at_ (.returned (.tuple #[.agg #[.string x.key, .int .i64 x.len, .string x.data, .int .i64 x.page], .int .i64 (q : Int), .bool true])) W) := fun x q W h hb => RetPart.yes h hb
  have hd : decP true b at_ = decP true b at_ := rfl
  conv at hd => rhs; unfold decP
  simp only [if_true, Bool.true_and, hl] at hd
  generalize RetPart w true b at_ = RR at *
  by_cases hf : at_ + 3 ≤ 512
  · have hcl : at_ < b.length := by omega
    have hc := List.getElem?_eq_getElem hcl
    have hne : b ≠ [] := by intro h0; rw [h0] at hl; simp at hl
    obtain ⟨bb, o, rfl, hbN, hcell⟩ := hB.2.resolve_left hne
    have c0 := hcell at_ _ hc
    have hc256 := hB.1 _ (List.getElem_mem hcl)
    obtain ⟨c, hcc⟩ : ∃ c, b[at_] = c := ⟨_, rfl⟩
    rw [hcc] at hc c0 hc256
    rw [cutL_one hc, if_neg (by omega)] at hd
    clear hcell hcc hc hcl hne
    have q1 : decide ((512 : Int) < (at_ : Int) + 3) = false := by simp; omega
    obtain ⟨a0, hB0, hs0, _⟩ := hB.cut 512 cap (at_ + 1) (at_ + 3) hl.symm (by omega) (by omega) hcap
    rw [show at_ + 3 - (at_ + 1) = 2 by omega] at hB0 hs0
    simp only [Int.natCast_add, Int.cast_ofNat_Int] at hs0
    have hxlt := valL_lt (cutL b (at_ + 1) 2) (cutL_lt hB.1 _ _)
    rw [cutL_len (by omega)] at hxlt
    have HV0 := rval_any (cutL b (at_ + 1) 2) a0 2 (cap - (at_ + 1)) ((w.alloc (.cells #[.string ⟨#[]⟩, .int .i64 0, .string ⟨#[]⟩, .int .i64 0] 65)).alloc (.cells #[.string ⟨#[]⟩, .int .i64 0, .string ⟨#[]⟩, .int .i64 0] 65)) ((hB0.below (((Below.refl _ _).alloc (Nat.le_refl _) _).alloc (by simp) _)).mono (by simp; omega)) (cutL_len (by omega)).symm (by omega)
    obtain ⟨xl, hxl⟩ : ∃ xl, valL (cutL b (at_ + 1) 2) = xl := ⟨_, rfl⟩
    rw [hxl] at hd HV0 hxlt
    have HV0 := Lib.hid HV0
    clear hxl hB0
    by_cases hx : xl ≤ 120
    · have hxb : decide (xl ≤ 120) = true := by simpa using hx
      have qx : decide ((xl : Int) ≤ 120) = true := by simp; omega
      simp only [hxb, if_true, if_false, Bool.false_eq_true] at hd
      by_cases h2 : at_ + 3 + c + xl ≤ 512
      · rw [if_neg (by omega)] at hd
        have HD := Lib.hid hd
        clear hd HNo
        obtain ⟨a1, hB1, hs1, hc1⟩ := hB.cut 512 cap (at_ + 3) (at_ + 3 + c) hl.symm (by omega) (by omega) hcap
        obtain ⟨a2, hB2, hs2, hc2⟩ := hB.cut 512 cap (at_ + 3 + c) (at_ + 3 + c + xl) hl.symm (by omega) (by omega) hcap
        rw [show at_ + 3 + c - (at_ + 3) = c by omega] at hB1 hs1 hc1
        rw [show at_ + 3 + c + xl - (at_ + 3 + c) = xl by omega] at hB2 hs2 hc2
        simp only [Int.natCast_add, Int.cast_ofNat_Int] at hs1 hs2
        obtain ⟨ky, hky⟩ : ∃ ky, strN (cutL b (at_ + 3) c) = ky := ⟨_, rfl⟩
        rw [hky] at HD hc1
        clear hky
        have hw1 : Below w.heap.size w ((w.alloc (.cells #[.string ⟨#[]⟩, .int .i64 0, .string ⟨#[]⟩, .int .i64 0] 65)).alloc (.cells #[.string ⟨#[]⟩, .int .i64 (xl : Int), .string ⟨#[]⟩, .int .i64 0] 65)) := by
          repeat (refine Below.setCell ?_ (by first | exact Nat.le_refl _ | (simp; done) | (simp; omega)) _)
          first | exact ((Below.refl _ _).alloc (Nat.le_refl _) _).alloc (by simp) _ | exact (Below.refl _ _).alloc (Nat.le_refl _) _ | exact (((Below.refl _ _).alloc (Nat.le_refl _) _).alloc (by simp) _).alloc (by simp; omega) _
        have hcv := hc1 ((w.alloc (.cells #[.string ⟨#[]⟩, .int .i64 0, .string ⟨#[]⟩, .int .i64 0] 65)).alloc (.cells #[.string ⟨#[]⟩, .int .i64 (xl : Int), .string ⟨#[]⟩, .int .i64 0] 65)) hw1
        have q2 : decide ((512 : Int) < (at_ : Int) + 3 + (c : Int) + (xl : Int)) = false := by simp; omega
        obtain ⟨dt, hdt⟩ : ∃ dt, strN (cutL b (at_ + 3 + c) xl) = dt := ⟨_, rfl⟩
        rw [hdt] at HD hc2
        clear hdt
        have hw2 : Below w.heap.size w ((w.alloc (.cells #[.string ⟨#[]⟩, .int .i64 0, .string ⟨#[]⟩, .int .i64 0] 65)).alloc (.cells #[.string ky, .int .i64 (xl : Int), .string ⟨#[]⟩, .int .i64 0] 65)) := by
          repeat (refine Below.setCell ?_ (by first | exact Nat.le_refl _ | (simp; done) | (simp; omega)) _)
          first | exact ((Below.refl _ _).alloc (Nat.le_refl _) _).alloc (by simp) _ | exact (Below.refl _ _).alloc (Nat.le_refl _) _ | exact (((Below.refl _ _).alloc (Nat.le_refl _) _).alloc (by simp) _).alloc (by simp; omega) _
        have hcv2 := hc2 ((w.alloc (.cells #[.string ⟨#[]⟩, .int .i64 0, .string ⟨#[]⟩, .int .i64 0] 65)).alloc (.cells #[.string ky, .int .i64 (xl : Int), .string ⟨#[]⟩, .int .i64 0] 65)) hw2
        clear hw2
        clear hc1 hc2 hB1 hB2 hB hw1
        go_enter Try.func43, Try.ntmps43
        go_wp2_with fail
        refine HV0.out.mono ?_
        rintro e w1 ⟨rfl, rfl⟩
        clear HV0 hs0
        go_wp2
        refine bodyPost_ret (v := .tuple #[.agg #[.string ky, .int .i64 (xl : Int), .string dt, .int .i64 0], .int .i64 ((at_ + 3 + c + xl : Nat) : Int), .bool true]) (by simp [results, Try.results43, go_sem]) rfl (HYes.out ⟨ky, (xl : Int), dt, 0⟩ (at_ + 3 + c + xl) _ HD.out ?_)
        repeat (refine Below.setCell ?_ (by first | exact Nat.le_refl _ | (simp; done) | (simp; omega)) _)
        first | exact ((Below.refl _ _).alloc (Nat.le_refl _) _).alloc (by simp) _ | exact (Below.refl _ _).alloc (Nat.le_refl _) _ | exact (((Below.refl _ _).alloc (Nat.le_refl _) _).alloc (by simp) _).alloc (by simp; omega) _
      · rw [if_pos (by omega)] at hd
        have HD := Lib.hid hd
        clear hd hB HYes
        have q2 : decide ((512 : Int) < (at_ : Int) + 3 + (c : Int) + (xl : Int)) = true := by simp; omega
        go_enter Try.func43, Try.ntmps43
        go_wp2_with fail
        refine HV0.out.mono ?_
        rintro e w1 ⟨rfl, rfl⟩
        clear HV0 hs0
        go_wp2
        refine bodyPost_ret (v := .tuple #[.agg #[.string ⟨#[]⟩, .int .i64 (xl : Int), .string ⟨#[]⟩, .int .i64 0], .int .i64 0, .bool false]) (by simp [results, Try.results43, go_sem]) rfl (HNo.out ⟨⟨#[]⟩, (xl : Int), ⟨#[]⟩, 0⟩ _ HD.out ?_)
        repeat (refine Below.setCell ?_ (by first | exact Nat.le_refl _ | (simp; done) | (simp; omega)) _)
        first | exact ((Below.refl _ _).alloc (Nat.le_refl _) _).alloc (by simp) _ | exact (Below.refl _ _).alloc (Nat.le_refl _) _ | exact (((Below.refl _ _).alloc (Nat.le_refl _) _).alloc (by simp) _).alloc (by simp; omega) _
    · have hxb : decide (xl ≤ 120) = false := by simpa using hx
      have qx : decide ((xl : Int) ≤ 120) = false := by simp; omega
      simp only [hxb, if_true, if_false, Bool.false_eq_true] at hd
      by_cases h2 : at_ + 3 + c + 4 ≤ 512
      · rw [if_neg (by omega)] at hd
        have HD := Lib.hid hd
        clear hd HNo
        obtain ⟨a1, hB1, hs1, hc1⟩ := hB.cut 512 cap (at_ + 3) (at_ + 3 + c) hl.symm (by omega) (by omega) hcap
        obtain ⟨a2, hB2, hs2, hc2⟩ := hB.cut 512 cap (at_ + 3 + c) (at_ + 3 + c + 4) hl.symm (by omega) (by omega) hcap
        rw [show at_ + 3 + c - (at_ + 3) = c by omega] at hB1 hs1 hc1
        rw [show at_ + 3 + c + 4 - (at_ + 3 + c) = 4 by omega] at hB2 hs2 hc2
        simp only [Int.natCast_add, Int.cast_ofNat_Int] at hs1 hs2
        obtain ⟨ky, hky⟩ : ∃ ky, strN (cutL b (at_ + 3) c) = ky := ⟨_, rfl⟩
        rw [hky] at HD hc1
        clear hky
        have hw1 : Below w.heap.size w ((w.alloc (.cells #[.string ⟨#[]⟩, .int .i64 0, .string ⟨#[]⟩, .int .i64 0] 65)).alloc (.cells #[.string ⟨#[]⟩, .int .i64 (xl : Int), .string ⟨#[]⟩, .int .i64 0] 65)) := by
          repeat (refine Below.setCell ?_ (by first | exact Nat.le_refl _ | (simp; done) | (simp; omega)) _)
          first | exact ((Below.refl _ _).alloc (Nat.le_refl _) _).alloc (by simp) _ | exact (Below.refl _ _).alloc (Nat.le_refl _) _ | exact (((Below.refl _ _).alloc (Nat.le_refl _) _).alloc (by simp) _).alloc (by simp; omega) _
        have hcv := hc1 ((w.alloc (.cells #[.string ⟨#[]⟩, .int .i64 0, .string ⟨#[]⟩, .int .i64 0] 65)).alloc (.cells #[.string ⟨#[]⟩, .int .i64 (xl : Int), .string ⟨#[]⟩, .int .i64 0] 65)) hw1
        have q2 : decide ((512 : Int) < (at_ : Int) + 3 + (c : Int) + 4) = false := by simp; omega
        have HB2 : Hid (∀ W, Below w.heap.size w W → Bs W.heap.size W a2 (cutL b (at_ + 3 + c) 4)) := fun W h => (hB2.below h).mono h.size
        clear hc1 hc2 hB1 hB2 hB hw1
        go_enter Try.func43, Try.ntmps43
        go_wp2_with fail
        refine HV0.out.mono ?_
        rintro e w1 ⟨rfl, rfl⟩
        clear HV0 hs0
        go_wp2_with fail
        refine (rval_any (cutL b (at_ + 3 + c) 4) a2 4 _ _ (HB2.out _ ?_) (cutL_len (by omega)).symm (by omega)).mono ?_
        · skip
          repeat (refine Below.setCell ?_ (by first | exact Nat.le_refl _ | (simp; done) | (simp; omega)) _)
          first | exact ((Below.refl _ _).alloc (Nat.le_refl _) _).alloc (by simp) _ | exact (Below.refl _ _).alloc (Nat.le_refl _) _ | exact (((Below.refl _ _).alloc (Nat.le_refl _) _).alloc (by simp) _).alloc (by simp; omega) _
        rintro e w1 ⟨rfl, rfl⟩
        clear HB2
        obtain ⟨vv, hvv⟩ : ∃ vv, valL (cutL b (at_ + 3 + c) 4) = vv := ⟨_, rfl⟩
        rw [hvv] at HD ⊢
        clear hvv
        go_wp2
        refine bodyPost_ret (v := .tuple #[.agg #[.string ky, .int .i64 (xl : Int), .string ⟨#[]⟩, .int .i64 (vv : Int)], .int .i64 ((at_ + 3 + c + 4 : Nat) : Int), .bool true]) (by simp [results, Try.results43, go_sem]) rfl (HYes.out ⟨ky, (xl : Int), ⟨#[]⟩, (vv : Int)⟩ (at_ + 3 + c + 4) _ HD.out ?_)
        repeat (refine Below.setCell ?_ (by first | exact Nat.le_refl _ | (simp; done) | (simp; omega)) _)
        first | exact ((Below.refl _ _).alloc (Nat.le_refl _) _).alloc (by simp) _ | exact (Below.refl _ _).alloc (Nat.le_refl _) _ | exact (((Below.refl _ _).alloc (Nat.le_refl _) _).alloc (by simp) _).alloc (by simp; omega) _
      · rw [if_pos (by omega)] at hd
        have HD := Lib.hid hd
        clear hd hB HYes
        have q2 : decide ((512 : Int) < (at_ : Int) + 3 + (c : Int) + 4) = true := by simp; omega
        go_enter Try.func43, Try.ntmps43
        go_wp2_with fail
        refine HV0.out.mono ?_
        rintro e w1 ⟨rfl, rfl⟩
        clear HV0 hs0
        go_wp2
        refine bodyPost_ret (v := .tuple #[.agg #[.string ⟨#[]⟩, .int .i64 (xl : Int), .string ⟨#[]⟩, .int .i64 0], .int .i64 0, .bool false]) (by simp [results, Try.results43, go_sem]) rfl (HNo.out ⟨⟨#[]⟩, (xl : Int), ⟨#[]⟩, 0⟩ _ HD.out ?_)
        repeat (refine Below.setCell ?_ (by first | exact Nat.le_refl _ | (simp; done) | (simp; omega)) _)
        first | exact ((Below.refl _ _).alloc (Nat.le_refl _) _).alloc (by simp) _ | exact (Below.refl _ _).alloc (Nat.le_refl _) _ | exact (((Below.refl _ _).alloc (Nat.le_refl _) _).alloc (by simp) _).alloc (by simp; omega) _
  · rw [if_pos (by omega)] at hd
    have HD := Lib.hid hd
    have q1 : decide ((512 : Int) < (at_ : Int) + 3) = true := by simp; omega
    clear hd hB HYes
    go_enter Try.func43, Try.ntmps43
    go_wp2
    refine bodyPost_ret (v := .tuple #[.agg #[.string ⟨#[]⟩, .int .i64 0, .string ⟨#[]⟩, .int .i64 0], .int .i64 0, .bool false]) (by simp [results, Try.results43, go_sem]) rfl (HNo.out ⟨⟨#[]⟩, 0, ⟨#[]⟩, 0⟩ _ HD.out ?_)
    repeat (refine Below.setCell ?_ (by first | exact Nat.le_refl _ | (simp; done) | (simp; omega)) _)
    first | exact ((Below.refl _ _).alloc (Nat.le_refl _) _).alloc (by simp) _ | exact (Below.refl _ _).alloc (Nat.le_refl _) _ | exact (((Below.refl _ _).alloc (Nat.le_refl _) _).alloc (by simp) _).alloc (by simp; omega) _

theorem rpart_any (leaf : Bool) (b : List Nat) (a : Option Addr) (cap at_ : Nat) (w : World) (hB : Bs w.heap.size w a b) (hl : b.length = 512) (hcap : 512 ≤ cap) (hcm : cap ≤ 9223372036854775807) (hat : at_ ≤ 512) :
    Calls Try.prog 43 #[.slice a 512 cap, .int .i64 (at_ : Int), .bool leaf] w (RetPart w leaf b at_) := by
  cases leaf with
  | true => exact rpartL_any b a cap at_ w hB hl hcap hcm hat
  | false => exact rpartI_any b a cap at_ w hB hl hcap hcm hat
end Go.Proofs.Ytlcphgomhhejbaa

/- The walk of the reference's Write. -/
namespace Go.Proofs.Ytlcphgomhhejbaa
open Go.RowKit

/-- What the reference's Write answers. -/
noncomputable def writeR (x : Rn) : List Nat × Int := if x.ok then (if (encN x).length ≤ 512 then (pageN x, 0) else ([], 2)) else ([], 3)

set_option maxRecDepth 100000 in
set_option maxHeartbeats 4000000 in
theorem rWrite_any (x : Rn) (m : RB) (w : World) (h : RAt w x m) (hbig : m.ll ≤ 60000) :
    Calls Try.prog 13 #[m.v x.leaf x.kid] w (RetBytes w (writeR x)) := by
  obtain ⟨i0, hi0, hz0, hz1, hz2⟩ := info_parts Try.info5
  have HR := Lib.hid (fun W (hb : Below w.heap.size w W) => rRight_any x m W (h.later hb))
  have HBy := Lib.hid (fun (ho : x.ok = true) W (hb : Below w.heap.size w W) => rBytes_any x m W (h.later hb) (Rn.ok_true ho) hbig)
  have hE : x.ok = true → (encN x).length ≤ 14000000 := by
    intro ho
    have h1 := lenTo_bd (Rn.ok_true ho) x.l.length (Nat.le_refl _)
    rw [lenTo_all] at h1
    have := h.hl
    omega
  have HLt : Hid (x.ok = true → ∀ c ∈ encN x, c < 256) := fun ho => encN_lt (Rn.ok_true ho)
  clear h
  obtain ⟨xf, hxf⟩ : ∃ xf, x.leaf = xf := ⟨_, rfl⟩
  obtain ⟨xk, hxk⟩ : ∃ xk, x.kid = xk := ⟨_, rfl⟩
  rw [hxf, hxk] at HR HBy ⊢
  clear hxf hxk
  obtain ⟨la, ll, lc⟩ := m
  simp only at *
  cases hok : x.ok with
  | false =>
    have HE : Hid (writeR x = ([], 3)) := by show _ = _; unfold writeR; rw [hok]; rfl
    rw [HE.out]
    rw [hok] at HR
    clear HBy hE hok HLt
    go_enter Try.func13, Try.ntmps13
    go_wp2_with fail
    refine (HR.out _ (Below.box _ _)).mono ?_
    rintro e w1 ⟨rfl, hb⟩
    go_wp2
    go_ret2
    exact RetBytes.none ((Below.box _ _).trans (hb.mono (by simp)))
  | true =>
    have hE2 := hE hok
    have HLt2 := Lib.hid (HLt.out hok)
    have HB := Lib.hid (HBy.out hok)
    rw [hok] at HR
    obtain ⟨R, hR0⟩ : ∃ R, writeR x = R := ⟨_, rfl⟩
    have HWr : Hid (R = if (encN x).length ≤ 512 then (pageN x, 0) else ([], 2)) := by show _ = _; rw [← hR0]; unfold writeR; rw [hok, if_pos rfl]
    rw [hR0]
    clear hR0
    clear HBy hE hok HLt
    go_enter Try.func13, Try.ntmps13
    go_wp2_with fail
    refine (HR.out _ (Below.box _ _)).mono ?_
    rintro e w1 ⟨rfl, hb⟩
    have HW1 : Hid (Below w.heap.size w w1) := (Below.box _ _).trans (hb.mono (by simp))
    have hB := (Blk.new w 32 #[.bool xf, .int .i64 xk, .slice la ll lc]).bel hb (by simp)
    have y0 : w1.cell? ⟨w.heap.size, 0, none⟩ = some (.bool xf) := hB.cell 0
    have y1 : w1.cell? ⟨w.heap.size, 1, none⟩ = some (.int .i64 xk) := hB.cell 1
    have y2 : w1.cell? ⟨w.heap.size, 2, none⟩ = some (.slice la ll lc) := hB.cell 2
    have ylt := hB.lt
    clear hb hB HR
    go_wp2_with fail
    refine (HB.out _ HW1.out).mono ?_
    rintro e w2 ⟨v, rfl, _, hrow, L12⟩
    obtain ⟨a, cap, rfl, _, _, _⟩ := own_slice hrow
    have HRow := Lib.hid hrow
    have HW2 : Hid (Below w.heap.size w w2) := HW1.out.trans (Below.mono L12 HW1.out.size)
    have hbs2 : w1.heap.size ≤ w2.heap.size := L12.size
    obtain ⟨T, hT⟩ : ∃ T, (encN x).length = T := ⟨_, rfl⟩
    have HT := Lib.hid hT
    rw [hT] at hE2 HRow ⊢
    clear hT hrow L12 y0 y1 y2 ylt
    by_cases h5 : T ≤ 512
    · have q5 : decide ((512 : Int) < (T : Int)) = false := by simp; omega
      obtain rfl : R = (pageN x, 0) := by rw [HWr.out, HT.out, if_pos h5]
      have HEnd : Hid (∀ a n cap W, T ≤ n → ¬ n < 512 → n ≤ 512 → w2.heap.size ≤ W.heap.size → n ≤ cap → cap ≤ 9223372036854775807 → W.ownsRow w1.heap.size 5 1 (.slice a n cap) n (cellsU (encN x ++ List.replicate (n - T) 0)) → Below w.heap.size w W → RetBytes w (pageN x, 0) (.returned (.tuple #[.slice a n cap, .int .i64 0])) W) := by
        intro a n cap W h1 h2 h3 _ h4 h5' hown hbel
        have hn : n = 512 := by omega
        subst hn
        have hp : encN x ++ List.replicate (512 - T) 0 = pageN x := by unfold pageN; rw [HT.out]
        rw [hp] at hown
        have hpl : (pageN x).length = 512 := pageN_len (by rw [HT.out]; exact h1)
        obtain ⟨_, _, e1, _, _, harr⟩ := own_slice hown
        simp only [Value.slice.injEq, true_and] at e1
        obtain ⟨rfl, rfl⟩ := e1
        refine ⟨a, cap, by rw [hpl], by rw [hpl]; exact h4, h5', harr.bs ?_, hbel⟩
        intro c hc
        unfold pageN at hc
        rcases List.mem_append.1 hc with hc | hc
        · exact HLt2.out c hc
        · rw [List.eq_of_mem_replicate hc]; omega
      go_wp2_with fail
      go_loopw [4] (fun v wr => ∃ (a : Option Addr) (n cap : Nat), T ≤ n ∧ n ≤ 512 ∧ v = .slice a n cap ∧ Hid (wr.ownsRow w1.heap.size 5 1 (.slice a n cap) n (cellsU (encN x ++ List.replicate (n - T) 0))) ∧ Hid (Below w2.heap.size w2 wr ∨ Below w1.heap.size w2 wr)) (fun v _ => match v with | .slice _ n _ => 512 - n | _ => 0)
      case atStart => exact ⟨a, T, cap, Nat.le_refl _, h5, rfl, by rw [Nat.sub_self, List.replicate_zero, List.append_nil]; exact HRow.out, .inl (Below.refl _ _)⟩
      case round =>
        obtain ⟨a', n, cap', hn1, hn2, rfl, HO, HBr⟩ := hrel
        have hB1 : Below w1.heap.size w2 wr := HBr.out.elim (fun h => h.mono hbs2) id
        have hbs3 : w1.heap.size ≤ wr.heap.size := Nat.le_trans hbs2 hB1.size
        have HB1 := Lib.hid hB1
        have hHW : Hid (Below w.heap.size w wr) := HW2.out.trans (hB1.mono HW1.out.size)
        clear hB1 HBr
        by_cases hlt : n < 512
        · have HS : Hid (cellsU (encN x ++ List.replicate (n + 1 - T) 0) = cellsU (encN x ++ List.replicate (n - T) 0) ++ [.int .u8 0]) := by
            show _ = _
            rw [show n + 1 - T = (n - T) + 1 by omega, List.replicate_succ', ← List.append_assoc]
            simp [cellsU]
          go_wp2_with (at_builtin; refine wpList_appN rfl (.tmp 16) (.tmp 17) 27 rfl w1.heap.size 5 i0 (.int .u8 0) 1 1 Try.underlying27 hi0 hz0 rfl hz1 (by omega) hz2 (by omega) (.slice a' n cap') n _ [.int .u8 0] wr HO.out rfl _ rfl rfl (by simp [Value.oneCell']) rfl (by omega) hbs3 ?_; intro v6 x6 hk6 hb6 hs6; obtain ⟨a6, c6, rfl, _, _, _⟩ := own_slice hk6; have HK6 := Lib.hid hk6; have HB6 := Lib.hid hb6; clear hk6 hb6 hs6)
          go_roundw
          case rel => exact ⟨a6, n + 1, c6, by omega, by omega, rfl, by rw [HS.out]; exact HK6.out, .inr (HB1.out.trans HB6.out)⟩
          case measure => simp; omega
        · have hcap := (own_slice HO.out)
          obtain ⟨_, _, e1, g1, g2, _⟩ := hcap
          simp only [Value.slice.injEq, true_and] at e1
          obtain ⟨rfl, rfl⟩ := e1
          have HE := Lib.hid (HEnd.out a' n cap' wr hn1 hlt hn2 HB1.out.size g1 g2 HO.out hHW.out)
          clear g1 g2
          go_wp2
          go_ret2
          exact HE.out
    · have q5 : decide ((512 : Int) < (T : Int)) = true := by simp; omega
      obtain rfl : R = ([], 2) := by rw [HWr.out, HT.out, if_neg h5]
      go_wp2
      go_ret2
      exact RetBytes.none HW2.out
end Go.Proofs.Ytlcphgomhhejbaa
