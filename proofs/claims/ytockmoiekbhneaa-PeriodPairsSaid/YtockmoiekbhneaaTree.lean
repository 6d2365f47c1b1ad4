/- A region that draws its order, walked along a tree of orders: as Ord's, but where two operations may come up at once both ways are walked. -/
import Derived.Test.YtockmoiekbhneaaFoot
namespace Go.Proofs.Ytockmoiekbhneaa
open Go.RowKit

theorem undrewL {a w : World} (h : Later a.drew w) : Later a w := ⟨h.os, h.tape, h.output, h.size, h.block⟩

/-- A tree of orders. -/
inductive OT where
  | nil : OT
  | free : Nat → OT → OT
  | one : Nat → OT → OT
  | two : Nat → Nat → OT → OT → OT

section
variable {P : Program} {ops : Array Oper} {Q : Exit → Act → World → Prop} {md : Region.Mode}

def wpT (P : Program) (ops : Array Oper) (Q : Exit → Act → World → Prop) (L : World → World → Prop) : OT → Act → World → Prop
  | .nil, a, w => Q .normal a w
  | .free i r, a, w => ∃ o v, ops[i]? = some o ∧ YieldsIf P ops (L w) o v a ∧ wpT P ops Q L r (a.put o.dst v) w
  | .one i r, a, w => wpOp P ops Q i (fun a' w' => L w w' ∧ wpT P ops Q L r a' w') a w
  | .two i j r s, a, w => wpOp P ops Q i (fun a' w' => L w w' ∧ wpT P ops Q L r a' w') a w ∧ wpOp P ops Q j (fun a' w' => L w w' ∧ wpT P ops Q L s a' w') a w

def OT.high : OT → Nat
  | .nil => 0
  | .free _ r => r.high + 1
  | .one _ r => r.high + 1
  | .two _ _ r s => max r.high s.high + 1

def checkT (md : Region.Mode) (ops : Array Oper) : OT → Array Bool → Bool
  | .nil, l => Region.ready md ops l == []
  | .free i r, l => Region.free md ops l i && (Region.ready md ops l).contains i && checkT md ops r (l.setIfInBounds i true)
  | .one i r, l => Region.ready md ops l == [i] && checkT md ops r (l.setIfInBounds i true)
  | .two i j r s, l => Region.ready md ops l == [i, j] && checkT md ops r (l.setIfInBounds i true) && checkT md ops s (l.setIfInBounds j true)

theorem wpT_sound {L : World → World → Prop} (Lr : ∀ w, L w w) (Lt : ∀ {a b c}, L a b → L b c → L a c) (hs : Region.noSelect ops = true) (hQ : ∀ c (a : Act) d v w, Q (.panic c) (a.put d v) w → Q (.panic c) a w) :
    ∀ (t : OT) (fuel : Nat) (listed : Array Bool) (a : Act) (w : World), t.high ≤ fuel → checkT md ops t listed = true → wpT P ops Q L t a w → wpAnyH P md ops Q (L w) fuel listed a w
  | .nil, fuel, listed, a, w, _, hc, h => wpAnyH_done (by simpa [checkT] using hc) h fuel
  | .free i r, fuel, listed, a, w, hf, hc, h => by
    obtain ⟨o, v, ho, hy, h⟩ := h
    simp only [checkT, Bool.and_eq_true] at hc
    cases fuel with
    | zero => simp [OT.high] at hf
    | succ fuel =>
      exact wpAnyH_take ho hs hc.1.1 hc.1.2 (fun c a w => hQ c a o.dst v w) hy (Lr w) (wpT_sound Lr Lt hs hQ r fuel _ _ w (by simpa [OT.high] using hf) hc.2 h)
  | .one i r, fuel, listed, a, w, hf, hc, h => by
    simp only [checkT, Bool.and_eq_true, beq_iff_eq] at hc
    cases fuel with
    | zero => simp [OT.high] at hf
    | succ fuel =>
      refine wpAnyH_all (rs := [i]) hc.1 (by simp) ?_
      intro j hj
      rw [List.mem_singleton.1 hj]
      exact wpOp_mono (fun a' w' h' => ⟨h'.1, wpAnyH_stronger (fun x hx => Lt h'.1 hx) fuel _ _ _ (wpT_sound Lr Lt hs hQ r fuel _ a' w' (by simpa [OT.high] using hf) hc.2 h'.2)⟩) h
  | .two i j r s, fuel, listed, a, w, hf, hc, h => by
    simp only [checkT, Bool.and_eq_true, beq_iff_eq] at hc
    cases fuel with
    | zero => simp [OT.high] at hf
    | succ fuel =>
      refine wpAnyH_all (rs := [i, j]) hc.1.1 (by simp) ?_
      have hf1 : r.high ≤ fuel ∧ s.high ≤ fuel := by simp [OT.high] at hf; omega
      intro k hk
      rcases List.mem_cons.1 hk with hk | hk
      · rw [hk]
        exact wpOp_mono (fun a' w' h' => ⟨h'.1, wpAnyH_stronger (fun x hx => Lt h'.1 hx) fuel _ _ _ (wpT_sound Lr Lt hs hQ r fuel _ a' w' hf1.1 hc.1.2 h'.2)⟩) h.1
      · rw [List.mem_singleton.1 hk]
        exact wpOp_mono (fun a' w' h' => ⟨h'.1, wpAnyH_stronger (fun x hx => Lt h'.1 hx) fuel _ _ _ (wpT_sound Lr Lt hs hQ s fuel _ a' w' hf1.2 hc.2 h'.2)⟩) h.2

/-- The beginning, where blocks S may be written. -/
theorem wp_region_tree {id : Nat} {a : Act} {w : World} (S : List Nat) (t : OT) (hm : P.follows .mixedOrders = true) (hs : Region.noSelect ops = true)
    (hl : decide (t.high ≤ ops.size) = true) (hc : checkT .any ops t (Array.replicate ops.size false) = true) (h : wpT P ops (NoPanic Q) (Chg S) t a w.drew) : (Code.region id ops true).wp P Q a w :=
  wp_region_noPanic (wp_region_held hm (wpT_sound (Chg.refl S) Chg.trans hs (NoPanic.put Q) t ops.size _ a w.drew (of_decide_eq_true hl) hc h))

variable {L : World → World → Prop}
theorem wpT_nil {a : Act} {w : World} (h : Q .normal a w) : wpT P ops (NoPanic Q) L .nil a w := h
theorem wpT_F {i : Nat} {r : OT} {a : Act} {w : World} {o : Oper} {v : Value} (ho : nth ops.toList i = some o) (hw : Region.wanted o (yielded ops a.tmps) = true)
    (hv : ∀ w', L w w' → (execOp a.eval o).run P w' = .ok (.value v) w') (h : wpT P ops Q L r (a.put o.dst v) w) : wpT P ops Q L (.free i r) a w :=
  ⟨o, v, nth_ops ho, .inl ⟨hw, hv⟩, h⟩
theorem wpT_G {i : Nat} {r : OT} {a : Act} {w : World} {o : Oper} (ho : nth ops.toList i = some o) (hw : Region.wanted o (yielded ops a.tmps) = false)
    (h : wpT P ops Q L r (a.put o.dst undef) w) : wpT P ops Q L (.free i r) a w :=
  ⟨o, undef, nth_ops ho, .inr ⟨hw, rfl⟩, h⟩
theorem wpT_skip (Lr : ∀ w, L w w) {i : Nat} {r : OT} {a : Act} {w : World} {o : Oper} (ho : nth ops.toList i = some o) (hw : Region.wanted o (yielded ops a.tmps) = false)
    (h : wpT P ops Q L r (a.put o.dst undef) w) : wpT P ops Q L (.one i r) a w := by
  show wpOp P ops Q i _ a w
  unfold wpOp
  simp only [nth_ops ho, hw]
  exact ⟨Lr w, h⟩
theorem wpT_C {i : Nat} {r : OT} {a : Act} {w : World} {o : Oper} (ho : nth ops.toList i = some o) (hw : Region.wanted o (yielded ops a.tmps) = true)
    (h : o.wp P a w (fun a' w' => L w w' ∧ wpT P ops Q L r a' w') Q) : wpT P ops Q L (.one i r) a w := by
  show wpOp P ops Q i _ a w
  unfold wpOp
  simp only [nth_ops ho, hw]
  exact .inl h
theorem wpT_two {i j : Nat} {r s : OT} {a : Act} {w : World} (h1 : wpT P ops Q L (.one i r) a w) (h2 : wpT P ops Q L (.one j s) a w) : wpT P ops Q L (.two i j r s) a w := ⟨h1, h2⟩
end
attribute [irreducible] wpT
end Go.Proofs.Ytockmoiekbhneaa
