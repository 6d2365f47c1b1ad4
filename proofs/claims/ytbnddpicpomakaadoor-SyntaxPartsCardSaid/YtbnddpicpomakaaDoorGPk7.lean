/- Several texts of one proof, one behind the other. -/
import Derived.Test.YtbnddpicpomakaaDoorGPk6
import Derived.Great.BuildSlice
set_option linter.unusedSimpArgs false
set_option linter.unusedVariables false

/- A region that draws its order, walked along a tree of orders: as Ord's, but where two operations may come up at once both ways are walked. -/
set_option linter.unusedSimpArgs false
set_option linter.unusedVariables false
set_option maxRecDepth 100000
namespace Go.Proofs.YtbnddpicpomakaaDoor
open Go.RowKit

theorem undrewL {a w : World} (h : Later a.drew w) : Later a w := ⟨h.os, h.tape, h.output, h.size, h.block⟩

/-- A tree of orders. -/
inductive OT where
  | nil : OT
  | free : Nat → OT → OT
  | one : Nat → OT → OT
  | two : Nat → Nat → OT → OT → OT
  | three : Nat → Nat → Nat → OT → OT → OT → OT

section
variable {P : Program} {ops : Array Oper} {Q : Exit → Act → World → Prop} {md : Region.Mode}

def wpT (P : Program) (ops : Array Oper) (Q : Exit → Act → World → Prop) (L : World → World → Prop) : OT → Act → World → Prop
  | .nil, a, w => Q .normal a w
  | .free i r, a, w => ∃ o v, ops[i]? = some o ∧ YieldsIf P ops (L w) o v a ∧ wpT P ops Q L r (a.put o.dst v) w
  | .one i r, a, w => wpOp P ops Q i (fun a' w' => L w w' ∧ wpT P ops Q L r a' w') a w
  | .two i j r s, a, w => wpOp P ops Q i (fun a' w' => L w w' ∧ wpT P ops Q L r a' w') a w ∧ wpOp P ops Q j (fun a' w' => L w w' ∧ wpT P ops Q L s a' w') a w
  | .three i j k r s t, a, w => wpOp P ops Q i (fun a' w' => L w w' ∧ wpT P ops Q L r a' w') a w ∧ wpOp P ops Q j (fun a' w' => L w w' ∧ wpT P ops Q L s a' w') a w ∧ wpOp P ops Q k (fun a' w' => L w w' ∧ wpT P ops Q L t a' w') a w

def OT.high : OT → Nat
  | .nil => 0
  | .free _ r => r.high + 1
  | .one _ r => r.high + 1
  | .two _ _ r s => max r.high s.high + 1
  | .three _ _ _ r s t => max r.high (max s.high t.high) + 1

def checkT (md : Region.Mode) (ops : Array Oper) : OT → Array Bool → Bool
  | .nil, l => Region.ready md ops l == []
  | .free i r, l => Region.free md ops l i && (Region.ready md ops l).contains i && checkT md ops r (l.setIfInBounds i true)
  | .one i r, l => Region.ready md ops l == [i] && checkT md ops r (l.setIfInBounds i true)
  | .two i j r s, l => Region.ready md ops l == [i, j] && checkT md ops r (l.setIfInBounds i true) && checkT md ops s (l.setIfInBounds j true)
  | .three i j k r s t, l => Region.ready md ops l == [i, j, k] && checkT md ops r (l.setIfInBounds i true) && checkT md ops s (l.setIfInBounds j true) && checkT md ops t (l.setIfInBounds k true)

theorem wpT_sound {L : World → World → Prop} (Lr : ∀ w, L w w) (Lt : ∀ {a b c}, L a b → L b c → L a c) (hs : Region.noSelect ops = true) (hQ : ∀ c (a : Act) d v w, Q (.panic c) (a.put d v) w → Q (.panic c) a w) :
    ∀ (t : OT) (fuel : Nat) (listed : Array Bool) (a : Act) (w : World), t.high ≤ fuel → checkT md ops t listed = true → wpT P ops Q L t a w → wpAnyH P md ops Q (L w) fuel listed a w
  | .nil, fuel, listed, a, w, _, hc, h => wpAnyH_done (by simpa [checkT] using hc) h fuel
  | .free i r, fuel, listed, a, w, hf, hc, h => by
    obtain ⟨o, v, ho, hy, h⟩ := h
    simp only [checkT, Bool.and_eq_true] at hc
    cases fuel with
    | zero => simp [OT.high] at hf
    | succ fuel =>
      exact wpAnyH_take ho hs hc.1.1 hc.1.2 (fun c a w => hQ c a o.dst v w) hy (Lr w) (wpT_sound Lr Lt hs hQ r fuel _ _ w (by simpa [OT.high] using hf) hc.2 h)
  | .one i r, fuel, listed, a, w, hf, hc, h => by
    simp only [checkT, Bool.and_eq_true, beq_iff_eq] at hc
    cases fuel with
    | zero => simp [OT.high] at hf
    | succ fuel =>
      refine wpAnyH_all (rs := [i]) hc.1 (by simp) ?_
      intro j hj
      rw [List.mem_singleton.1 hj]
      exact wpOp_mono (fun a' w' h' => ⟨h'.1, wpAnyH_stronger (fun x hx => Lt h'.1 hx) fuel _ _ _ (wpT_sound Lr Lt hs hQ r fuel _ a' w' (by simpa [OT.high] using hf) hc.2 h'.2)⟩) h
  | .two i j r s, fuel, listed, a, w, hf, hc, h => by
    simp only [checkT, Bool.and_eq_true, beq_iff_eq] at hc
    cases fuel with
    | zero => simp [OT.high] at hf
    | succ fuel =>
      refine wpAnyH_all (rs := [i, j]) hc.1.1 (by simp) ?_
      have hf1 : r.high ≤ fuel ∧ s.high ≤ fuel := by simp [OT.high] at hf; omega
      intro k hk
      rcases List.mem_cons.1 hk with hk | hk
      · rw [hk]
        exact wpOp_mono (fun a' w' h' => ⟨h'.1, wpAnyH_stronger (fun x hx => Lt h'.1 hx) fuel _ _ _ (wpT_sound Lr Lt hs hQ r fuel _ a' w' hf1.1 hc.1.2 h'.2)⟩) h.1
      · rw [List.mem_singleton.1 hk]
        exact wpOp_mono (fun a' w' h' => ⟨h'.1, wpAnyH_stronger (fun x hx => Lt h'.1 hx) fuel _ _ _ (wpT_sound Lr Lt hs hQ s fuel _ a' w' hf1.2 hc.2 h'.2)⟩) h.2
  | .three i j k r s t, fuel, listed, a, w, hf, hc, h => by
    simp only [checkT, Bool.and_eq_true, beq_iff_eq] at hc
    cases fuel with
    | zero => simp [OT.high] at hf
    | succ fuel =>
      refine wpAnyH_all (rs := [i, j, k]) hc.1.1.1 (by simp) ?_
      have hf1 : r.high ≤ fuel ∧ s.high ≤ fuel ∧ t.high ≤ fuel := by simp [OT.high] at hf; omega
      intro x hx
      rcases List.mem_cons.1 hx with hx | hx
      · rw [hx]
        exact wpOp_mono (fun a' w' h' => ⟨h'.1, wpAnyH_stronger (fun x hx => Lt h'.1 hx) fuel _ _ _ (wpT_sound Lr Lt hs hQ r fuel _ a' w' hf1.1 hc.1.1.2 h'.2)⟩) h.1
      rcases List.mem_cons.1 hx with hx | hx
      · rw [hx]
        exact wpOp_mono (fun a' w' h' => ⟨h'.1, wpAnyH_stronger (fun x hx => Lt h'.1 hx) fuel _ _ _ (wpT_sound Lr Lt hs hQ s fuel _ a' w' hf1.2.1 hc.1.2 h'.2)⟩) h.2.1
      · rw [List.mem_singleton.1 hx]
        exact wpOp_mono (fun a' w' h' => ⟨h'.1, wpAnyH_stronger (fun x hx => Lt h'.1 hx) fuel _ _ _ (wpT_sound Lr Lt hs hQ t fuel _ a' w' hf1.2.2 hc.2 h'.2)⟩) h.2.2

/-- The beginning, where blocks S may be written. -/
theorem wp_region_tree {id : Nat} {a : Act} {w : World} (S : List Nat) (t : OT) (hm : P.follows .mixedOrders = true) (hs : Region.noSelect ops = true)
    (hl : decide (t.high ≤ ops.size) = true) (hc : checkT .any ops t (Array.replicate ops.size false) = true) (h : wpT P ops (NoPanic Q) (Chg S) t a w.drew) : (Code.region id ops true).wp P Q a w :=
  wp_region_noPanic (wp_region_held hm (wpT_sound (Chg.refl S) Chg.trans hs (NoPanic.put Q) t ops.size _ a w.drew (of_decide_eq_true hl) hc h))

variable {L : World → World → Prop}
theorem wpT_nil {a : Act} {w : World} (h : Q .normal a w) : wpT P ops (NoPanic Q) L .nil a w := h
theorem wpT_F {i : Nat} {r : OT} {a : Act} {w : World} {o : Oper} {v : Value} (ho : nth ops.toList i = some o) (hw : Region.wanted o (yielded ops a.tmps) = true)
    (hv : ∀ w', L w w' → (execOp a.eval o).run P w' = .ok (.value v) w') (h : wpT P ops Q L r (a.put o.dst v) w) : wpT P ops Q L (.free i r) a w :=
  ⟨o, v, nth_ops ho, .inl ⟨hw, hv⟩, h⟩
theorem wpT_G {i : Nat} {r : OT} {a : Act} {w : World} {o : Oper} (ho : nth ops.toList i = some o) (hw : Region.wanted o (yielded ops a.tmps) = false)
    (h : wpT P ops Q L r (a.put o.dst undef) w) : wpT P ops Q L (.free i r) a w :=
  ⟨o, undef, nth_ops ho, .inr ⟨hw, rfl⟩, h⟩
theorem wpT_skip (Lr : ∀ w, L w w) {i : Nat} {r : OT} {a : Act} {w : World} {o : Oper} (ho : nth ops.toList i = some o) (hw : Region.wanted o (yielded ops a.tmps) = false)
    (h : wpT P ops Q L r (a.put o.dst undef) w) : wpT P ops Q L (.one i r) a w := by
  show wpOp P ops Q i _ a w
  unfold wpOp
  simp only [nth_ops ho, hw]
  exact ⟨Lr w, h⟩
theorem wpT_C {i : Nat} {r : OT} {a : Act} {w : World} {o : Oper} (ho : nth ops.toList i = some o) (hw : Region.wanted o (yielded ops a.tmps) = true)
    (h : o.wp P a w (fun a' w' => L w w' ∧ wpT P ops Q L r a' w') Q) : wpT P ops Q L (.one i r) a w := by
  show wpOp P ops Q i _ a w
  unfold wpOp
  simp only [nth_ops ho, hw]
  exact .inl h
theorem wpT_two {i j : Nat} {r s : OT} {a : Act} {w : World} (h1 : wpT P ops Q L (.one i r) a w) (h2 : wpT P ops Q L (.one j s) a w) : wpT P ops Q L (.two i j r s) a w := ⟨h1, h2⟩
theorem wpT_three {i j k : Nat} {r s t : OT} {a : Act} {w : World} (h1 : wpT P ops Q L (.one i r) a w) (h2 : wpT P ops Q L (.one j s) a w) (h3 : wpT P ops Q L (.one k t) a w) : wpT P ops Q L (.three i j k r s t) a w := ⟨h1, h2, h3⟩
end
attribute [irreducible] wpT
end Go.Proofs.YtbnddpicpomakaaDoor

/- A region that draws its order, walked along a tree of orders, at whose end come operations X, in any order, that may write what the others read. -/
set_option linter.unusedSimpArgs false
set_option linter.unusedVariables false
set_option maxRecDepth 100000
namespace Go.Proofs.YtbnddpicpomakaaDoor
open Go.RowKit

/-- A tree of orders with a tail. -/
inductive OL where
  | nil : OL
  | free : Nat → OL → OL
  | one : Nat → OL → OL
  | two : Nat → Nat → OL → OL → OL
  | last : Nat → OL → OL
  | lasts : Nat → Nat → OL → OL → OL

section
variable {P : Program} {ops : Array Oper} {Q : Exit → Act → World → Prop} {md : Region.Mode}

/-- Whatever order is picked; S holds behind each operation but those of X. -/
def wpAnyL (P : Program) (md : Region.Mode) (ops : Array Oper) (Q : Exit → Act → World → Prop) (X : List Nat) (S : World → Prop) : Nat → Array Bool → Act → World → Prop
  | 0, l, a, w => Region.ready md ops l = [] ∧ Q .normal a w
  | n + 1, l, a, w => (Region.ready md ops l = [] → Q .normal a w) ∧
      ∀ i, i ∈ Region.ready md ops l → wpOp P ops Q i (fun a' w' => (i ∉ X → S w') ∧ wpAnyL P md ops Q X S n (l.setIfInBounds i true) a' w') a w

theorem wpAny_of_L {X : List Nat} {S : World → Prop} : ∀ (n : Nat) (l : Array Bool) (a : Act) (w : World), wpAnyL P md ops Q X S n l a w → wpAny P md ops Q n l a w
  | 0, _, _, _, h => h
  | n + 1, _, _, _, h => ⟨h.1, fun i hi => wpOp_mono (fun a' w' h' => wpAny_of_L n _ a' w' h'.2) (h.2 i hi)⟩

theorem wpAnyL_first {X : List Nat} {i : Nat} {S : World → Prop} {oi : Oper} {v : Value} (hi : ops[i]? = some oi) (hsel : ∀ (j : Nat) (o : Oper) cs b, ops[j]? = some o → o.op ≠ .select cs b)
    (hQ : ∀ c (a : Act) w, Q (.panic c) (a.put oi.dst v) w → Q (.panic c) a w) (m : Nat) (hxi : ∀ x ∈ X, waitsN md ops i m x = true) :
    ∀ (n : Nat) (l : Array Bool) (a : Act) (w : World), Closed md ops l →
      (∀ j oj, ops[j]? = some oj → j ≠ i → l.getD j true = false → (∀ e ∈ oj.after, Region.binds md e = true → e.on ≠ i) → oi.apart ops oj = true) →
      i ∈ Region.ready md ops l → YieldsIf P ops S oi v a → S w →
      wpAnyL P md ops Q X S n (l.setIfInBounds i true) (a.put oi.dst v) w → wpAnyL P md ops Q X S (n + 1) l a w
  | n, l, a, w, hcl, hfree, hr, hy, hS, H => by
    refine ⟨fun h => absurd hr (by rw [h]; simp), fun j hj => ?_⟩
    by_cases hji : j = i
    · subst hji
      exact hy.wpOp hi hS ⟨fun _ => hS, H⟩
    obtain ⟨hjun, oj, hoj, hall⟩ := mem_ready.1 hj
    have hun : ¬ l.getD i false = true := by
      intro h1
      have h0 := (mem_ready.1 hr).1
      by_cases hlt : i < l.size
      · simp [hlt] at h0 h1
        rw [h0] at h1
        cases h1
      · simp [Array.getElem?_eq_none (Nat.le_of_not_lt hlt)] at h1
    have hnot : ∀ e ∈ oj.after, Region.binds md e = true → e.on ≠ i := by
      intro e he hb heq
      have h1 := hall e he hb
      rw [heq] at h1
      exact hun h1
    have hjX : j ∉ X := fun hj => hun (hcl.waits m j oj hoj hall (hxi j hj))
    match n, H with
    | 0, H =>
      have := ready_mono hj hji
      rw [H.1] at this
      cases this
    | n + 1, H =>
      have h1 := H.2 j (ready_mono hj hji)
      have h2 := wpOp_putIf hoj (hfree j oj hoj hji hjun hnot) (fun cs b => hsel i oi cs b hi) (fun cs b => hsel j oj cs b hoj) hQ hy h1
      refine wpOp_mono (fun a' w' h3 => ⟨fun _ => h3.2.1 hjX, ?_⟩) h2
      refine wpAnyL_first hi hsel hQ m hxi n _ a' w' (hcl.set_ hj) ?_ (ready_mono hr (Ne.symm hji)) h3.1 (h3.2.1 hjX) ?_
      · intro k ok hk hki hun hno
        refine hfree k ok hk hki ?_ hno
        by_cases hjk : j = k
        · subst hjk; exact hjun
        · rw [getD_set_ne true hjk] at hun; exact hun
      · rw [Array.setIfInBounds_comm _ _ hji]
        exact h3.2.2

theorem wpAnyL_stronger {X : List Nat} {S S' : World → Prop} (hS : ∀ w, S' w → S w) : ∀ (n : Nat) (l : Array Bool) (a : Act) (w : World), wpAnyL P md ops Q X S' n l a w → wpAnyL P md ops Q X S n l a w
  | 0, _, _, _, h => h
  | n + 1, _, _, _, h => ⟨h.1, fun i hi => wpOp_mono (fun _ _ h' => ⟨fun hx => hS _ (h'.1 hx), wpAnyL_stronger hS n _ _ _ h'.2⟩) (h.2 i hi)⟩

def wpL (P : Program) (ops : Array Oper) (Q : Exit → Act → World → Prop) (L : World → World → Prop) : OL → Act → World → Prop
  | .nil, a, w => Q .normal a w
  | .free i r, a, w => ∃ o v, ops[i]? = some o ∧ YieldsIf P ops (L w) o v a ∧ wpL P ops Q L r (a.put o.dst v) w
  | .one i r, a, w => wpOp P ops Q i (fun a' w' => L w w' ∧ wpL P ops Q L r a' w') a w
  | .two i j r s, a, w => wpOp P ops Q i (fun a' w' => L w w' ∧ wpL P ops Q L r a' w') a w ∧ wpOp P ops Q j (fun a' w' => L w w' ∧ wpL P ops Q L s a' w') a w
  | .last i r, a, w => wpOp P ops Q i (fun a' w' => wpL P ops Q L r a' w') a w
  | .lasts i j r s, a, w => wpOp P ops Q i (fun a' w' => wpL P ops Q L r a' w') a w ∧ wpOp P ops Q j (fun a' w' => wpL P ops Q L s a' w') a w

def OL.high : OL → Nat
  | .nil => 0
  | .free _ r => r.high + 1
  | .one _ r => r.high + 1
  | .two _ _ r s => max r.high s.high + 1
  | .last _ r => r.high + 1
  | .lasts _ _ r s => max r.high s.high + 1

def OL.isTail : OL → Bool
  | .nil => true
  | .last _ r => r.isTail
  | .lasts _ _ r s => r.isTail && s.isTail
  | _ => false
def checkL (md : Region.Mode) (ops : Array Oper) (X : List Nat) : OL → Array Bool → Bool
  | .nil, l => Region.ready md ops l == []
  | .free i r, l => X.all (waitsN md ops i ops.size) && (Region.free md ops l i && (Region.ready md ops l).contains i && checkL md ops X r (l.setIfInBounds i true))
  | .one i r, l => Region.ready md ops l == [i] && checkL md ops X r (l.setIfInBounds i true)
  | .two i j r s, l => Region.ready md ops l == [i, j] && checkL md ops X r (l.setIfInBounds i true) && checkL md ops X s (l.setIfInBounds j true)
  | .last i r, l => r.isTail && X.contains i && Region.ready md ops l == [i] && checkL md ops X r (l.setIfInBounds i true)
  | .lasts i j r s, l => r.isTail && s.isTail && X.contains i && X.contains j && Region.ready md ops l == [i, j] && checkL md ops X r (l.setIfInBounds i true) && checkL md ops X s (l.setIfInBounds j true)

theorem wpL_tail {L : World → World → Prop} {X : List Nat} : ∀ (t : OL) (n : Nat) (l : Array Bool) (a : Act) (w : World) (S : World → Prop), t.isTail = true → t.high ≤ n → checkL md ops X t l = true → wpL P ops Q L t a w → wpAnyL P md ops Q X S n l a w
  | .nil, n, l, a, w, S, _, hn, hc, h => by
    have hr : Region.ready md ops l = [] := by simpa [checkL] using hc
    cases n with
    | zero => exact ⟨hr, h⟩
    | succ n => exact ⟨fun _ => h, fun k hk => absurd hk (by rw [hr]; simp)⟩
  | .last i r, n, l, a, w, S, ht, hn, hc, h => by
    simp only [checkL, Bool.and_eq_true, beq_iff_eq, List.contains_iff_mem] at hc
    match n, hn with
    | n + 1, hn =>
      refine ⟨fun h0 => absurd hc.1.2 (by rw [h0]; simp), fun j hj => ?_⟩
      rw [hc.1.2] at hj
      obtain rfl := List.mem_singleton.1 hj
      exact wpOp_mono (fun a' w' h' => ⟨fun hx => absurd hc.1.1.2 hx, wpL_tail r n _ a' w' S hc.1.1.1 (by simpa [OL.high] using hn) hc.2 h'⟩) h
  | .lasts i j r s, n, l, a, w, S, ht, hn, hc, h => by
    simp only [checkL, Bool.and_eq_true, beq_iff_eq, List.contains_iff_mem] at hc
    match n, hn with
    | n + 1, hn =>
      have hf1 : r.high ≤ n ∧ s.high ≤ n := by simp [OL.high] at hn; omega
      refine ⟨fun h0 => absurd hc.1.1.2 (by rw [h0]; simp), fun k hk => ?_⟩
      rw [hc.1.1.2] at hk
      rcases List.mem_cons.1 hk with hk | hk
      · subst hk
        exact wpOp_mono (fun a' w' h' => ⟨fun hx => absurd hc.1.1.1.1.2 hx, wpL_tail r n _ a' w' S hc.1.1.1.1.1.1 hf1.1 hc.1.2 h'⟩) h.1
      · obtain rfl := List.mem_singleton.1 hk
        exact wpOp_mono (fun a' w' h' => ⟨fun hx => absurd hc.1.1.1.2 hx, wpL_tail s n _ a' w' S hc.1.1.1.1.1.2 hf1.2 hc.2 h'⟩) h.2
theorem wpL_sound {L : World → World → Prop} {X : List Nat} (Lr : ∀ w, L w w) (Lt : ∀ {a b c}, L a b → L b c → L a c) (hs : Region.noSelect ops = true) (hQ : ∀ c (a : Act) d v w, Q (.panic c) (a.put d v) w → Q (.panic c) a w) :
    ∀ (t : OL) (n : Nat) (l : Array Bool) (a : Act) (w : World) (S : World → Prop), t.high ≤ n → Closed md ops l → checkL md ops X t l = true → (∀ w', L w w' → S w') → wpL P ops Q L t a w → wpAnyL P md ops Q X S n l a w
  | .nil, n, l, a, w, S, hn, hcl, hc, hS, h => by
    have hr : Region.ready md ops l = [] := by simpa [checkL] using hc
    cases n with
    | zero => exact ⟨hr, h⟩
    | succ n => exact ⟨fun _ => h, fun k hk => absurd hk (by rw [hr]; simp)⟩
  | .free i r, n, l, a, w, S, hn, hcl, hc, hS, h => by
    obtain ⟨o, v, ho, hy, h⟩ := h
    simp only [checkL, Bool.and_eq_true, List.all_eq_true] at hc
    have hri : i ∈ Region.ready md ops l := by simpa using hc.2.1.2
    match n, hn with
    | n + 1, hn =>
      exact wpAnyL_stronger hS _ _ _ _ (wpAnyL_first (S := L w) ho (Region.noSelect_spec hs) (fun c a w => hQ c a o.dst v w) ops.size hc.1 n l a w hcl (Region.free_spec ho hc.2.1.1) hri hy (Lr w) (wpL_sound Lr Lt hs hQ r n _ _ w (L w) (by simpa [OL.high] using hn) (hcl.set_ hri) hc.2.2 (fun _ h => h) h))
  | .one i r, n, l, a, w, S, hn, hcl, hc, hS, h => by
    simp only [checkL, Bool.and_eq_true, beq_iff_eq] at hc
    match n, hn with
    | n + 1, hn =>
      refine ⟨fun h0 => absurd hc.1 (by rw [h0]; simp), fun j hj => ?_⟩
      have hj0 := hj
      rw [hc.1] at hj
      obtain rfl := List.mem_singleton.1 hj
      exact wpOp_mono (fun a' w' h' => ⟨fun _ => hS _ h'.1, wpL_sound Lr Lt hs hQ r n _ a' w' S (by simpa [OL.high] using hn) (hcl.set_ hj0) hc.2 (fun y hy => hS _ (Lt h'.1 hy)) h'.2⟩) h
  | .two i j r s, n, l, a, w, S, hn, hcl, hc, hS, h => by
    simp only [checkL, Bool.and_eq_true, beq_iff_eq] at hc
    match n, hn with
    | n + 1, hn =>
      have hf1 : r.high ≤ n ∧ s.high ≤ n := by simp [OL.high] at hn; omega
      refine ⟨fun h0 => absurd hc.1.1 (by rw [h0]; simp), fun k hk => ?_⟩
      have hk0 := hk
      rw [hc.1.1] at hk
      rcases List.mem_cons.1 hk with hk | hk
      · subst hk
        exact wpOp_mono (fun a' w' h' => ⟨fun _ => hS _ h'.1, wpL_sound Lr Lt hs hQ r n _ a' w' S hf1.1 (hcl.set_ hk0) hc.1.2 (fun y hy => hS _ (Lt h'.1 hy)) h'.2⟩) h.1
      · obtain rfl := List.mem_singleton.1 hk
        exact wpOp_mono (fun a' w' h' => ⟨fun _ => hS _ h'.1, wpL_sound Lr Lt hs hQ s n _ a' w' S hf1.2 (hcl.set_ hk0) hc.2 (fun y hy => hS _ (Lt h'.1 hy)) h'.2⟩) h.2
  | .last i r, n, l, a, w, S, hn, hcl, hc, hS, h => by
    simp only [checkL, Bool.and_eq_true, beq_iff_eq, List.contains_iff_mem] at hc
    match n, hn with
    | n + 1, hn =>
      refine ⟨fun h0 => absurd hc.1.2 (by rw [h0]; simp), fun j hj => ?_⟩
      have hj0 := hj
      rw [hc.1.2] at hj
      obtain rfl := List.mem_singleton.1 hj
      exact wpOp_mono (fun a' w' h' => ⟨fun hx => absurd hc.1.1.2 hx, wpL_tail r n _ a' w' S hc.1.1.1 (by simpa [OL.high] using hn) hc.2 h'⟩) h
  | .lasts i j r s, n, l, a, w, S, hn, hcl, hc, hS, h => by
    simp only [checkL, Bool.and_eq_true, beq_iff_eq, List.contains_iff_mem] at hc
    match n, hn with
    | n + 1, hn =>
      have hf1 : r.high ≤ n ∧ s.high ≤ n := by simp [OL.high] at hn; omega
      refine ⟨fun h0 => absurd hc.1.1.2 (by rw [h0]; simp), fun k hk => ?_⟩
      have hk0 := hk
      rw [hc.1.1.2] at hk
      rcases List.mem_cons.1 hk with hk | hk
      · subst hk
        exact wpOp_mono (fun a' w' h' => ⟨fun hx => absurd hc.1.1.1.1.2 hx, wpL_tail r n _ a' w' S hc.1.1.1.1.1.1 hf1.1 hc.1.2 h'⟩) h.1
      · obtain rfl := List.mem_singleton.1 hk
        exact wpOp_mono (fun a' w' h' => ⟨fun hx => absurd hc.1.1.1.2 hx, wpL_tail s n _ a' w' S hc.1.1.1.1.1.2 hf1.2 hc.2 h'⟩) h.2

/-- The beginning: blocks S may be written ahead of the tail X. -/
theorem wp_region_tail {id : Nat} {a : Act} {w : World} (S X : List Nat) (t : OL) (hm : P.follows .mixedOrders = true) (hs : Region.noSelect ops = true)
    (hl : decide (t.high ≤ ops.size) = true) (hc : checkL .any ops X t (Array.replicate ops.size false) = true) (h : wpL P ops (NoPanic Q) (Chg S) t a w.drew) : (Code.region id ops true).wp P Q a w :=
  wp_region_noPanic (wp_region_any hm (wpAny_of_L (X := X) (S := fun _ => True) _ _ _ _ (wpL_sound (Chg.refl S) Chg.trans hs (NoPanic.put Q) t ops.size _ a w.drew _ (of_decide_eq_true hl) (closed_none _) hc (fun _ _ => trivial) h)))

variable {L : World → World → Prop}
theorem wpL_nil {a : Act} {w : World} (h : Q .normal a w) : wpL P ops (NoPanic Q) L .nil a w := h
theorem wpL_F {i : Nat} {r : OL} {a : Act} {w : World} {o : Oper} {v : Value} (ho : nth ops.toList i = some o) (hw : Region.wanted o (yielded ops a.tmps) = true)
    (hv : ∀ w', L w w' → (execOp a.eval o).run P w' = .ok (.value v) w') (h : wpL P ops Q L r (a.put o.dst v) w) : wpL P ops Q L (.free i r) a w :=
  ⟨o, v, nth_ops ho, .inl ⟨hw, hv⟩, h⟩
theorem wpL_G {i : Nat} {r : OL} {a : Act} {w : World} {o : Oper} (ho : nth ops.toList i = some o) (hw : Region.wanted o (yielded ops a.tmps) = false)
    (h : wpL P ops Q L r (a.put o.dst undef) w) : wpL P ops Q L (.free i r) a w :=
  ⟨o, undef, nth_ops ho, .inr ⟨hw, rfl⟩, h⟩
theorem wpL_C {i : Nat} {r : OL} {a : Act} {w : World} {o : Oper} (ho : nth ops.toList i = some o) (hw : Region.wanted o (yielded ops a.tmps) = true)
    (h : o.wp P a w (fun a' w' => L w w' ∧ wpL P ops Q L r a' w') Q) : wpL P ops Q L (.one i r) a w := by
  show wpOp P ops Q i _ a w
  unfold wpOp
  simp only [nth_ops ho, hw]
  exact .inl h
theorem wpL_X {i : Nat} {r : OL} {a : Act} {w : World} {o : Oper} (ho : nth ops.toList i = some o) (hw : Region.wanted o (yielded ops a.tmps) = true)
    (h : o.wp P a w (fun a' w' => wpL P ops Q L r a' w') Q) : wpL P ops Q L (.last i r) a w := by
  show wpOp P ops Q i _ a w
  unfold wpOp
  simp only [nth_ops ho, hw]
  exact .inl h
theorem wpL_two {i j : Nat} {r s : OL} {a : Act} {w : World} (h1 : wpL P ops Q L (.one i r) a w) (h2 : wpL P ops Q L (.one j s) a w) : wpL P ops Q L (.two i j r s) a w := ⟨h1, h2⟩
theorem wpL_lasts {i j : Nat} {r s : OL} {a : Act} {w : World} (h1 : wpL P ops Q L (.last i r) a w) (h2 : wpL P ops Q L (.last j s) a w) : wpL P ops Q L (.lasts i j r s) a w := ⟨h1, h2⟩
end
attribute [irreducible] wpL
end Go.Proofs.YtbnddpicpomakaaDoor

/- An element of a row of the call's own that is stored into its place. -/
set_option linter.unusedSimpArgs false
set_option linter.unusedVariables false
set_option maxRecDepth 100000
namespace Go.Proofs.YtbnddpicpomakaaDoor
open Go.RowKit

theorem run_storeVar_in {P : Program} (w : World) (g off : Nat) (T ty : TypeId) (cur : Array Value) (cells : Array Value) (hg : w.heap[g]? = some (.cells cur T (0, 0))) (hi : (P.info? ty).map (·.size) = some cells.size) (hfit : off + cells.size ≤ cur.size) (h1 : ∀ v ∈ cells.toList, v.oneCell' = true) :
    (storeVar ty ⟨g, off, none⟩ (.agg cells)).run P w = .ok () (w.setRow g (cur.toList.take off ++ cells.toList ++ cur.toList.drop (off + cells.size)).toArray) := by
  have h := run_storeCells_at (P := P) g off T cells.toList 0 cur w hg (by simpa using hfit) h1
  cases hq : P.info? ty with
  | none => simp [hq] at hi
  | some i =>
    simp [hq] at hi
    have e : (Value.agg cells).cells = cells := rfl
    simp [storeVar, sizeOf, typeInfo, hq, e, hi]
    simpa using h

/-- The row with its last element stored anew. -/
theorem own_put {P : Program} {w : World} {base : Nat} {e : TypeId} {z n : Nat} {v : Value} {l news : List Value} (h : w.ownsRow base e z v (n + 1) (l ++ news)) (hl : l.length = n * z) (hn : news.length = z) (cs : Array Value) (hc : cs.size = z) (hi : (P.info? e).map (·.size) = some z) (h1 : ∀ u ∈ cs.toList, u.oneCell' = true) :
    ∃ g cap R, v = .slice (some ⟨g, 0, none⟩) (n + 1) cap ∧ base ≤ g ∧ g < w.heap.size ∧ n + 1 ≤ cap ∧ cap ≤ 9223372036854775807 ∧
      (∀ W : World, W.heap[g]? = w.heap[g]? → (storeVar e ⟨g, n * z, none⟩ (.agg cs)).run P W = .ok () (W.setRow g R) ∧ (W.setRow g R).ownsRow base e z v (n + 1) (l ++ cs.toList)) ∧ ∀ j, j < z → ∃ u, w.cell? ⟨g, n * z + j, none⟩ = some u := by
  obtain ⟨h2, h3⟩ := h
  rcases h3 with ⟨_, h0⟩ | ⟨g, cap, cur, rfl, hg, hh, hnc, hcm, hcs, hcur⟩
  · omega
  · have hglt : g < w.heap.size := (Array.getElem?_eq_some_iff.1 hh).1
    have hfit : n * z + z ≤ cur.size := by rw [hcs]; have := Nat.mul_le_mul_right z hnc; rw [Nat.add_mul] at this; omega
    have hnz : (n + 1) * z = n * z + z := by rw [Nat.add_mul]; omega
    have hlt : cur.toList.take (n * z) = l := by
      have h5 := congrArg (List.take (n * z)) hcur
      rw [List.take_take, hnz, Nat.min_eq_left (by omega), ← hl, List.take_left] at h5
      rw [← hl]; exact h5
    refine ⟨g, cap, (cur.toList.take (n * z) ++ cs.toList ++ cur.toList.drop (n * z + cs.size)).toArray, rfl, hg, hglt, hnc, by unfold maxLen at hcm; omega, fun W hW => ?_, fun j hj => ?_⟩
    · have hWg : W.heap[g]? = some (.cells cur e (0, 0)) := hW.trans hh
      refine ⟨run_storeVar_in W g (n * z) e e cur cs hWg (by rw [hi, hc]) (by rw [hc]; exact hfit) h1, ?_, .inr ⟨g, cap, _, rfl, hg, setRow_heap W g cur _ e _ hWg, hnc, hcm, ?_, ?_⟩⟩
      · rw [List.length_append, hl, hnz]; simp [hc]
      · simp only [List.size_toArray, List.length_append, List.length_take, List.length_drop, Array.length_toList]
        omega
      · rw [hlt]
        have : (l ++ cs.toList).length = (n + 1) * z := by rw [List.length_append, hl, hnz]; simp [hc]
        rw [← this, List.toList_toArray]
        exact List.take_left
    · have hj2 : n * z + j < cur.size := by omega
      exact ⟨cur[n * z + j], by simp only [World.cell?, hh]; simp [hj2]⟩

/-- 'append(s, x..)' of m values that lie in a block: one operation; where the row lies behind it. -/
theorem wp_appG {P : Program} {o : Oper} {a : Act} {K : Act → World → Prop} {Q : Exit → Act → World → Prop} (s x : Operand) (t : TypeId)
    (ho : o.op = .call { callee := .builtin .append, args := #[s, x], argTypes := #[t, t] })
    (base : Nat) (e : TypeId) (i : TypeInfo) (zr : Value) (z bytes m : Nat) (ht : P.underlying t = some (.slice e)) (hi : P.info? e = some i) (hz : i.zero = some zr) (hzs : zr.cells.size = z)
    (hsize : i.size = z) (hz0 : 0 < z) (hby : i.bytes = bytes) (hb1000 : bytes ≤ 1000)
    (v : Value) (n : Nat) (l news : List Value) (w : World) (hown : w.ownsRow base e z v n l) (hs : a.eval s = v) (b c : Nat) (hn : ∀ (j : Nat) u, news[j]? = some u → w.cell? ⟨b, j, none⟩ = some u) (hl : news.length = m * z) (h1 : ∀ u ∈ news, u.oneCell' = true)
    (hx : a.eval x = .slice (some ⟨b, 0, none⟩) m c) (hlen : n + m < 100000000000) (hbase : base ≤ w.heap.size)
    (h : ∀ v' w', w'.ownsRow base e z v' (n + m) (l ++ news) → Chg v.ownBlock.toList w w' → (v'.ownBlock = v.ownBlock ∨ ∀ g, v'.ownBlock = some g → w.heap.size ≤ g) → K (a.put o.dst v') w') :
    o.wp P a w K Q := by
  have hnews : ∀ j u, news[j]? = some u → w.cell? ((⟨b, 0, none⟩ : Addr).add j) = some u := by
    intro j u hj
    have e0 : (⟨b, 0, none⟩ : Addr).add j = ⟨b, j, none⟩ := by
      unfold Addr.add; split <;> simp_all
    rw [e0]; exact hn j u hj
  have h63 : n + m ≤ maxLen := by unfold maxLen; omega
  have hbs : (n + m) * bytes ≤ 140737488355328 := by
    have : (n + m) * bytes ≤ 100000000000 * 1000 := Nat.mul_le_mul (by omega) hb1000
    omega
  obtain ⟨v', w', hrun, h2, h3, _⟩ := run_append_own (P := P) w base t o.type e i zr z bytes ht hi hz hsize hby hzs hz0 v n l hown ⟨b, 0, none⟩ m c news hl hnews h1 h63 hbs hbase
  have hfr := append_fresh (P := P) w base t o.type e i zr z bytes ht hi hz hsize hby hzs hz0 v n l hown ⟨b, 0, none⟩ m c news hl hnews h1 h63 hbs v' w' hrun
  unfold Oper.wp execOp
  simp only [ho, resolve, invoke, builtin, Sem.run_bind, Sem.run_pure, Result.andThen_ok, List.map_toArray, List.map_cons, List.map_nil, hs, hx, hrun]
  exact h v' w' h2 ⟨h3.os, h3.tape, h3.output, h3.size, fun k hk hn => h3.block k hk (by intro he; apply hn; rw [Option.mem_toList]; exact he.symm)⟩ hfr

theorem KidsIn.add2 {lo : Nat} {W w6 : World} {T : TypeId} {n : Nat} {cv v6 : Value} {L : List XM} {y : XM} (h : KidsIn lo W T n cv L) (hs : W.heap.size ≤ w6.heap.size) (hlo : lo ≤ W.heap.size)
    (hk : ∀ b, lo ≤ b → b < W.heap.size → cv.ownBlock ≠ some b → w6.heap[b]? = W.heap[b]?)
    (hy : XIn (fun b => W.heap.size ≤ b ∧ b < w6.heap.size ∧ v6.ownBlock ≠ some b) w6 n y) (hr : w6.ownsRow lo T 8 v6 (L.length + 1) (cellsOf cellsX L ++ cellsX y)) (hf : v6.ownBlock = cv.ownBlock ∨ ∀ g, v6.ownBlock = some g → W.heap.size ≤ g) :
    KidsIn lo w6 T n v6 (L ++ [y]) := by
  refine ⟨by rw [List.length_append]; exact (cellsOf_snoc cellsX L y).symm ▸ hr, fun z hz => ?_⟩
  rcases List.mem_append.1 hz with hz | hz
  · have hz2 := h.kid z hz
    refine (hz2.keep (w' := w6) (fun b hb => hk b hb.1 hb.2.1 hb.2.2)).imp fun b hb => ⟨hb.1, by omega, ?_⟩
    rcases hf with hf | hf
    · rw [hf]; exact hb.2.2
    · intro hg; have := hf b hg; omega
  · rw [List.mem_singleton.1 hz]
    exact hy.imp fun b hb => ⟨by omega, hb.2.1, hb.2.2⟩
end Go.Proofs.YtbnddpicpomakaaDoor

/- Operations on large arrays and structs, carried out as one step. -/
set_option linter.unusedSimpArgs false
set_option linter.unusedVariables false
set_option maxRecDepth 100000
namespace Go.Proofs.YtbnddpicpomakaaDoor
open Go.RowKit

section
variable {P : Program} {ops : Array Oper} {Q : Exit → Act → World → Prop}

theorem exec_load {o : Oper} {a : Act} {w : World} {ty : TypeId} {x : Operand} {ad : Addr} {v : Value} (ho : o.op = .load ty x) (hx : a.eval x = .pointer (some ad)) (h : (loadVar ty ad).run P w = .ok v w) :
    (execOp a.eval o).run P w = .ok (.value v) w := by
  unfold execOp
  simp only [ho, hx, Instr.loadAt, Instr.sureAddr, Sem.run_bind, Sem.run_pure, Result.andThen_ok, h]

/-- A load in a plain region. -/
theorem wpList_loadV {rest : List Oper} {o : Oper} {a : Act} {w : World} (hg : o.guard = none) (ty : TypeId) (x : Operand) (ho : o.op = .load ty x) {ad : Addr} (hx : a.eval x = .pointer (some ad)) {v : Value} (h : (loadVar ty ad).run P w = .ok v w)
    (hK : wpList P ops Q rest (a.put o.dst v) w) : wpList P ops Q (o :: rest) a w :=
  wpList_plain hg fun _ hk => by
    unfold Oper.wp
    rw [exec_load ho hx h]
    exact hk _ _ hK

/-- A store in a plain region. -/
theorem wpList_storeV {rest : List Oper} {o : Oper} {a : Act} {w w' : World} (hg : o.guard = none) (ty : TypeId) (x y : Operand) (ho : o.op = .store ty x y) {ad : Addr} (hx : a.eval x = .pointer (some ad)) {v : Value} (hy : a.eval y = v) (h : (storeVar ty ad v).run P w = .ok () w')
    (hK : wpList P ops Q rest (a.put o.dst undef) w') : wpList P ops Q (o :: rest) a w :=
  wpList_plain hg fun _ hk => by
    unfold Oper.wp execOp
    simp only [ho, hx, hy, Instr.storeAt, Instr.sureAddr, Sem.run_bind, Sem.run_pure, Result.andThen_ok, h]
    exact hk _ _ hK

/-- An operation of a plain region whose run is known. -/
theorem wpList_val {rest : List Oper} {o : Oper} {a : Act} {w w' : World} (hg : o.guard = none) {v : Value} (h : (execOp a.eval o).run P w = .ok (.value v) w')
    (hK : wpList P ops Q rest (a.put o.dst v) w') : wpList P ops Q (o :: rest) a w :=
  wpList_plain hg fun _ hk => by
    unfold Oper.wp
    rw [h]
    exact hk _ _ hK
theorem wpList_skp {rest : List Oper} {o : Oper} {a : Act} {w w' : World} (hg : o.guard = none) (h : (execOp a.eval o).run P w = .ok .skip w')
    (hK : wpList P ops Q rest (a.put o.dst undef) w') : wpList P ops Q (o :: rest) a w :=
  wpList_plain hg fun _ hk => by
    unfold Oper.wp
    rw [h]
    exact hk _ _ hK
/-- One whose run is known, at its own. -/
theorem wp_val {o : Oper} {a : Act} {w w' : World} {K : Act → World → Prop} {v : Value} (h : (execOp a.eval o).run P w = .ok (.value v) w') (hK : K (a.put o.dst v) w') : o.wp P a w K Q := by
  unfold Oper.wp
  rw [h]
  exact hK
theorem wp_skp {o : Oper} {a : Act} {w w' : World} {K : Act → World → Prop} (h : (execOp a.eval o).run P w = .ok .skip w') (hK : K (a.put o.dst undef) w') : o.wp P a w K Q := by
  unfold Oper.wp
  rw [h]
  exact hK

theorem exec_mapUpdate {o : Oper} {a : Act} {w w' : World} {T : TypeId} {m k x : Operand} (ho : o.op = .mapUpdate T m k x) {vm vk vx : Value} (hm : a.eval m = vm) (hk : a.eval k = vk) (hx : a.eval x = vx) (h : (Instr.mapUpdate T vm vk vx).run P w = .ok () w') :
    (execOp a.eval o).run P w = .ok .skip w' := by
  unfold execOp
  simp only [ho, hm, hk, hx, Sem.run_bind, h, Result.andThen_ok, Sem.run_pure]
theorem exec_lookup {o : Oper} {a : Act} {w : World} {T : TypeId} {m k : Operand} {ok : Bool} (ho : o.op = .lookup T m k ok) {vm vk v : Value} (hm : a.eval m = vm) (hk : a.eval k = vk) (h : (Instr.lookup T vm vk ok).run P w = .ok v w) :
    (execOp a.eval o).run P w = .ok (.value v) w := by
  unfold execOp
  simp only [ho, hm, hk, Sem.run_bind, h, Result.andThen_ok, Sem.run_pure]
theorem exec_alloc {o : Oper} {a : Act} {w : World} {e : TypeId} (ho : o.op = .alloc e) {z : Value} (hz : ∀ W, (zeroValue e).run P W = .ok z W) :
    (execOp a.eval o).run P w = .ok (.value (.pointer (some ⟨w.heap.size, 0, none⟩))) (w.alloc (.cells z.cells e)) := by
  unfold execOp
  simp only [ho, Instr.alloc, Sem.run_bind, hz, Result.andThen_ok]
  rfl
theorem exec_build {o : Oper} {a : Act} {w : World} {t : TypeId} {parts : Array (Nat × Operand)} (ho : o.op = .build t parts) {cells : Array Value} (h : (Instr.build t (parts.map fun (i, x) => (i, a.eval x))).run P w = .ok (.agg cells) w) :
    (execOp a.eval o).run P w = .ok (.value (.agg cells)) w := by
  unfold execOp
  simp only [ho, Sem.run_bind, h, Result.andThen_ok, Sem.run_pure]
theorem exec_buildSlice {o : Oper} {a : Act} {w w' : World} {t : TypeId} {n : Nat} {parts : Array (Nat × Operand)} (ho : o.op = .buildSlice t n parts) {v : Value} (h : (Instr.buildSlice t n (parts.map fun (i, x) => (i, a.eval x))).run P w = .ok v w') :
    (execOp a.eval o).run P w = .ok (.value v) w' := by
  unfold execOp
  simp only [ho, Sem.run_bind, h, Result.andThen_ok, Sem.run_pure]
theorem exec_buildSlice1 {o : Oper} {a : Act} {w w' : World} {t : TypeId} {n : Nat} {i : Nat} {x : Operand} (ho : o.op = .buildSlice t n #[(i, x)]) {vx v : Value} (hx : a.eval x = vx) (h : (Instr.buildSlice t n #[(i, vx)]).run P w = .ok v w') :
    (execOp a.eval o).run P w = .ok (.value v) w' := exec_buildSlice ho (by simpa [hx] using h)
theorem exec_build1 {o : Oper} {a : Act} {w : World} {t : TypeId} {i : Nat} {x : Operand} (ho : o.op = .build t #[(i, x)]) {vx : Value} {cells : Array Value} (hx : a.eval x = vx) (h : (Instr.build t #[(i, vx)]).run P w = .ok (.agg cells) w) :
    (execOp a.eval o).run P w = .ok (.value (.agg cells)) w := exec_build ho (by simpa [hx] using h)
theorem exec_build2 {o : Oper} {a : Act} {w : World} {t : TypeId} {i j : Nat} {x y : Operand} (ho : o.op = .build t #[(i, x), (j, y)]) {vx vy : Value} {cells : Array Value} (hx : a.eval x = vx) (hy : a.eval y = vy) (h : (Instr.build t #[(i, vx), (j, vy)]).run P w = .ok (.agg cells) w) :
    (execOp a.eval o).run P w = .ok (.value (.agg cells)) w := exec_build ho (by simpa [hx, hy] using h)
theorem exec_store {o : Oper} {a : Act} {w w' : World} {ty : TypeId} {x y : Operand} (ho : o.op = .store ty x y) {ad : Addr} (hx : a.eval x = .pointer (some ad)) {v : Value} (hy : a.eval y = v) (h : (storeVar ty ad v).run P w = .ok () w') :
    (execOp a.eval o).run P w = .ok .skip w' := by
  unfold execOp
  simp only [ho, hx, hy, Instr.storeAt, Instr.sureAddr, Sem.run_bind, Sem.run_pure, Result.andThen_ok, h]
end

/-- The zero value of a type, and its size. -/
theorem zero_of {P : Program} {t : TypeId} {v : Value} (h : (P.info? t).map (·.zero) = some (some v)) (w : World) : (zeroValue t).run P w = .ok v w := by
  cases hq : P.info? t with
  | none => simp [hq] at h
  | some i =>
    simp [hq] at h
    simp [zeroValue, typeInfo, hq, h]
end Go.Proofs.YtbnddpicpomakaaDoor

/- The walk of clone. -/
set_option linter.unusedSimpArgs false
set_option linter.unusedVariables false
set_option maxRecDepth 100000
namespace Go.Proofs.YtbnddpicpomakaaDoor
open Go.RowKit

abbrev zeroXc : Array Value := #[.int .i64 0, .int .u8 0, .int .i64 0, .string ⟨#[]⟩, .string ⟨#[]⟩, .string ⟨#[]⟩, .string ⟨#[]⟩, .slice none 0 0]
/-- The cells of an expression, with another slice of arguments. -/
abbrev Lb.csX (l : Lb) (v : Value) : Array Value := #[.int .i64 l.kd, .int .u8 l.v.k, .int .i64 l.v.n, .string l.v.s, .string l.tb, .string l.nm, .string l.op, v]

/-- 'clone' is at work. -/
structure CloneIn (w W : World) (T : TypeId) (l : Lb) (sv : Value) (n : Nat) (cv : Value) (L : List XM) : Prop where
  box : Blk W w.heap.size T (l.csX sv)
  res : Blk W (w.heap.size + 1) T zeroXc
  bel : Below w.heap.size w W
  lo : w.heap.size + 2 ≤ W.heap.size
  kids : KidsIn (w.heap.size + 2) W T n cv L
theorem CloneIn.new (w : World) (T : TypeId) (l : Lb) (sv : Value) (n : Nat) : CloneIn w ((w.alloc (.cells (l.csX sv) T)).alloc (.cells zeroXc T)) T l sv n (.slice none 0 0) [] := by
  refine ⟨(Blk.new w T (l.csX sv)).alloc _, ?_, ((Below.refl _ w).alloc (Nat.le_refl _) _).alloc (by simp) _, by simp, KidsIn.nil _ _ _ _⟩
  have := Blk.new (w.alloc (.cells (l.csX sv) T)) T zeroXc
  rw [show (w.alloc (.cells (l.csX sv) T)).heap.size = w.heap.size + 1 by simp] at this
  exact this

theorem CloneIn.add {w W w2 w5 : World} {T : TypeId} {l : Lb} {sv : Value} {n : Nat} {cv v5 : Value} {L : List XM} {y : XM} (h : CloneIn w W T l sv n cv L) (hb : Below W.heap.size W w2)
    (hy : XIn (fun b => W.heap.size ≤ b ∧ b < w2.heap.size) w2 n y) (hr : w5.ownsRow (w.heap.size + 2) T 8 v5 (L.length + 1) (cellsOf cellsX L ++ cellsX y)) {o : Obj} (hc : Chg cv.ownBlock.toList (w2.alloc o) w5) (hf : v5.ownBlock = cv.ownBlock ∨ ∀ g, v5.ownBlock = some g → w2.heap.size < g) :
    CloneIn w w5 T l sv n v5 (L ++ [y]) := by
  have hsz := hc.size
  simp at hsz
  have h0 := hb.size
  have hlo := h.lo
  have hgt : ∀ g, cv.ownBlock = some g → w.heap.size + 2 ≤ g := fun g hg => (h.kids.row.lt g hg).1
  have hold : Below (w.heap.size + 2) W w5 := (hb.mono hlo).trans (((Below.refl (w.heap.size + 2) w2).alloc (by omega) o).trans (hc.below (by simp; omega) (fun g hg => hgt g (by simpa using hg))))
  exact ⟨(hold.block _ (by omega)).trans h.box, (hold.block _ (by omega)).trans h.res, h.bel.trans (hold.mono (by omega)), by omega, h.kids.add h0 (fun b _ hb2 => hb.block b hb2) hlo hy hr hc hf⟩

set_option maxHeartbeats 4000000 in
theorem clone_is : ∀ (n : Nat) (x : XM) (w : World), XAt w.heap.size w n x → x.t.args.length ≤ 1000000 → x.t.allB (fun _ k => decide (k ≤ 1000000)) = true →
    Calls Tryd.prog 36 #[x.v] w (RetX w n x.t)
  | 0, _, _, h, _, _ => h.elim
  | n + 1, ⟨t, a, cap⟩, w, h, _, hall => by
    rw [XM.v_eq]
    obtain ⟨i0, hi, hz0, hz1, hz2⟩ := info_parts info_ex
    have HA := Lib.hid h
    have hF := h.fair.1
    rw [Rose.allB_eq, Bool.and_eq_true, List.all_eq_true] at hall
    have hm6 := hall.1
    simp only at hm6 hF ⊢
    have HAll := Lib.hid hall.2
    have HFa := Lib.hid hF
    obtain ⟨m, hm⟩ : ∃ m, t.args.length = m := ⟨_, rfl⟩
    have HM := Lib.hid hm
    rw [hm] at hm6 ⊢
    have hm6 : m ≤ 1000000 := by simpa using hm6
    have IH : Hid (∀ (y : XM) (W : World), XAt W.heap.size W n y → y.t ∈ t.args → Calls Tryd.prog 36 #[.agg #[.int .i64 y.t.lab.kd, .int .u8 y.t.lab.v.k, .int .i64 y.t.lab.v.n, .string y.t.lab.v.s, .string y.t.lab.tb, .string y.t.lab.nm, .string y.t.lab.op, .slice y.a y.t.args.length y.cap]] W (RetX W n y.t)) := fun y W hy hmem => by
      have hya := HAll.out y.t hmem
      have hyl : y.t.args.length ≤ 1000000 := by rw [Rose.allB_eq, Bool.and_eq_true] at hya; simpa using hya.1
      have := clone_is n y W hy hyl hya
      rw [XM.v_eq] at this; exact this
    have HC0 := Lib.hid (CloneIn.new w 39 t.lab (.slice a m cap) n)
    obtain ⟨w0, hw0⟩ : ∃ w0, (w.alloc (.cells (t.lab.csX (.slice a m cap)) 39)).alloc (.cells zeroXc 39) = w0 := ⟨_, rfl⟩
    rw [hw0] at HC0
    have x7 : w0.cell? ⟨w.heap.size, 7, none⟩ = some (.slice a m cap) := (HC0.out.box.cell 7).trans rfl
    clear h hm hF hall
    go_enter Tryd.func36, Tryd.ntmps36
    go_wp2
    clear x7
    go_loopw [3, 9] (fun v i wr => ∃ (k : Nat) (cv : Value) (L : List XM), cv = v ∧ k ≤ m ∧ i = .int .i64 (k : Int) ∧ Hid (L.map (·.t) = t.args.take k) ∧ Hid (CloneIn w wr 39 t.lab (.slice a m cap) n cv L)) (fun _ i _ => m - (intOf i).toNat)
    case atStart => exact ⟨0, _, [], rfl, by omega, rfl, rfl, HC0.out⟩
    case round =>
      clear HC0
      obtain ⟨k, cv, L, rfl, hk, rfl, HLt, HC⟩ := hrel
      have HBs : Hid (w.heap.size + 2 ≤ wr.heap.size) := HC.out.lo
      by_cases hlt : k < m
      · have hkl : k < t.args.length := by rw [HM.out]; exact hlt
        obtain ⟨y, hy, hAy, b, o, hab, hbN, hKid⟩ := (HA.out.later HC.out.bel).kid8 (k := k) hkl
        simp only at hab hy
        subst hab
        obtain ⟨y0, y1, y2, y3, y4, y5, y6, y7⟩ := hKid
        have hLk : L.length = k := by have := congrArg List.length HLt.out; rw [List.length_map, List.length_take] at this; omega
        have HLk := Lib.hid hLk
        have hmem : y.t ∈ t.args := by rw [hy]; exact List.getElem_mem hkl
        have HY := Lib.hid (IH.out y (wr.alloc (.cells #[.int .i64 y.t.lab.kd, .int .u8 y.t.lab.v.k, .int .i64 y.t.lab.v.n, .string y.t.lab.v.s, .string y.t.lab.tb, .string y.t.lab.nm, .string y.t.lab.op, .slice y.a y.t.args.length y.cap] 39)) (hAy.later ((Below.refl _ wr).alloc (Nat.le_refl _) _)) hmem)
        have HTk : Hid (t.args.take (k + 1) = t.args.take k ++ [y.t]) := by
          rw [List.take_succ_eq_append_getElem hkl, ← hy]; rfl
        clear hy hAy hkl hmem HA IH HAll hLk
        go_wp2_with fail
        refine HY.out.mono ?_
        rintro e w2 ⟨z, rfl, hzt, hzI, hb2⟩
        have HB1 : Hid (Below wr.heap.size wr w2) := ((Below.refl _ wr).alloc (Nat.le_refl _) _).trans (hb2.mono (by simp))
        have HzI : Hid (XIn (fun b => wr.heap.size ≤ b ∧ b < w2.heap.size) w2 n z) := hzI.imp fun b hb => ⟨by have := hb.1; simp at this; omega, hb.2⟩
        have HZt := Lib.hid hzt
        have hrow2 : w2.ownsRow (w.heap.size + 2) 39 8 cv k (cellsOf cellsX L) := by
          have := own_below HC.out.kids.row (Nat.le_refl _) HB1.out
          rw [HLk.out] at this; exact this
        have HR2 := Lib.hid hrow2
        have HBs2 : Hid (w.heap.size + 2 ≤ w2.heap.size) := Nat.le_trans HBs.out HB1.out.size
        clear hb2 HY y0 y1 y2 y3 y4 y5 y6 y7 hzI hzt hrow2
        go_wp2_with (first | (at_builtin; refine wpList_appF rfl _ _ 37 rfl (w.heap.size + 2) 39 i0 (.agg #[.int .i64 0, .int .u8 0, .int .i64 0, .string ⟨#[]⟩, .string ⟨#[]⟩, .string ⟨#[]⟩, .string ⟨#[]⟩, .slice none 0 0]) 8 112 1 Tryd.underlying37 hi hz0 rfl hz1 (by omega) hz2 (by omega) cv k _ (cellsX z) w2 HR2.out rfl _ rfl rfl (by intro u hu; simp [cellsX, cellsR, Lb.cells] at hu; rcases hu with rfl | rfl | rfl | rfl | rfl | rfl | rfl | rfl <;> rfl) rfl (by omega) HBs2.out ?_; intro v5 w5 hown5 hc5 hsz5 hf5; have HO5 := Lib.hid hown5; have HC5 := Lib.hid hc5; have HF5 := Lib.hid hf5; clear hown5 hc5 hsz5 hf5))
        have HN : Hid (CloneIn w w5 39 t.lab (.slice (some ⟨b, o, none⟩) m cap) n v5 (L ++ [z])) := HC.out.add HB1.out HzI.out (by rw [HLk.out]; exact HO5.out) HC5.out HF5.out
        go_roundw
        case rel => exact ⟨k + 1, v5, L ++ [z], rfl, by omega, by go_num, by rw [HTk.out, List.map_append, HLt.out, ← HZt.out]; rfl, HN.out⟩
        case measure => simp [intOf]; omega
      · have hke : k = m := by omega
        have hLt := HLt.out
        rw [hke, ← HM.out, List.take_length] at hLt
        have HLt2 := Lib.hid hLt
        have hLm : L.length = m := by have := congrArg List.length hLt; rw [List.length_map] at this; rw [this]; exact HM.out
        obtain ⟨ac, cc, hcv, hX⟩ := HC.out.kids.tree t.lab HFa.out
        rw [hLm] at hcv
        rw [hLt] at hX
        subst hcv
        have hbox := HC.out.box
        have hBlk1 : Blk (wr.setCell ⟨w.heap.size, 7, none⟩ (.slice ac m cc)) w.heap.size 39 (t.lab.csX (.slice ac m cc)) := hbox.set_ 7 _
        have hres1 : Blk (wr.setCell ⟨w.heap.size, 7, none⟩ (.slice ac m cc)) (w.heap.size + 1) 39 zeroXc := HC.out.res.far (by omega) _
        have hc1 : Chg [w.heap.size] wr (wr.setCell ⟨w.heap.size, 7, none⟩ (.slice ac m cc)) := (Chg.refl _ _).setCell (.inl (by simp)) _
        have pc := (hbox.cell 7).trans rfl
        have pf := hbox.frozen 7
        have pl := hbox.lt
        obtain ⟨W1, hW1⟩ : ∃ W1, wr.setCell ⟨w.heap.size, 7, none⟩ (.slice ac m cc) = W1 := ⟨_, rfl⟩
        rw [hW1] at hBlk1 hres1 hc1
        have z0 := (hBlk1.cell 0).trans rfl
        have z1 := (hBlk1.cell 1).trans rfl
        have z2 := (hBlk1.cell 2).trans rfl
        have z3 := (hBlk1.cell 3).trans rfl
        have z4 := (hBlk1.cell 4).trans rfl
        have z5 := (hBlk1.cell 5).trans rfl
        have z6 := (hBlk1.cell 6).trans rfl
        have z7 := (hBlk1.cell 7).trans rfl
        have HS : Hid ((storeVar 39 ⟨w.heap.size + 1, 0, none⟩ (.agg (t.lab.csX (.slice ac m cc)))).run Tryd.prog W1 = .ok () (W1.setRow (w.heap.size + 1) (t.lab.csX (.slice ac m cc)))) :=
          run_storeVar_row _ _ _ 39 _ _ hres1 (by rw [info_exS]; rfl) rfl (by simp [Value.oneCell'])
        have HL : Hid ((loadVar 39 ⟨w.heap.size + 1, 0, none⟩).run Tryd.prog (W1.setRow (w.heap.size + 1) (t.lab.csX (.slice ac m cc))) = .ok (.agg (t.lab.csX (.slice ac m cc))) (W1.setRow (w.heap.size + 1) (t.lab.csX (.slice ac m cc)))) :=
          run_loadVar_row _ _ _ 39 _ (0, 0) _ (Blk.setRow (new := t.lab.csX (.slice ac m cc)) hres1) Tryd.underlying39 rfl (by rw [info_exS]; rfl)
        have hcR : Chg [w.heap.size, w.heap.size + 1] wr (W1.setRow (w.heap.size + 1) (t.lab.csX (.slice ac m cc))) := (hc1.sub (by simp)).setRow (.inl (by simp)) _
        have HF : Hid (Below w.heap.size w (W1.setRow (w.heap.size + 1) (t.lab.csX (.slice ac m cc)))) := HC.out.bel.trans (hcR.below HC.out.bel.size (by simp))
        have HX : Hid (XIn (fun b => w.heap.size ≤ b ∧ b < (W1.setRow (w.heap.size + 1) (t.lab.csX (.slice ac m cc))).heap.size) (W1.setRow (w.heap.size + 1) (t.lab.csX (.slice ac m cc))) (n + 1) ⟨.mk t.lab t.args, ac, cc⟩) :=
          (XIn.keep (fun b hb => hcR.block b hb.2 (by simp; omega)) hX).imp fun b hb => ⟨by omega, by have := hcR.size; omega⟩
        clear hbox hBlk1 hres1 hc1 hcR hX HC HLt HLt2 hLt hLm HA IH HAll HFa
        have hmk : (Rose.mk t.lab t.args).args.length = m := HM.out
        go_wp2_with (first | (guard_target =~ wpList _ _ _ (Oper.mk _ (Op.store 39 _ _) _ _ _ _ :: _) _ _; refine wpList_skp rfl (exec_store rfl rfl rfl HS.out) ?_))
        refine bodyPost_ret (v := .agg (t.lab.csX (.slice ac m cc))) (results_cell1x Tryd.results36 _ _ rfl HL.out) rfl ⟨⟨.mk t.lab t.args, ac, cc⟩, ?_, t.eta, HX.out, HF.out⟩
        rw [hmk]; rfl
end Go.Proofs.YtbnddpicpomakaaDoor

/- The walks of the closures of Columns and Aggregates: what is picked. -/
set_option linter.unusedSimpArgs false
set_option linter.unusedVariables false
set_option maxRecDepth 100000
namespace Go.Proofs.YtbnddpicpomakaaDoor
open Go.RowKit

/-- Picking is under way: the variable in block G holds the row. -/
structure PickIn (G : Nat) (W : World) (n : Nat) (cv : Value) (L : List XM) : Prop where
  var : Blk W G 37 #[cv]
  kids : KidsIn (G + 1) W 39 n cv L
theorem PickIn.lt {G : Nat} {W : World} {n : Nat} {cv : Value} {L : List XM} (h : PickIn G W n cv L) : G < W.heap.size := h.var.lt
theorem PickIn.keep {G : Nat} {W W' : World} {n : Nat} {cv : Value} {L : List XM} (h : PickIn G W n cv L) (hb : Below W.heap.size W W') : PickIn G W' n cv L :=
  ⟨(hb.block G h.lt).trans h.var, h.kids.keep hb.size (fun b _ hb2 => hb.block b hb2)⟩

theorem below_chg {w w' : World} {S : List Nat} (h : Below w.heap.size w w') : Chg S w w' := ⟨h.os, h.tape, h.output, h.size, fun k hk _ => h.block k hk⟩
/-- What picking comes to. -/
structure Picked (G : Nat) (W : World) (n : Nat) (cv : Value) (L : List XM) (p : List Ex) (W' : World) (cv' : Value) (L' : List XM) : Prop where
  pick : PickIn G W' n cv' L'
  list : L'.map (·.t) = L.map (·.t) ++ p
  chg : Chg (G :: cv.ownBlock.toList) W W'
  own : cv'.ownBlock = cv.ownBlock ∨ ∀ g, cv'.ownBlock = some g → W.heap.size ≤ g
def RetDo (G : Nat) (W : World) (n : Nat) (cv : Value) (L : List XM) (p : List Ex) (v : Value) (e : Ending) (W' : World) : Prop :=
  e = .returned v ∧ ∃ cv' L', Picked G W n cv L p W' cv' L'

theorem Picked.none {G : Nat} {W W' : World} {n : Nat} {cv : Value} {L : List XM} (h : PickIn G W n cv L) (hb : Below W.heap.size W W') : Picked G W n cv L [] W' cv L :=
  ⟨h.keep hb, by simp, below_chg hb, .inl rfl⟩
theorem Picked.trans {G : Nat} {W W1 W2 : World} {n : Nat} {cv cv1 cv2 : Value} {L L1 L2 : List XM} {p q : List Ex} (h : Picked G W n cv L p W1 cv1 L1) (k : Picked G W1 n cv1 L1 q W2 cv2 L2) : Picked G W n cv L (p ++ q) W2 cv2 L2 := by
  refine ⟨k.pick, by rw [k.list, h.list, List.append_assoc], h.chg.trans' ?_ k.chg, ?_⟩
  · intro b hb
    rcases List.mem_cons.1 hb with rfl | hb
    · exact .inl (by simp)
    · rw [Option.mem_toList] at hb
      rcases h.own with ho | ho
      · rw [ho] at hb; exact .inl (by simp [hb])
      · exact .inr (ho b hb)
  · have hs := h.chg.size
    rcases k.own with ko | ko
    · rw [ko]; exact h.own
    · exact .inr fun g hg => by have := ko g hg; omega

theorem pick_end {G : Nat} {W w5 W6 : World} {n m2 g : Nat} {cv v5 : Value} {L : List XM} {y : XM} (hP : PickIn G W n cv L) (hc5 : Chg cv.ownBlock.toList W w5) (hf5 : v5.ownBlock = cv.ownBlock ∨ ∀ q, v5.ownBlock = some q → m2 ≤ q) (hm2 : W.heap.size ≤ m2) (hm5 : m2 ≤ w5.heap.size)
    (hy : XIn (fun b => W.heap.size ≤ b ∧ b < m2) w5 n y) (hvg : v5.ownBlock = some g) (hc6 : Chg [G, g] w5 W6) (hvar : Blk W6 G 37 #[v5]) (hr : W6.ownsRow (G + 1) 39 8 v5 (L.length + 1) (cellsOf cellsX L ++ cellsX y)) :
    Picked G W n cv L [y.t] W6 v5 (L ++ [y]) := by
  have hG := hP.lt
  have hs6 := hc6.size
  have hs5 := hc5.size
  have hcvlt : ∀ q, cv.ownBlock = some q → q < W.heap.size := fun q hq => own_lt hP.kids.row hq
  have hgb : ∀ b, W.heap.size ≤ b → b < m2 → b ≠ g := fun b h1 h2 hbg => by
    subst hbg
    rcases hf5 with hf | hf
    · rw [hf] at hvg; have := hcvlt b hvg; omega
    · have := hf b hvg; omega
  have hg2 : cv.ownBlock = some g ∨ W.heap.size ≤ g := by
    rcases hf5 with hf | hf
    · exact .inl (by rw [← hf]; exact hvg)
    · exact .inr (by have := hf g hvg; omega)
  refine ⟨⟨hvar, hP.kids.add2 (by omega) (by omega) ?_ ?_ hr ?_⟩, by simp, hc5.sub (fun k hk => List.mem_cons_of_mem _ hk) |>.trans' ?_ hc6, ?_⟩
  · intro b h1 h2 h3
    refine (hc6.block b (by omega) ?_).trans (hc5.block b h2 (by rw [Option.mem_toList]; exact h3))
    intro hm
    rcases List.mem_cons.1 hm with hm | hm
    · omega
    · rw [List.mem_singleton.1 hm] at h2 h3
      rcases hg2 with hg2 | hg2
      · exact h3 hg2
      · omega
  · refine (hy.keep (w' := W6) (fun b hb => hc6.block b (by omega) ?_)).imp fun b hb => ⟨hb.1, by omega, ?_⟩
    · intro hm
      rcases List.mem_cons.1 hm with hm | hm
      · omega
      · exact hgb b hb.1 hb.2 (List.mem_singleton.1 hm)
    · rw [hvg]; intro he; exact hgb b hb.1 hb.2 (Option.some.inj he).symm
  · rcases hf5 with hf | hf
    · exact .inl hf
    · exact .inr fun q hq => by have := hf q hq; omega
  · intro b hb
    rcases List.mem_cons.1 hb with rfl | hb
    · exact .inl (by simp)
    · rw [List.mem_singleton.1 hb]
      rcases hg2 with hg2 | hg2
      · exact .inl (by simp [hg2])
      · exact .inr hg2
  · rcases hf5 with hf | hf
    · exact .inl hf
    · exact .inr fun q hq => by have := hf q hq; omega

def pickL (kd : Int) (e : Ex) : List Ex := if e.lab.kd = kd then [e] else []
theorem one_X (z : XM) : ∀ u ∈ cellsX z, u.oneCell' = true := by
  intro u hu; simp [cellsX, cellsR, Lb.cells] at hu; rcases hu with rfl | rfl | rfl | rfl | rfl | rfl | rfl | rfl <;> rfl
abbrev zero8 : List Value := [.int .i64 0, .int .u8 0, .int .i64 0, .string ⟨#[]⟩, .string ⟨#[]⟩, .string ⟨#[]⟩, .string ⟨#[]⟩, .slice none 0 0]
theorem one_Z : ∀ u ∈ zero8, u.oneCell' = true := by
  intro u hu; simp at hu; rcases hu with rfl | rfl | rfl | rfl | rfl | rfl <;> rfl
theorem info_sl : (Tryd.prog.info? 37).map (·.size) = some 1 := by kernel_rfl

/-- Both orders of the two stores at the end. -/
theorem pick_both {G : Nat} {W wa w5 : World} {n m2 k : Nat} {cv v5 : Value} {ac : Option Addr} {cc : Nat} {S : List Nat} {L : List XM} {y : XM} (hP : PickIn G W n cv L) (hcv : cv = .slice ac k cc) (hS : cv.ownBlock.toList = S) (hLk : L.length = k) (hWa : Below W.heap.size W wa) (hy : XIn (fun b => W.heap.size ≤ b ∧ b < m2) wa n y) (hm1 : W.heap.size ≤ m2) (hm2 : m2 ≤ wa.heap.size)
    (hown5 : w5.ownsRow (G + 1) 39 8 v5 (k + 1) (cellsOf cellsX L ++ zero8)) (hc5 : Chg S wa w5) (hf5 : v5.ownBlock = (Value.slice ac k cc).ownBlock ∨ ∀ g, v5.ownBlock = some g → wa.heap.size ≤ g) :
    ∃ g cap R, v5 = .slice (some ⟨g, 0, none⟩) (k + 1) cap ∧ G < g ∧ k + 1 ≤ cap ∧
      (∀ V : World, V.heap[g]? = w5.heap[g]? → (storeVar 39 ⟨g, k * 8, none⟩ (.agg #[.int .i64 y.t.lab.kd, .int .u8 y.t.lab.v.k, .int .i64 y.t.lab.v.n, .string y.t.lab.v.s, .string y.t.lab.tb, .string y.t.lab.nm, .string y.t.lab.op, .slice y.a y.t.args.length y.cap])).run Tryd.prog V = .ok () (V.setRow g R)) ∧
      (∀ V : World, V.heap[G]? = w5.heap[G]? → (storeVar 37 ⟨G, 0, none⟩ v5).run Tryd.prog V = .ok () (V.setRow G #[v5])) ∧
      Picked G W n cv L [y.t] ((w5.setRow g R).setRow G #[v5]) v5 (L ++ [y]) ∧ Picked G W n cv L [y.t] ((w5.setRow G #[v5]).setRow g R) v5 (L ++ [y]) ∧
      (∀ B, W.heap.size ≤ B → B < m2 → ((w5.setRow g R).setRow G #[v5]).heap[B]? = wa.heap[B]? ∧ ((w5.setRow G #[v5]).setRow g R).heap[B]? = wa.heap[B]?) := by
  subst hS
  have hG := hP.lt
  have hll : (cellsOf cellsX L).length = k * 8 := by rw [cellsOf_len cellsX 8 cellsX_len, hLk]
  obtain ⟨g, cap, R, rfl, hg1, hg2, hcap, hcm, hput, -⟩ := own_put (P := Tryd.prog) hown5 hll rfl (cellsX y).toArray rfl info_exS (by simpa using one_X y)
  have hGS : G ∉ cv.ownBlock.toList := fun hm => by rw [Option.mem_toList] at hm; have := (hP.kids.row.lt G hm).1; omega
  have hvar5 : Blk w5 G 37 #[cv] := (hc5.block G (by have := hWa.size; omega) hGS).trans ((hP.keep hWa).var)
  have hcW : Chg cv.ownBlock.toList W w5 := (below_chg hWa).trans hc5
  have hf : (Value.slice (some ⟨g, 0, none⟩) (k + 1) cap).ownBlock = cv.ownBlock ∨ ∀ q, (Value.slice (some ⟨g, 0, none⟩) (k + 1) cap).ownBlock = some q → m2 ≤ q := by
    rw [hcv]
    rcases hf5 with h | h
    · exact .inl h
    · exact .inr fun q hq => by have := h q hq; omega
  have hy5 : XIn (fun b => W.heap.size ≤ b ∧ b < m2) w5 n y := hy.keep fun b hb => hc5.block b (by omega) (fun hm => by rw [Option.mem_toList] at hm; have := own_lt hP.kids.row hm; omega)
  have hs5 := hc5.size
  have hr : ∀ V : World, V.heap[g]? = w5.heap[g]? → (V.setRow g R).ownsRow (G + 1) 39 8 (.slice (some ⟨g, 0, none⟩) (k + 1) cap) (L.length + 1) (cellsOf cellsX L ++ cellsX y) := fun V hV => by
    have := (hput V hV).2
    rw [hLk]; simpa using this
  have hvb : ∀ V : World, V.heap[G]? = w5.heap[G]? → V.heap[G]? = some (.cells #[cv] 37 (0, 0)) := fun V hV => hV.trans hvar5
  refine ⟨g, cap, R, rfl, by omega, hcap, fun V hV => (hput V hV).1, fun V hV => run_storeVar_one V G _ _ cv _ (hvb V hV) info_sl rfl, ?_, ?_, ?_⟩
  · refine pick_end hP hcW hf hm1 (by omega) hy5 rfl (((Chg.refl _ _).setRow (.inl (by simp)) _).setRow (.inl (by simp)) _) (Blk.setRow (old := #[cv]) (hvb _ (setRow_other w5 g G _ (by omega)))) ?_
    exact own_keep (hr w5 rfl) fun q hq => by
      have : q = g := by simpa [Value.ownBlock] using hq.symm
      subst this
      exact setRow_other _ G q _ (by omega)
  · refine pick_end hP hcW hf hm1 (by omega) hy5 rfl (((Chg.refl _ _).setRow (.inl (by simp)) _).setRow (.inl (by simp)) _) ?_ (hr _ (setRow_other w5 G g _ (by omega)))
    exact (setRow_other _ g G _ (by omega)).trans (Blk.setRow (old := #[cv]) (hvb w5 rfl))
  · intro B h1 h2
    have hBg : B ≠ g := by
      intro e; subst e
      rcases hf with h | h
      · have h3 : B < W.heap.size := own_lt hP.kids.row (h.symm.trans rfl)
        omega
      · have := h B rfl; omega
    have hB5 : w5.heap[B]? = wa.heap[B]? := hc5.block B (by omega) (fun hm => by rw [Option.mem_toList] at hm; have := own_lt hP.kids.row hm; omega)
    exact ⟨(setRow_other _ G B _ (by omega)).trans ((setRow_other _ g B _ hBg).trans hB5), (setRow_other _ g B _ hBg).trans ((setRow_other _ G B _ (by omega)).trans hB5)⟩


set_option maxHeartbeats 8000000 in
theorem colsDo_any (G n : Nat) (x : XM) (W : World) (cv : Value) (L : List XM) (hP : PickIn G W n cv L) (h : XAt W.heap.size W n x) (hall : x.t.allB (fun _ k => decide (k ≤ 1000000)) = true) (hL : L.length ≤ 1000000) :
    Calls Tryd.prog 35 #[.agg #[.int .i64 x.t.lab.kd, .int .u8 x.t.lab.v.k, .int .i64 x.t.lab.v.n, .string x.t.lab.v.s, .string x.t.lab.tb, .string x.t.lab.nm, .string x.t.lab.op, .slice x.a x.t.args.length x.cap], .pointer (some ⟨G, 0, none⟩)] W (RetDo G W n cv L (pickL 2 x.t) (.bool true)) := by
  have hmx : x.t.args.length ≤ 1000000 := by rw [Rose.allB_eq, Bool.and_eq_true] at hall; simpa using hall.1
  have HCl := Lib.hid (fun V (hb : Below W.heap.size W V) => clone_is n x V (h.later hb) hmx hall)
  rw [XM.v_eq] at HCl
  have HP := Lib.hid hP
  have HX := Lib.hid (Slot8.new W 39 (.int .i64 x.t.lab.kd) (.int .u8 x.t.lab.v.k) (.int .i64 x.t.lab.v.n) (.string x.t.lab.v.s) (.string x.t.lab.tb) (.string x.t.lab.nm) (.string x.t.lab.op) (.slice x.a x.t.args.length x.cap))
  obtain ⟨w0, hw0⟩ : ∃ w0, W.alloc (.cells #[.int .i64 x.t.lab.kd, .int .u8 x.t.lab.v.k, .int .i64 x.t.lab.v.n, .string x.t.lab.v.s, .string x.t.lab.tb, .string x.t.lab.nm, .string x.t.lab.op, .slice x.a x.t.args.length x.cap] 39) = w0 := ⟨_, rfl⟩
  have HB0 : Hid (Below W.heap.size W w0) := by rw [← hw0]; exact (Below.refl _ W).alloc (Nat.le_refl _) _
  have hs0 : w0.heap.size = W.heap.size + 1 := by rw [← hw0]; simp
  rw [hw0] at HX
  by_cases hk : x.t.lab.kd = 2
  · have hkd : decide (x.t.lab.kd = 2) = true := by simpa using hk
    have hpk : pickL 2 x.t = [x.t] := if_pos hk
    rw [hpk]
    have HK := Lib.hid hk
    obtain ⟨i0, hi, hz0, hz1, hz2⟩ := info_parts info_ex
    have HRow : Hid (W.ownsRow (G + 1) 39 8 cv L.length (cellsOf cellsX L)) := hP.kids.row
    have hGlt := hP.lt
    have HGl := Lib.hid hGlt
    obtain ⟨k, hk5⟩ : ∃ k, L.length = k := ⟨_, rfl⟩
    have HLk := Lib.hid hk5
    rw [hk5] at HRow hL
    obtain ⟨ac, cc, hcv, hcc, -, -⟩ := own_slice HRow.out
    have HCv := Lib.hid hcv
    obtain ⟨S, hS⟩ : ∃ S, cv.ownBlock.toList = S := ⟨_, rfl⟩
    have hGS : G ∉ cv.ownBlock.toList := fun hm => by rw [Option.mem_toList] at hm; have := (hP.kids.row.lt G hm).1; omega
    have hBS : W.heap.size ∉ cv.ownBlock.toList := fun hm => by rw [Option.mem_toList] at hm; have := own_lt hP.kids.row hm; omega
    rw [hS] at hGS hBS
    have HSv : Hid ((Value.slice ac k cc).ownBlock.toList = S) := by rw [← hcv]; exact hS
    have HSS := Lib.hid hS
    have l0 : ∀ V, Chg S w0.drew V → V.cell? ⟨G, 0, none⟩ = some (.slice ac k cc) := fun V hV => by rw [← HCv.out]; exact (hV.cell (b := G) (by show G < w0.heap.size; omega) hGS).trans (((HP.out.keep HB0.out).var.cell 0).trans rfl)
    have b0 : ∀ V, Chg S w0.drew V → V.cell? ⟨W.heap.size, 0, none⟩ = some (.int .i64 x.t.lab.kd) := fun V hV => (hV.cell (b := W.heap.size) (by show W.heap.size < w0.heap.size; omega) hBS).trans HX.out.c0
    have b1 : ∀ V, Chg S w0.drew V → V.cell? ⟨W.heap.size, 1, none⟩ = some (.int .u8 x.t.lab.v.k) := fun V hV => (hV.cell (b := W.heap.size) (by show W.heap.size < w0.heap.size; omega) hBS).trans HX.out.c1
    have b2 : ∀ V, Chg S w0.drew V → V.cell? ⟨W.heap.size, 2, none⟩ = some (.int .i64 x.t.lab.v.n) := fun V hV => (hV.cell (b := W.heap.size) (by show W.heap.size < w0.heap.size; omega) hBS).trans HX.out.c2
    have b3 : ∀ V, Chg S w0.drew V → V.cell? ⟨W.heap.size, 3, none⟩ = some (.string x.t.lab.v.s) := fun V hV => (hV.cell (b := W.heap.size) (by show W.heap.size < w0.heap.size; omega) hBS).trans HX.out.c3
    have b4 : ∀ V, Chg S w0.drew V → V.cell? ⟨W.heap.size, 4, none⟩ = some (.string x.t.lab.tb) := fun V hV => (hV.cell (b := W.heap.size) (by show W.heap.size < w0.heap.size; omega) hBS).trans HX.out.c4
    have b5 : ∀ V, Chg S w0.drew V → V.cell? ⟨W.heap.size, 5, none⟩ = some (.string x.t.lab.nm) := fun V hV => (hV.cell (b := W.heap.size) (by show W.heap.size < w0.heap.size; omega) hBS).trans HX.out.c5
    have b6 : ∀ V, Chg S w0.drew V → V.cell? ⟨W.heap.size, 6, none⟩ = some (.string x.t.lab.op) := fun V hV => (hV.cell (b := W.heap.size) (by show W.heap.size < w0.heap.size; omega) hBS).trans HX.out.c6
    have b7 : ∀ V, Chg S w0.drew V → V.cell? ⟨W.heap.size, 7, none⟩ = some (.slice x.a x.t.args.length x.cap) := fun V hV => (hV.cell (b := W.heap.size) (by show W.heap.size < w0.heap.size; omega) hBS).trans HX.out.c7
    have HSz := Lib.hid hs0
    have qk : (x.t.lab.kd == 2) = true := by simpa using hk
    have x0 := HX.out.c0
    clear hP h hall hmx hGlt hGS hBS hpk hk5 hk hkd hs0 hcv hS
    go_enter Tryd.func35, Tryd.ntmps35
    go_wp2_with fail
    clear x0
    refine wp_region_tail (S) [6,7,8] (.free 0 (.free 1 (.free 3 (.two 2 4 (.one 4 (.one 5 (.lasts 6 8 (.lasts 7 8 (.last 8 (.nil)) (.last 7 (.nil))) (.last 6 (.last 7 (.nil)))))) (.one 2 (.one 5 (.lasts 6 8 (.lasts 7 8 (.last 8 (.nil)) (.last 7 (.nil))) (.last 6 (.last 7 (.nil)))))))))) (by kernel_rfl) (by kernel_rfl) (by kernel_rfl) (by kernel_rfl) ?_
    repeat (first | ((refine wpL_F rfl (by rfl) (fun w' hL => exec_load rfl rfl (l0 w' hL)) ?_); try simp only [Act.put, List.setIfInBounds_toArray, List.set_cons_zero, List.set_cons_succ]) | (refine wpL_F (v := ?_) rfl (by rfl) (fun w' hL => ?_) ?_; rotate_left; (solve | (go_simp; with_reducible rfl) | go_simp); try simp only [Act.put, List.setIfInBounds_toArray, List.set_cons_zero, List.set_cons_succ]) | (refine wpL_G rfl (by rfl) ?_; try simp only [Act.put, List.setIfInBounds_toArray, List.set_cons_zero, List.set_cons_succ]))
    have HBd : Hid (Below W.heap.size W w0.drew) := HB0.out.drew
    refine wpL_two ?_ ?_
    · skip
      refine wpL_C rfl (by rfl) ?_
      go_simp
      refine (HCl.out _ HBd.out).mono ?_
      rintro e w1 ⟨y, rfl, hyt, hyI, hb1⟩
      have HYt := Lib.hid hyt
      clear hyt
      refine ⟨below_chg hb1, ?_⟩
      try simp only [Act.put, List.setIfInBounds_toArray, List.set_cons_zero, List.set_cons_succ]
      refine wpL_C rfl (by rfl) ?_
      go_simp
      refine ⟨(Chg.refl _ _).alloc _, ?_⟩
      try simp only [Act.put, List.setIfInBounds_toArray, List.set_cons_zero, List.set_cons_succ]
      obtain ⟨wa, hwa⟩ : ∃ wa, w1.alloc (.cells #[.int .i64 0, .int .u8 0, .int .i64 0, .string ⟨#[]⟩, .string ⟨#[]⟩, .string ⟨#[]⟩, .string ⟨#[]⟩, .slice none 0 0] 39) = wa := ⟨_, rfl⟩
      rw [hwa]
      have hbk : ∀ (j : Nat) u, zero8[j]? = some u → wa.cell? ⟨w1.heap.size, j, none⟩ = some u := fun j u hu => by
        rw [← hwa, World.cell?_alloc_at _ _ _ _ rfl]; simpa using hu
      have hWa : Below W.heap.size W wa := by rw [← hwa]; exact ((HBd.out.trans (hb1.mono HBd.out.size)).alloc (Nat.le_trans HBd.out.size hb1.size) _)
      have hyA : XIn (fun b => W.heap.size ≤ b ∧ b < w1.heap.size) wa n y := (hyI.keep (w' := wa) (fun b hb => by rw [← hwa]; exact Below.heap_alloc w1 _ b hb.2)).imp fun b hb => ⟨by have := HBd.out.size; omega, hb.2⟩
      have hm2 : w1.heap.size ≤ wa.heap.size := by rw [← hwa]; simp
      have hm1 : W.heap.size ≤ w1.heap.size := Nat.le_trans HBd.out.size hb1.size
      have hrow1 : wa.ownsRow (G + 1) 39 8 (.slice ac k cc) k (cellsOf cellsX L) := by rw [← HCv.out]; exact own_below HRow.out (Nat.le_refl _) hWa
      refine wpL_C rfl (by rfl) ?_
      refine wp_appG (.tmp 7) (.tmp 11) 37 rfl (G + 1) 39 i0 (.agg #[.int .i64 0, .int .u8 0, .int .i64 0, .string ⟨#[]⟩, .string ⟨#[]⟩, .string ⟨#[]⟩, .string ⟨#[]⟩, .slice none 0 0]) 8 112 1 Tryd.underlying37 hi hz0 rfl hz1 (by omega) hz2 (by omega) (.slice ac k cc) k _ zero8 wa hrow1 rfl (w1.heap.size) 1 hbk rfl one_Z rfl (by omega) (by have := HGl.out; have := hWa.size; omega) ?_
      intro v5 w5 hown5 hc5 hf5
      rw [HSv.out] at hc5
      refine ⟨hc5, ?_⟩
      try simp only [Act.put, List.setIfInBounds_toArray, List.set_cons_zero, List.set_cons_succ]
      have hPick := pick_both HP.out HCv.out HSS.out HLk.out hWa hyA hm1 hm2 hown5 hc5 hf5
      obtain ⟨g, cap, R, hv5, hGg, hcap, hstore, hvar, hA, hB, hbx⟩ := hPick
      subst hv5
      have hwx : wa.cell? ⟨W.heap.size, 0, none⟩ = some (.int .i64 x.t.lab.kd) := (((hb1.cell (p := ⟨W.heap.size, 0, none⟩) (by have := HSz.out; show W.heap.size < w0.heap.size; omega)).trans HX.out.c0) |> fun h => by rw [← hwa]; exact (((Below.refl w1.heap.size w1).alloc (Nat.le_refl _) _).cell (p := ⟨W.heap.size, 0, none⟩) (by have := HSz.out; have := hb1.size; have : w0.drew.heap.size = w0.heap.size := rfl; show W.heap.size < w1.heap.size; omega)).trans h)
      have xA := Lib.hid ((World.cell?_of_block (a := ⟨W.heap.size, 0, none⟩) (hbx W.heap.size (Nat.le_refl _) (by have := HSz.out; have := hb1.size; have : w0.drew.heap.size = w0.heap.size := rfl; omega)).1).trans hwx)
      have xB := Lib.hid ((World.cell?_of_block (a := ⟨W.heap.size, 0, none⟩) (hbx W.heap.size (Nat.le_refl _) (by have := HSz.out; have := hb1.size; have : w0.drew.heap.size = w0.heap.size := rfl; omega)).2).trans hwx)
      have HA := Lib.hid hA
      have HB := Lib.hid hB
      have HS1 := Lib.hid (hstore w5 rfl)
      have HS2 := Lib.hid (hstore (w5.setRow G #[.slice (some ⟨g, 0, none⟩) (k + 1) cap]) (setRow_other w5 G g _ (by omega)))
      have HV1 := Lib.hid (hvar w5 rfl)
      have HV2 := Lib.hid (hvar (w5.setRow g R) (setRow_other w5 g G _ (by omega)))
      clear hbk hWa hyA hm2 hm1 hrow1 hown5 hc5 hf5 hstore hvar hA hB hyI hb1 hbx hwx l0 b0 b1 b2 b3 b4 b5 b6 b7
      refine wpL_lasts ?_ ?_
      · refine wpL_X rfl (by rfl) ?_
        refine wp_val (v := .pointer (some ⟨g, k * 8, none⟩)) (by go_simp; rw [if_pos (by omega)]) ?_
        try simp only [Act.put, List.setIfInBounds_toArray, List.set_cons_zero, List.set_cons_succ]
        refine wpL_lasts ?_ ?_
        · refine wpL_X rfl (by rfl) ?_
          refine wp_skp (exec_store rfl rfl rfl HS1.out) ?_
          try simp only [Act.put, List.setIfInBounds_toArray, List.set_cons_zero, List.set_cons_succ]
          refine wpL_X rfl (by rfl) ?_
          refine wp_skp (exec_store rfl rfl rfl HV2.out) ?_
          try simp only [Act.put, List.setIfInBounds_toArray, List.set_cons_zero, List.set_cons_succ]
          refine wpL_nil ?_
          try go_simp
          try simp only [NoPanic]
          have xq := xA.out
          go_wp2
          go_ret
          exact ⟨ret_b (by rfl), _, _, by rw [← HYt.out]; exact HA.out⟩
        · refine wpL_X rfl (by rfl) ?_
          refine wp_skp (exec_store rfl rfl rfl HV1.out) ?_
          try simp only [Act.put, List.setIfInBounds_toArray, List.set_cons_zero, List.set_cons_succ]
          refine wpL_X rfl (by rfl) ?_
          refine wp_skp (exec_store rfl rfl rfl HS2.out) ?_
          try simp only [Act.put, List.setIfInBounds_toArray, List.set_cons_zero, List.set_cons_succ]
          refine wpL_nil ?_
          try go_simp
          try simp only [NoPanic]
          have xq := xB.out
          go_wp2
          go_ret
          exact ⟨ret_b (by rfl), _, _, by rw [← HYt.out]; exact HB.out⟩
      · refine wpL_X rfl (by rfl) ?_
        refine wp_skp (exec_store rfl rfl rfl HV1.out) ?_
        try simp only [Act.put, List.setIfInBounds_toArray, List.set_cons_zero, List.set_cons_succ]
        refine wpL_X rfl (by rfl) ?_
        refine wp_val (v := .pointer (some ⟨g, k * 8, none⟩)) (by go_simp; rw [if_pos (by omega)]) ?_
        try simp only [Act.put, List.setIfInBounds_toArray, List.set_cons_zero, List.set_cons_succ]
        refine wpL_X rfl (by rfl) ?_
        refine wp_skp (exec_store rfl rfl rfl HS2.out) ?_
        try simp only [Act.put, List.setIfInBounds_toArray, List.set_cons_zero, List.set_cons_succ]
        refine wpL_nil ?_
        try go_simp
        try simp only [NoPanic]
        have xq := xB.out
        go_wp2
        go_ret
        exact ⟨ret_b (by rfl), _, _, by rw [← HYt.out]; exact HB.out⟩
    · refine wpL_C rfl (by rfl) ?_
      go_simp
      refine ⟨(Chg.refl _ _).alloc _, ?_⟩
      try simp only [Act.put, List.setIfInBounds_toArray, List.set_cons_zero, List.set_cons_succ]
      obtain ⟨wz, hwz⟩ : ∃ wz, (w0.alloc (.cells #[.int .i64 0, .int .u8 0, .int .i64 0, .string ⟨#[]⟩, .string ⟨#[]⟩, .string ⟨#[]⟩, .string ⟨#[]⟩, .slice none 0 0] 39)).drew = wz := ⟨_, rfl⟩
      try rw [hwz]
      have HBz : Hid (Below W.heap.size W wz) := by rw [← hwz]; exact (HB0.out.alloc HB0.out.size _).drew
      refine wpL_C rfl (by rfl) ?_
      go_simp
      refine (HCl.out _ HBz.out).mono ?_
      rintro e wa ⟨y, rfl, hyt, hyI, hb1⟩
      have HYt := Lib.hid hyt
      clear hyt
      refine ⟨below_chg hb1, ?_⟩
      try simp only [Act.put, List.setIfInBounds_toArray, List.set_cons_zero, List.set_cons_succ]
      have hbk : ∀ (j : Nat) u, zero8[j]? = some u → wa.cell? ⟨w0.heap.size, j, none⟩ = some u := fun j u hu => by
        refine (hb1.cell (p := ⟨w0.heap.size, j, none⟩) (by rw [← hwz]; show w0.heap.size < (w0.alloc _).heap.size; simp)).trans ?_
        rw [← hwz]
        show (w0.alloc _).cell? _ = _
        rw [World.cell?_alloc_at _ _ _ _ rfl]; simpa using hu
      have hWa : Below W.heap.size W wa := HBz.out.trans (hb1.mono HBz.out.size)
      have hyA : XIn (fun b => W.heap.size ≤ b ∧ b < wa.heap.size) wa n y := hyI.imp fun b hb => ⟨by have := HBz.out.size; omega, hb.2⟩
      have hm2 : wa.heap.size ≤ wa.heap.size := Nat.le_refl _
      have hm1 : W.heap.size ≤ wa.heap.size := hWa.size
      have hrow1 : wa.ownsRow (G + 1) 39 8 (.slice ac k cc) k (cellsOf cellsX L) := by rw [← HCv.out]; exact own_below HRow.out (Nat.le_refl _) hWa
      refine wpL_C rfl (by rfl) ?_
      refine wp_appG (.tmp 7) (.tmp 11) 37 rfl (G + 1) 39 i0 (.agg #[.int .i64 0, .int .u8 0, .int .i64 0, .string ⟨#[]⟩, .string ⟨#[]⟩, .string ⟨#[]⟩, .string ⟨#[]⟩, .slice none 0 0]) 8 112 1 Tryd.underlying37 hi hz0 rfl hz1 (by omega) hz2 (by omega) (.slice ac k cc) k _ zero8 wa hrow1 rfl (w0.heap.size) 1 hbk rfl one_Z rfl (by omega) (by have := HGl.out; have := hWa.size; omega) ?_
      intro v5 w5 hown5 hc5 hf5
      rw [HSv.out] at hc5
      refine ⟨hc5, ?_⟩
      try simp only [Act.put, List.setIfInBounds_toArray, List.set_cons_zero, List.set_cons_succ]
      have hPick := pick_both HP.out HCv.out HSS.out HLk.out hWa hyA hm1 hm2 hown5 hc5 hf5
      obtain ⟨g, cap, R, hv5, hGg, hcap, hstore, hvar, hA, hB, hbx⟩ := hPick
      subst hv5
      have hwx : wa.cell? ⟨W.heap.size, 0, none⟩ = some (.int .i64 x.t.lab.kd) := (hb1.cell (p := ⟨W.heap.size, 0, none⟩) (by have := HSz.out; rw [← hwz]; show W.heap.size < (w0.alloc _).heap.size; simp; omega)).trans (by rw [← hwz]; exact (((Below.refl w0.heap.size w0).alloc (Nat.le_refl _) _).cell (p := ⟨W.heap.size, 0, none⟩) (by have := HSz.out; show W.heap.size < w0.heap.size; omega)).trans HX.out.c0)
      have xA := Lib.hid ((World.cell?_of_block (a := ⟨W.heap.size, 0, none⟩) (hbx W.heap.size (Nat.le_refl _) (by have := HSz.out; have := hb1.size; have : w0.heap.size ≤ wz.heap.size := (by rw [← hwz]; show w0.heap.size ≤ (w0.alloc _).heap.size; simp); omega)).1).trans hwx)
      have xB := Lib.hid ((World.cell?_of_block (a := ⟨W.heap.size, 0, none⟩) (hbx W.heap.size (Nat.le_refl _) (by have := HSz.out; have := hb1.size; have : w0.heap.size ≤ wz.heap.size := (by rw [← hwz]; show w0.heap.size ≤ (w0.alloc _).heap.size; simp); omega)).2).trans hwx)
      have HA := Lib.hid hA
      have HB := Lib.hid hB
      have HS1 := Lib.hid (hstore w5 rfl)
      have HS2 := Lib.hid (hstore (w5.setRow G #[.slice (some ⟨g, 0, none⟩) (k + 1) cap]) (setRow_other w5 G g _ (by omega)))
      have HV1 := Lib.hid (hvar w5 rfl)
      have HV2 := Lib.hid (hvar (w5.setRow g R) (setRow_other w5 g G _ (by omega)))
      clear hbk hWa hyA hm2 hm1 hrow1 hown5 hc5 hf5 hstore hvar hA hB hyI hb1 hbx hwx l0 b0 b1 b2 b3 b4 b5 b6 b7
      refine wpL_lasts ?_ ?_
      · refine wpL_X rfl (by rfl) ?_
        refine wp_val (v := .pointer (some ⟨g, k * 8, none⟩)) (by go_simp; rw [if_pos (by omega)]) ?_
        try simp only [Act.put, List.setIfInBounds_toArray, List.set_cons_zero, List.set_cons_succ]
        refine wpL_lasts ?_ ?_
        · refine wpL_X rfl (by rfl) ?_
          refine wp_skp (exec_store rfl rfl rfl HS1.out) ?_
          try simp only [Act.put, List.setIfInBounds_toArray, List.set_cons_zero, List.set_cons_succ]
          refine wpL_X rfl (by rfl) ?_
          refine wp_skp (exec_store rfl rfl rfl HV2.out) ?_
          try simp only [Act.put, List.setIfInBounds_toArray, List.set_cons_zero, List.set_cons_succ]
          refine wpL_nil ?_
          try go_simp
          try simp only [NoPanic]
          have xq := xA.out
          go_wp2
          go_ret
          exact ⟨ret_b (by rfl), _, _, by rw [← HYt.out]; exact HA.out⟩
        · refine wpL_X rfl (by rfl) ?_
          refine wp_skp (exec_store rfl rfl rfl HV1.out) ?_
          try simp only [Act.put, List.setIfInBounds_toArray, List.set_cons_zero, List.set_cons_succ]
          refine wpL_X rfl (by rfl) ?_
          refine wp_skp (exec_store rfl rfl rfl HS2.out) ?_
          try simp only [Act.put, List.setIfInBounds_toArray, List.set_cons_zero, List.set_cons_succ]
          refine wpL_nil ?_
          try go_simp
          try simp only [NoPanic]
          have xq := xB.out
          go_wp2
          go_ret
          exact ⟨ret_b (by rfl), _, _, by rw [← HYt.out]; exact HB.out⟩
      · refine wpL_X rfl (by rfl) ?_
        refine wp_skp (exec_store rfl rfl rfl HV1.out) ?_
        try simp only [Act.put, List.setIfInBounds_toArray, List.set_cons_zero, List.set_cons_succ]
        refine wpL_X rfl (by rfl) ?_
        refine wp_val (v := .pointer (some ⟨g, k * 8, none⟩)) (by go_simp; rw [if_pos (by omega)]) ?_
        try simp only [Act.put, List.setIfInBounds_toArray, List.set_cons_zero, List.set_cons_succ]
        refine wpL_X rfl (by rfl) ?_
        refine wp_skp (exec_store rfl rfl rfl HS2.out) ?_
        try simp only [Act.put, List.setIfInBounds_toArray, List.set_cons_zero, List.set_cons_succ]
        refine wpL_nil ?_
        try go_simp
        try simp only [NoPanic]
        have xq := xB.out
        go_wp2
        go_ret
        exact ⟨ret_b (by rfl), _, _, by rw [← HYt.out]; exact HB.out⟩
  · have hpk : pickL 2 x.t = [] := if_neg hk
    rw [hpk]
    have qk : (x.t.lab.kd == 2) = false := by simpa using hk
    have x0 := HX.out.c0
    have HN := Lib.hid (Picked.none hP HB0.out)
    clear hP h hall hpk hk hs0 HCl
    go_enter Tryd.func35, Tryd.ntmps35
    go_wp2
    go_ret
    exact ⟨ret_b (by rfl), _, _, HN.out⟩

set_option maxHeartbeats 8000000 in
theorem aggsDo_any (G n : Nat) (x : XM) (W : World) (cv : Value) (L : List XM) (hP : PickIn G W n cv L) (h : XAt W.heap.size W n x) (hall : x.t.allB (fun _ k => decide (k ≤ 1000000)) = true) (hL : L.length ≤ 1000000) :
    Calls Tryd.prog 37 #[.agg #[.int .i64 x.t.lab.kd, .int .u8 x.t.lab.v.k, .int .i64 x.t.lab.v.n, .string x.t.lab.v.s, .string x.t.lab.tb, .string x.t.lab.nm, .string x.t.lab.op, .slice x.a x.t.args.length x.cap], .pointer (some ⟨G, 0, none⟩)] W (RetDo G W n cv L (pickL 6 x.t) (.bool (x.t.lab.kd != 6))) := by
  have hmx : x.t.args.length ≤ 1000000 := by rw [Rose.allB_eq, Bool.and_eq_true] at hall; simpa using hall.1
  have HCl := Lib.hid (fun V (hb : Below W.heap.size W V) => clone_is n x V (h.later hb) hmx hall)
  rw [XM.v_eq] at HCl
  have HP := Lib.hid hP
  have HX := Lib.hid (Slot8.new W 39 (.int .i64 x.t.lab.kd) (.int .u8 x.t.lab.v.k) (.int .i64 x.t.lab.v.n) (.string x.t.lab.v.s) (.string x.t.lab.tb) (.string x.t.lab.nm) (.string x.t.lab.op) (.slice x.a x.t.args.length x.cap))
  obtain ⟨w0, hw0⟩ : ∃ w0, W.alloc (.cells #[.int .i64 x.t.lab.kd, .int .u8 x.t.lab.v.k, .int .i64 x.t.lab.v.n, .string x.t.lab.v.s, .string x.t.lab.tb, .string x.t.lab.nm, .string x.t.lab.op, .slice x.a x.t.args.length x.cap] 39) = w0 := ⟨_, rfl⟩
  have HB0 : Hid (Below W.heap.size W w0) := by rw [← hw0]; exact (Below.refl _ W).alloc (Nat.le_refl _) _
  have hs0 : w0.heap.size = W.heap.size + 1 := by rw [← hw0]; simp
  rw [hw0] at HX
  by_cases hk : x.t.lab.kd = 6
  · have hkd : decide (x.t.lab.kd = 6) = true := by simpa using hk
    have hpk : pickL 6 x.t = [x.t] := if_pos hk
    rw [hpk]
    have HK := Lib.hid hk
    obtain ⟨i0, hi, hz0, hz1, hz2⟩ := info_parts info_ex
    have HRow : Hid (W.ownsRow (G + 1) 39 8 cv L.length (cellsOf cellsX L)) := hP.kids.row
    have hGlt := hP.lt
    have HGl := Lib.hid hGlt
    obtain ⟨k, hk5⟩ : ∃ k, L.length = k := ⟨_, rfl⟩
    have HLk := Lib.hid hk5
    rw [hk5] at HRow hL
    obtain ⟨ac, cc, hcv, hcc, -, -⟩ := own_slice HRow.out
    have HCv := Lib.hid hcv
    obtain ⟨S, hS⟩ : ∃ S, cv.ownBlock.toList = S := ⟨_, rfl⟩
    have hGS : G ∉ cv.ownBlock.toList := fun hm => by rw [Option.mem_toList] at hm; have := (hP.kids.row.lt G hm).1; omega
    have hBS : W.heap.size ∉ cv.ownBlock.toList := fun hm => by rw [Option.mem_toList] at hm; have := own_lt hP.kids.row hm; omega
    rw [hS] at hGS hBS
    have HSv : Hid ((Value.slice ac k cc).ownBlock.toList = S) := by rw [← hcv]; exact hS
    have HSS := Lib.hid hS
    have l0 : ∀ V, Chg S w0.drew V → V.cell? ⟨G, 0, none⟩ = some (.slice ac k cc) := fun V hV => by rw [← HCv.out]; exact (hV.cell (b := G) (by show G < w0.heap.size; omega) hGS).trans (((HP.out.keep HB0.out).var.cell 0).trans rfl)
    have b0 : ∀ V, Chg S w0.drew V → V.cell? ⟨W.heap.size, 0, none⟩ = some (.int .i64 x.t.lab.kd) := fun V hV => (hV.cell (b := W.heap.size) (by show W.heap.size < w0.heap.size; omega) hBS).trans HX.out.c0
    have b1 : ∀ V, Chg S w0.drew V → V.cell? ⟨W.heap.size, 1, none⟩ = some (.int .u8 x.t.lab.v.k) := fun V hV => (hV.cell (b := W.heap.size) (by show W.heap.size < w0.heap.size; omega) hBS).trans HX.out.c1
    have b2 : ∀ V, Chg S w0.drew V → V.cell? ⟨W.heap.size, 2, none⟩ = some (.int .i64 x.t.lab.v.n) := fun V hV => (hV.cell (b := W.heap.size) (by show W.heap.size < w0.heap.size; omega) hBS).trans HX.out.c2
    have b3 : ∀ V, Chg S w0.drew V → V.cell? ⟨W.heap.size, 3, none⟩ = some (.string x.t.lab.v.s) := fun V hV => (hV.cell (b := W.heap.size) (by show W.heap.size < w0.heap.size; omega) hBS).trans HX.out.c3
    have b4 : ∀ V, Chg S w0.drew V → V.cell? ⟨W.heap.size, 4, none⟩ = some (.string x.t.lab.tb) := fun V hV => (hV.cell (b := W.heap.size) (by show W.heap.size < w0.heap.size; omega) hBS).trans HX.out.c4
    have b5 : ∀ V, Chg S w0.drew V → V.cell? ⟨W.heap.size, 5, none⟩ = some (.string x.t.lab.nm) := fun V hV => (hV.cell (b := W.heap.size) (by show W.heap.size < w0.heap.size; omega) hBS).trans HX.out.c5
    have b6 : ∀ V, Chg S w0.drew V → V.cell? ⟨W.heap.size, 6, none⟩ = some (.string x.t.lab.op) := fun V hV => (hV.cell (b := W.heap.size) (by show W.heap.size < w0.heap.size; omega) hBS).trans HX.out.c6
    have b7 : ∀ V, Chg S w0.drew V → V.cell? ⟨W.heap.size, 7, none⟩ = some (.slice x.a x.t.args.length x.cap) := fun V hV => (hV.cell (b := W.heap.size) (by show W.heap.size < w0.heap.size; omega) hBS).trans HX.out.c7
    have HSz := Lib.hid hs0
    have qk : (x.t.lab.kd == 6) = true := by simpa using hk
    have x0 := HX.out.c0
    clear hP h hall hmx hGlt hGS hBS hpk hk5 hk hkd hs0 hcv hS
    go_enter Tryd.func37, Tryd.ntmps37
    go_wp2_with fail
    clear x0
    refine wp_region_tail (S) [6,7,8] (.free 0 (.free 1 (.free 3 (.two 2 4 (.one 4 (.one 5 (.lasts 6 8 (.lasts 7 8 (.last 8 (.nil)) (.last 7 (.nil))) (.last 6 (.last 7 (.nil)))))) (.one 2 (.one 5 (.lasts 6 8 (.lasts 7 8 (.last 8 (.nil)) (.last 7 (.nil))) (.last 6 (.last 7 (.nil)))))))))) (by kernel_rfl) (by kernel_rfl) (by kernel_rfl) (by kernel_rfl) ?_
    repeat (first | ((refine wpL_F rfl (by rfl) (fun w' hL => exec_load rfl rfl (l0 w' hL)) ?_); try simp only [Act.put, List.setIfInBounds_toArray, List.set_cons_zero, List.set_cons_succ]) | (refine wpL_F (v := ?_) rfl (by rfl) (fun w' hL => ?_) ?_; rotate_left; (solve | (go_simp; with_reducible rfl) | go_simp); try simp only [Act.put, List.setIfInBounds_toArray, List.set_cons_zero, List.set_cons_succ]) | (refine wpL_G rfl (by rfl) ?_; try simp only [Act.put, List.setIfInBounds_toArray, List.set_cons_zero, List.set_cons_succ]))
    have HBd : Hid (Below W.heap.size W w0.drew) := HB0.out.drew
    refine wpL_two ?_ ?_
    · skip
      refine wpL_C rfl (by rfl) ?_
      go_simp
      refine (HCl.out _ HBd.out).mono ?_
      rintro e w1 ⟨y, rfl, hyt, hyI, hb1⟩
      have HYt := Lib.hid hyt
      clear hyt
      refine ⟨below_chg hb1, ?_⟩
      try simp only [Act.put, List.setIfInBounds_toArray, List.set_cons_zero, List.set_cons_succ]
      refine wpL_C rfl (by rfl) ?_
      go_simp
      refine ⟨(Chg.refl _ _).alloc _, ?_⟩
      try simp only [Act.put, List.setIfInBounds_toArray, List.set_cons_zero, List.set_cons_succ]
      obtain ⟨wa, hwa⟩ : ∃ wa, w1.alloc (.cells #[.int .i64 0, .int .u8 0, .int .i64 0, .string ⟨#[]⟩, .string ⟨#[]⟩, .string ⟨#[]⟩, .string ⟨#[]⟩, .slice none 0 0] 39) = wa := ⟨_, rfl⟩
      rw [hwa]
      have hbk : ∀ (j : Nat) u, zero8[j]? = some u → wa.cell? ⟨w1.heap.size, j, none⟩ = some u := fun j u hu => by
        rw [← hwa, World.cell?_alloc_at _ _ _ _ rfl]; simpa using hu
      have hWa : Below W.heap.size W wa := by rw [← hwa]; exact ((HBd.out.trans (hb1.mono HBd.out.size)).alloc (Nat.le_trans HBd.out.size hb1.size) _)
      have hyA : XIn (fun b => W.heap.size ≤ b ∧ b < w1.heap.size) wa n y := (hyI.keep (w' := wa) (fun b hb => by rw [← hwa]; exact Below.heap_alloc w1 _ b hb.2)).imp fun b hb => ⟨by have := HBd.out.size; omega, hb.2⟩
      have hm2 : w1.heap.size ≤ wa.heap.size := by rw [← hwa]; simp
      have hm1 : W.heap.size ≤ w1.heap.size := Nat.le_trans HBd.out.size hb1.size
      have hrow1 : wa.ownsRow (G + 1) 39 8 (.slice ac k cc) k (cellsOf cellsX L) := by rw [← HCv.out]; exact own_below HRow.out (Nat.le_refl _) hWa
      refine wpL_C rfl (by rfl) ?_
      refine wp_appG (.tmp 7) (.tmp 11) 37 rfl (G + 1) 39 i0 (.agg #[.int .i64 0, .int .u8 0, .int .i64 0, .string ⟨#[]⟩, .string ⟨#[]⟩, .string ⟨#[]⟩, .string ⟨#[]⟩, .slice none 0 0]) 8 112 1 Tryd.underlying37 hi hz0 rfl hz1 (by omega) hz2 (by omega) (.slice ac k cc) k _ zero8 wa hrow1 rfl (w1.heap.size) 1 hbk rfl one_Z rfl (by omega) (by have := HGl.out; have := hWa.size; omega) ?_
      intro v5 w5 hown5 hc5 hf5
      rw [HSv.out] at hc5
      refine ⟨hc5, ?_⟩
      try simp only [Act.put, List.setIfInBounds_toArray, List.set_cons_zero, List.set_cons_succ]
      have hPick := pick_both HP.out HCv.out HSS.out HLk.out hWa hyA hm1 hm2 hown5 hc5 hf5
      obtain ⟨g, cap, R, hv5, hGg, hcap, hstore, hvar, hA, hB, hbx⟩ := hPick
      subst hv5
      have hwx : wa.cell? ⟨W.heap.size, 0, none⟩ = some (.int .i64 x.t.lab.kd) := (((hb1.cell (p := ⟨W.heap.size, 0, none⟩) (by have := HSz.out; show W.heap.size < w0.heap.size; omega)).trans HX.out.c0) |> fun h => by rw [← hwa]; exact (((Below.refl w1.heap.size w1).alloc (Nat.le_refl _) _).cell (p := ⟨W.heap.size, 0, none⟩) (by have := HSz.out; have := hb1.size; have : w0.drew.heap.size = w0.heap.size := rfl; show W.heap.size < w1.heap.size; omega)).trans h)
      have xA := Lib.hid ((World.cell?_of_block (a := ⟨W.heap.size, 0, none⟩) (hbx W.heap.size (Nat.le_refl _) (by have := HSz.out; have := hb1.size; have : w0.drew.heap.size = w0.heap.size := rfl; omega)).1).trans hwx)
      have xB := Lib.hid ((World.cell?_of_block (a := ⟨W.heap.size, 0, none⟩) (hbx W.heap.size (Nat.le_refl _) (by have := HSz.out; have := hb1.size; have : w0.drew.heap.size = w0.heap.size := rfl; omega)).2).trans hwx)
      have HA := Lib.hid hA
      have HB := Lib.hid hB
      have HS1 := Lib.hid (hstore w5 rfl)
      have HS2 := Lib.hid (hstore (w5.setRow G #[.slice (some ⟨g, 0, none⟩) (k + 1) cap]) (setRow_other w5 G g _ (by omega)))
      have HV1 := Lib.hid (hvar w5 rfl)
      have HV2 := Lib.hid (hvar (w5.setRow g R) (setRow_other w5 g G _ (by omega)))
      clear hbk hWa hyA hm2 hm1 hrow1 hown5 hc5 hf5 hstore hvar hA hB hyI hb1 hbx hwx l0 b0 b1 b2 b3 b4 b5 b6 b7
      refine wpL_lasts ?_ ?_
      · refine wpL_X rfl (by rfl) ?_
        refine wp_val (v := .pointer (some ⟨g, k * 8, none⟩)) (by go_simp; rw [if_pos (by omega)]) ?_
        try simp only [Act.put, List.setIfInBounds_toArray, List.set_cons_zero, List.set_cons_succ]
        refine wpL_lasts ?_ ?_
        · refine wpL_X rfl (by rfl) ?_
          refine wp_skp (exec_store rfl rfl rfl HS1.out) ?_
          try simp only [Act.put, List.setIfInBounds_toArray, List.set_cons_zero, List.set_cons_succ]
          refine wpL_X rfl (by rfl) ?_
          refine wp_skp (exec_store rfl rfl rfl HV2.out) ?_
          try simp only [Act.put, List.setIfInBounds_toArray, List.set_cons_zero, List.set_cons_succ]
          refine wpL_nil ?_
          try go_simp
          try simp only [NoPanic]
          have xq := xA.out
          go_wp2
          go_ret
          exact ⟨ret_b (by simp), _, _, by rw [← HYt.out]; exact HA.out⟩
        · refine wpL_X rfl (by rfl) ?_
          refine wp_skp (exec_store rfl rfl rfl HV1.out) ?_
          try simp only [Act.put, List.setIfInBounds_toArray, List.set_cons_zero, List.set_cons_succ]
          refine wpL_X rfl (by rfl) ?_
          refine wp_skp (exec_store rfl rfl rfl HS2.out) ?_
          try simp only [Act.put, List.setIfInBounds_toArray, List.set_cons_zero, List.set_cons_succ]
          refine wpL_nil ?_
          try go_simp
          try simp only [NoPanic]
          have xq := xB.out
          go_wp2
          go_ret
          exact ⟨ret_b (by simp), _, _, by rw [← HYt.out]; exact HB.out⟩
      · refine wpL_X rfl (by rfl) ?_
        refine wp_skp (exec_store rfl rfl rfl HV1.out) ?_
        try simp only [Act.put, List.setIfInBounds_toArray, List.set_cons_zero, List.set_cons_succ]
        refine wpL_X rfl (by rfl) ?_
        refine wp_val (v := .pointer (some ⟨g, k * 8, none⟩)) (by go_simp; rw [if_pos (by omega)]) ?_
        try simp only [Act.put, List.setIfInBounds_toArray, List.set_cons_zero, List.set_cons_succ]
        refine wpL_X rfl (by rfl) ?_
        refine wp_skp (exec_store rfl rfl rfl HS2.out) ?_
        try simp only [Act.put, List.setIfInBounds_toArray, List.set_cons_zero, List.set_cons_succ]
        refine wpL_nil ?_
        try go_simp
        try simp only [NoPanic]
        have xq := xB.out
        go_wp2
        go_ret
        exact ⟨ret_b (by simp), _, _, by rw [← HYt.out]; exact HB.out⟩
    · refine wpL_C rfl (by rfl) ?_
      go_simp
      refine ⟨(Chg.refl _ _).alloc _, ?_⟩
      try simp only [Act.put, List.setIfInBounds_toArray, List.set_cons_zero, List.set_cons_succ]
      obtain ⟨wz, hwz⟩ : ∃ wz, (w0.alloc (.cells #[.int .i64 0, .int .u8 0, .int .i64 0, .string ⟨#[]⟩, .string ⟨#[]⟩, .string ⟨#[]⟩, .string ⟨#[]⟩, .slice none 0 0] 39)).drew = wz := ⟨_, rfl⟩
      try rw [hwz]
      have HBz : Hid (Below W.heap.size W wz) := by rw [← hwz]; exact (HB0.out.alloc HB0.out.size _).drew
      refine wpL_C rfl (by rfl) ?_
      go_simp
      refine (HCl.out _ HBz.out).mono ?_
      rintro e wa ⟨y, rfl, hyt, hyI, hb1⟩
      have HYt := Lib.hid hyt
      clear hyt
      refine ⟨below_chg hb1, ?_⟩
      try simp only [Act.put, List.setIfInBounds_toArray, List.set_cons_zero, List.set_cons_succ]
      have hbk : ∀ (j : Nat) u, zero8[j]? = some u → wa.cell? ⟨w0.heap.size, j, none⟩ = some u := fun j u hu => by
        refine (hb1.cell (p := ⟨w0.heap.size, j, none⟩) (by rw [← hwz]; show w0.heap.size < (w0.alloc _).heap.size; simp)).trans ?_
        rw [← hwz]
        show (w0.alloc _).cell? _ = _
        rw [World.cell?_alloc_at _ _ _ _ rfl]; simpa using hu
      have hWa : Below W.heap.size W wa := HBz.out.trans (hb1.mono HBz.out.size)
      have hyA : XIn (fun b => W.heap.size ≤ b ∧ b < wa.heap.size) wa n y := hyI.imp fun b hb => ⟨by have := HBz.out.size; omega, hb.2⟩
      have hm2 : wa.heap.size ≤ wa.heap.size := Nat.le_refl _
      have hm1 : W.heap.size ≤ wa.heap.size := hWa.size
      have hrow1 : wa.ownsRow (G + 1) 39 8 (.slice ac k cc) k (cellsOf cellsX L) := by rw [← HCv.out]; exact own_below HRow.out (Nat.le_refl _) hWa
      refine wpL_C rfl (by rfl) ?_
      refine wp_appG (.tmp 7) (.tmp 11) 37 rfl (G + 1) 39 i0 (.agg #[.int .i64 0, .int .u8 0, .int .i64 0, .string ⟨#[]⟩, .string ⟨#[]⟩, .string ⟨#[]⟩, .string ⟨#[]⟩, .slice none 0 0]) 8 112 1 Tryd.underlying37 hi hz0 rfl hz1 (by omega) hz2 (by omega) (.slice ac k cc) k _ zero8 wa hrow1 rfl (w0.heap.size) 1 hbk rfl one_Z rfl (by omega) (by have := HGl.out; have := hWa.size; omega) ?_
      intro v5 w5 hown5 hc5 hf5
      rw [HSv.out] at hc5
      refine ⟨hc5, ?_⟩
      try simp only [Act.put, List.setIfInBounds_toArray, List.set_cons_zero, List.set_cons_succ]
      have hPick := pick_both HP.out HCv.out HSS.out HLk.out hWa hyA hm1 hm2 hown5 hc5 hf5
      obtain ⟨g, cap, R, hv5, hGg, hcap, hstore, hvar, hA, hB, hbx⟩ := hPick
      subst hv5
      have hwx : wa.cell? ⟨W.heap.size, 0, none⟩ = some (.int .i64 x.t.lab.kd) := (hb1.cell (p := ⟨W.heap.size, 0, none⟩) (by have := HSz.out; rw [← hwz]; show W.heap.size < (w0.alloc _).heap.size; simp; omega)).trans (by rw [← hwz]; exact (((Below.refl w0.heap.size w0).alloc (Nat.le_refl _) _).cell (p := ⟨W.heap.size, 0, none⟩) (by have := HSz.out; show W.heap.size < w0.heap.size; omega)).trans HX.out.c0)
      have xA := Lib.hid ((World.cell?_of_block (a := ⟨W.heap.size, 0, none⟩) (hbx W.heap.size (Nat.le_refl _) (by have := HSz.out; have := hb1.size; have : w0.heap.size ≤ wz.heap.size := (by rw [← hwz]; show w0.heap.size ≤ (w0.alloc _).heap.size; simp); omega)).1).trans hwx)
      have xB := Lib.hid ((World.cell?_of_block (a := ⟨W.heap.size, 0, none⟩) (hbx W.heap.size (Nat.le_refl _) (by have := HSz.out; have := hb1.size; have : w0.heap.size ≤ wz.heap.size := (by rw [← hwz]; show w0.heap.size ≤ (w0.alloc _).heap.size; simp); omega)).2).trans hwx)
      have HA := Lib.hid hA
      have HB := Lib.hid hB
      have HS1 := Lib.hid (hstore w5 rfl)
      have HS2 := Lib.hid (hstore (w5.setRow G #[.slice (some ⟨g, 0, none⟩) (k + 1) cap]) (setRow_other w5 G g _ (by omega)))
      have HV1 := Lib.hid (hvar w5 rfl)
      have HV2 := Lib.hid (hvar (w5.setRow g R) (setRow_other w5 g G _ (by omega)))
      clear hbk hWa hyA hm2 hm1 hrow1 hown5 hc5 hf5 hstore hvar hA hB hyI hb1 hbx hwx l0 b0 b1 b2 b3 b4 b5 b6 b7
      refine wpL_lasts ?_ ?_
      · refine wpL_X rfl (by rfl) ?_
        refine wp_val (v := .pointer (some ⟨g, k * 8, none⟩)) (by go_simp; rw [if_pos (by omega)]) ?_
        try simp only [Act.put, List.setIfInBounds_toArray, List.set_cons_zero, List.set_cons_succ]
        refine wpL_lasts ?_ ?_
        · refine wpL_X rfl (by rfl) ?_
          refine wp_skp (exec_store rfl rfl rfl HS1.out) ?_
          try simp only [Act.put, List.setIfInBounds_toArray, List.set_cons_zero, List.set_cons_succ]
          refine wpL_X rfl (by rfl) ?_
          refine wp_skp (exec_store rfl rfl rfl HV2.out) ?_
          try simp only [Act.put, List.setIfInBounds_toArray, List.set_cons_zero, List.set_cons_succ]
          refine wpL_nil ?_
          try go_simp
          try simp only [NoPanic]
          have xq := xA.out
          go_wp2
          go_ret
          exact ⟨ret_b (by simp), _, _, by rw [← HYt.out]; exact HA.out⟩
        · refine wpL_X rfl (by rfl) ?_
          refine wp_skp (exec_store rfl rfl rfl HV1.out) ?_
          try simp only [Act.put, List.setIfInBounds_toArray, List.set_cons_zero, List.set_cons_succ]
          refine wpL_X rfl (by rfl) ?_
          refine wp_skp (exec_store rfl rfl rfl HS2.out) ?_
          try simp only [Act.put, List.setIfInBounds_toArray, List.set_cons_zero, List.set_cons_succ]
          refine wpL_nil ?_
          try go_simp
          try simp only [NoPanic]
          have xq := xB.out
          go_wp2
          go_ret
          exact ⟨ret_b (by simp), _, _, by rw [← HYt.out]; exact HB.out⟩
      · refine wpL_X rfl (by rfl) ?_
        refine wp_skp (exec_store rfl rfl rfl HV1.out) ?_
        try simp only [Act.put, List.setIfInBounds_toArray, List.set_cons_zero, List.set_cons_succ]
        refine wpL_X rfl (by rfl) ?_
        refine wp_val (v := .pointer (some ⟨g, k * 8, none⟩)) (by go_simp; rw [if_pos (by omega)]) ?_
        try simp only [Act.put, List.setIfInBounds_toArray, List.set_cons_zero, List.set_cons_succ]
        refine wpL_X rfl (by rfl) ?_
        refine wp_skp (exec_store rfl rfl rfl HS2.out) ?_
        try simp only [Act.put, List.setIfInBounds_toArray, List.set_cons_zero, List.set_cons_succ]
        refine wpL_nil ?_
        try go_simp
        try simp only [NoPanic]
        have xq := xB.out
        go_wp2
        go_ret
        exact ⟨ret_b (by simp), _, _, by rw [← HYt.out]; exact HB.out⟩
  · have hpk : pickL 6 x.t = [] := if_neg hk
    rw [hpk]
    have qk : (x.t.lab.kd == 6) = false := by simpa using hk
    have x0 := HX.out.c0
    have HN := Lib.hid (Picked.none hP HB0.out)
    clear hP h hall hpk hk hs0 HCl
    go_enter Tryd.func37, Tryd.ntmps37
    go_wp2
    go_ret
    exact ⟨ret_b (by rfl), _, _, HN.out⟩
end Go.Proofs.YtbnddpicpomakaaDoor

/- The walks of deep, right and what right calls; of Deep and Right. -/
set_option linter.unusedSimpArgs false
set_option linter.unusedVariables false
set_option maxRecDepth 100000
namespace Go.Proofs.YtbnddpicpomakaaDoor
open Go.RowKit

theorem int_max {a b c : Nat} (h : c = max a (1 + b)) : Value.int .i64 (if (a : Int) < 1 + (b : Int) then 1 + (b : Int) else (a : Int)) = .int .i64 (c : Int) := by
  subst h; congr 1; split <;> omega
theorem int_max2 {a b c : Nat} (h : c = max a (1 + b)) : Value.int .i64 (max (a : Int) (1 + (b : Int))) = .int .i64 (c : Int) := by
  subst h; congr 1; omega
set_option maxHeartbeats 2000000 in
theorem deep_any : ∀ (n : Nat) (x : XM) (w : World) (most : Nat), XAt w.heap.size w n x → 1 ≤ most → most ≤ 1000 →
    Calls Tryd.prog 41 #[x.v, .int .i64 (most : Int)] w fun e w' => e = .returned (.int .i64 ((min x.t.depth most : Nat) : Int)) ∧ Below w.heap.size w w'
  | 0, _, _, _, h, _, _ => h.elim
  | n + 1, ⟨t, a, cap⟩, w, most, h, hl1, hl2 => by
    rw [XM.v_eq]
    have HA := Lib.hid h
    have hlen := h.fair.2.1
    have hcap := h.fair.2.2
    simp only at hlen hcap ⊢
    obtain ⟨r, hr⟩ : ∃ r : Nat, min t.depth most = r := ⟨_, rfl⟩
    have HE := Lib.hid (depTo_end t most)
    have HFu := Lib.hid (fun k => @depTo_full t most k)
    rw [hr] at HE HFu ⊢
    clear hr
    obtain ⟨m, hm⟩ : ∃ m, t.args.length = m := ⟨_, rfl⟩
    rw [hm] at hlen
    have HM := Lib.hid hm
    have IH : Hid (∀ (y : XM) (W : World) (q : Nat), XAt W.heap.size W n y → 1 ≤ q → q ≤ 1000 → Calls Tryd.prog 41 #[.agg #[.int .i64 y.t.lab.kd, .int .u8 y.t.lab.v.k, .int .i64 y.t.lab.v.n, .string y.t.lab.v.s, .string y.t.lab.tb, .string y.t.lab.nm, .string y.t.lab.op, .slice y.a y.t.args.length y.cap], .int .i64 (q : Int)] W fun e w' => e = .returned (.int .i64 ((min y.t.depth q : Nat) : Int)) ∧ Below W.heap.size W w') := fun y W q hy hq hq2 => by
      have := deep_any n y W q hy hq hq2
      rw [XM.v_eq] at this; exact this
    rw [hm]
    have HS := Lib.hid (Slot8.new w 39 (.int .i64 t.lab.kd) (.int .u8 t.lab.v.k) (.int .i64 t.lab.v.n) (.string t.lab.v.s) (.string t.lab.tb) (.string t.lab.nm) (.string t.lab.op) (.slice a m cap))
    obtain ⟨w0, hw0⟩ : ∃ w0, w.alloc (.cells #[.int .i64 t.lab.kd, .int .u8 t.lab.v.k, .int .i64 t.lab.v.n, .string t.lab.v.s, .string t.lab.tb, .string t.lab.nm, .string t.lab.op, .slice a m cap] 39) = w0 := ⟨_, rfl⟩
    have HB0 : Hid (Below w.heap.size w w0) := by rw [← hw0]; exact (Below.refl _ w).alloc (Nat.le_refl _) _
    have hs0 : w.heap.size < w0.heap.size := by rw [← hw0]; simp
    rw [hw0] at HS
    have HQ : Hid (depTo t.args most 0 = 1) := by unfold depTo; simp [Hid, maxL]; omega
    clear h hm
    have HC := Lib.hid (fun k (hk : k < t.args.length) => @depTo_succ t.args most k hk)
    have HC3 := Lib.hid (depTo_le t.args most)
    have HC1 : Hid (∀ k, 1 ≤ depTo t.args most k) := fun k => by unfold depTo; omega
    generalize depTo t.args most = C at *
    obtain ⟨x0, x1, x2, x3, x4, x5, x6, x7⟩ := HS.out
    go_enter Tryd.func41, Tryd.ntmps41
    go_wp2
    clear x0 x1 x2 x3 x4 x5 x6 x7 HS
    go_loopw [5, 11] (fun c i wr => ∃ k : Nat, k ≤ m ∧ i = .int .i64 (k : Int) ∧ c = .int .i64 ((C k : Nat) : Int) ∧ Hid (Below w0.heap.size w0 wr)) (fun _ i _ => m - (intOf i).toNat)
    case atStart => exact ⟨0, by omega, rfl, by rw [HQ.out]; rfl, Below.refl _ _⟩
    case round =>
      obtain ⟨k, hk, rfl, rfl, HBr⟩ := hrel
      have hc3 := HC3.out k
      have HBw := Lib.hid (HB0.out.trans (HBr.out.mono HB0.out.size))
      by_cases hlt : k < m
      · obtain ⟨y, hy, hAy, b, o, hab, hbN, hKid⟩ := (HA.out.later HBw.out).kid8 (k := k) (by rw [HM.out]; exact hlt)
        simp only at hab
        subst hab
        obtain ⟨y0, y1, y2, y3, y4, y5, y6, y7⟩ := hKid
        by_cases hlc : C k = most
        · have q1 : ((C k : Int) == (most : Int)) = true := by simp; omega
          have HR : Hid (most = r) := (HFu.out k hlc).symm
          go_wp2
          go_ret
          exact ⟨ret_k HR.out, HBw.out.trans (((Below.refl _ wr).alloc (Nat.le_refl _) _).mono HBw.out.size)⟩
        · have q1 : ((C k : Int) == (most : Int)) = false := by simp; omega
          have HCk := HC.out k (by rw [HM.out]; exact hlt) hlc
          rw [← hy] at HCk
          have hm2 : 2 ≤ most ∧ C k < most := by
            have := HC1.out k
            omega
          have HCk := Lib.hid HCk
          obtain ⟨q, rfl⟩ : ∃ q, most = q + 1 := ⟨most - 1, by omega⟩
          have HY := Lib.hid (fun W (hb : Below wr.heap.size wr W) => IH.out y W q (RoseAt.later hAy hb) (by omega) (by omega))
          have hq1 : IntKind.i64.wrap (((q + 1 : Nat) : Int) - 1) = (q : Int) := by rw [show ((q + 1 : Nat) : Int) - 1 = (q : Int) by omega]; exact IntWalk.i64_in _ (by omega)
          rw [show q + 1 - 1 = q by omega] at HCk
          obtain ⟨d, hd⟩ : ∃ d, min y.t.depth q = d := ⟨_, rfl⟩
          have hdq : d ≤ q := by omega
          rw [hd] at HCk
          have HY2 : Hid (∀ W, Below wr.heap.size wr W → Calls Tryd.prog 41 #[.agg #[.int .i64 y.t.lab.kd, .int .u8 y.t.lab.v.k, .int .i64 y.t.lab.v.n, .string y.t.lab.v.s, .string y.t.lab.tb, .string y.t.lab.nm, .string y.t.lab.op, .slice y.a y.t.args.length y.cap], .int .i64 (q : Int)] W fun e w' => e = .returned (.int .i64 (d : Int)) ∧ Below W.heap.size W w') := fun W hb => by have := HY.out W hb; rw [hd] at this; exact this
          clear hy hAy HA IH HFu HE HY hd hm2
          generalize hQ : ((q + 1 : Nat) : Int) = Q at *
          go_wp2_with fail
          refine (HY2.out _ ((Below.refl _ _).alloc (Nat.le_refl _) _)).mono ?_
          rintro e w2 ⟨rfl, hb2⟩
          have HB2 := Lib.hid (HBr.out.trans ((((Below.refl _ wr).alloc (Nat.le_refl _) _).trans (hb2.mono (by simp))).mono HBr.out.size))
          clear hb2 HY2 y0 y1 y2 y3 y4 y5 y6 y7
          go_wp2
          go_roundw
          case rel => exact ⟨k + 1, by omega, by go_num, (by first | exact int_max HCk.out | exact int_max2 HCk.out), HB2.out⟩
          case measure => simp [intOf]; omega
      · have q0 : decide (k < m) = false := by simpa using hlt
        have HR : Hid (C k = r) := by rw [show k = m by omega, ← HM.out]; exact HE.out
        go_wp2
        go_ret
        exact ⟨ret_k HR.out, HBw.out⟩

theorem Deep_any (n : Nat) (x : XM) (w : World) (h : XAt w.heap.size w n x) :
    Calls Tryd.prog 21 #[x.v] w fun e w' => e = .returned (.int .i64 ((min x.t.depth 21 : Nat) : Int)) ∧ Below w.heap.size w w' := by
  have HD := Lib.hid (fun W (hb : Below w.heap.size w W) => deep_any n x W 21 (h.later hb) (by omega) (by omega))
  have HX := Lib.hid (Slot8.new w 39 (.int .i64 x.t.lab.kd) (.int .u8 x.t.lab.v.k) (.int .i64 x.t.lab.v.n) (.string x.t.lab.v.s) (.string x.t.lab.tb) (.string x.t.lab.nm) (.string x.t.lab.op) (.slice x.a x.t.args.length x.cap))
  have HB0 : Hid (∀ o, Below w.heap.size w (w.alloc o)) := fun o => (Below.refl _ w).alloc (Nat.le_refl _) _
  rw [XM.v_eq] at HD ⊢
  generalize min x.t.depth 21 = d at *
  clear h
  obtain ⟨x0, x1, x2, x3, x4, x5, x6, x7⟩ := HX.out
  go_enter Tryd.func21, Tryd.ntmps21
  go_wp2_with fail
  refine (HD.out _ (HB0.out _)).mono ?_
  rintro e w1 ⟨rfl, hb1⟩
  have HB1 := Lib.hid ((HB0.out _).trans (hb1.mono (Nat.le_of_lt (box8 _ _))))
  clear hb1 x0 x1 x2 x3 x4 x5 x6 x7
  go_wp2
  go_ret
  exact ⟨rfl, HB1.out⟩
end Go.Proofs.YtbnddpicpomakaaDoor
