/- A region that draws its order and in which several chains of operations run side by side: each chain is walked by itself, in worlds that may have gone on between its steps; what the chains told is put together behind them. -/
import Derived.Test.YtockmoiekbhneaaFoot
namespace Go.Proofs.Ytockmoiekbhneaa
open Go.RowKit

/-- What operations left in their slots. -/
abbrev Outs := List (Option Tmp × Value)
def puts (a : Act) (M : Outs) : Act := M.foldl (fun a p => a.put p.1 p.2) a
theorem puts_nil (a : Act) : puts a [] = a := rfl
theorem puts_cons (a : Act) (p : Option Tmp × Value) (M : Outs) : puts a (p :: M) = puts (a.put p.1 p.2) M := rfl
theorem puts_app (a : Act) (M N : Outs) : puts a (M ++ N) = puts (puts a M) N := by unfold puts; rw [List.foldl_append]
theorem puts_put : ∀ (M : Outs) (a : Act) (x : Option Tmp) (v : Value), (∀ p ∈ M, ∀ d, p.1 = some d → x ≠ some d) → puts (a.put x v) M = (puts a M).put x v
  | [], _, _, _, _ => rfl
  | p :: M, a, x, v, h => by
    rw [puts_cons, puts_cons, Act.put_comm a (x := x) (y := p.1) v p.2 (fun d hd hp => h p (List.mem_cons_self) d hp hd)]
    exact puts_put M _ x v fun q hq => h q (List.mem_cons_of_mem _ hq)
def Dj (M N : Outs) : Prop := ∀ p ∈ M, ∀ q ∈ N, ∀ d, p.1 = some d → q.1 ≠ some d
theorem puts_swap (M : Outs) : ∀ (N : Outs) (a : Act), Dj M N → puts (puts a M) N = puts (puts a N) M
  | [], _, _ => rfl
  | q :: N, a, h => by
    rw [puts_cons, puts_cons, ← puts_put M a q.1 q.2 (fun p hp d hd => h p hp q (List.mem_cons_self) d hd)]
    exact puts_swap M N _ fun p hp r hr => h p hp r (List.mem_cons_of_mem _ hr)

section
variable {P : Program} {ops : Array Oper} {Q : Exit → Act → World → Prop} {md : Region.Mode} {L : World → World → Prop}

theorem exec_puts (o : Oper) (hs : ∀ cs b, o.op ≠ .select cs b) : ∀ (M : Outs) (a : Act), (∀ p ∈ M, ∀ d, p.1 = some d → d ∉ o.looksAt ops) → execOp (puts a M).eval o = execOp a.eval o
  | [], _, _ => rfl
  | p :: M, a, h => by
    rw [puts_cons, exec_puts o hs M _ fun q hq => h q (List.mem_cons_of_mem _ hq)]
    exact execOp_put o hs a p.1 p.2 fun d hd => h p (List.mem_cons_self) d hd
theorem wanted_puts (o : Oper) : ∀ (M : Outs) (a : Act), (∀ p ∈ M, ∀ d, p.1 = some d → d ∉ o.looksAt ops) → Region.wanted o (yielded ops (puts a M).tmps) = Region.wanted o (yielded ops a.tmps)
  | [], _, _ => rfl
  | p :: M, a, h => by
    rw [puts_cons, wanted_puts o M _ fun q hq => h q (List.mem_cons_of_mem _ hq)]
    exact wanted_put o a p.1 p.2 fun d hd => h p (List.mem_cons_self) d hd
theorem puts_defers : ∀ (M : Outs) (a : Act) (d : Deferred), ({ puts a M with defers := d :: (puts a M).defers } : Act) = puts { a with defers := d :: a.defers } M
  | [], _, _ => rfl
  | p :: M, a, d => by
    rw [puts_cons, puts_cons, puts_defers M]
    rw [Act.put_defers]

/-- An operation does not see what lies in slots that it neither reads nor writes. -/
theorem wp_puts {o : Oper} (hs : ∀ cs b, o.op ≠ .select cs b) (M : Outs) (a : Act) (w : World) (h1 : ∀ p ∈ M, ∀ d, p.1 = some d → d ∉ o.looksAt ops) (h2 : ∀ p ∈ M, ∀ d, p.1 = some d → o.dst ≠ some d) {K : Act → World → Prop}
    (h : o.wp P a w (fun a' w' => K (puts a' M) w') (NoPanic Q)) : o.wp P (puts a M) w K (NoPanic Q) := by
  unfold Oper.wp at *
  rw [exec_puts (ops := ops) o hs M a h1]
  generalize (execOp a.eval o).run P w = r at *
  cases r with
  | ok n w' =>
    cases n <;> simp only [Oper.upon] at h ⊢
    case value u => rw [← puts_put M a _ _ h2]; exact h
    case skip => rw [← puts_put M a _ _ h2]; exact h
    case defer d => rw [puts_defers, ← puts_put M _ _ _ h2]; exact h
    case enter f args =>
      refine Calls.mono h fun e w'' he => ?_
      cases e with
      | returned u =>
        show K ((puts a M).put o.dst u) w''
        rw [← puts_put M a _ _ h2]; exact he
      | panicked c => exact he
      | outgrown => exact he
    case row row args => exact Rows.mono h fun u w'' he => by rw [← puts_put M a _ _ h2]; exact he
  | halt x w' =>
    cases x <;> simp only [Oper.upon] at h ⊢
    case panic u => exact h

/-- A chain: each of its steps is walked in whatever later world; at its end E holds of what it told, also in later worlds. -/
def Rob (P : Program) (ops : Array Oper) (Q : Exit → Act → World → Prop) (L : World → World → Prop) (a : Act) : List Nat → Outs → (Outs → World → Prop) → World → Prop
  | [], l, E, w => ∀ w', L w w' → E l w'
  | i :: r, l, E, w => ∀ w', L w w' → ∃ o, ops[i]? = some o ∧
      ((Region.wanted o (yielded ops (puts a l).tmps) = true ∧ o.wp P (puts a l) w' (fun a' w'' => L w' w'' ∧ ∃ v, a' = (puts a l).put o.dst v ∧ Rob P ops Q L a r (l ++ [(o.dst, v)]) E w'') Q) ∨
       (Region.wanted o (yielded ops (puts a l).tmps) = false ∧ Rob P ops Q L a r (l ++ [(o.dst, undef)]) E w'))
theorem Rob.later (Lt : ∀ {a b c}, L a b → L b c → L a c) {a : Act} {t : List Nat} {l : Outs} {E : Outs → World → Prop} {w w' : World} (h : Rob P ops Q L a t l E w) (hL : L w w') : Rob P ops Q L a t l E w' := by
  cases t with
  | nil => exact fun w2 h2 => h w2 (Lt hL h2)
  | cons i r => exact fun w2 h2 => h w2 (Lt hL h2)

/-- A chain on its way. -/
structure Ch where
  all : List Nat
  todo : List Nat
  out : Outs
  E : Outs → World → Prop

def Ch.Fine (ops : Array Oper) (c : Ch) : Prop := (∀ i ∈ c.todo, i ∈ c.all) ∧ ∀ p ∈ c.out, ∃ i ∈ c.all, ∃ o, ops[i]? = some o ∧ p.1 = o.dst
def apartB (ops : Array Oper) (i j : Nat) : Bool := match ops[i]?, ops[j]? with
  | some x, some y => x.apart ops y
  | _, _ => true
def sideB (ops : Array Oper) (c d : List Nat) : Bool := c.all fun i => d.all fun j => apartB ops i j
def pairB (ops : Array Oper) : List (List Nat) → Bool
  | [] => true
  | c :: r => r.all (sideB ops c) && pairB ops r
theorem sideB_spec {c d : List Nat} (h : sideB ops c d = true) {i j : Nat} (hi : i ∈ c) (hj : j ∈ d) {x y : Oper} (hx : ops[i]? = some x) (hy : ops[j]? = some y) : x.apart ops y = true := by
  unfold sideB at h
  have := List.all_eq_true.1 (List.all_eq_true.1 h i hi) j hj
  unfold apartB at this
  rw [hx, hy] at this
  exact this
/-- Chains that lie beside each other. -/
def Beside (ops : Array Oper) (c d : Ch) : Prop := ∀ i ∈ c.all, ∀ j ∈ d.all, ∀ x y, ops[i]? = some x → ops[j]? = some y → (∀ t, x.dst = some t → t ∉ y.looksAt ops) ∧ (∀ t, x.dst = some t → y.dst ≠ some t) ∧ (∀ t, y.dst = some t → t ∉ x.looksAt ops)
theorem Beside.symm {c d : Ch} (h : Beside ops c d) : Beside ops d c := fun i hi j hj x y hx hy => by
  obtain ⟨h1, h2, h3⟩ := h j hj i hi y x hy hx
  exact ⟨h3, fun t ht he => h2 t he ht, h1⟩
theorem beside_of : ∀ {cs : List Ch}, pairB ops (cs.map Ch.all) = true → cs.Pairwise (Beside ops)
  | [], _ => List.Pairwise.nil
  | c :: r, h => by
    simp only [List.map_cons, pairB, Bool.and_eq_true] at h
    refine List.Pairwise.cons (fun d hd i hi j hj x y hx hy => ?_) (beside_of h.2)
    exact Oper.apart_spec (sideB_spec (List.all_eq_true.1 h.1 d.all (List.mem_map_of_mem hd)) hi hj hx hy)

def checkP (md : Region.Mode) (ops : Array Oper) (fin : Array Bool → Bool) : Nat → List (List Nat) → Array Bool → Bool
  | 0, ts, l => ts.all List.isEmpty && fin l
  | f + 1, ts, l => if ts.all List.isEmpty then fin l else
      Region.ready md ops l != [] && (Region.ready md ops l).all fun i => (List.range ts.length).any fun c => match ts[c]? with
        | some (j :: t) => j == i && checkP md ops fin f (ts.set c t) (l.setIfInBounds i true)
        | _ => false

def Told : List Ch → List Outs → World → Prop
  | [], [], _ => True
  | c :: cs, o :: os, w => c.E o w ∧ Told cs os w
  | _, _, _ => False

theorem told_done (Lr : ∀ w, L w w) {a : Act} : ∀ {cs : List Ch} {w : World}, (∀ c ∈ cs, Rob P ops Q L a c.todo c.out c.E w) → (cs.map Ch.todo).all List.isEmpty = true → Told cs (cs.map Ch.out) w
  | [], _, _, _ => trivial
  | c :: cs, w, h, he => by
    simp only [List.map_cons, List.all_cons, Bool.and_eq_true] at he
    refine ⟨?_, told_done Lr (fun d hd => h d (List.mem_cons_of_mem _ hd)) he.2⟩
    have h1 := h c List.mem_cons_self
    have : c.todo = [] := by simpa using he.1
    rw [this] at h1
    exact h1 w (Lr w)

theorem set_at {α : Type} : ∀ {l : List α} {k : Nat} {x : α}, l[k]? = some x → ∃ p s, l = p ++ x :: s ∧ p.length = k
  | [], _, _, h => by simp at h
  | y :: r, 0, x, h => by simp at h; subst h; exact ⟨[], r, rfl, rfl⟩
  | y :: r, k + 1, x, h => by
    obtain ⟨p, s, h1, h2⟩ := set_at (l := r) (k := k) (x := x) (by simpa using h)
    exact ⟨y :: p, s, by rw [h1]; rfl, by simp [h2]⟩
theorem told_map {E : Ch → Ch} : ∀ {cs ds : List Ch} {os : List Outs} {w : World}, cs.map Ch.E = ds.map Ch.E → Told cs os w → Told ds os w
  | [], [], _, _, _, h => h
  | [], _ :: _, _, _, he, _ => by simp at he
  | _ :: _, [], _, _, he, _ => by simp at he
  | c :: cs, d :: ds, [], _, _, h => h.elim
  | c :: cs, d :: ds, o :: os, w, he, h => by
    simp only [List.map_cons, List.cons.injEq] at he
    exact ⟨he.1 ▸ h.1, told_map (E := E) he.2 h.2⟩

theorem par_sound (Lr : ∀ w, L w w) (Lt : ∀ {a b c}, L a b → L b c → L a c) (hs : Region.noSelect ops = true) (a : Act) (fin : Array Bool → Bool) (n : Nat) :
    ∀ (f : Nat) (cs : List Ch) (l : Array Bool) (w : World), (∀ c ∈ cs, c.Fine ops) → cs.Pairwise (Beside ops) → (∀ c ∈ cs, Rob P ops (NoPanic Q) L a c.todo c.out c.E w) → checkP md ops fin f (cs.map Ch.todo) l = true →
      (∀ l' os w' m, n ≤ m → fin l' = true → L w w' → Told cs os w' → wpAnyH P md ops (NoPanic Q) (L w') m l' (puts a os.flatten) w') →
      wpAnyH P md ops (NoPanic Q) (L w) (f + n) l (puts a (cs.map Ch.out).flatten) w
  | 0, cs, l, w, _, _, hr, hc, hrest => by
    simp only [checkP, Bool.and_eq_true] at hc
    exact hrest l _ w _ (by omega) hc.2 (Lr w) (told_done Lr hr hc.1)
  | f + 1, cs, l, w, hf, hp, hr, hc, hrest => by
    by_cases he : (cs.map Ch.todo).all List.isEmpty = true
    · simp only [checkP, he, if_true] at hc
      exact hrest l _ w _ (by omega) hc (Lr w) (told_done Lr hr he)
    · simp only [checkP, he, if_false, Bool.and_eq_true, Bool.false_eq_true] at hc
      obtain ⟨hne, hall⟩ := hc
      have e1 : f + 1 + n = (f + n) + 1 := by omega
      rw [e1]
      refine wpAnyH_all (rs := Region.ready md ops l) rfl (by simpa using hne) ?_
      intro i hi
      have h1 := List.all_eq_true.1 hall i hi
      obtain ⟨k, _, hk⟩ := List.any_eq_true.1 h1
      cases hck : cs[k]? with
      | none => rw [List.getElem?_map, hck] at hk; simp at hk
      | some c =>
        rw [List.getElem?_map, hck] at hk
        simp only [Option.map_some] at hk
        cases ht : c.todo with
        | nil => rw [ht] at hk; simp at hk
        | cons j t =>
          rw [ht] at hk
          simp only [Bool.and_eq_true, beq_iff_eq] at hk
          obtain ⟨rfl, hk⟩ := hk
          obtain ⟨ps, ss, hcs, hpl⟩ := set_at hck
          have hcm : c ∈ cs := by rw [hcs]; simp
          have hrc := hr c hcm
          rw [ht] at hrc
          obtain ⟨o, ho, hw⟩ := hrc w (Lr w)
          have hjall : j ∈ c.all := (hf c hcm).1 j (by rw [ht]; exact List.mem_cons_self)
          have hsel := Region.noSelect_spec hs j o
          have hsel2 : ∀ cs b, o.op ≠ .select cs b := fun x b => hsel x b ho
          rw [hcs] at hp
          have hp2 := List.pairwise_append.1 hp
          have hbes : ∀ d ∈ ps ++ ss, Beside ops d c := by
            intro d hd
            rcases List.mem_append.1 hd with hd | hd
            · exact hp2.2.2 d hd c List.mem_cons_self
            · exact ((List.pairwise_cons.1 hp2.2.1).1 d hd).symm
          obtain ⟨M, hM⟩ : ∃ M, M = (ps.map Ch.out).flatten ++ (ss.map Ch.out).flatten := ⟨_, rfl⟩
          have hMm : ∀ p ∈ M, ∃ d ∈ ps ++ ss, p ∈ d.out := by
            intro p hpm
            rw [hM] at hpm
            rcases List.mem_append.1 hpm with h | h
            · obtain ⟨x, hx, hpx⟩ := List.mem_flatten.1 h
              obtain ⟨d, hd, rfl⟩ := List.mem_map.1 hx
              exact ⟨d, List.mem_append_left _ hd, hpx⟩
            · obtain ⟨x, hx, hpx⟩ := List.mem_flatten.1 h
              obtain ⟨d, hd, rfl⟩ := List.mem_map.1 hx
              exact ⟨d, List.mem_append_right _ hd, hpx⟩
          have hin : ∀ d ∈ ps ++ ss, d ∈ cs := by
            intro d hd
            rw [hcs]
            rcases List.mem_append.1 hd with h | h
            · exact List.mem_append_left _ h
            · exact List.mem_append_right _ (List.mem_cons_of_mem _ h)
          have hMo : ∀ p ∈ M, ∃ d ∈ ps ++ ss, ∃ i ∈ d.all, ∃ x, ops[i]? = some x ∧ p.1 = x.dst := by
            intro p hpm
            obtain ⟨d, hd, hpd⟩ := hMm p hpm
            obtain ⟨i, hi, x, hx, hpx⟩ := (hf d (hin d hd)).2 p hpd
            exact ⟨d, hd, i, hi, x, hx, hpx⟩
          have hlook : ∀ p ∈ M, ∀ t, p.1 = some t → t ∉ o.looksAt ops := by
            intro p hpm t ht
            obtain ⟨d, hd, i, hi, x, hx, hpx⟩ := hMo p hpm
            exact (hbes d hd i hi j hjall x o hx ho).1 t (by rw [← hpx]; exact ht)
          have hdst : ∀ p ∈ M, ∀ t, p.1 = some t → o.dst ≠ some t := by
            intro p hpm t ht
            obtain ⟨d, hd, i, hi, x, hx, hpx⟩ := hMo p hpm
            exact (hbes d hd i hi j hjall x o hx ho).2.1 t (by rw [← hpx]; exact ht)
          -- what the chain told lies apart from what the others told
          have hdj : ∀ N : Outs, (∀ p ∈ N, ∃ i ∈ c.all, ∃ x, ops[i]? = some x ∧ p.1 = x.dst) → Dj (ps.map Ch.out).flatten N := by
            intro N hN p hpm q hq t ht
            obtain ⟨d, hd, i, hi, x, hx, hpx⟩ := hMo p (by rw [hM]; exact List.mem_append_left _ hpm)
            obtain ⟨i2, hi2, y, hy, hqy⟩ := hN q hq
            rw [hqy]
            exact (hbes d hd i hi i2 hi2 x y hx hy).2.1 t (by rw [← hpx]; exact ht)
          have hbig : ∀ N : Outs, (∀ p ∈ N, ∃ i ∈ c.all, ∃ x, ops[i]? = some x ∧ p.1 = x.dst) → puts a ((ps.map Ch.out).flatten ++ (N ++ (ss.map Ch.out).flatten)) = puts (puts a N) M := by
            intro N hN
            rw [puts_app, puts_app, puts_swap _ N a (hdj N hN), hM, puts_app]
          have hout := (hf c hcm).2
          have hflat : (cs.map Ch.out).flatten = (ps.map Ch.out).flatten ++ (c.out ++ (ss.map Ch.out).flatten) := by rw [hcs]; simp
          rw [hflat, hbig c.out hout]
          -- the state behind the step
          have hstep : ∀ v w2, L w w2 → Rob P ops (NoPanic Q) L a t (c.out ++ [(o.dst, v)]) c.E w2 → wpAnyH P md ops (NoPanic Q) (L w) (f + n) (l.setIfInBounds j true) ((puts (puts a c.out) M).put o.dst v) w2 := by
            intro v w2 hL hR
            obtain ⟨c', hc'⟩ : ∃ c' : Ch, c' = ⟨c.all, t, c.out ++ [(o.dst, v)], c.E⟩ := ⟨_, rfl⟩
            have hN : ∀ p ∈ c.out ++ [(o.dst, v)], ∃ i ∈ c.all, ∃ x, ops[i]? = some x ∧ p.1 = x.dst := by
              intro p hpm
              rcases List.mem_append.1 hpm with h | h
              · exact hout p h
              · simp only [List.mem_singleton] at h
                subst h
                exact ⟨j, hjall, o, ho, rfl⟩
            have hact : (puts (puts a c.out) M).put o.dst v = puts a ((ps ++ c' :: ss).map Ch.out).flatten := by
              have : ((ps ++ c' :: ss).map Ch.out).flatten = (ps.map Ch.out).flatten ++ ((c.out ++ [(o.dst, v)]) ++ (ss.map Ch.out).flatten) := by rw [hc']; simp
              rw [this, hbig _ hN, puts_app]
              exact (puts_put M (puts a c.out) o.dst v hdst).symm
            rw [hact]
            refine wpAnyH_stronger (fun x hx => Lt hL hx) _ _ _ _ (par_sound Lr Lt hs a fin n f (ps ++ c' :: ss) (l.setIfInBounds j true) w2 ?_ ?_ ?_ ?_ ?_)
            · intro d hd
              rcases List.mem_append.1 hd with h | h
              · exact hf d (hin d (List.mem_append_left _ h))
              · rcases List.mem_cons.1 h with h | h
                · rw [h, hc']
                  exact ⟨fun i hi => (hf c hcm).1 i (by rw [ht]; exact List.mem_cons_of_mem _ hi), hN⟩
                · exact hf d (hin d (List.mem_append_right _ h))
            · refine List.pairwise_append.2 ⟨hp2.1, List.pairwise_cons.2 ⟨fun d hd => ?_, (List.pairwise_cons.1 hp2.2.1).2⟩, fun d hd e he => ?_⟩
              · have := (List.pairwise_cons.1 hp2.2.1).1 d hd
                intro i hi
                exact this i (by rw [hc'] at hi; exact hi)
              · rcases List.mem_cons.1 he with h | h
                · have := hp2.2.2 d hd c List.mem_cons_self
                  intro i hi j2 hj2
                  exact this i hi j2 (by rw [h, hc'] at hj2; exact hj2)
                · exact hp2.2.2 d hd e (List.mem_cons_of_mem _ h)
            · intro d hd
              rcases List.mem_append.1 hd with h | h
              · exact Rob.later (L := L) (w := w) (w' := w2) (fun h1 h2 => Lt h1 h2) (hr d (hin d (List.mem_append_left _ h))) hL
              · rcases List.mem_cons.1 h with h | h
                · rw [h, hc']; exact hR
                · exact Rob.later (L := L) (w := w) (w' := w2) (fun h1 h2 => Lt h1 h2) (hr d (hin d (List.mem_append_right _ h))) hL
            · have : (ps ++ c' :: ss).map Ch.todo = (cs.map Ch.todo).set k t := by
                rw [hcs, List.map_append, List.map_append, List.set_append_right _ _ (by rw [List.length_map]; omega), List.length_map, hpl, Nat.sub_self, hc']
                rfl
              rw [this]; exact hk
            · intro l' os w' m hm hfin hL' hT
              exact hrest l' os w' m hm hfin (Lt hL hL') (told_map (E := id) (by rw [hcs, hc']; simp) hT)
          unfold wpOp
          simp only [ho]
          rw [wanted_puts o M _ hlook]
          rcases hw with ⟨hw, hwp⟩ | ⟨hw, hR⟩
          · rw [if_pos hw]
            refine .inl (wp_puts hsel2 M _ w hlook hdst (Oper.wp_mono ?_ hwp))
            rintro a' w2 ⟨hL, v, rfl, hR⟩
            rw [puts_put M _ _ _ hdst]
            exact ⟨hL, hstep v w2 hL hR⟩
          · rw [hw]
            exact ⟨Lr w, hstep undef w (Lr w) hR⟩
/-- An order with chains side by side. -/
inductive It where
  | f : Nat → It
  | c : Nat → It
  | p : List (List Nat) → It
def total (cs : List (List Nat)) : Nat := (cs.map List.length).sum
def It.len : It → Nat
  | .f _ => 1
  | .c _ => 1
  | .p cs => total cs
def lenI (l : List It) : Nat := (l.map It.len).sum

def TellAll : List (Outs → World → Prop) → List Outs → World → Prop
  | [], [], _ => True
  | E :: es, o :: os, w => E o w ∧ TellAll es os w
  | _, _, _ => False

def wpP (P : Program) (ops : Array Oper) (Q : Exit → Act → World → Prop) (L : World → World → Prop) : List It → Act → World → Prop
  | [], a, w => Q .normal a w
  | .f i :: r, a, w => ∃ o v, ops[i]? = some o ∧ YieldsIf P ops (L w) o v a ∧ wpP P ops Q L r (a.put o.dst v) w
  | .c i :: r, a, w => wpOp P ops Q i (fun a' w' => L w w' ∧ wpP P ops Q L r a' w') a w
  | .p cs :: r, a, w => ∃ es : List (Outs → World → Prop), es.length = cs.length ∧ (∀ c ∈ cs.zip es, Rob P ops Q L a c.1 [] c.2 w) ∧ ∀ os w', L w w' → TellAll es os w' → wpP P ops Q L r (puts a os.flatten) w'

def checkI (md : Region.Mode) (ops : Array Oper) : List It → Array Bool → Bool
  | [], l => Region.ready md ops l == []
  | .f i :: r, l => Region.free md ops l i && (Region.ready md ops l).contains i && checkI md ops r (l.setIfInBounds i true)
  | .c i :: r, l => Region.ready md ops l == [i] && checkI md ops r (l.setIfInBounds i true)
  | .p cs :: r, l => pairB ops cs && checkP md ops (checkI md ops r) (total cs) cs l

def mkC (c : List Nat × (Outs → World → Prop)) : Ch := ⟨c.1, c.1, [], c.2⟩
theorem zip_fst {α β : Type} : ∀ {l : List α} {m : List β}, m.length = l.length → (l.zip m).map Prod.fst = l
  | [], _, _ => rfl
  | _ :: _, [], h => by simp at h
  | _ :: l, _ :: m, h => by simp [zip_fst (l := l) (m := m) (by simpa using h)]
theorem told_tell : ∀ {cs : List (List Nat)} {es : List (Outs → World → Prop)} {os : List Outs} {w : World}, es.length = cs.length → Told ((cs.zip es).map mkC) os w → TellAll es os w
  | [], [], [], _, _, _ => trivial
  | [], [], _ :: _, _, _, h => h.elim
  | [], _ :: _, _, _, h, _ => by simp at h
  | _ :: _, [], _, _, h, _ => by simp at h
  | _ :: _, _ :: _, [], _, _, h => h.elim
  | c :: cs, e :: es, o :: os, w, hl, h => ⟨h.1, told_tell (cs := cs) (es := es) (by simpa using hl) h.2⟩

theorem wpP_sound (Lr : ∀ w, L w w) (Lt : ∀ {a b c}, L a b → L b c → L a c) (hs : Region.noSelect ops = true) :
    ∀ (ord : List It) (fuel : Nat) (l : Array Bool) (a : Act) (w : World), lenI ord ≤ fuel → checkI md ops ord l = true → wpP P ops (NoPanic Q) L ord a w → wpAnyH P md ops (NoPanic Q) (L w) fuel l a w
  | [], fuel, l, a, w, _, hc, h => wpAnyH_done (by simpa [checkI] using hc) h fuel
  | .f i :: r, fuel, l, a, w, hf, hc, h => by
    obtain ⟨o, v, ho, hy, h⟩ := h
    simp only [checkI, Bool.and_eq_true] at hc
    simp only [lenI, List.map_cons, List.sum_cons, It.len] at hf
    cases fuel with
    | zero => omega
    | succ fuel =>
      exact wpAnyH_take ho hs hc.1.1 hc.1.2 (fun c a w => NoPanic.put Q c a o.dst v w) hy (Lr w) (wpP_sound Lr Lt hs r fuel _ _ w (by unfold lenI; omega) hc.2 h)
  | .c i :: r, fuel, l, a, w, hf, hc, h => by
    simp only [checkI, Bool.and_eq_true, beq_iff_eq] at hc
    simp only [lenI, List.map_cons, List.sum_cons, It.len] at hf
    cases fuel with
    | zero => omega
    | succ fuel =>
      refine wpAnyH_all (rs := [i]) hc.1 (by simp) ?_
      intro j hj
      rw [List.mem_singleton.1 hj]
      exact wpOp_mono (fun a' w' h' => ⟨h'.1, wpAnyH_stronger (fun x hx => Lt h'.1 hx) fuel _ _ _ (wpP_sound Lr Lt hs r fuel _ a' w' (by unfold lenI; omega) hc.2 h'.2)⟩) h
  | .p cs :: r, fuel, l, a, w, hf, hc, h => by
    obtain ⟨es, hl, hr, hrest⟩ := h
    simp only [checkI, Bool.and_eq_true] at hc
    simp only [lenI, List.map_cons, List.sum_cons, It.len] at hf
    have e1 : fuel = total cs + (fuel - total cs) := by omega
    have em : ((cs.zip es).map mkC).map Ch.all = cs := by
      rw [List.map_map]
      exact (List.map_congr_left fun c _ => rfl).trans (zip_fst hl)
    have et : ((cs.zip es).map mkC).map Ch.todo = cs := by
      rw [List.map_map]
      exact (List.map_congr_left fun c _ => rfl).trans (zip_fst hl)
    have eo : (((cs.zip es).map mkC).map Ch.out).flatten = [] := by
      rw [List.map_map]
      apply List.eq_nil_iff_forall_not_mem.2
      intro x hx
      obtain ⟨y, hy, hxy⟩ := List.mem_flatten.1 hx
      obtain ⟨c, _, rfl⟩ := List.mem_map.1 hy
      cases hxy
    have := par_sound (P := P) (ops := ops) (Q := Q) (md := md) Lr Lt hs a (checkI md ops r) (fuel - total cs) (total cs) ((cs.zip es).map mkC) l w ?_ (beside_of (by rw [em]; exact hc.1)) ?_ (by rw [et]; exact hc.2) ?_
    · rw [eo, puts_nil, ← e1] at this; exact this
    · intro c hc'
      obtain ⟨x, _, rfl⟩ := List.mem_map.1 hc'
      exact ⟨fun i hi => hi, fun p hp => by cases hp⟩
    · intro c hc'
      obtain ⟨x, hx, rfl⟩ := List.mem_map.1 hc'
      exact hr x hx
    · intro l' os w' m hm hfin hL hT
      exact wpP_sound Lr Lt hs r m l' _ w' (by unfold lenI; omega) hfin (hrest os w' hL (told_tell hl hT))

/-- The beginning, where blocks S may be written. -/
theorem wp_region_par {id : Nat} {a : Act} {w : World} (S : List Nat) (ord : List It) (hm : P.follows .mixedOrders = true) (hs : Region.noSelect ops = true)
    (hl : decide (lenI ord ≤ ops.size) = true) (hc : checkI .any ops ord (Array.replicate ops.size false) = true) (h : wpP P ops (NoPanic Q) (Chg S) ord a w.drew) : (Code.region id ops true).wp P Q a w :=
  wp_region_noPanic (wp_region_held hm (wpP_sound (Chg.refl S) Chg.trans hs ord ops.size _ a w.drew (of_decide_eq_true hl) hc h))

theorem wpP_nil {a : Act} {w : World} (h : Q .normal a w) : wpP P ops (NoPanic Q) L [] a w := h
theorem wpP_F {i : Nat} {r : List It} {a : Act} {w : World} {o : Oper} {v : Value} (ho : nth ops.toList i = some o) (hw : Region.wanted o (yielded ops a.tmps) = true)
    (hv : ∀ w', L w w' → (execOp a.eval o).run P w' = .ok (.value v) w') (h : wpP P ops Q L r (a.put o.dst v) w) : wpP P ops Q L (.f i :: r) a w :=
  ⟨o, v, nth_ops ho, .inl ⟨hw, hv⟩, h⟩
theorem wpP_G {i : Nat} {r : List It} {a : Act} {w : World} {o : Oper} (ho : nth ops.toList i = some o) (hw : Region.wanted o (yielded ops a.tmps) = false)
    (h : wpP P ops Q L r (a.put o.dst undef) w) : wpP P ops Q L (.f i :: r) a w := ⟨o, undef, nth_ops ho, .inr ⟨hw, rfl⟩, h⟩
theorem wpP_skip (Lr : ∀ w, L w w) {i : Nat} {r : List It} {a : Act} {w : World} {o : Oper} (ho : nth ops.toList i = some o) (hw : Region.wanted o (yielded ops a.tmps) = false)
    (h : wpP P ops Q L r (a.put o.dst undef) w) : wpP P ops Q L (.c i :: r) a w := by
  show wpOp P ops Q i _ a w
  unfold wpOp
  simp only [nth_ops ho, hw]
  exact ⟨Lr w, h⟩
theorem wpP_C {i : Nat} {r : List It} {a : Act} {w : World} {o : Oper} (ho : nth ops.toList i = some o) (hw : Region.wanted o (yielded ops a.tmps) = true)
    (h : o.wp P a w (fun a' w' => L w w' ∧ wpP P ops Q L r a' w') Q) : wpP P ops Q L (.c i :: r) a w := by
  show wpOp P ops Q i _ a w
  unfold wpOp
  simp only [nth_ops ho, hw]
  exact .inl h
theorem wpP_two {c d : List Nat} {r : List It} {a : Act} {w : World} (E F : Outs → World → Prop) (h1 : Rob P ops Q L a c [] E w) (h2 : Rob P ops Q L a d [] F w)
    (h : ∀ o1 o2 w', L w w' → E o1 w' → F o2 w' → wpP P ops Q L r (puts a (o1 ++ o2)) w') : wpP P ops Q L (.p [c, d] :: r) a w := by
  refine ⟨[E, F], rfl, fun x hx => ?_, fun os w' hL hT => ?_⟩
  · simp only [List.zip_cons_cons, List.zip_nil_left, List.mem_cons, List.not_mem_nil, or_false] at hx
    rcases hx with rfl | rfl
    · exact h1
    · exact h2
  · match os, hT with
    | [o1, o2], hT => simpa using h o1 o2 w' hL hT.1 hT.2.1
theorem wpP_three {c d g : List Nat} {r : List It} {a : Act} {w : World} (E F G : Outs → World → Prop) (h1 : Rob P ops Q L a c [] E w) (h2 : Rob P ops Q L a d [] F w) (h3 : Rob P ops Q L a g [] G w)
    (h : ∀ o1 o2 o3 w', L w w' → E o1 w' → F o2 w' → G o3 w' → wpP P ops Q L r (puts a (o1 ++ (o2 ++ o3))) w') : wpP P ops Q L (.p [c, d, g] :: r) a w := by
  refine ⟨[E, F, G], rfl, fun x hx => ?_, fun os w' hL hT => ?_⟩
  · simp only [List.zip_cons_cons, List.zip_nil_left, List.mem_cons, List.not_mem_nil, or_false] at hx
    rcases hx with rfl | rfl | rfl
    · exact h1
    · exact h2
    · exact h3
  · match os, hT with
    | [o1, o2, o3], hT => simpa using h o1 o2 o3 w' hL hT.1 hT.2.1 hT.2.2.1
theorem rob_C {i : Nat} {r : List Nat} {l : Outs} {E : Outs → World → Prop} {a : Act} {w : World} {o : Oper} (ho : nth ops.toList i = some o) (hw : Region.wanted o (yielded ops (puts a l).tmps) = true)
    (h : ∀ w', L w w' → ∀ K : Act → World → Prop, Hid (∀ v w'' b, b = (puts a l).put o.dst v → L w' w'' → Rob P ops Q L a r (l ++ [(o.dst, v)]) E w'' → K b w'') → o.wp P (puts a l) w' K Q) : Rob P ops Q L a (i :: r) l E w :=
  fun w' hL => ⟨o, nth_ops ho, .inl ⟨hw, h w' hL _ (fun v w'' b hb hL2 hR => ⟨hL2, v, hb, hR⟩)⟩⟩
theorem rob_G {i : Nat} {r : List Nat} {l : Outs} {E : Outs → World → Prop} {a : Act} {w : World} {o : Oper} (ho : nth ops.toList i = some o) (hw : Region.wanted o (yielded ops (puts a l).tmps) = false)
    (h : ∀ w', L w w' → Rob P ops Q L a r (l ++ [(o.dst, undef)]) E w') : Rob P ops Q L a (i :: r) l E w :=
  fun w' hL => ⟨o, nth_ops ho, .inr ⟨hw, h w' hL⟩⟩
theorem rob_nil {l : Outs} {E : Outs → World → Prop} {a : Act} {w : World} (h : ∀ w', L w w' → E l w') : Rob P ops Q L a [] l E w := h
end
attribute [irreducible] wpP Rob
end Go.Proofs.Ytockmoiekbhneaa
