/- Several texts of one proof, one behind the other. -/
import Derived.Test.YtcepbindmdakkaaVPk26
import Derived.ChangeKeysEq
import Derived.MapKept
import Derived.Deep.AppendLies
set_option linter.unusedSimpArgs false
set_option linter.unusedVariables false

/- A region that draws its order and in which several chains of operations run side by side: each chain is walked by itself, in worlds that may have gone on between its steps; what the chains told is put together behind them. -/
set_option linter.unusedSimpArgs false
set_option linter.unusedVariables false
set_option maxRecDepth 100000
namespace Go.Proofs.Ytcepbindmdakkaa
open Go.RowKit

/-- What operations left in their slots. -/
abbrev Outs := List (Option Tmp × Value)
def puts (a : Act) (M : Outs) : Act := M.foldl (fun a p => a.put p.1 p.2) a
theorem puts_nil (a : Act) : puts a [] = a := rfl
theorem puts_cons (a : Act) (p : Option Tmp × Value) (M : Outs) : puts a (p :: M) = puts (a.put p.1 p.2) M := rfl
theorem puts_app (a : Act) (M N : Outs) : puts a (M ++ N) = puts (puts a M) N := by unfold puts; rw [List.foldl_append]
theorem puts_put : ∀ (M : Outs) (a : Act) (x : Option Tmp) (v : Value), (∀ p ∈ M, ∀ d, p.1 = some d → x ≠ some d) → puts (a.put x v) M = (puts a M).put x v
  | [], _, _, _, _ => rfl
  | p :: M, a, x, v, h => by
    rw [puts_cons, puts_cons, Act.put_comm a (x := x) (y := p.1) v p.2 (fun d hd hp => h p (List.mem_cons_self) d hp hd)]
    exact puts_put M _ x v fun q hq => h q (List.mem_cons_of_mem _ hq)
def Dj (M N : Outs) : Prop := ∀ p ∈ M, ∀ q ∈ N, ∀ d, p.1 = some d → q.1 ≠ some d
theorem puts_swap (M : Outs) : ∀ (N : Outs) (a : Act), Dj M N → puts (puts a M) N = puts (puts a N) M
  | [], _, _ => rfl
  | q :: N, a, h => by
    rw [puts_cons, puts_cons, ← puts_put M a q.1 q.2 (fun p hp d hd => h p hp q (List.mem_cons_self) d hd)]
    exact puts_swap M N _ fun p hp r hr => h p hp r (List.mem_cons_of_mem _ hr)

section
variable {P : Program} {ops : Array Oper} {Q : Exit → Act → World → Prop} {md : Region.Mode} {L : World → World → Prop}

theorem exec_puts (o : Oper) (hs : ∀ cs b, o.op ≠ .select cs b) : ∀ (M : Outs) (a : Act), (∀ p ∈ M, ∀ d, p.1 = some d → d ∉ o.looksAt ops) → execOp (puts a M).eval o = execOp a.eval o
  | [], _, _ => rfl
  | p :: M, a, h => by
    rw [puts_cons, exec_puts o hs M _ fun q hq => h q (List.mem_cons_of_mem _ hq)]
    exact execOp_put o hs a p.1 p.2 fun d hd => h p (List.mem_cons_self) d hd
theorem wanted_puts (o : Oper) : ∀ (M : Outs) (a : Act), (∀ p ∈ M, ∀ d, p.1 = some d → d ∉ o.looksAt ops) → Region.wanted o (yielded ops (puts a M).tmps) = Region.wanted o (yielded ops a.tmps)
  | [], _, _ => rfl
  | p :: M, a, h => by
    rw [puts_cons, wanted_puts o M _ fun q hq => h q (List.mem_cons_of_mem _ hq)]
    exact wanted_put o a p.1 p.2 fun d hd => h p (List.mem_cons_self) d hd
theorem puts_defers : ∀ (M : Outs) (a : Act) (d : Deferred), ({ puts a M with defers := d :: (puts a M).defers } : Act) = puts { a with defers := d :: a.defers } M
  | [], _, _ => rfl
  | p :: M, a, d => by
    rw [puts_cons, puts_cons, puts_defers M]
    rw [Act.put_defers]

/-- An operation does not see what lies in slots that it neither reads nor writes. -/
theorem wp_puts {o : Oper} (hs : ∀ cs b, o.op ≠ .select cs b) (M : Outs) (a : Act) (w : World) (h1 : ∀ p ∈ M, ∀ d, p.1 = some d → d ∉ o.looksAt ops) (h2 : ∀ p ∈ M, ∀ d, p.1 = some d → o.dst ≠ some d) {K : Act → World → Prop}
    (h : o.wp P a w (fun a' w' => K (puts a' M) w') (NoPanic Q)) : o.wp P (puts a M) w K (NoPanic Q) := by
  unfold Oper.wp at *
  rw [exec_puts (ops := ops) o hs M a h1]
  generalize (execOp a.eval o).run P w = r at *
  cases r with
  | ok n w' =>
    cases n <;> simp only [Oper.upon] at h ⊢
    case value u => rw [← puts_put M a _ _ h2]; exact h
    case skip => rw [← puts_put M a _ _ h2]; exact h
    case defer d => rw [puts_defers, ← puts_put M _ _ _ h2]; exact h
    case enter f args =>
      refine Calls.mono h fun e w'' he => ?_
      cases e with
      | returned u =>
        show K ((puts a M).put o.dst u) w''
        rw [← puts_put M a _ _ h2]; exact he
      | panicked c => exact he
      | outgrown => exact he
    case row row args => exact Rows.mono h fun u w'' he => by rw [← puts_put M a _ _ h2]; exact he
  | halt x w' =>
    cases x <;> simp only [Oper.upon] at h ⊢
    case panic u => exact h

/-- What the steps of the other chains keep (R), and what a step of this chain keeps (G). -/
structure RG where
  R : World → World → Prop
  G : World → World → Prop
/-- A chain: each of its steps is walked in whatever world the others may have brought about; at its end E holds of what it told, whatever the others did since. -/
def Rob (P : Program) (ops : Array Oper) (Q : Exit → Act → World → Prop) (X : RG) (a : Act) : List Nat → Outs → (Outs → World → Prop) → World → Prop
  | [], l, E, w => ∀ w', X.R w w' → E l w'
  | i :: r, l, E, w => ∀ w', X.R w w' → ∃ o, ops[i]? = some o ∧
      ((Region.wanted o (yielded ops (puts a l).tmps) = true ∧ o.wp P (puts a l) w' (fun a' w'' => X.G w' w'' ∧ ∃ v, a' = (puts a l).put o.dst v ∧ Rob P ops Q X a r (l ++ [(o.dst, v)]) E w'') Q) ∨
       (Region.wanted o (yielded ops (puts a l).tmps) = false ∧ Rob P ops Q X a r (l ++ [(o.dst, undef)]) E w'))
theorem Rob.later {X : RG} (Lt : ∀ {a b c}, X.R a b → X.R b c → X.R a c) {a : Act} {t : List Nat} {l : Outs} {E : Outs → World → Prop} {w w' : World} (h : Rob P ops Q X a t l E w) (hL : X.R w w') : Rob P ops Q X a t l E w' := by
  cases t with
  | nil => exact fun w2 h2 => h w2 (Lt hL h2)
  | cons i r => exact fun w2 h2 => h w2 (Lt hL h2)

/-- A chain on its way. -/
structure Ch where
  all : List Nat
  todo : List Nat
  out : Outs
  E : Outs → World → Prop
  X : RG
def RG.Ok (L : World → World → Prop) (X : RG) : Prop := (∀ w, X.R w w) ∧ (∀ a b c, X.R a b → X.R b c → X.R a c) ∧ ∀ w w', X.G w w' → L w w'
def RG.With (X Y : RG) : Prop := (∀ w w', X.G w w' → Y.R w w') ∧ ∀ w w', Y.G w w' → X.R w w'
theorem RG.With.symm {X Y : RG} (h : X.With Y) : Y.With X := ⟨h.2, h.1⟩

def Ch.Fine (ops : Array Oper) (c : Ch) : Prop := (∀ i ∈ c.todo, i ∈ c.all) ∧ ∀ p ∈ c.out, ∃ i ∈ c.all, ∃ o, ops[i]? = some o ∧ p.1 = o.dst
def apartB (ops : Array Oper) (i j : Nat) : Bool := match ops[i]?, ops[j]? with
  | some x, some y => x.apart ops y
  | _, _ => true
def sideB (ops : Array Oper) (c d : List Nat) : Bool := c.all fun i => d.all fun j => apartB ops i j
def pairB (ops : Array Oper) : List (List Nat) → Bool
  | [] => true
  | c :: r => r.all (sideB ops c) && pairB ops r
theorem sideB_spec {c d : List Nat} (h : sideB ops c d = true) {i j : Nat} (hi : i ∈ c) (hj : j ∈ d) {x y : Oper} (hx : ops[i]? = some x) (hy : ops[j]? = some y) : x.apart ops y = true := by
  unfold sideB at h
  have := List.all_eq_true.1 (List.all_eq_true.1 h i hi) j hj
  unfold apartB at this
  rw [hx, hy] at this
  exact this
/-- Chains that lie beside each other. -/
def Beside (ops : Array Oper) (c d : Ch) : Prop := ∀ i ∈ c.all, ∀ j ∈ d.all, ∀ x y, ops[i]? = some x → ops[j]? = some y → (∀ t, x.dst = some t → t ∉ y.looksAt ops) ∧ (∀ t, x.dst = some t → y.dst ≠ some t) ∧ (∀ t, y.dst = some t → t ∉ x.looksAt ops)
theorem Beside.symm {c d : Ch} (h : Beside ops c d) : Beside ops d c := fun i hi j hj x y hx hy => by
  obtain ⟨h1, h2, h3⟩ := h j hj i hi y x hy hx
  exact ⟨h3, fun t ht he => h2 t he ht, h1⟩
theorem beside_of : ∀ {cs : List Ch}, pairB ops (cs.map Ch.all) = true → cs.Pairwise (Beside ops)
  | [], _ => List.Pairwise.nil
  | c :: r, h => by
    simp only [List.map_cons, pairB, Bool.and_eq_true] at h
    refine List.Pairwise.cons (fun d hd i hi j hj x y hx hy => ?_) (beside_of h.2)
    exact Oper.apart_spec (sideB_spec (List.all_eq_true.1 h.1 d.all (List.mem_map_of_mem hd)) hi hj hx hy)

def checkP (md : Region.Mode) (ops : Array Oper) (fin : Array Bool → Bool) : Nat → List (List Nat) → Array Bool → Bool
  | 0, ts, l => ts.all List.isEmpty && fin l
  | f + 1, ts, l => if ts.all List.isEmpty then fin l else
      Region.ready md ops l != [] && (Region.ready md ops l).all fun i => (List.range ts.length).any fun c => match ts[c]? with
        | some (j :: t) => j == i && checkP md ops fin f (ts.set c t) (l.setIfInBounds i true)
        | _ => false

def Told : List Ch → List Outs → World → Prop
  | [], [], _ => True
  | c :: cs, o :: os, w => c.E o w ∧ Told cs os w
  | _, _, _ => False

theorem told_done {a : Act} : ∀ {cs : List Ch} {w : World}, (∀ c ∈ cs, c.X.Ok L) → (∀ c ∈ cs, Rob P ops Q c.X a c.todo c.out c.E w) → (cs.map Ch.todo).all List.isEmpty = true → Told cs (cs.map Ch.out) w
  | [], _, _, _, _ => trivial
  | c :: cs, w, hx, h, he => by
    simp only [List.map_cons, List.all_cons, Bool.and_eq_true] at he
    refine ⟨?_, told_done (fun d hd => hx d (List.mem_cons_of_mem _ hd)) (fun d hd => h d (List.mem_cons_of_mem _ hd)) he.2⟩
    have h1 := h c List.mem_cons_self
    have : c.todo = [] := by simpa using he.1
    rw [this] at h1
    exact h1 w ((hx c List.mem_cons_self).1 w)

theorem set_at {α : Type} : ∀ {l : List α} {k : Nat} {x : α}, l[k]? = some x → ∃ p s, l = p ++ x :: s ∧ p.length = k
  | [], _, _, h => by simp at h
  | y :: r, 0, x, h => by simp at h; subst h; exact ⟨[], r, rfl, rfl⟩
  | y :: r, k + 1, x, h => by
    obtain ⟨p, s, h1, h2⟩ := set_at (l := r) (k := k) (x := x) (by simpa using h)
    exact ⟨y :: p, s, by rw [h1]; rfl, by simp [h2]⟩
theorem told_map {E : Ch → Ch} : ∀ {cs ds : List Ch} {os : List Outs} {w : World}, cs.map Ch.E = ds.map Ch.E → Told cs os w → Told ds os w
  | [], [], _, _, _, h => h
  | [], _ :: _, _, _, he, _ => by simp at he
  | _ :: _, [], _, _, he, _ => by simp at he
  | c :: cs, d :: ds, [], _, _, h => h.elim
  | c :: cs, d :: ds, o :: os, w, he, h => by
    simp only [List.map_cons, List.cons.injEq] at he
    exact ⟨he.1 ▸ h.1, told_map (E := E) he.2 h.2⟩

theorem par_sound (Lr : ∀ w, L w w) (Lt : ∀ {a b c}, L a b → L b c → L a c) (hs : Region.noSelect ops = true) (a : Act) (fin : Array Bool → Bool) (n : Nat) :
    ∀ (f : Nat) (cs : List Ch) (l : Array Bool) (w : World), (∀ c ∈ cs, c.X.Ok L) → (cs.map Ch.X).Pairwise RG.With → (∀ c ∈ cs, c.Fine ops) → cs.Pairwise (Beside ops) → (∀ c ∈ cs, Rob P ops (NoPanic Q) c.X a c.todo c.out c.E w) → checkP md ops fin f (cs.map Ch.todo) l = true →
      (∀ l' os w' m, n ≤ m → fin l' = true → L w w' → Told cs os w' → wpAnyH P md ops (NoPanic Q) (L w') m l' (puts a os.flatten) w') →
      wpAnyH P md ops (NoPanic Q) (L w) (f + n) l (puts a (cs.map Ch.out).flatten) w
  | 0, cs, l, w, hx, _, _, _, hr, hc, hrest => by
    simp only [checkP, Bool.and_eq_true] at hc
    exact hrest l _ w _ (by omega) hc.2 (Lr w) (told_done hx hr hc.1)
  | f + 1, cs, l, w, hx, hxp, hf, hp, hr, hc, hrest => by
    by_cases he : (cs.map Ch.todo).all List.isEmpty = true
    · simp only [checkP, he, if_true] at hc
      exact hrest l _ w _ (by omega) hc (Lr w) (told_done hx hr he)
    · simp only [checkP, he, if_false, Bool.and_eq_true, Bool.false_eq_true] at hc
      obtain ⟨hne, hall⟩ := hc
      have e1 : f + 1 + n = (f + n) + 1 := by omega
      rw [e1]
      refine wpAnyH_all (rs := Region.ready md ops l) rfl (by simpa using hne) ?_
      intro i hi
      have h1 := List.all_eq_true.1 hall i hi
      obtain ⟨k, _, hk⟩ := List.any_eq_true.1 h1
      cases hck : cs[k]? with
      | none => rw [List.getElem?_map, hck] at hk; simp at hk
      | some c =>
        rw [List.getElem?_map, hck] at hk
        simp only [Option.map_some] at hk
        cases ht : c.todo with
        | nil => rw [ht] at hk; simp at hk
        | cons j t =>
          rw [ht] at hk
          simp only [Bool.and_eq_true, beq_iff_eq] at hk
          obtain ⟨rfl, hk⟩ := hk
          obtain ⟨ps, ss, hcs, hpl⟩ := set_at hck
          have hcm : c ∈ cs := by rw [hcs]; simp
          have hrc := hr c hcm
          rw [ht] at hrc
          obtain ⟨o, ho, hw⟩ := hrc w ((hx c hcm).1 w)
          have hjall : j ∈ c.all := (hf c hcm).1 j (by rw [ht]; exact List.mem_cons_self)
          have hsel := Region.noSelect_spec hs j o
          have hsel2 : ∀ cs b, o.op ≠ .select cs b := fun x b => hsel x b ho
          rw [hcs] at hp hxp
          have hp2 := List.pairwise_append.1 hp
          rw [List.map_append, List.map_cons] at hxp
          have hxp2 := List.pairwise_append.1 hxp
          have hwith : ∀ d ∈ ps ++ ss, ∀ w1 w2, c.X.G w1 w2 → d.X.R w1 w2 := by
            intro d hd
            rcases List.mem_append.1 hd with hd | hd
            · exact (hxp2.2.2 d.X (List.mem_map_of_mem hd) c.X List.mem_cons_self).2
            · exact ((List.pairwise_cons.1 hxp2.2.1).1 d.X (List.mem_map_of_mem hd)).1
          have hbes : ∀ d ∈ ps ++ ss, Beside ops d c := by
            intro d hd
            rcases List.mem_append.1 hd with hd | hd
            · exact hp2.2.2 d hd c List.mem_cons_self
            · exact ((List.pairwise_cons.1 hp2.2.1).1 d hd).symm
          obtain ⟨M, hM⟩ : ∃ M, M = (ps.map Ch.out).flatten ++ (ss.map Ch.out).flatten := ⟨_, rfl⟩
          have hMm : ∀ p ∈ M, ∃ d ∈ ps ++ ss, p ∈ d.out := by
            intro p hpm
            rw [hM] at hpm
            rcases List.mem_append.1 hpm with h | h
            · obtain ⟨x, hx, hpx⟩ := List.mem_flatten.1 h
              obtain ⟨d, hd, rfl⟩ := List.mem_map.1 hx
              exact ⟨d, List.mem_append_left _ hd, hpx⟩
            · obtain ⟨x, hx, hpx⟩ := List.mem_flatten.1 h
              obtain ⟨d, hd, rfl⟩ := List.mem_map.1 hx
              exact ⟨d, List.mem_append_right _ hd, hpx⟩
          have hin : ∀ d ∈ ps ++ ss, d ∈ cs := by
            intro d hd
            rw [hcs]
            rcases List.mem_append.1 hd with h | h
            · exact List.mem_append_left _ h
            · exact List.mem_append_right _ (List.mem_cons_of_mem _ h)
          have hMo : ∀ p ∈ M, ∃ d ∈ ps ++ ss, ∃ i ∈ d.all, ∃ x, ops[i]? = some x ∧ p.1 = x.dst := by
            intro p hpm
            obtain ⟨d, hd, hpd⟩ := hMm p hpm
            obtain ⟨i, hi, x, hx, hpx⟩ := (hf d (hin d hd)).2 p hpd
            exact ⟨d, hd, i, hi, x, hx, hpx⟩
          have hlook : ∀ p ∈ M, ∀ t, p.1 = some t → t ∉ o.looksAt ops := by
            intro p hpm t ht
            obtain ⟨d, hd, i, hi, x, hx, hpx⟩ := hMo p hpm
            exact (hbes d hd i hi j hjall x o hx ho).1 t (by rw [← hpx]; exact ht)
          have hdst : ∀ p ∈ M, ∀ t, p.1 = some t → o.dst ≠ some t := by
            intro p hpm t ht
            obtain ⟨d, hd, i, hi, x, hx, hpx⟩ := hMo p hpm
            exact (hbes d hd i hi j hjall x o hx ho).2.1 t (by rw [← hpx]; exact ht)
          -- what the chain told lies apart from what the others told
          have hdj : ∀ N : Outs, (∀ p ∈ N, ∃ i ∈ c.all, ∃ x, ops[i]? = some x ∧ p.1 = x.dst) → Dj (ps.map Ch.out).flatten N := by
            intro N hN p hpm q hq t ht
            obtain ⟨d, hd, i, hi, x, hx, hpx⟩ := hMo p (by rw [hM]; exact List.mem_append_left _ hpm)
            obtain ⟨i2, hi2, y, hy, hqy⟩ := hN q hq
            rw [hqy]
            exact (hbes d hd i hi i2 hi2 x y hx hy).2.1 t (by rw [← hpx]; exact ht)
          have hbig : ∀ N : Outs, (∀ p ∈ N, ∃ i ∈ c.all, ∃ x, ops[i]? = some x ∧ p.1 = x.dst) → puts a ((ps.map Ch.out).flatten ++ (N ++ (ss.map Ch.out).flatten)) = puts (puts a N) M := by
            intro N hN
            rw [puts_app, puts_app, puts_swap _ N a (hdj N hN), hM, puts_app]
          have hout := (hf c hcm).2
          have hflat : (cs.map Ch.out).flatten = (ps.map Ch.out).flatten ++ (c.out ++ (ss.map Ch.out).flatten) := by rw [hcs]; simp
          rw [hflat, hbig c.out hout]
          -- the state behind the step
          have hstep : ∀ v w2, (∀ d ∈ ps ++ ss, d.X.R w w2) → L w w2 → Rob P ops (NoPanic Q) c.X a t (c.out ++ [(o.dst, v)]) c.E w2 → wpAnyH P md ops (NoPanic Q) (L w) (f + n) (l.setIfInBounds j true) ((puts (puts a c.out) M).put o.dst v) w2 := by
            intro v w2 hRl hL hR
            obtain ⟨c', hc'⟩ : ∃ c' : Ch, c' = ⟨c.all, t, c.out ++ [(o.dst, v)], c.E, c.X⟩ := ⟨_, rfl⟩
            have hN : ∀ p ∈ c.out ++ [(o.dst, v)], ∃ i ∈ c.all, ∃ x, ops[i]? = some x ∧ p.1 = x.dst := by
              intro p hpm
              rcases List.mem_append.1 hpm with h | h
              · exact hout p h
              · simp only [List.mem_singleton] at h
                subst h
                exact ⟨j, hjall, o, ho, rfl⟩
            have hact : (puts (puts a c.out) M).put o.dst v = puts a ((ps ++ c' :: ss).map Ch.out).flatten := by
              have : ((ps ++ c' :: ss).map Ch.out).flatten = (ps.map Ch.out).flatten ++ ((c.out ++ [(o.dst, v)]) ++ (ss.map Ch.out).flatten) := by rw [hc']; simp
              rw [this, hbig _ hN, puts_app]
              exact (puts_put M (puts a c.out) o.dst v hdst).symm
            rw [hact]
            refine wpAnyH_stronger (fun x hx => Lt hL hx) _ _ _ _ (par_sound Lr Lt hs a fin n f (ps ++ c' :: ss) (l.setIfInBounds j true) w2 ?_ ?_ ?_ ?_ ?_ ?_ ?_)
            · intro d hd
              rcases List.mem_append.1 hd with h | h
              · exact hx d (hin d (List.mem_append_left _ h))
              · rcases List.mem_cons.1 h with h | h
                · rw [h, hc']; exact hx c hcm
                · exact hx d (hin d (List.mem_append_right _ h))
            · rw [List.map_append, List.map_cons, hc']; exact hxp
            · intro d hd
              rcases List.mem_append.1 hd with h | h
              · exact hf d (hin d (List.mem_append_left _ h))
              · rcases List.mem_cons.1 h with h | h
                · rw [h, hc']
                  exact ⟨fun i hi => (hf c hcm).1 i (by rw [ht]; exact List.mem_cons_of_mem _ hi), hN⟩
                · exact hf d (hin d (List.mem_append_right _ h))
            · refine List.pairwise_append.2 ⟨hp2.1, List.pairwise_cons.2 ⟨fun d hd => ?_, (List.pairwise_cons.1 hp2.2.1).2⟩, fun d hd e he => ?_⟩
              · have := (List.pairwise_cons.1 hp2.2.1).1 d hd
                intro i hi
                exact this i (by rw [hc'] at hi; exact hi)
              · rcases List.mem_cons.1 he with h | h
                · have := hp2.2.2 d hd c List.mem_cons_self
                  intro i hi j2 hj2
                  exact this i hi j2 (by rw [h, hc'] at hj2; exact hj2)
                · exact hp2.2.2 d hd e (List.mem_cons_of_mem _ h)
            · intro d hd
              rcases List.mem_append.1 hd with h | h
              · exact Rob.later (X := d.X) (w := w) (w' := w2) (fun {a b c} h1 h2 => (hx d (hin d (List.mem_append_left _ h))).2.1 a b c h1 h2) (hr d (hin d (List.mem_append_left _ h))) (hRl d (List.mem_append_left _ h))
              · rcases List.mem_cons.1 h with h | h
                · rw [h, hc']; exact hR
                · exact Rob.later (X := d.X) (w := w) (w' := w2) (fun {a b c} h1 h2 => (hx d (hin d (List.mem_append_right _ h))).2.1 a b c h1 h2) (hr d (hin d (List.mem_append_right _ h))) (hRl d (List.mem_append_right _ h))
            · have : (ps ++ c' :: ss).map Ch.todo = (cs.map Ch.todo).set k t := by
                rw [hcs, List.map_append, List.map_append, List.set_append_right _ _ (by rw [List.length_map]; omega), List.length_map, hpl, Nat.sub_self, hc']
                rfl
              rw [this]; exact hk
            · intro l' os w' m hm hfin hL' hT
              exact hrest l' os w' m hm hfin (Lt hL hL') (told_map (E := id) (by rw [hcs, hc']; simp) hT)
          unfold wpOp
          simp only [ho]
          rw [wanted_puts o M _ hlook]
          rcases hw with ⟨hw, hwp⟩ | ⟨hw, hR⟩
          · rw [if_pos hw]
            refine .inl (wp_puts hsel2 M _ w hlook hdst (Oper.wp_mono ?_ hwp))
            rintro a' w2 ⟨hG, v, rfl, hR⟩
            rw [puts_put M _ _ _ hdst]
            have hL := (hx c hcm).2.2 w w2 hG
            exact ⟨hL, hstep v w2 (fun d hd => hwith d hd w w2 hG) hL hR⟩
          · rw [hw]
            exact ⟨Lr w, hstep undef w (fun d hd => (hx d (hin d hd)).1 w) (Lr w) hR⟩
/-- An order with chains side by side. -/
inductive It where
  | f : Nat → It
  | c : Nat → It
  | p : List (List Nat) → It
def total (cs : List (List Nat)) : Nat := (cs.map List.length).sum
def It.len : It → Nat
  | .f _ => 1
  | .c _ => 1
  | .p cs => total cs
def lenI (l : List It) : Nat := (l.map It.len).sum

def TellAll : List (Outs → World → Prop) → List Outs → World → Prop
  | [], [], _ => True
  | E :: es, o :: os, w => E o w ∧ TellAll es os w
  | _, _, _ => False

def wpP (P : Program) (ops : Array Oper) (Q : Exit → Act → World → Prop) (L : World → World → Prop) : List It → Act → World → Prop
  | [], a, w => Q .normal a w
  | .f i :: r, a, w => ∃ o v, ops[i]? = some o ∧ YieldsIf P ops (L w) o v a ∧ wpP P ops Q L r (a.put o.dst v) w
  | .c i :: r, a, w => wpOp P ops Q i (fun a' w' => L w w' ∧ wpP P ops Q L r a' w') a w
  | .p cs :: r, a, w => ∃ es : List ((Outs → World → Prop) × RG), es.length = cs.length ∧ (∀ e ∈ es, e.2.Ok L) ∧ (es.map Prod.snd).Pairwise RG.With ∧ (∀ c ∈ cs.zip es, Rob P ops Q c.2.2 a c.1 [] c.2.1 w) ∧ ∀ os w', L w w' → TellAll (es.map Prod.fst) os w' → wpP P ops Q L r (puts a os.flatten) w'

def checkI (md : Region.Mode) (ops : Array Oper) : List It → Array Bool → Bool
  | [], l => Region.ready md ops l == []
  | .f i :: r, l => Region.free md ops l i && (Region.ready md ops l).contains i && checkI md ops r (l.setIfInBounds i true)
  | .c i :: r, l => Region.ready md ops l == [i] && checkI md ops r (l.setIfInBounds i true)
  | .p cs :: r, l => pairB ops cs && checkP md ops (checkI md ops r) (total cs) cs l

def mkC (c : List Nat × ((Outs → World → Prop) × RG)) : Ch := ⟨c.1, c.1, [], c.2.1, c.2.2⟩
theorem zip_fst {α β : Type} : ∀ {l : List α} {m : List β}, m.length = l.length → (l.zip m).map Prod.fst = l
  | [], _, _ => rfl
  | _ :: _, [], h => by simp at h
  | _ :: l, _ :: m, h => by simp [zip_fst (l := l) (m := m) (by simpa using h)]
theorem zip_snd {α β γ : Type} (f : β → γ) : ∀ {l : List α} {m : List β}, m.length = l.length → (l.zip m).map (fun c => f c.2) = m.map f
  | [], [], _ => rfl
  | [], _ :: _, h => by simp at h
  | _ :: _, [], h => by simp at h
  | _ :: l, _ :: m, h => by simp [zip_snd f (l := l) (m := m) (by simpa using h)]
theorem told_tell : ∀ {cs : List (List Nat)} {es : List ((Outs → World → Prop) × RG)} {os : List Outs} {w : World}, es.length = cs.length → Told ((cs.zip es).map mkC) os w → TellAll (es.map Prod.fst) os w
  | [], [], [], _, _, _ => trivial
  | [], [], _ :: _, _, _, h => h.elim
  | [], _ :: _, _, _, h, _ => by simp at h
  | _ :: _, [], _, _, h, _ => by simp at h
  | _ :: _, _ :: _, [], _, _, h => h.elim
  | c :: cs, e :: es, o :: os, w, hl, h => ⟨h.1, told_tell (cs := cs) (es := es) (by simpa using hl) h.2⟩

theorem wpP_sound (Lr : ∀ w, L w w) (Lt : ∀ {a b c}, L a b → L b c → L a c) (hs : Region.noSelect ops = true) :
    ∀ (ord : List It) (fuel : Nat) (l : Array Bool) (a : Act) (w : World), lenI ord ≤ fuel → checkI md ops ord l = true → wpP P ops (NoPanic Q) L ord a w → wpAnyH P md ops (NoPanic Q) (L w) fuel l a w
  | [], fuel, l, a, w, _, hc, h => wpAnyH_done (by simpa [checkI] using hc) h fuel
  | .f i :: r, fuel, l, a, w, hf, hc, h => by
    obtain ⟨o, v, ho, hy, h⟩ := h
    simp only [checkI, Bool.and_eq_true] at hc
    simp only [lenI, List.map_cons, List.sum_cons, It.len] at hf
    cases fuel with
    | zero => omega
    | succ fuel =>
      exact wpAnyH_take ho hs hc.1.1 hc.1.2 (fun c a w => NoPanic.put Q c a o.dst v w) hy (Lr w) (wpP_sound Lr Lt hs r fuel _ _ w (by unfold lenI; omega) hc.2 h)
  | .c i :: r, fuel, l, a, w, hf, hc, h => by
    simp only [checkI, Bool.and_eq_true, beq_iff_eq] at hc
    simp only [lenI, List.map_cons, List.sum_cons, It.len] at hf
    cases fuel with
    | zero => omega
    | succ fuel =>
      refine wpAnyH_all (rs := [i]) hc.1 (by simp) ?_
      intro j hj
      rw [List.mem_singleton.1 hj]
      exact wpOp_mono (fun a' w' h' => ⟨h'.1, wpAnyH_stronger (fun x hx => Lt h'.1 hx) fuel _ _ _ (wpP_sound Lr Lt hs r fuel _ a' w' (by unfold lenI; omega) hc.2 h'.2)⟩) h
  | .p cs :: r, fuel, l, a, w, hf, hc, h => by
    obtain ⟨es, hl, hok, hwi, hr, hrest⟩ := h
    simp only [checkI, Bool.and_eq_true] at hc
    simp only [lenI, List.map_cons, List.sum_cons, It.len] at hf
    have e1 : fuel = total cs + (fuel - total cs) := by omega
    have em : ((cs.zip es).map mkC).map Ch.all = cs := by
      rw [List.map_map]
      exact (List.map_congr_left fun c _ => rfl).trans (zip_fst hl)
    have et : ((cs.zip es).map mkC).map Ch.todo = cs := by
      rw [List.map_map]
      exact (List.map_congr_left fun c _ => rfl).trans (zip_fst hl)
    have eo : (((cs.zip es).map mkC).map Ch.out).flatten = [] := by
      rw [List.map_map]
      apply List.eq_nil_iff_forall_not_mem.2
      intro x hx
      obtain ⟨y, hy, hxy⟩ := List.mem_flatten.1 hx
      obtain ⟨c, _, rfl⟩ := List.mem_map.1 hy
      cases hxy
    have := par_sound (P := P) (ops := ops) (Q := Q) (md := md) Lr Lt hs a (checkI md ops r) (fuel - total cs) (total cs) ((cs.zip es).map mkC) l w ?_ ?_ ?_ (beside_of (by rw [em]; exact hc.1)) ?_ (by rw [et]; exact hc.2) ?_
    · rw [eo, puts_nil, ← e1] at this; exact this
    · intro c hc'
      obtain ⟨x, hx, rfl⟩ := List.mem_map.1 hc'
      exact hok x.2 (List.of_mem_zip hx).2
    · rw [List.map_map]
      have := zip_snd (l := cs) (m := es) Prod.snd hl
      rw [show ((cs.zip es).map (Ch.X ∘ mkC)) = (cs.zip es).map (fun c => c.2.2) from rfl, this]
      exact hwi
    · intro c hc'
      obtain ⟨x, _, rfl⟩ := List.mem_map.1 hc'
      exact ⟨fun i hi => hi, fun p hp => by cases hp⟩
    · intro c hc'
      obtain ⟨x, hx, rfl⟩ := List.mem_map.1 hc'
      exact hr x hx
    · intro l' os w' m hm hfin hL hT
      exact wpP_sound Lr Lt hs r m l' _ w' (by unfold lenI; omega) hfin (hrest os w' hL (told_tell hl hT))

/-- The beginning, where blocks S may be written. -/
theorem wp_region_par {id : Nat} {a : Act} {w : World} (S : List Nat) (ord : List It) (hm : P.follows .mixedOrders = true) (hs : Region.noSelect ops = true)
    (hl : decide (lenI ord ≤ ops.size) = true) (hc : checkI .any ops ord (Array.replicate ops.size false) = true) (h : wpP P ops (NoPanic Q) (Chg S) ord a w.drew) : (Code.region id ops true).wp P Q a w :=
  wp_region_noPanic (wp_region_held hm (wpP_sound (Chg.refl S) Chg.trans hs ord ops.size _ a w.drew (of_decide_eq_true hl) hc h))

/-- The same, where all that was made since may be written. -/
theorem wp_region_parN {id : Nat} {a : Act} {w : World} (N : Nat) (ord : List It) (hm : P.follows .mixedOrders = true) (hs : Region.noSelect ops = true)
    (hl : decide (lenI ord ≤ ops.size) = true) (hc : checkI .any ops ord (Array.replicate ops.size false) = true) (h : wpP P ops (NoPanic Q) (Below N) ord a w.drew) : (Code.region id ops true).wp P Q a w :=
  wp_region_noPanic (wp_region_held hm (wpP_sound (Below.refl N) Below.trans hs ord ops.size _ a w.drew (of_decide_eq_true hl) hc h))

theorem wpP_nil {a : Act} {w : World} (h : Q .normal a w) : wpP P ops (NoPanic Q) L [] a w := h
theorem wpP_F {i : Nat} {r : List It} {a : Act} {w : World} {o : Oper} {v : Value} (ho : nth ops.toList i = some o) (hw : Region.wanted o (yielded ops a.tmps) = true)
    (hv : ∀ w', L w w' → (execOp a.eval o).run P w' = .ok (.value v) w') (h : wpP P ops Q L r (a.put o.dst v) w) : wpP P ops Q L (.f i :: r) a w :=
  ⟨o, v, nth_ops ho, .inl ⟨hw, hv⟩, h⟩
theorem wpP_G {i : Nat} {r : List It} {a : Act} {w : World} {o : Oper} (ho : nth ops.toList i = some o) (hw : Region.wanted o (yielded ops a.tmps) = false)
    (h : wpP P ops Q L r (a.put o.dst undef) w) : wpP P ops Q L (.f i :: r) a w := ⟨o, undef, nth_ops ho, .inr ⟨hw, rfl⟩, h⟩
theorem wpP_skip (Lr : ∀ w, L w w) {i : Nat} {r : List It} {a : Act} {w : World} {o : Oper} (ho : nth ops.toList i = some o) (hw : Region.wanted o (yielded ops a.tmps) = false)
    (h : wpP P ops Q L r (a.put o.dst undef) w) : wpP P ops Q L (.c i :: r) a w := by
  show wpOp P ops Q i _ a w
  unfold wpOp
  simp only [nth_ops ho, hw]
  exact ⟨Lr w, h⟩
theorem wpP_C {i : Nat} {r : List It} {a : Act} {w : World} {o : Oper} (ho : nth ops.toList i = some o) (hw : Region.wanted o (yielded ops a.tmps) = true)
    (h : o.wp P a w (fun a' w' => L w w' ∧ wpP P ops Q L r a' w') Q) : wpP P ops Q L (.c i :: r) a w := by
  show wpOp P ops Q i _ a w
  unfold wpOp
  simp only [nth_ops ho, hw]
  exact .inl h
theorem wpP_two {c d : List Nat} {r : List It} {a : Act} {w : World} (X Y : RG) (E F : Outs → World → Prop) (hX : X.Ok L) (hY : Y.Ok L) (hXY : X.With Y) (h1 : Rob P ops Q X a c [] E w) (h2 : Rob P ops Q Y a d [] F w)
    (h : ∀ o1 o2 w', L w w' → E o1 w' → F o2 w' → wpP P ops Q L r (puts a (o1 ++ o2)) w') : wpP P ops Q L (.p [c, d] :: r) a w := by
  refine ⟨[(E, X), (F, Y)], rfl, ?_, ?_, fun x hx => ?_, fun os w' hL hT => ?_⟩
  · intro e he
    simp only [List.mem_cons, List.not_mem_nil, or_false] at he
    rcases he with rfl | rfl <;> assumption
  · simpa using hXY
  · simp only [List.zip_cons_cons, List.zip_nil_left, List.mem_cons, List.not_mem_nil, or_false] at hx
    rcases hx with rfl | rfl
    · exact h1
    · exact h2
  · match os, hT with
    | [o1, o2], hT => simpa using h o1 o2 w' hL hT.1 hT.2.1
theorem wpP_three {c d g : List Nat} {r : List It} {a : Act} {w : World} (X Y Z : RG) (E F H : Outs → World → Prop) (hX : X.Ok L) (hY : Y.Ok L) (hZ : Z.Ok L) (hXY : X.With Y) (hXZ : X.With Z) (hYZ : Y.With Z)
    (h1 : Rob P ops Q X a c [] E w) (h2 : Rob P ops Q Y a d [] F w) (h3 : Rob P ops Q Z a g [] H w)
    (h : ∀ o1 o2 o3 w', L w w' → E o1 w' → F o2 w' → H o3 w' → wpP P ops Q L r (puts a (o1 ++ (o2 ++ o3))) w') : wpP P ops Q L (.p [c, d, g] :: r) a w := by
  refine ⟨[(E, X), (F, Y), (H, Z)], rfl, ?_, ?_, fun x hx => ?_, fun os w' hL hT => ?_⟩
  · intro e he
    simp only [List.mem_cons, List.not_mem_nil, or_false] at he
    rcases he with rfl | rfl | rfl <;> assumption
  · simp only [List.map_cons, List.map_nil, List.pairwise_cons, List.mem_cons, List.not_mem_nil, or_false, forall_eq_or_imp, forall_eq, List.Pairwise.nil, and_true, false_implies, implies_true]
    exact ⟨⟨hXY, hXZ⟩, hYZ⟩
  · simp only [List.zip_cons_cons, List.zip_nil_left, List.mem_cons, List.not_mem_nil, or_false] at hx
    rcases hx with rfl | rfl | rfl
    · exact h1
    · exact h2
    · exact h3
  · match os, hT with
    | [o1, o2, o3], hT => simpa using h o1 o2 o3 w' hL hT.1 hT.2.1 hT.2.2.1
/-- Chains that make memory alone. -/
def onlyNew (S : List Nat) : RG := ⟨Chg S, Chg S⟩
theorem onlyNew_ok (S : List Nat) : (onlyNew S).Ok (Chg S) := ⟨Chg.refl S, fun _ _ _ => Chg.trans, fun _ _ h => h⟩
theorem onlyNew_with (S : List Nat) : (onlyNew S).With (onlyNew S) := ⟨fun _ _ h => h, fun _ _ h => h⟩
theorem wpP_two' {S : List Nat} {c d : List Nat} {r : List It} {a : Act} {w : World} (E F : Outs → World → Prop) (h1 : Rob P ops Q (onlyNew S) a c [] E w) (h2 : Rob P ops Q (onlyNew S) a d [] F w)
    (h : ∀ o1 o2 w', Chg S w w' → E o1 w' → F o2 w' → wpP P ops Q (Chg S) r (puts a (o1 ++ o2)) w') : wpP P ops Q (Chg S) (.p [c, d] :: r) a w :=
  wpP_two _ _ E F (onlyNew_ok S) (onlyNew_ok S) (onlyNew_with S) h1 h2 h
theorem rob_C {X : RG} {i : Nat} {r : List Nat} {l : Outs} {E : Outs → World → Prop} {a : Act} {w : World} {o : Oper} (ho : nth ops.toList i = some o) (hw : Region.wanted o (yielded ops (puts a l).tmps) = true)
    (h : ∀ w', X.R w w' → ∀ K : Act → World → Prop, Hid (∀ v w'' b, b = (puts a l).put o.dst v → X.G w' w'' → Rob P ops Q X a r (l ++ [(o.dst, v)]) E w'' → K b w'') → o.wp P (puts a l) w' K Q) : Rob P ops Q X a (i :: r) l E w :=
  fun w' hL => ⟨o, nth_ops ho, .inl ⟨hw, h w' hL _ (fun v w'' b hb hL2 hR => ⟨hL2, v, hb, hR⟩)⟩⟩
theorem rob_G {X : RG} {i : Nat} {r : List Nat} {l : Outs} {E : Outs → World → Prop} {a : Act} {w : World} {o : Oper} (ho : nth ops.toList i = some o) (hw : Region.wanted o (yielded ops (puts a l).tmps) = false)
    (h : ∀ w', X.R w w' → Rob P ops Q X a r (l ++ [(o.dst, undef)]) E w') : Rob P ops Q X a (i :: r) l E w :=
  fun w' hL => ⟨o, nth_ops ho, .inr ⟨hw, h w' hL⟩⟩
theorem rob_nil {X : RG} {l : Outs} {E : Outs → World → Prop} {a : Act} {w : World} (h : ∀ w', X.R w w' → E l w') : Rob P ops Q X a [] l E w := h
theorem Rob.step {X : RG} {a : Act} {i : Nat} {r : List Nat} {l : Outs} {E : Outs → World → Prop} {w : World} (h : Rob P ops Q X a (i :: r) l E w) : ∀ w', X.R w w' → ∃ o, ops[i]? = some o ∧
      ((Region.wanted o (yielded ops (puts a l).tmps) = true ∧ o.wp P (puts a l) w' (fun a' w'' => X.G w' w'' ∧ ∃ v, a' = (puts a l).put o.dst v ∧ Rob P ops Q X a r (l ++ [(o.dst, v)]) E w'') Q) ∨
       (Region.wanted o (yielded ops (puts a l).tmps) = false ∧ Rob P ops Q X a r (l ++ [(o.dst, undef)]) E w')) := h
theorem Rob.done {X : RG} {a : Act} {l : Outs} {E : Outs → World → Prop} {w : World} (h : Rob P ops Q X a [] l E w) : ∀ w', X.R w w' → E l w' := h
end
attribute [irreducible] wpP Rob
end Go.Proofs.Ytcepbindmdakkaa

/- Maps whose keys and elements are arrays of integers. -/
set_option linter.unusedSimpArgs false
set_option linter.unusedVariables false
set_option maxRecDepth 100000
namespace Go.Proofs.Ytcepbindmdakkaa
open Go.RowKit

/-- An array of integers of kind k, by value. -/
def arrN (k : IntKind) (l : List Nat) : Value := .agg (l.map fun (c : Nat) => Value.int k (c : Int)).toArray

theorem run_part_arr {P : Program} {e : TypeId} {k : IntKind} (he : P.underlying e = some (.int k)) (l : List Nat) (i : Nat) (x : Nat) (hi : l[i]? = some x) (w : World) :
    (part e (l.map fun (c : Nat) => Value.int k (c : Int)).toArray i).run P w = .ok (.int k (x : Int)) w := by
  simp [part, isAgg, run_underlying he, hi]

theorem run_eqItems_arr {P : Program} {e : TypeId} {k : IntKind} (he : P.underlying e = some (.int k)) (hc : P.cellsOf e = 1) (d : Nat) (w : World) :
    ∀ (xs ys px py : List Nat), xs.length = ys.length → px.length = py.length →
    (Op.eqItems (d + 1) e (P.cellsOf e) ((px ++ xs).map fun (c : Nat) => Value.int k (c : Int)).toArray ((py ++ ys).map fun (c : Nat) => Value.int k (c : Int)).toArray (List.range' px.length xs.length)).run P w = .ok (xs == ys) w
  | [], [], _, _, _, _ => by simp [Op.eqItems]
  | [], y :: ys, _, _, h, _ => by simp at h
  | x :: xs, [], _, _, h, _ => by simp at h
  | x :: xs, y :: ys, px, py, h, hp => by
    have ih := run_eqItems_arr he hc d w xs ys (px ++ [x]) (py ++ [y]) (by simpa using h) (by simp [hp])
    rw [List.append_assoc, List.append_assoc, List.singleton_append, List.singleton_append, List.length_append, List.length_singleton] at ih
    rw [List.length_cons, List.range'_succ]
    have p1 := run_part_arr he (px ++ x :: xs) px.length x (by simp) w
    have p2 := run_part_arr he (py ++ y :: ys) px.length y (by rw [hp]; simp) w
    have p3 := run_equalIn_int (P := P) w d e k k (x : Int) (y : Int) he
    simp only [Op.eqItems, hc, Nat.mul_one, Sem.run_bind, p1, p2, p3, Result.andThen_ok]
    rw [hc] at ih
    by_cases hxy : x = y
    · subst hxy
      simp only [beq_self_eq_true, Bool.not_true, Bool.false_eq_true, if_false]
      rw [ih]
      simp
    · have e1 : ((x : Int) == (y : Int)) = false := by simp; omega
      have e2 : (x :: xs == y :: ys) = false := by simp [hxy]
      rw [e1, e2]
      simp

/-- Two arrays are the same. -/
theorem run_equalIn_arrN {P : Program} {t e : TypeId} {k : IntKind} {n : Nat} (ht : P.underlying t = some (.array n e)) (he : P.underlying e = some (.int k)) (hc : P.cellsOf e = 1)
    (d : Nat) (xs ys : List Nat) (hx : xs.length = n) (hy : ys.length = n) (w : World) : (Op.equalIn (d + 2) t (arrN k xs) (arrN k ys)).run P w = .ok (xs == ys) w := by
  obtain ⟨i, hi⟩ := info_of_underlying he
  unfold arrN
  rw [run_equalIn_array w (d + 1) _ _ ht hi, List.range_eq_range']
  have := run_eqItems_arr he hc d w xs ys [] [] (by omega) rfl
  simpa [hx] using this

theorem run_equal_arrN {P : Program} {t e : TypeId} {k : IntKind} {n : Nat} (ht : P.underlying t = some (.array n e)) (he : P.underlying e = some (.int k)) (hc : P.cellsOf e = 1)
    (xs ys : List Nat) (hx : xs.length = n) (hy : ys.length = n) (w : World) : (Op.equal t (arrN k xs) (arrN k ys)).run P w = .ok (xs == ys) w :=
  run_equalIn_arrN ht he hc 9998 xs ys hx hy w

/-- What an association list has at a key. -/
def alGet : List (List Nat × List Nat) → List Nat → Option (List Nat)
  | [], _ => none
  | p :: r, x => if p.1 == x then some p.2 else alGet r x
/-- The list with v at key x. -/
def alPut : List (List Nat × List Nat) → List Nat → List Nat → List (List Nat × List Nat)
  | [], x, v => [(x, v)]
  | p :: r, x, v => if p.1 == x then (x, v) :: r else p :: alPut r x v
theorem alGet_put : ∀ (l : List (List Nat × List Nat)) (x v y : List Nat), alGet (alPut l x v) y = if x == y then some v else alGet l y
  | [], x, v, y => by simp [alGet, alPut]
  | p :: r, x, v, y => by
    unfold alPut
    by_cases h : p.1 == x
    · rw [if_pos h]
      simp only [alGet]
      by_cases h2 : x == y
      · simp [h2]
      · have h3 : (p.1 == y) = false := by
          rw [eq_of_beq h]
          simpa using h2
        simp [h2, h3]
    · rw [if_neg h]
      simp only [alGet, alGet_put r x v y]
      by_cases h2 : p.1 == y
      · have h3 : (x == y) = false := by
          rw [← eq_of_beq h2]
          simp only [beq_eq_false_iff_ne, ne_eq]
          intro e
          subst e
          simp at h
        simp [h2, h3]
      · simp [h2]
/-- Where the key is. -/
def alFind : List (List Nat × List Nat) → List Nat → Nat → Option (Nat × List Nat)
  | [], _, _ => none
  | p :: r, x, i => if p.1 == x then some (i, p.2) else alFind r x (i + 1)
theorem alFind_get : ∀ (l : List (List Nat × List Nat)) (x : List Nat) (i : Nat), (alFind l x i).map (·.2) = alGet l x
  | [], _, _ => rfl
  | p :: r, x, i => by
    unfold alFind alGet
    split
    · rfl
    · exact alFind_get r x (i + 1)

/-- The entries of a map of arrays. -/
def EntsA (k kv : IntKind) (n : Nat) (es : List MapEntry) (al : List (List Nat × List Nat)) : Prop :=
  es.map (fun e => (e.key, e.val)) = al.map (fun p => (arrN k p.1, arrN kv p.2)) ∧ ∀ p ∈ al, p.1.length = n

theorem run_findAsking_arr {P : Program} {t e : TypeId} {k kv : IntKind} {n : Nat} (ht : P.underlying t = some (.array n e)) (he : P.underlying e = some (.int k)) (hc : P.cellsOf e = 1) (x : List Nat) (hx : x.length = n) (w : World) :
    ∀ (es : List MapEntry) (al : List (List Nat × List Nat)) (i : Nat), EntsA k kv n es al → (Instr.findAsking t (arrN k x) es i).run P w = .ok ((alFind al x i).map fun p => (p.1, arrN kv p.2)) w
  | [], [], _, _ => by simp [Instr.findAsking, alFind]
  | [], p :: al, _, h => by simp [EntsA] at h
  | m :: es, [], _, h => by simp [EntsA] at h
  | m :: es, p :: al, i, h => by
    obtain ⟨h1, h2⟩ := h
    simp only [List.map_cons, List.cons.injEq, Prod.mk.injEq] at h1
    have ih := run_findAsking_arr ht he hc x hx w es al (i + 1) ⟨h1.2, fun q hq => h2 q (by simp [hq])⟩
    have heq := run_equal_arrN ht he hc x p.1 hx (h2 p (by simp)) w
    unfold Instr.findAsking alFind
    simp only [Sem.run_bind, h1.1.1, heq, Result.andThen_ok]
    by_cases hxp : p.1 == x
    · have e1 := eq_of_beq hxp
      have : (x == p.1) = true := by rw [e1]; simp
      rw [if_pos hxp, this]
      simp [h1.1.2]
    · have : (x == p.1) = false := by
        simp only [beq_eq_false_iff_ne, ne_eq]
        intro e2
        subst e2
        simp at hxp
      rw [if_neg hxp, this]
      simpa using ih

theorem run_findKey_arr {P : Program} {t e : TypeId} {k kv : IntKind} {n : Nat} (ht : P.underlying t = some (.array n e)) (he : P.underlying e = some (.int k)) (hc : P.cellsOf e = 1) (x : List Nat) (hx : x.length = n) (w : World)
    (es : List MapEntry) (al : List (List Nat × List Nat)) (h : EntsA k kv n es al) : (Instr.findKey t (arrN k x) es).run P w = .ok ((alFind al x 0).map fun p => (p.1, arrN kv p.2)) w := by
  have hA := run_findAsking_arr ht he hc x hx w es al 0 h
  unfold Instr.findKey
  simp only [Sem.run_bind, run_underlying ht, Result.andThen_ok]
  cases es with
  | nil =>
    simp only [Instr.findNow]
    cases al with
    | nil => simp [alFind]
    | cons p al => simp [EntsA] at h
  | cons m es => simpa [Instr.findNow, Instr.sameNow] using hA

theorem run_checkKey_arr {P : Program} {t e : TypeId} {k : IntKind} {n : Nat} (ht : P.underlying t = some (.array n e)) (he : P.underlying e = some (.int k)) (hc : P.cellsOf e = 1) (x : List Nat) (hx : x.length = n) (w : World) (em : Bool) :
    (Instr.checkKey em 10000 t (arrN k x)).run P w = .ok () w := by
  obtain ⟨i, hi⟩ := info_of_underlying he
  unfold Instr.checkKey
  simp only [Sem.run_bind, run_underlying ht, Result.andThen_ok, arrN]
  simp only [Std.Legacy.Range.forIn_eq_forIn_range', Std.Legacy.Range.size, Nat.sub_zero, Nat.add_one_sub_one, Nat.div_one]
  have key : ∀ (is : List Nat), (∀ j ∈ is, j < n) → (forIn is PUnit.unit fun i (_ : PUnit) => do
      let n ← Go.sizeOf e
      let v ← part e (x.map fun (c : Nat) => Value.int k (c : Int)).toArray (i * n)
      Instr.checkKey em 9999 e v
      pure (ForInStep.yield PUnit.unit) : Sem PUnit).run P w = .ok PUnit.unit w := by
    intro is
    induction is with
    | nil => intro _; simp
    | cons j is ih =>
      intro hj
      have hjn : j < x.length := by have := hj j (by simp); omega
      simp only [List.forIn_cons, Sem.run_bind, run_sizeOf w hi, Result.andThen_ok, hc, Nat.mul_one]
      rw [run_part_arr he x j x[j] (List.getElem?_eq_getElem hjn)]
      simp only [Result.andThen_ok]
      rw [Go.MapKept.run_checkKey (d := .int k) he (k := .int k (x[j] : Int)) (by simp [Go.MapKept.IsKey]) em 9998]
      simp only [Result.andThen_ok, Sem.run_pure]
      exact ih (fun i hi => hj i (by simp [hi]))
  have := key (List.range' 0 n) (fun j hj => by simp [List.mem_range'] at hj; omega)
  simp only [bind_pure_comp] at this
  simp only [bind_pure_comp]
  rw [this]
  rfl

/-- Block g is a map of arrays: at key x it has g x. -/
def MapA (k kv : IntKind) (n : Nat) (w : World) (b : Nat) (g : List Nat → Option (List Nat)) : Prop :=
  ∃ (es : Array MapEntry) (clk : Nat) (al : List (List Nat × List Nat)), MapB w b es clk ∧ EntsA k kv n es.toList al ∧ ∀ x, alGet al x = g x

theorem MapA.chg {k kv : IntKind} {n : Nat} {w w' : World} {b : Nat} {g : List Nat → Option (List Nat)} {S : List Nat} (h : MapA k kv n w b g) (hc : Chg S w w') (hn : b ∉ S) : MapA k kv n w' b g := by
  obtain ⟨es, clk, al, h1, h2⟩ := h
  exact ⟨es, clk, al, h1.chg hc hn, h2⟩
theorem MapA.lt {k kv : IntKind} {n : Nat} {w : World} {b : Nat} {g : List Nat → Option (List Nat)} (h : MapA k kv n w b g) : b < w.heap.size := by
  obtain ⟨es, clk, al, h1, h2⟩ := h
  exact h1.lt
theorem MapA.setCell {k kv : IntKind} {n : Nat} {w : World} {b : Nat} {g : List Nat → Option (List Nat)} (h : MapA k kv n w b g) (c o : Nat) (u : Value) : MapA k kv n (w.setCell ⟨c, o, none⟩ u) b g := by
  obtain ⟨es, clk, al, h1, h2⟩ := h
  exact ⟨es, clk, al, h1.setCell u, h2⟩
theorem MapA.alloc {k kv : IntKind} {n : Nat} {w : World} {b : Nat} {g : List Nat → Option (List Nat)} (h : MapA k kv n w b g) (o : Obj) : MapA k kv n (w.alloc o) b g :=
  h.chg (S := []) ((Chg.refl _ _).alloc o) (by simp)
theorem MapA.drew {k kv : IntKind} {n : Nat} {w : World} {b : Nat} {g : List Nat → Option (List Nat)} (h : MapA k kv n w b g) : MapA k kv n w.drew b g := h
theorem MapA.ne_blk {k kv : IntKind} {n : Nat} {w : World} {b g' : Nat} {g : List Nat → Option (List Nat)} {t : TypeId} {cs : Array Value} (h : MapA k kv n w b g) (h' : Blk w g' t cs) : b ≠ g' := by
  obtain ⟨es, clk, al, h1, h2⟩ := h
  exact h1.ne_blk h'
theorem MapA.new (k kv : IntKind) (n : Nat) (w : World) : MapA k kv n (w.alloc (.map #[] 0)) w.heap.size fun _ => none :=
  ⟨#[], 0, [], heap_alloc_new w _, ⟨rfl, by simp⟩, fun _ => rfl⟩

/-- 'm[x]'. -/
theorem MapA.lookup {P : Program} {k kv : IntKind} {n : Nat} {w : World} {b : Nat} {g : List Nat → Option (List Nat)} (h : MapA k kv n w b g) {T t te e : TypeId} {z : Value} (hT : P.underlying T = some (.map t te)) (ht : P.underlying t = some (.array n e)) (he : P.underlying e = some (.int k)) (hc : P.cellsOf e = 1)
    (hz : ∀ W, (zeroValue te).run P W = .ok z W) (x : List Nat) (hx : x.length = n) : (Instr.lookup T (.map (some b)) (arrN k x) false).run P w = .ok (((g x).map (arrN kv)).getD z) w := by
  obtain ⟨es, clk, al, h1, h2, h3⟩ := h
  unfold Instr.lookup
  simp only [Sem.run_bind, run_underlying hT, Result.andThen_ok, Go.MapKept.run_getObj_map h1, Sem.run_pure, run_checkKey_arr ht he hc x hx, run_findKey_arr ht he hc x hx w _ al h2]
  rw [← h3 x, ← alFind_get al x 0]
  cases alFind al x 0 with
  | none => simp [hz]
  | some p => simp

theorem sameBits_arr (m : Nat) (k : IntKind) : ∀ x : List Nat, Instr.sameBits (m + 2) (arrN k x) (arrN k x) = true := by
  intro x
  unfold arrN Instr.sameBits
  simp only [beq_self_eq_true, Bool.true_and]
  rw [List.all_eq_true]
  intro p hp
  have : p.1 = p.2 ∧ ∃ c : Nat, p.1 = .int k (c : Int) := by
    have h1 : p ∈ (x.map fun (c : Nat) => Value.int k (c : Int)).zip (x.map fun (c : Nat) => Value.int k (c : Int)) := by simpa using hp
    rw [List.mem_iff_getElem] at h1
    obtain ⟨i, hi, rfl⟩ := h1
    exact ⟨by simp, x[i]'(by simpa using hi), by simp⟩
  obtain ⟨e1, c, e2⟩ := this
  rw [← e1, e2]
  simp [Instr.sameBits]

/-- 'm[x] = v'. -/
theorem MapA.update {P : Program} {k kv : IntKind} {n : Nat} {w : World} {b : Nat} {g : List Nat → Option (List Nat)} (h : MapA k kv n w b g) {T t te e : TypeId} (hT : P.underlying T = some (.map t te)) (ht : P.underlying t = some (.array n e)) (he : P.underlying e = some (.int k)) (hc : P.cellsOf e = 1)
    (x v : List Nat) (hx : x.length = n) : ∃ o, (Instr.mapUpdate T (.map (some b)) (arrN k x) (arrN kv v)).run P w = .ok () (putObj w b o) ∧ ∀ w', w'.heap[b]? = some o → MapA k kv n w' b fun y => if x == y then some v else g y := by
  obtain ⟨es, clk, al, h1, h2, h3⟩ := h
  have hfin : ∀ (es' : Array MapEntry) (clk' : Nat), EntsA k kv n es'.toList (alPut al x v) → ∀ w' : World, w'.heap[b]? = some (.map es' clk') → MapA k kv n w' b fun y => if x == y then some v else g y := by
    intro es' clk' he' w' hw'
    refine ⟨es', clk', _, hw', he', fun y => ?_⟩
    rw [alGet_put, h3]
  unfold Instr.mapUpdate
  simp only [Sem.run_bind, run_underlying hT, Result.andThen_ok, Go.MapKept.run_getObj_map h1, Sem.run_pure, run_checkKey_arr ht he hc x hx, run_findKey_arr ht he hc x hx w _ al h2]
  have hf : ∀ (es : List MapEntry) (al : List (List Nat × List Nat)) (i : Nat), EntsA k kv n es al →
      (alFind al x i = none ∧ (∀ m : MapEntry, m.key = arrN k x → m.val = arrN kv v → EntsA k kv n (es ++ [m]) (alPut al x v))) ∨
      (∃ j u m, alFind al x i = some (i + j, u) ∧ es[j]? = some m ∧ m.key = arrN k x ∧ (∀ m' : MapEntry, m'.key = arrN k x → m'.val = arrN kv v → EntsA k kv n (es.set j m') (alPut al x v))) := by
    intro es
    induction es with
    | nil =>
      intro al i h
      cases al with
      | cons p al => simp [EntsA] at h
      | nil => exact .inl ⟨rfl, fun m h1 h2 => ⟨by simp [alPut, h1, h2], by simp [alPut, hx]⟩⟩
    | cons m es ih =>
      intro al i h
      cases al with
      | nil => simp [EntsA] at h
      | cons p al =>
        obtain ⟨q1, q2⟩ := h
        simp only [List.map_cons, List.cons.injEq, Prod.mk.injEq] at q1
        have h' : EntsA k kv n es al := ⟨q1.2, fun q hq => q2 q (by simp [hq])⟩
        by_cases hxp : p.1 == x
        · right
          refine ⟨0, p.2, m, by simp [alFind, hxp], rfl, by rw [q1.1.1, eq_of_beq hxp], fun m' h1 h2 => ?_⟩
          unfold alPut
          rw [if_pos hxp]
          refine ⟨by simp [h1, h2, q1.2], fun q hq => ?_⟩
          rw [List.mem_cons] at hq
          rcases hq with rfl | hq
          · exact hx
          · exact q2 q (by simp [hq])
        · have e2 : alFind (p :: al) x i = alFind al x (i + 1) := by simp [alFind, hxp]
          have e3 : alPut (p :: al) x v = p :: alPut al x v := by simp [alPut, hxp]
          rw [e2, e3]
          rcases ih al (i + 1) h' with ⟨g1, g2⟩ | ⟨j, u, m1, g1, g2, g3, g4⟩
          · left
            refine ⟨g1, fun m' k1 k2 => ?_⟩
            obtain ⟨r1, r2⟩ := g2 m' k1 k2
            refine ⟨?_, fun q hq => ?_⟩
            · rw [List.cons_append, List.map_cons, List.map_cons, r1, q1.1.1, q1.1.2]
            · rw [List.mem_cons] at hq
              rcases hq with rfl | hq
              · exact q2 _ (by simp)
              · exact r2 q hq
          · right
            refine ⟨j + 1, u, m1, by rw [g1]; congr 2; omega, by simpa using g2, g3, fun m' k1 k2 => ?_⟩
            obtain ⟨r1, r2⟩ := g4 m' k1 k2
            refine ⟨?_, fun q hq => ?_⟩
            · rw [List.set_cons_succ, List.map_cons, List.map_cons, r1, q1.1.1, q1.1.2]
            · rw [List.mem_cons] at hq
              rcases hq with rfl | hq
              · exact q2 _ (by simp)
              · exact r2 q hq
  rcases hf es.toList al 0 h2 with ⟨e1, e2⟩ | ⟨j, u, m, e1, e2, e3, e4⟩
  · rw [e1]
    simp only [Option.map_none]
    refine ⟨_, Go.MapKept.run_setObj_map _ h1, hfin _ _ ?_⟩
    rw [Array.toList_push]
    exact e2 _ rfl rfl
  · rw [e1]
    simp only [Option.map_some, Nat.zero_add]
    have hm : es[j]? = some m := by rw [← Array.getElem?_toList]; exact e2
    simp only [hm, Option.map_some, Option.getD_some, e3]
    have hstay : (Instr.keyThatStays (arrN k x) (arrN k x)).run P w = .ok (arrN k x) w := by
      unfold Instr.keyThatStays
      rw [if_pos (sameBits_arr 9998 k x)]
      simp
    rw [Sem.run_bind, hstay]
    simp only [Result.andThen_ok]
    refine ⟨_, Go.MapKept.run_setObj_map _ h1, hfin _ _ ?_⟩
    have hset : (es.modify j fun e => { e with key := arrN k x, val := arrN kv v }).toList = es.toList.set j { m with key := arrN k x, val := arrN kv v } := by
      apply List.ext_getElem?
      intro i
      rw [Array.getElem?_toList, Array.getElem?_modify, List.getElem?_set]
      by_cases hij : j = i
      · subst hij
        have hlt : j < es.toList.length := (List.getElem?_eq_some_iff.1 e2).1
        rw [if_pos rfl, if_pos rfl, if_pos hlt, hm]
        rfl
      · rw [if_neg hij, if_neg hij, Array.getElem?_toList]
    rw [hset]
    exact e4 _ rfl rfl
end Go.Proofs.Ytcepbindmdakkaa

/- A disk, as mathematics. -/
set_option linter.unusedSimpArgs false
set_option linter.unusedVariables false
set_option maxRecDepth 100000
namespace Go.Proofs.Ytcepbindmdakkaa

/-- Contents: sectors that were written, and lengths. -/
structure Cont where
  get : Nat → Nat → Option (List Nat)
  len : Nat → Nat

/-- Bytes of a sector. -/
def SecOk (b : List Nat) : Prop := b.length = 128 ∧ ∀ c ∈ b, c < 256

def Cont.empty : Cont := ⟨fun _ _ => none, fun _ => 0⟩
def Cont.put (c : Cont) (f s : Nat) (b : List Nat) : Cont :=
  ⟨fun g t => if g = f ∧ t = s then some b else c.get g t, fun g => if g = f then max (c.len g) (s + 1) else c.len g⟩

/-- A write. -/
structure Wr where
  f : Nat
  s : Nat
  b : List Nat
def Wr.ok (x : Wr) : Prop := x.f < 2 ∧ x.s < 65536 ∧ SecOk x.b
def Cont.wr (c : Cont) (x : Wr) : Cont := c.put x.f x.s x.b

structure Cont.ok (c : Cont) : Prop where
  sec : ∀ f s b, c.get f s = some b → f < 2 ∧ s < c.len f ∧ SecOk b
  len : ∀ f, c.len f ≤ 65536

theorem Cont.ok_empty : Cont.empty.ok := ⟨fun f s b h => by simp [Cont.empty] at h, fun f => by simp [Cont.empty]⟩
theorem Cont.ok_wr {c : Cont} (h : c.ok) {x : Wr} (hx : x.ok) : (c.wr x).ok := by
  obtain ⟨h1, h2⟩ := h
  obtain ⟨x1, x2, x3⟩ := hx
  refine ⟨fun f s b hb => ?_, fun f => ?_⟩
  · simp only [Cont.wr, Cont.put] at hb ⊢
    by_cases hfs : f = x.f ∧ s = x.s
    · rw [if_pos hfs] at hb
      obtain ⟨rfl, rfl⟩ := hfs
      obtain rfl := Option.some.inj hb
      refine ⟨x1, ?_, x3⟩
      rw [if_pos rfl]; omega
    · rw [if_neg hfs] at hb
      obtain ⟨g1, g2, g3⟩ := h1 f s b hb
      refine ⟨g1, ?_, g3⟩
      split
      · rename_i e; subst e; omega
      · exact g2
  · simp only [Cont.wr, Cont.put]
    have := h2 f
    split
    · omega
    · exact this

/-- The state of a disk. -/
structure DS where
  quota : Nat
  vis : Cont
  dur : Cont
  pend : List Wr
  calls : Nat
  left : Option Nat
  down : Bool

structure DS.ok (d : DS) : Prop where
  quota : 1 ≤ d.quota ∧ d.quota ≤ 65536
  vis : d.vis.ok
  dur : d.dur.ok
  pend : ∀ x ∈ d.pend, x.ok
  left : ∀ n, d.left = some n → n < 9223372036854775808

/-- The number that the program keeps for calls that are left. -/
def leftI : Option Nat → Int
  | none => -1
  | some n => n

def DS.new (q : Nat) : DS := ⟨q, .empty, .empty, [], 0, none, false⟩
theorem DS.new_ok {q : Nat} (h1 : 1 ≤ q) (h2 : q ≤ 65536) : (DS.new q).ok := ⟨⟨h1, h2⟩, Cont.ok_empty, Cont.ok_empty, by simp [DS.new], by simp [DS.new]⟩

/-- A call that changes something: the state behind it, and whether it may go on. -/
def DS.change (d : DS) : DS × Bool := match d.left with
  | some 0 => ({ d with down := true }, false)
  | l => ({ d with left := l.map (· - 1), calls := d.calls + 1 }, true)

theorem DS.change_ok {d : DS} (h : d.ok) : d.change.1.ok := by
  obtain ⟨h1, h2, h3, h4, h5⟩ := h
  unfold DS.change
  split
  · exact ⟨h1, h2, h3, h4, h5⟩
  · refine ⟨h1, h2, h3, h4, fun n hn => ?_⟩
    simp only [Option.map_eq_some_iff] at hn
    obtain ⟨m, hm, rfl⟩ := hn
    have := h5 m hm
    omega

def noughts : List Nat := List.replicate 128 0
theorem noughts_ok : SecOk noughts := ⟨by simp [noughts], by simp [noughts]⟩

/-- What Read hands back: an error, or the bytes. -/
def DS.read (d : DS) (f s : Int) : Except Nat (List Nat) :=
  if (f < 0 ∨ 2 ≤ f) ∨ s < 0 then .error 1 else if d.down then .error 51 else if (d.vis.len f.toNat : Int) ≤ s then .error 4 else .ok ((d.vis.get f.toNat s.toNat).getD noughts)

/-- May the sector be written under the quota? -/
def DS.fits (d : DS) (f s : Nat) : Bool := decide (s < d.vis.len f) || decide (s + 1 + d.vis.len (1 - f) ≤ d.quota)

def DS.put (d : DS) (x : Wr) : DS := { d with vis := d.vis.wr x, pend := d.pend ++ [x] }
theorem DS.put_ok {d : DS} (h : d.ok) {x : Wr} (hx : x.ok) : (d.put x).ok := by
  obtain ⟨h1, h2, h3, h4, h5⟩ := h
  refine ⟨h1, Cont.ok_wr h2 hx, h3, fun y hy => ?_, h5⟩
  rcases List.mem_append.1 hy with hy | hy
  · exact h4 y hy
  · obtain rfl := List.mem_singleton.1 hy; exact hx

/-- What Write hands back, and the state behind it. -/
def DS.write (d : DS) (f s : Int) (b : List Nat) : Nat × DS :=
  if (f < 0 ∨ 2 ≤ f) ∨ s < 0 ∨ 65535 < s ∨ b.length ≠ 128 then (1, d) else if d.down then (51, d) else if d.fits f.toNat s.toNat = false then (50, d)
  else match d.change with
    | (d', false) => (51, d')
    | (d', true) => (0, d'.put ⟨f.toNat, s.toNat, b⟩)

def DS.sync (d : DS) (f : Int) : Nat × DS :=
  if f < 0 ∨ 2 ≤ f then (1, d) else if d.down then (51, d) else match d.change with
    | (d', false) => (51, d')
    | (d', true) => (0, { d' with dur := (d'.pend.filter fun x => x.f == f.toNat).foldl Cont.wr d'.dur, pend := d'.pend.filter fun x => x.f != f.toNat })

/-- Is bit i of keep 1? -/
def bitOf (keep : List Nat) (i : Nat) : Bool := (keep.getD (i / 8) 0 / 2 ^ (i % 8)) % 2 == 1

/-- Those of the writes that are kept, the first of which has number i. -/
def keptOf (keep : List Nat) : List Wr → Nat → List Wr
  | [], _ => []
  | x :: r, i => if bitOf keep i then x :: keptOf keep r (i + 1) else keptOf keep r (i + 1)

def DS.crash (d : DS) (keep : List Nat) : DS :=
  let c := (keptOf keep d.pend 0).foldl Cont.wr d.dur
  { d with vis := c, dur := c, pend := [], left := none, down := false }

theorem foldl_ok {c : Cont} (h : c.ok) : ∀ (l : List Wr), (∀ x ∈ l, x.ok) → (l.foldl Cont.wr c).ok := by
  intro l
  induction l generalizing c with
  | nil => intro _; exact h
  | cons x l ih => intro hl; exact ih (Cont.ok_wr h (hl x (by simp))) (fun y hy => hl y (by simp [hy]))
theorem kept_mem (keep : List Nat) : ∀ (l : List Wr) (i : Nat) (x : Wr), x ∈ keptOf keep l i → x ∈ l
  | [], _, _, h => by simp [keptOf] at h
  | y :: r, i, x, h => by
    unfold keptOf at h
    split at h
    · rcases List.mem_cons.1 h with rfl | h
      · simp
      · exact List.mem_cons_of_mem _ (kept_mem keep r _ x h)
    · exact List.mem_cons_of_mem _ (kept_mem keep r _ x h)

theorem DS.sync_ok {d : DS} (h : d.ok) (f : Int) : (d.sync f).2.ok := by
  unfold DS.sync
  have hc := DS.change_ok h
  split
  · exact h
  · split
    · exact h
    · split
      · rename_i d' e; rw [e] at hc; exact hc
      · rename_i d' e
        rw [e] at hc
        obtain ⟨h1, h2, h3, h4, h5⟩ := hc
        exact ⟨h1, h2, foldl_ok h3 _ (fun x hx => h4 x (List.mem_filter.1 hx).1), fun x hx => h4 x (List.mem_filter.1 hx).1, h5⟩
theorem DS.write_ok {d : DS} (h : d.ok) (f s : Int) {b : List Nat} (hb : ∀ c ∈ b, c < 256) : (d.write f s b).2.ok := by
  unfold DS.write
  have hc := DS.change_ok h
  split
  · exact h
  · rename_i hn
    split
    · exact h
    · split
      · exact h
      · split
        · rename_i d' e; rw [e] at hc; exact hc
        · rename_i d' e
          rw [e] at hc
          exact DS.put_ok hc ⟨by show f.toNat < 2; omega, by show s.toNat < 65536; omega, by show b.length = 128; omega, hb⟩
theorem DS.crash_ok {d : DS} (h : d.ok) (keep : List Nat) : (d.crash keep).ok := by
  obtain ⟨h1, h2, h3, h4, h5⟩ := h
  have := foldl_ok h3 (keptOf keep d.pend 0) (fun x hx => h4 x (kept_mem keep _ _ x hx))
  exact ⟨h1, this, this, by simp [DS.crash], by simp [DS.crash]⟩
end Go.Proofs.Ytcepbindmdakkaa

/- The disk in memory; its small methods. -/
set_option linter.unusedSimpArgs false
set_option linter.unusedVariables false
set_option maxRecDepth 100000
namespace Go.Proofs.Ytcepbindmdakkaa
open Go.RowKit

/-- The cells of a write. -/
def Wr.cells (x : Wr) : List Value := .int .i64 (x.f : Int) :: .int .i64 (x.s : Int) :: x.b.map fun (c : Nat) => Value.int .u8 (c : Int)
def cellsW (l : List Wr) : List Value := l.flatMap Wr.cells

/-- What a map of sectors has at a key. -/
def Cont.key (c : Cont) (x : List Nat) : Option (List Nat) := match x with
  | [f, s] => c.get f s
  | _ => none

/-- The row of a disk. -/
def rowD (B : Nat) (d : DS) (Mv Md : Nat) (pv : Value) : Array Value :=
  #[.pointer (some ⟨B, 0, none⟩), .int .i64 (d.quota : Int), .map (some Mv), .int .i64 (d.vis.len 0 : Int), .int .i64 (d.vis.len 1 : Int), .map (some Md), .int .i64 (d.dur.len 0 : Int), .int .i64 (d.dur.len 1 : Int), pv,
    .int .i64 (d.calls : Int), .int .i64 (leftI d.left), .bool d.down]

def footD (B Mv Md : Nat) (pv : Value) : List Nat := B :: Mv :: Md :: pv.ownBlock.toList

theorem own_ne_map {w : World} {base : Nat} {e : TypeId} {size n : Nat} {v : Value} {xs : List Value} (h : w.ownsRow base e size v n xs) {k kv : IntKind} {m : Nat} {b : Nat} {g : List Nat → Option (List Nat)} (hb : MapA k kv m w b g) : v.ownBlock ≠ some b := by
  rcases h.2 with ⟨rfl, _⟩ | ⟨g', cap, cur, rfl, _, hh, _⟩
  · simp [Value.ownBlock]
  · intro he
    have : g' = b := by simpa [Value.ownBlock] using he
    subst this
    exact hb.ne_blk (t := e) hh rfl

/-! Equal pointers -/
theorem run_eql_same {P : Program} {t e : TypeId} {n : Nat} (a : Addr) (ht : P.underlying t = some (.pointer e)) (hi : (P.info? e).map (·.size) = some (n + 1)) (w : World) :
    (binOp .eql t (.pointer (some a)) (.pointer (some a))).run P w = .ok (.bool true) w := by
  cases hq : P.info? e with
  | none => simp [hq] at hi
  | some i =>
    have hs : i.size = n + 1 := by simpa [hq] using hi
    have : ∀ d, (Op.equalIn (d + 1) t (.pointer (some a)) (.pointer (some a))).run P w = .ok true w := by
      intro d
      simp [Op.equalIn, run_underlying ht, sizeOf, typeInfo, hq, hs, sameAddr]
    have h2 : (Op.equal t (.pointer (some a)) (.pointer (some a))).run P w = .ok true w := this 9999
    simp only [binOp]
    simp [h2]
theorem run_eql_none {P : Program} {t e : TypeId} (a : Addr) (ht : P.underlying t = some (.pointer e)) (w : World) :
    (binOp .eql t (.pointer none) (.pointer (some a))).run P w = .ok (.bool false) w := by
  have : ∀ d, (Op.equalIn (d + 1) t (.pointer none) (.pointer (some a))).run P w = .ok false w := by
    intro d
    simp [Op.equalIn, run_underlying ht]
  have h2 : (Op.equal t (.pointer none) (.pointer (some a))).run P w = .ok false w := this 9999
  simp only [binOp]
  simp [h2]

/-! made, isFile, isQuota -/
def isFileB (f : Int) : Bool := decide (0 ≤ f) && decide (f < 2)
def isQuotaB (q : Int) : Bool := decide (1 ≤ q) && decide (q ≤ 65536)
end Go.Proofs.Ytcepbindmdakkaa

/- What chains that run side by side keep of each other: all but, of what was made since, rows of one type of element. -/
set_option linter.unusedSimpArgs false
set_option linter.unusedVariables false
set_option maxRecDepth 100000
namespace Go.Proofs.Ytcepbindmdakkaa
open Go.RowKit

/-- Nothing is changed but, of the blocks from N on, those of which p holds. -/
structure Kp (N : Nat) (p : Option Obj → Prop) (w w' : World) : Prop where
  os : w'.os = w.os
  tape : w'.tape = w.tape
  output : w'.output = w.output
  size : w.heap.size ≤ w'.heap.size
  block : ∀ k, k < w.heap.size → w'.heap[k]? = w.heap[k]? ∨ (N ≤ k ∧ p w.heap[k]?)
theorem Kp.refl (N : Nat) (p : Option Obj → Prop) (w : World) : Kp N p w w := ⟨rfl, rfl, rfl, Nat.le_refl _, fun _ _ => .inl rfl⟩
theorem Kp.trans {N : Nat} {p : Option Obj → Prop} {a b c : World} (h : Kp N p a b) (k : Kp N p b c) : Kp N p a c := by
  refine ⟨k.os.trans h.os, k.tape.trans h.tape, k.output.trans h.output, Nat.le_trans h.size k.size, fun i hi => ?_⟩
  rcases h.block i hi with h1 | h1
  · rcases k.block i (Nat.lt_of_lt_of_le hi h.size) with h2 | h2
    · exact .inl (h2.trans h1)
    · exact .inr (by rw [← h1]; exact h2)
  · exact .inr h1
theorem Kp.mono {N : Nat} {p q : Option Obj → Prop} {a b : World} (h : Kp N p a b) (hpq : ∀ o, p o → q o) : Kp N q a b :=
  ⟨h.os, h.tape, h.output, h.size, fun i hi => (h.block i hi).imp id fun h => ⟨h.1, hpq _ h.2⟩⟩
theorem Kp.of_chg {N : Nat} {p : Option Obj → Prop} {S : List Nat} {w w' : World} (h : Chg S w w') (hS : ∀ k ∈ S, N ≤ k ∧ p w.heap[k]?) : Kp N p w w' :=
  ⟨h.os, h.tape, h.output, h.size, fun k hk => by
    by_cases hm : k ∈ S
    · exact .inr (hS k hm)
    · exact .inl (h.block k hk hm)⟩
theorem Kp.of_below {N : Nat} {p : Option Obj → Prop} {w w' : World} (h : Below w.heap.size w w') : Kp N p w w' :=
  ⟨h.os, h.tape, h.output, h.size, fun k hk => .inl (h.block k hk)⟩
theorem Kp.below {N : Nat} {p : Option Obj → Prop} {w w' : World} (h : Kp N p w w') (hN : N ≤ w.heap.size) : Below N w w' :=
  ⟨h.os, h.tape, h.output, h.size, fun k hk => by
    rcases h.block k (by omega) with h1 | h1
    · exact h1
    · omega⟩
theorem Kp.undrew {N : Nat} {p : Option Obj → Prop} {w w' : World} (h : Kp N p w.drew w') : Kp N p w w' := ⟨h.os, h.tape, h.output, h.size, h.block⟩
def isT (t : TypeId) (o : Option Obj) : Prop := ∃ cs, o = some (.cells cs t)
theorem own_isT {w : World} {base : Nat} {T : TypeId} {z n : Nat} {v : Value} {xs : List Value} (h : w.ownsRow base T z v n xs) {g : Nat} (hg : g ∈ v.ownBlock.toList) : base ≤ g ∧ isT T w.heap[g]? := by
  rw [Option.mem_toList] at hg
  rcases h.2 with ⟨rfl, _⟩ | ⟨g', cap, cur, rfl, hb, hh, _⟩
  · cases hg
  · simp only [Value.ownBlock, Option.some.injEq] at hg
    subst hg
    exact ⟨hb, cur, hh⟩
theorem own_kp {w w' : World} {base N : Nat} {T t : TypeId} {z n : Nat} {v : Value} {xs : List Value} (h : w.ownsRow base T z v n xs) (hk : Kp N (isT t) w w') (hne : T ≠ t) : w'.ownsRow base T z v n xs := by
  refine own_keep h fun g hg => ?_
  rcases hk.block g (own_lt h hg) with h1 | ⟨_, cs, h1⟩
  · exact h1
  · obtain ⟨_, cs', h2⟩ := own_isT h (Option.mem_toList.2 hg)
    rw [h1] at h2
    injection h2 with h3
    injection h3 with _ h4
    exact absurd h4.symm hne
theorem own_kp0 {w w' : World} {base N : Nat} {T : TypeId} {z n : Nat} {v : Value} {xs : List Value} (h : w.ownsRow base T z v n xs) (hk : Kp N (fun _ => False) w w') : w'.ownsRow base T z v n xs := by
  refine own_keep h fun g hg => ?_
  rcases hk.block g (own_lt h hg) with h1 | ⟨_, h1⟩
  · exact h1
  · exact h1.elim
theorem Blk.kp {w w' : World} {g N : Nat} {T t : TypeId} {cs : Array Value} (h : Blk w g T cs) (hk : Kp N (isT t) w w') (hne : T ≠ t) : Blk w' g T cs := by
  rcases hk.block g h.lt with h1 | ⟨_, cs', h1⟩
  · exact h1.trans h
  · have h2 : w.heap[g]? = some (.cells cs T) := h
    rw [h1] at h2
    injection h2 with h3
    injection h3 with _ h4
    exact absurd h4.symm hne
/-- An empty row that has just been made. -/
theorem own_new0 (w : World) (base : Nat) (T : TypeId) (z : Nat) (hb : base ≤ w.heap.size) : (w.alloc (.cells #[] T)).ownsRow base T z (.slice (some ⟨w.heap.size, 0, none⟩) 0 0) 0 [] :=
  ⟨by simp, .inr ⟨w.heap.size, 0, #[], rfl, hb, heap_alloc_new w _, Nat.le_refl _, by unfold maxLen; omega, by simp, by simp⟩⟩

def kpA (N : Nat) (t : TypeId) : RG := ⟨Kp N (fun _ => False), Kp N (isT t)⟩
def kpB (N : Nat) (t : TypeId) : RG := ⟨Kp N (isT t), Kp N (fun _ => False)⟩
theorem kpA_ok (N : Nat) (t : TypeId) : (kpA N t).Ok (Kp N (fun _ => True)) := ⟨Kp.refl _ _, fun _ _ _ => Kp.trans, fun _ _ h => h.mono fun _ _ => trivial⟩
theorem kpB_ok (N : Nat) (t : TypeId) : (kpB N t).Ok (Kp N (fun _ => True)) := ⟨Kp.refl _ _, fun _ _ _ => Kp.trans, fun _ _ h => h.mono fun _ h => h.elim⟩
theorem kpAB (N : Nat) (t : TypeId) : (kpA N t).With (kpB N t) := ⟨fun _ _ h => h, fun _ _ h => h⟩
theorem kpBB (N : Nat) (t : TypeId) : (kpB N t).With (kpB N t) := ⟨fun _ _ h => h.mono fun _ h => h.elim, fun _ _ h => h.mono fun _ h => h.elim⟩

section
variable {P : Program} {ops : Array Oper} {Q : Exit → Act → World → Prop}
/-- The beginning of a region that draws, where all that was made since may be written. -/
theorem wp_region_parK {id : Nat} {a : Act} {w : World} (N : Nat) (ord : List It) (hm : P.follows .mixedOrders = true) (hs : Region.noSelect ops = true)
    (hl : decide (lenI ord ≤ ops.size) = true) (hc : checkI .any ops ord (Array.replicate ops.size false) = true) (h : wpP P ops (NoPanic Q) (Kp N (fun _ => True)) ord a w.drew) : (Code.region id ops true).wp P Q a w :=
  wp_region_noPanic (wp_region_held hm (wpP_sound (Kp.refl N _) Kp.trans hs ord ops.size _ a w.drew (of_decide_eq_true hl) hc h))
end

/-- 's[:m]'. -/
theorem Arr.front {P : Program} {N : Nat} {w : World} {a : Option Addr} {l : List Value} (h : Arr N w a l) (t e : TypeId) (z : Nat) (ht : P.underlying t = some (.slice e)) (hz : ∀ w, (Go.sizeOf e).run P w = .ok z w)
    (len cap m : Nat) (hlen : l.length = len * z) (hm : m ≤ len) (hcap : len ≤ cap) :
    ∃ a', Arr N w a' (l.take (m * z)) ∧ ∀ W, (Instr.slice t (.slice a len cap) none (some (.int .i64 (m : Int))) none).run P W = .ok (.slice a' m cap) W := by
  have ht' : P.underlying t = some (.slice (P.elem t)) := by simp [Program.elem, ht]
  have hee : P.elem t = e := by simp [Program.elem, ht]
  refine ⟨a, ?_, fun W => ?_⟩
  · rcases h with h2 | ⟨b, o, ha, hN, hc⟩
    · exact .inl (by simp [h2])
    · refine .inr ⟨b, o, ha, hN, fun i c hi => hc i c ?_⟩
      rw [List.getElem?_take] at hi
      split at hi
      · exact hi
      · simp at hi
  · have hu := run_underlying (P := P) (w := W) ht
    have hz' := hz W
    cases a <;> simp [Instr.slice, hu, hz', asIntOf, go_sem] <;> try omega
end Go.Proofs.Ytcepbindmdakkaa
