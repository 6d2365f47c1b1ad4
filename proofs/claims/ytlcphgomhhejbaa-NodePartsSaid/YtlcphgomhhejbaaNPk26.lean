/- Several texts of one proof, one behind the other. -/
import Derived.Test.YtlcphgomhhejbaaNPk25
set_option linter.unusedSimpArgs false
set_option linter.unusedVariables false

/- The walk of the law's Great. -/
namespace Go.Proofs.Ytlcphgomhhejbaa
open Go.RowKit

/-- A node that is not too great. -/
structure Fits (n : Nd) : Prop where
  kn : n.keys.length ≤ 60
  ks : ∀ k ∈ n.keys, k.size ≤ 200
  cn : n.cells.length ≤ 60
  cs : ∀ c ∈ n.cells, c.data.size ≤ 300
  dn : n.kids.length ≤ 80
theorem NIn.at_ {w : World} {n : Nd} {m : NB} (h : NIn w n m) (f : Fits n) : NAt w n m := by
  have h1 := h.hk
  have h2 := h.hc
  have h3 := h.hd
  have f1 := f.kn
  have f2 := f.cn
  have f3 := f.dn
  exact ⟨h.hk, h.hc, h.hd, h.kcap, h.ccap, h.dcap, by omega, by omega, by omega, h.karr, h.carr, h.darr, fun k hk => by have := f.ks k hk; omega, fun c hc => ⟨by have := f.cs c hc; omega, (h.cfair c hc).2⟩, h.dfair⟩
def RetGreat (w : World) (n : Nd) (e : Ending) (w' : World) : Prop := ∃ r : Bool, e = .returned (.bool r) ∧ (r = false → Fits n) ∧ Below w.heap.size w w'

def UpS {α : Type} (f : α → Nat) (b : Nat) (l : List α) (k : Nat) : Prop := ∀ x ∈ l.take k, f x ≤ b
theorem UpS.succ {α : Type} {f : α → Nat} {b : Nat} {l : List α} {k : Nat} (h : UpS f b l k) (hk : k < l.length) (hx : f l[k] ≤ b) : UpS f b l (k + 1) := by
  intro x hx2
  rw [List.take_succ_eq_append_getElem hk] at hx2
  rcases List.mem_append.1 hx2 with h1 | h1
  · exact h x h1
  · simp at h1; subst h1; exact hx

set_option maxRecDepth 100000 in
set_option maxHeartbeats 2000000 in
theorem NGreat_any (n : Nd) (m : NB) (w : World) (h : NIn w n m) :
    Calls Try.prog 8 #[m.v n.leaf] w (RetGreat w n) := by
  have hbx := Below.box w (.cells #[.bool n.leaf, .slice m.ka m.kl m.kc, .slice m.ca m.cl m.cc, .slice m.da m.dl m.dc] 26)
  have HKA := Lib.hid (h.later hbx).karr
  have HCA := Lib.hid (h.later hbx).carr
  have HK := Lib.hid h.hk
  have HC := Lib.hid h.hc
  have HD := Lib.hid h.hd
  have kmax := h.kmax
  have cmax := h.cmax
  have dmax := h.dmax
  have HKF := Lib.hid h.kfair
  have HCF := Lib.hid h.cfair
  have HY : Hid (RetGreat w n (.returned (.bool true)) _) := ⟨true, rfl, by simp, hbx⟩
  have HF : Hid (∀ r, (r = false → Fits n) → RetGreat w n (.returned (.bool r)) _) := fun r hr => ⟨r, rfl, hr, hbx⟩
  clear hbx h
  obtain ⟨ka, kl, kc, ca, cl, cc, da, dl, dc⟩ := m
  obtain ⟨leaf, ks, cs, ps⟩ := n
  simp only at *
  generalize hRR : RetGreat w ⟨leaf, ks, cs, ps⟩ = RR at *
  clear hRR
  go_enter Try.func8, Try.ntmps8
  go_wp2_with fail
  go_loop [3] (fun i => ∃ k : Nat, k ≤ kl ∧ i = .int .i64 k ∧ Hid (UpS ByteArray.size 200 ks k) ∧ (0 < k → kl ≤ 60)) (fun i => kl - (intOf i).toNat)
  case atStart => exact ⟨0, by omega, rfl, fun x hx => by simp at hx, by omega⟩
  case round =>
    obtain ⟨k, hk, rfl, HI, h60⟩ := hrel
    by_cases hlt : k < kl
    · have hkl : k < ks.length := by have := HK.out; omega
      obtain ⟨b, o, rfl, hbN, c0⟩ := strAt HKA.out hkl
      have hfs := HKF.out _ (List.getElem_mem hkl)
      have HST : Hid (ks[k].size ≤ 200 → UpS ByteArray.size 200 ks (k + 1)) := fun h => HI.out.succ hkl h
      generalize ks[k]'hkl = y at *
      by_cases h6 : 60 < kl
      · have q : decide ((60 : Int) < (kl : Int)) = true := by simp; omega
        clear h60
        go_wp2
        exact HY.out
      · have q : decide ((60 : Int) < (kl : Int)) = false := by simp; omega
        by_cases h2 : 200 < y.size
        · have q2 : decide ((200 : Int) < (y.size : Int)) = true := by simp; omega
          clear h60
          go_wp2
          exact HY.out
        · have q2 : decide ((200 : Int) < (y.size : Int)) = false := by simp; omega
          have HST2 := Lib.hid (HST.out (by omega))
          clear h60 HST
          go_wp2
          go_round
          case rel => exact ⟨k + 1, by omega, by go_num, HST2, by omega⟩
          case measure => simp [intOf]; omega
    · have HKS : Hid (∀ x ∈ ks, x.size ≤ 200) := by
        have := HI.out
        unfold UpS at this
        rw [List.take_of_length_le (by have := HK.out; omega)] at this
        exact this
      have hkn : kl ≤ 60 := by
        rcases Nat.eq_zero_or_pos kl with h0 | h0
        · omega
        · exact h60 (by omega)
      clear h60
      go_wp2_with fail
      go_loop [4] (fun i => ∃ k : Nat, k ≤ cl ∧ i = .int .i64 k ∧ Hid (UpS (fun c : Cl => c.data.size) 300 cs k) ∧ (0 < k → cl ≤ 60)) (fun i => cl - (intOf i).toNat)
      case atStart => exact ⟨0, by omega, rfl, fun x hx => by simp at hx, by omega⟩
      case round =>
        obtain ⟨j, hj, rfl, HI2, h60⟩ := hrel
        by_cases hlt2 : j < cl
        · have hjl : j < cs.length := by have := HC.out; omega
          obtain ⟨b, o, rfl, hbN, c0, c1, c2⟩ := cellAt HCA.out hjl
          have hfs := (HCF.out _ (List.getElem_mem hjl)).1
          have HST : Hid (cs[j].data.size ≤ 300 → UpS (fun c : Cl => c.data.size) 300 cs (j + 1)) := fun h => HI2.out.succ hjl h
          generalize cs[j]'hjl = y at *
          obtain ⟨yl, yd, yp⟩ := y
          simp only at *
          by_cases h6 : 60 < cl
          · have q : decide ((60 : Int) < (cl : Int)) = true := by simp; omega
            clear h60
            go_wp2
            exact HY.out
          · have q : decide ((60 : Int) < (cl : Int)) = false := by simp; omega
            by_cases h2 : 300 < yd.size
            · have q2 : decide ((300 : Int) < (yd.size : Int)) = true := by simp; omega
              clear h60
              go_wp2
              exact HY.out
            · have q2 : decide ((300 : Int) < (yd.size : Int)) = false := by simp; omega
              have HST2 := Lib.hid (HST.out (by omega))
              clear h60 HST
              go_wp2
              go_round
              case rel => exact ⟨j + 1, by omega, by go_num, HST2, by omega⟩
              case measure => simp [intOf]; omega
        · have HCS : Hid (∀ x ∈ cs, x.data.size ≤ 300) := by
            have := HI2.out
            unfold UpS at this
            rw [List.take_of_length_le (by have := HC.out; omega)] at this
            exact this
          have hcn : cl ≤ 60 := by
            rcases Nat.eq_zero_or_pos cl with h0 | h0
            · omega
            · exact h60 (by omega)
          have HE := Lib.hid (HF.out (decide ((80 : Int) < (dl : Int))) (fun h => ⟨by have := HK.out; simp only; omega, HKS.out, by have := HC.out; simp only; omega, HCS.out, by have := HD.out; simp at h; simp only; omega⟩))
          clear h60
          go_wp2
          exact HE.out
end Go.Proofs.Ytlcphgomhhejbaa

/- A region that draws its order and in which several chains of operations run side by side: each chain is walked by itself, in worlds that may have gone on between its steps; what the chains told is put together behind them. -/
namespace Go.Proofs.Ytlcphgomhhejbaa
open Go.RowKit

/-- What operations left in their slots. -/
abbrev Outs := List (Option Tmp × Value)
def puts (a : Act) (M : Outs) : Act := M.foldl (fun a p => a.put p.1 p.2) a
theorem puts_nil (a : Act) : puts a [] = a := rfl
theorem puts_cons (a : Act) (p : Option Tmp × Value) (M : Outs) : puts a (p :: M) = puts (a.put p.1 p.2) M := rfl
theorem puts_app (a : Act) (M N : Outs) : puts a (M ++ N) = puts (puts a M) N := by unfold puts; rw [List.foldl_append]
theorem puts_put : ∀ (M : Outs) (a : Act) (x : Option Tmp) (v : Value), (∀ p ∈ M, ∀ d, p.1 = some d → x ≠ some d) → puts (a.put x v) M = (puts a M).put x v
  | [], _, _, _, _ => rfl
  | p :: M, a, x, v, h => by
    rw [puts_cons, puts_cons, Act.put_comm a (x := x) (y := p.1) v p.2 (fun d hd hp => h p (List.mem_cons_self) d hp hd)]
    exact puts_put M _ x v fun q hq => h q (List.mem_cons_of_mem _ hq)
def Dj (M N : Outs) : Prop := ∀ p ∈ M, ∀ q ∈ N, ∀ d, p.1 = some d → q.1 ≠ some d
theorem puts_swap (M : Outs) : ∀ (N : Outs) (a : Act), Dj M N → puts (puts a M) N = puts (puts a N) M
  | [], _, _ => rfl
  | q :: N, a, h => by
    rw [puts_cons, puts_cons, ← puts_put M a q.1 q.2 (fun p hp d hd => h p hp q (List.mem_cons_self) d hd)]
    exact puts_swap M N _ fun p hp r hr => h p hp r (List.mem_cons_of_mem _ hr)

section
variable {P : Program} {ops : Array Oper} {Q : Exit → Act → World → Prop} {md : Region.Mode} {L : World → World → Prop}

theorem exec_puts (o : Oper) (hs : ∀ cs b, o.op ≠ .select cs b) : ∀ (M : Outs) (a : Act), (∀ p ∈ M, ∀ d, p.1 = some d → d ∉ o.looksAt ops) → execOp (puts a M).eval o = execOp a.eval o
  | [], _, _ => rfl
  | p :: M, a, h => by
    rw [puts_cons, exec_puts o hs M _ fun q hq => h q (List.mem_cons_of_mem _ hq)]
    exact execOp_put o hs a p.1 p.2 fun d hd => h p (List.mem_cons_self) d hd
theorem wanted_puts (o : Oper) : ∀ (M : Outs) (a : Act), (∀ p ∈ M, ∀ d, p.1 = some d → d ∉ o.looksAt ops) → Region.wanted o (yielded ops (puts a M).tmps) = Region.wanted o (yielded ops a.tmps)
  | [], _, _ => rfl
  | p :: M, a, h => by
    rw [puts_cons, wanted_puts o M _ fun q hq => h q (List.mem_cons_of_mem _ hq)]
    exact wanted_put o a p.1 p.2 fun d hd => h p (List.mem_cons_self) d hd
theorem puts_defers : ∀ (M : Outs) (a : Act) (d : Deferred), ({ puts a M with defers := d :: (puts a M).defers } : Act) = puts { a with defers := d :: a.defers } M
  | [], _, _ => rfl
  | p :: M, a, d => by
    rw [puts_cons, puts_cons, puts_defers M]
    rw [Act.put_defers]

/-- An operation does not see what lies in slots that it neither reads nor writes. -/
theorem wp_puts {o : Oper} (hs : ∀ cs b, o.op ≠ .select cs b) (M : Outs) (a : Act) (w : World) (h1 : ∀ p ∈ M, ∀ d, p.1 = some d → d ∉ o.looksAt ops) (h2 : ∀ p ∈ M, ∀ d, p.1 = some d → o.dst ≠ some d) {K : Act → World → Prop}
    (h : o.wp P a w (fun a' w' => K (puts a' M) w') (NoPanic Q)) : o.wp P (puts a M) w K (NoPanic Q) := by
  unfold Oper.wp at *
  rw [exec_puts (ops := ops) o hs M a h1]
  generalize (execOp a.eval o).run P w = r at *
  cases r with
  | ok n w' =>
    cases n <;> simp only [Oper.upon] at h ⊢
    case value u => rw [← puts_put M a _ _ h2]; exact h
    case skip => rw [← puts_put M a _ _ h2]; exact h
    case defer d => rw [puts_defers, ← puts_put M _ _ _ h2]; exact h
    case enter f args =>
      refine Calls.mono h fun e w'' he => ?_
      cases e with
      | returned u =>
        show K ((puts a M).put o.dst u) w''
        rw [← puts_put M a _ _ h2]; exact he
      | panicked c => exact he
      | outgrown => exact he
    case row row args => exact Rows.mono h fun u w'' he => by rw [← puts_put M a _ _ h2]; exact he
  | halt x w' =>
    cases x <;> simp only [Oper.upon] at h ⊢
    case panic u => exact h

/-- What the steps of the other chains keep (R), and what a step of this chain keeps (G). -/
structure RG where
  R : World → World → Prop
  G : World → World → Prop
/-- A chain: each of its steps is walked in whatever world the others may have brought about; at its end E holds of what it told, whatever the others did since. -/
def Rob (P : Program) (ops : Array Oper) (Q : Exit → Act → World → Prop) (X : RG) (a : Act) : List Nat → Outs → (Outs → World → Prop) → World → Prop
  | [], l, E, w => ∀ w', X.R w w' → E l w'
  | i :: r, l, E, w => ∀ w', X.R w w' → ∃ o, ops[i]? = some o ∧
      ((Region.wanted o (yielded ops (puts a l).tmps) = true ∧ o.wp P (puts a l) w' (fun a' w'' => X.G w' w'' ∧ ∃ v, a' = (puts a l).put o.dst v ∧ Rob P ops Q X a r (l ++ [(o.dst, v)]) E w'') Q) ∨
       (Region.wanted o (yielded ops (puts a l).tmps) = false ∧ Rob P ops Q X a r (l ++ [(o.dst, undef)]) E w'))
theorem Rob.later {X : RG} (Lt : ∀ {a b c}, X.R a b → X.R b c → X.R a c) {a : Act} {t : List Nat} {l : Outs} {E : Outs → World → Prop} {w w' : World} (h : Rob P ops Q X a t l E w) (hL : X.R w w') : Rob P ops Q X a t l E w' := by
  cases t with
  | nil => exact fun w2 h2 => h w2 (Lt hL h2)
  | cons i r => exact fun w2 h2 => h w2 (Lt hL h2)

/-- A chain on its way. -/
structure Ch where
  all : List Nat
  todo : List Nat
  out : Outs
  E : Outs → World → Prop
  X : RG
def RG.Ok (L : World → World → Prop) (X : RG) : Prop := (∀ w, X.R w w) ∧ (∀ a b c, X.R a b → X.R b c → X.R a c) ∧ ∀ w w', X.G w w' → L w w'
def RG.With (X Y : RG) : Prop := (∀ w w', X.G w w' → Y.R w w') ∧ ∀ w w', Y.G w w' → X.R w w'
theorem RG.With.symm {X Y : RG} (h : X.With Y) : Y.With X := ⟨h.2, h.1⟩

def Ch.Fine (ops : Array Oper) (c : Ch) : Prop := (∀ i ∈ c.todo, i ∈ c.all) ∧ ∀ p ∈ c.out, ∃ i ∈ c.all, ∃ o, ops[i]? = some o ∧ p.1 = o.dst
def apartB (ops : Array Oper) (i j : Nat) : Bool := match ops[i]?, ops[j]? with
  | some x, some y => x.apart ops y
  | _, _ => true
def sideB (ops : Array Oper) (c d : List Nat) : Bool := c.all fun i => d.all fun j => apartB ops i j
def pairB (ops : Array Oper) : List (List Nat) → Bool
  | [] => true
  | c :: r => r.all (sideB ops c) && pairB ops r
theorem sideB_spec {c d : List Nat} (h : sideB ops c d = true) {i j : Nat} (hi : i ∈ c) (hj : j ∈ d) {x y : Oper} (hx : ops[i]? = some x) (hy : ops[j]? = some y) : x.apart ops y = true := by
  unfold sideB at h
  have := List.all_eq_true.1 (List.all_eq_true.1 h i hi) j hj
  unfold apartB at this
  rw [hx, hy] at this
  exact this
/-- Chains that lie beside each other. -/
def Beside (ops : Array Oper) (c d : Ch) : Prop := ∀ i ∈ c.all, ∀ j ∈ d.all, ∀ x y, ops[i]? = some x → ops[j]? = some y → (∀ t, x.dst = some t → t ∉ y.looksAt ops) ∧ (∀ t, x.dst = some t → y.dst ≠ some t) ∧ (∀ t, y.dst = some t → t ∉ x.looksAt ops)
theorem Beside.symm {c d : Ch} (h : Beside ops c d) : Beside ops d c := fun i hi j hj x y hx hy => by
  obtain ⟨h1, h2, h3⟩ := h j hj i hi y x hy hx
  exact ⟨h3, fun t ht he => h2 t he ht, h1⟩
theorem beside_of : ∀ {cs : List Ch}, pairB ops (cs.map Ch.all) = true → cs.Pairwise (Beside ops)
  | [], _ => List.Pairwise.nil
  | c :: r, h => by
    simp only [List.map_cons, pairB, Bool.and_eq_true] at h
    refine List.Pairwise.cons (fun d hd i hi j hj x y hx hy => ?_) (beside_of h.2)
    exact Oper.apart_spec (sideB_spec (List.all_eq_true.1 h.1 d.all (List.mem_map_of_mem hd)) hi hj hx hy)

def checkP (md : Region.Mode) (ops : Array Oper) (fin : Array Bool → Bool) : Nat → List (List Nat) → Array Bool → Bool
  | 0, ts, l => ts.all List.isEmpty && fin l
  | f + 1, ts, l => if ts.all List.isEmpty then fin l else
      Region.ready md ops l != [] && (Region.ready md ops l).all fun i => (List.range ts.length).any fun c => match ts[c]? with
        | some (j :: t) => j == i && checkP md ops fin f (ts.set c t) (l.setIfInBounds i true)
        | _ => false

def Told : List Ch → List Outs → World → Prop
  | [], [], _ => True
  | c :: cs, o :: os, w => c.E o w ∧ Told cs os w
  | _, _, _ => False

theorem told_done {a : Act} : ∀ {cs : List Ch} {w : World}, (∀ c ∈ cs, c.X.Ok L) → (∀ c ∈ cs, Rob P ops Q c.X a c.todo c.out c.E w) → (cs.map Ch.todo).all List.isEmpty = true → Told cs (cs.map Ch.out) w
  | [], _, _, _, _ => trivial
  | c :: cs, w, hx, h, he => by
    simp only [List.map_cons, List.all_cons, Bool.and_eq_true] at he
    refine ⟨?_, told_done (fun d hd => hx d (List.mem_cons_of_mem _ hd)) (fun d hd => h d (List.mem_cons_of_mem _ hd)) he.2⟩
    have h1 := h c List.mem_cons_self
    have : c.todo = [] := by simpa using he.1
    rw [this] at h1
    exact h1 w ((hx c List.mem_cons_self).1 w)

theorem set_at {α : Type} : ∀ {l : List α} {k : Nat} {x : α}, l[k]? = some x → ∃ p s, l = p ++ x :: s ∧ p.length = k
  | [], _, _, h => by simp at h
  | y :: r, 0, x, h => by simp at h; subst h; exact ⟨[], r, rfl, rfl⟩
  | y :: r, k + 1, x, h => by
    obtain ⟨p, s, h1, h2⟩ := set_at (l := r) (k := k) (x := x) (by simpa using h)
    exact ⟨y :: p, s, by rw [h1]; rfl, by simp [h2]⟩
theorem told_map {E : Ch → Ch} : ∀ {cs ds : List Ch} {os : List Outs} {w : World}, cs.map Ch.E = ds.map Ch.E → Told cs os w → Told ds os w
  | [], [], _, _, _, h => h
  | [], _ :: _, _, _, he, _ => by simp at he
  | _ :: _, [], _, _, he, _ => by simp at he
  | c :: cs, d :: ds, [], _, _, h => h.elim
  | c :: cs, d :: ds, o :: os, w, he, h => by
    simp only [List.map_cons, List.cons.injEq] at he
    exact ⟨he.1 ▸ h.1, told_map (E := E) he.2 h.2⟩

theorem par_sound (Lr : ∀ w, L w w) (Lt : ∀ {a b c}, L a b → L b c → L a c) (hs : Region.noSelect ops = true) (a : Act) (fin : Array Bool → Bool) (n : Nat) :
    ∀ (f : Nat) (cs : List Ch) (l : Array Bool) (w : World), (∀ c ∈ cs, c.X.Ok L) → (cs.map Ch.X).Pairwise RG.With → (∀ c ∈ cs, c.Fine ops) → cs.Pairwise (Beside ops) → (∀ c ∈ cs, Rob P ops (NoPanic Q) c.X a c.todo c.out c.E w) → checkP md ops fin f (cs.map Ch.todo) l = true →
      (∀ l' os w' m, n ≤ m → fin l' = true → L w w' → Told cs os w' → wpAnyH P md ops (NoPanic Q) (L w') m l' (puts a os.flatten) w') →
      wpAnyH P md ops (NoPanic Q) (L w) (f + n) l (puts a (cs.map Ch.out).flatten) w
  | 0, cs, l, w, hx, _, _, _, hr, hc, hrest => by
    simp only [checkP, Bool.and_eq_true] at hc
    exact hrest l _ w _ (by omega) hc.2 (Lr w) (told_done hx hr hc.1)
  | f + 1, cs, l, w, hx, hxp, hf, hp, hr, hc, hrest => by
    by_cases he : (cs.map Ch.todo).all List.isEmpty = true
    · simp only [checkP, he, if_true] at hc
      exact hrest l _ w _ (by omega) hc (Lr w) (told_done hx hr he)
    · simp only [checkP, he, if_false, Bool.and_eq_true, Bool.false_eq_true] at hc
      obtain ⟨hne, hall⟩ := hc
      have e1 : f + 1 + n = (f + n) + 1 := by omega
      rw [e1]
      refine wpAnyH_all (rs := Region.ready md ops l) rfl (by simpa using hne) ?_
      intro i hi
      have h1 := List.all_eq_true.1 hall i hi
      obtain ⟨k, _, hk⟩ := List.any_eq_true.1 h1
      cases hck : cs[k]? with
      | none => rw [List.getElem?_map, hck] at hk; simp at hk
      | some c =>
        rw [List.getElem?_map, hck] at hk
        simp only [Option.map_some] at hk
        cases ht : c.todo with
        | nil => rw [ht] at hk; simp at hk
        | cons j t =>
          rw [ht] at hk
          simp only [Bool.and_eq_true, beq_iff_eq] at hk
          obtain ⟨rfl, hk⟩ := hk
          obtain ⟨ps, ss, hcs, hpl⟩ := set_at hck
          have hcm : c ∈ cs := by rw [hcs]; simp
          have hrc := hr c hcm
          rw [ht] at hrc
          obtain ⟨o, ho, hw⟩ := hrc w ((hx c hcm).1 w)
          have hjall : j ∈ c.all := (hf c hcm).1 j (by rw [ht]; exact List.mem_cons_self)
          have hsel := Region.noSelect_spec hs j o
          have hsel2 : ∀ cs b, o.op ≠ .select cs b := fun x b => hsel x b ho
          rw [hcs] at hp hxp
          have hp2 := List.pairwise_append.1 hp
          rw [List.map_append, List.map_cons] at hxp
          have hxp2 := List.pairwise_append.1 hxp
          have hwith : ∀ d ∈ ps ++ ss, ∀ w1 w2, c.X.G w1 w2 → d.X.R w1 w2 := by
            intro d hd
            rcases List.mem_append.1 hd with hd | hd
            · exact (hxp2.2.2 d.X (List.mem_map_of_mem hd) c.X List.mem_cons_self).2
            · exact ((List.pairwise_cons.1 hxp2.2.1).1 d.X (List.mem_map_of_mem hd)).1
          have hbes : ∀ d ∈ ps ++ ss, Beside ops d c := by
            intro d hd
            rcases List.mem_append.1 hd with hd | hd
            · exact hp2.2.2 d hd c List.mem_cons_self
            · exact ((List.pairwise_cons.1 hp2.2.1).1 d hd).symm
          obtain ⟨M, hM⟩ : ∃ M, M = (ps.map Ch.out).flatten ++ (ss.map Ch.out).flatten := ⟨_, rfl⟩
          have hMm : ∀ p ∈ M, ∃ d ∈ ps ++ ss, p ∈ d.out := by
            intro p hpm
            rw [hM] at hpm
            rcases List.mem_append.1 hpm with h | h
            · obtain ⟨x, hx, hpx⟩ := List.mem_flatten.1 h
              obtain ⟨d, hd, rfl⟩ := List.mem_map.1 hx
              exact ⟨d, List.mem_append_left _ hd, hpx⟩
            · obtain ⟨x, hx, hpx⟩ := List.mem_flatten.1 h
              obtain ⟨d, hd, rfl⟩ := List.mem_map.1 hx
              exact ⟨d, List.mem_append_right _ hd, hpx⟩
          have hin : ∀ d ∈ ps ++ ss, d ∈ cs := by
            intro d hd
            rw [hcs]
            rcases List.mem_append.1 hd with h | h
            · exact List.mem_append_left _ h
            · exact List.mem_append_right _ (List.mem_cons_of_mem _ h)
          have hMo : ∀ p ∈ M, ∃ d ∈ ps ++ ss, ∃ i ∈ d.all, ∃ x, ops[i]? = some x ∧ p.1 = x.dst := by
            intro p hpm
            obtain ⟨d, hd, hpd⟩ := hMm p hpm
            obtain ⟨i, hi, x, hx, hpx⟩ := (hf d (hin d hd)).2 p hpd
            exact ⟨d, hd, i, hi, x, hx, hpx⟩
          have hlook : ∀ p ∈ M, ∀ t, p.1 = some t → t ∉ o.looksAt ops := by
            intro p hpm t ht
            obtain ⟨d, hd, i, hi, x, hx, hpx⟩ := hMo p hpm
            exact (hbes d hd i hi j hjall x o hx ho).1 t (by rw [← hpx]; exact ht)
          have hdst : ∀ p ∈ M, ∀ t, p.1 = some t → o.dst ≠ some t := by
            intro p hpm t ht
            obtain ⟨d, hd, i, hi, x, hx, hpx⟩ := hMo p hpm
            exact (hbes d hd i hi j hjall x o hx ho).2.1 t (by rw [← hpx]; exact ht)
          -- what the chain told lies apart from what the others told
          have hdj : ∀ N : Outs, (∀ p ∈ N, ∃ i ∈ c.all, ∃ x, ops[i]? = some x ∧ p.1 = x.dst) → Dj (ps.map Ch.out).flatten N := by
            intro N hN p hpm q hq t ht
            obtain ⟨d, hd, i, hi, x, hx, hpx⟩ := hMo p (by rw [hM]; exact List.mem_append_left _ hpm)
            obtain ⟨i2, hi2, y, hy, hqy⟩ := hN q hq
            rw [hqy]
            exact (hbes d hd i hi i2 hi2 x y hx hy).2.1 t (by rw [← hpx]; exact ht)
          have hbig : ∀ N : Outs, (∀ p ∈ N, ∃ i ∈ c.all, ∃ x, ops[i]? = some x ∧ p.1 = x.dst) → puts a ((ps.map Ch.out).flatten ++ (N ++ (ss.map Ch.out).flatten)) = puts (puts a N) M := by
            intro N hN
            rw [puts_app, puts_app, puts_swap _ N a (hdj N hN), hM, puts_app]
          have hout := (hf c hcm).2
          have hflat : (cs.map Ch.out).flatten = (ps.map Ch.out).flatten ++ (c.out ++ (ss.map Ch.out).flatten) := by rw [hcs]; simp
          rw [hflat, hbig c.out hout]
          -- the state behind the step
          have hstep : ∀ v w2, (∀ d ∈ ps ++ ss, d.X.R w w2) → L w w2 → Rob P ops (NoPanic Q) c.X a t (c.out ++ [(o.dst, v)]) c.E w2 → wpAnyH P md ops (NoPanic Q) (L w) (f + n) (l.setIfInBounds j true) ((puts (puts a c.out) M).put o.dst v) w2 := by
            intro v w2 hRl hL hR
            obtain ⟨c', hc'⟩ : ∃ c' : Ch, c' = ⟨c.all, t, c.out ++ [(o.dst, v)], c.E, c.X⟩ := ⟨_, rfl⟩
            have hN : ∀ p ∈ c.out ++ [(o.dst, v)], ∃ i ∈ c.all, ∃ x, ops[i]? = some x ∧ p.1 = x.dst := by
              intro p hpm
              rcases List.mem_append.1 hpm with h | h
              · exact hout p h
              · simp only [List.mem_singleton] at h
                subst h
                exact ⟨j, hjall, o, ho, rfl⟩
            have hact : (puts (puts a c.out) M).put o.dst v = puts a ((ps ++ c' :: ss).map Ch.out).flatten := by
              have : ((ps ++ c' :: ss).map Ch.out).flatten = (ps.map Ch.out).flatten ++ ((c.out ++ [(o.dst, v)]) ++ (ss.map Ch.out).flatten) := by rw [hc']; simp
              rw [this, hbig _ hN, puts_app]
              exact (puts_put M (puts a c.out) o.dst v hdst).symm
            rw [hact]
            refine wpAnyH_stronger (fun x hx => Lt hL hx) _ _ _ _ (par_sound Lr Lt hs a fin n f (ps ++ c' :: ss) (l.setIfInBounds j true) w2 ?_ ?_ ?_ ?_ ?_ ?_ ?_)
            · intro d hd
              rcases List.mem_append.1 hd with h | h
              · exact hx d (hin d (List.mem_append_left _ h))
              · rcases List.mem_cons.1 h with h | h
                · rw [h, hc']; exact hx c hcm
                · exact hx d (hin d (List.mem_append_right _ h))
            · rw [List.map_append, List.map_cons, hc']; exact hxp
            · intro d hd
              rcases List.mem_append.1 hd with h | h
              · exact hf d (hin d (List.mem_append_left _ h))
              · rcases List.mem_cons.1 h with h | h
                · rw [h, hc']
                  exact ⟨fun i hi => (hf c hcm).1 i (by rw [ht]; exact List.mem_cons_of_mem _ hi), hN⟩
                · exact hf d (hin d (List.mem_append_right _ h))
            · refine List.pairwise_append.2 ⟨hp2.1, List.pairwise_cons.2 ⟨fun d hd => ?_, (List.pairwise_cons.1 hp2.2.1).2⟩, fun d hd e he => ?_⟩
              · have := (List.pairwise_cons.1 hp2.2.1).1 d hd
                intro i hi
                exact this i (by rw [hc'] at hi; exact hi)
              · rcases List.mem_cons.1 he with h | h
                · have := hp2.2.2 d hd c List.mem_cons_self
                  intro i hi j2 hj2
                  exact this i hi j2 (by rw [h, hc'] at hj2; exact hj2)
                · exact hp2.2.2 d hd e (List.mem_cons_of_mem _ h)
            · intro d hd
              rcases List.mem_append.1 hd with h | h
              · exact Rob.later (X := d.X) (w := w) (w' := w2) (fun {a b c} h1 h2 => (hx d (hin d (List.mem_append_left _ h))).2.1 a b c h1 h2) (hr d (hin d (List.mem_append_left _ h))) (hRl d (List.mem_append_left _ h))
              · rcases List.mem_cons.1 h with h | h
                · rw [h, hc']; exact hR
                · exact Rob.later (X := d.X) (w := w) (w' := w2) (fun {a b c} h1 h2 => (hx d (hin d (List.mem_append_right _ h))).2.1 a b c h1 h2) (hr d (hin d (List.mem_append_right _ h))) (hRl d (List.mem_append_right _ h))
            · have : (ps ++ c' :: ss).map Ch.todo = (cs.map Ch.todo).set k t := by
                rw [hcs, List.map_append, List.map_append, List.set_append_right _ _ (by rw [List.length_map]; omega), List.length_map, hpl, Nat.sub_self, hc']
                rfl
              rw [this]; exact hk
            · intro l' os w' m hm hfin hL' hT
              exact hrest l' os w' m hm hfin (Lt hL hL') (told_map (E := id) (by rw [hcs, hc']; simp) hT)
          unfold wpOp
          simp only [ho]
          rw [wanted_puts o M _ hlook]
          rcases hw with ⟨hw, hwp⟩ | ⟨hw, hR⟩
          · rw [if_pos hw]
            refine .inl (wp_puts hsel2 M _ w hlook hdst (Oper.wp_mono ?_ hwp))
            rintro a' w2 ⟨hG, v, rfl, hR⟩
            rw [puts_put M _ _ _ hdst]
            have hL := (hx c hcm).2.2 w w2 hG
            exact ⟨hL, hstep v w2 (fun d hd => hwith d hd w w2 hG) hL hR⟩
          · rw [hw]
            exact ⟨Lr w, hstep undef w (fun d hd => (hx d (hin d hd)).1 w) (Lr w) hR⟩
/-- An order with chains side by side. -/
inductive It where
  | f : Nat → It
  | c : Nat → It
  | p : List (List Nat) → It
def total (cs : List (List Nat)) : Nat := (cs.map List.length).sum
def It.len : It → Nat
  | .f _ => 1
  | .c _ => 1
  | .p cs => total cs
def lenI (l : List It) : Nat := (l.map It.len).sum

def TellAll : List (Outs → World → Prop) → List Outs → World → Prop
  | [], [], _ => True
  | E :: es, o :: os, w => E o w ∧ TellAll es os w
  | _, _, _ => False

def wpP (P : Program) (ops : Array Oper) (Q : Exit → Act → World → Prop) (L : World → World → Prop) : List It → Act → World → Prop
  | [], a, w => Q .normal a w
  | .f i :: r, a, w => ∃ o v, ops[i]? = some o ∧ YieldsIf P ops (L w) o v a ∧ wpP P ops Q L r (a.put o.dst v) w
  | .c i :: r, a, w => wpOp P ops Q i (fun a' w' => L w w' ∧ wpP P ops Q L r a' w') a w
  | .p cs :: r, a, w => ∃ es : List ((Outs → World → Prop) × RG), es.length = cs.length ∧ (∀ e ∈ es, e.2.Ok L) ∧ (es.map Prod.snd).Pairwise RG.With ∧ (∀ c ∈ cs.zip es, Rob P ops Q c.2.2 a c.1 [] c.2.1 w) ∧ ∀ os w', L w w' → TellAll (es.map Prod.fst) os w' → wpP P ops Q L r (puts a os.flatten) w'

def checkI (md : Region.Mode) (ops : Array Oper) : List It → Array Bool → Bool
  | [], l => Region.ready md ops l == []
  | .f i :: r, l => Region.free md ops l i && (Region.ready md ops l).contains i && checkI md ops r (l.setIfInBounds i true)
  | .c i :: r, l => Region.ready md ops l == [i] && checkI md ops r (l.setIfInBounds i true)
  | .p cs :: r, l => pairB ops cs && checkP md ops (checkI md ops r) (total cs) cs l

def mkC (c : List Nat × ((Outs → World → Prop) × RG)) : Ch := ⟨c.1, c.1, [], c.2.1, c.2.2⟩
theorem zip_fst {α β : Type} : ∀ {l : List α} {m : List β}, m.length = l.length → (l.zip m).map Prod.fst = l
  | [], _, _ => rfl
  | _ :: _, [], h => by simp at h
  | _ :: l, _ :: m, h => by simp [zip_fst (l := l) (m := m) (by simpa using h)]
theorem zip_snd {α β γ : Type} (f : β → γ) : ∀ {l : List α} {m : List β}, m.length = l.length → (l.zip m).map (fun c => f c.2) = m.map f
  | [], [], _ => rfl
  | [], _ :: _, h => by simp at h
  | _ :: _, [], h => by simp at h
  | _ :: l, _ :: m, h => by simp [zip_snd f (l := l) (m := m) (by simpa using h)]
theorem told_tell : ∀ {cs : List (List Nat)} {es : List ((Outs → World → Prop) × RG)} {os : List Outs} {w : World}, es.length = cs.length → Told ((cs.zip es).map mkC) os w → TellAll (es.map Prod.fst) os w
  | [], [], [], _, _, _ => trivial
  | [], [], _ :: _, _, _, h => h.elim
  | [], _ :: _, _, _, h, _ => by simp at h
  | _ :: _, [], _, _, h, _ => by simp at h
  | _ :: _, _ :: _, [], _, _, h => h.elim
  | c :: cs, e :: es, o :: os, w, hl, h => ⟨h.1, told_tell (cs := cs) (es := es) (by simpa using hl) h.2⟩

theorem wpP_sound (Lr : ∀ w, L w w) (Lt : ∀ {a b c}, L a b → L b c → L a c) (hs : Region.noSelect ops = true) :
    ∀ (ord : List It) (fuel : Nat) (l : Array Bool) (a : Act) (w : World), lenI ord ≤ fuel → checkI md ops ord l = true → wpP P ops (NoPanic Q) L ord a w → wpAnyH P md ops (NoPanic Q) (L w) fuel l a w
  | [], fuel, l, a, w, _, hc, h => wpAnyH_done (by simpa [checkI] using hc) h fuel
  | .f i :: r, fuel, l, a, w, hf, hc, h => by
    obtain ⟨o, v, ho, hy, h⟩ := h
    simp only [checkI, Bool.and_eq_true] at hc
    simp only [lenI, List.map_cons, List.sum_cons, It.len] at hf
    cases fuel with
    | zero => omega
    | succ fuel =>
      exact wpAnyH_take ho hs hc.1.1 hc.1.2 (fun c a w => NoPanic.put Q c a o.dst v w) hy (Lr w) (wpP_sound Lr Lt hs r fuel _ _ w (by unfold lenI; omega) hc.2 h)
  | .c i :: r, fuel, l, a, w, hf, hc, h => by
    simp only [checkI, Bool.and_eq_true, beq_iff_eq] at hc
    simp only [lenI, List.map_cons, List.sum_cons, It.len] at hf
    cases fuel with
    | zero => omega
    | succ fuel =>
      refine wpAnyH_all (rs := [i]) hc.1 (by simp) ?_
      intro j hj
      rw [List.mem_singleton.1 hj]
      exact wpOp_mono (fun a' w' h' => ⟨h'.1, wpAnyH_stronger (fun x hx => Lt h'.1 hx) fuel _ _ _ (wpP_sound Lr Lt hs r fuel _ a' w' (by unfold lenI; omega) hc.2 h'.2)⟩) h
  | .p cs :: r, fuel, l, a, w, hf, hc, h => by
    obtain ⟨es, hl, hok, hwi, hr, hrest⟩ := h
    simp only [checkI, Bool.and_eq_true] at hc
    simp only [lenI, List.map_cons, List.sum_cons, It.len] at hf
    have e1 : fuel = total cs + (fuel - total cs) := by omega
    have em : ((cs.zip es).map mkC).map Ch.all = cs := by
      rw [List.map_map]
      exact (List.map_congr_left fun c _ => rfl).trans (zip_fst hl)
    have et : ((cs.zip es).map mkC).map Ch.todo = cs := by
      rw [List.map_map]
      exact (List.map_congr_left fun c _ => rfl).trans (zip_fst hl)
    have eo : (((cs.zip es).map mkC).map Ch.out).flatten = [] := by
      rw [List.map_map]
      apply List.eq_nil_iff_forall_not_mem.2
      intro x hx
      obtain ⟨y, hy, hxy⟩ := List.mem_flatten.1 hx
      obtain ⟨c, _, rfl⟩ := List.mem_map.1 hy
      cases hxy
    have := par_sound (P := P) (ops := ops) (Q := Q) (md := md) Lr Lt hs a (checkI md ops r) (fuel - total cs) (total cs) ((cs.zip es).map mkC) l w ?_ ?_ ?_ (beside_of (by rw [em]; exact hc.1)) ?_ (by rw [et]; exact hc.2) ?_
    · rw [eo, puts_nil, ← e1] at this; exact this
    · intro c hc'
      obtain ⟨x, hx, rfl⟩ := List.mem_map.1 hc'
      exact hok x.2 (List.of_mem_zip hx).2
    · rw [List.map_map]
      have := zip_snd (l := cs) (m := es) Prod.snd hl
      rw [show ((cs.zip es).map (Ch.X ∘ mkC)) = (cs.zip es).map (fun c => c.2.2) from rfl, this]
      exact hwi
    · intro c hc'
      obtain ⟨x, _, rfl⟩ := List.mem_map.1 hc'
      exact ⟨fun i hi => hi, fun p hp => by cases hp⟩
    · intro c hc'
      obtain ⟨x, hx, rfl⟩ := List.mem_map.1 hc'
      exact hr x hx
    · intro l' os w' m hm hfin hL hT
      exact wpP_sound Lr Lt hs r m l' _ w' (by unfold lenI; omega) hfin (hrest os w' hL (told_tell hl hT))

/-- The beginning, where blocks S may be written. -/
theorem wp_region_par {id : Nat} {a : Act} {w : World} (S : List Nat) (ord : List It) (hm : P.follows .mixedOrders = true) (hs : Region.noSelect ops = true)
    (hl : decide (lenI ord ≤ ops.size) = true) (hc : checkI .any ops ord (Array.replicate ops.size false) = true) (h : wpP P ops (NoPanic Q) (Chg S) ord a w.drew) : (Code.region id ops true).wp P Q a w :=
  wp_region_noPanic (wp_region_held hm (wpP_sound (Chg.refl S) Chg.trans hs ord ops.size _ a w.drew (of_decide_eq_true hl) hc h))

/-- The same, where all that was made since may be written. -/
theorem wp_region_parN {id : Nat} {a : Act} {w : World} (N : Nat) (ord : List It) (hm : P.follows .mixedOrders = true) (hs : Region.noSelect ops = true)
    (hl : decide (lenI ord ≤ ops.size) = true) (hc : checkI .any ops ord (Array.replicate ops.size false) = true) (h : wpP P ops (NoPanic Q) (Below N) ord a w.drew) : (Code.region id ops true).wp P Q a w :=
  wp_region_noPanic (wp_region_held hm (wpP_sound (Below.refl N) Below.trans hs ord ops.size _ a w.drew (of_decide_eq_true hl) hc h))

theorem wpP_nil {a : Act} {w : World} (h : Q .normal a w) : wpP P ops (NoPanic Q) L [] a w := h
theorem wpP_F {i : Nat} {r : List It} {a : Act} {w : World} {o : Oper} {v : Value} (ho : nth ops.toList i = some o) (hw : Region.wanted o (yielded ops a.tmps) = true)
    (hv : ∀ w', L w w' → (execOp a.eval o).run P w' = .ok (.value v) w') (h : wpP P ops Q L r (a.put o.dst v) w) : wpP P ops Q L (.f i :: r) a w :=
  ⟨o, v, nth_ops ho, .inl ⟨hw, hv⟩, h⟩
theorem wpP_G {i : Nat} {r : List It} {a : Act} {w : World} {o : Oper} (ho : nth ops.toList i = some o) (hw : Region.wanted o (yielded ops a.tmps) = false)
    (h : wpP P ops Q L r (a.put o.dst undef) w) : wpP P ops Q L (.f i :: r) a w := ⟨o, undef, nth_ops ho, .inr ⟨hw, rfl⟩, h⟩
theorem wpP_skip (Lr : ∀ w, L w w) {i : Nat} {r : List It} {a : Act} {w : World} {o : Oper} (ho : nth ops.toList i = some o) (hw : Region.wanted o (yielded ops a.tmps) = false)
    (h : wpP P ops Q L r (a.put o.dst undef) w) : wpP P ops Q L (.c i :: r) a w := by
  show wpOp P ops Q i _ a w
  unfold wpOp
  simp only [nth_ops ho, hw]
  exact ⟨Lr w, h⟩
theorem wpP_C {i : Nat} {r : List It} {a : Act} {w : World} {o : Oper} (ho : nth ops.toList i = some o) (hw : Region.wanted o (yielded ops a.tmps) = true)
    (h : o.wp P a w (fun a' w' => L w w' ∧ wpP P ops Q L r a' w') Q) : wpP P ops Q L (.c i :: r) a w := by
  show wpOp P ops Q i _ a w
  unfold wpOp
  simp only [nth_ops ho, hw]
  exact .inl h
theorem wpP_two {c d : List Nat} {r : List It} {a : Act} {w : World} (X Y : RG) (E F : Outs → World → Prop) (hX : X.Ok L) (hY : Y.Ok L) (hXY : X.With Y) (h1 : Rob P ops Q X a c [] E w) (h2 : Rob P ops Q Y a d [] F w)
    (h : ∀ o1 o2 w', L w w' → E o1 w' → F o2 w' → wpP P ops Q L r (puts a (o1 ++ o2)) w') : wpP P ops Q L (.p [c, d] :: r) a w := by
  refine ⟨[(E, X), (F, Y)], rfl, ?_, ?_, fun x hx => ?_, fun os w' hL hT => ?_⟩
  · intro e he
    simp only [List.mem_cons, List.not_mem_nil, or_false] at he
    rcases he with rfl | rfl <;> assumption
  · simpa using hXY
  · simp only [List.zip_cons_cons, List.zip_nil_left, List.mem_cons, List.not_mem_nil, or_false] at hx
    rcases hx with rfl | rfl
    · exact h1
    · exact h2
  · match os, hT with
    | [o1, o2], hT => simpa using h o1 o2 w' hL hT.1 hT.2.1
theorem wpP_three {c d g : List Nat} {r : List It} {a : Act} {w : World} (X Y Z : RG) (E F H : Outs → World → Prop) (hX : X.Ok L) (hY : Y.Ok L) (hZ : Z.Ok L) (hXY : X.With Y) (hXZ : X.With Z) (hYZ : Y.With Z)
    (h1 : Rob P ops Q X a c [] E w) (h2 : Rob P ops Q Y a d [] F w) (h3 : Rob P ops Q Z a g [] H w)
    (h : ∀ o1 o2 o3 w', L w w' → E o1 w' → F o2 w' → H o3 w' → wpP P ops Q L r (puts a (o1 ++ (o2 ++ o3))) w') : wpP P ops Q L (.p [c, d, g] :: r) a w := by
  refine ⟨[(E, X), (F, Y), (H, Z)], rfl, ?_, ?_, fun x hx => ?_, fun os w' hL hT => ?_⟩
  · intro e he
    simp only [List.mem_cons, List.not_mem_nil, or_false] at he
    rcases he with rfl | rfl | rfl <;> assumption
  · simp only [List.map_cons, List.map_nil, List.pairwise_cons, List.mem_cons, List.not_mem_nil, or_false, forall_eq_or_imp, forall_eq, List.Pairwise.nil, and_true, false_implies, implies_true]
    exact ⟨⟨hXY, hXZ⟩, hYZ⟩
  · simp only [List.zip_cons_cons, List.zip_nil_left, List.mem_cons, List.not_mem_nil, or_false] at hx
    rcases hx with rfl | rfl | rfl
    · exact h1
    · exact h2
    · exact h3
  · match os, hT with
    | [o1, o2, o3], hT => simpa using h o1 o2 o3 w' hL hT.1 hT.2.1 hT.2.2.1
/-- Chains that make memory alone. -/
def onlyNew (S : List Nat) : RG := ⟨Chg S, Chg S⟩
theorem onlyNew_ok (S : List Nat) : (onlyNew S).Ok (Chg S) := ⟨Chg.refl S, fun _ _ _ => Chg.trans, fun _ _ h => h⟩
theorem onlyNew_with (S : List Nat) : (onlyNew S).With (onlyNew S) := ⟨fun _ _ h => h, fun _ _ h => h⟩
theorem wpP_two' {S : List Nat} {c d : List Nat} {r : List It} {a : Act} {w : World} (E F : Outs → World → Prop) (h1 : Rob P ops Q (onlyNew S) a c [] E w) (h2 : Rob P ops Q (onlyNew S) a d [] F w)
    (h : ∀ o1 o2 w', Chg S w w' → E o1 w' → F o2 w' → wpP P ops Q (Chg S) r (puts a (o1 ++ o2)) w') : wpP P ops Q (Chg S) (.p [c, d] :: r) a w :=
  wpP_two _ _ E F (onlyNew_ok S) (onlyNew_ok S) (onlyNew_with S) h1 h2 h
theorem rob_C {X : RG} {i : Nat} {r : List Nat} {l : Outs} {E : Outs → World → Prop} {a : Act} {w : World} {o : Oper} (ho : nth ops.toList i = some o) (hw : Region.wanted o (yielded ops (puts a l).tmps) = true)
    (h : ∀ w', X.R w w' → ∀ K : Act → World → Prop, Hid (∀ v w'' b, b = (puts a l).put o.dst v → X.G w' w'' → Rob P ops Q X a r (l ++ [(o.dst, v)]) E w'' → K b w'') → o.wp P (puts a l) w' K Q) : Rob P ops Q X a (i :: r) l E w :=
  fun w' hL => ⟨o, nth_ops ho, .inl ⟨hw, h w' hL _ (fun v w'' b hb hL2 hR => ⟨hL2, v, hb, hR⟩)⟩⟩
theorem rob_G {X : RG} {i : Nat} {r : List Nat} {l : Outs} {E : Outs → World → Prop} {a : Act} {w : World} {o : Oper} (ho : nth ops.toList i = some o) (hw : Region.wanted o (yielded ops (puts a l).tmps) = false)
    (h : ∀ w', X.R w w' → Rob P ops Q X a r (l ++ [(o.dst, undef)]) E w') : Rob P ops Q X a (i :: r) l E w :=
  fun w' hL => ⟨o, nth_ops ho, .inr ⟨hw, h w' hL⟩⟩
theorem rob_nil {X : RG} {l : Outs} {E : Outs → World → Prop} {a : Act} {w : World} (h : ∀ w', X.R w w' → E l w') : Rob P ops Q X a [] l E w := h
theorem Rob.step {X : RG} {a : Act} {i : Nat} {r : List Nat} {l : Outs} {E : Outs → World → Prop} {w : World} (h : Rob P ops Q X a (i :: r) l E w) : ∀ w', X.R w w' → ∃ o, ops[i]? = some o ∧
      ((Region.wanted o (yielded ops (puts a l).tmps) = true ∧ o.wp P (puts a l) w' (fun a' w'' => X.G w' w'' ∧ ∃ v, a' = (puts a l).put o.dst v ∧ Rob P ops Q X a r (l ++ [(o.dst, v)]) E w'') Q) ∨
       (Region.wanted o (yielded ops (puts a l).tmps) = false ∧ Rob P ops Q X a r (l ++ [(o.dst, undef)]) E w')) := h
theorem Rob.done {X : RG} {a : Act} {l : Outs} {E : Outs → World → Prop} {w : World} (h : Rob P ops Q X a [] l E w) : ∀ w', X.R w w' → E l w' := h
end
attribute [irreducible] wpP Rob
end Go.Proofs.Ytlcphgomhhejbaa

/- What chains that run side by side keep of each other: all but, of what was made since, rows of one type of element. -/
namespace Go.Proofs.Ytlcphgomhhejbaa
open Go.RowKit

/-- Nothing is changed but, of the blocks from N on, those of which p holds. -/
structure Kp (N : Nat) (p : Option Obj → Prop) (w w' : World) : Prop where
  os : w'.os = w.os
  tape : w'.tape = w.tape
  output : w'.output = w.output
  size : w.heap.size ≤ w'.heap.size
  block : ∀ k, k < w.heap.size → w'.heap[k]? = w.heap[k]? ∨ (N ≤ k ∧ p w.heap[k]?)
theorem Kp.refl (N : Nat) (p : Option Obj → Prop) (w : World) : Kp N p w w := ⟨rfl, rfl, rfl, Nat.le_refl _, fun _ _ => .inl rfl⟩
theorem Kp.trans {N : Nat} {p : Option Obj → Prop} {a b c : World} (h : Kp N p a b) (k : Kp N p b c) : Kp N p a c := by
  refine ⟨k.os.trans h.os, k.tape.trans h.tape, k.output.trans h.output, Nat.le_trans h.size k.size, fun i hi => ?_⟩
  rcases h.block i hi with h1 | h1
  · rcases k.block i (Nat.lt_of_lt_of_le hi h.size) with h2 | h2
    · exact .inl (h2.trans h1)
    · exact .inr (by rw [← h1]; exact h2)
  · exact .inr h1
theorem Kp.mono {N : Nat} {p q : Option Obj → Prop} {a b : World} (h : Kp N p a b) (hpq : ∀ o, p o → q o) : Kp N q a b :=
  ⟨h.os, h.tape, h.output, h.size, fun i hi => (h.block i hi).imp id fun h => ⟨h.1, hpq _ h.2⟩⟩
theorem Kp.of_chg {N : Nat} {p : Option Obj → Prop} {S : List Nat} {w w' : World} (h : Chg S w w') (hS : ∀ k ∈ S, N ≤ k ∧ p w.heap[k]?) : Kp N p w w' :=
  ⟨h.os, h.tape, h.output, h.size, fun k hk => by
    by_cases hm : k ∈ S
    · exact .inr (hS k hm)
    · exact .inl (h.block k hk hm)⟩
theorem Kp.of_below {N : Nat} {p : Option Obj → Prop} {w w' : World} (h : Below w.heap.size w w') : Kp N p w w' :=
  ⟨h.os, h.tape, h.output, h.size, fun k hk => .inl (h.block k hk)⟩
theorem Kp.below {N : Nat} {p : Option Obj → Prop} {w w' : World} (h : Kp N p w w') (hN : N ≤ w.heap.size) : Below N w w' :=
  ⟨h.os, h.tape, h.output, h.size, fun k hk => by
    rcases h.block k (by omega) with h1 | h1
    · exact h1
    · omega⟩
theorem Kp.undrew {N : Nat} {p : Option Obj → Prop} {w w' : World} (h : Kp N p w.drew w') : Kp N p w w' := ⟨h.os, h.tape, h.output, h.size, h.block⟩
def isT (t : TypeId) (o : Option Obj) : Prop := ∃ cs, o = some (.cells cs t)
theorem own_isT {w : World} {base : Nat} {T : TypeId} {z n : Nat} {v : Value} {xs : List Value} (h : w.ownsRow base T z v n xs) {g : Nat} (hg : g ∈ v.ownBlock.toList) : base ≤ g ∧ isT T w.heap[g]? := by
  rw [Option.mem_toList] at hg
  rcases h.2 with ⟨rfl, _⟩ | ⟨g', cap, cur, rfl, hb, hh, _⟩
  · cases hg
  · simp only [Value.ownBlock, Option.some.injEq] at hg
    subst hg
    exact ⟨hb, cur, hh⟩
theorem own_kp {w w' : World} {base N : Nat} {T t : TypeId} {z n : Nat} {v : Value} {xs : List Value} (h : w.ownsRow base T z v n xs) (hk : Kp N (isT t) w w') (hne : T ≠ t) : w'.ownsRow base T z v n xs := by
  refine own_keep h fun g hg => ?_
  rcases hk.block g (own_lt h hg) with h1 | ⟨_, cs, h1⟩
  · exact h1
  · obtain ⟨_, cs', h2⟩ := own_isT h (Option.mem_toList.2 hg)
    rw [h1] at h2
    injection h2 with h3
    injection h3 with _ h4
    exact absurd h4.symm hne
theorem own_kp0 {w w' : World} {base N : Nat} {T : TypeId} {z n : Nat} {v : Value} {xs : List Value} (h : w.ownsRow base T z v n xs) (hk : Kp N (fun _ => False) w w') : w'.ownsRow base T z v n xs := by
  refine own_keep h fun g hg => ?_
  rcases hk.block g (own_lt h hg) with h1 | ⟨_, h1⟩
  · exact h1
  · exact h1.elim
theorem Blk.kp {w w' : World} {g N : Nat} {T t : TypeId} {cs : Array Value} (h : Blk w g T cs) (hk : Kp N (isT t) w w') (hne : T ≠ t) : Blk w' g T cs := by
  rcases hk.block g h.lt with h1 | ⟨_, cs', h1⟩
  · exact h1.trans h
  · have h2 : w.heap[g]? = some (.cells cs T) := h
    rw [h1] at h2
    injection h2 with h3
    injection h3 with _ h4
    exact absurd h4.symm hne
/-- An empty row that has just been made. -/
theorem own_new0 (w : World) (base : Nat) (T : TypeId) (z : Nat) (hb : base ≤ w.heap.size) : (w.alloc (.cells #[] T)).ownsRow base T z (.slice (some ⟨w.heap.size, 0, none⟩) 0 0) 0 [] :=
  ⟨by simp, .inr ⟨w.heap.size, 0, #[], rfl, hb, heap_alloc_new w _, Nat.le_refl _, by unfold maxLen; omega, by simp, by simp⟩⟩

def kpA (N : Nat) (t : TypeId) : RG := ⟨Kp N (fun _ => False), Kp N (isT t)⟩
def kpB (N : Nat) (t : TypeId) : RG := ⟨Kp N (isT t), Kp N (fun _ => False)⟩
theorem kpA_ok (N : Nat) (t : TypeId) : (kpA N t).Ok (Kp N (fun _ => True)) := ⟨Kp.refl _ _, fun _ _ _ => Kp.trans, fun _ _ h => h.mono fun _ _ => trivial⟩
theorem kpB_ok (N : Nat) (t : TypeId) : (kpB N t).Ok (Kp N (fun _ => True)) := ⟨Kp.refl _ _, fun _ _ _ => Kp.trans, fun _ _ h => h.mono fun _ h => h.elim⟩
theorem kpAB (N : Nat) (t : TypeId) : (kpA N t).With (kpB N t) := ⟨fun _ _ h => h, fun _ _ h => h⟩
theorem kpBB (N : Nat) (t : TypeId) : (kpB N t).With (kpB N t) := ⟨fun _ _ h => h.mono fun _ h => h.elim, fun _ _ h => h.mono fun _ h => h.elim⟩

section
variable {P : Program} {ops : Array Oper} {Q : Exit → Act → World → Prop}
/-- The beginning of a region that draws, where all that was made since may be written. -/
theorem wp_region_parK {id : Nat} {a : Act} {w : World} (N : Nat) (ord : List It) (hm : P.follows .mixedOrders = true) (hs : Region.noSelect ops = true)
    (hl : decide (lenI ord ≤ ops.size) = true) (hc : checkI .any ops ord (Array.replicate ops.size false) = true) (h : wpP P ops (NoPanic Q) (Kp N (fun _ => True)) ord a w.drew) : (Code.region id ops true).wp P Q a w :=
  wp_region_noPanic (wp_region_held hm (wpP_sound (Kp.refl N _) Kp.trans hs ord ops.size _ a w.drew (of_decide_eq_true hl) hc h))
end

/-- 's[:m]'. -/
theorem Arr.front {P : Program} {N : Nat} {w : World} {a : Option Addr} {l : List Value} (h : Arr N w a l) (t e : TypeId) (z : Nat) (ht : P.underlying t = some (.slice e)) (hz : ∀ w, (Go.sizeOf e).run P w = .ok z w)
    (len cap m : Nat) (hlen : l.length = len * z) (hm : m ≤ len) (hcap : len ≤ cap) :
    ∃ a', Arr N w a' (l.take (m * z)) ∧ ∀ W, (Instr.slice t (.slice a len cap) none (some (.int .i64 (m : Int))) none).run P W = .ok (.slice a' m cap) W := by
  have ht' : P.underlying t = some (.slice (P.elem t)) := by simp [Program.elem, ht]
  have hee : P.elem t = e := by simp [Program.elem, ht]
  refine ⟨a, ?_, fun W => ?_⟩
  · rcases h with h2 | ⟨b, o, ha, hN, hc⟩
    · exact .inl (by simp [h2])
    · refine .inr ⟨b, o, ha, hN, fun i c hi => hc i c ?_⟩
      rw [List.getElem?_take] at hi
      split at hi
      · exact hi
      · simp at hi
  · have hu := run_underlying (P := P) (w := W) ht
    have hz' := hz W
    cases a <;> simp [Instr.slice, hu, hz', asIntOf, go_sem] <;> try omega
end Go.Proofs.Ytlcphgomhhejbaa

/- A region that draws its order: one line of operations, and beside it chains (often a single making of memory) that begin somewhere, run on beside the line, and are waited for somewhere. -/
namespace Go.Proofs.Ytlcphgomhhejbaa
open Go.RowKit

/-- The line: an operation that yields the same in every later world, one that is carried out, the beginning of a chain beside it, the wait for the oldest such chain. -/
inductive Im where
  | f : Nat → Im
  | c : Nat → Im
  | s : List Nat → Im
  | w : Im
def Im.len : Im → Nat
  | .f _ => 1
  | .c _ => 1
  | .s x => x.length
  | .w => 0
def lenM (l : List Im) : Nat := (l.map Im.len).sum

section
variable {P : Program} {ops : Array Oper} {Q : Exit → Act → World → Prop} {md : Region.Mode} {L : World → World → Prop}

abbrev EX := (Outs → World → Prop) × RG

def wpM (P : Program) (ops : Array Oper) (Q : Exit → Act → World → Prop) (L Y : World → World → Prop) : List Im → List EX → Act → World → Prop
  | [], _, a, w => ∀ w', Y w w' → Q .normal a w'
  | .f i :: r, bg, a, w => ∃ o v, ops[i]? = some o ∧ YieldsIf P ops (L w) o v a ∧ wpM P ops Q L Y r bg (a.put o.dst v) w
  | .c i :: r, bg, a, w => ∀ w', Y w w' → ∃ o, ops[i]? = some o ∧
      ((Region.wanted o (yielded ops a.tmps) = true ∧ o.wp P a w' (fun a' w'' => (L w' w'' ∧ ∀ e ∈ bg, e.2.R w' w'') ∧ ∃ v, a' = a.put o.dst v ∧ wpM P ops Q L Y r bg (a.put o.dst v) w'') Q) ∨
       (Region.wanted o (yielded ops a.tmps) = false ∧ wpM P ops Q L Y r bg (a.put o.dst undef) w'))
  | .s c :: r, bg, a, w => ∀ w', Y w w' → ∃ e : EX, e.2.Ok L ∧ (∀ x y, e.2.G x y → Y x y) ∧ (∀ d ∈ bg, d.2.With e.2) ∧ Rob P ops Q e.2 a c [] e.1 w' ∧ wpM P ops Q L Y r (bg ++ [e]) a w'
  | .w :: r, [], a, w => False
  | .w :: r, e :: bg, a, w => ∀ w' l, Y w w' → e.1 l w' → wpM P ops Q L Y r bg (puts a l) w'

theorem wpM_later {Y : World → World → Prop} (hYt : ∀ {a b c}, Y a b → Y b c → Y a c) (hRL : ∀ w w', Y w w' → L w w') (Lt : ∀ {a b c}, L a b → L b c → L a c) : ∀ {t : List Im} {bg : List EX} {a : Act} {w w' : World}, wpM P ops Q L Y t bg a w → Y w w' → wpM P ops Q L Y t bg a w'
  | [], _, _, _, _, h, hR => fun w2 h2 => h w2 (hYt hR h2)
  | .f _ :: _, _, _, _, _, h, hR => by
    obtain ⟨o, v, ho, hy, hr⟩ := h
    refine ⟨o, v, ho, ?_, wpM_later (Y := Y) hYt hRL Lt hr hR⟩
    rcases hy with ⟨h1, h2⟩ | h1
    · exact .inl ⟨h1, fun x hx => h2 x (Lt (hRL _ _ hR) hx)⟩
    · exact .inr h1
  | .c _ :: _, _, _, _, _, h, hR => fun w2 h2 => h w2 (hYt hR h2)
  | .s _ :: _, _, _, _, _, h, hR => fun w2 h2 => h w2 (hYt hR h2)
  | .w :: _, [], _, _, _, h, _ => h.elim
  | .w :: _, _ :: _, _, _, _, h, hR => fun w2 l h2 hE => h w2 l (hYt hR h2) hE

def checkM (md : Region.Mode) (ops : Array Oper) : Nat → List Im → List (List Nat × List Nat) → Array Bool → Bool
  | 0, _, _, _ => false
  | n + 1, t, bg, l =>
    let side := fun j => (List.range bg.length).any fun k => match bg[k]? with
      | some (j' :: r, al) => j' == j && checkM md ops n t (bg.set k (r, al)) (l.setIfInBounds j true)
      | _ => false
    match t with
    | [] => bg.isEmpty && Region.ready md ops l == []
    | .f i :: r => Region.free md ops l i && (Region.ready md ops l).contains i && bg.all (fun b => b.2.all (apartB ops i)) && checkM md ops n r bg (l.setIfInBounds i true)
    | .c i :: r => Region.ready md ops l != [] && (Region.ready md ops l).all fun j => if j == i then bg.all (fun b => b.2.all (apartB ops i)) && checkM md ops n r bg (l.setIfInBounds i true) else side j
    | .s c :: r => bg.all (fun b => sideB ops b.2 c) && checkM md ops n r (bg ++ [(c, c)]) l
    | .w :: r => match bg with
      | ([], _) :: b => checkM md ops n r b l
      | _ => Region.ready md ops l != [] && (Region.ready md ops l).all side

/-- A chain on its way, and what the line's slots held when it began. -/
structure Fl where
  all : List Nat
  todo : List Nat
  out : Outs
  E : Outs → World → Prop
  X : RG
  base : Act
def Fl.key (c : Fl) : List Nat × List Nat := (c.todo, c.all)
def Fl.ex (c : Fl) : EX := (c.E, c.X)
def Fl.Fine (ops : Array Oper) (c : Fl) : Prop := (∀ i ∈ c.todo, i ∈ c.all) ∧ ∀ p ∈ c.out, ∃ i ∈ c.all, ∃ o, ops[i]? = some o ∧ p.1 = o.dst
/-- Slots that a chain neither reads nor writes. -/
def Off (ops : Array Oper) (al : List Nat) (M : Outs) : Prop := ∀ p ∈ M, ∀ j ∈ al, ∀ o, ops[j]? = some o → ∀ t, p.1 = some t → t ∉ o.looksAt ops ∧ o.dst ≠ some t
def Fl.Since (ops : Array Oper) (a : Act) (c : Fl) : Prop := ∃ M : Outs, a = puts c.base M ∧ Off ops c.all M
def BesideL (ops : Array Oper) (c d : List Nat) : Prop := ∀ i ∈ c, ∀ j ∈ d, ∀ x y, ops[i]? = some x → ops[j]? = some y → (∀ t, x.dst = some t → t ∉ y.looksAt ops) ∧ (∀ t, x.dst = some t → y.dst ≠ some t) ∧ (∀ t, y.dst = some t → t ∉ x.looksAt ops)
theorem BesideL.symm {c d : List Nat} (h : BesideL ops c d) : BesideL ops d c := fun i hi j hj x y hx hy => by
  obtain ⟨h1, h2, h3⟩ := h j hj i hi y x hy hx
  exact ⟨h3, fun t ht he => h2 t he ht, h1⟩
theorem besideL_of {c d : List Nat} (h : sideB ops c d = true) : BesideL ops c d := fun _ hi _ hj _ _ hx hy => Oper.apart_spec (sideB_spec h hi hj hx hy)
theorem apartB_spec {i j : Nat} {x y : Oper} (h : apartB ops i j = true) (hx : ops[i]? = some x) (hy : ops[j]? = some y) : x.apart ops y = true := by
  unfold apartB at h
  rw [hx, hy] at h
  exact h
theorem Fl.Fine.off {c : Fl} (hf : c.Fine ops) {d : List Nat} (hb : BesideL ops c.all d) : Off ops d c.out := by
  intro p hp j hj o ho t ht
  obtain ⟨i, hi, x, hx, hpx⟩ := hf.2 p hp
  obtain ⟨h1, h2, _⟩ := hb i hi j hj x o hx ho
  exact ⟨h1 t (by rw [← hpx]; exact ht), h2 t (by rw [← hpx]; exact ht)⟩
theorem Off.app {al : List Nat} {M N : Outs} (h : Off ops al M) (k : Off ops al N) : Off ops al (M ++ N) := by
  intro p hp
  rcases List.mem_append.1 hp with h1 | h1
  · exact h p h1
  · exact k p h1
theorem Fl.Since.more {a : Act} {c : Fl} (h : c.Since ops a) {N : Outs} (hN : Off ops c.all N) : c.Since ops (puts a N) := by
  obtain ⟨M, rfl, hM⟩ := h
  exact ⟨M ++ N, (puts_app _ _ _).symm, hM.app hN⟩

/-- What the floats told, all of it. -/
def outsF (bg : List Fl) : Outs := (bg.map Fl.out).flatten

theorem M_sound (Lr : ∀ w, L w w) (Lt : ∀ {a b c}, L a b → L b c → L a c) (hs : Region.noSelect ops = true) (Y : World → World → Prop) (hYr : ∀ w, Y w w) (hYt : ∀ {a b c}, Y a b → Y b c → Y a c) (hRL : ∀ w w', Y w w' → L w w') :
    ∀ (n : Nat) (t : List Im) (bg : List Fl) (l : Array Bool) (a : Act) (w : World) (f : Nat), checkM md ops n t (bg.map Fl.key) l = true → wpM P ops (NoPanic Q) L Y t (bg.map Fl.ex) a w →
      (∀ c ∈ bg, c.Fine ops ∧ c.X.Ok L ∧ (∀ x y, c.X.G x y → Y x y) ∧ c.Since ops a ∧ Rob P ops (NoPanic Q) c.X c.base c.todo c.out c.E w) → bg.Pairwise (fun c d => BesideL ops c.all d.all ∧ c.X.With d.X) →
      lenM t + (bg.map (fun c => c.todo.length)).sum ≤ f → wpAnyH P md ops (NoPanic Q) (L w) f l (puts a (outsF bg)) w
  | 0, _, _, _, _, _, _, hc, _, _, _, _ => by simp [checkM] at hc
  | n + 1, t, bg, l, a, w, f, hc, h, hb, hp, hf => by
    -- a step of a chain beside the line
    have side : ∀ j f', f = f' + 1 → (List.range (bg.map Fl.key).length).any (fun k => match (bg.map Fl.key)[k]? with
        | some (j' :: r, al) => j' == j && checkM md ops n t ((bg.map Fl.key).set k (r, al)) (l.setIfInBounds j true)
        | _ => false) = true → wpOp P ops (NoPanic Q) j (fun a' w' => L w w' ∧ wpAnyH P md ops (NoPanic Q) (L w) f' (l.setIfInBounds j true) a' w') (puts a (outsF bg)) w := by
      intro j f' hff hk
      obtain ⟨k, _, hk⟩ := List.any_eq_true.1 hk
      cases hck : bg[k]? with
      | none => rw [List.getElem?_map, hck] at hk; simp at hk
      | some c =>
        rw [List.getElem?_map, hck] at hk
        simp only [Option.map_some, Fl.key] at hk
        cases ht : c.todo with
        | nil => rw [ht] at hk; simp at hk
        | cons j' r =>
          rw [ht] at hk
          simp only [Bool.and_eq_true, beq_iff_eq] at hk
          obtain ⟨rfl, hk⟩ := hk
          obtain ⟨ps, ss, hcs, hpl⟩ := set_at hck
          have hcm : c ∈ bg := by rw [hcs]; simp
          obtain ⟨hfine, hok, hYc, hsince, hrob⟩ := hb c hcm
          rw [ht] at hrob
          obtain ⟨o, ho, hw⟩ := hrob.step w (hok.1 w)
          have hjall : j' ∈ c.all := hfine.1 j' (by rw [ht]; exact List.mem_cons_self)
          have hsel : ∀ cs b, o.op ≠ .select cs b := fun x b => Region.noSelect_spec hs j' o x b ho
          rw [hcs] at hp
          have hp2 := List.pairwise_append.1 hp
          have hbes : ∀ d ∈ ps ++ ss, BesideL ops d.all c.all ∧ c.X.With d.X := by
            intro d hd
            rcases List.mem_append.1 hd with hd | hd
            · have := hp2.2.2 d hd c List.mem_cons_self
              exact ⟨this.1, this.2.symm⟩
            · have := (List.pairwise_cons.1 hp2.2.1).1 d hd
              exact ⟨this.1.symm, this.2⟩
          have hin : ∀ d ∈ ps ++ ss, d ∈ bg := by
            intro d hd
            rw [hcs]
            rcases List.mem_append.1 hd with h | h
            · exact List.mem_append_left _ h
            · exact List.mem_append_right _ (List.mem_cons_of_mem _ h)
          obtain ⟨M, rfl, hM⟩ := hsince
          have hoff : ∀ ds : List Fl, (∀ d ∈ ds, d ∈ ps ++ ss) → Off ops c.all (outsF ds) := by
            intro ds hds p hpm
            unfold outsF at hpm
            obtain ⟨x, hx, hpx⟩ := List.mem_flatten.1 hpm
            obtain ⟨d, hd, rfl⟩ := List.mem_map.1 hx
            exact (hb d (hin d (hds d hd))).1.off (hbes d (hds d hd)).1 p hpx
          have h1 := hoff ps (fun d hd => List.mem_append_left _ hd)
          have h2 := hoff ss (fun d hd => List.mem_append_right _ hd)
          have hdj : ∀ (M N : Outs), Off ops c.all M → (∀ p ∈ N, ∃ i ∈ c.all, ∃ o, ops[i]? = some o ∧ p.1 = o.dst) → Dj M N := by
            intro M N hM hN p hpm q hq t ht
            obtain ⟨i, hi, x, hx, hqx⟩ := hN q hq
            rw [hqx]
            exact (hM p hpm i hi x hx t ht).2
          have hbig : ∀ N : Outs, (∀ p ∈ N, ∃ i ∈ c.all, ∃ o, ops[i]? = some o ∧ p.1 = o.dst) → puts (puts c.base M) (outsF ps ++ (N ++ outsF ss)) = puts (puts c.base N) (M ++ (outsF ps ++ outsF ss)) := by
            intro N hN
            rw [← puts_app, ← List.append_assoc, puts_app, puts_app, puts_swap _ N c.base (hdj _ N (hM.app h1) hN)]
            rw [← puts_app (puts c.base N), List.append_assoc]
          have hall : Off ops c.all (M ++ (outsF ps ++ outsF ss)) := hM.app (h1.app h2)
          have hflat : outsF bg = outsF ps ++ (c.out ++ outsF ss) := by rw [hcs]; simp [outsF]
          rw [hflat, hbig c.out hfine.2]
          have hlook : ∀ p ∈ M ++ (outsF ps ++ outsF ss), ∀ t, p.1 = some t → t ∉ o.looksAt ops := fun p hp t ht => (hall p hp j' hjall o ho t ht).1
          have hdst : ∀ p ∈ M ++ (outsF ps ++ outsF ss), ∀ t, p.1 = some t → o.dst ≠ some t := fun p hp t ht => (hall p hp j' hjall o ho t ht).2
          have hN : ∀ v, ∀ p ∈ c.out ++ [(o.dst, v)], ∃ i ∈ c.all, ∃ x, ops[i]? = some x ∧ p.1 = x.dst := by
            intro v p hpm
            rcases List.mem_append.1 hpm with h | h
            · exact hfine.2 p h
            · simp only [List.mem_singleton] at h
              subst h
              exact ⟨j', hjall, o, ho, rfl⟩
          have hstep : ∀ v w2, Y w w2 → (∀ d ∈ ps ++ ss, d.X.R w w2) → L w w2 → Rob P ops (NoPanic Q) c.X c.base r (c.out ++ [(o.dst, v)]) c.E w2 →
              wpAnyH P md ops (NoPanic Q) (L w) f' (l.setIfInBounds j' true) ((puts (puts c.base c.out) (M ++ (outsF ps ++ outsF ss))).put o.dst v) w2 := by
            intro v w2 hYR hRl hL hR
            obtain ⟨c', hc'⟩ : ∃ c' : Fl, c' = ⟨c.all, r, c.out ++ [(o.dst, v)], c.E, c.X, c.base⟩ := ⟨_, rfl⟩
            have hact : (puts (puts c.base c.out) (M ++ (outsF ps ++ outsF ss))).put o.dst v = puts (puts c.base M) (outsF (ps ++ c' :: ss)) := by
              have : outsF (ps ++ c' :: ss) = outsF ps ++ ((c.out ++ [(o.dst, v)]) ++ outsF ss) := by rw [hc']; simp [outsF]
              rw [this, hbig _ (hN v), puts_app c.base c.out]
              exact (puts_put _ (puts c.base c.out) o.dst v hdst).symm
            rw [hact]
            have hmap : (ps ++ c' :: ss).map Fl.key = (bg.map Fl.key).set k (r, c.all) := by
              rw [hcs, List.map_append, List.map_append, List.set_append_right _ _ (by rw [List.length_map]; omega), List.length_map, hpl, Nat.sub_self, hc']
              rfl
            have hmapx : (ps ++ c' :: ss).map Fl.ex = bg.map Fl.ex := by rw [hcs, hc']; simp [Fl.ex]
            refine wpAnyH_stronger (fun x hx => Lt hL hx) _ _ _ _ (M_sound Lr Lt hs Y hYr hYt hRL n t (ps ++ c' :: ss) (l.setIfInBounds j' true) (puts c.base M) w2 f' (by rw [hmap]; exact hk) (by rw [hmapx]; exact wpM_later (Y := Y) (L := L) hYt hRL Lt h hYR) ?_ ?_ ?_)
            · intro d hd
              have keep : ∀ d ∈ ps ++ ss, d.Fine ops ∧ d.X.Ok L ∧ (∀ x y, d.X.G x y → Y x y) ∧ d.Since ops (puts c.base M) ∧ Rob P ops (NoPanic Q) d.X d.base d.todo d.out d.E w2 := by
                intro d hd
                obtain ⟨k1, k2, k3, k4, k5⟩ := hb d (hin d hd)
                exact ⟨k1, k2, k3, k4, Rob.later (X := d.X) (w := w) (w' := w2) (fun {a b c} g1 g2 => k2.2.1 a b c g1 g2) k5 (hRl d hd)⟩
              rcases List.mem_append.1 hd with h | h
              · exact keep d (List.mem_append_left _ h)
              · rcases List.mem_cons.1 h with h | h
                · rw [h, hc']
                  exact ⟨⟨fun i hi => hfine.1 i (by rw [ht]; exact List.mem_cons_of_mem _ hi), hN v⟩, hok, hYc, ⟨M, rfl, hM⟩, hR⟩
                · exact keep d (List.mem_append_right _ h)
            · refine List.pairwise_append.2 ⟨hp2.1, List.pairwise_cons.2 ⟨fun d hd => ?_, (List.pairwise_cons.1 hp2.2.1).2⟩, fun d hd e he => ?_⟩
              · rw [hc']; exact (List.pairwise_cons.1 hp2.2.1).1 d hd
              · rcases List.mem_cons.1 he with h | h
                · rw [h, hc']; exact hp2.2.2 d hd c List.mem_cons_self
                · exact hp2.2.2 d hd e (List.mem_cons_of_mem _ h)
            · have e1 : ((ps ++ c' :: ss).map (fun c => c.todo.length)).sum + 1 = (bg.map (fun c => c.todo.length)).sum := by
                rw [hcs, hc']
                simp only [List.map_append, List.map_cons, List.sum_append, List.sum_cons, ht, List.length_cons]
                omega
              omega
          unfold wpOp
          simp only [ho]
          rw [wanted_puts o _ _ hlook]
          rcases hw with ⟨hw, hwp⟩ | ⟨hw, hR⟩
          · rw [if_pos hw]
            refine .inl (wp_puts hsel _ _ w hlook hdst (Oper.wp_mono ?_ hwp))
            rintro a' w2 ⟨hG, v, rfl, hR⟩
            rw [puts_put _ _ _ _ hdst]
            have hL := hok.2.2 w w2 hG
            exact ⟨hL, hstep v w2 (hYc w w2 hG) (fun d hd => (hbes d hd).2.1 w w2 hG) hL hR⟩
          · rw [hw]
            exact ⟨Lr w, hstep undef w (hYr w) (fun d hd => (hb d (hin d hd)).2.1.1 w) (Lr w) hR⟩
    have hlen : ∀ j ∈ Region.ready md ops l, (List.range (bg.map Fl.key).length).any (fun k => match (bg.map Fl.key)[k]? with
        | some (j' :: r, al) => j' == j && checkM md ops n t ((bg.map Fl.key).set k (r, al)) (l.setIfInBounds j true)
        | _ => false) = true → 1 ≤ f := by
      intro j _ hk
      obtain ⟨k, _, hk⟩ := List.any_eq_true.1 hk
      cases hck : bg[k]? with
      | none => rw [List.getElem?_map, hck] at hk; simp at hk
      | some c =>
        rw [List.getElem?_map, hck] at hk
        simp only [Option.map_some, Fl.key] at hk
        cases ht : c.todo with
        | nil => rw [ht] at hk; simp at hk
        | cons j' r =>
          obtain ⟨ps, ss, hcs, _⟩ := set_at hck
          rw [hcs] at hf
          simp only [List.map_append, List.map_cons, List.sum_append, List.sum_cons, ht, List.length_cons] at hf
          omega
    match t, h, hc, side, hlen, hf with
    | [], h, hc, _, _, _ =>
      simp only [checkM, Bool.and_eq_true] at hc
      have hbn : bg = [] := by simpa using hc.1
      subst hbn
      exact wpAnyH_done (by simpa using hc.2) (h w (hYr w)) f
    | .f i :: r, h, hc, _, _, hf =>
      obtain ⟨o, v, ho, hy, hr⟩ := h
      simp only [checkM, Bool.and_eq_true] at hc
      obtain ⟨⟨⟨hc1, hc2⟩, hc3⟩, hc4⟩ := hc
      have hap : ∀ c ∈ bg, ∀ j ∈ c.all, ∀ y, ops[j]? = some y → o.apart ops y = true := by
        intro c hcb j hj y hyy
        exact apartB_spec (List.all_eq_true.1 (List.all_eq_true.1 hc3 c.key (List.mem_map_of_mem hcb)) j hj) ho hyy
      have hoL : ∀ p ∈ outsF bg, ∀ t, p.1 = some t → t ∉ o.looksAt ops ∧ o.dst ≠ some t := by
        intro p hpm t ht
        unfold outsF at hpm
        obtain ⟨x, hx, hpx⟩ := List.mem_flatten.1 hpm
        obtain ⟨d, hd, rfl⟩ := List.mem_map.1 hx
        obtain ⟨i2, hi2, y, hyy, hpy⟩ := (hb d hd).1.2 p hpx
        obtain ⟨g1, g2, g3⟩ := Oper.apart_spec (hap d hd i2 hi2 y hyy)
        exact ⟨g3 t (by rw [← hpy]; exact ht), fun he => g2 t he (by rw [← hpy]; exact ht)⟩
      simp only [lenM, List.map_cons, List.sum_cons, Im.len] at hf
      cases f with
      | zero => omega
      | succ f =>
        have hsel : ∀ cs b, o.op ≠ .select cs b := fun x b => Region.noSelect_spec hs i o x b ho
        have hy2 : YieldsIf P ops (L w) o v (puts a (outsF bg)) := hy.of_same (exec_puts o hsel _ _ fun p hp t ht => (hoL p hp t ht).1) (wanted_puts o _ _ fun p hp t ht => (hoL p hp t ht).1)
        refine wpAnyH_take ho hs hc1 hc2 (fun c a w => NoPanic.put Q c a o.dst v w) hy2 (Lr w) ?_
        rw [← puts_put _ _ _ _ fun p hp t ht => (hoL p hp t ht).2]
        refine M_sound Lr Lt hs Y hYr hYt hRL n r bg (l.setIfInBounds i true) (a.put o.dst v) w f hc4 hr ?_ hp (by unfold lenM; omega)
        intro c hcb
        obtain ⟨k1, k2, k3, k4, k5⟩ := hb c hcb
        refine ⟨k1, k2, k3, ?_, k5⟩
        have := k4.more (N := [(o.dst, v)]) ?_
        · exact this
        · intro p hpm j hj y hyy t ht
          simp only [List.mem_singleton] at hpm
          subst hpm
          obtain ⟨g1, g2, g3⟩ := Oper.apart_spec (hap c hcb j hj y hyy)
          exact ⟨g1 t ht, g2 t ht⟩
    | .c i :: r, h, hc, side, hlen, hf =>
      simp only [checkM, Bool.and_eq_true] at hc
      obtain ⟨hne, hall⟩ := hc
      simp only [lenM, List.map_cons, List.sum_cons, Im.len] at hf
      cases f with
      | zero => omega
      | succ f =>
        refine wpAnyH_all (rs := Region.ready md ops l) rfl (by simpa using hne) ?_
        intro j hj
        have h1 := List.all_eq_true.1 hall j hj
        by_cases hji : j = i
        · subst hji
          simp only [beq_self_eq_true, if_true, Bool.and_eq_true] at h1
          obtain ⟨hc3, hc4⟩ := h1
          obtain ⟨o, ho, hw⟩ := h w (hYr w)
          have hap : ∀ c ∈ bg, ∀ k ∈ c.all, ∀ y, ops[k]? = some y → o.apart ops y = true := by
            intro c hcb k hk y hyy
            exact apartB_spec (List.all_eq_true.1 (List.all_eq_true.1 hc3 c.key (List.mem_map_of_mem hcb)) k hk) ho hyy
          have hoL : ∀ p ∈ outsF bg, ∀ t, p.1 = some t → t ∉ o.looksAt ops ∧ o.dst ≠ some t := by
            intro p hpm t ht
            unfold outsF at hpm
            obtain ⟨x, hx, hpx⟩ := List.mem_flatten.1 hpm
            obtain ⟨d, hd, rfl⟩ := List.mem_map.1 hx
            obtain ⟨i2, hi2, y, hyy, hpy⟩ := (hb d hd).1.2 p hpx
            obtain ⟨g1, g2, g3⟩ := Oper.apart_spec (hap d hd i2 hi2 y hyy)
            exact ⟨g3 t (by rw [← hpy]; exact ht), fun he => g2 t he (by rw [← hpy]; exact ht)⟩
          have hsel : ∀ cs b, o.op ≠ .select cs b := fun x b => Region.noSelect_spec hs j o x b ho
          have hgo : ∀ v w2, L w w2 → (∀ c ∈ bg, c.X.R w w2) → wpM P ops (NoPanic Q) L Y r (bg.map Fl.ex) (a.put o.dst v) w2 → wpAnyH P md ops (NoPanic Q) (L w) f (l.setIfInBounds j true) ((puts a (outsF bg)).put o.dst v) w2 := by
            intro v w2 hL hRl hr
            rw [← puts_put _ _ _ _ fun p hp t ht => (hoL p hp t ht).2]
            refine wpAnyH_stronger (fun x hx => Lt hL hx) _ _ _ _ (M_sound Lr Lt hs Y hYr hYt hRL n r bg (l.setIfInBounds j true) (a.put o.dst v) w2 f hc4 hr ?_ hp (by unfold lenM; omega))
            intro c hcb
            obtain ⟨k1, k2, k3, k4, k5⟩ := hb c hcb
            refine ⟨k1, k2, k3, ?_, Rob.later (X := c.X) (w := w) (w' := w2) (fun {a b c} g1 g2 => k2.2.1 a b c g1 g2) k5 (hRl c hcb)⟩
            have := k4.more (N := [(o.dst, v)]) ?_
            · exact this
            · intro p hpm k hk y hyy t ht
              simp only [List.mem_singleton] at hpm
              subst hpm
              obtain ⟨g1, g2, g3⟩ := Oper.apart_spec (hap c hcb k hk y hyy)
              exact ⟨g1 t ht, g2 t ht⟩
          unfold wpOp
          simp only [ho]
          rw [wanted_puts o _ _ fun p hp t ht => (hoL p hp t ht).1]
          rcases hw with ⟨hw, hwp⟩ | ⟨hw, hr⟩
          · rw [if_pos hw]
            refine .inl (wp_puts hsel _ _ w (fun p hp t ht => (hoL p hp t ht).1) (fun p hp t ht => (hoL p hp t ht).2) (Oper.wp_mono ?_ hwp))
            rintro a' w2 ⟨hG, v, rfl, hr⟩
            rw [puts_put _ _ _ _ fun p hp t ht => (hoL p hp t ht).2]
            have hL := hG.1
            exact ⟨hL, hgo v w2 hL (fun c hcb => hG.2 c.ex (List.mem_map_of_mem hcb)) hr⟩
          · rw [hw]
            exact ⟨Lr w, hgo undef w (Lr w) (fun c hcb => (hb c hcb).2.1.1 w) hr⟩
        · have h2 : (j == i) = false := by simpa using hji
          rw [h2] at h1
          exact side j f rfl h1
    | .s c :: r, h, hc, _, _, hf =>
      simp only [checkM, Bool.and_eq_true] at hc
      obtain ⟨e, he1, he2, he3, he4, he5⟩ := h w (hYr w)
      obtain ⟨c', hc'⟩ : ∃ c' : Fl, c' = ⟨c, c, [], e.1, e.2, a⟩ := ⟨_, rfl⟩
      have e1 : outsF bg = outsF (bg ++ [c']) := by rw [hc']; simp [outsF]
      rw [e1]
      simp only [lenM, List.map_cons, List.sum_cons, Im.len] at hf
      refine M_sound Lr Lt hs Y hYr hYt hRL n r (bg ++ [c']) l a w f (by rw [List.map_append, hc']; exact hc.2) (by rw [List.map_append, hc']; exact he5) ?_ ?_ ?_
      · intro d hd
        rcases List.mem_append.1 hd with h1 | h1
        · exact hb d h1
        · simp only [List.mem_singleton] at h1
          rw [h1, hc']
          exact ⟨⟨fun i hi => hi, fun p hp => by cases hp⟩, he1, he2, ⟨[], rfl, fun p hp => by cases hp⟩, he4⟩
      · refine List.pairwise_append.2 ⟨hp, by simp, fun d hd g hg => ?_⟩
        simp only [List.mem_singleton] at hg
        rw [hg, hc']
        exact ⟨besideL_of (List.all_eq_true.1 hc.1 d.key (List.mem_map_of_mem hd)), he3 d.ex (List.mem_map_of_mem hd)⟩
      · rw [List.map_append, List.sum_append, hc']
        simp only [List.map_cons, List.map_nil, List.sum_cons, List.sum_nil, lenM]
        omega
    | .w :: r, h, hc, side, hlen, hf =>
      cases bg with
      | nil => exact h.elim
      | cons c bg =>
        cases ht : c.todo with
        | nil =>
          simp only [checkM, List.map_cons, Fl.key, ht] at hc
          obtain ⟨k1, k2, k3, k4, k5⟩ := hb c List.mem_cons_self
          rw [ht] at k5
          have hE := k5.done w (k2.1 w)
          have hr := h w c.out (hYr w) hE
          have hp2 := List.pairwise_cons.1 hp
          have e1 : puts a (outsF (c :: bg)) = puts (puts a c.out) (outsF bg) := by
            rw [← puts_app]; simp [outsF]
          rw [e1]
          simp only [lenM, List.map_cons, List.sum_cons, Im.len, ht, List.length_nil] at hf
          refine M_sound Lr Lt hs Y hYr hYt hRL n r bg l (puts a c.out) w f hc hr ?_ hp2.2 (by unfold lenM; omega)
          intro d hd
          obtain ⟨g1, g2, g3, g4, g5⟩ := hb d (List.mem_cons_of_mem _ hd)
          exact ⟨g1, g2, g3, g4.more (k1.off (hp2.1 d hd).1), g5⟩
        | cons j r2 =>
          simp only [checkM, List.map_cons, Fl.key, ht, Bool.and_eq_true] at hc
          obtain ⟨hne, hall⟩ := hc
          simp only [List.map_cons, Fl.key, ht] at side hlen
          have hf1 : 1 ≤ f := by
            simp only [List.map_cons, List.sum_cons, ht, List.length_cons] at hf
            omega
          cases f with
          | zero => omega
          | succ f =>
            refine wpAnyH_all (rs := Region.ready md ops l) rfl (by simpa using hne) ?_
            intro j2 hj2
            exact side j2 f rfl (List.all_eq_true.1 hall j2 hj2)

/-- The beginning: blocks of the call's own that were made since may be written by the line, the chains beside it make memory alone. -/
theorem wp_region_main {id : Nat} {a : Act} {w : World} (N n : Nat) (ord : List Im) (hm : P.follows .mixedOrders = true) (hs : Region.noSelect ops = true)
    (hl : decide (lenM ord ≤ ops.size) = true) (hc : checkM .any ops n ord [] (Array.replicate ops.size false) = true) (h : wpM P ops (NoPanic Q) (Kp N (fun _ => True)) (Kp N (fun _ => False)) ord [] a w.drew) : (Code.region id ops true).wp P Q a w :=
  wp_region_noPanic (wp_region_held hm (M_sound (Kp.refl N _) Kp.trans hs (Kp N (fun _ => False)) (Kp.refl N _) Kp.trans (fun _ _ h => h.mono fun _ h => h.elim) n ord [] _ a w.drew ops.size hc h (fun _ h => by cases h) List.Pairwise.nil (by simpa using of_decide_eq_true hl)))

variable {Y : World → World → Prop} {bg : List EX}
theorem wpM_nil {a : Act} {w : World} (h : ∀ w', Y w w' → Q .normal a w') : wpM P ops (NoPanic Q) L Y [] bg a w := h
theorem wpM_F {i : Nat} {r : List Im} {a : Act} {w : World} {o : Oper} {v : Value} (ho : nth ops.toList i = some o) (hw : Region.wanted o (yielded ops a.tmps) = true)
    (hv : ∀ w', L w w' → (execOp a.eval o).run P w' = .ok (.value v) w') (h : wpM P ops Q L Y r bg (a.put o.dst v) w) : wpM P ops Q L Y (.f i :: r) bg a w :=
  ⟨o, v, nth_ops ho, .inl ⟨hw, hv⟩, h⟩
theorem wpM_G {i : Nat} {r : List Im} {a : Act} {w : World} {o : Oper} (ho : nth ops.toList i = some o) (hw : Region.wanted o (yielded ops a.tmps) = false)
    (h : wpM P ops Q L Y r bg (a.put o.dst undef) w) : wpM P ops Q L Y (.f i :: r) bg a w := ⟨o, undef, nth_ops ho, .inr ⟨hw, rfl⟩, h⟩
theorem wpM_C {i : Nat} {r : List Im} {a : Act} {w : World} {o : Oper} (ho : nth ops.toList i = some o) (hw : Region.wanted o (yielded ops a.tmps) = true)
    (h : ∀ w', Y w w' → ∀ K : Act → World → Prop, Hid (∀ v w'' b, b = a.put o.dst v → L w' w'' → (∀ e ∈ bg, e.2.R w' w'') → wpM P ops Q L Y r bg b w'' → K b w'') → o.wp P a w' K Q) : wpM P ops Q L Y (.c i :: r) bg a w :=
  fun w' hL => ⟨o, nth_ops ho, .inl ⟨hw, h w' hL _ (fun v w'' b hb h1 h2 h3 => ⟨⟨h1, h2⟩, v, hb, hb ▸ h3⟩)⟩⟩
theorem wpM_S {c : List Nat} {r : List Im} {a : Act} {w : World} (E : Outs → World → Prop) (X : RG) (hX : X.Ok L) (hG : ∀ x y, X.G x y → Y x y) (hw : ∀ d ∈ bg, d.2.With X)
    (h : ∀ w', Y w w' → Rob P ops Q X a c [] E w' ∧ wpM P ops Q L Y r (bg ++ [(E, X)]) a w') : wpM P ops Q L Y (.s c :: r) bg a w :=
  fun w' hL => ⟨(E, X), hX, hG, hw, (h w' hL).1, (h w' hL).2⟩
theorem wpM_W {r : List Im} {a : Act} {w : World} {e : EX} (h : ∀ w' l, Y w w' → e.1 l w' → wpM P ops Q L Y r bg (puts a l) w') : wpM P ops Q L Y (.w :: r) (e :: bg) a w := h
end
/-- A chain that makes memory alone, of blocks that no other changes of type t. -/
def floatT (N : Nat) (t : TypeId) : RG := ⟨Kp N (fun o => ¬ isT t o), Kp N (fun _ => False)⟩
theorem floatT_ok (N : Nat) (t : TypeId) : (floatT N t).Ok (Kp N (fun _ => True)) := ⟨Kp.refl _ _, fun _ _ _ => Kp.trans, fun _ _ h => h.mono fun _ h => h.elim⟩
theorem floatT_with (N : Nat) (t u : TypeId) : (floatT N t).With (floatT N u) := ⟨fun _ _ h => h.mono fun _ h => h.elim, fun _ _ h => h.mono fun _ h => h.elim⟩
theorem floatT_R {N : Nat} {t u : TypeId} {w w' : World} (h : Kp N (isT u) w w') (hne : u ≠ t) : (floatT N t).R w w' := h.mono fun o ⟨cs, h1⟩ ⟨cs', h2⟩ => by
  rw [h1] at h2
  injection h2 with h3
  injection h3 with _ h4
  exact hne h4
theorem Blk.kpn {w w' : World} {g N : Nat} {T : TypeId} {cs : Array Value} (h : Blk w g T cs) (hk : Kp N (fun o => ¬ isT T o) w w') : Blk w' g T cs := by
  rcases hk.block g h.lt with h1 | ⟨_, h1⟩
  · exact h1.trans h
  · exact absurd ⟨cs, h⟩ h1
theorem own_kpn {w w' : World} {base N : Nat} {T : TypeId} {z n : Nat} {v : Value} {xs : List Value} (h : w.ownsRow base T z v n xs) (hk : Kp N (fun o => ¬ isT T o) w w') : w'.ownsRow base T z v n xs := by
  refine own_keep h fun g hg => ?_
  rcases hk.block g (own_lt h hg) with h1 | ⟨_, h1⟩
  · exact h1
  · exact absurd (own_isT h (Option.mem_toList.2 hg)).2 h1
theorem Blk.kp0 {w w' : World} {g N : Nat} {T : TypeId} {cs : Array Value} (h : Blk w g T cs) (hk : Kp N (fun _ => False) w w') : Blk w' g T cs := by
  rcases hk.block g h.lt with h1 | ⟨_, h1⟩
  · exact h1.trans h
  · exact h1.elim
theorem bg0 {w w' : World} : ∀ e ∈ ([] : List EX), e.2.R w w' := fun _ h => by cases h
theorem bg1 {N : Nat} {t : TypeId} {w w' : World} {E : Outs → World → Prop} (h : (floatT N t).R w w') : ∀ e ∈ ([(E, floatT N t)] : List EX), e.2.R w w' := fun e he => by
  simp only [List.mem_singleton] at he; subst he; exact h
theorem bg2 {N : Nat} {t u : TypeId} {w w' : World} {E F : Outs → World → Prop} (h : (floatT N t).R w w') (k : (floatT N u).R w w') : ∀ e ∈ ([(E, floatT N t), (F, floatT N u)] : List EX), e.2.R w w' := fun e he => by
  simp only [List.mem_cons, List.not_mem_nil, or_false] at he
  rcases he with rfl | rfl
  · exact h
  · exact k
attribute [irreducible] wpM
end Go.Proofs.Ytlcphgomhhejbaa
