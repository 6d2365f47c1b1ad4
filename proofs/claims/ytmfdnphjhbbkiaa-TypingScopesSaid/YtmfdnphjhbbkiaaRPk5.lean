/- Several texts of one proof, one behind the other. -/
import Derived.Test.YtmfdnphjhbbkiaaRPk4
import Derived.Laws.StructEq
import Derived.Deep.MidRow
import Derived.Lib.Hide
import Derived.Maps.OwnSet
import Derived.StringKeys
set_option linter.unusedSimpArgs false
set_option linter.unusedVariables false

/- The walks of cmp.Compare, cell.Order and cell.Compare. -/
set_option linter.unusedSimpArgs false
set_option linter.unusedVariables false
set_option maxRecDepth 100000
namespace Go.Proofs.Ytmfdnphjhbbkiaa
open Go.RowKit

def cmpI (x y : Int) : Int := if x < y then -1 else if y < x then 1 else 0
def cmpS (s t : ByteArray) : Int := if Op.bytesLess s.toList t.toList then -1 else if s.toList == t.toList then 0 else 1

/-- The order of two values. -/
def orderV (a b : Vl) : Int :=
  if a = b ∨ a.right = false ∨ b.right = false then 0 else if a.k ≠ b.k then cmpI a.k b.k else if a.n ≠ b.n then cmpI a.n b.n else cmpS a.s b.s

theorem toList_inj {s t : ByteArray} (h : s.toList = t.toList) : s = t := by
  rw [ByteArray.toList_eq, ByteArray.toList_eq] at h
  exact ByteArray.ext (Array.toList_inj.1 h)

theorem ne_bool (k1 k2 : Nat) (n1 n2 : Int) (s1 s2 : ByteArray) (h : (⟨k1, n1, s1⟩ : Vl) ≠ ⟨k2, n2, s2⟩) : ((k1 : Int) == (k2 : Int) && (n1 == n2 && s1.toList == s2.toList)) = false := by
  rw [Bool.eq_false_iff]
  intro hh
  simp only [Bool.and_eq_true, beq_iff_eq] at hh
  obtain ⟨e1, e2, e3⟩ := hh
  apply h
  rw [show k1 = k2 by omega, e2, toList_inj e3]

def RetI (w : World) (n : Int) (e : Ending) (w' : World) : Prop := e = .returned (.int .i64 n) ∧ Below w.heap.size w w'

end Go.Proofs.Ytmfdnphjhbbkiaa

/- A table in memory; the walks of isName, hasPeriod, has, Find, and of the reference's IsName. -/
set_option linter.unusedSimpArgs false
set_option linter.unusedVariables false
set_option maxRecDepth 100000
namespace Go.Proofs.Ytmfdnphjhbbkiaa
open Go.RowKit

/-- Where a table's columns and its key lie. -/
structure TM where
  ca : Option Addr
  cl : Nat
  cc : Nat
  ka : Option Addr
  kl : Nat
  kc : Nat

/-- The cells of a table. -/
abbrev TM.cs (m : TM) (t : Tb) : Array Value := #[.string t.name, .slice m.ca m.cl m.cc, .slice m.ka m.kl m.kc, .string t.per, .int .i64 t.fr, .int .i64 t.tt, .bool t.apart, .bool t.vers]
abbrev TM.v (m : TM) (t : Tb) : Value := .agg (m.cs t)

/-- The table t lies there. -/
structure TAt (w : World) (t : Tb) (m : TM) : Prop where
  hc : m.cl = t.cols.length
  hk : m.kl = t.key.length
  ccap : m.cl ≤ m.cc
  kcap : m.kl ≤ m.kc
  carr : Arr w.heap.size w m.ca (cellsO t.cols)
  karr : Arr w.heap.size w m.ka (cellsI t.key)
  fair : t.Fair
theorem TAt.later {w w' : World} {t : Tb} {m : TM} (h : TAt w t m) (hb : Below w.heap.size w w') : TAt w' t m :=
  ⟨h.hc, h.hk, h.ccap, h.kcap, h.carr.later (N := 0) hb, h.karr.later (N := 0) hb, h.fair⟩
theorem TAt.cmax {w : World} {t : Tb} {m : TM} (h : TAt w t m) : m.cl ≤ 1000000 := by have := h.fair.cl; have := h.hc; omega
theorem TAt.kmax {w : World} {t : Tb} {m : TM} (h : TAt w t m) : m.kl ≤ 1000000 := by have := h.fair.kl; have := h.hk; omega

theorem isNm_eq (s : ByteArray) : isNm s = (decide ((nameV s).2 = 0) && decide ((nameV s).1 = s)) := by
  unfold isNm
  obtain ⟨x, e⟩ := nameV s
  rw [Bool.eq_iff_iff]
  simp
  exact and_comm

theorem size0 {s : ByteArray} (h : s.size = 0) : s = ⟨#[]⟩ := by
  apply ByteArray.ext
  exact Array.eq_empty_of_size_eq_zero h

end Go.Proofs.Ytmfdnphjhbbkiaa

/- What a call may change: footprints; blocks that are known whole; regions that draw their order and write memory of their own. -/
set_option linter.unusedSimpArgs false
set_option linter.unusedVariables false
set_option maxRecDepth 100000
namespace Go.Proofs.Ytmfdnphjhbbkiaa
open Go.RowKit

/-- But for the blocks S the world w' is as w was. -/
structure Chg (S : List Nat) (w w' : World) : Prop where
  os : w'.os = w.os
  tape : w'.tape = w.tape
  output : w'.output = w.output
  size : w.heap.size ≤ w'.heap.size
  block : ∀ k, k < w.heap.size → k ∉ S → w'.heap[k]? = w.heap[k]?

/-- Of the blocks S' each is of S or new. -/
def Frsh (w : World) (S S' : List Nat) : Prop := ∀ k, k ∈ S' → k ∈ S ∨ w.heap.size ≤ k

theorem Frsh.refl (w : World) (S : List Nat) : Frsh w S S := fun _ h => .inl h
theorem Chg.refl (S : List Nat) (w : World) : Chg S w w := ⟨rfl, rfl, rfl, Nat.le_refl _, fun _ _ _ => rfl⟩
theorem Chg.trans' {S S1 : List Nat} {a b c : World} (h : Chg S a b) (f : Frsh a S S1) (k : Chg S1 b c) : Chg S a c :=
  ⟨k.os.trans h.os, k.tape.trans h.tape, k.output.trans h.output, Nat.le_trans h.size k.size, fun i hi hn => (k.block i (Nat.lt_of_lt_of_le hi h.size) (fun hm => by rcases f i hm with h1 | h1; exact hn h1; omega)).trans (h.block i hi hn)⟩
theorem Chg.trans {S : List Nat} {a b c : World} (h : Chg S a b) (k : Chg S b c) : Chg S a c := h.trans' (Frsh.refl _ _) k
theorem Frsh.trans {S S1 S2 : List Nat} {a b : World} (f : Frsh a S S1) (h : a.heap.size ≤ b.heap.size) (g : Frsh b S1 S2) : Frsh a S S2 := fun k hk => by
  rcases g k hk with h1 | h1
  · exact f k h1
  · exact .inr (by omega)
theorem Frsh.sub {w : World} {S S' : List Nat} (h : ∀ k ∈ S', k ∈ S) : Frsh w S S' := fun k hk => .inl (h k hk)
theorem Chg.sub {S T : List Nat} {a b : World} (h : Chg S a b) (hs : ∀ k ∈ S, k ∈ T) : Chg T a b := ⟨h.os, h.tape, h.output, h.size, fun k hk hn => h.block k hk (fun hm => hn (hs k hm))⟩
theorem Chg.drew {S : List Nat} {a w : World} (h : Chg S a w) : Chg S a w.drew := ⟨h.os, h.tape, h.output, h.size, h.block⟩
theorem Chg.undrew {S : List Nat} {a w : World} (h : Chg S a.drew w) : Chg S a w := ⟨h.os, h.tape, h.output, h.size, h.block⟩
theorem Chg.alloc {S : List Nat} {a w : World} (h : Chg S a w) (o : Obj) : Chg S a (w.alloc o) :=
  h.trans ⟨rfl, rfl, rfl, by simp, fun k hk _ => Below.heap_alloc _ _ _ hk⟩
theorem Chg.setCell {S : List Nat} {a w : World} (h : Chg S a w) {b o : Nat} (hb : b ∈ S ∨ a.heap.size ≤ b) (u : Value) : Chg S a (w.setCell ⟨b, o, none⟩ u) :=
  ⟨h.os, h.tape, h.output, by simpa [World.setCell] using h.size, fun k hk hn => (Below.heap_setCell w ⟨b, o, none⟩ u k (fun e => by
    have e' : k = b := e
    rcases hb with hb | hb
    · exact hn (e' ▸ hb)
    · omega)).trans (h.block k hk hn)⟩
theorem Below.chg {N : Nat} {w w' : World} (h : Below N w w') {S : List Nat} (hN : ∀ k, N ≤ k → k < w.heap.size → k ∈ S) : Chg S w w' :=
  ⟨h.os, h.tape, h.output, h.size, fun k hk hn => h.block k (by
    rcases Nat.lt_or_ge k N with h1 | h1
    · exact h1
    · exact absurd (hN k h1 hk) hn)⟩
theorem Below.chg0 {w w' : World} (h : Below w.heap.size w w') (S : List Nat) : Chg S w w' := Below.chg h fun k h1 h2 => absurd h2 (by omega)
theorem Chg.below {S : List Nat} {w w' : World} (h : Chg S w w') {N : Nat} (hN : N ≤ w.heap.size) (hS : ∀ k ∈ S, N ≤ k) : Below N w w' :=
  ⟨h.os, h.tape, h.output, h.size, fun k hk => h.block k (by omega) (fun hm => by have := hS k hm; omega)⟩
theorem Chg.cell {S : List Nat} {w w' : World} (h : Chg S w w') {b o : Nat} (hb : b < w.heap.size) (hn : b ∉ S) : w'.cell? ⟨b, o, none⟩ = w.cell? ⟨b, o, none⟩ :=
  World.cell?_of_block (w := w) (a := ⟨b, o, none⟩) (h.block b hb hn)
theorem Chg.frozen {S : List Nat} {w w' : World} (h : Chg S w w') {b o : Nat} (hb : b < w.heap.size) (hn : b ∉ S) : w'.frozen? ⟨b, o, none⟩ = w.frozen? ⟨b, o, none⟩ :=
  World.frozen?_of_block (w := w) (a := ⟨b, o, none⟩) (h.block b hb hn)

/-- Block g is just these cells. -/
def Blk (w : World) (g : Nat) (t : TypeId) (cs : Array Value) : Prop := w.heap[g]? = some (.cells cs t (0, 0))
section
variable {w w' : World} {g : Nat} {t : TypeId} {cs : Array Value}
theorem Blk.lt (h : Blk w g t cs) : g < w.heap.size := by
  rcases Nat.lt_or_ge g w.heap.size with hlt | hge
  · exact hlt
  · unfold Blk at h; rw [Array.getElem?_eq_none hge] at h; cases h
theorem Blk.cell (h : Blk w g t cs) (i : Nat) : w.cell? ⟨g, i, none⟩ = cs[i]? := cell_of_row w g i cs t (0, 0) h
theorem Blk.frozen (h : Blk w g t cs) (i : Nat) : w.frozen? ⟨g, i, none⟩ = false := frozen_of_row w g i cs t h
theorem Blk.new (w : World) (t : TypeId) (cs : Array Value) : Blk (w.alloc (.cells cs t)) w.heap.size t cs := heap_alloc_new w _
theorem Blk.drew (h : Blk w g t cs) : Blk w.drew g t cs := h
theorem Blk.alloc (h : Blk w g t cs) (o : Obj) : Blk (w.alloc o) g t cs := (Below.heap_alloc w o g h.lt).trans h
theorem Blk.set_ (h : Blk w g t cs) (i : Nat) (u : Value) : Blk (w.setCell ⟨g, i, none⟩ u) g t (cs.setIfInBounds i u) := by
  unfold Blk at h ⊢
  simp [World.setCell, Array.getElem?_modify, h]
theorem Blk.far (h : Blk w g t cs) {b o : Nat} (hp : g ≠ b) (u : Value) : Blk (w.setCell ⟨b, o, none⟩ u) g t cs := (Below.heap_setCell w ⟨b, o, none⟩ u g hp).trans h
theorem Blk.chg {S : List Nat} (h : Blk w g t cs) (hc : Chg S w w') (hn : g ∉ S) : Blk w' g t cs := (hc.block g h.lt hn).trans h
theorem Blk.ne_ {g' : Nat} {t' : TypeId} {cs' : Array Value} (h : Blk w g t cs) (h' : Blk w g' t' cs') (hne : t ≠ t') : g ≠ g' := by
  rintro rfl
  unfold Blk at h h'
  rw [h] at h'
  injection h' with h'
  injection h' with _ ht
  exact hne ht
end

/-- Block g is a map with these entries. -/
def MapB (w : World) (g : Nat) (es : Array MapEntry) (clk : Nat) : Prop := w.heap[g]? = some (.map es clk)
theorem MapB.lt {w : World} {g clk : Nat} {es : Array MapEntry} (h : MapB w g es clk) : g < w.heap.size := by
  rcases Nat.lt_or_ge g w.heap.size with hlt | hge
  · exact hlt
  · unfold MapB at h; rw [Array.getElem?_eq_none hge] at h; cases h
theorem MapB.ne_blk {w : World} {g clk g' : Nat} {es : Array MapEntry} {t : TypeId} {cs : Array Value} (h : MapB w g es clk) (h' : Blk w g' t cs) : g ≠ g' := by
  rintro rfl
  unfold MapB at h; unfold Blk at h'
  rw [h] at h'
  injection h' with h'
  cases h'
theorem MapB.chg {S : List Nat} {w w' : World} {g clk : Nat} {es : Array MapEntry} (h : MapB w g es clk) (hc : Chg S w w') (hn : g ∉ S) : MapB w' g es clk := (hc.block g h.lt hn).trans h
theorem MapB.setCell {w : World} {g clk b o : Nat} {es : Array MapEntry} (h : MapB w g es clk) (u : Value) : MapB (w.setCell ⟨b, o, none⟩ u) g es clk := by
  unfold MapB at h ⊢
  simp only [World.setCell, Array.getElem?_modify]
  split
  · rw [h]; rfl
  · exact h

/-- The world with another object in block g. -/
def putObj (w : World) (g : Nat) (o : Obj) : World := { w with heap := w.heap.setIfInBounds g o }
theorem putObj_size (w : World) (g : Nat) (o : Obj) : (putObj w g o).heap.size = w.heap.size := by simp [putObj]
theorem putObj_same {w : World} {g : Nat} (o : Obj) (h : g < w.heap.size) : (putObj w g o).heap[g]? = some o := by
  simp [putObj, h]
theorem putObj_other (w : World) (g k : Nat) (o : Obj) (h : k ≠ g) : (putObj w g o).heap[k]? = w.heap[k]? := by
  simp only [putObj]
  rw [Array.getElem?_setIfInBounds_ne (by omega)]
theorem Chg.putObj {S : List Nat} {a w : World} (h : Chg S a w) {g : Nat} (hg : g ∈ S ∨ a.heap.size ≤ g) (o : Obj) : Chg S a (putObj w g o) :=
  ⟨h.os, h.tape, h.output, by rw [putObj_size]; exact h.size, fun k hk hn => (putObj_other w g k o (fun e => by
    subst e
    rcases hg with hb | hb
    · exact hn hb
    · omega)).trans (h.block k hk hn)⟩

/-! A region that draws its order and has a last operation of its own that waits for all others. -/
section
variable {P : Program} {ops : Array Oper} {Q : Exit → Act → World → Prop} {md : Region.Mode}

/-- Whatever order is picked; S holds behind each operation but number x. -/
def wpAnyX (P : Program) (md : Region.Mode) (ops : Array Oper) (Q : Exit → Act → World → Prop) (x : Nat) (S : World → Prop) : Nat → Array Bool → Act → World → Prop
  | 0, l, a, w => Region.ready md ops l = [] ∧ Q .normal a w
  | n + 1, l, a, w => (Region.ready md ops l = [] → Q .normal a w) ∧
      ∀ i, i ∈ Region.ready md ops l → wpOp P ops Q i (fun a' w' => (i ≠ x → S w') ∧ wpAnyX P md ops Q x S n (l.setIfInBounds i true) a' w') a w

theorem wpAny_of_X {x : Nat} {S : World → Prop} : ∀ (n : Nat) (l : Array Bool) (a : Act) (w : World), wpAnyX P md ops Q x S n l a w → wpAny P md ops Q n l a w
  | 0, _, _, _, h => h
  | n + 1, _, _, _, h => ⟨h.1, fun i hi => wpOp_mono (fun a' w' h' => wpAny_of_X n _ a' w' h'.2) (h.2 i hi)⟩

/-- Does operation x wait for operation i, be it through others? -/
def waitsN (md : Region.Mode) (ops : Array Oper) (i : Nat) : Nat → Nat → Bool
  | 0, _ => false
  | n + 1, x => match ops[x]? with
    | some ox => ox.after.any fun e => Region.binds md e && (e.on == i || waitsN md ops i n e.on)
    | none => false

/-- What has come up had all that it waits for come up before it. -/
def Closed (md : Region.Mode) (ops : Array Oper) (l : Array Bool) : Prop :=
  ∀ (k : Nat) (ok : Oper), ops[k]? = some ok → l.getD k false = true → ∀ e, e ∈ ok.after → Region.binds md e = true → l.getD e.on false = true

theorem Closed.waits {l : Array Bool} (hc : Closed md ops l) {i : Nat} : ∀ (n x : Nat) (ox : Oper), ops[x]? = some ox → (∀ e, e ∈ ox.after → Region.binds md e = true → l.getD e.on false = true) → waitsN md ops i n x = true → l.getD i false = true
  | 0, _, _, _, _, h => by simp [waitsN] at h
  | n + 1, x, ox, ho, hd, h => by
    unfold waitsN at h
    rw [ho] at h
    simp only [Array.any_eq_true', Bool.and_eq_true, Bool.or_eq_true, beq_iff_eq] at h
    obtain ⟨e, he, hb, h⟩ := h
    rcases h with h | h
    · rw [← h]; exact hd e he hb
    · have hl := hd e he hb
      cases hy : ops[e.on]? with
      | none =>
        cases n with
        | zero => simp [waitsN] at h
        | succ n => unfold waitsN at h; rw [hy] at h; cases h
      | some oy => exact Closed.waits hc n e.on oy hy (hc e.on oy hy hl) h

theorem Closed.set_ {l : Array Bool} (hc : Closed md ops l) {j : Nat} (hj : j ∈ Region.ready md ops l) : Closed md ops (l.setIfInBounds j true) := by
  intro k ok hk hl e he hb
  obtain ⟨hjun, oj, hoj, hall⟩ := mem_ready.1 hj
  by_cases hkj : j = k
  · subst hkj
    rw [hk] at hoj
    obtain rfl := Option.some.inj hoj
    exact getD_set_true (hall e he hb)
  · rw [getD_set_ne false hkj] at hl
    exact getD_set_true (hc k ok hk hl e he hb)

theorem closed_none (n : Nat) : Closed md ops (Array.replicate n false) := by
  intro k ok _ hl
  exfalso
  rw [Array.getD_eq_getD_getElem?, Array.getElem?_replicate] at hl
  split at hl <;> simp at hl

theorem wpAnyX_first {x i : Nat} {S : World → Prop} {oi : Oper} {v : Value} (hi : ops[i]? = some oi) (hsel : ∀ (j : Nat) (o : Oper) cs b, ops[j]? = some o → o.op ≠ .select cs b)
    (hQ : ∀ c (a : Act) w, Q (.panic c) (a.put oi.dst v) w → Q (.panic c) a w) (hix : i ≠ x) (m : Nat) (hxi : waitsN md ops i m x = true) :
    ∀ (n : Nat) (l : Array Bool) (a : Act) (w : World), Closed md ops l →
      (∀ j oj, ops[j]? = some oj → j ≠ i → l.getD j true = false → (∀ e ∈ oj.after, Region.binds md e = true → e.on ≠ i) → oi.apart ops oj = true) →
      i ∈ Region.ready md ops l → YieldsIf P ops S oi v a → S w →
      wpAnyX P md ops Q x S n (l.setIfInBounds i true) (a.put oi.dst v) w → wpAnyX P md ops Q x S (n + 1) l a w
  | n, l, a, w, hcl, hfree, hr, hy, hS, H => by
    refine ⟨fun h => absurd hr (by rw [h]; simp), fun j hj => ?_⟩
    by_cases hji : j = i
    · subst hji
      exact hy.wpOp hi hS ⟨fun _ => hS, H⟩
    obtain ⟨hjun, oj, hoj, hall⟩ := mem_ready.1 hj
    have hnot : ∀ e ∈ oj.after, Region.binds md e = true → e.on ≠ i := by
      intro e he hb heq
      have h1 := hall e he hb
      have h0 := (mem_ready.1 hr).1
      rw [heq] at h1
      by_cases hlt : i < l.size
      · simp [hlt] at h0 h1
        rw [h0] at h1
        cases h1
      · simp [Array.getElem?_eq_none (Nat.le_of_not_lt hlt)] at h1
    have hjx : j ≠ x := by
      rintro rfl
      have h1 := hcl.waits m j oj hoj hall hxi
      have h0 := (mem_ready.1 hr).1
      by_cases hlt : i < l.size
      · simp [hlt] at h0 h1
        rw [h0] at h1
        cases h1
      · simp [Array.getElem?_eq_none (Nat.le_of_not_lt hlt)] at h1
    match n, H with
    | 0, H =>
      have := ready_mono hj hji
      rw [H.1] at this
      cases this
    | n + 1, H =>
      have h1 := H.2 j (ready_mono hj hji)
      have h2 := wpOp_putIf hoj (hfree j oj hoj hji hjun hnot) (fun cs b => hsel i oi cs b hi) (fun cs b => hsel j oj cs b hoj) hQ hy h1
      refine wpOp_mono (fun a' w' h3 => ⟨fun _ => h3.2.1 hjx, ?_⟩) h2
      refine wpAnyX_first hi hsel hQ hix m hxi n _ a' w' (hcl.set_ hj) ?_ (ready_mono hr (Ne.symm hji)) h3.1 (h3.2.1 hjx) ?_
      · intro k ok hk hki hun hno
        refine hfree k ok hk hki ?_ hno
        by_cases hjk : j = k
        · subst hjk; exact hjun
        · rw [getD_set_ne true hjk] at hun; exact hun
      · rw [Array.setIfInBounds_comm _ _ hji]
        exact h3.2.2

theorem wpAnyX_stronger {x : Nat} {S S' : World → Prop} (hS : ∀ w, S' w → S w) : ∀ (n : Nat) (l : Array Bool) (a : Act) (w : World), wpAnyX P md ops Q x S' n l a w → wpAnyX P md ops Q x S n l a w
  | 0, _, _, _, h => h
  | n + 1, _, _, _, h => ⟨h.1, fun i hi => wpOp_mono (fun _ _ h' => ⟨fun hx => hS _ (h'.1 hx), wpAnyX_stronger hS n _ _ _ h'.2⟩) (h.2 i hi)⟩

/-- An order for such a region: at its end comes operation x. -/
def wpOX (P : Program) (ops : Array Oper) (Q : Exit → Act → World → Prop) (L : World → World → Prop) (x : Nat) : List (Nat × Bool) → Act → World → Prop
  | [], a, w => wpOp P ops Q x (fun a' w' => Q .normal a' w') a w
  | (i, true) :: r, a, w => ∃ o v, ops[i]? = some o ∧ YieldsIf P ops (L w) o v a ∧ wpOX P ops Q L x r (a.put o.dst v) w
  | (i, false) :: r, a, w => wpOp P ops Q i (fun a' w' => L w w' ∧ wpOX P ops Q L x r a' w') a w

def waitsB (md : Region.Mode) (ops : Array Oper) (x i : Nat) : Bool := i != x && waitsN md ops i ops.size x

def checkX (md : Region.Mode) (ops : Array Oper) (x : Nat) : List (Nat × Bool) → Array Bool → Bool
  | [], l => Region.ready md ops l == [x] && Region.ready md ops (l.setIfInBounds x true) == []
  | (i, true) :: r, l => waitsB md ops x i && (Region.free md ops l i && (Region.ready md ops l).contains i && checkX md ops x r (l.setIfInBounds i true))
  | (i, false) :: r, l => i != x && Region.ready md ops l == [i] && checkX md ops x r (l.setIfInBounds i true)

theorem wpOX_sound {L : World → World → Prop} {x : Nat} (Lr : ∀ w, L w w) (Lt : ∀ {a b c}, L a b → L b c → L a c) (hs : Region.noSelect ops = true) (hQ : ∀ c (a : Act) d v w, Q (.panic c) (a.put d v) w → Q (.panic c) a w) :
    ∀ (ord : List (Nat × Bool)) (n : Nat) (l : Array Bool) (a : Act) (w : World), ord.length + 1 ≤ n → Closed md ops l → checkX md ops x ord l = true → wpOX P ops Q L x ord a w → wpAnyX P md ops Q x (L w) n l a w
  | [], n, l, a, w, hn, hcl, hc, h => by
    simp only [checkX, Bool.and_eq_true, beq_iff_eq] at hc
    match n, hn with
    | n + 1, _ =>
      refine ⟨fun h0 => absurd hc.1 (by rw [h0]; simp), fun j hj => ?_⟩
      rw [hc.1] at hj
      obtain rfl := List.mem_singleton.1 hj
      refine wpOp_mono (fun a' w' h' => ⟨fun hx => absurd rfl hx, ?_⟩) h
      cases n with
      | zero => exact ⟨hc.2, h'⟩
      | succ n => exact ⟨fun _ => h', fun k hk => absurd hk (by rw [hc.2]; simp)⟩
  | (i, true) :: r, n, l, a, w, hn, hcl, hc, h => by
    obtain ⟨o, v, ho, hy, h⟩ := h
    simp only [checkX, Bool.and_eq_true] at hc
    have hri : i ∈ Region.ready md ops l := by simpa using hc.2.1.2
    match n, hn with
    | n + 1, hn =>
      have hw := hc.1
      unfold waitsB at hw
      simp only [Bool.and_eq_true, bne_iff_ne, ne_eq] at hw
      exact wpAnyX_first ho (Region.noSelect_spec hs) (fun c a w => hQ c a o.dst v w) hw.1 ops.size hw.2 n l a w hcl (Region.free_spec ho hc.2.1.1) hri hy (Lr w) (wpOX_sound Lr Lt hs hQ r n _ _ w (by simpa using hn) (hcl.set_ hri) hc.2.2 h)
  | (i, false) :: r, n, l, a, w, hn, hcl, hc, h => by
    simp only [checkX, Bool.and_eq_true, beq_iff_eq, bne_iff_ne, ne_eq] at hc
    match n, hn with
    | n + 1, hn =>
      refine ⟨fun h0 => absurd hc.1.2 (by rw [h0]; simp), fun j hj => ?_⟩
      rw [hc.1.2] at hj
      obtain rfl := List.mem_singleton.1 hj
      exact wpOp_mono (fun a' w' h' => ⟨fun _ => h'.1, wpAnyX_stronger (fun y hy => Lt h'.1 hy) n _ _ _ (wpOX_sound Lr Lt hs hQ r n _ a' w' (by simpa using hn) (hcl.set_ (by rw [hc.1.2]; simp)) hc.2 h'.2)⟩) h

/-- The beginning, where blocks S may be written, the last operation apart. -/
theorem wp_region_ordX {id : Nat} {a : Act} {w : World} (S : List Nat) (x : Nat) (ord : List (Nat × Bool)) (hm : P.follows .mixedOrders = true) (hs : Region.noSelect ops = true)
    (hl : decide (ord.length + 1 ≤ ops.size) = true) (hc : checkX .any ops x ord (Array.replicate ops.size false) = true) (h : wpOX P ops (NoPanic Q) (Chg S) x ord a w.drew) : (Code.region id ops true).wp P Q a w :=
  wp_region_noPanic (wp_region_any hm (wpAny_of_X _ _ _ _ (wpOX_sound (Chg.refl S) Chg.trans hs (NoPanic.put Q) ord ops.size _ a w.drew (of_decide_eq_true hl) (closed_none _) hc h)))

/-- The beginning, where blocks S may be written. -/
theorem wp_region_ordS {id : Nat} {a : Act} {w : World} (S : List Nat) (ord : List (Nat × Bool)) (hm : P.follows .mixedOrders = true) (hs : Region.noSelect ops = true)
    (hl : decide (ord.length ≤ ops.size) = true) (hc : checkO .any ops ord (Array.replicate ops.size false) = true) (h : wpO P ops (NoPanic Q) (Chg S) ord a w.drew) : (Code.region id ops true).wp P Q a w :=
  wp_region_noPanic (wp_region_held hm (wpO_sound (Chg.refl S) Chg.trans hs (NoPanic.put Q) ord ops.size _ a w.drew (of_decide_eq_true hl) hc h))

variable {L : World → World → Prop}
theorem wpOX_F {x i : Nat} {r : List (Nat × Bool)} {a : Act} {w : World} {o : Oper} {v : Value} (ho : nth ops.toList i = some o) (hw : Region.wanted o (yielded ops a.tmps) = true)
    (hv : ∀ w', L w w' → (execOp a.eval o).run P w' = .ok (.value v) w') (h : wpOX P ops Q L x r (a.put o.dst v) w) : wpOX P ops Q L x ((i, true) :: r) a w :=
  ⟨o, v, nth_ops ho, .inl ⟨hw, hv⟩, h⟩
theorem wpOX_G (Lr : ∀ w, L w w) {x i : Nat} {b : Bool} {r : List (Nat × Bool)} {a : Act} {w : World} {o : Oper} (ho : nth ops.toList i = some o) (hw : Region.wanted o (yielded ops a.tmps) = false)
    (h : wpOX P ops Q L x r (a.put o.dst undef) w) : wpOX P ops Q L x ((i, b) :: r) a w := by
  cases b with
  | true => exact ⟨o, undef, nth_ops ho, .inr ⟨hw, rfl⟩, h⟩
  | false =>
    show wpOp P ops Q i _ a w
    unfold wpOp
    simp only [nth_ops ho, hw]
    exact ⟨Lr w, h⟩
theorem wpOX_C {x i : Nat} {r : List (Nat × Bool)} {a : Act} {w : World} {o : Oper} (ho : nth ops.toList i = some o) (hw : Region.wanted o (yielded ops a.tmps) = true)
    (h : o.wp P a w (fun a' w' => L w w' ∧ wpOX P ops Q L x r a' w') Q) : wpOX P ops Q L x ((i, false) :: r) a w := by
  show wpOp P ops Q i _ a w
  unfold wpOp
  simp only [nth_ops ho, hw]
  exact .inl h
theorem wpOX_end {x : Nat} {a : Act} {w : World} {o : Oper} (ho : nth ops.toList x = some o) (hw : Region.wanted o (yielded ops a.tmps) = true)
    (h : o.wp P a w (fun a' w' => Q .normal a' w') Q) : wpOX P ops Q L x [] a w := by
  show wpOp P ops Q x _ a w
  unfold wpOp
  simp only [nth_ops ho, hw]
  exact .inl h
end
attribute [irreducible] wpOX
end Go.Proofs.Ytmfdnphjhbbkiaa

/- The walks of slices.Contains over integers, of isKey, isEdge, Find and what these call. -/
set_option linter.unusedSimpArgs false
set_option linter.unusedVariables false
set_option maxRecDepth 100000
namespace Go.Proofs.Ytmfdnphjhbbkiaa
open Go.RowKit

/-- 's[:m]'. -/
theorem Arr.frontS {P : Program} {N : Nat} {w : World} {a : Option Addr} {l : List Value} (h : Arr N w a l) (t e : TypeId) (z : Nat) (ht : P.underlying t = some (.slice e)) (hz : ∀ w, (Go.sizeOf e).run P w = .ok z w)
    (len cap m : Nat) (hlen : l.length = len * z) (hm : m ≤ len) (hcap : len ≤ cap) :
    Arr N w a (l.take (m * z)) ∧ ∀ W, (Instr.slice t (.slice a len cap) none (some (.int .i64 (m : Int))) none).run P W = .ok (.slice a m cap) W := by
  have ht' : P.underlying t = some (.slice (P.elem t)) := by simp [Program.elem, ht]
  have hee : P.elem t = e := by simp [Program.elem, ht]
  refine ⟨?_, fun W => ?_⟩
  · rcases h with h2 | ⟨b, o, ha, hN, hc⟩
    · exact .inl (by simp [h2])
    · refine .inr ⟨b, o, ha, hN, fun i c hi => hc i c ?_⟩
      rw [List.getElem?_take] at hi
      split at hi
      · exact hi
      · simp at hi
  · have hu := run_underlying (P := P) (w := W) ht
    have hz' := hz W
    cases a <;> simp [Instr.slice, hu, hz', asIntOf, go_sem] <;> try omega
theorem info_intS : (Try.prog.info? 3).map (fun i => (i.zero, i.size, i.bytes)) = some (some (.int .i64 0), 1, 8) := by kernel_rfl
theorem sizeOf_intS : ∀ w, (Go.sizeOf 3).run Try.prog w = .ok 1 w := by
  obtain ⟨i0, hi, hz0, hz1, hz2⟩ := info_parts info_intS
  intro w
  have h := run_sizeOf (P := Try.prog) w hi
  have e : Try.prog.cellsOf 3 = 1 := by kernel_rfl
  rw [e] at h; exact h

/-- A table in a block of the call's own. -/
structure TBox (W : World) (B : Nat) (m : TM) (t : Tb) : Prop where
  c0 : W.cell? ⟨B, 0, none⟩ = some (.string t.name)
  c1 : W.cell? ⟨B, 1, none⟩ = some (.slice m.ca m.cl m.cc)
  c2 : W.cell? ⟨B, 2, none⟩ = some (.slice m.ka m.kl m.kc)
  c3 : W.cell? ⟨B, 3, none⟩ = some (.string t.per)
  c4 : W.cell? ⟨B, 4, none⟩ = some (.int .i64 t.fr)
  c5 : W.cell? ⟨B, 5, none⟩ = some (.int .i64 t.tt)
  c6 : W.cell? ⟨B, 6, none⟩ = some (.bool t.apart)
  c7 : W.cell? ⟨B, 7, none⟩ = some (.bool t.vers)
theorem TBox.new (w : World) (m : TM) (t : Tb) (T : TypeId) : TBox (w.alloc (.cells (m.cs t) T)) w.heap.size m t :=
  ⟨by simp, by simp, by simp, by simp, by simp, by simp, by simp, by simp⟩
theorem TBox.later {W W' : World} {B N : Nat} {m : TM} {t : Tb} (h : TBox W B m t) (hB : B < N) (hb : Below N W W') : TBox W' B m t :=
  ⟨(hb.cell (p := ⟨B, 0, none⟩) hB).trans h.c0, (hb.cell (p := ⟨B, 1, none⟩) hB).trans h.c1, (hb.cell (p := ⟨B, 2, none⟩) hB).trans h.c2, (hb.cell (p := ⟨B, 3, none⟩) hB).trans h.c3, (hb.cell (p := ⟨B, 4, none⟩) hB).trans h.c4, (hb.cell (p := ⟨B, 5, none⟩) hB).trans h.c5, (hb.cell (p := ⟨B, 6, none⟩) hB).trans h.c6, (hb.cell (p := ⟨B, 7, none⟩) hB).trans h.c7⟩

open Classical in
noncomputable def keyOkB (l : List Col) (ks : List Int) : Bool := decide (KeyOk l ks)
theorem keyOk_iff {l : List Col} {ks : List Int} : keyOkB l ks = true ↔ KeyOk l ks := by unfold keyOkB; simp
theorem keyOk_false {l : List Col} {ks : List Int} (h : ¬ KeyOk l ks) : keyOkB l ks = false := by unfold keyOkB; simpa using h

end Go.Proofs.Ytmfdnphjhbbkiaa

/- The walk of areColumns: names in a map. -/
set_option linter.unusedSimpArgs false
set_option linter.unusedVariables false
set_option maxRecDepth 100000
namespace Go.Proofs.Ytmfdnphjhbbkiaa
open Go.RowKit

/-- The map's keys are these columns' names. -/
structure NameSet (l : List Col) (D : DataW Unit) : Prop where
  tidy : Maps.Tidy D
  le : Maps.size D ≤ l.length
  nd : Maps.size D = l.length ↔ (l.map Col.nm).Nodup
  has : ∀ s : ByteArray, Maps.has D (.string s.data.toList) = true ↔ s ∈ l.map Col.nm

theorem NameSet.nil : NameSet [] (.map []) := ⟨Maps.tidy_empty, by simp [Maps.size_eq], by simp [Maps.size_eq], fun s => by simp [Maps.has_eq]⟩
theorem data_inj {s t : ByteArray} (h : s.data.toList = t.data.toList) : s = t := ByteArray.ext (Array.toList_inj.1 h)
theorem NameSet.snoc {l : List Col} {D : DataW Unit} (h : NameSet l D) (c : Col) (d : DataW Unit) : NameSet (l ++ [c]) (D.put (.string c.nm.data.toList) d) := by
  have hk : WideAt.IsKeyLit (.string c.nm.data.toList) := trivial
  have hsz := Maps.size_put (k := .string c.nm.data.toList) h.tidy d
  have hh := h.has c.nm
  refine ⟨h.tidy.put hk d, ?_, ?_, fun s => ?_⟩
  · rw [hsz, List.length_append, List.length_singleton]
    have := h.le
    split <;> omega
  · rw [hsz, List.length_append, List.length_singleton, List.map_append, List.nodup_append]
    have h1 := h.le
    have h2 := h.nd
    by_cases hm : c.nm ∈ l.map Col.nm
    · rw [if_pos (hh.2 hm)]
      constructor
      · intro h0; omega
      · rintro ⟨-, -, h3⟩
        exact absurd rfl (h3 _ hm c.nm (by simp))
    · rw [if_neg (fun h0 => hm (hh.1 h0))]
      constructor
      · intro h0
        refine ⟨h2.1 (by omega), by simp, ?_⟩
        intro a ha b hb
        simp at hb
        subst hb
        rintro rfl
        exact hm ha
      · rintro ⟨h3, -, -⟩
        have := h2.2 h3
        omega
  · by_cases hs : s = c.nm
    · subst hs
      rw [Maps.has_put_same h.tidy.isMap hk d]
      simp
    · rw [Maps.has_put_other (by intro h0; injection h0 with h0; exact hs (data_inj h0)) d, h.has s]
      simp [hs]

open Classical in
noncomputable def colsOk (l : List Col) : Bool := decide (ColsOk l)
theorem colsOk_iff {l : List Col} : colsOk l = true ↔ ColsOk l := by unfold colsOk; simp
theorem colsOk_false {l : List Col} (h : ¬ ColsOk l) : colsOk l = false := by unfold colsOk; simpa using h
theorem colsOk_bad {l : List Col} {k : Nat} (hk : k < l.length) (h : l[k].ok = false) : colsOk l = false := colsOk_false (fun H => by have := H.2.2.1 _ (List.getElem_mem hk); rw [h] at this; cases this)

theorem stringKeyed : Maps.Keyed Try.prog 9 := Maps.string_keyed Try.underlying9

end Go.Proofs.Ytmfdnphjhbbkiaa

/- The walks of isEdge and Find. -/
set_option linter.unusedSimpArgs false
set_option linter.unusedVariables false
set_option maxRecDepth 100000
namespace Go.Proofs.Ytmfdnphjhbbkiaa
open Go.RowKit

@[go_sem high] theorem eqCol (n n' : Int) (s s' : ByteArray) (p p' : Bool) (w : World) : (Op.equalIn 10000 69 (.agg #[.string s, .int .u8 n, .bool p]) (.agg #[.string s', .int .u8 n', .bool p'])).run Try.prog w = .ok (s.toList == s'.toList && (n == n' && p == p')) w := by
  have hS : Try.prog.underlying 69 = some (.struct (Try.prog.fieldsOf 69)) := by kernel_rfl
  have hp : Try.prog.stoodInHeld 69 = false := by kernel_rfl
  rw [show (10000 : Nat) = 9999 + 1 from rfl, run_equalIn_agg w 9999 69 _ _ hS hp]
  simp only [Program.fieldsOf, Try.underlying69]
  go_simp
  by_cases h1 : n = n' <;> by_cases h2 : s.toList = s'.toList <;> by_cases h3 : p = p' <;> simp [h1, h2, h3]
@[go_sem] theorem eqGuardCol : Try.prog.eqGuardType Try.prog.depth 69 = false := by kernel_rfl

open Classical in
noncomputable def edgeB (l : List Col) (i : Int) : Bool := decide (EdgeAt l i)
theorem edgeB_false {l : List Col} {i : Int} (h : ¬ EdgeAt l i) : edgeB l i = false := by unfold edgeB; simpa using h
theorem edgeB_eq {l : List Col} {j : Nat} (h : j < l.length) : edgeB l j = (decide (l[j].kd = 1) && l[j].nn) := by
  unfold edgeB EdgeAt
  rw [Int.toNat_natCast, List.getElem?_eq_getElem h, Bool.eq_iff_iff]
  simp
  exact and_comm

end Go.Proofs.Ytmfdnphjhbbkiaa

/- The walks of slices.IndexFunc over columns, of Find, isPeriod, canBeApart and Right. -/
set_option linter.unusedSimpArgs false
set_option linter.unusedVariables false
set_option maxRecDepth 100000
namespace Go.Proofs.Ytmfdnphjhbbkiaa
open Go.RowKit

open Classical in
noncomputable def perOk (t : Tb) : Bool := decide (PerOk t)
open Classical in
noncomputable def apOk (t : Tb) : Bool := decide (t.per.size ≠ 0 ∧ t.fr ∉ t.key ∧ t.tt ∉ t.key)
theorem perOk_eq (t : Tb) : perOk t = if t.per.size = 0 then (decide (t.fr = -1) && decide (t.tt = -1)) else (isNm t.per && (decide (findC t.cols t.per = -1) && (decide (t.fr ≠ t.tt) && (edgeB t.cols t.fr && edgeB t.cols t.tt)))) := by
  unfold perOk PerOk edgeB
  rw [Bool.eq_iff_iff]
  by_cases h0 : t.per.size = 0
  · rw [if_pos h0, if_pos h0]; simp
  · rw [if_neg h0, if_neg h0]; simp
theorem apOk_eq (t : Tb) : apOk t = (decide (t.per.size ≠ 0) && (!decide (t.fr ∈ t.key) && !decide (t.tt ∈ t.key))) := by
  unfold apOk
  rw [Bool.eq_iff_iff]
  simp
theorem Tb.ok_eq (t : Tb) : t.ok = (isNm t.name && (colsOk t.cols && (keyOkB t.cols t.key && (perOk t && (!t.apart || apOk t))))) := by
  unfold Tb.ok Tb.Ok colsOk keyOkB perOk ApOk apOk
  rw [Bool.eq_iff_iff]
  cases t.apart <;> simp
end Go.Proofs.Ytmfdnphjhbbkiaa

/- The walk of isPeriod. -/
set_option linter.unusedSimpArgs false
set_option linter.unusedVariables false
set_option maxRecDepth 100000
namespace Go.Proofs.Ytmfdnphjhbbkiaa
open Go.RowKit

end Go.Proofs.Ytmfdnphjhbbkiaa
