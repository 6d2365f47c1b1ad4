/- Several texts of one proof, one behind the other. -/
import Derived.Test.YtbnddpicpomakaaGreatDoorHPk12
import Derived.Test.YtbnddpicpomakaaGreatDoorRows
import Derived.Lib.LaidU8
import Derived.PinnedBridge
import Derived.Stop.LaidErr
import Derived.RowKitTokens
import Derived.Stop.ErrReads
import Derived.Handed
set_option linter.unusedSimpArgs false
set_option linter.unusedVariables false

/- What chains that run side by side keep of each other: all but, of what was made since, rows of one type of element. -/
set_option linter.unusedSimpArgs false
set_option linter.unusedVariables false
set_option maxRecDepth 100000
namespace Go.Proofs.YtbnddpicpomakaaGreatDoor
open Go.RowKit

/-- Nothing is changed but, of the blocks from N on, those of which p holds. -/
structure Kp (N : Nat) (p : Option Obj → Prop) (w w' : World) : Prop where
  os : w'.os = w.os
  tape : w'.tape = w.tape
  output : w'.output = w.output
  size : w.heap.size ≤ w'.heap.size
  block : ∀ k, k < w.heap.size → w'.heap[k]? = w.heap[k]? ∨ (N ≤ k ∧ p w.heap[k]?)
theorem Kp.refl (N : Nat) (p : Option Obj → Prop) (w : World) : Kp N p w w := ⟨rfl, rfl, rfl, Nat.le_refl _, fun _ _ => .inl rfl⟩
theorem Kp.trans {N : Nat} {p : Option Obj → Prop} {a b c : World} (h : Kp N p a b) (k : Kp N p b c) : Kp N p a c := by
  refine ⟨k.os.trans h.os, k.tape.trans h.tape, k.output.trans h.output, Nat.le_trans h.size k.size, fun i hi => ?_⟩
  rcases h.block i hi with h1 | h1
  · rcases k.block i (Nat.lt_of_lt_of_le hi h.size) with h2 | h2
    · exact .inl (h2.trans h1)
    · exact .inr (by rw [← h1]; exact h2)
  · exact .inr h1
theorem Kp.mono {N : Nat} {p q : Option Obj → Prop} {a b : World} (h : Kp N p a b) (hpq : ∀ o, p o → q o) : Kp N q a b :=
  ⟨h.os, h.tape, h.output, h.size, fun i hi => (h.block i hi).imp id fun h => ⟨h.1, hpq _ h.2⟩⟩
theorem Kp.of_chg {N : Nat} {p : Option Obj → Prop} {S : List Nat} {w w' : World} (h : Chg S w w') (hS : ∀ k ∈ S, N ≤ k ∧ p w.heap[k]?) : Kp N p w w' :=
  ⟨h.os, h.tape, h.output, h.size, fun k hk => by
    by_cases hm : k ∈ S
    · exact .inr (hS k hm)
    · exact .inl (h.block k hk hm)⟩
theorem Kp.of_below {N : Nat} {p : Option Obj → Prop} {w w' : World} (h : Below w.heap.size w w') : Kp N p w w' :=
  ⟨h.os, h.tape, h.output, h.size, fun k hk => .inl (h.block k hk)⟩
theorem Kp.below {N : Nat} {p : Option Obj → Prop} {w w' : World} (h : Kp N p w w') (hN : N ≤ w.heap.size) : Below N w w' :=
  ⟨h.os, h.tape, h.output, h.size, fun k hk => by
    rcases h.block k (by omega) with h1 | h1
    · exact h1
    · omega⟩
theorem Kp.undrew {N : Nat} {p : Option Obj → Prop} {w w' : World} (h : Kp N p w.drew w') : Kp N p w w' := ⟨h.os, h.tape, h.output, h.size, h.block⟩
def isT (t : TypeId) (o : Option Obj) : Prop := ∃ cs, o = some (.cells cs t)
theorem own_isT {w : World} {base : Nat} {T : TypeId} {z n : Nat} {v : Value} {xs : List Value} (h : w.ownsRow base T z v n xs) {g : Nat} (hg : g ∈ v.ownBlock.toList) : base ≤ g ∧ isT T w.heap[g]? := by
  rw [Option.mem_toList] at hg
  rcases h.2 with ⟨rfl, _⟩ | ⟨g', cap, cur, rfl, hb, hh, _⟩
  · cases hg
  · simp only [Value.ownBlock, Option.some.injEq] at hg
    subst hg
    exact ⟨hb, cur, hh⟩
theorem own_kp {w w' : World} {base N : Nat} {T t : TypeId} {z n : Nat} {v : Value} {xs : List Value} (h : w.ownsRow base T z v n xs) (hk : Kp N (isT t) w w') (hne : T ≠ t) : w'.ownsRow base T z v n xs := by
  refine own_keep h fun g hg => ?_
  rcases hk.block g (own_lt h hg) with h1 | ⟨_, cs, h1⟩
  · exact h1
  · obtain ⟨_, cs', h2⟩ := own_isT h (Option.mem_toList.2 hg)
    rw [h1] at h2
    injection h2 with h3
    injection h3 with _ h4
    exact absurd h4.symm hne
theorem own_kp0 {w w' : World} {base N : Nat} {T : TypeId} {z n : Nat} {v : Value} {xs : List Value} (h : w.ownsRow base T z v n xs) (hk : Kp N (fun _ => False) w w') : w'.ownsRow base T z v n xs := by
  refine own_keep h fun g hg => ?_
  rcases hk.block g (own_lt h hg) with h1 | ⟨_, h1⟩
  · exact h1
  · exact h1.elim
theorem Blk.kp {w w' : World} {g N : Nat} {T t : TypeId} {cs : Array Value} (h : Blk w g T cs) (hk : Kp N (isT t) w w') (hne : T ≠ t) : Blk w' g T cs := by
  rcases hk.block g h.lt with h1 | ⟨_, cs', h1⟩
  · exact h1.trans h
  · have h2 : w.heap[g]? = some (.cells cs T) := h
    rw [h1] at h2
    injection h2 with h3
    injection h3 with _ h4
    exact absurd h4.symm hne
/-- An empty row that has just been made. -/
theorem own_new0 (w : World) (base : Nat) (T : TypeId) (z : Nat) (hb : base ≤ w.heap.size) : (w.alloc (.cells #[] T)).ownsRow base T z (.slice (some ⟨w.heap.size, 0, none⟩) 0 0) 0 [] :=
  ⟨by simp, .inr ⟨w.heap.size, 0, #[], rfl, hb, heap_alloc_new w _, Nat.le_refl _, by unfold maxLen; omega, by simp, by simp⟩⟩

def kpA (N : Nat) (t : TypeId) : RG := ⟨Kp N (fun _ => False), Kp N (isT t)⟩
def kpB (N : Nat) (t : TypeId) : RG := ⟨Kp N (isT t), Kp N (fun _ => False)⟩
theorem kpA_ok (N : Nat) (t : TypeId) : (kpA N t).Ok (Kp N (fun _ => True)) := ⟨Kp.refl _ _, fun _ _ _ => Kp.trans, fun _ _ h => h.mono fun _ _ => trivial⟩
theorem kpB_ok (N : Nat) (t : TypeId) : (kpB N t).Ok (Kp N (fun _ => True)) := ⟨Kp.refl _ _, fun _ _ _ => Kp.trans, fun _ _ h => h.mono fun _ h => h.elim⟩
theorem kpAB (N : Nat) (t : TypeId) : (kpA N t).With (kpB N t) := ⟨fun _ _ h => h, fun _ _ h => h⟩
theorem kpBB (N : Nat) (t : TypeId) : (kpB N t).With (kpB N t) := ⟨fun _ _ h => h.mono fun _ h => h.elim, fun _ _ h => h.mono fun _ h => h.elim⟩

section
variable {P : Program} {ops : Array Oper} {Q : Exit → Act → World → Prop}
/-- The beginning of a region that draws, where all that was made since may be written. -/
theorem wp_region_parK {id : Nat} {a : Act} {w : World} (N : Nat) (ord : List It) (hm : P.follows .mixedOrders = true) (hs : Region.noSelect ops = true)
    (hl : decide (lenI ord ≤ ops.size) = true) (hc : checkI .any ops ord (Array.replicate ops.size false) = true) (h : wpP P ops (NoPanic Q) (Kp N (fun _ => True)) ord a w.drew) : (Code.region id ops true).wp P Q a w :=
  wp_region_noPanic (wp_region_held hm (wpP_sound (Kp.refl N _) Kp.trans hs ord ops.size _ a w.drew (of_decide_eq_true hl) hc h))
end

/-- 's[:m]'. -/
theorem Arr.front {P : Program} {N : Nat} {w : World} {a : Option Addr} {l : List Value} (h : Arr N w a l) (t e : TypeId) (z : Nat) (ht : P.underlying t = some (.slice e)) (hz : ∀ w, (Go.sizeOf e).run P w = .ok z w)
    (len cap m : Nat) (hlen : l.length = len * z) (hm : m ≤ len) (hcap : len ≤ cap) :
    ∃ a', Arr N w a' (l.take (m * z)) ∧ ∀ W, (Instr.slice t (.slice a len cap) none (some (.int .i64 (m : Int))) none).run P W = .ok (.slice a' m cap) W := by
  have ht' : P.underlying t = some (.slice (P.elem t)) := by simp [Program.elem, ht]
  have hee : P.elem t = e := by simp [Program.elem, ht]
  refine ⟨a, ?_, fun W => ?_⟩
  · rcases h with h2 | ⟨b, o, ha, hN, hc⟩
    · exact .inl (by simp [h2])
    · refine .inr ⟨b, o, ha, hN, fun i c hi => hc i c ?_⟩
      rw [List.getElem?_take] at hi
      split at hi
      · exact hi
      · simp at hi
  · have hu := run_underlying (P := P) (w := W) ht
    have hz' := hz W
    cases a <;> simp [Instr.slice, hu, hz', asIntOf, go_sem] <;> try omega
end Go.Proofs.YtbnddpicpomakaaGreatDoor

/- A region walked along a tree of orders, where all that was made since its beginning may be written; the rest behind it is walked once, from what R tells. -/
set_option linter.unusedSimpArgs false
set_option linter.unusedVariables false
set_option maxRecDepth 100000
namespace Go.Proofs.YtbnddpicpomakaaGreatDoor
open Go.RowKit

/-- What the region's end must tell. -/
def cutQ (R : Act → World → Prop) (Q : Exit → Act → World → Prop) : Exit → Act → World → Prop
  | .normal, a, w => R a w
  | e, a, w => Q e a w
theorem wp_region_treeK {P : Program} {ops : Array Oper} {Q : Exit → Act → World → Prop} {id : Nat} {a : Act} {w : World} (N : Nat) (t : OT) (R : Act → Act → World → Prop) (hm : P.follows .mixedOrders = true) (hs : Region.noSelect ops = true)
    (hl : decide (t.high ≤ ops.size) = true) (hc : checkT .any ops t (Array.replicate ops.size false) = true) (h : wpT P ops (NoPanic (cutQ (R a) Q)) (Kp N (fun _ => True)) t a w.drew) (hq : ∀ a' w', R a a' w' → Q .normal a' w') : (Code.region id ops true).wp P Q a w :=
  Code.wp_mono (Q := cutQ (R a) Q) (fun e a' w' h => by cases e <;> first | exact hq _ _ h | exact h)
    (wp_region_noPanic (wp_region_held hm (wpT_sound (Kp.refl N _) Kp.trans hs (NoPanic.put _) t ops.size _ a w.drew (of_decide_eq_true hl) hc h)))
end Go.Proofs.YtbnddpicpomakaaGreatDoor

/- The law SyntaxTexts: what its walk keeps. -/
set_option linter.unusedSimpArgs false
set_option linter.unusedVariables false
set_option maxRecDepth 100000
namespace Go.Proofs.YtbnddpicpomakaaGreatDoor
open Go.RowKit

theorem allB_mono20 {p q : Lb → Nat → Bool} (h : ∀ l k, p l k = true → q l k = true) (e : Ex) : e.allB p = true → e.allB q = true := by
  induction e using Rose.ind with
  | h l args ih =>
    rw [Rose.allB_eq, Rose.allB_eq, Bool.and_eq_true, Bool.and_eq_true, List.all_eq_true, List.all_eq_true]
    exact fun h2 => ⟨h _ _ h2.1, fun x hx => ih x hx (h2.2 x hx)⟩
theorem small_all20 {e : Ex} (h : e.allB (fun l k => !l.big k) = true) : e.allB (fun _ k => decide (k ≤ 1000000)) = true :=
  allB_mono20 (fun l k hb => by have := (Lb.small (by simpa using hb : l.big k = false)).n; simp; omega) e h
theorem good20 {e : Ex} (hr : rightX 20 e = true) (hs : e.allB (fun l k => !l.big k) = true) : GoodX e := good_of hr hs

/-- The cells of an expression as an array. -/
abbrev XM.cs (q : XM) : Array Value := q.t.lab.csX (.slice q.a q.t.args.length q.cap)
/-- How far the region that draws has come: the two variables, what As gave. -/
structure XS (w2 W : World) (n : Nat) (x y : XM) (o7 o8 : Option Nat) (c1 c2 : Option XM) : Prop where
  bel : Below w2.heap.size w2 W
  b7 : ∀ g, o7 = some g → Blk W g 50 zeroXc ∧ w2.heap.size ≤ g
  b8 : ∀ g, o8 = some g → Blk W g 50 zeroXc ∧ w2.heap.size ≤ g
  ne : ∀ g h, o7 = some g → o8 = some h → g ≠ h
  r1 : ∀ q, c1 = some q → q.t = x.t ∧ XIn (fun b => o7 ≠ some b ∧ o8 ≠ some b ∧ b < W.heap.size) W n q
  r2 : ∀ q, c2 = some q → q.t = y.t ∧ XIn (fun b => o7 ≠ some b ∧ o8 ≠ some b ∧ b < W.heap.size) W n q
theorem XS.later {w2 W W' : World} {n : Nat} {x y : XM} {o7 o8 : Option Nat} {c1 c2 : Option XM} (h : XS w2 W n x y o7 o8 c1 c2) (hb : Below W.heap.size W W') : XS w2 W' n x y o7 o8 c1 c2 :=
  ⟨h.bel.trans (hb.mono h.bel.size), fun g e => ⟨(hb.block g (h.b7 g e).1.lt).trans (h.b7 g e).1, (h.b7 g e).2⟩, fun g e => ⟨(hb.block g (h.b8 g e).1.lt).trans (h.b8 g e).1, (h.b8 g e).2⟩, h.ne,
    fun q e => ⟨(h.r1 q e).1, (XIn.keep (fun b hq => hb.block b hq.2.2) (h.r1 q e).2).imp fun b hq => ⟨hq.1, hq.2.1, Nat.lt_of_lt_of_le hq.2.2 hb.size⟩⟩,
    fun q e => ⟨(h.r2 q e).1, (XIn.keep (fun b hq => hb.block b hq.2.2) (h.r2 q e).2).imp fun b hq => ⟨hq.1, hq.2.1, Nat.lt_of_lt_of_le hq.2.2 hb.size⟩⟩⟩
theorem XS.new {w2 : World} {n : Nat} {x y : XM} : XS w2 w2.drew n x y none none none none :=
  ⟨(Below.refl _ _).drew, fun _ h => (by cases h), fun _ h => (by cases h), fun _ _ h => (by cases h), fun _ h => (by cases h), fun _ h => (by cases h)⟩
theorem XS.alloc7 {w2 W : World} {n : Nat} {x y : XM} {o8 : Option Nat} {c1 c2 : Option XM} (h : XS w2 W n x y none o8 c1 c2) : XS w2 (W.alloc (.cells zeroXc 50)) n x y (some W.heap.size) o8 c1 c2 := by
  have k := h.later ((Below.refl _ W).alloc (Nat.le_refl _) (.cells zeroXc 50))
  have hi : ∀ b, (none ≠ some b ∧ o8 ≠ some b ∧ b < W.heap.size) → (some W.heap.size ≠ some b ∧ o8 ≠ some b ∧ b < (W.alloc (.cells zeroXc 50)).heap.size) := fun b hb => ⟨fun e => by injection e with e; omega, hb.2.1, by simp; omega⟩
  refine ⟨k.bel, fun g e => ?_, k.b8, fun g g' e e' => ?_, fun q e => ⟨(h.r1 q e).1, ?_⟩, fun q e => ⟨(h.r2 q e).1, ?_⟩⟩
  · injection e with e; subst e; exact ⟨Blk.new _ _ _, h.bel.size⟩
  · injection e with e; subst e; have := (h.b8 g' e').1.lt; omega
  · exact (XIn.keep (fun b hb => Below.heap_alloc W _ b hb.2.2) (h.r1 q e).2).imp hi
  · exact (XIn.keep (fun b hb => Below.heap_alloc W _ b hb.2.2) (h.r2 q e).2).imp hi
theorem XS.alloc8 {w2 W : World} {n : Nat} {x y : XM} {o7 : Option Nat} {c1 c2 : Option XM} (h : XS w2 W n x y o7 none c1 c2) : XS w2 (W.alloc (.cells zeroXc 50)) n x y o7 (some W.heap.size) c1 c2 := by
  have k := h.later ((Below.refl _ W).alloc (Nat.le_refl _) (.cells zeroXc 50))
  have hi : ∀ b, (o7 ≠ some b ∧ none ≠ some b ∧ b < W.heap.size) → (o7 ≠ some b ∧ some W.heap.size ≠ some b ∧ b < (W.alloc (.cells zeroXc 50)).heap.size) := fun b hb => ⟨hb.1, fun e => by injection e with e; omega, by simp; omega⟩
  refine ⟨k.bel, k.b7, fun g e => ?_, fun g g' e e' => ?_, fun q e => ⟨(h.r1 q e).1, ?_⟩, fun q e => ⟨(h.r2 q e).1, ?_⟩⟩
  · injection e with e; subst e; exact ⟨Blk.new _ _ _, h.bel.size⟩
  · injection e' with e'; subst e'; have := (h.b7 g e).1.lt; omega
  · exact (XIn.keep (fun b hb => Below.heap_alloc W _ b hb.2.2) (h.r1 q e).2).imp hi
  · exact (XIn.keep (fun b hb => Below.heap_alloc W _ b hb.2.2) (h.r2 q e).2).imp hi
theorem XS.as1 {w2 W W' : World} {n : Nat} {x y q : XM} {o7 o8 : Option Nat} {c2 : Option XM} (h : XS w2 W n x y o7 o8 none c2) (hb : Below W.heap.size W W') (ht : q.t = x.t) (hq : XIn (fun b => W.heap.size ≤ b ∧ b < W'.heap.size) W' n q) : XS w2 W' n x y o7 o8 (some q) c2 := by
  have k := h.later hb
  refine ⟨k.bel, k.b7, k.b8, k.ne, fun z e => ?_, k.r2⟩
  injection e with e; subst e
  exact ⟨ht, hq.imp fun b hb2 => ⟨fun e => by have := (h.b7 b e).1.lt; omega, fun e => by have := (h.b8 b e).1.lt; omega, hb2.2⟩⟩
theorem XS.as2 {w2 W W' : World} {n : Nat} {x y q : XM} {o7 o8 : Option Nat} {c1 : Option XM} (h : XS w2 W n x y o7 o8 c1 none) (hb : Below W.heap.size W W') (ht : q.t = y.t) (hq : XIn (fun b => W.heap.size ≤ b ∧ b < W'.heap.size) W' n q) : XS w2 W' n x y o7 o8 c1 (some q) := by
  have k := h.later hb
  refine ⟨k.bel, k.b7, k.b8, k.ne, k.r1, fun z e => ?_⟩
  injection e with e; subst e
  exact ⟨ht, hq.imp fun b hb2 => ⟨fun e => by have := (h.b7 b e).1.lt; omega, fun e => by have := (h.b8 b e).1.lt; omega, hb2.2⟩⟩
theorem XS.sets {w2 W : World} {n : Nat} {x y p q : XM} {g h : Nat} (k : XS w2 W n x y (some g) (some h) (some p) (some q)) : Blk W g 50 zeroXc ∧ Blk (W.setRow g p.cs) h 50 zeroXc ∧ Kp w2.heap.size (fun _ => True) W (W.setRow g p.cs) ∧ Kp w2.heap.size (fun _ => True) (W.setRow g p.cs) ((W.setRow g p.cs).setRow h q.cs) := by
  obtain ⟨b7, n7⟩ := k.b7 g rfl
  obtain ⟨b8, n8⟩ := k.b8 h rfl
  have hne := k.ne g h rfl rfl
  have c1 : Chg [g] W (W.setRow g p.cs) := (Chg.refl _ _).setRow (.inl (List.mem_singleton.2 rfl)) _
  have c2 : Chg [h] (W.setRow g p.cs) ((W.setRow g p.cs).setRow h q.cs) := (Chg.refl _ _).setRow (.inl (List.mem_singleton.2 rfl)) _
  exact ⟨b7, b8.chg c1 (fun hm => hne (List.mem_singleton.1 hm).symm), Kp.of_chg c1 (fun q hq => by rw [List.mem_singleton.1 hq]; exact ⟨n7, trivial⟩), Kp.of_chg c2 (fun q hq => by rw [List.mem_singleton.1 hq]; exact ⟨n8, trivial⟩)⟩
/-- All four expressions in their variables. -/
structure XF (w W : World) (n : Nat) (x y p q : XM) (g h : Nat) : Prop where
  base : ApE w W n x y
  t7 : Slot8 W g (.int .i64 p.t.lab.kd) (.int .u8 p.t.lab.v.k) (.int .i64 p.t.lab.v.n) (.string p.t.lab.v.s) (.string p.t.lab.tb) (.string p.t.lab.nm) (.string p.t.lab.op) (.slice p.a p.t.args.length p.cap)
  t8 : Slot8 W h (.int .i64 q.t.lab.kd) (.int .u8 q.t.lab.v.k) (.int .i64 q.t.lab.v.n) (.string q.t.lab.v.s) (.string q.t.lab.tb) (.string q.t.lab.nm) (.string q.t.lab.op) (.slice q.a q.t.args.length q.cap)
  a7 : XAt W.heap.size W n p
  a8 : XAt W.heap.size W n q
  g7 : g < W.heap.size
  g8 : h < W.heap.size
theorem XF.later {w W W' : World} {n : Nat} {x y p q : XM} {g h : Nat} (k : XF w W n x y p q g h) (hb : Below W.heap.size W W') : XF w W' n x y p q g h :=
  ⟨k.base.later hb, k.t7.later k.g7 hb, k.t8.later k.g8 hb, k.a7.later hb, k.a8.later hb, Nat.lt_of_lt_of_le k.g7 hb.size, Nat.lt_of_lt_of_le k.g8 hb.size⟩
theorem Slot8.of_blk {W : World} {g : Nat} {q : XM} {T : TypeId} (h : Blk W g T q.cs) : Slot8 W g (.int .i64 q.t.lab.kd) (.int .u8 q.t.lab.v.k) (.int .i64 q.t.lab.v.n) (.string q.t.lab.v.s) (.string q.t.lab.tb) (.string q.t.lab.nm) (.string q.t.lab.op) (.slice q.a q.t.args.length q.cap) :=
  ⟨(h.cell 0).trans rfl, (h.cell 1).trans rfl, (h.cell 2).trans rfl, (h.cell 3).trans rfl, (h.cell 4).trans rfl, (h.cell 5).trans rfl, (h.cell 6).trans rfl, (h.cell 7).trans rfl⟩
theorem XS.final {w w2 W : World} {n : Nat} {x y p q : XM} {g h : Nat} (k : XS w2 W n x y (some g) (some h) (some p) (some q)) (hT : ApE w w2 n x y) : XF w ((W.setRow g p.cs).setRow h q.cs) n x y p q g h ∧ p.t = x.t ∧ q.t = y.t := by
  obtain ⟨b7, n7⟩ := k.b7 g rfl
  obtain ⟨b8, n8⟩ := k.b8 h rfl
  have hne := k.ne g h rfl rfl
  have c1 : Chg [g] W (W.setRow g p.cs) := (Chg.refl _ _).setRow (.inl (List.mem_singleton.2 rfl)) _
  have b7' : Blk (W.setRow g p.cs) g 50 p.cs := Blk.setRow b7
  have b8' : Blk (W.setRow g p.cs) h 50 zeroXc := b8.chg c1 (fun hm => hne (List.mem_singleton.1 hm).symm)
  have c2 : Chg [h] (W.setRow g p.cs) ((W.setRow g p.cs).setRow h q.cs) := (Chg.refl _ _).setRow (.inl (List.mem_singleton.2 rfl)) _
  have b7'' := b7'.chg c2 (fun hm => hne (List.mem_singleton.1 hm))
  have b8'' : Blk ((W.setRow g p.cs).setRow h q.cs) h 50 q.cs := Blk.setRow b8'
  have hb : Below w2.heap.size w2 ((W.setRow g p.cs).setRow h q.cs) := (k.bel.trans (c1.below k.bel.size (by simpa using n7))).trans (c2.below (Nat.le_trans k.bel.size c1.size) (by simpa using n8))
  have hs := Nat.le_trans c1.size c2.size
  have hk : ∀ b, (some g ≠ some b ∧ some h ≠ some b ∧ b < W.heap.size) → ((W.setRow g p.cs).setRow h q.cs).heap[b]? = W.heap[b]? := fun b hb2 =>
    (c2.block b (Nat.lt_of_lt_of_le hb2.2.2 c1.size) (by rw [List.mem_singleton]; intro e; exact hb2.2.1 (by rw [e]))).trans (c1.block b hb2.2.2 (by rw [List.mem_singleton]; intro e; exact hb2.1 (by rw [e])))
  exact ⟨⟨hT.later hb, Slot8.of_blk b7'', Slot8.of_blk b8'', XIn.at_ ((XIn.keep hk (k.r1 p rfl).2).imp fun b hb2 => Nat.lt_of_lt_of_le hb2.2.2 hs), XIn.at_ ((XIn.keep hk (k.r2 q rfl).2).imp fun b hb2 => Nat.lt_of_lt_of_le hb2.2.2 hs), b7''.lt, b8''.lt⟩, (k.r1 p rfl).1, (k.r2 q rfl).1⟩
theorem allocSz20 (w : World) (o : Obj) : (w.alloc o).heap.size = w.heap.size + 1 := by simp
theorem cutQ_intro20 {R : Act → World → Prop} {Q : Exit → Act → World → Prop} {a : Act} {w : World} (h : R a w) : cutQ R Q .normal a w := h
/-- Same, told by the reference. -/
theorem same_ref (e o : Ex) : sameX 20 e o = (decide (min e.depth 21 ≤ 20) && decide (min o.depth 21 ≤ 20) && eqT e o) := by
  rw [Bool.eq_iff_iff, sameX_iff]
  simp only [Bool.and_eq_true, decide_eq_true_iff, eqT_iff]
  constructor
  · rintro ⟨rfl, h⟩; exact ⟨⟨by omega, by omega⟩, rfl⟩
  · rintro ⟨⟨h1, _⟩, rfl⟩; exact ⟨rfl, by omega⟩
end Go.Proofs.YtbnddpicpomakaaGreatDoor

/- The walk of the law SyntaxTexts. -/
set_option linter.unusedSimpArgs false
set_option linter.unusedVariables false
set_option maxRecDepth 100000
namespace Go.Proofs.YtbnddpicpomakaaGreatDoor
open Go.RowKit

set_option maxHeartbeats 16000000 in
theorem texts_walk (x y : XM) (s : ByteArray) (n : Nat) (w : World) (hx : XAt w.heap.size w n x) (hy : XAt w.heap.size w n y) (hT : Pre4 w) :
    Calls Tryz.prog 5 #[x.v, y.v, .string s] w fun e w' => e = .returned (.bool true) ∧ Below w.heap.size w w' := by
  rw [XM.v_eq, XM.v_eq]
  have HAl := Lib.hid (fun W (hb : Below w.heap.size w W) => alive20_any W (hT.below hb))
  have HE0 := Lib.hid (ApE.new w hx hy)
  obtain ⟨u0, hu0⟩ : ∃ u0, w.alloc (.cells #[.int .i64 x.t.lab.kd, .int .u8 x.t.lab.v.k, .int .i64 x.t.lab.v.n, .string x.t.lab.v.s, .string x.t.lab.tb, .string x.t.lab.nm, .string x.t.lab.op, .slice x.a x.t.args.length x.cap] 45) = u0 := ⟨_, rfl⟩
  have hs0 : u0.heap.size = w.heap.size + 1 := by rw [← hu0]; simp
  obtain ⟨w0, hw0⟩ : ∃ w0, u0.alloc (.cells #[.int .i64 y.t.lab.kd, .int .u8 y.t.lab.v.k, .int .i64 y.t.lab.v.n, .string y.t.lab.v.s, .string y.t.lab.tb, .string y.t.lab.nm, .string y.t.lab.op, .slice y.a y.t.args.length y.cap] 45) = w0 := ⟨_, rfl⟩
  rw [hu0, hw0] at HE0
  have HP := Lib.hid (fun W (hb : Below w.heap.size w W) => hT.below hb)
  have HCx : Hid (∀ (W : World), XAt W.heap.size W n x → Calls Tryz.prog 15 #[.agg #[.int .i64 x.t.lab.kd, .int .u8 x.t.lab.v.k, .int .i64 x.t.lab.v.n, .string x.t.lab.v.s, .string x.t.lab.tb, .string x.t.lab.nm, .string x.t.lab.op, .slice x.a x.t.args.length x.cap], .int .i64 0] W fun e w' => e = .returned (.int .i64 ((min (0 + x.t.count) 3000 : Nat) : Int)) ∧ Below W.heap.size W w') := fun W hW => by
    have := xCnt_any n x W 0 hW (by omega); rw [XM.v_eq] at this; exact this
  have HCy : Hid (∀ (W : World), XAt W.heap.size W n y → Calls Tryz.prog 15 #[.agg #[.int .i64 y.t.lab.kd, .int .u8 y.t.lab.v.k, .int .i64 y.t.lab.v.n, .string y.t.lab.v.s, .string y.t.lab.tb, .string y.t.lab.nm, .string y.t.lab.op, .slice y.a y.t.args.length y.cap], .int .i64 0] W fun e w' => e = .returned (.int .i64 ((min (0 + y.t.count) 3000 : Nat) : Int)) ∧ Below W.heap.size W w') := fun W hW => by
    have := xCnt_any n y W 0 hW (by omega); rw [XM.v_eq] at this; exact this
  have HGx : Hid (∀ (W : World), XAt W.heap.size W n x → Calls Tryz.prog 16 #[.agg #[.int .i64 x.t.lab.kd, .int .u8 x.t.lab.v.k, .int .i64 x.t.lab.v.n, .string x.t.lab.v.s, .string x.t.lab.tb, .string x.t.lab.nm, .string x.t.lab.op, .slice x.a x.t.args.length x.cap], .int .i64 24] W fun e w' => e = .returned (.bool (greatX 24 x.t)) ∧ Below W.heap.size W w') := fun W hW => by
    have := Great_any n x W 24 hW (by omega); rw [XM.v_eq] at this; exact this
  have HGy : Hid (∀ (W : World), XAt W.heap.size W n y → Calls Tryz.prog 16 #[.agg #[.int .i64 y.t.lab.kd, .int .u8 y.t.lab.v.k, .int .i64 y.t.lab.v.n, .string y.t.lab.v.s, .string y.t.lab.tb, .string y.t.lab.nm, .string y.t.lab.op, .slice y.a y.t.args.length y.cap], .int .i64 24] W fun e w' => e = .returned (.bool (greatX 24 y.t)) ∧ Below W.heap.size W w') := fun W hW => by
    have := Great_any n y W 24 hW (by omega); rw [XM.v_eq] at this; exact this
  obtain ⟨c, hc⟩ : ∃ c, min (0 + x.t.count) 3000 = c := ⟨_, rfl⟩
  obtain ⟨d, hd⟩ : ∃ d, min (0 + y.t.count) 3000 = d := ⟨_, rfl⟩
  rw [hc] at HCx
  rw [hd] at HCy
  obtain ⟨g, hg⟩ : ∃ g, greatX 24 x.t = g := ⟨_, rfl⟩
  obtain ⟨k, hk⟩ : ∃ k, greatX 24 y.t = k := ⟨_, rfl⟩
  rw [hg] at HGx
  rw [hk] at HGy
  have HGg := Lib.hid hg
  have HGk := Lib.hid hk
  have HC := Lib.hid hc
  have HD := Lib.hid hd
  clear hx hy hT hc hd hg hk
  obtain ⟨x0, x1, x2, x3, x4, x5, x6, x7⟩ := HE0.out.e
  obtain ⟨y0, y1, y2, y3, y4, y5, y6, y7⟩ := HE0.out.o
  by_cases hcb : 500 < c
  · have q1 : decide ((500 : Int) < (c : Int)) = true := by simp; omega
    go_enter Tryz.func5, Tryz.ntmps5
    go_wp2_with fail
    refine (HCx.out _ HE0.out.xat).mono ?_
    rintro e w1 ⟨rfl, hb1⟩
    have HE1 := Lib.hid (HE0.out.later hb1)
    clear x0 x1 x2 x3 x4 x5 x6 x7 y0 y1 y2 y3 y4 y5 y6 y7
    obtain ⟨x0, x1, x2, x3, x4, x5, x6, x7⟩ := HE1.out.e
    obtain ⟨y0, y1, y2, y3, y4, y5, y6, y7⟩ := HE1.out.o
    clear hb1
    go_wp2_with fail
    refine (HAl.out _ HE1.out.bel).mono ?_
    rintro e w2 ⟨rfl, hb2⟩
    have HE2 := Lib.hid (HE1.out.later hb2)
    clear x0 x1 x2 x3 x4 x5 x6 x7 y0 y1 y2 y3 y4 y5 y6 y7
    clear hb2
    go_wp2
    go_ret
    exact ⟨rfl, HE2.out.bel⟩
  have q1 : decide ((500 : Int) < (c : Int)) = false := by simp; omega
  by_cases hdb : 500 < d
  · have q2 : decide ((500 : Int) < (d : Int)) = true := by simp; omega
    go_enter Tryz.func5, Tryz.ntmps5
    go_wp2_with fail
    refine (HCx.out _ HE0.out.xat).mono ?_
    rintro e w1 ⟨rfl, hb1⟩
    have HE1 := Lib.hid (HE0.out.later hb1)
    clear x0 x1 x2 x3 x4 x5 x6 x7 y0 y1 y2 y3 y4 y5 y6 y7
    obtain ⟨x0, x1, x2, x3, x4, x5, x6, x7⟩ := HE1.out.e
    obtain ⟨y0, y1, y2, y3, y4, y5, y6, y7⟩ := HE1.out.o
    clear hb1
    go_wp2_with fail
    refine (HCy.out _ HE1.out.yat).mono ?_
    rintro e w2 ⟨rfl, hb2⟩
    have HE2 := Lib.hid (HE1.out.later hb2)
    clear x0 x1 x2 x3 x4 x5 x6 x7 y0 y1 y2 y3 y4 y5 y6 y7
    obtain ⟨x0, x1, x2, x3, x4, x5, x6, x7⟩ := HE2.out.e
    obtain ⟨y0, y1, y2, y3, y4, y5, y6, y7⟩ := HE2.out.o
    clear hb2
    go_wp2_with fail
    refine (HAl.out _ HE2.out.bel).mono ?_
    rintro e w3 ⟨rfl, hb3⟩
    have HE3 := Lib.hid (HE2.out.later hb3)
    clear x0 x1 x2 x3 x4 x5 x6 x7 y0 y1 y2 y3 y4 y5 y6 y7
    clear hb3
    go_wp2
    go_ret
    exact ⟨rfl, HE3.out.bel⟩
  have q2 : decide ((500 : Int) < (d : Int)) = false := by simp; omega
  cases g with
  | true =>
    go_enter Tryz.func5, Tryz.ntmps5
    go_wp2_with fail
    refine (HCx.out _ HE0.out.xat).mono ?_
    rintro e w1 ⟨rfl, hb1⟩
    have HE1 := Lib.hid (HE0.out.later hb1)
    clear x0 x1 x2 x3 x4 x5 x6 x7 y0 y1 y2 y3 y4 y5 y6 y7
    obtain ⟨x0, x1, x2, x3, x4, x5, x6, x7⟩ := HE1.out.e
    obtain ⟨y0, y1, y2, y3, y4, y5, y6, y7⟩ := HE1.out.o
    clear hb1
    go_wp2_with fail
    refine (HCy.out _ HE1.out.yat).mono ?_
    rintro e w2 ⟨rfl, hb2⟩
    have HE2 := Lib.hid (HE1.out.later hb2)
    clear x0 x1 x2 x3 x4 x5 x6 x7 y0 y1 y2 y3 y4 y5 y6 y7
    obtain ⟨x0, x1, x2, x3, x4, x5, x6, x7⟩ := HE2.out.e
    obtain ⟨y0, y1, y2, y3, y4, y5, y6, y7⟩ := HE2.out.o
    clear hb2
    go_wp2_with fail
    refine (HGx.out _ HE2.out.xat).mono ?_
    rintro e w3 ⟨rfl, hb3⟩
    have HE3 := Lib.hid (HE2.out.later hb3)
    clear x0 x1 x2 x3 x4 x5 x6 x7 y0 y1 y2 y3 y4 y5 y6 y7
    obtain ⟨x0, x1, x2, x3, x4, x5, x6, x7⟩ := HE3.out.e
    obtain ⟨y0, y1, y2, y3, y4, y5, y6, y7⟩ := HE3.out.o
    clear hb3
    go_wp2_with fail
    refine (HAl.out _ HE3.out.bel).mono ?_
    rintro e w4 ⟨rfl, hb4⟩
    have HE4 := Lib.hid (HE3.out.later hb4)
    clear x0 x1 x2 x3 x4 x5 x6 x7 y0 y1 y2 y3 y4 y5 y6 y7
    clear hb4
    go_wp2
    go_ret
    exact ⟨rfl, HE4.out.bel⟩
  | false =>
  cases k with
  | true =>
    go_enter Tryz.func5, Tryz.ntmps5
    go_wp2_with fail
    refine (HCx.out _ HE0.out.xat).mono ?_
    rintro e w1 ⟨rfl, hb1⟩
    have HE1 := Lib.hid (HE0.out.later hb1)
    clear x0 x1 x2 x3 x4 x5 x6 x7 y0 y1 y2 y3 y4 y5 y6 y7
    obtain ⟨x0, x1, x2, x3, x4, x5, x6, x7⟩ := HE1.out.e
    obtain ⟨y0, y1, y2, y3, y4, y5, y6, y7⟩ := HE1.out.o
    clear hb1
    go_wp2_with fail
    refine (HCy.out _ HE1.out.yat).mono ?_
    rintro e w2 ⟨rfl, hb2⟩
    have HE2 := Lib.hid (HE1.out.later hb2)
    clear x0 x1 x2 x3 x4 x5 x6 x7 y0 y1 y2 y3 y4 y5 y6 y7
    obtain ⟨x0, x1, x2, x3, x4, x5, x6, x7⟩ := HE2.out.e
    obtain ⟨y0, y1, y2, y3, y4, y5, y6, y7⟩ := HE2.out.o
    clear hb2
    go_wp2_with fail
    refine (HGx.out _ HE2.out.xat).mono ?_
    rintro e w3 ⟨rfl, hb3⟩
    have HE3 := Lib.hid (HE2.out.later hb3)
    clear x0 x1 x2 x3 x4 x5 x6 x7 y0 y1 y2 y3 y4 y5 y6 y7
    obtain ⟨x0, x1, x2, x3, x4, x5, x6, x7⟩ := HE3.out.e
    obtain ⟨y0, y1, y2, y3, y4, y5, y6, y7⟩ := HE3.out.o
    clear hb3
    go_wp2_with fail
    refine (HGy.out _ HE3.out.yat).mono ?_
    rintro e w4 ⟨rfl, hb4⟩
    have HE4 := Lib.hid (HE3.out.later hb4)
    clear x0 x1 x2 x3 x4 x5 x6 x7 y0 y1 y2 y3 y4 y5 y6 y7
    obtain ⟨x0, x1, x2, x3, x4, x5, x6, x7⟩ := HE4.out.e
    obtain ⟨y0, y1, y2, y3, y4, y5, y6, y7⟩ := HE4.out.o
    clear hb4
    go_wp2_with fail
    refine (HAl.out _ HE4.out.bel).mono ?_
    rintro e w5 ⟨rfl, hb5⟩
    have HE5 := Lib.hid (HE4.out.later hb5)
    clear x0 x1 x2 x3 x4 x5 x6 x7 y0 y1 y2 y3 y4 y5 y6 y7
    clear hb5
    go_wp2
    go_ret
    exact ⟨rfl, HE5.out.bel⟩
  | false =>
  by_cases h100 : 100 < s.size
  · have q3 : decide ((100 : Int) < (s.size : Int)) = true := by simp; omega
    go_enter Tryz.func5, Tryz.ntmps5
    go_wp2_with fail
    refine (HCx.out _ HE0.out.xat).mono ?_
    rintro e w1 ⟨rfl, hb1⟩
    have HE1 := Lib.hid (HE0.out.later hb1)
    clear x0 x1 x2 x3 x4 x5 x6 x7 y0 y1 y2 y3 y4 y5 y6 y7
    obtain ⟨x0, x1, x2, x3, x4, x5, x6, x7⟩ := HE1.out.e
    obtain ⟨y0, y1, y2, y3, y4, y5, y6, y7⟩ := HE1.out.o
    clear hb1
    go_wp2_with fail
    refine (HCy.out _ HE1.out.yat).mono ?_
    rintro e w2 ⟨rfl, hb2⟩
    have HE2 := Lib.hid (HE1.out.later hb2)
    clear x0 x1 x2 x3 x4 x5 x6 x7 y0 y1 y2 y3 y4 y5 y6 y7
    obtain ⟨x0, x1, x2, x3, x4, x5, x6, x7⟩ := HE2.out.e
    obtain ⟨y0, y1, y2, y3, y4, y5, y6, y7⟩ := HE2.out.o
    clear hb2
    go_wp2_with fail
    refine (HGx.out _ HE2.out.xat).mono ?_
    rintro e w3 ⟨rfl, hb3⟩
    have HE3 := Lib.hid (HE2.out.later hb3)
    clear x0 x1 x2 x3 x4 x5 x6 x7 y0 y1 y2 y3 y4 y5 y6 y7
    obtain ⟨x0, x1, x2, x3, x4, x5, x6, x7⟩ := HE3.out.e
    obtain ⟨y0, y1, y2, y3, y4, y5, y6, y7⟩ := HE3.out.o
    clear hb3
    go_wp2_with fail
    refine (HGy.out _ HE3.out.yat).mono ?_
    rintro e w4 ⟨rfl, hb4⟩
    have HE4 := Lib.hid (HE3.out.later hb4)
    clear x0 x1 x2 x3 x4 x5 x6 x7 y0 y1 y2 y3 y4 y5 y6 y7
    obtain ⟨x0, x1, x2, x3, x4, x5, x6, x7⟩ := HE4.out.e
    obtain ⟨y0, y1, y2, y3, y4, y5, y6, y7⟩ := HE4.out.o
    clear hb4
    go_wp2_with fail
    refine (HAl.out _ HE4.out.bel).mono ?_
    rintro e w5 ⟨rfl, hb5⟩
    have HE5 := Lib.hid (HE4.out.later hb5)
    clear x0 x1 x2 x3 x4 x5 x6 x7 y0 y1 y2 y3 y4 y5 y6 y7
    clear hb5
    go_wp2
    go_ret
    exact ⟨rfl, HE5.out.bel⟩
  have q3 : decide ((100 : Int) < (s.size : Int)) = false := by simp; omega
  have hcx : x.t.count ≤ 500 := by have := HC.out; omega
  have hdy : y.t.count ≤ 500 := by have := HD.out; omega
  have hbx := small_of HGg.out
  have hby := small_of HGk.out
  have hsx := small_all20 hbx
  have hsy := small_all20 hby
  have hlx : x.t.args.length ≤ 1000000 := by have h2 := hsx; rw [Rose.allB_eq, Bool.and_eq_true] at h2; simpa using h2.1
  have hly : y.t.args.length ≤ 1000000 := by have h2 := hsy; rw [Rose.allB_eq, Bool.and_eq_true] at h2; simpa using h2.1
  have HAx : Hid (∀ (W : World), XAt W.heap.size W n x → Calls Tryz.prog 18 #[.agg #[.int .i64 x.t.lab.kd, .int .u8 x.t.lab.v.k, .int .i64 x.t.lab.v.n, .string x.t.lab.v.s, .string x.t.lab.tb, .string x.t.lab.nm, .string x.t.lab.op, .slice x.a x.t.args.length x.cap]] W (RetX W n x.t)) := fun W hW => by
    have := As_any20 n x W hW hlx hsx; rw [XM.v_eq] at this; exact this
  have HAy : Hid (∀ (W : World), XAt W.heap.size W n y → Calls Tryz.prog 18 #[.agg #[.int .i64 y.t.lab.kd, .int .u8 y.t.lab.v.k, .int .i64 y.t.lab.v.n, .string y.t.lab.v.s, .string y.t.lab.tb, .string y.t.lab.nm, .string y.t.lab.op, .slice y.a y.t.args.length y.cap]] W (RetX W n y.t)) := fun W hW => by
    have := As_any20 n y W hW hly hsy; rw [XM.v_eq] at this; exact this
  have HSm : Hid (∀ (W : World), XAt W.heap.size W n x → XAt W.heap.size W n y → Calls Tryz.prog 25 #[.agg #[.int .i64 x.t.lab.kd, .int .u8 x.t.lab.v.k, .int .i64 x.t.lab.v.n, .string x.t.lab.v.s, .string x.t.lab.tb, .string x.t.lab.nm, .string x.t.lab.op, .slice x.a x.t.args.length x.cap], .agg #[.int .i64 y.t.lab.kd, .int .u8 y.t.lab.v.k, .int .i64 y.t.lab.v.n, .string y.t.lab.v.s, .string y.t.lab.tb, .string y.t.lab.nm, .string y.t.lab.op, .slice y.a y.t.args.length y.cap]] W fun e w' => e = .returned (.bool (sameX 20 x.t y.t)) ∧ Below W.heap.size W w') := fun W hX hY => by
    have := Same_any20 n x y W hX hY; rw [XM.v_eq, XM.v_eq] at this; exact this
  have HSr : Hid (∀ (p q : XM) (W : World), p.t = x.t → q.t = y.t → XAt W.heap.size W n p → XAt W.heap.size W n q → Calls Tryz.prog 26 #[.agg #[.int .i64 p.t.lab.kd, .int .u8 p.t.lab.v.k, .int .i64 p.t.lab.v.n, .string p.t.lab.v.s, .string p.t.lab.tb, .string p.t.lab.nm, .string p.t.lab.op, .slice p.a p.t.args.length p.cap], .agg #[.int .i64 q.t.lab.kd, .int .u8 q.t.lab.v.k, .int .i64 q.t.lab.v.n, .string q.t.lab.v.s, .string q.t.lab.tb, .string q.t.lab.nm, .string q.t.lab.op, .slice q.a q.t.args.length q.cap]] W fun e w' => e = .returned (.bool (eqT x.t y.t)) ∧ Below W.heap.size W w') := fun p q W h1 h2 hX hY => by
    have := RSame_any20 n p q W hX hY; rw [XM.v_eq, XM.v_eq, h1, h2] at this; rw [h1, h2]; exact this
  have HWx : Hid (∀ (W : World), Below w.heap.size w W → XAt W.heap.size W n x → Calls Tryz.prog 20 #[.agg #[.int .i64 x.t.lab.kd, .int .u8 x.t.lab.v.k, .int .i64 x.t.lab.v.n, .string x.t.lab.v.s, .string x.t.lab.tb, .string x.t.lab.nm, .string x.t.lab.op, .slice x.a x.t.args.length x.cap]] W fun e w' => e = .returned (.tuple #[.string (if rightX 20 x.t = true then (textX x.t, (0 : Int)) else (⟨#[]⟩, 3)).1, .int .i64 (if rightX 20 x.t = true then (textX x.t, (0 : Int)) else (⟨#[]⟩, 3)).2]) ∧ Below W.heap.size W w') := fun W hb hX => by
    have := sWrite_any20 n x W (HP.out W hb) hX hbx (by omega); rw [XM.v_eq] at this; exact this
  have HWr : Hid (rightX 20 x.t = true → ∀ (p : XM) (W : World), p.t = x.t → XAt W.heap.size W n p → Calls Tryz.prog 21 #[.agg #[.int .i64 p.t.lab.kd, .int .u8 p.t.lab.v.k, .int .i64 p.t.lab.v.n, .string p.t.lab.v.s, .string p.t.lab.tb, .string p.t.lab.nm, .string p.t.lab.op, .slice p.a p.t.args.length p.cap]] W fun e w' => e = .returned (.string (textX x.t)) ∧ Below W.heap.size W w') := fun hr p W h1 hX => by
    have := RWrite_any20 n p W hX (by rw [h1]; exact good20 hr hbx) (by rw [h1]; omega); rw [XM.v_eq, h1] at this; rw [h1]; exact this
  have HRe : Hid (∀ (W : World), XAt W.heap.size W n x → Calls Tryz.prog 23 #[.agg #[.int .i64 x.t.lab.kd, .int .u8 x.t.lab.v.k, .int .i64 x.t.lab.v.n, .string x.t.lab.v.s, .string x.t.lab.tb, .string x.t.lab.nm, .string x.t.lab.op, .slice x.a x.t.args.length x.cap]] W fun e w' => e = .returned (.bool (rightX 20 x.t)) ∧ Below W.heap.size W w') := fun W hW => by
    have := Right_any20 n x W hW; rw [XM.v_eq] at this; exact this
  have HRr : Hid (∀ (p : XM) (W : World), p.t = x.t → XAt W.heap.size W n p → Calls Tryz.prog 19 #[.agg #[.int .i64 p.t.lab.kd, .int .u8 p.t.lab.v.k, .int .i64 p.t.lab.v.n, .string p.t.lab.v.s, .string p.t.lab.tb, .string p.t.lab.nm, .string p.t.lab.op, .slice p.a p.t.args.length p.cap]] W fun e w' => e = .returned (.bool (rightX 20 x.t)) ∧ Below W.heap.size W w') := fun p W h1 hW => by
    have := RRight_any20 n p W hW (by rw [h1]; exact hbx); rw [XM.v_eq, h1] at this; rw [h1]; exact this
  have HDe : Hid (∀ (W : World), XAt W.heap.size W n x → Calls Tryz.prog 24 #[.agg #[.int .i64 x.t.lab.kd, .int .u8 x.t.lab.v.k, .int .i64 x.t.lab.v.n, .string x.t.lab.v.s, .string x.t.lab.tb, .string x.t.lab.nm, .string x.t.lab.op, .slice x.a x.t.args.length x.cap]] W fun e w' => e = .returned (.int .i64 ((min x.t.depth 21 : Nat) : Int)) ∧ Below W.heap.size W w') := fun W hW => by
    have := Deep_any n x W hW; rw [XM.v_eq] at this; exact this
  have HDp : Hid (∀ (p : XM) (W : World), p.t = x.t → XAt W.heap.size W n p → Calls Tryz.prog 22 #[.agg #[.int .i64 p.t.lab.kd, .int .u8 p.t.lab.v.k, .int .i64 p.t.lab.v.n, .string p.t.lab.v.s, .string p.t.lab.tb, .string p.t.lab.nm, .string p.t.lab.op, .slice p.a p.t.args.length p.cap], .int .i64 20] W fun e w' => e = .returned (.int .i64 ((min x.t.depth 21 : Nat) : Int)) ∧ Below W.heap.size W w') := fun p W h1 hW => by
    have := RDeep_any20 n p W 20 hW (by omega); rw [XM.v_eq, h1] at this; rw [h1]; exact this
  have HDq : Hid (∀ (q : XM) (W : World), q.t = y.t → XAt W.heap.size W n q → Calls Tryz.prog 22 #[.agg #[.int .i64 q.t.lab.kd, .int .u8 q.t.lab.v.k, .int .i64 q.t.lab.v.n, .string q.t.lab.v.s, .string q.t.lab.tb, .string q.t.lab.nm, .string q.t.lab.op, .slice q.a q.t.args.length q.cap], .int .i64 20] W fun e w' => e = .returned (.int .i64 ((min y.t.depth 21 : Nat) : Int)) ∧ Below W.heap.size W w') := fun q W h1 hW => by
    have := RDeep_any20 n q W 20 hW (by omega); rw [XM.v_eq, h1] at this; rw [h1]; exact this
  have HRs : Hid (∀ W, Calls Tryz.prog 27 #[.string s] W fun e w' => e = .returned (.bool (resB s)) ∧ Below W.heap.size W w') := fun W => (Reserved_any s W).mono (by rintro e w' ⟨rfl, rfl⟩; exact ⟨rfl, Below.refl _ _⟩)
  have HRq := Lib.hid (fun W => RReserved_any20 s W)
  have hsr := same_ref x.t y.t
  have hrd : rightX 20 x.t = true → min x.t.depth 21 ≤ 20 := fun h => by
    rw [rightX_eq, Bool.and_eq_true, decide_eq_true_iff] at h; omega
  generalize sameX 20 x.t y.t = sm at *
  generalize eqT x.t y.t = em at *
  generalize rightX 20 x.t = rx at *
  generalize textX x.t = tx at *
  generalize resB s = rs at *
  obtain ⟨dx, hdx⟩ : ∃ dx, min x.t.depth 21 = dx := ⟨_, rfl⟩
  obtain ⟨dy, hdy2⟩ : ∃ dy, min y.t.depth 21 = dy := ⟨_, rfl⟩
  rw [hdx] at HDe HDp hrd hsr
  rw [hdy2] at HDq hsr
  clear hcx hdy hbx hby hsx hsy hlx hly hdx hdy2 HGg HGk HC HD
  go_enter Tryz.func5, Tryz.ntmps5
  go_wp2_with fail
  refine (HCx.out _ HE0.out.xat).mono ?_
  rintro e w1 ⟨rfl, hb1⟩
  have HE1 := Lib.hid (HE0.out.later hb1)
  clear x0 x1 x2 x3 x4 x5 x6 x7 y0 y1 y2 y3 y4 y5 y6 y7
  obtain ⟨x0, x1, x2, x3, x4, x5, x6, x7⟩ := HE1.out.e
  obtain ⟨y0, y1, y2, y3, y4, y5, y6, y7⟩ := HE1.out.o
  clear hb1
  go_wp2_with fail
  refine (HCy.out _ HE1.out.yat).mono ?_
  rintro e w2 ⟨rfl, hb2⟩
  have HE2 := Lib.hid (HE1.out.later hb2)
  clear x0 x1 x2 x3 x4 x5 x6 x7 y0 y1 y2 y3 y4 y5 y6 y7
  obtain ⟨x0, x1, x2, x3, x4, x5, x6, x7⟩ := HE2.out.e
  obtain ⟨y0, y1, y2, y3, y4, y5, y6, y7⟩ := HE2.out.o
  clear hb2
  go_wp2_with fail
  refine (HGx.out _ HE2.out.xat).mono ?_
  rintro e w3 ⟨rfl, hb3⟩
  have HE3 := Lib.hid (HE2.out.later hb3)
  clear x0 x1 x2 x3 x4 x5 x6 x7 y0 y1 y2 y3 y4 y5 y6 y7
  obtain ⟨x0, x1, x2, x3, x4, x5, x6, x7⟩ := HE3.out.e
  obtain ⟨y0, y1, y2, y3, y4, y5, y6, y7⟩ := HE3.out.o
  clear hb3
  go_wp2_with fail
  refine (HGy.out _ HE3.out.yat).mono ?_
  rintro e w4 ⟨rfl, hb4⟩
  have HE4 := Lib.hid (HE3.out.later hb4)
  clear x0 x1 x2 x3 x4 x5 x6 x7 y0 y1 y2 y3 y4 y5 y6 y7
  clear hb4
  have HTW : Hid (∀ W, Below w4.heap.size w4 W → ApE w W n x y) := fun W hb => HE4.out.later hb
  clear HE0 HE1 HE2 HE3 HCx HCy HGx HGy hw0 hu0 hs0
  go_wp2_with fail
  refine wp_region_treeK (w4.heap.size) (.free 0 (.free 2 (.three 1 4 5 (.three 3 4 5 (.two 4 5 (.one 5 (.one 6 (.one 7 (.nil)))) (.one 4 (.one 6 (.one 7 (.nil))))) (.two 3 5 (.one 5 (.one 6 (.one 7 (.nil)))) (.one 3 (.one 6 (.one 7 (.nil))))) (.two 3 4 (.one 4 (.one 6 (.one 7 (.nil)))) (.one 3 (.one 6 (.one 7 (.nil)))))) (.two 1 5 (.two 3 5 (.one 5 (.one 6 (.one 7 (.nil)))) (.one 3 (.one 6 (.one 7 (.nil))))) (.one 1 (.one 3 (.one 6 (.one 7 (.nil)))))) (.two 1 4 (.two 3 4 (.one 4 (.one 6 (.one 7 (.nil)))) (.one 3 (.one 6 (.one 7 (.nil))))) (.one 1 (.one 3 (.one 6 (.one 7 (.nil))))))))) (fun a a' W => ∃ (p q : XM) (g h : Nat), a' = puts a [(some 36, .agg #[.int .i64 x.t.lab.kd, .int .u8 x.t.lab.v.k, .int .i64 x.t.lab.v.n, .string x.t.lab.v.s, .string x.t.lab.tb, .string x.t.lab.nm, .string x.t.lab.op, .slice x.a x.t.args.length x.cap]), (some 38, .agg #[.int .i64 y.t.lab.kd, .int .u8 y.t.lab.v.k, .int .i64 y.t.lab.v.n, .string y.t.lab.v.s, .string y.t.lab.tb, .string y.t.lab.nm, .string y.t.lab.op, .slice y.a y.t.args.length y.cap]), (some 37, .agg #[.int .i64 p.t.lab.kd, .int .u8 p.t.lab.v.k, .int .i64 p.t.lab.v.n, .string p.t.lab.v.s, .string p.t.lab.tb, .string p.t.lab.nm, .string p.t.lab.op, .slice p.a p.t.args.length p.cap]), (some 39, .agg #[.int .i64 q.t.lab.kd, .int .u8 q.t.lab.v.k, .int .i64 q.t.lab.v.n, .string q.t.lab.v.s, .string q.t.lab.tb, .string q.t.lab.nm, .string q.t.lab.op, .slice q.a q.t.args.length q.cap]), (some 7, .pointer (some ⟨g, 0, none⟩)), (some 8, .pointer (some ⟨h, 0, none⟩))] ∧ XF w W n x y p q g h ∧ p.t = x.t ∧ q.t = y.t) (by kernel_rfl) (by kernel_rfl) (by kernel_rfl) (by kernel_rfl) ?_ ?_
  · have HS := Lib.hid (XS.new (w2 := w4) (n := n) (x := x) (y := y))
    refine wpT_F (v := .agg #[.int .i64 x.t.lab.kd, .int .u8 x.t.lab.v.k, .int .i64 x.t.lab.v.n, .string x.t.lab.v.s, .string x.t.lab.tb, .string x.t.lab.nm, .string x.t.lab.op, .slice x.a x.t.args.length x.cap]) rfl (by rfl) (fun w' hL => ?_) ?_
    · obtain ⟨x0, x1, x2, x3, x4, x5, x6, x7⟩ := (HTW.out w' (Kp.below (Kp.undrew hL) (Nat.le_refl _))).e
      clear hL HS
      go_simp
    refine wpT_F (v := .agg #[.int .i64 y.t.lab.kd, .int .u8 y.t.lab.v.k, .int .i64 y.t.lab.v.n, .string y.t.lab.v.s, .string y.t.lab.tb, .string y.t.lab.nm, .string y.t.lab.op, .slice y.a y.t.args.length y.cap]) rfl (by rfl) (fun w' hL => ?_) ?_
    · obtain ⟨y0, y1, y2, y3, y4, y5, y6, y7⟩ := (HTW.out w' (Kp.below (Kp.undrew hL) (Nat.le_refl _))).o
      clear hL HS
      go_simp
    try simp only [Act.put, List.setIfInBounds_toArray, List.set_cons_zero, List.set_cons_succ]
    repeat' (first
      | refine wpT_three ?_ ?_ ?_
      | refine wpT_two ?_ ?_
      | (refine wpT_C (i := 4) rfl (by rfl) ?_; go_simp; refine ⟨Kp.of_below ((Below.refl _ _).alloc (Nat.le_refl _) _), ?_⟩; (try simp only [Act.put, List.setIfInBounds_toArray, List.set_cons_zero, List.set_cons_succ]); replace HS := Lib.hid HS.out.alloc7)
      | (refine wpT_C (i := 5) rfl (by rfl) ?_; go_simp; refine ⟨Kp.of_below ((Below.refl _ _).alloc (Nat.le_refl _) _), ?_⟩; (try simp only [Act.put, List.setIfInBounds_toArray, List.set_cons_zero, List.set_cons_succ]); replace HS := Lib.hid HS.out.alloc8)
      | (refine wpT_C (i := 1) rfl (by rfl) ?_; go_simp; refine (HAx.out _ (HTW.out _ HS.out.bel).xat).mono ?_; rintro e z1 ⟨p1, rfl, hpt, hpI, hb⟩; refine ⟨Kp.of_below hb, ?_⟩; (try simp only [Act.put, List.setIfInBounds_toArray, List.set_cons_zero, List.set_cons_succ]); replace HS := Lib.hid (HS.out.as1 hb hpt hpI); clear hpt hpI hb)
      | (refine wpT_C (i := 3) rfl (by rfl) ?_; go_simp; refine (HAy.out _ (HTW.out _ HS.out.bel).yat).mono ?_; rintro e z3 ⟨p3, rfl, hpt, hpI, hb⟩; refine ⟨Kp.of_below hb, ?_⟩; (try simp only [Act.put, List.setIfInBounds_toArray, List.set_cons_zero, List.set_cons_succ]); replace HS := Lib.hid (HS.out.as2 hb hpt hpI); clear hpt hpI hb))
    all_goals (
      have hL := HS.out
      try simp only [allocSz20] at hL
      replace HS := Lib.hid hL
      clear hL
      obtain ⟨B7, B8, K7, K8⟩ := HS.out.sets
      refine wpT_C (i := 6) rfl (by rfl) ?_
      refine wp_skp (exec_store (ty := 50) rfl rfl rfl (run_storeVar_row _ _ _ 50 _ p1.cs B7 (by rw [info_exRS]; rfl) rfl (by simp [Value.oneCell']))) ?_
      refine ⟨K7, ?_⟩
      try simp only [Act.put, List.setIfInBounds_toArray, List.set_cons_zero, List.set_cons_succ]
      refine wpT_C (i := 7) rfl (by rfl) ?_
      refine wp_skp (exec_store (ty := 50) rfl rfl rfl (run_storeVar_row _ _ _ 50 _ p3.cs B8 (by rw [info_exRS]; rfl) rfl (by simp [Value.oneCell']))) ?_
      refine ⟨K8, ?_⟩
      try simp only [Act.put, List.setIfInBounds_toArray, List.set_cons_zero, List.set_cons_succ]
      exact wpT_nil (cutQ_intro20 ⟨p1, p3, _, _, by (simp only [puts, List.nil_append, List.cons_append, List.foldl_cons, List.foldl_nil, Act.put, List.setIfInBounds_toArray, List.set_cons_zero, List.set_cons_succ]) <;> rfl, HS.out.final HE4.out⟩))
  rintro a3 v0 ⟨p, q, g1, h1, rfl, hF, hpt, hqt⟩
  have HF0 := Lib.hid hF
  have HPt := Lib.hid hpt
  have HQt := Lib.hid hqt
  clear hF hpt hqt HTW HE4 HAx HAy
  simp only [puts, List.nil_append, List.cons_append, List.foldl_cons, List.foldl_nil, Act.put, List.setIfInBounds_toArray, List.set_cons_zero, List.set_cons_succ]
  obtain ⟨p0, p1, p2, p3, p4, p5, p6, p7⟩ := HF0.out.t7
  go_wp2_with fail
  refine (HRr.out p _ HPt.out HF0.out.a7).mono ?_
  rintro e v1 ⟨rfl, hb⟩
  have HF1 := Lib.hid (HF0.out.later hb)
  clear hb HRr p0 p1 p2 p3 p4 p5 p6 p7
  obtain ⟨x0, x1, x2, x3, x4, x5, x6, x7⟩ := HF1.out.base.e
  go_wp2_with fail
  refine (HWx.out _ HF1.out.base.bel HF1.out.base.xat).mono ?_
  rintro e v2 ⟨rfl, hb⟩
  have HF2 := Lib.hid (HF1.out.later hb)
  clear hb HWx HF0 x0 x1 x2 x3 x4 x5 x6 x7
  by_cases hx20 : dx ≤ 20
  rotate_left
  · have n1 : decide ((dx : Int) ≤ 20) = false := by simp; omega
    have n2 : ¬ dx ≤ 20 := hx20
    have n3 : sm = false := by rw [hsr]; simp [n2]
    have n4 : rx = false := by cases rx with | false => rfl | true => exact absurd (hrd rfl) n2
    subst n3 n4
    clear hsr hrd hx20
    obtain ⟨p0, p1, p2, p3, p4, p5, p6, p7⟩ := HF2.out.t7
    go_wp2_with fail
    refine (HDp.out p _ HPt.out HF2.out.a7).mono ?_
    rintro e v3 ⟨rfl, hb⟩
    have HF3 := Lib.hid (HF2.out.later hb)
    clear hb p0 p1 p2 p3 p4 p5 p6 p7
    go_wp2_with fail
    refine wp_region_ord [(0, false), (1, true), (2, true), (4, true), (3, false), (5, true), (6, true), (7, true), (8, true), (9, true), (10, true), (11, true), (12, true), (13, true), (14, true), (15, true), (16, true), (17, true), (18, true), (19, true), (20, true), (21, true), (22, true), (23, true), (24, true), (25, true), (26, true), (28, true), (27, false), (29, false), (30, true), (31, true), (32, true), (33, true), (34, true), (36, true), (35, false), (37, true), (38, true), (39, true), (40, false), (41, true), (42, true), (43, true), (44, true), (45, true), (47, true), (46, false), (48, false), (49, true), (50, true), (51, true)] (by kernel_rfl) (by kernel_rfl) (by kernel_rfl) (by kernel_rfl) ?_
    repeat (first | (refine wpO_F (v := ?_) rfl (by rfl) (fun w' hL => ?_) ?_; rotate_left; (solve | (go_simp; with_reducible rfl) | go_simp); try simp only [Act.put, List.setIfInBounds_toArray, List.set_cons_zero, List.set_cons_succ]) | (refine wpO_G rfl (by rfl) ?_; try simp only [Act.put, List.setIfInBounds_toArray, List.set_cons_zero, List.set_cons_succ]))
    refine wpO_C rfl (by rfl) ?_
    go_simp
    refine (HAl.out _ HF3.out.base.bel.drew).mono ?_
    rintro e v4 ⟨rfl, hb⟩
    refine ⟨hb, ?_⟩
    try simp only [Act.put, List.setIfInBounds_toArray, List.set_cons_zero, List.set_cons_succ]
    have HF4 := Lib.hid (HF3.out.later ((Below.refl _ v3).drew.trans hb))
    clear hb
    have e0 : ∀ V, Later v4 V → V.cell? ⟨w.heap.size, 0, none⟩ = some (.int .i64 x.t.lab.kd) := fun V hV => (HF4.out.base.e.later HF4.out.base.lt.1 hV).c0
    have e1 : ∀ V, Later v4 V → V.cell? ⟨w.heap.size, 1, none⟩ = some (.int .u8 x.t.lab.v.k) := fun V hV => (HF4.out.base.e.later HF4.out.base.lt.1 hV).c1
    have e2 : ∀ V, Later v4 V → V.cell? ⟨w.heap.size, 2, none⟩ = some (.int .i64 x.t.lab.v.n) := fun V hV => (HF4.out.base.e.later HF4.out.base.lt.1 hV).c2
    have e3 : ∀ V, Later v4 V → V.cell? ⟨w.heap.size, 3, none⟩ = some (.string x.t.lab.v.s) := fun V hV => (HF4.out.base.e.later HF4.out.base.lt.1 hV).c3
    have e4 : ∀ V, Later v4 V → V.cell? ⟨w.heap.size, 4, none⟩ = some (.string x.t.lab.tb) := fun V hV => (HF4.out.base.e.later HF4.out.base.lt.1 hV).c4
    have e5 : ∀ V, Later v4 V → V.cell? ⟨w.heap.size, 5, none⟩ = some (.string x.t.lab.nm) := fun V hV => (HF4.out.base.e.later HF4.out.base.lt.1 hV).c5
    have e6 : ∀ V, Later v4 V → V.cell? ⟨w.heap.size, 6, none⟩ = some (.string x.t.lab.op) := fun V hV => (HF4.out.base.e.later HF4.out.base.lt.1 hV).c6
    have e7 : ∀ V, Later v4 V → V.cell? ⟨w.heap.size, 7, none⟩ = some (.slice x.a x.t.args.length x.cap) := fun V hV => (HF4.out.base.e.later HF4.out.base.lt.1 hV).c7
    repeat (first | (refine wpO_F (v := ?_) rfl (by rfl) (fun w' hL => ?_) ?_; rotate_left; (solve | (go_simp; with_reducible rfl) | go_simp); try simp only [Act.put, List.setIfInBounds_toArray, List.set_cons_zero, List.set_cons_succ]) | (refine wpO_G rfl (by rfl) ?_; try simp only [Act.put, List.setIfInBounds_toArray, List.set_cons_zero, List.set_cons_succ]))
    refine wpO_C rfl (by rfl) ?_
    go_simp
    refine (HRe.out _ HF4.out.base.xat).mono ?_
    rintro e v5 ⟨rfl, hb⟩
    refine ⟨hb, ?_⟩
    try simp only [Act.put, List.setIfInBounds_toArray, List.set_cons_zero, List.set_cons_succ]
    have HF5 := Lib.hid (HF4.out.later hb)
    clear hb
    clear e0 e1 e2 e3 e4 e5 e6 e7
    have e0 : ∀ V, Later v5 V → V.cell? ⟨w.heap.size, 0, none⟩ = some (.int .i64 x.t.lab.kd) := fun V hV => (HF5.out.base.e.later HF5.out.base.lt.1 hV).c0
    have e1 : ∀ V, Later v5 V → V.cell? ⟨w.heap.size, 1, none⟩ = some (.int .u8 x.t.lab.v.k) := fun V hV => (HF5.out.base.e.later HF5.out.base.lt.1 hV).c1
    have e2 : ∀ V, Later v5 V → V.cell? ⟨w.heap.size, 2, none⟩ = some (.int .i64 x.t.lab.v.n) := fun V hV => (HF5.out.base.e.later HF5.out.base.lt.1 hV).c2
    have e3 : ∀ V, Later v5 V → V.cell? ⟨w.heap.size, 3, none⟩ = some (.string x.t.lab.v.s) := fun V hV => (HF5.out.base.e.later HF5.out.base.lt.1 hV).c3
    have e4 : ∀ V, Later v5 V → V.cell? ⟨w.heap.size, 4, none⟩ = some (.string x.t.lab.tb) := fun V hV => (HF5.out.base.e.later HF5.out.base.lt.1 hV).c4
    have e5 : ∀ V, Later v5 V → V.cell? ⟨w.heap.size, 5, none⟩ = some (.string x.t.lab.nm) := fun V hV => (HF5.out.base.e.later HF5.out.base.lt.1 hV).c5
    have e6 : ∀ V, Later v5 V → V.cell? ⟨w.heap.size, 6, none⟩ = some (.string x.t.lab.op) := fun V hV => (HF5.out.base.e.later HF5.out.base.lt.1 hV).c6
    have e7 : ∀ V, Later v5 V → V.cell? ⟨w.heap.size, 7, none⟩ = some (.slice x.a x.t.args.length x.cap) := fun V hV => (HF5.out.base.e.later HF5.out.base.lt.1 hV).c7
    have p0 : ∀ V, Later v5 V → V.cell? ⟨g1, 0, none⟩ = some (.int .i64 p.t.lab.kd) := fun V hV => (HF5.out.t7.later HF5.out.g7 hV).c0
    have p1 : ∀ V, Later v5 V → V.cell? ⟨g1, 1, none⟩ = some (.int .u8 p.t.lab.v.k) := fun V hV => (HF5.out.t7.later HF5.out.g7 hV).c1
    have p2 : ∀ V, Later v5 V → V.cell? ⟨g1, 2, none⟩ = some (.int .i64 p.t.lab.v.n) := fun V hV => (HF5.out.t7.later HF5.out.g7 hV).c2
    have p3 : ∀ V, Later v5 V → V.cell? ⟨g1, 3, none⟩ = some (.string p.t.lab.v.s) := fun V hV => (HF5.out.t7.later HF5.out.g7 hV).c3
    have p4 : ∀ V, Later v5 V → V.cell? ⟨g1, 4, none⟩ = some (.string p.t.lab.tb) := fun V hV => (HF5.out.t7.later HF5.out.g7 hV).c4
    have p5 : ∀ V, Later v5 V → V.cell? ⟨g1, 5, none⟩ = some (.string p.t.lab.nm) := fun V hV => (HF5.out.t7.later HF5.out.g7 hV).c5
    have p6 : ∀ V, Later v5 V → V.cell? ⟨g1, 6, none⟩ = some (.string p.t.lab.op) := fun V hV => (HF5.out.t7.later HF5.out.g7 hV).c6
    have p7 : ∀ V, Later v5 V → V.cell? ⟨g1, 7, none⟩ = some (.slice p.a p.t.args.length p.cap) := fun V hV => (HF5.out.t7.later HF5.out.g7 hV).c7
    repeat (first | (refine wpO_F (v := ?_) rfl (by rfl) (fun w' hL => ?_) ?_; rotate_left; (solve | (go_simp; with_reducible rfl) | go_simp); try simp only [Act.put, List.setIfInBounds_toArray, List.set_cons_zero, List.set_cons_succ]) | (refine wpO_G rfl (by rfl) ?_; try simp only [Act.put, List.setIfInBounds_toArray, List.set_cons_zero, List.set_cons_succ]))
    refine wpO_C rfl (by rfl) ?_
    go_simp
    refine (HDe.out _ HF5.out.base.xat).mono ?_
    rintro e v6 ⟨rfl, hb⟩
    refine ⟨hb, ?_⟩
    try simp only [Act.put, List.setIfInBounds_toArray, List.set_cons_zero, List.set_cons_succ]
    have HF6 := Lib.hid (HF5.out.later hb)
    clear hb
    clear e0 e1 e2 e3 e4 e5 e6 e7 p0 p1 p2 p3 p4 p5 p6 p7
    have p0 : ∀ V, Later v6 V → V.cell? ⟨g1, 0, none⟩ = some (.int .i64 p.t.lab.kd) := fun V hV => (HF6.out.t7.later HF6.out.g7 hV).c0
    have p1 : ∀ V, Later v6 V → V.cell? ⟨g1, 1, none⟩ = some (.int .u8 p.t.lab.v.k) := fun V hV => (HF6.out.t7.later HF6.out.g7 hV).c1
    have p2 : ∀ V, Later v6 V → V.cell? ⟨g1, 2, none⟩ = some (.int .i64 p.t.lab.v.n) := fun V hV => (HF6.out.t7.later HF6.out.g7 hV).c2
    have p3 : ∀ V, Later v6 V → V.cell? ⟨g1, 3, none⟩ = some (.string p.t.lab.v.s) := fun V hV => (HF6.out.t7.later HF6.out.g7 hV).c3
    have p4 : ∀ V, Later v6 V → V.cell? ⟨g1, 4, none⟩ = some (.string p.t.lab.tb) := fun V hV => (HF6.out.t7.later HF6.out.g7 hV).c4
    have p5 : ∀ V, Later v6 V → V.cell? ⟨g1, 5, none⟩ = some (.string p.t.lab.nm) := fun V hV => (HF6.out.t7.later HF6.out.g7 hV).c5
    have p6 : ∀ V, Later v6 V → V.cell? ⟨g1, 6, none⟩ = some (.string p.t.lab.op) := fun V hV => (HF6.out.t7.later HF6.out.g7 hV).c6
    have p7 : ∀ V, Later v6 V → V.cell? ⟨g1, 7, none⟩ = some (.slice p.a p.t.args.length p.cap) := fun V hV => (HF6.out.t7.later HF6.out.g7 hV).c7
    repeat (first | (refine wpO_F (v := ?_) rfl (by rfl) (fun w' hL => ?_) ?_; rotate_left; (solve | (go_simp; with_reducible rfl) | go_simp); try simp only [Act.put, List.setIfInBounds_toArray, List.set_cons_zero, List.set_cons_succ]) | (refine wpO_G rfl (by rfl) ?_; try simp only [Act.put, List.setIfInBounds_toArray, List.set_cons_zero, List.set_cons_succ]))
    refine wpO_C rfl (by rfl) ?_
    go_simp
    refine (HDp.out p _ HPt.out HF6.out.a7).mono ?_
    rintro e v7 ⟨rfl, hb⟩
    refine ⟨hb, ?_⟩
    try simp only [Act.put, List.setIfInBounds_toArray, List.set_cons_zero, List.set_cons_succ]
    have HF7 := Lib.hid (HF6.out.later hb)
    clear hb
    clear p0 p1 p2 p3 p4 p5 p6 p7
    have e0 : ∀ V, Later v7 V → V.cell? ⟨w.heap.size, 0, none⟩ = some (.int .i64 x.t.lab.kd) := fun V hV => (HF7.out.base.e.later HF7.out.base.lt.1 hV).c0
    have e1 : ∀ V, Later v7 V → V.cell? ⟨w.heap.size, 1, none⟩ = some (.int .u8 x.t.lab.v.k) := fun V hV => (HF7.out.base.e.later HF7.out.base.lt.1 hV).c1
    have e2 : ∀ V, Later v7 V → V.cell? ⟨w.heap.size, 2, none⟩ = some (.int .i64 x.t.lab.v.n) := fun V hV => (HF7.out.base.e.later HF7.out.base.lt.1 hV).c2
    have e3 : ∀ V, Later v7 V → V.cell? ⟨w.heap.size, 3, none⟩ = some (.string x.t.lab.v.s) := fun V hV => (HF7.out.base.e.later HF7.out.base.lt.1 hV).c3
    have e4 : ∀ V, Later v7 V → V.cell? ⟨w.heap.size, 4, none⟩ = some (.string x.t.lab.tb) := fun V hV => (HF7.out.base.e.later HF7.out.base.lt.1 hV).c4
    have e5 : ∀ V, Later v7 V → V.cell? ⟨w.heap.size, 5, none⟩ = some (.string x.t.lab.nm) := fun V hV => (HF7.out.base.e.later HF7.out.base.lt.1 hV).c5
    have e6 : ∀ V, Later v7 V → V.cell? ⟨w.heap.size, 6, none⟩ = some (.string x.t.lab.op) := fun V hV => (HF7.out.base.e.later HF7.out.base.lt.1 hV).c6
    have e7 : ∀ V, Later v7 V → V.cell? ⟨w.heap.size, 7, none⟩ = some (.slice x.a x.t.args.length x.cap) := fun V hV => (HF7.out.base.e.later HF7.out.base.lt.1 hV).c7
    have o0 : ∀ V, Later v7 V → V.cell? ⟨w.heap.size + 1, 0, none⟩ = some (.int .i64 y.t.lab.kd) := fun V hV => (HF7.out.base.o.later HF7.out.base.lt.2 hV).c0
    have o1 : ∀ V, Later v7 V → V.cell? ⟨w.heap.size + 1, 1, none⟩ = some (.int .u8 y.t.lab.v.k) := fun V hV => (HF7.out.base.o.later HF7.out.base.lt.2 hV).c1
    have o2 : ∀ V, Later v7 V → V.cell? ⟨w.heap.size + 1, 2, none⟩ = some (.int .i64 y.t.lab.v.n) := fun V hV => (HF7.out.base.o.later HF7.out.base.lt.2 hV).c2
    have o3 : ∀ V, Later v7 V → V.cell? ⟨w.heap.size + 1, 3, none⟩ = some (.string y.t.lab.v.s) := fun V hV => (HF7.out.base.o.later HF7.out.base.lt.2 hV).c3
    have o4 : ∀ V, Later v7 V → V.cell? ⟨w.heap.size + 1, 4, none⟩ = some (.string y.t.lab.tb) := fun V hV => (HF7.out.base.o.later HF7.out.base.lt.2 hV).c4
    have o5 : ∀ V, Later v7 V → V.cell? ⟨w.heap.size + 1, 5, none⟩ = some (.string y.t.lab.nm) := fun V hV => (HF7.out.base.o.later HF7.out.base.lt.2 hV).c5
    have o6 : ∀ V, Later v7 V → V.cell? ⟨w.heap.size + 1, 6, none⟩ = some (.string y.t.lab.op) := fun V hV => (HF7.out.base.o.later HF7.out.base.lt.2 hV).c6
    have o7 : ∀ V, Later v7 V → V.cell? ⟨w.heap.size + 1, 7, none⟩ = some (.slice y.a y.t.args.length y.cap) := fun V hV => (HF7.out.base.o.later HF7.out.base.lt.2 hV).c7
    have p0 : ∀ V, Later v7 V → V.cell? ⟨g1, 0, none⟩ = some (.int .i64 p.t.lab.kd) := fun V hV => (HF7.out.t7.later HF7.out.g7 hV).c0
    have p1 : ∀ V, Later v7 V → V.cell? ⟨g1, 1, none⟩ = some (.int .u8 p.t.lab.v.k) := fun V hV => (HF7.out.t7.later HF7.out.g7 hV).c1
    have p2 : ∀ V, Later v7 V → V.cell? ⟨g1, 2, none⟩ = some (.int .i64 p.t.lab.v.n) := fun V hV => (HF7.out.t7.later HF7.out.g7 hV).c2
    have p3 : ∀ V, Later v7 V → V.cell? ⟨g1, 3, none⟩ = some (.string p.t.lab.v.s) := fun V hV => (HF7.out.t7.later HF7.out.g7 hV).c3
    have p4 : ∀ V, Later v7 V → V.cell? ⟨g1, 4, none⟩ = some (.string p.t.lab.tb) := fun V hV => (HF7.out.t7.later HF7.out.g7 hV).c4
    have p5 : ∀ V, Later v7 V → V.cell? ⟨g1, 5, none⟩ = some (.string p.t.lab.nm) := fun V hV => (HF7.out.t7.later HF7.out.g7 hV).c5
    have p6 : ∀ V, Later v7 V → V.cell? ⟨g1, 6, none⟩ = some (.string p.t.lab.op) := fun V hV => (HF7.out.t7.later HF7.out.g7 hV).c6
    have p7 : ∀ V, Later v7 V → V.cell? ⟨g1, 7, none⟩ = some (.slice p.a p.t.args.length p.cap) := fun V hV => (HF7.out.t7.later HF7.out.g7 hV).c7
    have q0 : ∀ V, Later v7 V → V.cell? ⟨h1, 0, none⟩ = some (.int .i64 q.t.lab.kd) := fun V hV => (HF7.out.t8.later HF7.out.g8 hV).c0
    have q1 : ∀ V, Later v7 V → V.cell? ⟨h1, 1, none⟩ = some (.int .u8 q.t.lab.v.k) := fun V hV => (HF7.out.t8.later HF7.out.g8 hV).c1
    have q2 : ∀ V, Later v7 V → V.cell? ⟨h1, 2, none⟩ = some (.int .i64 q.t.lab.v.n) := fun V hV => (HF7.out.t8.later HF7.out.g8 hV).c2
    have q3 : ∀ V, Later v7 V → V.cell? ⟨h1, 3, none⟩ = some (.string q.t.lab.v.s) := fun V hV => (HF7.out.t8.later HF7.out.g8 hV).c3
    have q4 : ∀ V, Later v7 V → V.cell? ⟨h1, 4, none⟩ = some (.string q.t.lab.tb) := fun V hV => (HF7.out.t8.later HF7.out.g8 hV).c4
    have q5 : ∀ V, Later v7 V → V.cell? ⟨h1, 5, none⟩ = some (.string q.t.lab.nm) := fun V hV => (HF7.out.t8.later HF7.out.g8 hV).c5
    have q6 : ∀ V, Later v7 V → V.cell? ⟨h1, 6, none⟩ = some (.string q.t.lab.op) := fun V hV => (HF7.out.t8.later HF7.out.g8 hV).c6
    have q7 : ∀ V, Later v7 V → V.cell? ⟨h1, 7, none⟩ = some (.slice q.a q.t.args.length q.cap) := fun V hV => (HF7.out.t8.later HF7.out.g8 hV).c7
    repeat (first | (refine wpO_F (v := ?_) rfl (by rfl) (fun w' hL => ?_) ?_; rotate_left; (solve | (go_simp; with_reducible rfl) | go_simp); try simp only [Act.put, List.setIfInBounds_toArray, List.set_cons_zero, List.set_cons_succ]) | (refine wpO_G rfl (by rfl) ?_; try simp only [Act.put, List.setIfInBounds_toArray, List.set_cons_zero, List.set_cons_succ]))
    refine wpO_C rfl (by rfl) ?_
    go_simp
    refine (HSm.out _ HF7.out.base.xat HF7.out.base.yat).mono ?_
    rintro e v8 ⟨rfl, hb⟩
    refine ⟨hb, ?_⟩
    try simp only [Act.put, List.setIfInBounds_toArray, List.set_cons_zero, List.set_cons_succ]
    have HF8 := Lib.hid (HF7.out.later hb)
    clear hb
    clear e0 e1 e2 e3 e4 e5 e6 e7 o0 o1 o2 o3 o4 o5 o6 o7 p0 p1 p2 p3 p4 p5 p6 p7 q0 q1 q2 q3 q4 q5 q6 q7
    repeat (first | (refine wpO_F (v := ?_) rfl (by rfl) (fun w' hL => ?_) ?_; rotate_left; (solve | (go_simp; with_reducible rfl) | go_simp); try simp only [Act.put, List.setIfInBounds_toArray, List.set_cons_zero, List.set_cons_succ]) | (refine wpO_G rfl (by rfl) ?_; try simp only [Act.put, List.setIfInBounds_toArray, List.set_cons_zero, List.set_cons_succ]))
    refine wpO_C rfl (by rfl) ?_
    go_simp
    refine (HRs.out _).mono ?_
    rintro e v9 ⟨rfl, hb⟩
    refine ⟨hb, ?_⟩
    try simp only [Act.put, List.setIfInBounds_toArray, List.set_cons_zero, List.set_cons_succ]
    have HF9 := Lib.hid (HF8.out.later hb)
    clear hb
    repeat (first | (refine wpO_F (v := ?_) rfl (by rfl) (fun w' hL => ?_) ?_; rotate_left; (solve | (go_simp; with_reducible rfl) | go_simp); try simp only [Act.put, List.setIfInBounds_toArray, List.set_cons_zero, List.set_cons_succ]) | (refine wpO_G rfl (by rfl) ?_; try simp only [Act.put, List.setIfInBounds_toArray, List.set_cons_zero, List.set_cons_succ]))
    refine wpO_C rfl (by rfl) ?_
    go_simp
    refine (HRq.out _).mono ?_
    rintro e v10 ⟨rfl, hb⟩
    refine ⟨hb, ?_⟩
    try simp only [Act.put, List.setIfInBounds_toArray, List.set_cons_zero, List.set_cons_succ]
    have HF10 := Lib.hid (HF9.out.later hb)
    clear hb
    repeat (first | (refine wpO_F (v := ?_) rfl (by rfl) (fun w' hL => ?_) ?_; rotate_left; (solve | (go_simp; with_reducible rfl) | go_simp); try simp only [Act.put, List.setIfInBounds_toArray, List.set_cons_zero, List.set_cons_succ]) | (refine wpO_G rfl (by rfl) ?_; try simp only [Act.put, List.setIfInBounds_toArray, List.set_cons_zero, List.set_cons_succ]))
    refine wpO_nil ?_
    go_wp2
    go_ret
    exact ⟨ret_b (by first | rfl | simp), HF10.out.base.bel⟩
  have n1 : decide ((dx : Int) ≤ 20) = true := by simp; omega
  have n2 : dx ≤ 20 := hx20
  clear hrd hx20
  by_cases hy20 : dy ≤ 20
  · have n5 : decide ((dy : Int) ≤ 20) = true := by simp; omega
    have n3 : sm = em := by rw [hsr]; simp [n2, hy20]
    subst n3
    clear hsr hy20
    cases rx
    · skip
      obtain ⟨p0, p1, p2, p3, p4, p5, p6, p7⟩ := HF2.out.t7
      go_wp2_with fail
      refine (HDp.out p _ HPt.out HF2.out.a7).mono ?_
      rintro e v3 ⟨rfl, hb⟩
      have HF3 := Lib.hid (HF2.out.later hb)
      clear hb p0 p1 p2 p3 p4 p5 p6 p7
      obtain ⟨q0, q1, q2, q3, q4, q5, q6, q7⟩ := HF3.out.t8
      go_wp2_with fail
      refine (HDq.out q _ HQt.out HF3.out.a8).mono ?_
      rintro e v4 ⟨rfl, hb⟩
      have HF4 := Lib.hid (HF3.out.later hb)
      clear hb q0 q1 q2 q3 q4 q5 q6 q7
      go_wp2_with fail
      refine wp_region_ord [(0, false), (1, true), (2, true), (4, true), (3, false), (5, true), (6, true), (7, true), (8, true), (9, true), (10, true), (11, true), (12, true), (13, true), (14, true), (15, true), (16, true), (17, true), (18, true), (19, true), (20, true), (21, true), (22, true), (23, true), (24, true), (25, true), (26, true), (28, true), (27, false), (29, false), (30, true), (31, true), (32, true), (33, true), (34, true), (36, true), (35, false), (37, true), (38, true), (39, true), (40, false), (41, true), (42, true), (43, true), (44, true), (45, true), (47, true), (46, false), (48, false), (49, true), (50, true), (51, true)] (by kernel_rfl) (by kernel_rfl) (by kernel_rfl) (by kernel_rfl) ?_
      repeat (first | (refine wpO_F (v := ?_) rfl (by rfl) (fun w' hL => ?_) ?_; rotate_left; (solve | (go_simp; with_reducible rfl) | go_simp); try simp only [Act.put, List.setIfInBounds_toArray, List.set_cons_zero, List.set_cons_succ]) | (refine wpO_G rfl (by rfl) ?_; try simp only [Act.put, List.setIfInBounds_toArray, List.set_cons_zero, List.set_cons_succ]))
      refine wpO_C rfl (by rfl) ?_
      go_simp
      refine (HAl.out _ HF4.out.base.bel.drew).mono ?_
      rintro e v5 ⟨rfl, hb⟩
      refine ⟨hb, ?_⟩
      try simp only [Act.put, List.setIfInBounds_toArray, List.set_cons_zero, List.set_cons_succ]
      have HF5 := Lib.hid (HF4.out.later ((Below.refl _ v4).drew.trans hb))
      clear hb
      have e0 : ∀ V, Later v5 V → V.cell? ⟨w.heap.size, 0, none⟩ = some (.int .i64 x.t.lab.kd) := fun V hV => (HF5.out.base.e.later HF5.out.base.lt.1 hV).c0
      have e1 : ∀ V, Later v5 V → V.cell? ⟨w.heap.size, 1, none⟩ = some (.int .u8 x.t.lab.v.k) := fun V hV => (HF5.out.base.e.later HF5.out.base.lt.1 hV).c1
      have e2 : ∀ V, Later v5 V → V.cell? ⟨w.heap.size, 2, none⟩ = some (.int .i64 x.t.lab.v.n) := fun V hV => (HF5.out.base.e.later HF5.out.base.lt.1 hV).c2
      have e3 : ∀ V, Later v5 V → V.cell? ⟨w.heap.size, 3, none⟩ = some (.string x.t.lab.v.s) := fun V hV => (HF5.out.base.e.later HF5.out.base.lt.1 hV).c3
      have e4 : ∀ V, Later v5 V → V.cell? ⟨w.heap.size, 4, none⟩ = some (.string x.t.lab.tb) := fun V hV => (HF5.out.base.e.later HF5.out.base.lt.1 hV).c4
      have e5 : ∀ V, Later v5 V → V.cell? ⟨w.heap.size, 5, none⟩ = some (.string x.t.lab.nm) := fun V hV => (HF5.out.base.e.later HF5.out.base.lt.1 hV).c5
      have e6 : ∀ V, Later v5 V → V.cell? ⟨w.heap.size, 6, none⟩ = some (.string x.t.lab.op) := fun V hV => (HF5.out.base.e.later HF5.out.base.lt.1 hV).c6
      have e7 : ∀ V, Later v5 V → V.cell? ⟨w.heap.size, 7, none⟩ = some (.slice x.a x.t.args.length x.cap) := fun V hV => (HF5.out.base.e.later HF5.out.base.lt.1 hV).c7
      repeat (first | (refine wpO_F (v := ?_) rfl (by rfl) (fun w' hL => ?_) ?_; rotate_left; (solve | (go_simp; with_reducible rfl) | go_simp); try simp only [Act.put, List.setIfInBounds_toArray, List.set_cons_zero, List.set_cons_succ]) | (refine wpO_G rfl (by rfl) ?_; try simp only [Act.put, List.setIfInBounds_toArray, List.set_cons_zero, List.set_cons_succ]))
      refine wpO_C rfl (by rfl) ?_
      go_simp
      refine (HRe.out _ HF5.out.base.xat).mono ?_
      rintro e v6 ⟨rfl, hb⟩
      refine ⟨hb, ?_⟩
      try simp only [Act.put, List.setIfInBounds_toArray, List.set_cons_zero, List.set_cons_succ]
      have HF6 := Lib.hid (HF5.out.later hb)
      clear hb
      clear e0 e1 e2 e3 e4 e5 e6 e7
      have e0 : ∀ V, Later v6 V → V.cell? ⟨w.heap.size, 0, none⟩ = some (.int .i64 x.t.lab.kd) := fun V hV => (HF6.out.base.e.later HF6.out.base.lt.1 hV).c0
      have e1 : ∀ V, Later v6 V → V.cell? ⟨w.heap.size, 1, none⟩ = some (.int .u8 x.t.lab.v.k) := fun V hV => (HF6.out.base.e.later HF6.out.base.lt.1 hV).c1
      have e2 : ∀ V, Later v6 V → V.cell? ⟨w.heap.size, 2, none⟩ = some (.int .i64 x.t.lab.v.n) := fun V hV => (HF6.out.base.e.later HF6.out.base.lt.1 hV).c2
      have e3 : ∀ V, Later v6 V → V.cell? ⟨w.heap.size, 3, none⟩ = some (.string x.t.lab.v.s) := fun V hV => (HF6.out.base.e.later HF6.out.base.lt.1 hV).c3
      have e4 : ∀ V, Later v6 V → V.cell? ⟨w.heap.size, 4, none⟩ = some (.string x.t.lab.tb) := fun V hV => (HF6.out.base.e.later HF6.out.base.lt.1 hV).c4
      have e5 : ∀ V, Later v6 V → V.cell? ⟨w.heap.size, 5, none⟩ = some (.string x.t.lab.nm) := fun V hV => (HF6.out.base.e.later HF6.out.base.lt.1 hV).c5
      have e6 : ∀ V, Later v6 V → V.cell? ⟨w.heap.size, 6, none⟩ = some (.string x.t.lab.op) := fun V hV => (HF6.out.base.e.later HF6.out.base.lt.1 hV).c6
      have e7 : ∀ V, Later v6 V → V.cell? ⟨w.heap.size, 7, none⟩ = some (.slice x.a x.t.args.length x.cap) := fun V hV => (HF6.out.base.e.later HF6.out.base.lt.1 hV).c7
      have p0 : ∀ V, Later v6 V → V.cell? ⟨g1, 0, none⟩ = some (.int .i64 p.t.lab.kd) := fun V hV => (HF6.out.t7.later HF6.out.g7 hV).c0
      have p1 : ∀ V, Later v6 V → V.cell? ⟨g1, 1, none⟩ = some (.int .u8 p.t.lab.v.k) := fun V hV => (HF6.out.t7.later HF6.out.g7 hV).c1
      have p2 : ∀ V, Later v6 V → V.cell? ⟨g1, 2, none⟩ = some (.int .i64 p.t.lab.v.n) := fun V hV => (HF6.out.t7.later HF6.out.g7 hV).c2
      have p3 : ∀ V, Later v6 V → V.cell? ⟨g1, 3, none⟩ = some (.string p.t.lab.v.s) := fun V hV => (HF6.out.t7.later HF6.out.g7 hV).c3
      have p4 : ∀ V, Later v6 V → V.cell? ⟨g1, 4, none⟩ = some (.string p.t.lab.tb) := fun V hV => (HF6.out.t7.later HF6.out.g7 hV).c4
      have p5 : ∀ V, Later v6 V → V.cell? ⟨g1, 5, none⟩ = some (.string p.t.lab.nm) := fun V hV => (HF6.out.t7.later HF6.out.g7 hV).c5
      have p6 : ∀ V, Later v6 V → V.cell? ⟨g1, 6, none⟩ = some (.string p.t.lab.op) := fun V hV => (HF6.out.t7.later HF6.out.g7 hV).c6
      have p7 : ∀ V, Later v6 V → V.cell? ⟨g1, 7, none⟩ = some (.slice p.a p.t.args.length p.cap) := fun V hV => (HF6.out.t7.later HF6.out.g7 hV).c7
      repeat (first | (refine wpO_F (v := ?_) rfl (by rfl) (fun w' hL => ?_) ?_; rotate_left; (solve | (go_simp; with_reducible rfl) | go_simp); try simp only [Act.put, List.setIfInBounds_toArray, List.set_cons_zero, List.set_cons_succ]) | (refine wpO_G rfl (by rfl) ?_; try simp only [Act.put, List.setIfInBounds_toArray, List.set_cons_zero, List.set_cons_succ]))
      refine wpO_C rfl (by rfl) ?_
      go_simp
      refine (HDe.out _ HF6.out.base.xat).mono ?_
      rintro e v7 ⟨rfl, hb⟩
      refine ⟨hb, ?_⟩
      try simp only [Act.put, List.setIfInBounds_toArray, List.set_cons_zero, List.set_cons_succ]
      have HF7 := Lib.hid (HF6.out.later hb)
      clear hb
      clear e0 e1 e2 e3 e4 e5 e6 e7 p0 p1 p2 p3 p4 p5 p6 p7
      have p0 : ∀ V, Later v7 V → V.cell? ⟨g1, 0, none⟩ = some (.int .i64 p.t.lab.kd) := fun V hV => (HF7.out.t7.later HF7.out.g7 hV).c0
      have p1 : ∀ V, Later v7 V → V.cell? ⟨g1, 1, none⟩ = some (.int .u8 p.t.lab.v.k) := fun V hV => (HF7.out.t7.later HF7.out.g7 hV).c1
      have p2 : ∀ V, Later v7 V → V.cell? ⟨g1, 2, none⟩ = some (.int .i64 p.t.lab.v.n) := fun V hV => (HF7.out.t7.later HF7.out.g7 hV).c2
      have p3 : ∀ V, Later v7 V → V.cell? ⟨g1, 3, none⟩ = some (.string p.t.lab.v.s) := fun V hV => (HF7.out.t7.later HF7.out.g7 hV).c3
      have p4 : ∀ V, Later v7 V → V.cell? ⟨g1, 4, none⟩ = some (.string p.t.lab.tb) := fun V hV => (HF7.out.t7.later HF7.out.g7 hV).c4
      have p5 : ∀ V, Later v7 V → V.cell? ⟨g1, 5, none⟩ = some (.string p.t.lab.nm) := fun V hV => (HF7.out.t7.later HF7.out.g7 hV).c5
      have p6 : ∀ V, Later v7 V → V.cell? ⟨g1, 6, none⟩ = some (.string p.t.lab.op) := fun V hV => (HF7.out.t7.later HF7.out.g7 hV).c6
      have p7 : ∀ V, Later v7 V → V.cell? ⟨g1, 7, none⟩ = some (.slice p.a p.t.args.length p.cap) := fun V hV => (HF7.out.t7.later HF7.out.g7 hV).c7
      repeat (first | (refine wpO_F (v := ?_) rfl (by rfl) (fun w' hL => ?_) ?_; rotate_left; (solve | (go_simp; with_reducible rfl) | go_simp); try simp only [Act.put, List.setIfInBounds_toArray, List.set_cons_zero, List.set_cons_succ]) | (refine wpO_G rfl (by rfl) ?_; try simp only [Act.put, List.setIfInBounds_toArray, List.set_cons_zero, List.set_cons_succ]))
      refine wpO_C rfl (by rfl) ?_
      go_simp
      refine (HDp.out p _ HPt.out HF7.out.a7).mono ?_
      rintro e v8 ⟨rfl, hb⟩
      refine ⟨hb, ?_⟩
      try simp only [Act.put, List.setIfInBounds_toArray, List.set_cons_zero, List.set_cons_succ]
      have HF8 := Lib.hid (HF7.out.later hb)
      clear hb
      clear p0 p1 p2 p3 p4 p5 p6 p7
      have e0 : ∀ V, Later v8 V → V.cell? ⟨w.heap.size, 0, none⟩ = some (.int .i64 x.t.lab.kd) := fun V hV => (HF8.out.base.e.later HF8.out.base.lt.1 hV).c0
      have e1 : ∀ V, Later v8 V → V.cell? ⟨w.heap.size, 1, none⟩ = some (.int .u8 x.t.lab.v.k) := fun V hV => (HF8.out.base.e.later HF8.out.base.lt.1 hV).c1
      have e2 : ∀ V, Later v8 V → V.cell? ⟨w.heap.size, 2, none⟩ = some (.int .i64 x.t.lab.v.n) := fun V hV => (HF8.out.base.e.later HF8.out.base.lt.1 hV).c2
      have e3 : ∀ V, Later v8 V → V.cell? ⟨w.heap.size, 3, none⟩ = some (.string x.t.lab.v.s) := fun V hV => (HF8.out.base.e.later HF8.out.base.lt.1 hV).c3
      have e4 : ∀ V, Later v8 V → V.cell? ⟨w.heap.size, 4, none⟩ = some (.string x.t.lab.tb) := fun V hV => (HF8.out.base.e.later HF8.out.base.lt.1 hV).c4
      have e5 : ∀ V, Later v8 V → V.cell? ⟨w.heap.size, 5, none⟩ = some (.string x.t.lab.nm) := fun V hV => (HF8.out.base.e.later HF8.out.base.lt.1 hV).c5
      have e6 : ∀ V, Later v8 V → V.cell? ⟨w.heap.size, 6, none⟩ = some (.string x.t.lab.op) := fun V hV => (HF8.out.base.e.later HF8.out.base.lt.1 hV).c6
      have e7 : ∀ V, Later v8 V → V.cell? ⟨w.heap.size, 7, none⟩ = some (.slice x.a x.t.args.length x.cap) := fun V hV => (HF8.out.base.e.later HF8.out.base.lt.1 hV).c7
      have o0 : ∀ V, Later v8 V → V.cell? ⟨w.heap.size + 1, 0, none⟩ = some (.int .i64 y.t.lab.kd) := fun V hV => (HF8.out.base.o.later HF8.out.base.lt.2 hV).c0
      have o1 : ∀ V, Later v8 V → V.cell? ⟨w.heap.size + 1, 1, none⟩ = some (.int .u8 y.t.lab.v.k) := fun V hV => (HF8.out.base.o.later HF8.out.base.lt.2 hV).c1
      have o2 : ∀ V, Later v8 V → V.cell? ⟨w.heap.size + 1, 2, none⟩ = some (.int .i64 y.t.lab.v.n) := fun V hV => (HF8.out.base.o.later HF8.out.base.lt.2 hV).c2
      have o3 : ∀ V, Later v8 V → V.cell? ⟨w.heap.size + 1, 3, none⟩ = some (.string y.t.lab.v.s) := fun V hV => (HF8.out.base.o.later HF8.out.base.lt.2 hV).c3
      have o4 : ∀ V, Later v8 V → V.cell? ⟨w.heap.size + 1, 4, none⟩ = some (.string y.t.lab.tb) := fun V hV => (HF8.out.base.o.later HF8.out.base.lt.2 hV).c4
      have o5 : ∀ V, Later v8 V → V.cell? ⟨w.heap.size + 1, 5, none⟩ = some (.string y.t.lab.nm) := fun V hV => (HF8.out.base.o.later HF8.out.base.lt.2 hV).c5
      have o6 : ∀ V, Later v8 V → V.cell? ⟨w.heap.size + 1, 6, none⟩ = some (.string y.t.lab.op) := fun V hV => (HF8.out.base.o.later HF8.out.base.lt.2 hV).c6
      have o7 : ∀ V, Later v8 V → V.cell? ⟨w.heap.size + 1, 7, none⟩ = some (.slice y.a y.t.args.length y.cap) := fun V hV => (HF8.out.base.o.later HF8.out.base.lt.2 hV).c7
      have p0 : ∀ V, Later v8 V → V.cell? ⟨g1, 0, none⟩ = some (.int .i64 p.t.lab.kd) := fun V hV => (HF8.out.t7.later HF8.out.g7 hV).c0
      have p1 : ∀ V, Later v8 V → V.cell? ⟨g1, 1, none⟩ = some (.int .u8 p.t.lab.v.k) := fun V hV => (HF8.out.t7.later HF8.out.g7 hV).c1
      have p2 : ∀ V, Later v8 V → V.cell? ⟨g1, 2, none⟩ = some (.int .i64 p.t.lab.v.n) := fun V hV => (HF8.out.t7.later HF8.out.g7 hV).c2
      have p3 : ∀ V, Later v8 V → V.cell? ⟨g1, 3, none⟩ = some (.string p.t.lab.v.s) := fun V hV => (HF8.out.t7.later HF8.out.g7 hV).c3
      have p4 : ∀ V, Later v8 V → V.cell? ⟨g1, 4, none⟩ = some (.string p.t.lab.tb) := fun V hV => (HF8.out.t7.later HF8.out.g7 hV).c4
      have p5 : ∀ V, Later v8 V → V.cell? ⟨g1, 5, none⟩ = some (.string p.t.lab.nm) := fun V hV => (HF8.out.t7.later HF8.out.g7 hV).c5
      have p6 : ∀ V, Later v8 V → V.cell? ⟨g1, 6, none⟩ = some (.string p.t.lab.op) := fun V hV => (HF8.out.t7.later HF8.out.g7 hV).c6
      have p7 : ∀ V, Later v8 V → V.cell? ⟨g1, 7, none⟩ = some (.slice p.a p.t.args.length p.cap) := fun V hV => (HF8.out.t7.later HF8.out.g7 hV).c7
      have q0 : ∀ V, Later v8 V → V.cell? ⟨h1, 0, none⟩ = some (.int .i64 q.t.lab.kd) := fun V hV => (HF8.out.t8.later HF8.out.g8 hV).c0
      have q1 : ∀ V, Later v8 V → V.cell? ⟨h1, 1, none⟩ = some (.int .u8 q.t.lab.v.k) := fun V hV => (HF8.out.t8.later HF8.out.g8 hV).c1
      have q2 : ∀ V, Later v8 V → V.cell? ⟨h1, 2, none⟩ = some (.int .i64 q.t.lab.v.n) := fun V hV => (HF8.out.t8.later HF8.out.g8 hV).c2
      have q3 : ∀ V, Later v8 V → V.cell? ⟨h1, 3, none⟩ = some (.string q.t.lab.v.s) := fun V hV => (HF8.out.t8.later HF8.out.g8 hV).c3
      have q4 : ∀ V, Later v8 V → V.cell? ⟨h1, 4, none⟩ = some (.string q.t.lab.tb) := fun V hV => (HF8.out.t8.later HF8.out.g8 hV).c4
      have q5 : ∀ V, Later v8 V → V.cell? ⟨h1, 5, none⟩ = some (.string q.t.lab.nm) := fun V hV => (HF8.out.t8.later HF8.out.g8 hV).c5
      have q6 : ∀ V, Later v8 V → V.cell? ⟨h1, 6, none⟩ = some (.string q.t.lab.op) := fun V hV => (HF8.out.t8.later HF8.out.g8 hV).c6
      have q7 : ∀ V, Later v8 V → V.cell? ⟨h1, 7, none⟩ = some (.slice q.a q.t.args.length q.cap) := fun V hV => (HF8.out.t8.later HF8.out.g8 hV).c7
      repeat (first | (refine wpO_F (v := ?_) rfl (by rfl) (fun w' hL => ?_) ?_; rotate_left; (solve | (go_simp; with_reducible rfl) | go_simp); try simp only [Act.put, List.setIfInBounds_toArray, List.set_cons_zero, List.set_cons_succ]) | (refine wpO_G rfl (by rfl) ?_; try simp only [Act.put, List.setIfInBounds_toArray, List.set_cons_zero, List.set_cons_succ]))
      refine wpO_C rfl (by rfl) ?_
      go_simp
      refine (HSm.out _ HF8.out.base.xat HF8.out.base.yat).mono ?_
      rintro e v9 ⟨rfl, hb⟩
      refine ⟨hb, ?_⟩
      try simp only [Act.put, List.setIfInBounds_toArray, List.set_cons_zero, List.set_cons_succ]
      have HF9 := Lib.hid (HF8.out.later hb)
      clear hb
      clear e0 e1 e2 e3 e4 e5 e6 e7 o0 o1 o2 o3 o4 o5 o6 o7 p0 p1 p2 p3 p4 p5 p6 p7 q0 q1 q2 q3 q4 q5 q6 q7
      have p0 : ∀ V, Later v9 V → V.cell? ⟨g1, 0, none⟩ = some (.int .i64 p.t.lab.kd) := fun V hV => (HF9.out.t7.later HF9.out.g7 hV).c0
      have p1 : ∀ V, Later v9 V → V.cell? ⟨g1, 1, none⟩ = some (.int .u8 p.t.lab.v.k) := fun V hV => (HF9.out.t7.later HF9.out.g7 hV).c1
      have p2 : ∀ V, Later v9 V → V.cell? ⟨g1, 2, none⟩ = some (.int .i64 p.t.lab.v.n) := fun V hV => (HF9.out.t7.later HF9.out.g7 hV).c2
      have p3 : ∀ V, Later v9 V → V.cell? ⟨g1, 3, none⟩ = some (.string p.t.lab.v.s) := fun V hV => (HF9.out.t7.later HF9.out.g7 hV).c3
      have p4 : ∀ V, Later v9 V → V.cell? ⟨g1, 4, none⟩ = some (.string p.t.lab.tb) := fun V hV => (HF9.out.t7.later HF9.out.g7 hV).c4
      have p5 : ∀ V, Later v9 V → V.cell? ⟨g1, 5, none⟩ = some (.string p.t.lab.nm) := fun V hV => (HF9.out.t7.later HF9.out.g7 hV).c5
      have p6 : ∀ V, Later v9 V → V.cell? ⟨g1, 6, none⟩ = some (.string p.t.lab.op) := fun V hV => (HF9.out.t7.later HF9.out.g7 hV).c6
      have p7 : ∀ V, Later v9 V → V.cell? ⟨g1, 7, none⟩ = some (.slice p.a p.t.args.length p.cap) := fun V hV => (HF9.out.t7.later HF9.out.g7 hV).c7
      have q0 : ∀ V, Later v9 V → V.cell? ⟨h1, 0, none⟩ = some (.int .i64 q.t.lab.kd) := fun V hV => (HF9.out.t8.later HF9.out.g8 hV).c0
      have q1 : ∀ V, Later v9 V → V.cell? ⟨h1, 1, none⟩ = some (.int .u8 q.t.lab.v.k) := fun V hV => (HF9.out.t8.later HF9.out.g8 hV).c1
      have q2 : ∀ V, Later v9 V → V.cell? ⟨h1, 2, none⟩ = some (.int .i64 q.t.lab.v.n) := fun V hV => (HF9.out.t8.later HF9.out.g8 hV).c2
      have q3 : ∀ V, Later v9 V → V.cell? ⟨h1, 3, none⟩ = some (.string q.t.lab.v.s) := fun V hV => (HF9.out.t8.later HF9.out.g8 hV).c3
      have q4 : ∀ V, Later v9 V → V.cell? ⟨h1, 4, none⟩ = some (.string q.t.lab.tb) := fun V hV => (HF9.out.t8.later HF9.out.g8 hV).c4
      have q5 : ∀ V, Later v9 V → V.cell? ⟨h1, 5, none⟩ = some (.string q.t.lab.nm) := fun V hV => (HF9.out.t8.later HF9.out.g8 hV).c5
      have q6 : ∀ V, Later v9 V → V.cell? ⟨h1, 6, none⟩ = some (.string q.t.lab.op) := fun V hV => (HF9.out.t8.later HF9.out.g8 hV).c6
      have q7 : ∀ V, Later v9 V → V.cell? ⟨h1, 7, none⟩ = some (.slice q.a q.t.args.length q.cap) := fun V hV => (HF9.out.t8.later HF9.out.g8 hV).c7
      repeat (first | (refine wpO_F (v := ?_) rfl (by rfl) (fun w' hL => ?_) ?_; rotate_left; (solve | (go_simp; with_reducible rfl) | go_simp); try simp only [Act.put, List.setIfInBounds_toArray, List.set_cons_zero, List.set_cons_succ]) | (refine wpO_G rfl (by rfl) ?_; try simp only [Act.put, List.setIfInBounds_toArray, List.set_cons_zero, List.set_cons_succ]))
      refine wpO_C rfl (by rfl) ?_
      go_simp
      refine (HSr.out p q _ HPt.out HQt.out HF9.out.a7 HF9.out.a8).mono ?_
      rintro e v10 ⟨rfl, hb⟩
      refine ⟨hb, ?_⟩
      try simp only [Act.put, List.setIfInBounds_toArray, List.set_cons_zero, List.set_cons_succ]
      have HF10 := Lib.hid (HF9.out.later hb)
      clear hb
      clear p0 p1 p2 p3 p4 p5 p6 p7 q0 q1 q2 q3 q4 q5 q6 q7
      repeat (first | (refine wpO_F (v := ?_) rfl (by rfl) (fun w' hL => ?_) ?_; rotate_left; (solve | (go_simp; with_reducible rfl) | go_simp); try simp only [Act.put, List.setIfInBounds_toArray, List.set_cons_zero, List.set_cons_succ]) | (refine wpO_G rfl (by rfl) ?_; try simp only [Act.put, List.setIfInBounds_toArray, List.set_cons_zero, List.set_cons_succ]))
      refine wpO_C rfl (by rfl) ?_
      go_simp
      refine (HRs.out _).mono ?_
      rintro e v11 ⟨rfl, hb⟩
      refine ⟨hb, ?_⟩
      try simp only [Act.put, List.setIfInBounds_toArray, List.set_cons_zero, List.set_cons_succ]
      have HF11 := Lib.hid (HF10.out.later hb)
      clear hb
      repeat (first | (refine wpO_F (v := ?_) rfl (by rfl) (fun w' hL => ?_) ?_; rotate_left; (solve | (go_simp; with_reducible rfl) | go_simp); try simp only [Act.put, List.setIfInBounds_toArray, List.set_cons_zero, List.set_cons_succ]) | (refine wpO_G rfl (by rfl) ?_; try simp only [Act.put, List.setIfInBounds_toArray, List.set_cons_zero, List.set_cons_succ]))
      refine wpO_C rfl (by rfl) ?_
      go_simp
      refine (HRq.out _).mono ?_
      rintro e v12 ⟨rfl, hb⟩
      refine ⟨hb, ?_⟩
      try simp only [Act.put, List.setIfInBounds_toArray, List.set_cons_zero, List.set_cons_succ]
      have HF12 := Lib.hid (HF11.out.later hb)
      clear hb
      repeat (first | (refine wpO_F (v := ?_) rfl (by rfl) (fun w' hL => ?_) ?_; rotate_left; (solve | (go_simp; with_reducible rfl) | go_simp); try simp only [Act.put, List.setIfInBounds_toArray, List.set_cons_zero, List.set_cons_succ]) | (refine wpO_G rfl (by rfl) ?_; try simp only [Act.put, List.setIfInBounds_toArray, List.set_cons_zero, List.set_cons_succ]))
      refine wpO_nil ?_
      go_wp2
      go_ret
      exact ⟨ret_b (by first | rfl | simp), HF12.out.base.bel⟩
    · skip
      obtain ⟨p0, p1, p2, p3, p4, p5, p6, p7⟩ := HF2.out.t7
      go_wp2_with fail
      refine (HWr.out (by trivial) p _ HPt.out HF2.out.a7).mono ?_
      rintro e v3 ⟨rfl, hb⟩
      have HF3 := Lib.hid (HF2.out.later hb)
      clear hb p0 p1 p2 p3 p4 p5 p6 p7
      obtain ⟨p0, p1, p2, p3, p4, p5, p6, p7⟩ := HF3.out.t7
      go_wp2_with fail
      refine (HDp.out p _ HPt.out HF3.out.a7).mono ?_
      rintro e v4 ⟨rfl, hb⟩
      have HF4 := Lib.hid (HF3.out.later hb)
      clear hb p0 p1 p2 p3 p4 p5 p6 p7
      obtain ⟨q0, q1, q2, q3, q4, q5, q6, q7⟩ := HF4.out.t8
      go_wp2_with fail
      refine (HDq.out q _ HQt.out HF4.out.a8).mono ?_
      rintro e v5 ⟨rfl, hb⟩
      have HF5 := Lib.hid (HF4.out.later hb)
      clear hb q0 q1 q2 q3 q4 q5 q6 q7
      go_wp2_with fail
      refine wp_region_ord [(0, false), (1, true), (2, true), (4, true), (3, false), (5, true), (6, true), (7, true), (8, true), (9, true), (10, true), (11, true), (12, true), (13, true), (14, true), (15, true), (16, true), (17, true), (18, true), (19, true), (20, true), (21, true), (22, true), (23, true), (24, true), (25, true), (26, true), (28, true), (27, false), (29, false), (30, true), (31, true), (32, true), (33, true), (34, true), (36, true), (35, false), (37, true), (38, true), (39, true), (40, false), (41, true), (42, true), (43, true), (44, true), (45, true), (47, true), (46, false), (48, false), (49, true), (50, true), (51, true)] (by kernel_rfl) (by kernel_rfl) (by kernel_rfl) (by kernel_rfl) ?_
      repeat (first | (refine wpO_F (v := ?_) rfl (by rfl) (fun w' hL => ?_) ?_; rotate_left; (solve | (go_simp; with_reducible rfl) | go_simp); try simp only [Act.put, List.setIfInBounds_toArray, List.set_cons_zero, List.set_cons_succ]) | (refine wpO_G rfl (by rfl) ?_; try simp only [Act.put, List.setIfInBounds_toArray, List.set_cons_zero, List.set_cons_succ]))
      refine wpO_C rfl (by rfl) ?_
      go_simp
      refine (HAl.out _ HF5.out.base.bel.drew).mono ?_
      rintro e v6 ⟨rfl, hb⟩
      refine ⟨hb, ?_⟩
      try simp only [Act.put, List.setIfInBounds_toArray, List.set_cons_zero, List.set_cons_succ]
      have HF6 := Lib.hid (HF5.out.later ((Below.refl _ v5).drew.trans hb))
      clear hb
      have e0 : ∀ V, Later v6 V → V.cell? ⟨w.heap.size, 0, none⟩ = some (.int .i64 x.t.lab.kd) := fun V hV => (HF6.out.base.e.later HF6.out.base.lt.1 hV).c0
      have e1 : ∀ V, Later v6 V → V.cell? ⟨w.heap.size, 1, none⟩ = some (.int .u8 x.t.lab.v.k) := fun V hV => (HF6.out.base.e.later HF6.out.base.lt.1 hV).c1
      have e2 : ∀ V, Later v6 V → V.cell? ⟨w.heap.size, 2, none⟩ = some (.int .i64 x.t.lab.v.n) := fun V hV => (HF6.out.base.e.later HF6.out.base.lt.1 hV).c2
      have e3 : ∀ V, Later v6 V → V.cell? ⟨w.heap.size, 3, none⟩ = some (.string x.t.lab.v.s) := fun V hV => (HF6.out.base.e.later HF6.out.base.lt.1 hV).c3
      have e4 : ∀ V, Later v6 V → V.cell? ⟨w.heap.size, 4, none⟩ = some (.string x.t.lab.tb) := fun V hV => (HF6.out.base.e.later HF6.out.base.lt.1 hV).c4
      have e5 : ∀ V, Later v6 V → V.cell? ⟨w.heap.size, 5, none⟩ = some (.string x.t.lab.nm) := fun V hV => (HF6.out.base.e.later HF6.out.base.lt.1 hV).c5
      have e6 : ∀ V, Later v6 V → V.cell? ⟨w.heap.size, 6, none⟩ = some (.string x.t.lab.op) := fun V hV => (HF6.out.base.e.later HF6.out.base.lt.1 hV).c6
      have e7 : ∀ V, Later v6 V → V.cell? ⟨w.heap.size, 7, none⟩ = some (.slice x.a x.t.args.length x.cap) := fun V hV => (HF6.out.base.e.later HF6.out.base.lt.1 hV).c7
      repeat (first | (refine wpO_F (v := ?_) rfl (by rfl) (fun w' hL => ?_) ?_; rotate_left; (solve | (go_simp; with_reducible rfl) | go_simp); try simp only [Act.put, List.setIfInBounds_toArray, List.set_cons_zero, List.set_cons_succ]) | (refine wpO_G rfl (by rfl) ?_; try simp only [Act.put, List.setIfInBounds_toArray, List.set_cons_zero, List.set_cons_succ]))
      refine wpO_C rfl (by rfl) ?_
      go_simp
      refine (HRe.out _ HF6.out.base.xat).mono ?_
      rintro e v7 ⟨rfl, hb⟩
      refine ⟨hb, ?_⟩
      try simp only [Act.put, List.setIfInBounds_toArray, List.set_cons_zero, List.set_cons_succ]
      have HF7 := Lib.hid (HF6.out.later hb)
      clear hb
      clear e0 e1 e2 e3 e4 e5 e6 e7
      have e0 : ∀ V, Later v7 V → V.cell? ⟨w.heap.size, 0, none⟩ = some (.int .i64 x.t.lab.kd) := fun V hV => (HF7.out.base.e.later HF7.out.base.lt.1 hV).c0
      have e1 : ∀ V, Later v7 V → V.cell? ⟨w.heap.size, 1, none⟩ = some (.int .u8 x.t.lab.v.k) := fun V hV => (HF7.out.base.e.later HF7.out.base.lt.1 hV).c1
      have e2 : ∀ V, Later v7 V → V.cell? ⟨w.heap.size, 2, none⟩ = some (.int .i64 x.t.lab.v.n) := fun V hV => (HF7.out.base.e.later HF7.out.base.lt.1 hV).c2
      have e3 : ∀ V, Later v7 V → V.cell? ⟨w.heap.size, 3, none⟩ = some (.string x.t.lab.v.s) := fun V hV => (HF7.out.base.e.later HF7.out.base.lt.1 hV).c3
      have e4 : ∀ V, Later v7 V → V.cell? ⟨w.heap.size, 4, none⟩ = some (.string x.t.lab.tb) := fun V hV => (HF7.out.base.e.later HF7.out.base.lt.1 hV).c4
      have e5 : ∀ V, Later v7 V → V.cell? ⟨w.heap.size, 5, none⟩ = some (.string x.t.lab.nm) := fun V hV => (HF7.out.base.e.later HF7.out.base.lt.1 hV).c5
      have e6 : ∀ V, Later v7 V → V.cell? ⟨w.heap.size, 6, none⟩ = some (.string x.t.lab.op) := fun V hV => (HF7.out.base.e.later HF7.out.base.lt.1 hV).c6
      have e7 : ∀ V, Later v7 V → V.cell? ⟨w.heap.size, 7, none⟩ = some (.slice x.a x.t.args.length x.cap) := fun V hV => (HF7.out.base.e.later HF7.out.base.lt.1 hV).c7
      have p0 : ∀ V, Later v7 V → V.cell? ⟨g1, 0, none⟩ = some (.int .i64 p.t.lab.kd) := fun V hV => (HF7.out.t7.later HF7.out.g7 hV).c0
      have p1 : ∀ V, Later v7 V → V.cell? ⟨g1, 1, none⟩ = some (.int .u8 p.t.lab.v.k) := fun V hV => (HF7.out.t7.later HF7.out.g7 hV).c1
      have p2 : ∀ V, Later v7 V → V.cell? ⟨g1, 2, none⟩ = some (.int .i64 p.t.lab.v.n) := fun V hV => (HF7.out.t7.later HF7.out.g7 hV).c2
      have p3 : ∀ V, Later v7 V → V.cell? ⟨g1, 3, none⟩ = some (.string p.t.lab.v.s) := fun V hV => (HF7.out.t7.later HF7.out.g7 hV).c3
      have p4 : ∀ V, Later v7 V → V.cell? ⟨g1, 4, none⟩ = some (.string p.t.lab.tb) := fun V hV => (HF7.out.t7.later HF7.out.g7 hV).c4
      have p5 : ∀ V, Later v7 V → V.cell? ⟨g1, 5, none⟩ = some (.string p.t.lab.nm) := fun V hV => (HF7.out.t7.later HF7.out.g7 hV).c5
      have p6 : ∀ V, Later v7 V → V.cell? ⟨g1, 6, none⟩ = some (.string p.t.lab.op) := fun V hV => (HF7.out.t7.later HF7.out.g7 hV).c6
      have p7 : ∀ V, Later v7 V → V.cell? ⟨g1, 7, none⟩ = some (.slice p.a p.t.args.length p.cap) := fun V hV => (HF7.out.t7.later HF7.out.g7 hV).c7
      repeat (first | (refine wpO_F (v := ?_) rfl (by rfl) (fun w' hL => ?_) ?_; rotate_left; (solve | (go_simp; with_reducible rfl) | go_simp); try simp only [Act.put, List.setIfInBounds_toArray, List.set_cons_zero, List.set_cons_succ]) | (refine wpO_G rfl (by rfl) ?_; try simp only [Act.put, List.setIfInBounds_toArray, List.set_cons_zero, List.set_cons_succ]))
      refine wpO_C rfl (by rfl) ?_
      go_simp
      refine (HDe.out _ HF7.out.base.xat).mono ?_
      rintro e v8 ⟨rfl, hb⟩
      refine ⟨hb, ?_⟩
      try simp only [Act.put, List.setIfInBounds_toArray, List.set_cons_zero, List.set_cons_succ]
      have HF8 := Lib.hid (HF7.out.later hb)
      clear hb
      clear e0 e1 e2 e3 e4 e5 e6 e7 p0 p1 p2 p3 p4 p5 p6 p7
      have p0 : ∀ V, Later v8 V → V.cell? ⟨g1, 0, none⟩ = some (.int .i64 p.t.lab.kd) := fun V hV => (HF8.out.t7.later HF8.out.g7 hV).c0
      have p1 : ∀ V, Later v8 V → V.cell? ⟨g1, 1, none⟩ = some (.int .u8 p.t.lab.v.k) := fun V hV => (HF8.out.t7.later HF8.out.g7 hV).c1
      have p2 : ∀ V, Later v8 V → V.cell? ⟨g1, 2, none⟩ = some (.int .i64 p.t.lab.v.n) := fun V hV => (HF8.out.t7.later HF8.out.g7 hV).c2
      have p3 : ∀ V, Later v8 V → V.cell? ⟨g1, 3, none⟩ = some (.string p.t.lab.v.s) := fun V hV => (HF8.out.t7.later HF8.out.g7 hV).c3
      have p4 : ∀ V, Later v8 V → V.cell? ⟨g1, 4, none⟩ = some (.string p.t.lab.tb) := fun V hV => (HF8.out.t7.later HF8.out.g7 hV).c4
      have p5 : ∀ V, Later v8 V → V.cell? ⟨g1, 5, none⟩ = some (.string p.t.lab.nm) := fun V hV => (HF8.out.t7.later HF8.out.g7 hV).c5
      have p6 : ∀ V, Later v8 V → V.cell? ⟨g1, 6, none⟩ = some (.string p.t.lab.op) := fun V hV => (HF8.out.t7.later HF8.out.g7 hV).c6
      have p7 : ∀ V, Later v8 V → V.cell? ⟨g1, 7, none⟩ = some (.slice p.a p.t.args.length p.cap) := fun V hV => (HF8.out.t7.later HF8.out.g7 hV).c7
      repeat (first | (refine wpO_F (v := ?_) rfl (by rfl) (fun w' hL => ?_) ?_; rotate_left; (solve | (go_simp; with_reducible rfl) | go_simp); try simp only [Act.put, List.setIfInBounds_toArray, List.set_cons_zero, List.set_cons_succ]) | (refine wpO_G rfl (by rfl) ?_; try simp only [Act.put, List.setIfInBounds_toArray, List.set_cons_zero, List.set_cons_succ]))
      refine wpO_C rfl (by rfl) ?_
      go_simp
      refine (HDp.out p _ HPt.out HF8.out.a7).mono ?_
      rintro e v9 ⟨rfl, hb⟩
      refine ⟨hb, ?_⟩
      try simp only [Act.put, List.setIfInBounds_toArray, List.set_cons_zero, List.set_cons_succ]
      have HF9 := Lib.hid (HF8.out.later hb)
      clear hb
      clear p0 p1 p2 p3 p4 p5 p6 p7
      have e0 : ∀ V, Later v9 V → V.cell? ⟨w.heap.size, 0, none⟩ = some (.int .i64 x.t.lab.kd) := fun V hV => (HF9.out.base.e.later HF9.out.base.lt.1 hV).c0
      have e1 : ∀ V, Later v9 V → V.cell? ⟨w.heap.size, 1, none⟩ = some (.int .u8 x.t.lab.v.k) := fun V hV => (HF9.out.base.e.later HF9.out.base.lt.1 hV).c1
      have e2 : ∀ V, Later v9 V → V.cell? ⟨w.heap.size, 2, none⟩ = some (.int .i64 x.t.lab.v.n) := fun V hV => (HF9.out.base.e.later HF9.out.base.lt.1 hV).c2
      have e3 : ∀ V, Later v9 V → V.cell? ⟨w.heap.size, 3, none⟩ = some (.string x.t.lab.v.s) := fun V hV => (HF9.out.base.e.later HF9.out.base.lt.1 hV).c3
      have e4 : ∀ V, Later v9 V → V.cell? ⟨w.heap.size, 4, none⟩ = some (.string x.t.lab.tb) := fun V hV => (HF9.out.base.e.later HF9.out.base.lt.1 hV).c4
      have e5 : ∀ V, Later v9 V → V.cell? ⟨w.heap.size, 5, none⟩ = some (.string x.t.lab.nm) := fun V hV => (HF9.out.base.e.later HF9.out.base.lt.1 hV).c5
      have e6 : ∀ V, Later v9 V → V.cell? ⟨w.heap.size, 6, none⟩ = some (.string x.t.lab.op) := fun V hV => (HF9.out.base.e.later HF9.out.base.lt.1 hV).c6
      have e7 : ∀ V, Later v9 V → V.cell? ⟨w.heap.size, 7, none⟩ = some (.slice x.a x.t.args.length x.cap) := fun V hV => (HF9.out.base.e.later HF9.out.base.lt.1 hV).c7
      have o0 : ∀ V, Later v9 V → V.cell? ⟨w.heap.size + 1, 0, none⟩ = some (.int .i64 y.t.lab.kd) := fun V hV => (HF9.out.base.o.later HF9.out.base.lt.2 hV).c0
      have o1 : ∀ V, Later v9 V → V.cell? ⟨w.heap.size + 1, 1, none⟩ = some (.int .u8 y.t.lab.v.k) := fun V hV => (HF9.out.base.o.later HF9.out.base.lt.2 hV).c1
      have o2 : ∀ V, Later v9 V → V.cell? ⟨w.heap.size + 1, 2, none⟩ = some (.int .i64 y.t.lab.v.n) := fun V hV => (HF9.out.base.o.later HF9.out.base.lt.2 hV).c2
      have o3 : ∀ V, Later v9 V → V.cell? ⟨w.heap.size + 1, 3, none⟩ = some (.string y.t.lab.v.s) := fun V hV => (HF9.out.base.o.later HF9.out.base.lt.2 hV).c3
      have o4 : ∀ V, Later v9 V → V.cell? ⟨w.heap.size + 1, 4, none⟩ = some (.string y.t.lab.tb) := fun V hV => (HF9.out.base.o.later HF9.out.base.lt.2 hV).c4
      have o5 : ∀ V, Later v9 V → V.cell? ⟨w.heap.size + 1, 5, none⟩ = some (.string y.t.lab.nm) := fun V hV => (HF9.out.base.o.later HF9.out.base.lt.2 hV).c5
      have o6 : ∀ V, Later v9 V → V.cell? ⟨w.heap.size + 1, 6, none⟩ = some (.string y.t.lab.op) := fun V hV => (HF9.out.base.o.later HF9.out.base.lt.2 hV).c6
      have o7 : ∀ V, Later v9 V → V.cell? ⟨w.heap.size + 1, 7, none⟩ = some (.slice y.a y.t.args.length y.cap) := fun V hV => (HF9.out.base.o.later HF9.out.base.lt.2 hV).c7
      have p0 : ∀ V, Later v9 V → V.cell? ⟨g1, 0, none⟩ = some (.int .i64 p.t.lab.kd) := fun V hV => (HF9.out.t7.later HF9.out.g7 hV).c0
      have p1 : ∀ V, Later v9 V → V.cell? ⟨g1, 1, none⟩ = some (.int .u8 p.t.lab.v.k) := fun V hV => (HF9.out.t7.later HF9.out.g7 hV).c1
      have p2 : ∀ V, Later v9 V → V.cell? ⟨g1, 2, none⟩ = some (.int .i64 p.t.lab.v.n) := fun V hV => (HF9.out.t7.later HF9.out.g7 hV).c2
      have p3 : ∀ V, Later v9 V → V.cell? ⟨g1, 3, none⟩ = some (.string p.t.lab.v.s) := fun V hV => (HF9.out.t7.later HF9.out.g7 hV).c3
      have p4 : ∀ V, Later v9 V → V.cell? ⟨g1, 4, none⟩ = some (.string p.t.lab.tb) := fun V hV => (HF9.out.t7.later HF9.out.g7 hV).c4
      have p5 : ∀ V, Later v9 V → V.cell? ⟨g1, 5, none⟩ = some (.string p.t.lab.nm) := fun V hV => (HF9.out.t7.later HF9.out.g7 hV).c5
      have p6 : ∀ V, Later v9 V → V.cell? ⟨g1, 6, none⟩ = some (.string p.t.lab.op) := fun V hV => (HF9.out.t7.later HF9.out.g7 hV).c6
      have p7 : ∀ V, Later v9 V → V.cell? ⟨g1, 7, none⟩ = some (.slice p.a p.t.args.length p.cap) := fun V hV => (HF9.out.t7.later HF9.out.g7 hV).c7
      have q0 : ∀ V, Later v9 V → V.cell? ⟨h1, 0, none⟩ = some (.int .i64 q.t.lab.kd) := fun V hV => (HF9.out.t8.later HF9.out.g8 hV).c0
      have q1 : ∀ V, Later v9 V → V.cell? ⟨h1, 1, none⟩ = some (.int .u8 q.t.lab.v.k) := fun V hV => (HF9.out.t8.later HF9.out.g8 hV).c1
      have q2 : ∀ V, Later v9 V → V.cell? ⟨h1, 2, none⟩ = some (.int .i64 q.t.lab.v.n) := fun V hV => (HF9.out.t8.later HF9.out.g8 hV).c2
      have q3 : ∀ V, Later v9 V → V.cell? ⟨h1, 3, none⟩ = some (.string q.t.lab.v.s) := fun V hV => (HF9.out.t8.later HF9.out.g8 hV).c3
      have q4 : ∀ V, Later v9 V → V.cell? ⟨h1, 4, none⟩ = some (.string q.t.lab.tb) := fun V hV => (HF9.out.t8.later HF9.out.g8 hV).c4
      have q5 : ∀ V, Later v9 V → V.cell? ⟨h1, 5, none⟩ = some (.string q.t.lab.nm) := fun V hV => (HF9.out.t8.later HF9.out.g8 hV).c5
      have q6 : ∀ V, Later v9 V → V.cell? ⟨h1, 6, none⟩ = some (.string q.t.lab.op) := fun V hV => (HF9.out.t8.later HF9.out.g8 hV).c6
      have q7 : ∀ V, Later v9 V → V.cell? ⟨h1, 7, none⟩ = some (.slice q.a q.t.args.length q.cap) := fun V hV => (HF9.out.t8.later HF9.out.g8 hV).c7
      repeat (first | (refine wpO_F (v := ?_) rfl (by rfl) (fun w' hL => ?_) ?_; rotate_left; (solve | (go_simp; with_reducible rfl) | go_simp); try simp only [Act.put, List.setIfInBounds_toArray, List.set_cons_zero, List.set_cons_succ]) | (refine wpO_G rfl (by rfl) ?_; try simp only [Act.put, List.setIfInBounds_toArray, List.set_cons_zero, List.set_cons_succ]))
      refine wpO_C rfl (by rfl) ?_
      go_simp
      refine (HSm.out _ HF9.out.base.xat HF9.out.base.yat).mono ?_
      rintro e v10 ⟨rfl, hb⟩
      refine ⟨hb, ?_⟩
      try simp only [Act.put, List.setIfInBounds_toArray, List.set_cons_zero, List.set_cons_succ]
      have HF10 := Lib.hid (HF9.out.later hb)
      clear hb
      clear e0 e1 e2 e3 e4 e5 e6 e7 o0 o1 o2 o3 o4 o5 o6 o7 p0 p1 p2 p3 p4 p5 p6 p7 q0 q1 q2 q3 q4 q5 q6 q7
      have p0 : ∀ V, Later v10 V → V.cell? ⟨g1, 0, none⟩ = some (.int .i64 p.t.lab.kd) := fun V hV => (HF10.out.t7.later HF10.out.g7 hV).c0
      have p1 : ∀ V, Later v10 V → V.cell? ⟨g1, 1, none⟩ = some (.int .u8 p.t.lab.v.k) := fun V hV => (HF10.out.t7.later HF10.out.g7 hV).c1
      have p2 : ∀ V, Later v10 V → V.cell? ⟨g1, 2, none⟩ = some (.int .i64 p.t.lab.v.n) := fun V hV => (HF10.out.t7.later HF10.out.g7 hV).c2
      have p3 : ∀ V, Later v10 V → V.cell? ⟨g1, 3, none⟩ = some (.string p.t.lab.v.s) := fun V hV => (HF10.out.t7.later HF10.out.g7 hV).c3
      have p4 : ∀ V, Later v10 V → V.cell? ⟨g1, 4, none⟩ = some (.string p.t.lab.tb) := fun V hV => (HF10.out.t7.later HF10.out.g7 hV).c4
      have p5 : ∀ V, Later v10 V → V.cell? ⟨g1, 5, none⟩ = some (.string p.t.lab.nm) := fun V hV => (HF10.out.t7.later HF10.out.g7 hV).c5
      have p6 : ∀ V, Later v10 V → V.cell? ⟨g1, 6, none⟩ = some (.string p.t.lab.op) := fun V hV => (HF10.out.t7.later HF10.out.g7 hV).c6
      have p7 : ∀ V, Later v10 V → V.cell? ⟨g1, 7, none⟩ = some (.slice p.a p.t.args.length p.cap) := fun V hV => (HF10.out.t7.later HF10.out.g7 hV).c7
      have q0 : ∀ V, Later v10 V → V.cell? ⟨h1, 0, none⟩ = some (.int .i64 q.t.lab.kd) := fun V hV => (HF10.out.t8.later HF10.out.g8 hV).c0
      have q1 : ∀ V, Later v10 V → V.cell? ⟨h1, 1, none⟩ = some (.int .u8 q.t.lab.v.k) := fun V hV => (HF10.out.t8.later HF10.out.g8 hV).c1
      have q2 : ∀ V, Later v10 V → V.cell? ⟨h1, 2, none⟩ = some (.int .i64 q.t.lab.v.n) := fun V hV => (HF10.out.t8.later HF10.out.g8 hV).c2
      have q3 : ∀ V, Later v10 V → V.cell? ⟨h1, 3, none⟩ = some (.string q.t.lab.v.s) := fun V hV => (HF10.out.t8.later HF10.out.g8 hV).c3
      have q4 : ∀ V, Later v10 V → V.cell? ⟨h1, 4, none⟩ = some (.string q.t.lab.tb) := fun V hV => (HF10.out.t8.later HF10.out.g8 hV).c4
      have q5 : ∀ V, Later v10 V → V.cell? ⟨h1, 5, none⟩ = some (.string q.t.lab.nm) := fun V hV => (HF10.out.t8.later HF10.out.g8 hV).c5
      have q6 : ∀ V, Later v10 V → V.cell? ⟨h1, 6, none⟩ = some (.string q.t.lab.op) := fun V hV => (HF10.out.t8.later HF10.out.g8 hV).c6
      have q7 : ∀ V, Later v10 V → V.cell? ⟨h1, 7, none⟩ = some (.slice q.a q.t.args.length q.cap) := fun V hV => (HF10.out.t8.later HF10.out.g8 hV).c7
      repeat (first | (refine wpO_F (v := ?_) rfl (by rfl) (fun w' hL => ?_) ?_; rotate_left; (solve | (go_simp; with_reducible rfl) | go_simp); try simp only [Act.put, List.setIfInBounds_toArray, List.set_cons_zero, List.set_cons_succ]) | (refine wpO_G rfl (by rfl) ?_; try simp only [Act.put, List.setIfInBounds_toArray, List.set_cons_zero, List.set_cons_succ]))
      refine wpO_C rfl (by rfl) ?_
      go_simp
      refine (HSr.out p q _ HPt.out HQt.out HF10.out.a7 HF10.out.a8).mono ?_
      rintro e v11 ⟨rfl, hb⟩
      refine ⟨hb, ?_⟩
      try simp only [Act.put, List.setIfInBounds_toArray, List.set_cons_zero, List.set_cons_succ]
      have HF11 := Lib.hid (HF10.out.later hb)
      clear hb
      clear p0 p1 p2 p3 p4 p5 p6 p7 q0 q1 q2 q3 q4 q5 q6 q7
      repeat (first | (refine wpO_F (v := ?_) rfl (by rfl) (fun w' hL => ?_) ?_; rotate_left; (solve | (go_simp; with_reducible rfl) | go_simp); try simp only [Act.put, List.setIfInBounds_toArray, List.set_cons_zero, List.set_cons_succ]) | (refine wpO_G rfl (by rfl) ?_; try simp only [Act.put, List.setIfInBounds_toArray, List.set_cons_zero, List.set_cons_succ]))
      refine wpO_C rfl (by rfl) ?_
      go_simp
      refine (HRs.out _).mono ?_
      rintro e v12 ⟨rfl, hb⟩
      refine ⟨hb, ?_⟩
      try simp only [Act.put, List.setIfInBounds_toArray, List.set_cons_zero, List.set_cons_succ]
      have HF12 := Lib.hid (HF11.out.later hb)
      clear hb
      repeat (first | (refine wpO_F (v := ?_) rfl (by rfl) (fun w' hL => ?_) ?_; rotate_left; (solve | (go_simp; with_reducible rfl) | go_simp); try simp only [Act.put, List.setIfInBounds_toArray, List.set_cons_zero, List.set_cons_succ]) | (refine wpO_G rfl (by rfl) ?_; try simp only [Act.put, List.setIfInBounds_toArray, List.set_cons_zero, List.set_cons_succ]))
      refine wpO_C rfl (by rfl) ?_
      go_simp
      refine (HRq.out _).mono ?_
      rintro e v13 ⟨rfl, hb⟩
      refine ⟨hb, ?_⟩
      try simp only [Act.put, List.setIfInBounds_toArray, List.set_cons_zero, List.set_cons_succ]
      have HF13 := Lib.hid (HF12.out.later hb)
      clear hb
      repeat (first | (refine wpO_F (v := ?_) rfl (by rfl) (fun w' hL => ?_) ?_; rotate_left; (solve | (go_simp; with_reducible rfl) | go_simp); try simp only [Act.put, List.setIfInBounds_toArray, List.set_cons_zero, List.set_cons_succ]) | (refine wpO_G rfl (by rfl) ?_; try simp only [Act.put, List.setIfInBounds_toArray, List.set_cons_zero, List.set_cons_succ]))
      refine wpO_nil ?_
      go_wp2
      go_ret
      exact ⟨ret_b (by first | rfl | simp), HF13.out.base.bel⟩
  · have n5 : decide ((dy : Int) ≤ 20) = false := by simp; omega
    have n3 : sm = false := by rw [hsr]; simp [hy20]
    subst n3
    clear hsr
    cases rx
    · skip
      obtain ⟨p0, p1, p2, p3, p4, p5, p6, p7⟩ := HF2.out.t7
      go_wp2_with fail
      refine (HDp.out p _ HPt.out HF2.out.a7).mono ?_
      rintro e v3 ⟨rfl, hb⟩
      have HF3 := Lib.hid (HF2.out.later hb)
      clear hb p0 p1 p2 p3 p4 p5 p6 p7
      obtain ⟨q0, q1, q2, q3, q4, q5, q6, q7⟩ := HF3.out.t8
      go_wp2_with fail
      refine (HDq.out q _ HQt.out HF3.out.a8).mono ?_
      rintro e v4 ⟨rfl, hb⟩
      have HF4 := Lib.hid (HF3.out.later hb)
      clear hb q0 q1 q2 q3 q4 q5 q6 q7
      go_wp2_with fail
      refine wp_region_ord [(0, false), (1, true), (2, true), (4, true), (3, false), (5, true), (6, true), (7, true), (8, true), (9, true), (10, true), (11, true), (12, true), (13, true), (14, true), (15, true), (16, true), (17, true), (18, true), (19, true), (20, true), (21, true), (22, true), (23, true), (24, true), (25, true), (26, true), (28, true), (27, false), (29, false), (30, true), (31, true), (32, true), (33, true), (34, true), (36, true), (35, false), (37, true), (38, true), (39, true), (40, false), (41, true), (42, true), (43, true), (44, true), (45, true), (47, true), (46, false), (48, false), (49, true), (50, true), (51, true)] (by kernel_rfl) (by kernel_rfl) (by kernel_rfl) (by kernel_rfl) ?_
      repeat (first | (refine wpO_F (v := ?_) rfl (by rfl) (fun w' hL => ?_) ?_; rotate_left; (solve | (go_simp; with_reducible rfl) | go_simp); try simp only [Act.put, List.setIfInBounds_toArray, List.set_cons_zero, List.set_cons_succ]) | (refine wpO_G rfl (by rfl) ?_; try simp only [Act.put, List.setIfInBounds_toArray, List.set_cons_zero, List.set_cons_succ]))
      refine wpO_C rfl (by rfl) ?_
      go_simp
      refine (HAl.out _ HF4.out.base.bel.drew).mono ?_
      rintro e v5 ⟨rfl, hb⟩
      refine ⟨hb, ?_⟩
      try simp only [Act.put, List.setIfInBounds_toArray, List.set_cons_zero, List.set_cons_succ]
      have HF5 := Lib.hid (HF4.out.later ((Below.refl _ v4).drew.trans hb))
      clear hb
      have e0 : ∀ V, Later v5 V → V.cell? ⟨w.heap.size, 0, none⟩ = some (.int .i64 x.t.lab.kd) := fun V hV => (HF5.out.base.e.later HF5.out.base.lt.1 hV).c0
      have e1 : ∀ V, Later v5 V → V.cell? ⟨w.heap.size, 1, none⟩ = some (.int .u8 x.t.lab.v.k) := fun V hV => (HF5.out.base.e.later HF5.out.base.lt.1 hV).c1
      have e2 : ∀ V, Later v5 V → V.cell? ⟨w.heap.size, 2, none⟩ = some (.int .i64 x.t.lab.v.n) := fun V hV => (HF5.out.base.e.later HF5.out.base.lt.1 hV).c2
      have e3 : ∀ V, Later v5 V → V.cell? ⟨w.heap.size, 3, none⟩ = some (.string x.t.lab.v.s) := fun V hV => (HF5.out.base.e.later HF5.out.base.lt.1 hV).c3
      have e4 : ∀ V, Later v5 V → V.cell? ⟨w.heap.size, 4, none⟩ = some (.string x.t.lab.tb) := fun V hV => (HF5.out.base.e.later HF5.out.base.lt.1 hV).c4
      have e5 : ∀ V, Later v5 V → V.cell? ⟨w.heap.size, 5, none⟩ = some (.string x.t.lab.nm) := fun V hV => (HF5.out.base.e.later HF5.out.base.lt.1 hV).c5
      have e6 : ∀ V, Later v5 V → V.cell? ⟨w.heap.size, 6, none⟩ = some (.string x.t.lab.op) := fun V hV => (HF5.out.base.e.later HF5.out.base.lt.1 hV).c6
      have e7 : ∀ V, Later v5 V → V.cell? ⟨w.heap.size, 7, none⟩ = some (.slice x.a x.t.args.length x.cap) := fun V hV => (HF5.out.base.e.later HF5.out.base.lt.1 hV).c7
      repeat (first | (refine wpO_F (v := ?_) rfl (by rfl) (fun w' hL => ?_) ?_; rotate_left; (solve | (go_simp; with_reducible rfl) | go_simp); try simp only [Act.put, List.setIfInBounds_toArray, List.set_cons_zero, List.set_cons_succ]) | (refine wpO_G rfl (by rfl) ?_; try simp only [Act.put, List.setIfInBounds_toArray, List.set_cons_zero, List.set_cons_succ]))
      refine wpO_C rfl (by rfl) ?_
      go_simp
      refine (HRe.out _ HF5.out.base.xat).mono ?_
      rintro e v6 ⟨rfl, hb⟩
      refine ⟨hb, ?_⟩
      try simp only [Act.put, List.setIfInBounds_toArray, List.set_cons_zero, List.set_cons_succ]
      have HF6 := Lib.hid (HF5.out.later hb)
      clear hb
      clear e0 e1 e2 e3 e4 e5 e6 e7
      have e0 : ∀ V, Later v6 V → V.cell? ⟨w.heap.size, 0, none⟩ = some (.int .i64 x.t.lab.kd) := fun V hV => (HF6.out.base.e.later HF6.out.base.lt.1 hV).c0
      have e1 : ∀ V, Later v6 V → V.cell? ⟨w.heap.size, 1, none⟩ = some (.int .u8 x.t.lab.v.k) := fun V hV => (HF6.out.base.e.later HF6.out.base.lt.1 hV).c1
      have e2 : ∀ V, Later v6 V → V.cell? ⟨w.heap.size, 2, none⟩ = some (.int .i64 x.t.lab.v.n) := fun V hV => (HF6.out.base.e.later HF6.out.base.lt.1 hV).c2
      have e3 : ∀ V, Later v6 V → V.cell? ⟨w.heap.size, 3, none⟩ = some (.string x.t.lab.v.s) := fun V hV => (HF6.out.base.e.later HF6.out.base.lt.1 hV).c3
      have e4 : ∀ V, Later v6 V → V.cell? ⟨w.heap.size, 4, none⟩ = some (.string x.t.lab.tb) := fun V hV => (HF6.out.base.e.later HF6.out.base.lt.1 hV).c4
      have e5 : ∀ V, Later v6 V → V.cell? ⟨w.heap.size, 5, none⟩ = some (.string x.t.lab.nm) := fun V hV => (HF6.out.base.e.later HF6.out.base.lt.1 hV).c5
      have e6 : ∀ V, Later v6 V → V.cell? ⟨w.heap.size, 6, none⟩ = some (.string x.t.lab.op) := fun V hV => (HF6.out.base.e.later HF6.out.base.lt.1 hV).c6
      have e7 : ∀ V, Later v6 V → V.cell? ⟨w.heap.size, 7, none⟩ = some (.slice x.a x.t.args.length x.cap) := fun V hV => (HF6.out.base.e.later HF6.out.base.lt.1 hV).c7
      have p0 : ∀ V, Later v6 V → V.cell? ⟨g1, 0, none⟩ = some (.int .i64 p.t.lab.kd) := fun V hV => (HF6.out.t7.later HF6.out.g7 hV).c0
      have p1 : ∀ V, Later v6 V → V.cell? ⟨g1, 1, none⟩ = some (.int .u8 p.t.lab.v.k) := fun V hV => (HF6.out.t7.later HF6.out.g7 hV).c1
      have p2 : ∀ V, Later v6 V → V.cell? ⟨g1, 2, none⟩ = some (.int .i64 p.t.lab.v.n) := fun V hV => (HF6.out.t7.later HF6.out.g7 hV).c2
      have p3 : ∀ V, Later v6 V → V.cell? ⟨g1, 3, none⟩ = some (.string p.t.lab.v.s) := fun V hV => (HF6.out.t7.later HF6.out.g7 hV).c3
      have p4 : ∀ V, Later v6 V → V.cell? ⟨g1, 4, none⟩ = some (.string p.t.lab.tb) := fun V hV => (HF6.out.t7.later HF6.out.g7 hV).c4
      have p5 : ∀ V, Later v6 V → V.cell? ⟨g1, 5, none⟩ = some (.string p.t.lab.nm) := fun V hV => (HF6.out.t7.later HF6.out.g7 hV).c5
      have p6 : ∀ V, Later v6 V → V.cell? ⟨g1, 6, none⟩ = some (.string p.t.lab.op) := fun V hV => (HF6.out.t7.later HF6.out.g7 hV).c6
      have p7 : ∀ V, Later v6 V → V.cell? ⟨g1, 7, none⟩ = some (.slice p.a p.t.args.length p.cap) := fun V hV => (HF6.out.t7.later HF6.out.g7 hV).c7
      repeat (first | (refine wpO_F (v := ?_) rfl (by rfl) (fun w' hL => ?_) ?_; rotate_left; (solve | (go_simp; with_reducible rfl) | go_simp); try simp only [Act.put, List.setIfInBounds_toArray, List.set_cons_zero, List.set_cons_succ]) | (refine wpO_G rfl (by rfl) ?_; try simp only [Act.put, List.setIfInBounds_toArray, List.set_cons_zero, List.set_cons_succ]))
      refine wpO_C rfl (by rfl) ?_
      go_simp
      refine (HDe.out _ HF6.out.base.xat).mono ?_
      rintro e v7 ⟨rfl, hb⟩
      refine ⟨hb, ?_⟩
      try simp only [Act.put, List.setIfInBounds_toArray, List.set_cons_zero, List.set_cons_succ]
      have HF7 := Lib.hid (HF6.out.later hb)
      clear hb
      clear e0 e1 e2 e3 e4 e5 e6 e7 p0 p1 p2 p3 p4 p5 p6 p7
      have p0 : ∀ V, Later v7 V → V.cell? ⟨g1, 0, none⟩ = some (.int .i64 p.t.lab.kd) := fun V hV => (HF7.out.t7.later HF7.out.g7 hV).c0
      have p1 : ∀ V, Later v7 V → V.cell? ⟨g1, 1, none⟩ = some (.int .u8 p.t.lab.v.k) := fun V hV => (HF7.out.t7.later HF7.out.g7 hV).c1
      have p2 : ∀ V, Later v7 V → V.cell? ⟨g1, 2, none⟩ = some (.int .i64 p.t.lab.v.n) := fun V hV => (HF7.out.t7.later HF7.out.g7 hV).c2
      have p3 : ∀ V, Later v7 V → V.cell? ⟨g1, 3, none⟩ = some (.string p.t.lab.v.s) := fun V hV => (HF7.out.t7.later HF7.out.g7 hV).c3
      have p4 : ∀ V, Later v7 V → V.cell? ⟨g1, 4, none⟩ = some (.string p.t.lab.tb) := fun V hV => (HF7.out.t7.later HF7.out.g7 hV).c4
      have p5 : ∀ V, Later v7 V → V.cell? ⟨g1, 5, none⟩ = some (.string p.t.lab.nm) := fun V hV => (HF7.out.t7.later HF7.out.g7 hV).c5
      have p6 : ∀ V, Later v7 V → V.cell? ⟨g1, 6, none⟩ = some (.string p.t.lab.op) := fun V hV => (HF7.out.t7.later HF7.out.g7 hV).c6
      have p7 : ∀ V, Later v7 V → V.cell? ⟨g1, 7, none⟩ = some (.slice p.a p.t.args.length p.cap) := fun V hV => (HF7.out.t7.later HF7.out.g7 hV).c7
      repeat (first | (refine wpO_F (v := ?_) rfl (by rfl) (fun w' hL => ?_) ?_; rotate_left; (solve | (go_simp; with_reducible rfl) | go_simp); try simp only [Act.put, List.setIfInBounds_toArray, List.set_cons_zero, List.set_cons_succ]) | (refine wpO_G rfl (by rfl) ?_; try simp only [Act.put, List.setIfInBounds_toArray, List.set_cons_zero, List.set_cons_succ]))
      refine wpO_C rfl (by rfl) ?_
      go_simp
      refine (HDp.out p _ HPt.out HF7.out.a7).mono ?_
      rintro e v8 ⟨rfl, hb⟩
      refine ⟨hb, ?_⟩
      try simp only [Act.put, List.setIfInBounds_toArray, List.set_cons_zero, List.set_cons_succ]
      have HF8 := Lib.hid (HF7.out.later hb)
      clear hb
      clear p0 p1 p2 p3 p4 p5 p6 p7
      have e0 : ∀ V, Later v8 V → V.cell? ⟨w.heap.size, 0, none⟩ = some (.int .i64 x.t.lab.kd) := fun V hV => (HF8.out.base.e.later HF8.out.base.lt.1 hV).c0
      have e1 : ∀ V, Later v8 V → V.cell? ⟨w.heap.size, 1, none⟩ = some (.int .u8 x.t.lab.v.k) := fun V hV => (HF8.out.base.e.later HF8.out.base.lt.1 hV).c1
      have e2 : ∀ V, Later v8 V → V.cell? ⟨w.heap.size, 2, none⟩ = some (.int .i64 x.t.lab.v.n) := fun V hV => (HF8.out.base.e.later HF8.out.base.lt.1 hV).c2
      have e3 : ∀ V, Later v8 V → V.cell? ⟨w.heap.size, 3, none⟩ = some (.string x.t.lab.v.s) := fun V hV => (HF8.out.base.e.later HF8.out.base.lt.1 hV).c3
      have e4 : ∀ V, Later v8 V → V.cell? ⟨w.heap.size, 4, none⟩ = some (.string x.t.lab.tb) := fun V hV => (HF8.out.base.e.later HF8.out.base.lt.1 hV).c4
      have e5 : ∀ V, Later v8 V → V.cell? ⟨w.heap.size, 5, none⟩ = some (.string x.t.lab.nm) := fun V hV => (HF8.out.base.e.later HF8.out.base.lt.1 hV).c5
      have e6 : ∀ V, Later v8 V → V.cell? ⟨w.heap.size, 6, none⟩ = some (.string x.t.lab.op) := fun V hV => (HF8.out.base.e.later HF8.out.base.lt.1 hV).c6
      have e7 : ∀ V, Later v8 V → V.cell? ⟨w.heap.size, 7, none⟩ = some (.slice x.a x.t.args.length x.cap) := fun V hV => (HF8.out.base.e.later HF8.out.base.lt.1 hV).c7
      have o0 : ∀ V, Later v8 V → V.cell? ⟨w.heap.size + 1, 0, none⟩ = some (.int .i64 y.t.lab.kd) := fun V hV => (HF8.out.base.o.later HF8.out.base.lt.2 hV).c0
      have o1 : ∀ V, Later v8 V → V.cell? ⟨w.heap.size + 1, 1, none⟩ = some (.int .u8 y.t.lab.v.k) := fun V hV => (HF8.out.base.o.later HF8.out.base.lt.2 hV).c1
      have o2 : ∀ V, Later v8 V → V.cell? ⟨w.heap.size + 1, 2, none⟩ = some (.int .i64 y.t.lab.v.n) := fun V hV => (HF8.out.base.o.later HF8.out.base.lt.2 hV).c2
      have o3 : ∀ V, Later v8 V → V.cell? ⟨w.heap.size + 1, 3, none⟩ = some (.string y.t.lab.v.s) := fun V hV => (HF8.out.base.o.later HF8.out.base.lt.2 hV).c3
      have o4 : ∀ V, Later v8 V → V.cell? ⟨w.heap.size + 1, 4, none⟩ = some (.string y.t.lab.tb) := fun V hV => (HF8.out.base.o.later HF8.out.base.lt.2 hV).c4
      have o5 : ∀ V, Later v8 V → V.cell? ⟨w.heap.size + 1, 5, none⟩ = some (.string y.t.lab.nm) := fun V hV => (HF8.out.base.o.later HF8.out.base.lt.2 hV).c5
      have o6 : ∀ V, Later v8 V → V.cell? ⟨w.heap.size + 1, 6, none⟩ = some (.string y.t.lab.op) := fun V hV => (HF8.out.base.o.later HF8.out.base.lt.2 hV).c6
      have o7 : ∀ V, Later v8 V → V.cell? ⟨w.heap.size + 1, 7, none⟩ = some (.slice y.a y.t.args.length y.cap) := fun V hV => (HF8.out.base.o.later HF8.out.base.lt.2 hV).c7
      have p0 : ∀ V, Later v8 V → V.cell? ⟨g1, 0, none⟩ = some (.int .i64 p.t.lab.kd) := fun V hV => (HF8.out.t7.later HF8.out.g7 hV).c0
      have p1 : ∀ V, Later v8 V → V.cell? ⟨g1, 1, none⟩ = some (.int .u8 p.t.lab.v.k) := fun V hV => (HF8.out.t7.later HF8.out.g7 hV).c1
      have p2 : ∀ V, Later v8 V → V.cell? ⟨g1, 2, none⟩ = some (.int .i64 p.t.lab.v.n) := fun V hV => (HF8.out.t7.later HF8.out.g7 hV).c2
      have p3 : ∀ V, Later v8 V → V.cell? ⟨g1, 3, none⟩ = some (.string p.t.lab.v.s) := fun V hV => (HF8.out.t7.later HF8.out.g7 hV).c3
      have p4 : ∀ V, Later v8 V → V.cell? ⟨g1, 4, none⟩ = some (.string p.t.lab.tb) := fun V hV => (HF8.out.t7.later HF8.out.g7 hV).c4
      have p5 : ∀ V, Later v8 V → V.cell? ⟨g1, 5, none⟩ = some (.string p.t.lab.nm) := fun V hV => (HF8.out.t7.later HF8.out.g7 hV).c5
      have p6 : ∀ V, Later v8 V → V.cell? ⟨g1, 6, none⟩ = some (.string p.t.lab.op) := fun V hV => (HF8.out.t7.later HF8.out.g7 hV).c6
      have p7 : ∀ V, Later v8 V → V.cell? ⟨g1, 7, none⟩ = some (.slice p.a p.t.args.length p.cap) := fun V hV => (HF8.out.t7.later HF8.out.g7 hV).c7
      have q0 : ∀ V, Later v8 V → V.cell? ⟨h1, 0, none⟩ = some (.int .i64 q.t.lab.kd) := fun V hV => (HF8.out.t8.later HF8.out.g8 hV).c0
      have q1 : ∀ V, Later v8 V → V.cell? ⟨h1, 1, none⟩ = some (.int .u8 q.t.lab.v.k) := fun V hV => (HF8.out.t8.later HF8.out.g8 hV).c1
      have q2 : ∀ V, Later v8 V → V.cell? ⟨h1, 2, none⟩ = some (.int .i64 q.t.lab.v.n) := fun V hV => (HF8.out.t8.later HF8.out.g8 hV).c2
      have q3 : ∀ V, Later v8 V → V.cell? ⟨h1, 3, none⟩ = some (.string q.t.lab.v.s) := fun V hV => (HF8.out.t8.later HF8.out.g8 hV).c3
      have q4 : ∀ V, Later v8 V → V.cell? ⟨h1, 4, none⟩ = some (.string q.t.lab.tb) := fun V hV => (HF8.out.t8.later HF8.out.g8 hV).c4
      have q5 : ∀ V, Later v8 V → V.cell? ⟨h1, 5, none⟩ = some (.string q.t.lab.nm) := fun V hV => (HF8.out.t8.later HF8.out.g8 hV).c5
      have q6 : ∀ V, Later v8 V → V.cell? ⟨h1, 6, none⟩ = some (.string q.t.lab.op) := fun V hV => (HF8.out.t8.later HF8.out.g8 hV).c6
      have q7 : ∀ V, Later v8 V → V.cell? ⟨h1, 7, none⟩ = some (.slice q.a q.t.args.length q.cap) := fun V hV => (HF8.out.t8.later HF8.out.g8 hV).c7
      repeat (first | (refine wpO_F (v := ?_) rfl (by rfl) (fun w' hL => ?_) ?_; rotate_left; (solve | (go_simp; with_reducible rfl) | go_simp); try simp only [Act.put, List.setIfInBounds_toArray, List.set_cons_zero, List.set_cons_succ]) | (refine wpO_G rfl (by rfl) ?_; try simp only [Act.put, List.setIfInBounds_toArray, List.set_cons_zero, List.set_cons_succ]))
      refine wpO_C rfl (by rfl) ?_
      go_simp
      refine (HSm.out _ HF8.out.base.xat HF8.out.base.yat).mono ?_
      rintro e v9 ⟨rfl, hb⟩
      refine ⟨hb, ?_⟩
      try simp only [Act.put, List.setIfInBounds_toArray, List.set_cons_zero, List.set_cons_succ]
      have HF9 := Lib.hid (HF8.out.later hb)
      clear hb
      clear e0 e1 e2 e3 e4 e5 e6 e7 o0 o1 o2 o3 o4 o5 o6 o7 p0 p1 p2 p3 p4 p5 p6 p7 q0 q1 q2 q3 q4 q5 q6 q7
      repeat (first | (refine wpO_F (v := ?_) rfl (by rfl) (fun w' hL => ?_) ?_; rotate_left; (solve | (go_simp; with_reducible rfl) | go_simp); try simp only [Act.put, List.setIfInBounds_toArray, List.set_cons_zero, List.set_cons_succ]) | (refine wpO_G rfl (by rfl) ?_; try simp only [Act.put, List.setIfInBounds_toArray, List.set_cons_zero, List.set_cons_succ]))
      refine wpO_C rfl (by rfl) ?_
      go_simp
      refine (HRs.out _).mono ?_
      rintro e v10 ⟨rfl, hb⟩
      refine ⟨hb, ?_⟩
      try simp only [Act.put, List.setIfInBounds_toArray, List.set_cons_zero, List.set_cons_succ]
      have HF10 := Lib.hid (HF9.out.later hb)
      clear hb
      repeat (first | (refine wpO_F (v := ?_) rfl (by rfl) (fun w' hL => ?_) ?_; rotate_left; (solve | (go_simp; with_reducible rfl) | go_simp); try simp only [Act.put, List.setIfInBounds_toArray, List.set_cons_zero, List.set_cons_succ]) | (refine wpO_G rfl (by rfl) ?_; try simp only [Act.put, List.setIfInBounds_toArray, List.set_cons_zero, List.set_cons_succ]))
      refine wpO_C rfl (by rfl) ?_
      go_simp
      refine (HRq.out _).mono ?_
      rintro e v11 ⟨rfl, hb⟩
      refine ⟨hb, ?_⟩
      try simp only [Act.put, List.setIfInBounds_toArray, List.set_cons_zero, List.set_cons_succ]
      have HF11 := Lib.hid (HF10.out.later hb)
      clear hb
      repeat (first | (refine wpO_F (v := ?_) rfl (by rfl) (fun w' hL => ?_) ?_; rotate_left; (solve | (go_simp; with_reducible rfl) | go_simp); try simp only [Act.put, List.setIfInBounds_toArray, List.set_cons_zero, List.set_cons_succ]) | (refine wpO_G rfl (by rfl) ?_; try simp only [Act.put, List.setIfInBounds_toArray, List.set_cons_zero, List.set_cons_succ]))
      refine wpO_nil ?_
      go_wp2
      go_ret
      exact ⟨ret_b (by first | rfl | simp), HF11.out.base.bel⟩
    · skip
      obtain ⟨p0, p1, p2, p3, p4, p5, p6, p7⟩ := HF2.out.t7
      go_wp2_with fail
      refine (HWr.out (by trivial) p _ HPt.out HF2.out.a7).mono ?_
      rintro e v3 ⟨rfl, hb⟩
      have HF3 := Lib.hid (HF2.out.later hb)
      clear hb p0 p1 p2 p3 p4 p5 p6 p7
      obtain ⟨p0, p1, p2, p3, p4, p5, p6, p7⟩ := HF3.out.t7
      go_wp2_with fail
      refine (HDp.out p _ HPt.out HF3.out.a7).mono ?_
      rintro e v4 ⟨rfl, hb⟩
      have HF4 := Lib.hid (HF3.out.later hb)
      clear hb p0 p1 p2 p3 p4 p5 p6 p7
      obtain ⟨q0, q1, q2, q3, q4, q5, q6, q7⟩ := HF4.out.t8
      go_wp2_with fail
      refine (HDq.out q _ HQt.out HF4.out.a8).mono ?_
      rintro e v5 ⟨rfl, hb⟩
      have HF5 := Lib.hid (HF4.out.later hb)
      clear hb q0 q1 q2 q3 q4 q5 q6 q7
      go_wp2_with fail
      refine wp_region_ord [(0, false), (1, true), (2, true), (4, true), (3, false), (5, true), (6, true), (7, true), (8, true), (9, true), (10, true), (11, true), (12, true), (13, true), (14, true), (15, true), (16, true), (17, true), (18, true), (19, true), (20, true), (21, true), (22, true), (23, true), (24, true), (25, true), (26, true), (28, true), (27, false), (29, false), (30, true), (31, true), (32, true), (33, true), (34, true), (36, true), (35, false), (37, true), (38, true), (39, true), (40, false), (41, true), (42, true), (43, true), (44, true), (45, true), (47, true), (46, false), (48, false), (49, true), (50, true), (51, true)] (by kernel_rfl) (by kernel_rfl) (by kernel_rfl) (by kernel_rfl) ?_
      repeat (first | (refine wpO_F (v := ?_) rfl (by rfl) (fun w' hL => ?_) ?_; rotate_left; (solve | (go_simp; with_reducible rfl) | go_simp); try simp only [Act.put, List.setIfInBounds_toArray, List.set_cons_zero, List.set_cons_succ]) | (refine wpO_G rfl (by rfl) ?_; try simp only [Act.put, List.setIfInBounds_toArray, List.set_cons_zero, List.set_cons_succ]))
      refine wpO_C rfl (by rfl) ?_
      go_simp
      refine (HAl.out _ HF5.out.base.bel.drew).mono ?_
      rintro e v6 ⟨rfl, hb⟩
      refine ⟨hb, ?_⟩
      try simp only [Act.put, List.setIfInBounds_toArray, List.set_cons_zero, List.set_cons_succ]
      have HF6 := Lib.hid (HF5.out.later ((Below.refl _ v5).drew.trans hb))
      clear hb
      have e0 : ∀ V, Later v6 V → V.cell? ⟨w.heap.size, 0, none⟩ = some (.int .i64 x.t.lab.kd) := fun V hV => (HF6.out.base.e.later HF6.out.base.lt.1 hV).c0
      have e1 : ∀ V, Later v6 V → V.cell? ⟨w.heap.size, 1, none⟩ = some (.int .u8 x.t.lab.v.k) := fun V hV => (HF6.out.base.e.later HF6.out.base.lt.1 hV).c1
      have e2 : ∀ V, Later v6 V → V.cell? ⟨w.heap.size, 2, none⟩ = some (.int .i64 x.t.lab.v.n) := fun V hV => (HF6.out.base.e.later HF6.out.base.lt.1 hV).c2
      have e3 : ∀ V, Later v6 V → V.cell? ⟨w.heap.size, 3, none⟩ = some (.string x.t.lab.v.s) := fun V hV => (HF6.out.base.e.later HF6.out.base.lt.1 hV).c3
      have e4 : ∀ V, Later v6 V → V.cell? ⟨w.heap.size, 4, none⟩ = some (.string x.t.lab.tb) := fun V hV => (HF6.out.base.e.later HF6.out.base.lt.1 hV).c4
      have e5 : ∀ V, Later v6 V → V.cell? ⟨w.heap.size, 5, none⟩ = some (.string x.t.lab.nm) := fun V hV => (HF6.out.base.e.later HF6.out.base.lt.1 hV).c5
      have e6 : ∀ V, Later v6 V → V.cell? ⟨w.heap.size, 6, none⟩ = some (.string x.t.lab.op) := fun V hV => (HF6.out.base.e.later HF6.out.base.lt.1 hV).c6
      have e7 : ∀ V, Later v6 V → V.cell? ⟨w.heap.size, 7, none⟩ = some (.slice x.a x.t.args.length x.cap) := fun V hV => (HF6.out.base.e.later HF6.out.base.lt.1 hV).c7
      repeat (first | (refine wpO_F (v := ?_) rfl (by rfl) (fun w' hL => ?_) ?_; rotate_left; (solve | (go_simp; with_reducible rfl) | go_simp); try simp only [Act.put, List.setIfInBounds_toArray, List.set_cons_zero, List.set_cons_succ]) | (refine wpO_G rfl (by rfl) ?_; try simp only [Act.put, List.setIfInBounds_toArray, List.set_cons_zero, List.set_cons_succ]))
      refine wpO_C rfl (by rfl) ?_
      go_simp
      refine (HRe.out _ HF6.out.base.xat).mono ?_
      rintro e v7 ⟨rfl, hb⟩
      refine ⟨hb, ?_⟩
      try simp only [Act.put, List.setIfInBounds_toArray, List.set_cons_zero, List.set_cons_succ]
      have HF7 := Lib.hid (HF6.out.later hb)
      clear hb
      clear e0 e1 e2 e3 e4 e5 e6 e7
      have e0 : ∀ V, Later v7 V → V.cell? ⟨w.heap.size, 0, none⟩ = some (.int .i64 x.t.lab.kd) := fun V hV => (HF7.out.base.e.later HF7.out.base.lt.1 hV).c0
      have e1 : ∀ V, Later v7 V → V.cell? ⟨w.heap.size, 1, none⟩ = some (.int .u8 x.t.lab.v.k) := fun V hV => (HF7.out.base.e.later HF7.out.base.lt.1 hV).c1
      have e2 : ∀ V, Later v7 V → V.cell? ⟨w.heap.size, 2, none⟩ = some (.int .i64 x.t.lab.v.n) := fun V hV => (HF7.out.base.e.later HF7.out.base.lt.1 hV).c2
      have e3 : ∀ V, Later v7 V → V.cell? ⟨w.heap.size, 3, none⟩ = some (.string x.t.lab.v.s) := fun V hV => (HF7.out.base.e.later HF7.out.base.lt.1 hV).c3
      have e4 : ∀ V, Later v7 V → V.cell? ⟨w.heap.size, 4, none⟩ = some (.string x.t.lab.tb) := fun V hV => (HF7.out.base.e.later HF7.out.base.lt.1 hV).c4
      have e5 : ∀ V, Later v7 V → V.cell? ⟨w.heap.size, 5, none⟩ = some (.string x.t.lab.nm) := fun V hV => (HF7.out.base.e.later HF7.out.base.lt.1 hV).c5
      have e6 : ∀ V, Later v7 V → V.cell? ⟨w.heap.size, 6, none⟩ = some (.string x.t.lab.op) := fun V hV => (HF7.out.base.e.later HF7.out.base.lt.1 hV).c6
      have e7 : ∀ V, Later v7 V → V.cell? ⟨w.heap.size, 7, none⟩ = some (.slice x.a x.t.args.length x.cap) := fun V hV => (HF7.out.base.e.later HF7.out.base.lt.1 hV).c7
      have p0 : ∀ V, Later v7 V → V.cell? ⟨g1, 0, none⟩ = some (.int .i64 p.t.lab.kd) := fun V hV => (HF7.out.t7.later HF7.out.g7 hV).c0
      have p1 : ∀ V, Later v7 V → V.cell? ⟨g1, 1, none⟩ = some (.int .u8 p.t.lab.v.k) := fun V hV => (HF7.out.t7.later HF7.out.g7 hV).c1
      have p2 : ∀ V, Later v7 V → V.cell? ⟨g1, 2, none⟩ = some (.int .i64 p.t.lab.v.n) := fun V hV => (HF7.out.t7.later HF7.out.g7 hV).c2
      have p3 : ∀ V, Later v7 V → V.cell? ⟨g1, 3, none⟩ = some (.string p.t.lab.v.s) := fun V hV => (HF7.out.t7.later HF7.out.g7 hV).c3
      have p4 : ∀ V, Later v7 V → V.cell? ⟨g1, 4, none⟩ = some (.string p.t.lab.tb) := fun V hV => (HF7.out.t7.later HF7.out.g7 hV).c4
      have p5 : ∀ V, Later v7 V → V.cell? ⟨g1, 5, none⟩ = some (.string p.t.lab.nm) := fun V hV => (HF7.out.t7.later HF7.out.g7 hV).c5
      have p6 : ∀ V, Later v7 V → V.cell? ⟨g1, 6, none⟩ = some (.string p.t.lab.op) := fun V hV => (HF7.out.t7.later HF7.out.g7 hV).c6
      have p7 : ∀ V, Later v7 V → V.cell? ⟨g1, 7, none⟩ = some (.slice p.a p.t.args.length p.cap) := fun V hV => (HF7.out.t7.later HF7.out.g7 hV).c7
      repeat (first | (refine wpO_F (v := ?_) rfl (by rfl) (fun w' hL => ?_) ?_; rotate_left; (solve | (go_simp; with_reducible rfl) | go_simp); try simp only [Act.put, List.setIfInBounds_toArray, List.set_cons_zero, List.set_cons_succ]) | (refine wpO_G rfl (by rfl) ?_; try simp only [Act.put, List.setIfInBounds_toArray, List.set_cons_zero, List.set_cons_succ]))
      refine wpO_C rfl (by rfl) ?_
      go_simp
      refine (HDe.out _ HF7.out.base.xat).mono ?_
      rintro e v8 ⟨rfl, hb⟩
      refine ⟨hb, ?_⟩
      try simp only [Act.put, List.setIfInBounds_toArray, List.set_cons_zero, List.set_cons_succ]
      have HF8 := Lib.hid (HF7.out.later hb)
      clear hb
      clear e0 e1 e2 e3 e4 e5 e6 e7 p0 p1 p2 p3 p4 p5 p6 p7
      have p0 : ∀ V, Later v8 V → V.cell? ⟨g1, 0, none⟩ = some (.int .i64 p.t.lab.kd) := fun V hV => (HF8.out.t7.later HF8.out.g7 hV).c0
      have p1 : ∀ V, Later v8 V → V.cell? ⟨g1, 1, none⟩ = some (.int .u8 p.t.lab.v.k) := fun V hV => (HF8.out.t7.later HF8.out.g7 hV).c1
      have p2 : ∀ V, Later v8 V → V.cell? ⟨g1, 2, none⟩ = some (.int .i64 p.t.lab.v.n) := fun V hV => (HF8.out.t7.later HF8.out.g7 hV).c2
      have p3 : ∀ V, Later v8 V → V.cell? ⟨g1, 3, none⟩ = some (.string p.t.lab.v.s) := fun V hV => (HF8.out.t7.later HF8.out.g7 hV).c3
      have p4 : ∀ V, Later v8 V → V.cell? ⟨g1, 4, none⟩ = some (.string p.t.lab.tb) := fun V hV => (HF8.out.t7.later HF8.out.g7 hV).c4
      have p5 : ∀ V, Later v8 V → V.cell? ⟨g1, 5, none⟩ = some (.string p.t.lab.nm) := fun V hV => (HF8.out.t7.later HF8.out.g7 hV).c5
      have p6 : ∀ V, Later v8 V → V.cell? ⟨g1, 6, none⟩ = some (.string p.t.lab.op) := fun V hV => (HF8.out.t7.later HF8.out.g7 hV).c6
      have p7 : ∀ V, Later v8 V → V.cell? ⟨g1, 7, none⟩ = some (.slice p.a p.t.args.length p.cap) := fun V hV => (HF8.out.t7.later HF8.out.g7 hV).c7
      repeat (first | (refine wpO_F (v := ?_) rfl (by rfl) (fun w' hL => ?_) ?_; rotate_left; (solve | (go_simp; with_reducible rfl) | go_simp); try simp only [Act.put, List.setIfInBounds_toArray, List.set_cons_zero, List.set_cons_succ]) | (refine wpO_G rfl (by rfl) ?_; try simp only [Act.put, List.setIfInBounds_toArray, List.set_cons_zero, List.set_cons_succ]))
      refine wpO_C rfl (by rfl) ?_
      go_simp
      refine (HDp.out p _ HPt.out HF8.out.a7).mono ?_
      rintro e v9 ⟨rfl, hb⟩
      refine ⟨hb, ?_⟩
      try simp only [Act.put, List.setIfInBounds_toArray, List.set_cons_zero, List.set_cons_succ]
      have HF9 := Lib.hid (HF8.out.later hb)
      clear hb
      clear p0 p1 p2 p3 p4 p5 p6 p7
      have e0 : ∀ V, Later v9 V → V.cell? ⟨w.heap.size, 0, none⟩ = some (.int .i64 x.t.lab.kd) := fun V hV => (HF9.out.base.e.later HF9.out.base.lt.1 hV).c0
      have e1 : ∀ V, Later v9 V → V.cell? ⟨w.heap.size, 1, none⟩ = some (.int .u8 x.t.lab.v.k) := fun V hV => (HF9.out.base.e.later HF9.out.base.lt.1 hV).c1
      have e2 : ∀ V, Later v9 V → V.cell? ⟨w.heap.size, 2, none⟩ = some (.int .i64 x.t.lab.v.n) := fun V hV => (HF9.out.base.e.later HF9.out.base.lt.1 hV).c2
      have e3 : ∀ V, Later v9 V → V.cell? ⟨w.heap.size, 3, none⟩ = some (.string x.t.lab.v.s) := fun V hV => (HF9.out.base.e.later HF9.out.base.lt.1 hV).c3
      have e4 : ∀ V, Later v9 V → V.cell? ⟨w.heap.size, 4, none⟩ = some (.string x.t.lab.tb) := fun V hV => (HF9.out.base.e.later HF9.out.base.lt.1 hV).c4
      have e5 : ∀ V, Later v9 V → V.cell? ⟨w.heap.size, 5, none⟩ = some (.string x.t.lab.nm) := fun V hV => (HF9.out.base.e.later HF9.out.base.lt.1 hV).c5
      have e6 : ∀ V, Later v9 V → V.cell? ⟨w.heap.size, 6, none⟩ = some (.string x.t.lab.op) := fun V hV => (HF9.out.base.e.later HF9.out.base.lt.1 hV).c6
      have e7 : ∀ V, Later v9 V → V.cell? ⟨w.heap.size, 7, none⟩ = some (.slice x.a x.t.args.length x.cap) := fun V hV => (HF9.out.base.e.later HF9.out.base.lt.1 hV).c7
      have o0 : ∀ V, Later v9 V → V.cell? ⟨w.heap.size + 1, 0, none⟩ = some (.int .i64 y.t.lab.kd) := fun V hV => (HF9.out.base.o.later HF9.out.base.lt.2 hV).c0
      have o1 : ∀ V, Later v9 V → V.cell? ⟨w.heap.size + 1, 1, none⟩ = some (.int .u8 y.t.lab.v.k) := fun V hV => (HF9.out.base.o.later HF9.out.base.lt.2 hV).c1
      have o2 : ∀ V, Later v9 V → V.cell? ⟨w.heap.size + 1, 2, none⟩ = some (.int .i64 y.t.lab.v.n) := fun V hV => (HF9.out.base.o.later HF9.out.base.lt.2 hV).c2
      have o3 : ∀ V, Later v9 V → V.cell? ⟨w.heap.size + 1, 3, none⟩ = some (.string y.t.lab.v.s) := fun V hV => (HF9.out.base.o.later HF9.out.base.lt.2 hV).c3
      have o4 : ∀ V, Later v9 V → V.cell? ⟨w.heap.size + 1, 4, none⟩ = some (.string y.t.lab.tb) := fun V hV => (HF9.out.base.o.later HF9.out.base.lt.2 hV).c4
      have o5 : ∀ V, Later v9 V → V.cell? ⟨w.heap.size + 1, 5, none⟩ = some (.string y.t.lab.nm) := fun V hV => (HF9.out.base.o.later HF9.out.base.lt.2 hV).c5
      have o6 : ∀ V, Later v9 V → V.cell? ⟨w.heap.size + 1, 6, none⟩ = some (.string y.t.lab.op) := fun V hV => (HF9.out.base.o.later HF9.out.base.lt.2 hV).c6
      have o7 : ∀ V, Later v9 V → V.cell? ⟨w.heap.size + 1, 7, none⟩ = some (.slice y.a y.t.args.length y.cap) := fun V hV => (HF9.out.base.o.later HF9.out.base.lt.2 hV).c7
      have p0 : ∀ V, Later v9 V → V.cell? ⟨g1, 0, none⟩ = some (.int .i64 p.t.lab.kd) := fun V hV => (HF9.out.t7.later HF9.out.g7 hV).c0
      have p1 : ∀ V, Later v9 V → V.cell? ⟨g1, 1, none⟩ = some (.int .u8 p.t.lab.v.k) := fun V hV => (HF9.out.t7.later HF9.out.g7 hV).c1
      have p2 : ∀ V, Later v9 V → V.cell? ⟨g1, 2, none⟩ = some (.int .i64 p.t.lab.v.n) := fun V hV => (HF9.out.t7.later HF9.out.g7 hV).c2
      have p3 : ∀ V, Later v9 V → V.cell? ⟨g1, 3, none⟩ = some (.string p.t.lab.v.s) := fun V hV => (HF9.out.t7.later HF9.out.g7 hV).c3
      have p4 : ∀ V, Later v9 V → V.cell? ⟨g1, 4, none⟩ = some (.string p.t.lab.tb) := fun V hV => (HF9.out.t7.later HF9.out.g7 hV).c4
      have p5 : ∀ V, Later v9 V → V.cell? ⟨g1, 5, none⟩ = some (.string p.t.lab.nm) := fun V hV => (HF9.out.t7.later HF9.out.g7 hV).c5
      have p6 : ∀ V, Later v9 V → V.cell? ⟨g1, 6, none⟩ = some (.string p.t.lab.op) := fun V hV => (HF9.out.t7.later HF9.out.g7 hV).c6
      have p7 : ∀ V, Later v9 V → V.cell? ⟨g1, 7, none⟩ = some (.slice p.a p.t.args.length p.cap) := fun V hV => (HF9.out.t7.later HF9.out.g7 hV).c7
      have q0 : ∀ V, Later v9 V → V.cell? ⟨h1, 0, none⟩ = some (.int .i64 q.t.lab.kd) := fun V hV => (HF9.out.t8.later HF9.out.g8 hV).c0
      have q1 : ∀ V, Later v9 V → V.cell? ⟨h1, 1, none⟩ = some (.int .u8 q.t.lab.v.k) := fun V hV => (HF9.out.t8.later HF9.out.g8 hV).c1
      have q2 : ∀ V, Later v9 V → V.cell? ⟨h1, 2, none⟩ = some (.int .i64 q.t.lab.v.n) := fun V hV => (HF9.out.t8.later HF9.out.g8 hV).c2
      have q3 : ∀ V, Later v9 V → V.cell? ⟨h1, 3, none⟩ = some (.string q.t.lab.v.s) := fun V hV => (HF9.out.t8.later HF9.out.g8 hV).c3
      have q4 : ∀ V, Later v9 V → V.cell? ⟨h1, 4, none⟩ = some (.string q.t.lab.tb) := fun V hV => (HF9.out.t8.later HF9.out.g8 hV).c4
      have q5 : ∀ V, Later v9 V → V.cell? ⟨h1, 5, none⟩ = some (.string q.t.lab.nm) := fun V hV => (HF9.out.t8.later HF9.out.g8 hV).c5
      have q6 : ∀ V, Later v9 V → V.cell? ⟨h1, 6, none⟩ = some (.string q.t.lab.op) := fun V hV => (HF9.out.t8.later HF9.out.g8 hV).c6
      have q7 : ∀ V, Later v9 V → V.cell? ⟨h1, 7, none⟩ = some (.slice q.a q.t.args.length q.cap) := fun V hV => (HF9.out.t8.later HF9.out.g8 hV).c7
      repeat (first | (refine wpO_F (v := ?_) rfl (by rfl) (fun w' hL => ?_) ?_; rotate_left; (solve | (go_simp; with_reducible rfl) | go_simp); try simp only [Act.put, List.setIfInBounds_toArray, List.set_cons_zero, List.set_cons_succ]) | (refine wpO_G rfl (by rfl) ?_; try simp only [Act.put, List.setIfInBounds_toArray, List.set_cons_zero, List.set_cons_succ]))
      refine wpO_C rfl (by rfl) ?_
      go_simp
      refine (HSm.out _ HF9.out.base.xat HF9.out.base.yat).mono ?_
      rintro e v10 ⟨rfl, hb⟩
      refine ⟨hb, ?_⟩
      try simp only [Act.put, List.setIfInBounds_toArray, List.set_cons_zero, List.set_cons_succ]
      have HF10 := Lib.hid (HF9.out.later hb)
      clear hb
      clear e0 e1 e2 e3 e4 e5 e6 e7 o0 o1 o2 o3 o4 o5 o6 o7 p0 p1 p2 p3 p4 p5 p6 p7 q0 q1 q2 q3 q4 q5 q6 q7
      repeat (first | (refine wpO_F (v := ?_) rfl (by rfl) (fun w' hL => ?_) ?_; rotate_left; (solve | (go_simp; with_reducible rfl) | go_simp); try simp only [Act.put, List.setIfInBounds_toArray, List.set_cons_zero, List.set_cons_succ]) | (refine wpO_G rfl (by rfl) ?_; try simp only [Act.put, List.setIfInBounds_toArray, List.set_cons_zero, List.set_cons_succ]))
      refine wpO_C rfl (by rfl) ?_
      go_simp
      refine (HRs.out _).mono ?_
      rintro e v11 ⟨rfl, hb⟩
      refine ⟨hb, ?_⟩
      try simp only [Act.put, List.setIfInBounds_toArray, List.set_cons_zero, List.set_cons_succ]
      have HF11 := Lib.hid (HF10.out.later hb)
      clear hb
      repeat (first | (refine wpO_F (v := ?_) rfl (by rfl) (fun w' hL => ?_) ?_; rotate_left; (solve | (go_simp; with_reducible rfl) | go_simp); try simp only [Act.put, List.setIfInBounds_toArray, List.set_cons_zero, List.set_cons_succ]) | (refine wpO_G rfl (by rfl) ?_; try simp only [Act.put, List.setIfInBounds_toArray, List.set_cons_zero, List.set_cons_succ]))
      refine wpO_C rfl (by rfl) ?_
      go_simp
      refine (HRq.out _).mono ?_
      rintro e v12 ⟨rfl, hb⟩
      refine ⟨hb, ?_⟩
      try simp only [Act.put, List.setIfInBounds_toArray, List.set_cons_zero, List.set_cons_succ]
      have HF12 := Lib.hid (HF11.out.later hb)
      clear hb
      repeat (first | (refine wpO_F (v := ?_) rfl (by rfl) (fun w' hL => ?_) ?_; rotate_left; (solve | (go_simp; with_reducible rfl) | go_simp); try simp only [Act.put, List.setIfInBounds_toArray, List.set_cons_zero, List.set_cons_succ]) | (refine wpO_G rfl (by rfl) ?_; try simp only [Act.put, List.setIfInBounds_toArray, List.set_cons_zero, List.set_cons_succ]))
      refine wpO_nil ?_
      go_wp2
      go_ret
      exact ⟨ret_b (by first | rfl | simp), HF12.out.base.bel⟩
end Go.Proofs.YtbnddpicpomakaaGreatDoor

/- An expression that comes in as an argument. -/
set_option linter.unusedSimpArgs false
set_option linter.unusedVariables false
set_option maxRecDepth 100000
namespace Go.Proofs.YtbnddpicpomakaaGreatDoor
open Go.RowKit Go.ChangeShapes Go.WideShapes Go.Deep Go.Joins

theorem weights_all_mem {H : Type} {P : Program} {e : TypeId} : ∀ {l : List (DataW H)} {d : DataW H}, d ∈ l → ∀ n ∈ d.weights P e, n ∈ DataW.weightsAll P e l
  | [], _, h, _, _ => by cases h
  | y :: r, d, h, n, hn => by
    simp only [DataW.weightsAll, List.mem_append]
    rcases List.mem_cons.1 h with rfl | h
    · exact .inl hn
    · exact .inr (weights_all_mem h n hn)

theorem ListR.of {α β : Type} (R : α → β → Prop) : ∀ (l : List α), (∀ x ∈ l, ∃ y, R x y) → ∃ m : List β, m.length = l.length ∧ ∀ (i : Nat) (x : α), l[i]? = some x → ∃ y, m[i]? = some y ∧ R x y
  | [], _ => ⟨[], rfl, fun i x h => by simp at h⟩
  | a :: r, h => by
    obtain ⟨y, hy⟩ := h a List.mem_cons_self
    obtain ⟨m, hm, hR⟩ := ListR.of R r (fun x hx => h x (List.mem_cons_of_mem _ hx))
    refine ⟨y :: m, by simp [hm], fun i x hi => ?_⟩
    cases i with
    | zero => simp at hi; subst hi; exact ⟨y, rfl, hy⟩
    | succ i => obtain ⟨z, h1, h2⟩ := hR i x (by simpa using hi); exact ⟨z, by simpa using h1, h2⟩

/-- What is asked of the sizes. -/
def Sized {H : Type} (T : TypeId) (d : DataW H) : Prop := ∀ n ∈ d.weights Tryz.prog T, n ≤ reachBytes

set_option maxRecDepth 100000 in
theorem trod_expr {T S : TypeId} {f0 f1 f2 f3 f4 f5 : Field} (hT : Tryz.prog.underlying T = some (.struct #[f0, f1, f2, f3, f4, f5])) (hS : Tryz.prog.underlying S = some (.slice T)) (hC : Tryz.prog.cellsOf T = 8) (c4 : Tryz.prog.cellsOf S = 1)
    (e0 : f0.type = 3 ∧ f0.offset = 0) (e1 : f1.type = 42 ∧ f1.offset = 1) (e2 : f2.type = 9 ∧ f2.offset = 4) (e3 : f3.type = 9 ∧ f3.offset = 5) (e4 : f4.type = 9 ∧ f4.offset = 6) (e5 : f5.type = S ∧ f5.offset = 7)
    {H : Type} {enc : TypeId × Value → H} {w : World} : ∀ (fuel : Nat) (cs : List Value) (x : DataW H × List MemPlace), DataW.trod enc Tryz.prog w 0 (fun _ => true) true fuel T cs = some x → Sized T x.1 →
    ∃ r : XM, cs = cellsX r ∧ XAt w.heap.size w fuel r := by
  intro fuel
  induction fuel using Nat.strongRecOn with
  | ind fuel ih =>
    intro cs x h hsz
    obtain ⟨xs, n, rfl, rfl, hl, hlen, hf⟩ := DataW.trod_struct hT h
    rw [hC] at hl
    match cs, hl with
    | [v0, v1, v2, v3, v4, v5, v6, v7], _ =>
      match xs, hlen with
      | [y0, y1, y2, y3, y4, y5], _ =>
        have c1 : Tryz.prog.cellsOf 3 = 1 := by kernel_rfl
        have c2 : Tryz.prog.cellsOf 42 = 3 := by kernel_rfl
        have c3 : Tryz.prog.cellsOf 9 = 1 := by kernel_rfl
        have g0 : DataW.trod enc Tryz.prog w 0 (fun _ => true) true n 3 [v0] = some y0 := by have := hf 0 f0 rfl; rw [e0.1, e0.2, c1] at this; exact this
        have g1 : DataW.trod enc Tryz.prog w 0 (fun _ => true) true n 42 [v1, v2, v3] = some y1 := by have := hf 1 f1 rfl; rw [e1.1, e1.2, c2] at this; exact this
        have g2 : DataW.trod enc Tryz.prog w 0 (fun _ => true) true n 9 [v4] = some y2 := by have := hf 2 f2 rfl; rw [e2.1, e2.2, c3] at this; exact this
        have g3 : DataW.trod enc Tryz.prog w 0 (fun _ => true) true n 9 [v5] = some y3 := by have := hf 3 f3 rfl; rw [e3.1, e3.2, c3] at this; exact this
        have g4 : DataW.trod enc Tryz.prog w 0 (fun _ => true) true n 9 [v6] = some y4 := by have := hf 4 f4 rfl; rw [e4.1, e4.2, c3] at this; exact this
        have g5 : DataW.trod enc Tryz.prog w 0 (fun _ => true) true n S [v7] = some y5 := by have := hf 5 f5 rfl; rw [e5.1, e5.2, c4] at this; exact this
        obtain ⟨z0, q0, p0, w0⟩ := DataW.trod_int Tryz.underlying3 g0
        obtain ⟨u0, u1, u2, n1, rfl, _, k0, k1, k2⟩ := trod_struct3 Tryz.underlying42 g1
        have m0 : DataW.trod enc Tryz.prog w 0 (fun _ => true) true n1 5 [v1] = some u0 := k0
        have m1 : DataW.trod enc Tryz.prog w 0 (fun _ => true) true n1 2 [v2] = some u1 := k1
        have m2 : DataW.trod enc Tryz.prog w 0 (fun _ => true) true n1 9 [v3] = some u2 := k2
        obtain ⟨b0, q1, p1, w1⟩ := DataW.trod_int Tryz.underlying5 m0
        obtain ⟨b1, q2, p2, w2⟩ := DataW.trod_int Tryz.underlying2 m1
        obtain ⟨s3, q3, p3, w3⟩ := DataW.trod_string Tryz.underlying9 m2
        obtain ⟨s4, q4, p4, w4⟩ := DataW.trod_string Tryz.underlying9 g2
        obtain ⟨s5, q5, p5, w5⟩ := DataW.trod_string Tryz.underlying9 g3
        obtain ⟨s6, q6, p6, w6⟩ := DataW.trod_string Tryz.underlying9 g4
        simp only [List.cons.injEq, and_true] at q0 q1 q2 q3 q4 q5 q6
        subst q0 q1 q2 q3 q4 q5 q6
        obtain ⟨kk, rfl, hkk⟩ := nat_u8 w1
        have hW : ∀ m, (m ∈ (u2.1).weights Tryz.prog 9 ∨ m ∈ y2.1.weights Tryz.prog 9 ∨ m ∈ y3.1.weights Tryz.prog 9 ∨ m ∈ y4.1.weights Tryz.prog 9 ∨ m ∈ y5.1.weights Tryz.prog S) → m ≤ reachBytes := by
          intro m hm
          refine hsz m ?_
          simp only [DataW.weights, hT, List.map_cons, List.map_nil, DataW.weightsEach, e0.1, e1.1, e2.1, e3.1, e4.1, e5.1, List.mem_append, Tryz.underlying42]
          simp
          rcases hm with h | h | h | h | h <;> simp [h]
        have B3 : s3.size ≤ 140737488351232 := by have := hW s3.data.toList.length (by rw [p3]; simp [DataW.weights]); unfold reachBytes at this; simpa using this
        have B4 : s4.size ≤ 140737488351232 := by have := hW s4.data.toList.length (by rw [p4]; simp [DataW.weights]); unfold reachBytes at this; simpa using this
        have B5 : s5.size ≤ 140737488351232 := by have := hW s5.data.toList.length (by rw [p5]; simp [DataW.weights]); unfold reachBytes at this; simpa using this
        have B6 : s6.size ≤ 140737488351232 := by have := hW s6.data.toList.length (by rw [p6]; simp [DataW.weights]); unfold reachBytes at this; simpa using this
        have HL : Lb.fair ⟨z0, ⟨kk, b1, s3⟩, s4, s5, s6⟩ := ⟨bd_i64 w0, hkk, bd_i64 w2, B3, B4, B5, B6⟩
        rcases DataW.trod_slice hS g5 with ⟨hcs, _⟩ | ⟨a, len, cap, elems, rest, n2, hn, hcs, hy5, hb, hlc, hcm, hel, hel2, -, -⟩
        · simp only [List.cons.injEq, and_true] at hcs
          subst hcs
          exact ⟨⟨.mk ⟨z0, ⟨kk, b1, s3⟩, s4, s5, s6⟩ [], none, 0⟩, rfl, HL, Nat.le_refl _, by simp, [], rfl, .inl rfl, fun y hy => by cases hy⟩
        · simp only [List.cons.injEq, and_true] at hcs
          subst hcs hn
          have hkid : ∀ i : Fin len, ∃ r : XM, XAt w.heap.size w n2 r ∧ ∀ (j : Nat) (v : Value), (cellsX r)[j]? = some v → w.cell? ((a.add (i.1 * 8)).add j) = some v := by
            intro i
            have hi := hel2 i.1 i.2
            rw [hC] at hi
            have hil : i.1 < elems.length := by rw [hel]; exact i.2
            rw [List.getElem?_eq_getElem hil] at hi
            obtain ⟨cs', hc', ht'⟩ := Option.bind_eq_some_iff.1 hi
            obtain ⟨_, hlen, hat⟩ := World.cells?_some hc'
            obtain ⟨r, rfl, hr⟩ := ih n2 (by omega) cs' _ ht' (fun m hm => hW m (.inr (.inr (.inr (.inr (by
              rw [hy5]
              simp only [DataW.weights, hS, List.mem_cons, List.mem_append]
              exact .inr (.inl (weights_all_mem (List.mem_map.2 ⟨_, List.getElem_mem hil, rfl⟩) m hm))))))))
            exact ⟨r, hr, fun j v hj => by rw [hat j (by have h9 := (List.getElem?_eq_some_iff.1 hj).1; rw [cellsX_len] at h9; exact h9)]; exact hj⟩
          obtain ⟨L, h1, h2, h3⟩ := row_of cellsX 8 (by omega) cellsX_len (fun r => XAt w.heap.size w n2 r) w a len hkid
          unfold maxLen at hcm
          refine ⟨⟨.mk ⟨z0, ⟨kk, b1, s3⟩, s4, s5, s6⟩ (L.map (·.t)), some a, cap⟩, ?_, HL, ?_, by simp only; omega, L, rfl, h2, fun y hy => RoseAt.up (h3 y hy)⟩
          · subst h1; simp [cellsX, cellsR, Lb.cells, Rose.lab, Rose.args]
          · simp [Rose.args]; omega

set_option maxRecDepth 100000 in
theorem open_expr {H : Type} {enc : TypeId × Value → H} {w : World} {r : Reach} {b0 : Nat} {v : Value} {d : DataW H} {p : List MemPlace} (hv : Value.okWide Tryz.prog w r b0 45 v) (h : DataW.Trod enc Tryz.prog w 0 (fun _ => true) true 45 v d p)
    (hs : Sized 45 d) : ∃ (x : XM) (n : Nat), v = x.v ∧ XAt w.heap.size w n x := by
  obtain ⟨cs, rfl, _⟩ := okWide_struct Tryz.underlying45 hv
  obtain ⟨fuel, hf⟩ := h
  obtain ⟨x, hx, hA⟩ := trod_expr Tryz.underlying45 Tryz.underlying43 (by kernel_rfl) (by kernel_rfl) ⟨rfl, rfl⟩ ⟨rfl, rfl⟩ ⟨rfl, rfl⟩ ⟨rfl, rfl⟩ ⟨rfl, rfl⟩ ⟨rfl, rfl⟩ fuel cs.toList (d, p) hf hs
  refine ⟨x, fuel, ?_, hA⟩
  unfold XM.v
  rw [← hx]
end Go.Proofs.YtbnddpicpomakaaGreatDoor

/- Go's tables of UTF-8, out of what the card lists. -/
set_option linter.unusedSimpArgs false
set_option linter.unusedVariables false
set_option maxRecDepth 100000
namespace Go.Proofs.YtbnddpicpomakaaGreatDoor
open Go Go.Lib Go.Shelf

theorem tabs_of {P : Program} {ρ : Ren} (L : Lays.n196 P ρ) {nm3 nm4 : String} (n3 : P.globalNamed nm3 = some (ρ.g 3)) (n4 : P.globalNamed nm4 = some (ρ.g 4)) (y3 : (P.globals[ρ.g 3]?).map (·.type) = some (ρ.t 119)) (y4 : (P.globals[ρ.g 4]?).map (·.type) = some (ρ.t 139))
    (c5 : P.cellsOf (ρ.t 5) = 1) (c119 : P.cellsOf (ρ.t 119) = 256) (c138 : P.cellsOf (ρ.t 138) = 2) {w : World} (h3 : VarReads P w nm3 firstData) (h4 : VarReads P w nm4 acceptData) : Lib.Utf8Tabs (ρ.g 3) (ρ.g 4) w := by
  refine ⟨fun c hc => ?_, fun i hi => ?_⟩
  · obtain ⟨g, t, cs, fuel, p, hg, hty, hvar, hd⟩ := h3
    obtain rfl := Option.some.inj (n3.symm.trans hg)
    obtain rfl := Option.some.inj (y3.symm.trans hty)
    have hcs := cells_of_tab L.t119 L.t5 c5 c119 hd
    have := World.var?_cell hg hvar c
    rw [this, ← Array.getElem?_toList, hcs]
    simp [firstTab, hc]
  · obtain ⟨g, t, cs, fuel, p, hg, hty, hvar, hd⟩ := h4
    obtain rfl := Option.some.inj (n4.symm.trans hg)
    obtain rfl := Option.some.inj (y4.symm.trans hty)
    obtain ⟨fuel', d, q, hdi, he⟩ := array_elem L.t139 hd i hi
    simp only [List.getElem?_map, List.getElem?_range hi, Option.map_some, Option.some.injEq] at hdi
    subst hdi
    rw [c138] at he
    have hcs := ints_of_struct L.t138 (fun j f hj => by
      match j, hj with
      | 0, hj => simp at hj; subst hj; exact ⟨L.t5, rfl, c5⟩
      | 1, hj => simp at hj; subst hj; exact ⟨L.t5, rfl, c5⟩
      | j + 2, hj => simp at hj) (by rw [c138]; rfl) he
    have e0 := congrArg (·[0]?) hcs
    have e1 := congrArg (·[1]?) hcs
    simp only [List.getElem?_take, List.getElem?_drop] at e0 e1
    constructor
    · rw [World.var?_cell hg hvar (2 * i), ← Array.getElem?_toList]
      simpa [Nat.mul_comm] using e0
    · rw [World.var?_cell hg hvar (2 * i + 1), ← Array.getElem?_toList]
      simpa [Nat.mul_comm] using e1

theorem first_eq : Rows.laid_unicode_utf8_first = firstData := Pinned.utf8First_eq
theorem accept_eq : (Rows.laid_unicode_utf8_acceptRanges : DataW Unit) = acceptData := by kernel_rfl

/-- The two tables, where the listed variables read as the card has them. -/
theorem tabs_laid {l : List (String × DataW Unit)} {w : World} (h : laidMet Tryz.prog l w) {nm3 nm4 : String} (m3 : (nm3, Rows.laid_unicode_utf8_first) ∈ l) (m4 : (nm4, (Rows.laid_unicode_utf8_acceptRanges : DataW Unit)) ∈ l)
    (n3 : Tryz.prog.globalNamed nm3 = some (Tryz.laysValid_ren.g 3)) (n4 : Tryz.prog.globalNamed nm4 = some (Tryz.laysValid_ren.g 4)) : Tabs w :=
  tabs_of Tryz.laysValid n3 n4 (by kernel_rfl) (by kernel_rfl) (by kernel_rfl) (by kernel_rfl) (by kernel_rfl) (first_eq ▸ Lib.laidMet.reads h m3) (accept_eq ▸ Lib.laidMet.reads h m4)
end Go.Proofs.YtbnddpicpomakaaGreatDoor

/- What the package's variables hold, out of what the card lists; and the wrap that hands the world's shape too. -/
set_option linter.unusedSimpArgs false
set_option linter.unusedVariables false
set_option maxRecDepth 100000
namespace Go.Proofs.YtbnddpicpomakaaGreatDoor
set_option linter.unusedSimpArgs false
open Go Go.Lib Go.Shelf Go.RowKit Go.ChangeShapes

theorem star5 : "*" ++ "errors.errorString" = "*errors.errorString" := by decide
theorem row5 (u : TypeId) (h : Tryz.prog.typeName? 3 u = some "*errors.errorString") : u = 168 :=
  typeName_ptr_named (nm := "errors.errorString") (by rw [star5]; kernel_rfl) (by kernel_rfl) (by decide) u (by rw [star5]; exact h)

theorem pow_eq : Rows.laid_internal_strconv_uint64pow10 = tabData (H := Unit) .u64 Lib.pow10Tab := by kernel_rfl

theorem pow_reads {P : Program} {w : World} {nm : String} {t e : TypeId} {g : Nat} (hg : P.globalNamed nm = some g) (hty : (P.globals[g]?).map (·.type) = some t) (ht : P.underlying t = some (.array 20 e)) (he : P.underlying e = some (.int .u64)) (hce : P.cellsOf e = 1) (hct : P.cellsOf t = 20)
    (h : VarReads P w nm (tabData .u64 Lib.pow10Tab)) : Lib.TabIs P w nm .u64 Lib.pow10Tab := by
  obtain ⟨g', t', cs, fuel, p, hg', ht', hvar, hd⟩ := h
  obtain rfl := Option.some.inj (hg.symm.trans hg')
  obtain rfl := Option.some.inj (hty.symm.trans ht')
  unfold TabIs
  rw [hvar, ← cells_of_tab ht he hce hct hd]

theorem pre4_laid {l : List (String × DataW Unit)} {w : World} (h : laidMet Tryz.prog l w) (hsh : w.ShapedOpen Tryz.prog) {nm3 nm4 : String} (m2 : (powName, Rows.laid_internal_strconv_uint64pow10) ∈ l) (m3 : (nm3, Rows.laid_unicode_utf8_first) ∈ l) (m4 : (nm4, (Rows.laid_unicode_utf8_acceptRanges : DataW Unit)) ∈ l)
    (n3 : Tryz.prog.globalNamed nm3 = some (Tryz.laysValid_ren.g 3)) (n4 : Tryz.prog.globalNamed nm4 = some (Tryz.laysValid_ren.g 4)) : Pre4 w where
  tabs := tabs_laid h m3 m4 n3 n4
  maxlen := Tryz.laysRepl.s1_3 w hsh
  pow := pow_reads (g := (Tryz.prog.globalNamed powName).getD 0) (t := 158) (e := 132) (by kernel_rfl) (by kernel_rfl) Tryz.underlying158 Tryz.underlying132 (by kernel_rfl) (by kernel_rfl) (pow_eq ▸ Lib.laidMet.reads h m2)

theorem pre5_laid {x0 x1 x5 : String × DataW Unit} {nm3 nm4 nm5 : String} {r : List (String × DataW Unit)} {w : World} (h : laidMet Tryz.prog (x0 :: x1 :: (powName, Rows.laid_internal_strconv_uint64pow10) :: (nm4, (Rows.laid_unicode_utf8_acceptRanges : DataW Unit)) :: (nm5, Rows.laid_strconv_ErrRange) :: x5 :: (nm3, Rows.laid_unicode_utf8_first) :: r) w) (hsh : w.ShapedOpen Tryz.prog)
    (n3 : Tryz.prog.globalNamed nm3 = some (Tryz.laysValid_ren.g 3)) (n4 : Tryz.prog.globalNamed nm4 = some (Tryz.laysValid_ren.g 4)) (n5 : Tryz.prog.globalNamed nm5 = some (Tryz.laysParse_ren.g 16)) : Pre5 w where
  toPre4 := pre4_laid h hsh (List.Mem.tail _ (List.Mem.tail _ (List.Mem.head _))) (List.Mem.tail _ (List.Mem.tail _ (List.Mem.tail _ (List.Mem.tail _ (List.Mem.tail _ (List.Mem.tail _ (List.Mem.head _))))))) (List.Mem.tail _ (List.Mem.tail _ (List.Mem.tail _ (List.Mem.head _)))) n3 n4
  rng := by
    obtain ⟨a, s, hv, _⟩ := laid_sentinel h.tail.tail.tail.tail (g := Tryz.laysParse_ren.g 16) (ti := 104) (tp := 168) (te := 170) (ts := 9) n5 (by kernel_rfl) Tryz.underlying104 row5 Tryz.underlying168 Tryz.underlying170 rfl rfl Tryz.underlying9 (by kernel_rfl) (by kernel_rfl)
    exact ⟨_, by simpa using World.var?_cell n5 hv 0, .inr ⟨_, _, rfl⟩⟩

section
variable {H : Type} {enc : TypeId × Value → H}

/-- As the wrap of a row with a premise of its own; it hands the contract the world's shape too. -/
theorem handed_change_shaped {a : Assume} {C : Checked} {os : Os} {f : FuncId} {fn : Func} {s : ChangeSpec} {conds : List PathCond} {apart fresh handsOn again : Bool} {X : World → Array Value → Prop}
    (hX : ∀ (w w' : World) (args : Array Value), w.heap = w'.heap → X w args → X w' args)
    (own : ownKnob C.prog.godebug = none) (started : os.Started) (noInit : C.prog.inits.idxOf? f = none) (hfn : C.prog.funcs[f]? = some fn)
    (witness : ∃ (w : World) (tape : Tape) (i : Input), w.os = os ∧ (w.forCall tape i).Shaped C.prog ∧ i.vars = [] ∧ Input.okWide C.prog (w.forCall tape i) .any w.heap.size f i ∧
      ((s.pre enc C.prog fn conds apart (w.forCall tape i).memory i.args ∧ X (w.forCall tape i).memory i.args) ∧ sizedMet enc C.prog fn (OpenSpec.ofChange s) apart (w.forCall tape i).memory i.args) ∧ a.holds C.prog (lone (Frame.enter C.prog f i.args .normal) [] (w.forCall tape i)))
    (contract : ∀ (W : World) (base : Nat) (args : Array Value) (ds gs : List (DataW H)) (before : List MemPlace),
      (∀ (j : Nat) t v, fn.params[j]? = some t → args[j]? = some v → Value.okWide C.prog W .any base t v) →
      DataW.Whole enc C.prog fn.params.toList s.vars apart W args.toList ds gs before →
      conds.all (PathCond.test C.prog ⟨fn.params.toList, ds, s.plain.varTypes C.prog, gs⟩) = true →
      (DataW.weightsEach C.prog (fn.params.toList ++ s.plain.varTypes C.prog) (ds ++ gs)).all (· ≤ reachBytes) = true → X W args → W.ShapedOpen C.prog →
      a.holds C.prog (lone (Frame.enter C.prog f args .normal) [] W) →
      Calls C.prog f args W fun e W' => ∃ v, e = .returned v ∧ s.post enc C.prog fn apart fresh handsOn again W args v W') :
    ReturnsInHanded a C os f .any (fun w args => (s.pre enc C.prog fn conds apart w args ∧ X w args) ∧ sizedMet enc C.prog fn (OpenSpec.ofChange s) apart w args) (s.post enc C.prog fn apart fresh handsOn again) := by
  refine returnsInHanded_of_calls own started noInit witness ?_
  intro w tape i _ hsh _ hok hpre hholds
  obtain ⟨_, _, _, fn', hfn', _, _, _, _, hval⟩ := hok
  have e : fn' = fn := Option.some.inj (hfn'.symm.trans hfn)
  subst e
  obtain ⟨⟨⟨ds, gs, before, hw, hc⟩, hx⟩, hz⟩ := hpre
  have hw' := DataW.Whole.of_heap (w' := w.forCall tape i) (by rfl) hw
  refine (contract (w.forCall tape i) w.heap.size i.args ds gs before hval hw' hc (hz.weights hw) (hX _ _ _ (by rfl) hx) hsh hholds).mono fun e W' ⟨v, he, hp⟩ => ?_
  subst he
  exact ChangeSpec.post_blind hp
end
end Go.Proofs.YtbnddpicpomakaaGreatDoor
