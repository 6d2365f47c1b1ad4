/- Several texts of one proof, one behind the other. -/
import Derived.Test.YtbnddpicpomakaaDoorLPk9
import Derived.SizedLaws
set_option linter.unusedSimpArgs false
set_option linter.unusedVariables false

/- Rose trees as data and in memory: a label, and a slice of such trees. -/
set_option linter.unusedSimpArgs false
set_option linter.unusedVariables false
set_option maxRecDepth 100000
namespace Go.Proofs.YtbnddpicpomakaaDoor
open Go.RowKit

/-- A tree. -/
inductive Rose (α : Type) where
  | mk (lab : α) (args : List (Rose α))

def Rose.lab {α : Type} : Rose α → α
  | .mk l _ => l
def Rose.args {α : Type} : Rose α → List (Rose α)
  | .mk _ r => r
theorem Rose.eta {α : Type} (e : Rose α) : Rose.mk e.lab e.args = e := by cases e; rfl
theorem Rose.size_arg {α : Type} [SizeOf α] {l : α} {r : List (Rose α)} {x : Rose α} (h : x ∈ r) : SizeOf.sizeOf x < SizeOf.sizeOf (Rose.mk l r) := by
  have h1 := List.sizeOf_lt_of_mem h
  simp only [Rose.mk.sizeOf_spec]
  omega

theorem Rose.ind {α : Type} {P : Rose α → Prop} (h : ∀ l args, (∀ x ∈ args, P x) → P (.mk l args)) : ∀ e, P e
  | .mk l args => h l args (fun x _ => Rose.ind h x)
termination_by e => SizeOf.sizeOf e
decreasing_by exact Rose.size_arg ‹_›

/-- A tree with the place of its arguments. -/
structure RM (α : Type) where
  t : Rose α
  a : Option Addr
  cap : Nat

def cellsR {α : Type} (c : α → List Value) (x : RM α) : List Value := c x.t.lab ++ [.slice x.a x.t.args.length x.cap]

/-- The tree lies in blocks below N, at most n levels deep, each label fair; a and cap: the place of its arguments. -/
def RoseAt {α : Type} (F : α → Prop) (c : α → List Value) (N : Nat) (w : World) : Nat → RM α → Prop
  | 0, _ => False
  | n + 1, x => F x.t.lab ∧ x.t.args.length ≤ x.cap ∧ x.cap ≤ 9223372036854775807 ∧
      ∃ L : List (RM α), L.map (·.t) = x.t.args ∧ Arr N w x.a (cellsOf (cellsR c) L) ∧ ∀ y ∈ L, RoseAt F c N w n y

theorem RoseAt.below {α : Type} {F : α → Prop} {c : α → List Value} {N : Nat} {w w' : World} (hb : Below N w w') : ∀ {n : Nat} {x : RM α}, RoseAt F c N w n x → RoseAt F c N w' n x
  | 0, _, h => h.elim
  | n + 1, _, ⟨h1, h2, h3, L, h4, h5, h6⟩ => ⟨h1, h2, h3, L, h4, h5.below hb, fun y hy => RoseAt.below hb (h6 y hy)⟩

theorem RoseAt.mono {α : Type} {F : α → Prop} {c : α → List Value} {N M : Nat} {w : World} (hM : N ≤ M) : ∀ {n : Nat} {x : RM α}, RoseAt F c N w n x → RoseAt F c M w n x
  | 0, _, h => h.elim
  | n + 1, _, ⟨h1, h2, h3, L, h4, h5, h6⟩ => ⟨h1, h2, h3, L, h4, h5.mono hM, fun y hy => RoseAt.mono hM (h6 y hy)⟩

theorem RoseAt.later {α : Type} {F : α → Prop} {c : α → List Value} {w w' : World} {n : Nat} {x : RM α} (h : RoseAt F c w.heap.size w n x) (hb : Below w.heap.size w w') : RoseAt F c w'.heap.size w' n x := (h.below hb).mono hb.size

theorem RoseAt.up {α : Type} {F : α → Prop} {c : α → List Value} {N : Nat} {w : World} : ∀ {n : Nat} {x : RM α}, RoseAt F c N w n x → RoseAt F c N w (n + 1) x
  | 0, _, h => h.elim
  | n + 1, _, ⟨h1, h2, h3, L, h4, h5, h6⟩ => ⟨h1, h2, h3, L, h4, h5, fun y hy => RoseAt.up (h6 y hy)⟩

theorem RoseAt.ups {α : Type} {F : α → Prop} {c : α → List Value} {N : Nat} {w : World} {n m : Nat} {x : RM α} (h : RoseAt F c N w n x) (hm : n ≤ m) : RoseAt F c N w m x := by
  induction hm with
  | refl => exact h
  | step _ ih => exact ih.up

theorem RoseAt.pos {α : Type} {F : α → Prop} {c : α → List Value} {N : Nat} {w : World} {n : Nat} {x : RM α} (h : RoseAt F c N w n x) : 0 < n := by
  cases n with
  | zero => exact h.elim
  | succ n => omega

theorem RoseAt.fair {α : Type} {F : α → Prop} {c : α → List Value} {N : Nat} {w : World} {n : Nat} {x : RM α} (h : RoseAt F c N w n x) : F x.t.lab ∧ x.t.args.length ≤ x.cap ∧ x.cap ≤ 9223372036854775807 := by
  cases n with
  | zero => exact h.elim
  | succ n => exact ⟨h.1, h.2.1, h.2.2.1⟩

/-- The k-th argument: its cells. -/
theorem RoseAt.kid {α : Type} {F : α → Prop} {c : α → List Value} {z : Nat} (hz : ∀ l, (c l).length = z) {N : Nat} {w : World} {n : Nat} {x : RM α} (h : RoseAt F c N w (n + 1) x) {k : Nat} (hk : k < x.t.args.length) :
    ∃ y : RM α, y.t = x.t.args[k] ∧ RoseAt F c N w n y ∧ ∃ b o, x.a = some ⟨b, o, none⟩ ∧ b < N ∧ ∀ (j : Nat) (v : Value), (cellsR c y)[j]? = some v → w.cell? ⟨b, o + k * (z + 1) + j, none⟩ = some v := by
  obtain ⟨_, _, _, L, hL, hA, hR⟩ := h
  have hlen : L.length = x.t.args.length := by rw [← hL]; simp
  have hlz : ∀ y : RM α, (cellsR c y).length = z + 1 := fun y => by simp [cellsR, hz]
  have hkL : k < L.length := by omega
  obtain ⟨b, o, ha, hb, hc⟩ := hA.at_ (by intro h0; have := cellsOf_len (cellsR c) (z + 1) hlz L; rw [h0] at this; have h2 := Nat.mul_pos (show 0 < L.length by omega) (show 0 < z + 1 by omega); rw [List.length_nil] at this; omega)
  refine ⟨L[k], ?_, hR _ (List.getElem_mem _), b, o, ha, hb, fun j v hv => ?_⟩
  · have : (L.map (·.t))[k]? = some (L[k].t) := by simp [List.getElem?_eq_getElem hkL]
    rw [hL, List.getElem?_eq_getElem hk] at this
    exact (Option.some.inj this).symm
  · have := hc _ _ (cellsOf_get (cellsR c) (z + 1) hlz L k j L[k] v (List.getElem?_eq_getElem hkL) hv)
    rw [Nat.add_assoc]; exact this

end Go.Proofs.YtbnddpicpomakaaDoor

/- Expressions (layer 20) as data and in memory: what is known of one that comes in. -/
set_option linter.unusedSimpArgs false
set_option linter.unusedVariables false
set_option maxRecDepth 100000
namespace Go.Proofs.YtbnddpicpomakaaDoor
open Go.RowKit Go.ChangeShapes Go.WideShapes Go.Deep Go.Joins

/-- All fields of an expression but its arguments. -/
structure Lb where
  kd : Int
  v : Vl
  tb : ByteArray
  nm : ByteArray
  op : ByteArray
  deriving DecidableEq

abbrev Ex := Rose Lb
abbrev XM := RM Lb

def Lb.cells (l : Lb) : List Value := [.int .i64 l.kd, .int .u8 l.v.k, .int .i64 l.v.n, .string l.v.s, .string l.tb, .string l.nm, .string l.op]
theorem Lb.cells_len (l : Lb) : l.cells.length = 7 := rfl

structure Lb.fair (l : Lb) : Prop where
  kd : -9223372036854775808 ≤ l.kd ∧ l.kd ≤ 9223372036854775807
  k : l.v.k < 256
  n : -9223372036854775808 ≤ l.v.n ∧ l.v.n ≤ 9223372036854775807
  s : l.v.s.size ≤ 140737488351232
  tb : l.tb.size ≤ 140737488351232
  nm : l.nm.size ≤ 140737488351232
  op : l.op.size ≤ 140737488351232

/-- The cells of an expression. -/
def cellsX (x : XM) : List Value := cellsR Lb.cells x
theorem cellsX_len (x : XM) : (cellsX x).length = 8 := rfl
/-- An expression by value. -/
def XM.v (x : XM) : Value := .agg (cellsX x).toArray

/-- The expression's arguments lie in blocks below N. -/
def XAt (N : Nat) (w : World) (n : Nat) (x : XM) : Prop := RoseAt Lb.fair Lb.cells N w n x

theorem XAt.below {N : Nat} {w w' : World} {n : Nat} {x : XM} (h : XAt N w n x) (hb : Below N w w') : XAt N w' n x := RoseAt.below hb h
theorem XAt.mono {N M : Nat} {w : World} {n : Nat} {x : XM} (h : XAt N w n x) (hM : N ≤ M) : XAt M w n x := RoseAt.mono hM h
theorem XAt.later {w w' : World} {n : Nat} {x : XM} (h : XAt w.heap.size w n x) (hb : Below w.heap.size w w') : XAt w'.heap.size w' n x := RoseAt.later h hb
theorem XAt.pos {N : Nat} {w : World} {n : Nat} {x : XM} (h : XAt N w n x) : 0 < n := RoseAt.pos h
theorem XAt.fair {N : Nat} {w : World} {n : Nat} {x : XM} (h : XAt N w n x) : x.t.lab.fair ∧ x.t.args.length ≤ x.cap ∧ x.cap ≤ 9223372036854775807 := RoseAt.fair h

/-- The k-th argument: its cells. -/
theorem XAt.kid {N : Nat} {w : World} {n : Nat} {x : XM} (h : XAt N w (n + 1) x) {k : Nat} (hk : k < x.t.args.length) :
    ∃ y : XM, y.t = x.t.args[k] ∧ XAt N w n y ∧ ∃ b o, x.a = some ⟨b, o, none⟩ ∧ b < N ∧ ∀ (j : Nat) (v : Value), (cellsX y)[j]? = some v → w.cell? ⟨b, o + k * 8 + j, none⟩ = some v :=
  RoseAt.kid Lb.cells_len h hk
end Go.Proofs.YtbnddpicpomakaaDoor

/- The mathematics of expressions: how deep and how many, which may be. -/
set_option linter.unusedSimpArgs false
set_option linter.unusedVariables false
set_option maxRecDepth 100000
namespace Go.Proofs.YtbnddpicpomakaaDoor
open Go.RowKit

/-- The greatest of some numbers. -/
def maxL : List Nat → Nat
  | [] => 0
  | x :: r => max x (maxL r)
theorem maxL_le {l : List Nat} {m : Nat} : maxL l ≤ m ↔ ∀ x ∈ l, x ≤ m := by
  induction l with
  | nil => simp [maxL]
  | cons x r ih => simp only [maxL, List.mem_cons, forall_eq_or_imp, ← ih]; omega
theorem maxL_snoc (l : List Nat) (x : Nat) : maxL (l ++ [x]) = max (maxL l) x := by
  induction l with
  | nil => simp [maxL]
  | cons y r ih => simp only [List.cons_append, maxL, ih]; omega
theorem maxL_mem {l : List Nat} {x : Nat} (h : x ∈ l) : x ≤ maxL l := maxL_le.1 (Nat.le_refl _) x h

section
variable {α : Type}
def Rose.depth : Rose α → Nat
  | .mk _ args => 1 + maxL (args.attach.map fun x => Rose.depth x.1)
termination_by e => SizeOf.sizeOf e
decreasing_by exact Rose.size_arg x.2
theorem Rose.depth_eq (e : Rose α) : e.depth = 1 + maxL (e.args.map Rose.depth) := by
  obtain ⟨l, args⟩ := e
  rw [Rose.depth, Rose.args]
  congr 2
  rw [List.attach_map_val (f := Rose.depth)]
theorem Rose.depth_pos (e : Rose α) : 1 ≤ e.depth := by rw [Rose.depth_eq]; omega
theorem Rose.depth_arg {e x : Rose α} (h : x ∈ e.args) : x.depth < e.depth := by
  rw [Rose.depth_eq e]
  have := maxL_mem (List.mem_map.2 ⟨x, h, rfl⟩ : x.depth ∈ e.args.map Rose.depth)
  omega
theorem Rose.depth_le {e : Rose α} {n : Nat} : e.depth ≤ n + 1 ↔ ∀ x ∈ e.args, x.depth ≤ n := by
  rw [Rose.depth_eq]
  have := @maxL_le (e.args.map Rose.depth) n
  simp only [List.mem_map, forall_exists_index, and_imp, forall_apply_eq_imp_iff₂] at this
  rw [← this]; omega

def Rose.count : Rose α → Nat
  | .mk _ args => 1 + (args.attach.map fun x => Rose.count x.1).sum
termination_by e => SizeOf.sizeOf e
decreasing_by exact Rose.size_arg x.2
theorem Rose.count_eq (e : Rose α) : e.count = 1 + (e.args.map Rose.count).sum := by
  obtain ⟨l, args⟩ := e
  rw [Rose.count, Rose.args]
  congr 2
  rw [List.attach_map_val (f := Rose.count)]
theorem Rose.count_pos (e : Rose α) : 1 ≤ e.count := by rw [Rose.count_eq]; omega

/-- Do all labels do, each with the number of its arguments? -/
def Rose.allB (p : α → Nat → Bool) : Rose α → Bool
  | .mk l args => p l args.length && args.attach.all fun x => Rose.allB p x.1
termination_by e => SizeOf.sizeOf e
decreasing_by exact Rose.size_arg x.2
theorem Rose.allB_eq (p : α → Nat → Bool) (e : Rose α) : e.allB p = (p e.lab e.args.length && e.args.all (Rose.allB p)) := by
  obtain ⟨l, args⟩ := e
  rw [Rose.allB, Rose.args, Rose.lab]
  congr 1
  rw [Bool.eq_iff_iff, List.all_eq_true, List.all_eq_true]
  simp

theorem sum_le_max {l : List Nat} : maxL l ≤ l.sum := by
  induction l with
  | nil => simp [maxL]
  | cons x r ih => simp only [maxL, List.sum_cons]; omega

theorem Rose.depth_le_count (e : Rose α) : e.depth ≤ e.count := by
  induction e using Rose.ind with
  | h l args ih =>
    rw [Rose.depth_eq, Rose.count_eq]
    have h1 : maxL ((Rose.mk l args).args.map Rose.depth) ≤ ((Rose.mk l args).args.map Rose.count).sum := by
      refine Nat.le_trans ?_ sum_le_max
      rw [maxL_le]
      intro x hx
      obtain ⟨y, hy, rfl⟩ := List.mem_map.1 hx
      exact Nat.le_trans (ih y hy) (maxL_mem (List.mem_map.2 ⟨y, hy, rfl⟩))
    omega

/-- All labels do, and no more than so many levels. -/
def Rose.fits (p : α → Nat → Bool) : Nat → Rose α → Bool
  | 0, _ => false
  | n + 1, e => p e.lab e.args.length && e.args.all (Rose.fits p n)
theorem Rose.fits_eq (p : α → Nat → Bool) : ∀ (n : Nat) (e : Rose α), e.fits p n = (e.allB p && decide (e.depth ≤ n))
  | 0, e => by have := e.depth_pos; simp [Rose.fits]; omega
  | n + 1, e => by
    rw [Rose.fits, Rose.allB_eq, Bool.eq_iff_iff]
    simp only [Bool.and_eq_true, List.all_eq_true, decide_eq_true_iff, Rose.depth_le, Rose.fits_eq p n]
    constructor
    · rintro ⟨h1, h2⟩; exact ⟨⟨h1, fun x hx => (h2 x hx).1⟩, fun x hx => (h2 x hx).2⟩
    · rintro ⟨⟨h1, h2⟩, h3⟩; exact ⟨h1, fun x hx => ⟨h2 x hx, h3 x hx⟩⟩
end

/-- Is an expression too much for a statement? -/
def Lb.big (l : Lb) (n : Nat) : Bool := decide (6 < n) || decide (100 < l.nm.size + l.tb.size + l.op.size) || decide (200 < l.v.s.size)
def greatX : Nat → Ex → Bool
  | 0, _ => true
  | n + 1, e => e.lab.big e.args.length || e.args.any (greatX n)
theorem greatX_fits : ∀ (n : Nat) (e : Ex), greatX n e = !e.fits (fun l k => !l.big k) n
  | 0, e => rfl
  | n + 1, e => by
    rw [greatX, Rose.fits, Bool.eq_iff_iff]
    have : e.args.any (greatX n) = !e.args.all (Rose.fits (fun l k => !l.big k) n) := by
      rw [List.any_eq_not_all_not]
      congr 2
      funext x
      rw [greatX_fits n x]; simp
    rw [this]
    simp

/-- A string's bytes. -/
def sB (l : List Nat) : ByteArray := strN l

def resL : List (List Nat) := [
  [97, 110, 100],
  [97, 115],
  [97, 115, 99],
  [98, 101, 103, 105, 110],
  [98, 101, 116, 119, 101, 101, 110],
  [98, 108, 111, 98],
  [98, 121],
  [99, 111, 109, 109, 105, 116],
  [99, 114, 101, 97, 116, 101],
  [100, 101, 108, 101, 116, 101],
  [100, 101, 115, 99],
  [100, 105, 115, 116, 105, 110, 99, 116],
  [100, 114, 111, 112],
  [102, 111, 114],
  [102, 114, 111, 109],
  [103, 114, 111, 117, 112],
  [105, 110, 100, 101, 120],
  [105, 110, 115, 101, 114, 116],
  [105, 110, 116],
  [105, 110, 116, 111],
  [105, 115],
  [106, 111, 105, 110],
  [107, 101, 121],
  [108, 105, 107, 101],
  [108, 105, 109, 105, 116],
  [110, 111, 116],
  [110, 117, 108, 108],
  [111, 102],
  [111, 110],
  [111, 114],
  [111, 114, 100, 101, 114],
  [112, 101, 114, 105, 111, 100],
  [112, 111, 114, 116, 105, 111, 110],
  [112, 114, 105, 109, 97, 114, 121],
  [112, 114, 117, 110, 101],
  [114, 101, 108, 101, 97, 115, 101],
  [114, 111, 108, 108, 98, 97, 99, 107],
  [115, 97, 118, 101, 112, 111, 105, 110, 116],
  [115, 101, 108, 101, 99, 116],
  [115, 101, 116],
  [115, 121, 115, 116, 101, 109, 95, 116, 105, 109, 101],
  [116, 97, 98, 108, 101],
  [116, 101, 120, 116],
  [116, 111],
  [117, 112, 100, 97, 116, 101],
  [118, 97, 108, 117, 101, 115],
  [118, 101, 114, 115, 105, 111, 110, 101, 100],
  [119, 104, 101, 114, 101],
  [119, 105, 116, 104, 111, 117, 116]]
/-- A reserved word? -/
def resB (s : ByteArray) : Bool := resL.any fun l => s.toList == l.map UInt8.ofNat
/-- The name of a column or a table? -/
def isX (s : ByteArray) : Bool := decide ((nameV s).2 = 0) && decide ((nameV s).1 = s) && !resB s
def binL : List (List Nat) := [[111, 114], [97, 110, 100], [61], [60, 62], [60], [60, 61], [62], [62, 61], [108, 105, 107, 101], [124, 124], [43], [45], [42], [47], [37]]
def inL (L : List (List Nat)) (s : ByteArray) : Bool := L.any fun l => s.toList == l.map UInt8.ofNat
def unL : List (List Nat) := [[45], [110, 111, 116]]
def nullL : List (List Nat) := [[105, 115, 32, 110, 117, 108, 108], [105, 115, 32, 110, 111, 116, 32, 110, 117, 108, 108]]
def aggL : List (List Nat) := [[99, 111, 117, 110, 116], [115, 117, 109], [109, 105, 110], [109, 97, 120]]
def countL : List (List Nat) := [[99, 111, 117, 110, 116]]
def callL : List (List Nat) := [[111, 118, 101, 114, 108, 97, 112, 115], [99, 111, 110, 116, 97, 105, 110, 115]]
def lenL : List (List Nat) := [[108, 101, 110, 103, 116, 104]]
/-- Is there such an operation? -/
def takesB (k : Int) (op : ByteArray) (n : Nat) : Bool :=
  if k = 3 then decide (n = 1) && inL unL op
  else if k = 4 then decide (n = 2) && inL binL op
  else if k = 5 then decide (n = 1) && inL nullL op
  else if k = 6 then (inL aggL op && decide (n = 1)) || (inL countL op && decide (n = 0))
  else if k = 7 then (inL callL op && decide (n = 4)) || (inL lenL op && decide (n = 1))
  else false
/-- Is a value without anything? -/
def Vl.zeroB (v : Vl) : Bool := ((v.k : Int) == 0) && ((v.n == 0) && v.s.toList.isEmpty)
/-- May a label be, with so many arguments? -/
def Lb.ok (l : Lb) (n : Nat) : Bool :=
  if l.kd = 1 then l.v.right && decide (0 ≤ l.v.n) && l.tb.toList.isEmpty && l.nm.toList.isEmpty && l.op.toList.isEmpty && ((n : Int) == 0)
  else if l.kd = 2 then isX l.nm && (l.tb.toList.isEmpty || isX l.tb) && l.v.zeroB && l.op.toList.isEmpty && ((n : Int) == 0)
  else takesB l.kd l.op n && l.v.zeroB && l.tb.toList.isEmpty && l.nm.toList.isEmpty
/-- Right, with so many levels. -/
def rightX (n : Nat) (e : Ex) : Bool := e.fits Lb.ok n
theorem rightX_eq (n : Nat) (e : Ex) : rightX n e = (e.allB Lb.ok && decide (e.depth ≤ n)) := Rose.fits_eq _ n e
end Go.Proofs.YtbnddpicpomakaaDoor

/- The walks of Reserved, isBinary, isAggregate. -/
set_option linter.unusedSimpArgs false
set_option linter.unusedVariables false
set_option maxRecDepth 100000
namespace Go.Proofs.YtbnddpicpomakaaDoor
open Go.RowKit

set_option maxHeartbeats 4000000 in
theorem isAgg_any (s : ByteArray) (w : World) : Calls Tryd.prog 111 #[.string s] w fun e w' => e = .returned (.bool (inL aggL s)) ∧ w = w' := by
  obtain ⟨b, hb⟩ : ∃ b, inL aggL s = b := ⟨_, rfl⟩
  rw [hb]
  have HB := Lib.hid hb
  clear hb
  go_enter Tryd.func111, Tryd.ntmps111
  go_wp2
  all_goals
    go_ret
    exact ⟨ret_b (by rw [← HB.out]; clear HB; simp_all [inL, aggL]), rfl⟩

set_option maxHeartbeats 4000000 in
theorem isBin_any (s : ByteArray) (w : World) : Calls Tryd.prog 110 #[.string s] w fun e w' => e = .returned (.bool (inL binL s)) ∧ w = w' := by
  obtain ⟨b, hb⟩ : ∃ b, inL binL s = b := ⟨_, rfl⟩
  rw [hb]
  have HB := Lib.hid hb
  clear hb
  go_enter Tryd.func110, Tryd.ntmps110
  go_wp2
  all_goals
    go_ret
    exact ⟨ret_b (by rw [← HB.out]; clear HB; simp_all [inL, binL]), rfl⟩

set_option maxHeartbeats 16000000 in
theorem Reserved_any (s : ByteArray) (w : World) : Calls Tryd.prog 33 #[.string s] w fun e w' => e = .returned (.bool (resB s)) ∧ w = w' := by
  obtain ⟨b, hb⟩ : ∃ b, resB s = b := ⟨_, rfl⟩
  rw [hb]
  have HB := Lib.hid hb
  clear hb
  go_enter Tryd.func33, Tryd.ntmps33
  go_wp2
  all_goals
    go_ret
    exact ⟨ret_b (by rw [← HB.out]; clear HB; simp_all [resB, resL]), rfl⟩
end Go.Proofs.YtbnddpicpomakaaDoor

/- The walks of isName, takes and valid. -/
set_option linter.unusedSimpArgs false
set_option linter.unusedVariables false
set_option maxRecDepth 100000
namespace Go.Proofs.YtbnddpicpomakaaDoor
open Go.RowKit

/-- A block of the call's own with eight cells. -/
structure Slot8 (W : World) (B : Nat) (v0 v1 v2 v3 v4 v5 v6 v7 : Value) : Prop where
  c0 : W.cell? ⟨B, 0, none⟩ = some v0
  c1 : W.cell? ⟨B, 1, none⟩ = some v1
  c2 : W.cell? ⟨B, 2, none⟩ = some v2
  c3 : W.cell? ⟨B, 3, none⟩ = some v3
  c4 : W.cell? ⟨B, 4, none⟩ = some v4
  c5 : W.cell? ⟨B, 5, none⟩ = some v5
  c6 : W.cell? ⟨B, 6, none⟩ = some v6
  c7 : W.cell? ⟨B, 7, none⟩ = some v7
theorem Slot8.new (w : World) (T : TypeId) (v0 v1 v2 v3 v4 v5 v6 v7 : Value) : Slot8 (w.alloc (.cells #[v0, v1, v2, v3, v4, v5, v6, v7] T)) w.heap.size v0 v1 v2 v3 v4 v5 v6 v7 :=
  ⟨by simp, by simp, by simp, by simp, by simp, by simp, by simp, by simp⟩
theorem Slot8.later {W W' : World} {B N : Nat} {v0 v1 v2 v3 v4 v5 v6 v7 : Value} (h : Slot8 W B v0 v1 v2 v3 v4 v5 v6 v7) (hB : B < N) (hb : Below N W W') : Slot8 W' B v0 v1 v2 v3 v4 v5 v6 v7 :=
  ⟨(hb.cell (p := ⟨B, 0, none⟩) hB).trans h.c0, (hb.cell (p := ⟨B, 1, none⟩) hB).trans h.c1, (hb.cell (p := ⟨B, 2, none⟩) hB).trans h.c2, (hb.cell (p := ⟨B, 3, none⟩) hB).trans h.c3, (hb.cell (p := ⟨B, 4, none⟩) hB).trans h.c4, (hb.cell (p := ⟨B, 5, none⟩) hB).trans h.c5, (hb.cell (p := ⟨B, 6, none⟩) hB).trans h.c6, (hb.cell (p := ⟨B, 7, none⟩) hB).trans h.c7⟩
theorem box8 (w : World) (o : Obj) : w.heap.size < (w.alloc o).heap.size := by simp
/-- The cells by name. -/
theorem XM.v_eq (x : XM) : x.v = .agg #[.int .i64 x.t.lab.kd, .int .u8 x.t.lab.v.k, .int .i64 x.t.lab.v.n, .string x.t.lab.v.s, .string x.t.lab.tb, .string x.t.lab.nm, .string x.t.lab.op, .slice x.a x.t.args.length x.cap] := rfl

theorem isX_eq (s : ByteArray) : isX s = (decide ((nameV s).2 = 0) && decide ((nameV s).1 = s) && !resB s) := rfl

set_option maxHeartbeats 2000000 in
theorem xName_any (s : ByteArray) (w : World) (hs : s.size ≤ 140737488351232) :
    Calls Tryd.prog 92 #[.string s] w fun e w' => e = .returned (.bool (isX s)) ∧ Below w.heap.size w w' := by
  have HN := Lib.hid (fun W => Name_any s W (by omega))
  have HR := Lib.hid (fun W => Reserved_any s W)
  rw [isX_eq]
  generalize nameV s = X at *
  generalize resB s = r at *
  obtain ⟨x, q⟩ := X
  simp only at HN ⊢
  by_cases hq : q = 0
  · subst hq
    by_cases hx : x = s
    · subst hx
      go_enter Tryd.func92, Tryd.ntmps92
      go_wp2_with fail
      refine (HN.out _).mono ?_
      rintro e w1 ⟨rfl, hb⟩
      go_wp2_with fail
      refine (HR.out _).mono ?_
      rintro e w2 ⟨rfl, rfl⟩
      go_wp2
      go_ret
      exact ⟨by simp, hb⟩
    · have hb : (x.toList == s.toList) = false := by rw [beq_eq_false_iff_ne]; exact fun h => hx (toList_inj h)
      have hx2 : decide (x = s) = false := decide_eq_false hx
      rw [hx2]
      clear hx hx2
      go_enter Tryd.func92, Tryd.ntmps92
      go_wp2_with fail
      refine (HN.out _).mono ?_
      rintro e w1 ⟨rfl, hb⟩
      go_wp2
      go_ret
      exact ⟨by simp, hb⟩
  · have h2 : (q == 0) = false := by simpa using hq
    go_enter Tryd.func92, Tryd.ntmps92
    go_wp2_with fail
    refine (HN.out _).mono ?_
    rintro e w1 ⟨rfl, hb⟩
    go_wp2
    go_ret
    exact ⟨ret_b (by simp [hq]), hb⟩

set_option maxHeartbeats 4000000 in
theorem takes_any (k : Int) (op : ByteArray) (n : Nat) (w : World) :
    Calls Tryd.prog 93 #[.int .i64 k, .string op, .int .i64 (n : Int)] w fun e w' => e = .returned (.bool (takesB k op n)) ∧ w = w' := by
  have HBin := Lib.hid (fun W => isBin_any op W)
  have HAgg := Lib.hid (fun W => isAgg_any op W)
  obtain ⟨b, hb⟩ : ∃ b, takesB k op n = b := ⟨_, rfl⟩
  rw [hb]
  by_cases k3 : k = 3
  · subst k3
    have HB := Lib.hid hb
    clear hb HBin HAgg
    by_cases hn : n = 1
    · subst hn
      go_enter Tryd.func93, Tryd.ntmps93
      go_wp2
      all_goals
        go_ret
        exact ⟨ret_b (by rw [← HB.out]; clear HB; simp_all [takesB, inL, unL]), rfl⟩
    · have q1 : ((n : Int) == 1) = false := by simp; omega
      go_enter Tryd.func93, Tryd.ntmps93
      go_wp2
      go_ret
      exact ⟨ret_b (by rw [← HB.out]; simp [takesB, hn]), rfl⟩
  by_cases k4 : k = 4
  · subst k4
    have HB := Lib.hid hb
    clear hb HAgg k3
    by_cases hn : n = 2
    · subst hn
      go_enter Tryd.func93, Tryd.ntmps93
      go_wp2_with fail
      refine (HBin.out _).mono ?_
      rintro e w1 ⟨rfl, rfl⟩
      go_wp2
      go_ret
      exact ⟨ret_b (by rw [← HB.out]; simp [takesB]), rfl⟩
    · have q1 : ((n : Int) == 2) = false := by simp; omega
      go_enter Tryd.func93, Tryd.ntmps93
      go_wp2
      go_ret
      exact ⟨ret_b (by rw [← HB.out]; simp [takesB, hn]), rfl⟩
  by_cases k5 : k = 5
  · subst k5
    have HB := Lib.hid hb
    clear hb HAgg HBin k3 k4
    by_cases hn : n = 1
    · subst hn
      go_enter Tryd.func93, Tryd.ntmps93
      go_wp2
      all_goals
        go_ret
        exact ⟨ret_b (by rw [← HB.out]; clear HB; simp_all [takesB, inL, nullL]), rfl⟩
    · have q1 : ((n : Int) == 1) = false := by simp; omega
      go_enter Tryd.func93, Tryd.ntmps93
      go_wp2
      go_ret
      exact ⟨ret_b (by rw [← HB.out]; simp [takesB, hn]), rfl⟩
  by_cases k6 : k = 6
  · subst k6
    have HB := Lib.hid hb
    clear hb HBin k3 k4 k5
    obtain ⟨g, hg⟩ : ∃ g, inL aggL op = g := ⟨_, rfl⟩
    rw [hg] at HAgg
    have HG := Lib.hid hg
    clear hg
    have hn : n = 0 ∨ n = 1 ∨ (n ≠ 0 ∧ n ≠ 1) := by omega
    rcases hn with rfl | rfl | ⟨hn0, hn1⟩
    · cases g <;>
      · go_enter Tryd.func93, Tryd.ntmps93
        go_wp2_with fail
        refine (HAgg.out _).mono ?_
        rintro e w1 ⟨rfl, rfl⟩
        go_wp2
        all_goals
          go_ret
          exact ⟨ret_b (by rw [← HB.out]; have h := HG.out; clear HB HG HAgg; simp_all [takesB, inL, countL]), rfl⟩
    · cases g <;>
      · go_enter Tryd.func93, Tryd.ntmps93
        go_wp2_with fail
        refine (HAgg.out _).mono ?_
        rintro e w1 ⟨rfl, rfl⟩
        go_wp2
        all_goals
          go_ret
          exact ⟨ret_b (by rw [← HB.out]; have h := HG.out; clear HB HG HAgg; simp_all [takesB, countL]), rfl⟩
    · have q0 : ((n : Int) == 0) = false := by simp; omega
      have q1 : ((n : Int) == 1) = false := by simp; omega
      cases g <;>
      · go_enter Tryd.func93, Tryd.ntmps93
        go_wp2_with fail
        refine (HAgg.out _).mono ?_
        rintro e w1 ⟨rfl, rfl⟩
        go_wp2
        all_goals
          go_ret
          exact ⟨ret_b (by rw [← HB.out]; have h := HG.out; clear HB HG HAgg; simp_all [takesB]), rfl⟩
  by_cases k7 : k = 7
  · subst k7
    have HB := Lib.hid hb
    clear hb HBin HAgg k3 k4 k5 k6
    have hn : n = 4 ∨ n = 1 ∨ (n ≠ 4 ∧ n ≠ 1) := by omega
    rcases hn with rfl | rfl | ⟨hn0, hn1⟩
    · go_enter Tryd.func93, Tryd.ntmps93
      go_wp2
      all_goals
        go_ret
        exact ⟨ret_b (by rw [← HB.out]; clear HB; simp_all [takesB, inL, callL, lenL]), rfl⟩
    · go_enter Tryd.func93, Tryd.ntmps93
      go_wp2
      all_goals
        go_ret
        exact ⟨ret_b (by rw [← HB.out]; clear HB; simp_all [takesB, inL, callL, lenL]), rfl⟩
    · have q0 : ((n : Int) == 4) = false := by simp; omega
      have q1 : ((n : Int) == 1) = false := by simp; omega
      go_enter Tryd.func93, Tryd.ntmps93
      go_wp2
      all_goals
        go_ret
        exact ⟨ret_b (by rw [← HB.out]; clear HB; simp_all [takesB, inL, callL, lenL]), rfl⟩
  · have HB := Lib.hid hb
    have q3 : (k == 3) = false := by simpa using k3
    have q4 : (k == 4) = false := by simpa using k4
    have q5 : (k == 5) = false := by simpa using k5
    have q6 : (k == 6) = false := by simpa using k6
    have q7 : (k == 7) = false := by simpa using k7
    have hf : takesB k op n = false := by unfold takesB; simp [k3, k4, k5, k6, k7]
    have hbf : b = false := by rw [← hb, hf]
    subst hbf
    clear hb HBin HAgg hf k3 k4 k5 k6 k7 HB
    go_enter Tryd.func93, Tryd.ntmps93
    go_wp2
    go_ret
    exact ⟨rfl, rfl⟩

set_option maxHeartbeats 4000000 in
theorem valid_any (x : XM) (w : World) (hF : x.t.lab.fair) :
    Calls Tryd.prog 65 #[x.v] w fun e w' => e = .returned (.bool (x.t.lab.ok x.t.args.length)) ∧ Below w.heap.size w w' := by
  rw [XM.v_eq]
  obtain ⟨⟨⟨kd, ⟨vk, vn, vs⟩, tb, nm, op⟩, args⟩, a, cap⟩ := x
  simp only [Rose.lab, Rose.args] at hF ⊢
  have hvk := hF.k
  have hvn := hF.n
  have HN := Lib.hid (fun W => xName_any nm W hF.nm)
  have HT := Lib.hid (fun W => xName_any tb W hF.tb)
  have HR := Lib.hid (fun W => right_any vk vn vs W)
  generalize args.length = n at *
  have HTk := Lib.hid (fun W => takes_any kd op n W)
  have HX := Lib.hid (Slot8.new w 39 (.int .i64 kd) (.int .u8 vk) (.int .i64 vn) (.string vs) (.string tb) (.string nm) (.string op) (.slice a n cap))
  have HB0 : Hid (∀ o, Below w.heap.size w (w.alloc o)) := fun o => (Below.refl _ w).alloc (Nat.le_refl _) _
  obtain ⟨b, hb⟩ : ∃ b, Lb.ok ⟨kd, ⟨vk, vn, vs⟩, tb, nm, op⟩ n = b := ⟨_, rfl⟩
  rw [hb]
  clear hF
  simp only [Lb.ok, Vl.zeroB] at hb
  by_cases k1 : kd = 1
  · subst k1
    generalize Vl.right ⟨vk, vn, vs⟩ = r at *
    have HB := Lib.hid hb
    clear hb HN HT HTk
    cases r with
    | false =>
      go_enter Tryd.func65, Tryd.ntmps65
      go_wp2_with fail
      refine (HR.out _).mono ?_
      rintro e w1 ⟨rfl, hb1⟩
      have HB1 := Lib.hid ((HB0.out _).trans (hb1.mono (Nat.le_of_lt (box8 _ _))))
      obtain ⟨x0, x1, x2, x3, x4, x5, x6, x7⟩ := HX.out.later (box8 _ _) hb1
      clear hb1
      go_wp2
      all_goals
        go_ret
        exact ⟨ret_b (by rw [← HB.out]; simp), HB1.out⟩
    | true =>
      go_enter Tryd.func65, Tryd.ntmps65
      go_wp2_with fail
      refine (HR.out _).mono ?_
      rintro e w1 ⟨rfl, hb1⟩
      have HB1 := Lib.hid ((HB0.out _).trans (hb1.mono (Nat.le_of_lt (box8 _ _))))
      obtain ⟨x0, x1, x2, x3, x4, x5, x6, x7⟩ := HX.out.later (box8 _ _) hb1
      clear hb1
      go_wp2
      all_goals
        go_ret
        exact ⟨ret_b (by rw [← HB.out]; clear HB; first | (simp_all; done) | (simp_all; intros; omega)), HB1.out⟩
  by_cases k2 : kd = 2
  · subst k2
    generalize isX nm = rn at *
    generalize isX tb = rt at *
    have HB := Lib.hid hb
    clear hb HR HTk k1
    cases rn with
    | false =>
      go_enter Tryd.func65, Tryd.ntmps65
      go_wp2_with fail
      refine (HN.out _).mono ?_
      rintro e w1 ⟨rfl, hb1⟩
      have HB1 := Lib.hid ((HB0.out _).trans (hb1.mono (Nat.le_of_lt (box8 _ _))))
      obtain ⟨x0, x1, x2, x3, x4, x5, x6, x7⟩ := HX.out.later (box8 _ _) hb1
      clear hb1
      go_wp2
      all_goals
        go_ret
        exact ⟨ret_b (by rw [← HB.out]; clear HB; first | (simp_all; done) | (simp_all; intros; omega)), HB1.out⟩
    | true =>
      by_cases ht : tb.toList = []
      · have ht2 : tb.toList.isEmpty = true := by rw [ht]; rfl
        clear HT
        go_enter Tryd.func65, Tryd.ntmps65
        go_wp2_with fail
        refine (HN.out _).mono ?_
        rintro e w1 ⟨rfl, hb1⟩
        have HB1 := Lib.hid ((HB0.out _).trans (hb1.mono (Nat.le_of_lt (box8 _ _))))
        obtain ⟨x0, x1, x2, x3, x4, x5, x6, x7⟩ := HX.out.later (box8 _ _) hb1
        clear hb1
        rw [ht2] at HB
        go_wp2
        all_goals
          go_ret
          exact ⟨ret_b (by rw [← HB.out]; clear HB; first | (simp_all; done) | (simp_all; intros; omega)), HB1.out⟩
      · have ht2 : tb.toList.isEmpty = false := by simpa using ht
        have ht3 : (!tb.toList.isEmpty) = true := by rw [ht2]; rfl
        cases rt <;>
        · go_enter Tryd.func65, Tryd.ntmps65
          go_wp2_with fail
          refine (HN.out _).mono ?_
          rintro e w1 ⟨rfl, hb1⟩
          have HB1 := Lib.hid ((HB0.out _).trans (hb1.mono (Nat.le_of_lt (box8 _ _))))
          have HX1 := Lib.hid (HX.out.later (box8 _ _) hb1)
          have hs1 := Nat.lt_of_lt_of_le (box8 w (.cells #[.int .i64 2, .int .u8 vk, .int .i64 vn, .string vs, .string tb, .string nm, .string op, .slice a n cap] 39)) hb1.size
          obtain ⟨x0, x1, x2, x3, x4, x5, x6, x7⟩ := HX1.out
          clear hb1
          go_wp2_with fail
          refine (HT.out _).mono ?_
          rintro e w2 ⟨rfl, hb2⟩
          have HB2 := Lib.hid (HB1.out.trans (hb2.mono HB1.out.size))
          clear x0 x1 x2 x3 x4 x5 x6 x7
          obtain ⟨x0, x1, x2, x3, x4, x5, x6, x7⟩ := HX1.out.later hs1 hb2
          clear hb2 hs1
          go_wp2
          all_goals
            go_ret
            exact ⟨ret_b (by rw [← HB.out]; clear HB; first | (simp_all; done) | (simp_all; intros; omega)), HB2.out⟩
  · have q1 : (kd == 1) = false := by simpa using k1
    have q2 : (kd == 2) = false := by simpa using k2
    rw [if_neg k1, if_neg k2] at hb
    generalize takesB kd op n = r at *
    have HB := Lib.hid hb
    clear hb HR HN HT k1 k2
    cases r with
    | false =>
      go_enter Tryd.func65, Tryd.ntmps65
      go_wp2_with fail
      refine (HTk.out _).mono ?_
      rintro e w1 ⟨rfl, rfl⟩
      have HB1 := Lib.hid (HB0.out (.cells #[.int .i64 kd, .int .u8 vk, .int .i64 vn, .string vs, .string tb, .string nm, .string op, .slice a n cap] 39))
      go_wp2
      all_goals
        go_ret
        exact ⟨ret_b (by rw [← HB.out]; clear HB; first | (simp_all; done) | (simp_all; intros; omega)), HB1.out⟩
    | true =>
      go_enter Tryd.func65, Tryd.ntmps65
      go_wp2_with fail
      refine (HTk.out _).mono ?_
      rintro e w1 ⟨rfl, rfl⟩
      go_wp2
      all_goals
        go_ret
        exact ⟨ret_b (by rw [← HB.out]; clear HB; first | (simp_all; done) | (simp_all; intros; omega)), HB0.out _⟩
end Go.Proofs.YtbnddpicpomakaaDoor

/- The walks of Count, Great, deep over an expression's tree. -/
set_option linter.unusedSimpArgs false
set_option linter.unusedVariables false
set_option maxRecDepth 100000
namespace Go.Proofs.YtbnddpicpomakaaDoor
open Go.RowKit

def cntTo (args : List Ex) (least k : Nat) : Nat := min (least + 1 + ((args.take k).map Rose.count).sum) 3000
theorem sum_take_succ {l : List Ex} {k : Nat} (hk : k < l.length) : ((l.take (k + 1)).map Rose.count).sum = ((l.take k).map Rose.count).sum + l[k].count := by
  rw [List.take_succ_eq_append_getElem hk, List.map_append, List.sum_append]; simp
theorem cntTo_succ {args : List Ex} {least k : Nat} (hk : k < args.length) : cntTo args least (k + 1) = min (cntTo args least k + args[k].count) 3000 := by
  unfold cntTo; rw [sum_take_succ hk]; omega
theorem cntTo_le (args : List Ex) (least k : Nat) : cntTo args least k ≤ 3000 := by unfold cntTo; omega
theorem sum_take_le (l : List Ex) (k : Nat) : ((l.take k).map Rose.count).sum ≤ (l.map Rose.count).sum := by
  have h : (l.map Rose.count).sum = ((l.take k).map Rose.count).sum + ((l.drop k).map Rose.count).sum := by
    rw [← List.sum_append, ← List.map_append, List.take_append_drop]
  omega
theorem cntTo_end (e : Ex) (least : Nat) : cntTo e.args least e.args.length = min (least + e.count) 3000 := by
  unfold cntTo; rw [List.take_length, Rose.count_eq]; congr 1; omega
theorem cntTo_full {e : Ex} {least k : Nat} (h : 3000 ≤ cntTo e.args least k) : cntTo e.args least k = min (least + e.count) 3000 := by
  have h1 := sum_take_le e.args k
  have h2 := e.count_eq
  unfold cntTo at h ⊢; omega

def depTo (args : List Ex) (most k : Nat) : Nat := min most (1 + maxL ((args.take k).map Rose.depth))
theorem maxL_take_succ {l : List Ex} {k : Nat} (hk : k < l.length) : maxL ((l.take (k + 1)).map Rose.depth) = max (maxL ((l.take k).map Rose.depth)) l[k].depth := by
  rw [List.take_succ_eq_append_getElem hk, List.map_append]; simp [maxL_snoc]
theorem depTo_succ {args : List Ex} {most k : Nat} (hk : k < args.length) (h : depTo args most k ≠ most) : depTo args most (k + 1) = max (depTo args most k) (1 + min args[k].depth (most - 1)) := by
  have := args[k].depth_pos
  unfold depTo at h ⊢; rw [maxL_take_succ hk]; omega
theorem maxL_take_le (l : List Ex) (k : Nat) : maxL ((l.take k).map Rose.depth) ≤ maxL (l.map Rose.depth) := by
  rw [maxL_le]
  intro x hx
  obtain ⟨y, hy, rfl⟩ := List.mem_map.1 hx
  exact maxL_mem (List.mem_map.2 ⟨y, List.mem_of_mem_take hy, rfl⟩)
theorem depTo_end (e : Ex) (most : Nat) : depTo e.args most e.args.length = min e.depth most := by
  unfold depTo; rw [List.take_length, Rose.depth_eq]; omega
theorem depTo_full {e : Ex} {most k : Nat} (h : depTo e.args most k = most) : min e.depth most = most := by
  have h1 := maxL_take_le e.args k
  have h2 := e.depth_eq
  unfold depTo at h; omega
theorem depTo_le (args : List Ex) (most k : Nat) : depTo args most k ≤ most := by unfold depTo; omega

theorem ret_k {a b : Nat} (h : a = b) : Ending.returned (.int .i64 (a : Int)) = .returned (.int .i64 (b : Int)) := by rw [h]
/-- The cells of an argument. -/
structure KidAt (w : World) (b o : Nat) (y : XM) : Prop where
  c0 : w.cell? ⟨b, o, none⟩ = some (.int .i64 y.t.lab.kd)
  c1 : w.cell? ⟨b, o + 1, none⟩ = some (.int .u8 y.t.lab.v.k)
  c2 : w.cell? ⟨b, o + 2, none⟩ = some (.int .i64 y.t.lab.v.n)
  c3 : w.cell? ⟨b, o + 3, none⟩ = some (.string y.t.lab.v.s)
  c4 : w.cell? ⟨b, o + 4, none⟩ = some (.string y.t.lab.tb)
  c5 : w.cell? ⟨b, o + 5, none⟩ = some (.string y.t.lab.nm)
  c6 : w.cell? ⟨b, o + 6, none⟩ = some (.string y.t.lab.op)
  c7 : w.cell? ⟨b, o + 7, none⟩ = some (.slice y.a y.t.args.length y.cap)
theorem XAt.kid8 {N : Nat} {w : World} {n : Nat} {x : XM} (h : XAt N w (n + 1) x) {k : Nat} (hk : k < x.t.args.length) :
    ∃ y : XM, y.t = x.t.args[k] ∧ XAt N w n y ∧ ∃ b o, x.a = some ⟨b, o, none⟩ ∧ b < N ∧ KidAt w b (o + k * 8) y := by
  obtain ⟨y, h1, h2, b, o, h3, h4, h5⟩ := h.kid hk
  exact ⟨y, h1, h2, b, o, h3, h4, h5 0 _ rfl, h5 1 _ rfl, h5 2 _ rfl, h5 3 _ rfl, h5 4 _ rfl, h5 5 _ rfl, h5 6 _ rfl, h5 7 _ rfl⟩

/-- The argument of a call, spelled. -/
def XM.s (x : XM) : Value := .agg #[.int .i64 x.t.lab.kd, .int .u8 x.t.lab.v.k, .int .i64 x.t.lab.v.n, .string x.t.lab.v.s, .string x.t.lab.tb, .string x.t.lab.nm, .string x.t.lab.op, .slice x.a x.t.args.length x.cap]

set_option maxHeartbeats 2000000 in
theorem xCnt_any : ∀ (n : Nat) (x : XM) (w : World) (least : Nat), XAt w.heap.size w n x → least ≤ 2999 →
    Calls Tryd.prog 12 #[x.v, .int .i64 (least : Int)] w fun e w' => e = .returned (.int .i64 ((min (least + x.t.count) 3000 : Nat) : Int)) ∧ Below w.heap.size w w'
  | 0, _, _, _, h, _ => h.elim
  | n + 1, ⟨t, a, cap⟩, w, least, h, hl => by
    rw [XM.v_eq]
    have HA := Lib.hid h
    have hlen := h.fair.2.1
    have hcap := h.fair.2.2
    simp only at hlen hcap ⊢
    obtain ⟨r, hr⟩ : ∃ r : Nat, min (least + t.count) 3000 = r := ⟨_, rfl⟩
    have HE := Lib.hid (cntTo_end t least)
    have HFu := Lib.hid (fun k => @cntTo_full t least k)
    rw [hr] at HE HFu ⊢
    clear hr
    obtain ⟨m, hm⟩ : ∃ m, t.args.length = m := ⟨_, rfl⟩
    rw [hm] at hlen
    have HM := Lib.hid hm
    have IH : Hid (∀ (y : XM) (W : World) (q : Nat), XAt W.heap.size W n y → q ≤ 2999 → Calls Tryd.prog 12 #[.agg #[.int .i64 y.t.lab.kd, .int .u8 y.t.lab.v.k, .int .i64 y.t.lab.v.n, .string y.t.lab.v.s, .string y.t.lab.tb, .string y.t.lab.nm, .string y.t.lab.op, .slice y.a y.t.args.length y.cap], .int .i64 (q : Int)] W fun e w' => e = .returned (.int .i64 ((min (q + y.t.count) 3000 : Nat) : Int)) ∧ Below W.heap.size W w') := fun y W q hy hq => by
      have := xCnt_any n y W q hy hq
      rw [XM.v_eq] at this; exact this
    rw [hm]
    have HS := Lib.hid (Slot8.new w 39 (.int .i64 t.lab.kd) (.int .u8 t.lab.v.k) (.int .i64 t.lab.v.n) (.string t.lab.v.s) (.string t.lab.tb) (.string t.lab.nm) (.string t.lab.op) (.slice a m cap))
    obtain ⟨w0, hw0⟩ : ∃ w0, w.alloc (.cells #[.int .i64 t.lab.kd, .int .u8 t.lab.v.k, .int .i64 t.lab.v.n, .string t.lab.v.s, .string t.lab.tb, .string t.lab.nm, .string t.lab.op, .slice a m cap] 39) = w0 := ⟨_, rfl⟩
    have HB0 : Hid (Below w.heap.size w w0) := by rw [← hw0]; exact (Below.refl _ w).alloc (Nat.le_refl _) _
    have hs0 : w.heap.size < w0.heap.size := by rw [← hw0]; simp
    rw [hw0] at HS
    have HQ : Hid ((least : Int) + 1 = ((cntTo t.args least 0 : Nat) : Int)) := by unfold cntTo; simp [Hid]; omega
    clear h hm
    have HC := Lib.hid (fun k (hk : k < t.args.length) => @cntTo_succ t.args least k hk)
    have HC3 := Lib.hid (cntTo_le t.args least)
    generalize cntTo t.args least = C at *
    go_enter Tryd.func12, Tryd.ntmps12
    go_wp2
    go_loopw [5, 6] (fun c i wr => ∃ k : Nat, k ≤ m ∧ i = .int .i64 (k : Int) ∧ c = .int .i64 ((C k : Nat) : Int) ∧ Hid (Below w0.heap.size w0 wr)) (fun _ i _ => m - (intOf i).toNat)
    case atStart => exact ⟨0, by omega, rfl, by rw [← HQ.out], Below.refl _ _⟩
    case round =>
      obtain ⟨k, hk, rfl, rfl, HBr⟩ := hrel
      have hc3 := HC3.out k
      obtain ⟨x0, x1, x2, x3, x4, x5, x6, x7⟩ := HS.out.later hs0 HBr.out
      by_cases hlt : k < m
      · by_cases hlc : C k < 3000
        · have HBw := Lib.hid (HB0.out.trans (HBr.out.mono HB0.out.size))
          obtain ⟨y, hy, hAy, b, o, hab, hbN, hKid⟩ := (HA.out.later HBw.out).kid8 (k := k) (by rw [HM.out]; exact hlt)
          simp only at hab
          subst hab
          have HCk := HC.out k (by rw [HM.out]; exact hlt)
          rw [← hy] at HCk
          have HCk := Lib.hid HCk
          have HY := Lib.hid (IH.out y wr (C k) hAy (by omega))
          obtain ⟨y0, y1, y2, y3, y4, y5, y6, y7⟩ := hKid
          clear hy hAy HA IH HFu HE
          go_wp2_with fail
          refine HY.out.mono ?_
          rintro e w2 ⟨rfl, hb2⟩
          have HB2 := Lib.hid (HBr.out.trans (hb2.mono HBr.out.size))
          clear hb2 HY y0 y1 y2 y3 y4 y5 y6 y7 x0 x1 x2 x3 x4 x5 x6 x7
          go_wp2
          go_roundw
          case rel => exact ⟨k + 1, by omega, by go_num, by rw [HCk.out], HB2.out⟩
          case measure => simp [intOf]; omega
        · have q1 : decide (C k < 3000) = false := by simpa using hlc
          have HR : Hid (C k = r) := HFu.out k (by omega)
          go_wp2
          go_ret
          exact ⟨ret_k HR.out, HB0.out.trans (HBr.out.mono HB0.out.size)⟩
      · have q0 : decide (k < m) = false := by simpa using hlt
        have HR : Hid (C k = r) := by rw [show k = m by omega, ← HM.out]; exact HE.out
        go_wp2
        go_ret
        exact ⟨ret_k HR.out, HB0.out.trans (HBr.out.mono HB0.out.size)⟩

set_option maxHeartbeats 2000000 in
theorem Great_any : ∀ (n : Nat) (x : XM) (w : World) (left : Nat), XAt w.heap.size w n x → left ≤ 1000 →
    Calls Tryd.prog 13 #[x.v, .int .i64 (left : Int)] w fun e w' => e = .returned (.bool (greatX left x.t)) ∧ Below w.heap.size w w'
  | 0, _, _, _, h, _ => h.elim
  | n + 1, ⟨t, a, cap⟩, w, left, h, hl => by
    rw [XM.v_eq]
    have HA := Lib.hid h
    have hlen := h.fair.2.1
    have hcap := h.fair.2.2
    have hF := h.fair.1
    simp only at hlen hcap hF ⊢
    obtain ⟨r, hr⟩ : ∃ r, greatX left t = r := ⟨_, rfl⟩
    rw [hr]
    have hs3 := hF.s
    have hs4 := hF.tb
    have hs5 := hF.nm
    have hs6 := hF.op
    obtain ⟨m, hm⟩ : ∃ m, t.args.length = m := ⟨_, rfl⟩
    rw [hm] at hlen ⊢
    have HM := Lib.hid hm
    have HB0 : Hid (∀ o, Below w.heap.size w (w.alloc o)) := fun o => (Below.refl _ w).alloc (Nat.le_refl _) _
    by_cases hbig : left = 0 ∨ t.lab.big m = true
    · have hrt : r = true := by
        rw [← hr]
        cases left with
        | zero => rfl
        | succ l => rcases hbig with h0 | h0
                    · omega
                    · rw [greatX, hm, h0]; rfl
      subst hrt
      clear hr h hm HM HA hF
      rcases hbig with hbig | hbig
      · have q0 : ((left : Int) == 0) = true := by simp; omega
        clear hbig hl
        go_enter Tryd.func13, Tryd.ntmps13
        go_wp2
        all_goals (go_ret; exact ⟨rfl, HB0.out _⟩)
      · unfold Lb.big at hbig
        simp only [Bool.or_eq_true, decide_eq_true_iff] at hbig
        go_enter Tryd.func13, Tryd.ntmps13
        go_wp2
        all_goals first | (go_ret; exact ⟨rfl, HB0.out _⟩) | (exfalso; omega)
    · obtain ⟨l, rfl⟩ : ∃ l, left = l + 1 := ⟨left - 1, by have : ¬ left = 0 := fun h => hbig (.inl h); omega⟩
      have hb2 : t.lab.big m = false := by
        cases hb : t.lab.big m with
        | true => exact absurd (.inr hb) hbig
        | false => rfl
      rw [greatX, hm, hb2, Bool.false_or] at hr
      unfold Lb.big at hb2
      simp only [Bool.or_eq_false_iff, decide_eq_false_iff_not] at hb2
      obtain ⟨⟨g1, g2⟩, g3⟩ := hb2
      have HR := Lib.hid hr
      have IH : Hid (∀ (y : XM) (W : World), XAt W.heap.size W n y → Calls Tryd.prog 13 #[.agg #[.int .i64 y.t.lab.kd, .int .u8 y.t.lab.v.k, .int .i64 y.t.lab.v.n, .string y.t.lab.v.s, .string y.t.lab.tb, .string y.t.lab.nm, .string y.t.lab.op, .slice y.a y.t.args.length y.cap], .int .i64 (l : Int)] W fun e w' => e = .returned (.bool (greatX l y.t)) ∧ Below W.heap.size W w') := fun y W hy => by
        have := Great_any n y W l hy (by omega)
        rw [XM.v_eq] at this; exact this
      have HS := Lib.hid (Slot8.new w 39 (.int .i64 t.lab.kd) (.int .u8 t.lab.v.k) (.int .i64 t.lab.v.n) (.string t.lab.v.s) (.string t.lab.tb) (.string t.lab.nm) (.string t.lab.op) (.slice a m cap))
      have hn5 : ((t.lab.nm.size : Nat) : Int) ≤ 100 := by omega
      have hn4 : ((t.lab.tb.size : Nat) : Int) ≤ 100 := by omega
      have hn6 : ((t.lab.op.size : Nat) : Int) ≤ 100 := by omega
      have q0 : ((((l + 1 : Nat) : Int)) == 0) = false := by simp; omega
      have q1 : decide ((6 : Int) < (m : Int)) = false := by simp; omega
      have q2 : decide ((100 : Int) < (t.lab.nm.size : Int) + (t.lab.tb.size : Int) + (t.lab.op.size : Int)) = false := by simp; omega
      have q3 : decide ((200 : Int) < (t.lab.v.s.size : Int)) = false := by simp; omega
      have hl1 : IntKind.i64.wrap (((l + 1 : Nat) : Int) - 1) = (l : Int) := by rw [show ((l + 1 : Nat) : Int) - 1 = (l : Int) by omega]; exact IntWalk.i64_in _ (by omega)
      clear h hm hbig hr hF
      obtain ⟨w0, hw0⟩ : ∃ w0, w.alloc (.cells #[.int .i64 t.lab.kd, .int .u8 t.lab.v.k, .int .i64 t.lab.v.n, .string t.lab.v.s, .string t.lab.tb, .string t.lab.nm, .string t.lab.op, .slice a m cap] 39) = w0 := ⟨_, rfl⟩
      have HB1 : Hid (Below w.heap.size w w0) := by rw [← hw0]; exact HB0.out _
      have hs0 : w.heap.size < w0.heap.size := by rw [← hw0]; simp
      rw [hw0] at HS
      generalize hL : ((l + 1 : Nat) : Int) = L at *
      clear HB0
      obtain ⟨x0, x1, x2, x3, x4, x5, x6, x7⟩ := HS.out
      go_enter Tryd.func13, Tryd.ntmps13
      go_wp2
      clear x0 x1 x2 x3 x4 x5 x6 x7
      go_loopw [5] (fun i wr => ∃ k : Nat, k ≤ m ∧ i = .int .i64 (k : Int) ∧ Hid ((t.args.take k).any (greatX l) = false) ∧ Hid (Below w0.heap.size w0 wr)) (fun i _ => m - (intOf i).toNat)
      case atStart => exact ⟨0, by omega, rfl, by simp [Hid], Below.refl _ _⟩
      case round =>
        obtain ⟨k, hk, rfl, HG, HBr⟩ := hrel
        obtain ⟨x0, x1, x2, x3, x4, x5, x6, x7⟩ := HS.out.later hs0 HBr.out
        have HBw := Lib.hid (HB1.out.trans (HBr.out.mono HB1.out.size))
        by_cases hlt : k < m
        · have hkl : k < t.args.length := by rw [HM.out]; exact hlt
          obtain ⟨y, hy, hAy, b, o, hab, hbN, hKid⟩ := (HA.out.later HBw.out).kid8 (k := k) hkl
          simp only at hab hy
          subst hab
          have HTk : Hid ((t.args.take (k + 1)).any (greatX l) = (greatX l y.t)) := by
            rw [List.take_succ_eq_append_getElem hkl, List.any_append, HG.out, ← hy]; simp [Hid]
          have HTr : Hid (greatX l y.t = true → r = true) := fun hg => by
            rw [← HR.out, List.any_eq_true]
            exact ⟨_, List.getElem_mem hkl, by rw [← hy]; exact hg⟩
          have HY := Lib.hid (IH.out y wr hAy)
          obtain ⟨g, hg⟩ : ∃ g, greatX l y.t = g := ⟨_, rfl⟩
          rw [hg] at HY HTk HTr
          obtain ⟨y0, y1, y2, y3, y4, y5, y6, y7⟩ := hKid
          clear hy hAy HA IH hg hkl HG
          cases g with
          | true =>
            have hrt : r = true := HTr.out rfl
            subst hrt
            go_wp2_with fail
            refine HY.out.mono ?_
            rintro e w2 ⟨rfl, hb2⟩
            have HB2 := Lib.hid (HBw.out.trans (hb2.mono HBw.out.size))
            clear hb2 HY
            go_wp2
            go_ret
            exact ⟨rfl, HB2.out⟩
          | false =>
            go_wp2_with fail
            refine HY.out.mono ?_
            rintro e w2 ⟨rfl, hb2⟩
            have HB2 := Lib.hid (HBr.out.trans (hb2.mono HBr.out.size))
            clear hb2 HY y0 y1 y2 y3 y4 y5 y6 y7 x0 x1 x2 x3 x4 x5 x6 x7
            go_wp2
            go_roundw
            case rel => exact ⟨k + 1, by omega, by go_num, HTk.out, HB2.out⟩
            case measure => simp [intOf]; omega
        · have hrf : r = false := by
            have := HG.out
            rw [show k = m by omega, ← HM.out, List.take_length] at this
            rw [← HR.out]; exact this
          subst hrf
          go_wp2
          go_ret
          exact ⟨rfl, HBw.out⟩
end Go.Proofs.YtbnddpicpomakaaDoor

/- The walks of deep, right and what right calls; of Deep and Right. -/
set_option linter.unusedSimpArgs false
set_option linter.unusedVariables false
set_option maxRecDepth 100000
namespace Go.Proofs.YtbnddpicpomakaaDoor
open Go.RowKit

theorem int_max {a b c : Nat} (h : c = max a (1 + b)) : Value.int .i64 (if (a : Int) < 1 + (b : Int) then 1 + (b : Int) else (a : Int)) = .int .i64 (c : Int) := by
  subst h; congr 1; split <;> omega
theorem int_max2 {a b c : Nat} (h : c = max a (1 + b)) : Value.int .i64 (max (a : Int) (1 + (b : Int))) = .int .i64 (c : Int) := by
  subst h; congr 1; omega
set_option maxHeartbeats 2000000 in
theorem deep_any : ∀ (n : Nat) (x : XM) (w : World) (most : Nat), XAt w.heap.size w n x → 1 ≤ most → most ≤ 1000 →
    Calls Tryd.prog 41 #[x.v, .int .i64 (most : Int)] w fun e w' => e = .returned (.int .i64 ((min x.t.depth most : Nat) : Int)) ∧ Below w.heap.size w w'
  | 0, _, _, _, h, _, _ => h.elim
  | n + 1, ⟨t, a, cap⟩, w, most, h, hl1, hl2 => by
    rw [XM.v_eq]
    have HA := Lib.hid h
    have hlen := h.fair.2.1
    have hcap := h.fair.2.2
    simp only at hlen hcap ⊢
    obtain ⟨r, hr⟩ : ∃ r : Nat, min t.depth most = r := ⟨_, rfl⟩
    have HE := Lib.hid (depTo_end t most)
    have HFu := Lib.hid (fun k => @depTo_full t most k)
    rw [hr] at HE HFu ⊢
    clear hr
    obtain ⟨m, hm⟩ : ∃ m, t.args.length = m := ⟨_, rfl⟩
    rw [hm] at hlen
    have HM := Lib.hid hm
    have IH : Hid (∀ (y : XM) (W : World) (q : Nat), XAt W.heap.size W n y → 1 ≤ q → q ≤ 1000 → Calls Tryd.prog 41 #[.agg #[.int .i64 y.t.lab.kd, .int .u8 y.t.lab.v.k, .int .i64 y.t.lab.v.n, .string y.t.lab.v.s, .string y.t.lab.tb, .string y.t.lab.nm, .string y.t.lab.op, .slice y.a y.t.args.length y.cap], .int .i64 (q : Int)] W fun e w' => e = .returned (.int .i64 ((min y.t.depth q : Nat) : Int)) ∧ Below W.heap.size W w') := fun y W q hy hq hq2 => by
      have := deep_any n y W q hy hq hq2
      rw [XM.v_eq] at this; exact this
    rw [hm]
    have HS := Lib.hid (Slot8.new w 39 (.int .i64 t.lab.kd) (.int .u8 t.lab.v.k) (.int .i64 t.lab.v.n) (.string t.lab.v.s) (.string t.lab.tb) (.string t.lab.nm) (.string t.lab.op) (.slice a m cap))
    obtain ⟨w0, hw0⟩ : ∃ w0, w.alloc (.cells #[.int .i64 t.lab.kd, .int .u8 t.lab.v.k, .int .i64 t.lab.v.n, .string t.lab.v.s, .string t.lab.tb, .string t.lab.nm, .string t.lab.op, .slice a m cap] 39) = w0 := ⟨_, rfl⟩
    have HB0 : Hid (Below w.heap.size w w0) := by rw [← hw0]; exact (Below.refl _ w).alloc (Nat.le_refl _) _
    have hs0 : w.heap.size < w0.heap.size := by rw [← hw0]; simp
    rw [hw0] at HS
    have HQ : Hid (depTo t.args most 0 = 1) := by unfold depTo; simp [Hid, maxL]; omega
    clear h hm
    have HC := Lib.hid (fun k (hk : k < t.args.length) => @depTo_succ t.args most k hk)
    have HC3 := Lib.hid (depTo_le t.args most)
    have HC1 : Hid (∀ k, 1 ≤ depTo t.args most k) := fun k => by unfold depTo; omega
    generalize depTo t.args most = C at *
    obtain ⟨x0, x1, x2, x3, x4, x5, x6, x7⟩ := HS.out
    go_enter Tryd.func41, Tryd.ntmps41
    go_wp2
    clear x0 x1 x2 x3 x4 x5 x6 x7 HS
    go_loopw [5, 11] (fun c i wr => ∃ k : Nat, k ≤ m ∧ i = .int .i64 (k : Int) ∧ c = .int .i64 ((C k : Nat) : Int) ∧ Hid (Below w0.heap.size w0 wr)) (fun _ i _ => m - (intOf i).toNat)
    case atStart => exact ⟨0, by omega, rfl, by rw [HQ.out]; rfl, Below.refl _ _⟩
    case round =>
      obtain ⟨k, hk, rfl, rfl, HBr⟩ := hrel
      have hc3 := HC3.out k
      have HBw := Lib.hid (HB0.out.trans (HBr.out.mono HB0.out.size))
      by_cases hlt : k < m
      · obtain ⟨y, hy, hAy, b, o, hab, hbN, hKid⟩ := (HA.out.later HBw.out).kid8 (k := k) (by rw [HM.out]; exact hlt)
        simp only at hab
        subst hab
        obtain ⟨y0, y1, y2, y3, y4, y5, y6, y7⟩ := hKid
        by_cases hlc : C k = most
        · have q1 : ((C k : Int) == (most : Int)) = true := by simp; omega
          have HR : Hid (most = r) := (HFu.out k hlc).symm
          go_wp2
          go_ret
          exact ⟨ret_k HR.out, HBw.out.trans (((Below.refl _ wr).alloc (Nat.le_refl _) _).mono HBw.out.size)⟩
        · have q1 : ((C k : Int) == (most : Int)) = false := by simp; omega
          have HCk := HC.out k (by rw [HM.out]; exact hlt) hlc
          rw [← hy] at HCk
          have hm2 : 2 ≤ most ∧ C k < most := by
            have := HC1.out k
            omega
          have HCk := Lib.hid HCk
          obtain ⟨q, rfl⟩ : ∃ q, most = q + 1 := ⟨most - 1, by omega⟩
          have HY := Lib.hid (fun W (hb : Below wr.heap.size wr W) => IH.out y W q (RoseAt.later hAy hb) (by omega) (by omega))
          have hq1 : IntKind.i64.wrap (((q + 1 : Nat) : Int) - 1) = (q : Int) := by rw [show ((q + 1 : Nat) : Int) - 1 = (q : Int) by omega]; exact IntWalk.i64_in _ (by omega)
          rw [show q + 1 - 1 = q by omega] at HCk
          obtain ⟨d, hd⟩ : ∃ d, min y.t.depth q = d := ⟨_, rfl⟩
          have hdq : d ≤ q := by omega
          rw [hd] at HCk
          have HY2 : Hid (∀ W, Below wr.heap.size wr W → Calls Tryd.prog 41 #[.agg #[.int .i64 y.t.lab.kd, .int .u8 y.t.lab.v.k, .int .i64 y.t.lab.v.n, .string y.t.lab.v.s, .string y.t.lab.tb, .string y.t.lab.nm, .string y.t.lab.op, .slice y.a y.t.args.length y.cap], .int .i64 (q : Int)] W fun e w' => e = .returned (.int .i64 (d : Int)) ∧ Below W.heap.size W w') := fun W hb => by have := HY.out W hb; rw [hd] at this; exact this
          clear hy hAy HA IH HFu HE HY hd hm2
          generalize hQ : ((q + 1 : Nat) : Int) = Q at *
          go_wp2_with fail
          refine (HY2.out _ ((Below.refl _ _).alloc (Nat.le_refl _) _)).mono ?_
          rintro e w2 ⟨rfl, hb2⟩
          have HB2 := Lib.hid (HBr.out.trans ((((Below.refl _ wr).alloc (Nat.le_refl _) _).trans (hb2.mono (by simp))).mono HBr.out.size))
          clear hb2 HY2 y0 y1 y2 y3 y4 y5 y6 y7
          go_wp2
          go_roundw
          case rel => exact ⟨k + 1, by omega, by go_num, (by first | exact int_max HCk.out | exact int_max2 HCk.out), HB2.out⟩
          case measure => simp [intOf]; omega
      · have q0 : decide (k < m) = false := by simpa using hlt
        have HR : Hid (C k = r) := by rw [show k = m by omega, ← HM.out]; exact HE.out
        go_wp2
        go_ret
        exact ⟨ret_k HR.out, HBw.out⟩

theorem Deep_any (n : Nat) (x : XM) (w : World) (h : XAt w.heap.size w n x) :
    Calls Tryd.prog 21 #[x.v] w fun e w' => e = .returned (.int .i64 ((min x.t.depth 21 : Nat) : Int)) ∧ Below w.heap.size w w' := by
  have HD := Lib.hid (fun W (hb : Below w.heap.size w W) => deep_any n x W 21 (h.later hb) (by omega) (by omega))
  have HX := Lib.hid (Slot8.new w 39 (.int .i64 x.t.lab.kd) (.int .u8 x.t.lab.v.k) (.int .i64 x.t.lab.v.n) (.string x.t.lab.v.s) (.string x.t.lab.tb) (.string x.t.lab.nm) (.string x.t.lab.op) (.slice x.a x.t.args.length x.cap))
  have HB0 : Hid (∀ o, Below w.heap.size w (w.alloc o)) := fun o => (Below.refl _ w).alloc (Nat.le_refl _) _
  rw [XM.v_eq] at HD ⊢
  generalize min x.t.depth 21 = d at *
  clear h
  obtain ⟨x0, x1, x2, x3, x4, x5, x6, x7⟩ := HX.out
  go_enter Tryd.func21, Tryd.ntmps21
  go_wp2_with fail
  refine (HD.out _ (HB0.out _)).mono ?_
  rintro e w1 ⟨rfl, hb1⟩
  have HB1 := Lib.hid ((HB0.out _).trans (hb1.mono (Nat.le_of_lt (box8 _ _))))
  clear hb1 x0 x1 x2 x3 x4 x5 x6 x7
  go_wp2
  go_ret
  exact ⟨rfl, HB1.out⟩
end Go.Proofs.YtbnddpicpomakaaDoor

/- The walks of right, its closure, slices.IndexFunc and ContainsFunc at it, and of Right. -/
set_option linter.unusedSimpArgs false
set_option linter.unusedVariables false
set_option maxRecDepth 100000
namespace Go.Proofs.YtbnddpicpomakaaDoor
open Go.RowKit

/-- What is known of right, with so many levels, of trees of so many. -/
def RightIs (n l : Nat) : Prop := ∀ (y : XM) (W : World), XAt W.heap.size W n y → Calls Tryd.prog 42 #[y.v, .int .i64 (l : Int)] W fun e w' => e = .returned (.bool (rightX l y.t)) ∧ Below W.heap.size W w'

theorem right_clo (n l : Nat) (hl : l ≤ 1000) (IH : RightIs n l) (y : XM) (g : Nat) (W : World) (hy : XAt W.heap.size W n y) (hg : W.cell? ⟨g, 0, none⟩ = some (.int .i64 ((l + 1 : Nat) : Int))) :
    Calls Tryd.prog 67 #[.agg #[.int .i64 y.t.lab.kd, .int .u8 y.t.lab.v.k, .int .i64 y.t.lab.v.n, .string y.t.lab.v.s, .string y.t.lab.tb, .string y.t.lab.nm, .string y.t.lab.op, .slice y.a y.t.args.length y.cap], .pointer (some ⟨g, 0, none⟩)] W fun e w' => e = .returned (.bool (!rightX l y.t)) ∧ Below W.heap.size W w' := by
  have HD := Lib.hid (fun V (hb : Below W.heap.size W V) => IH y V (hy.later hb))
  have HX := Lib.hid (Slot8.new W 39 (.int .i64 y.t.lab.kd) (.int .u8 y.t.lab.v.k) (.int .i64 y.t.lab.v.n) (.string y.t.lab.v.s) (.string y.t.lab.tb) (.string y.t.lab.nm) (.string y.t.lab.op) (.slice y.a y.t.args.length y.cap))
  have HB0 : Hid (∀ o, Below W.heap.size W (W.alloc o)) := fun o => (Below.refl _ W).alloc (Nat.le_refl _) _
  have hq1 : IntKind.i64.wrap (((l + 1 : Nat) : Int) - 1) = (l : Int) := by rw [show ((l + 1 : Nat) : Int) - 1 = (l : Int) by omega]; exact IntWalk.i64_in _ (by omega)
  have hglt := World.block_lt_of_cell? _ _ hg
  rw [XM.v_eq] at HD
  generalize rightX l y.t = d at *
  generalize hQ : ((l + 1 : Nat) : Int) = Q at *
  clear hy IH
  obtain ⟨x0, x1, x2, x3, x4, x5, x6, x7⟩ := HX.out
  go_enter Tryd.func67, Tryd.ntmps67
  go_wp2_with fail
  refine (HD.out _ (HB0.out _)).mono ?_
  rintro e w1 ⟨rfl, hb1⟩
  have HB1 := Lib.hid ((HB0.out _).trans (hb1.mono (Nat.le_of_lt (box8 _ _))))
  clear hb1 x0 x1 x2 x3 x4 x5 x6 x7
  go_wp2
  go_ret
  exact ⟨rfl, HB1.out⟩

set_option maxHeartbeats 1000000 in
theorem right_idx (n l : Nat) (hl : l ≤ 1000) (IH : RightIs n l) (t : Ex) (a : Option Addr) (cap : Nat) (g : Nat) (w : World) (h : XAt w.heap.size w (n + 1) ⟨t, a, cap⟩) (hg : w.cell? ⟨g, 0, none⟩ = some (.int .i64 ((l + 1 : Nat) : Int))) :
    Calls Tryd.prog 94 #[.slice a t.args.length cap, .func (.func 67) #[] #[.pointer (some ⟨g, 0, none⟩)]] w fun e w' => ∃ r : Int, e = .returned (.int .i64 r) ∧ decide (0 ≤ r) = (!t.args.all (rightX l)) ∧ Below w.heap.size w w' := by
  have HA := Lib.hid h
  have hlen := h.fair.2.1
  have hcap := h.fair.2.2
  simp only at hlen hcap
  have HCl := Lib.hid (fun y V (hb : Below w.heap.size w V) hy => right_clo n l hl IH y g V hy ((hb.cell (p := ⟨g, 0, none⟩) (World.block_lt_of_cell? _ _ hg)).trans hg))
  obtain ⟨m, hm⟩ : ∃ m, t.args.length = m := ⟨_, rfl⟩
  rw [hm] at hlen ⊢
  have HM := Lib.hid hm
  clear h hm hg IH
  go_enter Tryd.func94, Tryd.ntmps94
  go_wp2
  go_loopw [8] (fun i wr => ∃ k : Nat, k ≤ m ∧ i = .int .i64 k ∧ Hid ((t.args.take k).all (rightX l) = true) ∧ Hid (Below w.heap.size w wr)) (fun i _ => m - (intOf i).toNat)
  case atStart => exact ⟨0, by omega, rfl, by simp [Hid], Below.refl _ _⟩
  case round =>
    obtain ⟨k, hk, rfl, HI, HBr⟩ := hrel
    by_cases hlt : k < m
    · have hkl : k < t.args.length := by rw [HM.out]; exact hlt
      obtain ⟨y, hy, hAy, b, o, hab, hbN, hKid⟩ := (HA.out.later HBr.out).kid8 (k := k) hkl
      simp only at hab hy
      subst hab
      obtain ⟨y0, y1, y2, y3, y4, y5, y6, y7⟩ := hKid
      have HTk : Hid ((t.args.take (k + 1)).all (rightX l) = rightX l y.t) := by
        rw [List.take_succ_eq_append_getElem hkl, List.all_append, HI.out, ← hy]; simp [Hid]
      have HTf : Hid (rightX l y.t = false → t.args.all (rightX l) = false) := fun hf => by
        rw [List.all_eq_false]; exact ⟨_, List.getElem_mem hkl, by rw [← hy, hf]; simp⟩
      have HY := Lib.hid (HCl.out y wr HBr.out hAy)
      generalize rightX l y.t = d at *
      clear hy hAy HA hkl HI HCl
      go_wp2_with fail
      refine HY.out.mono ?_
      rintro e w2 ⟨rfl, hb2⟩
      have HB2 := Lib.hid (HBr.out.trans (hb2.mono HBr.out.size))
      clear hb2 HY y0 y1 y2 y3 y4 y5 y6 y7
      cases d with
      | true =>
        go_wp2
        go_roundw
        case rel => exact ⟨k + 1, by omega, by go_num, HTk.out, HB2.out⟩
        case measure => simp [intOf]; omega
      | false =>
        go_wp2
        go_ret
        exact ⟨k, rfl, by rw [HTf.out (by trivial)]; simp, HB2.out⟩
    · have HT : Hid (t.args.all (rightX l) = true) := by
        have := HI.out
        rwa [show k = m by omega, ← HM.out, List.take_length] at this
      go_wp2
      go_ret
      exact ⟨-1, rfl, by rw [HT.out]; rfl, HBr.out⟩

theorem right_con (n l : Nat) (hl : l ≤ 1000) (IH : RightIs n l) (t : Ex) (a : Option Addr) (cap : Nat) (g : Nat) (w : World) (h : XAt w.heap.size w (n + 1) ⟨t, a, cap⟩) (hg : w.cell? ⟨g, 0, none⟩ = some (.int .i64 ((l + 1 : Nat) : Int))) :
    Calls Tryd.prog 66 #[.slice a t.args.length cap, .func (.func 67) #[] #[.pointer (some ⟨g, 0, none⟩)]] w fun e w' => e = .returned (.bool (!t.args.all (rightX l))) ∧ Below w.heap.size w w' := by
  have HC := Lib.hid (right_idx n l hl IH t a cap g w h hg)
  clear h hg
  generalize t.args.all (rightX l) = d at *
  go_enter Tryd.func66, Tryd.ntmps66
  go_wp2_with fail
  refine HC.out.mono ?_
  rintro e w1 ⟨r, rfl, hr, hb⟩
  have HR := Lib.hid hr
  clear hr HC
  go_wp2
  go_ret
  exact ⟨ret_b HR.out, hb⟩

set_option maxHeartbeats 2000000 in
theorem right_is : ∀ (n l : Nat), l ≤ 1000 → RightIs n l
  | 0, _, _ => fun _ _ h => h.elim
  | n + 1, 0, _ => fun x w h => by
    rw [XM.v_eq]
    have HB0 : Hid (∀ o o', Below w.heap.size w ((w.alloc o).alloc o')) := fun o o' => ((Below.refl _ w).alloc (Nat.le_refl _) _).alloc (by simp) _
    clear h
    go_enter Tryd.func42, Tryd.ntmps42
    go_wp2
    go_ret
    exact ⟨rfl, HB0.out _ _⟩
  | n + 1, l + 1, hl => fun ⟨t, a, cap⟩ w h => by
    rw [XM.v_eq]
    have IHl := right_is n l (by omega)
    have hF := h.fair.1
    simp only at hF ⊢
    have HV := Lib.hid (fun W => valid_any ⟨t, a, cap⟩ W hF)
    rw [XM.v_eq] at HV
    simp only at HV
    have hrx : rightX (l + 1) t = (t.lab.ok t.args.length && t.args.all (rightX l)) := rfl
    have HCn := Lib.hid (fun g W (hb : Below w.heap.size w W) hg => right_con n l (by omega) IHl t a cap g W (h.later hb) hg)
    rw [hrx]
    generalize t.lab.ok t.args.length = v at *
    generalize t.args.all (rightX l) = d at *
    obtain ⟨w0, hw0⟩ : ∃ w0, w.alloc (.cells #[.int .i64 t.lab.kd, .int .u8 t.lab.v.k, .int .i64 t.lab.v.n, .string t.lab.v.s, .string t.lab.tb, .string t.lab.nm, .string t.lab.op, .slice a t.args.length cap] 39) = w0 := ⟨_, rfl⟩
    have HS := Lib.hid (Slot8.new w 39 (.int .i64 t.lab.kd) (.int .u8 t.lab.v.k) (.int .i64 t.lab.v.n) (.string t.lab.v.s) (.string t.lab.tb) (.string t.lab.nm) (.string t.lab.op) (.slice a t.args.length cap))
    have HB0 : Hid (Below w.heap.size w w0) := by rw [← hw0]; exact (Below.refl _ w).alloc (Nat.le_refl _) _
    have hs0 : w0.heap.size = w.heap.size + 1 := by rw [← hw0]; simp
    rw [hw0] at HS
    have q0 : ((((l + 1 : Nat) : Int)) == 0) = false := by simp; omega
    generalize hQ : ((l + 1 : Nat) : Int) = Q at *
    obtain ⟨w1, hw1⟩ : ∃ w1, w0.alloc (.cells #[.int .i64 Q] 3) = w1 := ⟨_, rfl⟩
    have HB1 : Hid (Below w0.heap.size w0 w1) := by rw [← hw1]; exact (Below.refl _ w0).alloc (Nat.le_refl _) _
    have hs1 : w1.heap.size = w.heap.size + 2 := by rw [← hw1]; simp [hs0]
    have hc1 : w1.cell? ⟨w.heap.size + 1, 0, none⟩ = some (.int .i64 Q) := by rw [← hw1, ← hs0]; simp
    have HS1 := Lib.hid (HS.out.later (by omega) HB1.out)
    have HW1 := Lib.hid (HB0.out.trans (HB1.out.mono HB0.out.size))
    have HC1 := Lib.hid hc1
    have HZ := Lib.hid hs1
    obtain ⟨x0, x1, x2, x3, x4, x5, x6, x7⟩ := HS1.out
    clear h hF IHl hs1 hrx HS HB0 HB1
    cases v with
    | false =>
      go_enter Tryd.func42, Tryd.ntmps42
      go_wp2_with fail
      refine (HV.out _).mono ?_
      rintro e w2 ⟨rfl, hb2⟩
      have HB2 := Lib.hid (HW1.out.trans (hb2.mono (by have := HZ.out; omega)))
      clear hb2 x0 x1 x2 x3 x4 x5 x6 x7 hc1
      go_wp2
      go_ret
      exact ⟨rfl, HB2.out⟩
    | true =>
      go_enter Tryd.func42, Tryd.ntmps42
      go_wp2_with fail
      refine (HV.out _).mono ?_
      rintro e w2 ⟨rfl, hb2⟩
      have HB2 := Lib.hid (HW1.out.trans (hb2.mono (by have := HZ.out; omega)))
      have hc2 := (hb2.cell (p := ⟨w.heap.size + 1, 0, none⟩) (by have := HZ.out; show w.heap.size + 1 < w1.heap.size; omega)).trans HC1.out
      have HY := Lib.hid (HCn.out (w.heap.size + 1) w2 HB2.out hc2)
      clear x0 x1 x2 x3 x4 x5 x6 x7 hc1
      obtain ⟨x0, x1, x2, x3, x4, x5, x6, x7⟩ := HS1.out.later (by have := HZ.out; omega) hb2
      clear hb2 HCn HV
      go_wp2_with fail
      refine HY.out.mono ?_
      rintro e w3 ⟨rfl, hb3⟩
      have HB3 := Lib.hid (HB2.out.trans (hb3.mono HB2.out.size))
      clear hb3 x0 x1 x2 x3 x4 x5 x6 x7 hc2
      go_wp2
      go_ret
      exact ⟨ret_b (by simp), HB3.out⟩

theorem Right_any20 (n : Nat) (x : XM) (w : World) (h : XAt w.heap.size w n x) :
    Calls Tryd.prog 22 #[x.v] w fun e w' => e = .returned (.bool (rightX 20 x.t)) ∧ Below w.heap.size w w' := by
  have HD := Lib.hid (fun W (hb : Below w.heap.size w W) => right_is n 20 (by omega) x W (h.later hb))
  have HX := Lib.hid (Slot8.new w 39 (.int .i64 x.t.lab.kd) (.int .u8 x.t.lab.v.k) (.int .i64 x.t.lab.v.n) (.string x.t.lab.v.s) (.string x.t.lab.tb) (.string x.t.lab.nm) (.string x.t.lab.op) (.slice x.a x.t.args.length x.cap))
  have HB0 : Hid (∀ o, Below w.heap.size w (w.alloc o)) := fun o => (Below.refl _ w).alloc (Nat.le_refl _) _
  rw [XM.v_eq] at HD ⊢
  generalize rightX 20 x.t = d at *
  clear h
  obtain ⟨x0, x1, x2, x3, x4, x5, x6, x7⟩ := HX.out
  go_enter Tryd.func22, Tryd.ntmps22
  go_wp2_with fail
  refine (HD.out _ (HB0.out _)).mono ?_
  rintro e w1 ⟨rfl, hb1⟩
  have HB1 := Lib.hid ((HB0.out _).trans (hb1.mono (Nat.le_of_lt (box8 _ _))))
  clear hb1 x0 x1 x2 x3 x4 x5 x6 x7
  go_wp2
  go_ret
  exact ⟨rfl, HB1.out⟩
end Go.Proofs.YtbnddpicpomakaaDoor
