/- Several texts of one proof, one behind the other. -/
import Derived.Test.YtjhdlbkcpdfpcaaDoorFPk2
import Derived.OpenShut
import Derived.Lib.SmallJoins
import Derived.Laws.BitsAllLaws
import Derived.WalkKit
import Derived.SizedLaws
import Derived.Lib.Hide
import Derived.Lib.MapLaws
import Derived.Lib.ValidLaws
set_option linter.unusedSimpArgs false
set_option linter.unusedVariables false

/- Rows of values that came in, element by element. -/
set_option linter.unusedSimpArgs false
set_option linter.unusedVariables false
set_option maxRecDepth 100000
namespace Go.Proofs.YtjhdlbkcpdfpcaaDoor
open Go.RowKit Go.ChangeShapes Go.WideShapes Go.Deep Go.Joins

theorem cellsOf_at {α : Type} (f : α → List Value) (z : Nat) (hz : 0 < z) (hf : ∀ x, (f x).length = z) : ∀ (l : List α) (i : Nat) (v : Value), (cellsOf f l)[i]? = some v → ∃ y, l[i / z]? = some y ∧ (f y)[i % z]? = some v
  | [], i, v, h => by simp [cellsOf] at h
  | x :: r, i, v, h => by
    have e : cellsOf f (x :: r) = f x ++ cellsOf f r := rfl
    rw [e] at h
    by_cases hi : i < z
    · rw [List.getElem?_append_left (by rw [hf]; exact hi)] at h
      exact ⟨x, by rw [Nat.div_eq_of_lt hi]; rfl, by rw [Nat.mod_eq_of_lt hi]; exact h⟩
    · rw [List.getElem?_append_right (by rw [hf]; omega), hf] at h
      obtain ⟨y, h1, h2⟩ := cellsOf_at f z hz hf r (i - z) v h
      have e1 : i = (i - z) + z := by omega
      refine ⟨y, ?_, ?_⟩
      · rw [e1, Nat.add_div_right _ hz]; exact h1
      · rw [e1, Nat.add_mod_right]; exact h2

/-- A row of values that came in, element by element. -/
theorem row_of {α : Type} (f : α → List Value) (z : Nat) (hz : 0 < z) (hf : ∀ x, (f x).length = z) (Q : α → Prop) (w : World) (x : Addr) (len : Nat)
    (hex : ∀ i : Fin len, ∃ y, Q y ∧ ∀ (j : Nat) (v : Value), (f y)[j]? = some v → w.cell? ((x.add (i.1 * z)).add j) = some v) :
    ∃ L : List α, L.length = len ∧ Arr w.heap.size w (some x) (cellsOf f L) ∧ ∀ y ∈ L, Q y := by
  obtain ⟨g, hg⟩ := Classical.axiomOfChoice hex
  refine ⟨List.ofFn g, by simp, ?_, ?_⟩
  · by_cases h0 : len = 0
    · left; subst h0; simp [cellsOf]
    · right
      obtain ⟨b, o, spot⟩ := x
      have hlen0 : 0 < (f (g ⟨0, by omega⟩)).length := by rw [hf]; exact hz
      have hc0 := (hg ⟨0, by omega⟩).2 0 _ (List.getElem?_eq_getElem hlen0)
      have hspot : spot = none := by
        have := World.cell?_spot hc0
        simpa [Addr.add] using this
      subst hspot
      have hblk := World.block_lt_of_cell? _ _ hc0
      refine ⟨b, o, rfl, by simpa [Addr.add] using hblk, fun i v hv => ?_⟩
      obtain ⟨y, h1, h2⟩ := cellsOf_at f z hz hf _ i v hv
      rw [List.getElem?_ofFn] at h1
      split at h1
      · rename_i hlt
        simp only [Option.some.injEq] at h1
        subst h1
        have hh := (hg ⟨i / z, hlt⟩).2 _ v h2
        have e1 : ((⟨b, o, none⟩ : Addr).add (i / z * z)).add (i % z) = ⟨b, o + i, none⟩ := by
          have : i / z * z + i % z = i := Nat.div_add_mod' i z
          simp only [Addr.add]
          split <;> split <;> simp_all <;> omega
        rw [e1] at hh
        exact hh
      · cases h1
  · intro y hy
    rw [List.mem_ofFn] at hy
    obtain ⟨i, rfl⟩ := hy
    exact (hg i).1

set_option maxRecDepth 100000 in
theorem trod_nums {H : Type} {enc : TypeId × Value → H} {w : World} {fuel : Nat} {cs : List Value} {x : DataW H × List MemPlace}
    (h : DataW.trod enc Tryd.prog w 0 (fun _ => true) true fuel 71 cs = some x) :
    ∃ (a : Option Addr) (len cap : Nat) (L : List Int), cs = [.slice a len cap] ∧ L.length = len ∧ len ≤ cap ∧ cap ≤ 9223372036854775807 ∧ Arr w.heap.size w a (cellsI L) ∧ ∀ p ∈ L, -9223372036854775808 ≤ p ∧ p ≤ 9223372036854775807 := by
  rcases open_slice Tryd.underlying71 h with ⟨hcs, _⟩ | ⟨x, l, c, m, n, D, Pl, hcs, _, hl, hm, hmm, _, hi⟩
  · exact ⟨none, 0, 0, [], hcs, rfl, by omega, by omega, .inl rfl, by simp⟩
  · have hmc : m = c := by simpa using hmm
    have hC : Tryd.prog.cellsOf 3 = 1 := by kernel_rfl
    unfold maxLen at hm
    obtain ⟨L, h1, h2, h3⟩ := row_of (fun n : Int => [Value.int .i64 n]) 1 (by omega) (fun _ => rfl) (fun p => -9223372036854775808 ≤ p ∧ p ≤ 9223372036854775807) w x l (fun i => by
      obtain ⟨cs', hc', ht'⟩ := hi i.1 (by have := i.2; omega)
      rw [hC] at hc'
      obtain ⟨_, hlen, hat⟩ := World.cells?_some hc'
      obtain ⟨s, e0, -, w0⟩ := DataW.trod_int Tryd.underlying3 ht'
      subst e0
      exact ⟨s, bd_i64 w0, fun j v hj => by rw [hat j (by have := (List.getElem?_eq_some_iff.1 hj).1; simpa using this)]; exact hj⟩)
    exact ⟨some x, l, c, L, hcs, h1, hl, by omega, h2, h3⟩
end Go.Proofs.YtjhdlbkcpdfpcaaDoor

/- Rose trees as data and in memory: a label, and a slice of such trees. -/
set_option linter.unusedSimpArgs false
set_option linter.unusedVariables false
set_option maxRecDepth 100000
namespace Go.Proofs.YtjhdlbkcpdfpcaaDoor
open Go.RowKit

/-- A tree. -/
inductive Rose (α : Type) where
  | mk (lab : α) (args : List (Rose α))

def Rose.lab {α : Type} : Rose α → α
  | .mk l _ => l
def Rose.args {α : Type} : Rose α → List (Rose α)
  | .mk _ r => r
theorem Rose.eta {α : Type} (e : Rose α) : Rose.mk e.lab e.args = e := by cases e; rfl
theorem Rose.size_arg {α : Type} [SizeOf α] {l : α} {r : List (Rose α)} {x : Rose α} (h : x ∈ r) : SizeOf.sizeOf x < SizeOf.sizeOf (Rose.mk l r) := by
  have h1 := List.sizeOf_lt_of_mem h
  simp only [Rose.mk.sizeOf_spec]
  omega

theorem Rose.ind {α : Type} {P : Rose α → Prop} (h : ∀ l args, (∀ x ∈ args, P x) → P (.mk l args)) : ∀ e, P e
  | .mk l args => h l args (fun x _ => Rose.ind h x)
termination_by e => SizeOf.sizeOf e
decreasing_by exact Rose.size_arg ‹_›

/-- A tree with the place of its arguments. -/
structure RM (α : Type) where
  t : Rose α
  a : Option Addr
  cap : Nat

def cellsR {α : Type} (c : α → List Value) (x : RM α) : List Value := c x.t.lab ++ [.slice x.a x.t.args.length x.cap]

/-- The tree lies in blocks below N, at most n levels deep, each label fair; a and cap: the place of its arguments. -/
def RoseAt {α : Type} (F : α → Prop) (c : α → List Value) (N : Nat) (w : World) : Nat → RM α → Prop
  | 0, _ => False
  | n + 1, x => F x.t.lab ∧ x.t.args.length ≤ x.cap ∧ x.cap ≤ 9223372036854775807 ∧
      ∃ L : List (RM α), L.map (·.t) = x.t.args ∧ Arr N w x.a (cellsOf (cellsR c) L) ∧ ∀ y ∈ L, RoseAt F c N w n y

theorem RoseAt.below {α : Type} {F : α → Prop} {c : α → List Value} {N : Nat} {w w' : World} (hb : Below N w w') : ∀ {n : Nat} {x : RM α}, RoseAt F c N w n x → RoseAt F c N w' n x
  | 0, _, h => h.elim
  | n + 1, _, ⟨h1, h2, h3, L, h4, h5, h6⟩ => ⟨h1, h2, h3, L, h4, h5.below hb, fun y hy => RoseAt.below hb (h6 y hy)⟩

theorem RoseAt.mono {α : Type} {F : α → Prop} {c : α → List Value} {N M : Nat} {w : World} (hM : N ≤ M) : ∀ {n : Nat} {x : RM α}, RoseAt F c N w n x → RoseAt F c M w n x
  | 0, _, h => h.elim
  | n + 1, _, ⟨h1, h2, h3, L, h4, h5, h6⟩ => ⟨h1, h2, h3, L, h4, h5.mono hM, fun y hy => RoseAt.mono hM (h6 y hy)⟩

theorem RoseAt.later {α : Type} {F : α → Prop} {c : α → List Value} {w w' : World} {n : Nat} {x : RM α} (h : RoseAt F c w.heap.size w n x) (hb : Below w.heap.size w w') : RoseAt F c w'.heap.size w' n x := (h.below hb).mono hb.size

theorem RoseAt.up {α : Type} {F : α → Prop} {c : α → List Value} {N : Nat} {w : World} : ∀ {n : Nat} {x : RM α}, RoseAt F c N w n x → RoseAt F c N w (n + 1) x
  | 0, _, h => h.elim
  | n + 1, _, ⟨h1, h2, h3, L, h4, h5, h6⟩ => ⟨h1, h2, h3, L, h4, h5, fun y hy => RoseAt.up (h6 y hy)⟩

theorem RoseAt.ups {α : Type} {F : α → Prop} {c : α → List Value} {N : Nat} {w : World} {n m : Nat} {x : RM α} (h : RoseAt F c N w n x) (hm : n ≤ m) : RoseAt F c N w m x := by
  induction hm with
  | refl => exact h
  | step _ ih => exact ih.up

theorem RoseAt.pos {α : Type} {F : α → Prop} {c : α → List Value} {N : Nat} {w : World} {n : Nat} {x : RM α} (h : RoseAt F c N w n x) : 0 < n := by
  cases n with
  | zero => exact h.elim
  | succ n => omega

theorem RoseAt.fair {α : Type} {F : α → Prop} {c : α → List Value} {N : Nat} {w : World} {n : Nat} {x : RM α} (h : RoseAt F c N w n x) : F x.t.lab ∧ x.t.args.length ≤ x.cap ∧ x.cap ≤ 9223372036854775807 := by
  cases n with
  | zero => exact h.elim
  | succ n => exact ⟨h.1, h.2.1, h.2.2.1⟩

/-- The k-th argument: its cells. -/
theorem RoseAt.kid {α : Type} {F : α → Prop} {c : α → List Value} {z : Nat} (hz : ∀ l, (c l).length = z) {N : Nat} {w : World} {n : Nat} {x : RM α} (h : RoseAt F c N w (n + 1) x) {k : Nat} (hk : k < x.t.args.length) :
    ∃ y : RM α, y.t = x.t.args[k] ∧ RoseAt F c N w n y ∧ ∃ b o, x.a = some ⟨b, o, none⟩ ∧ b < N ∧ ∀ (j : Nat) (v : Value), (cellsR c y)[j]? = some v → w.cell? ⟨b, o + k * (z + 1) + j, none⟩ = some v := by
  obtain ⟨_, _, _, L, hL, hA, hR⟩ := h
  have hlen : L.length = x.t.args.length := by rw [← hL]; simp
  have hlz : ∀ y : RM α, (cellsR c y).length = z + 1 := fun y => by simp [cellsR, hz]
  have hkL : k < L.length := by omega
  obtain ⟨b, o, ha, hb, hc⟩ := hA.at_ (by intro h0; have := cellsOf_len (cellsR c) (z + 1) hlz L; rw [h0] at this; have h2 := Nat.mul_pos (show 0 < L.length by omega) (show 0 < z + 1 by omega); rw [List.length_nil] at this; omega)
  refine ⟨L[k], ?_, hR _ (List.getElem_mem _), b, o, ha, hb, fun j v hv => ?_⟩
  · have : (L.map (·.t))[k]? = some (L[k].t) := by simp [List.getElem?_eq_getElem hkL]
    rw [hL, List.getElem?_eq_getElem hk] at this
    exact (Option.some.inj this).symm
  · have := hc _ _ (cellsOf_get (cellsR c) (z + 1) hlz L k j L[k] v (List.getElem?_eq_getElem hkL) hv)
    rw [Nat.add_assoc]; exact this

end Go.Proofs.YtjhdlbkcpdfpcaaDoor

/- Plain mathematics of layer 2: the values of SQL. -/
set_option linter.unusedSimpArgs false
set_option linter.unusedVariables false
set_option maxRecDepth 100000
namespace Go.Proofs.YtjhdlbkcpdfpcaaDoor

/-- A value: its kind, its integer, its text. -/
structure Vl where
  k : Nat
  n : Int
  s : ByteArray
  deriving DecidableEq

/-- A value's fields fit their types. -/
def Vl.ok (x : Vl) : Prop := x.k < 256 ∧ -9223372036854775808 ≤ x.n ∧ x.n ≤ 9223372036854775807

def Vl.right (x : Vl) : Bool :=
  if x.k = 0 then decide (x.n = 0) && decide (x.s.size = 0)
  else if x.k = 1 then decide (x.s.size = 0)
  else if x.k = 2 ∨ x.k = 3 then decide (x.n = 0)
  else false

def nullV : Vl := ⟨0, 0, ⟨#[]⟩⟩
def numV (n : Int) : Vl := ⟨1, n, ⟨#[]⟩⟩

/-- Does an int64 hold it? -/
def fits (n : Int) : Bool := decide (-9223372036854775808 ≤ n ∧ n ≤ 9223372036854775807)

def addI (x y : Int) : Int × Int := if fits (x + y) then (x + y, 0) else (0, 21)
def subI (x y : Int) : Int × Int := if fits (x - y) then (x - y, 0) else (0, 21)
def mulI (x y : Int) : Int × Int := if fits (x * y) then (x * y, 0) else (0, 21)
def divI (x y : Int) : Int × Int := if y = 0 then (0, 22) else if fits (x.tdiv y) then (x.tdiv y, 0) else (0, 21)
def modI (x y : Int) : Int × Int := if y = 0 then (0, 22) else (x.tmod y, 0)

/-- An operation on two values. -/
def arithV (op : Int → Int → Int × Int) (a b : Vl) : Vl × Int :=
  if a.right = false ∨ b.right = false then (nullV, 3)
  else if 1 < a.k ∨ 1 < b.k then (nullV, 20)
  else if a.k = 0 ∨ b.k = 0 then (nullV, 0)
  else if (op a.n b.n).2 ≠ 0 then (nullV, (op a.n b.n).2) else (numV (op a.n b.n).1, 0)

theorem fits_iff (n : Int) : fits n = true ↔ -9223372036854775808 ≤ n ∧ n ≤ 9223372036854775807 := by simp [fits]

/-- A product that wrapped doesn't give back its factor. -/
theorem mul_back (x y : Int) (hx1 : -9223372036854775808 ≤ x) (hx2 : x ≤ 9223372036854775807) (hy1 : -9223372036854775808 ≤ y) (hy2 : y ≤ 9223372036854775807) (hy : y ≠ 0)
    (hf : fits (x * y) = false) : (IntKind.i64.wrap (x * y)).tdiv y ≠ x := by
  intro h
  have hnf : ¬ (-9223372036854775808 ≤ x * y ∧ x * y ≤ 9223372036854775807) := by
    intro hh; rw [(fits_iff _).2 hh] at hf; cases hf
  have hdm := Int.tdiv_mul_add_tmod (IntKind.i64.wrap (x * y)) y
  rw [h] at hdm
  have hlt : ((IntKind.i64.wrap (x * y)).tmod y).natAbs < y.natAbs := by rw [Int.natAbs_tmod]; exact Nat.mod_lt _ (by omega)
  rw [IntKind.wrap_i64] at *
  generalize x * y = p at *
  omega

end Go.Proofs.YtjhdlbkcpdfpcaaDoor

/- Expressions (layer 20) as data and in memory: what is known of one that comes in. -/
set_option linter.unusedSimpArgs false
set_option linter.unusedVariables false
set_option maxRecDepth 100000
namespace Go.Proofs.YtjhdlbkcpdfpcaaDoor
open Go.RowKit Go.ChangeShapes Go.WideShapes Go.Deep Go.Joins

/-- All fields of an expression but its arguments. -/
structure Lb where
  kd : Int
  v : Vl
  tb : ByteArray
  nm : ByteArray
  op : ByteArray
  deriving DecidableEq

abbrev Ex := Rose Lb
abbrev XM := RM Lb

def Lb.cells (l : Lb) : List Value := [.int .i64 l.kd, .int .u8 l.v.k, .int .i64 l.v.n, .string l.v.s, .string l.tb, .string l.nm, .string l.op]
theorem Lb.cells_len (l : Lb) : l.cells.length = 7 := rfl

structure Lb.fair (l : Lb) : Prop where
  kd : -9223372036854775808 ≤ l.kd ∧ l.kd ≤ 9223372036854775807
  k : l.v.k < 256
  n : -9223372036854775808 ≤ l.v.n ∧ l.v.n ≤ 9223372036854775807
  s : l.v.s.size ≤ 140737488351232
  tb : l.tb.size ≤ 140737488351232
  nm : l.nm.size ≤ 140737488351232
  op : l.op.size ≤ 140737488351232

/-- The cells of an expression. -/
def cellsX (x : XM) : List Value := cellsR Lb.cells x
theorem cellsX_len (x : XM) : (cellsX x).length = 8 := rfl
/-- An expression by value. -/
def XM.v (x : XM) : Value := .agg (cellsX x).toArray

/-- The expression's arguments lie in blocks below N. -/
def XAt (N : Nat) (w : World) (n : Nat) (x : XM) : Prop := RoseAt Lb.fair Lb.cells N w n x

theorem XAt.below {N : Nat} {w w' : World} {n : Nat} {x : XM} (h : XAt N w n x) (hb : Below N w w') : XAt N w' n x := RoseAt.below hb h
theorem XAt.mono {N M : Nat} {w : World} {n : Nat} {x : XM} (h : XAt N w n x) (hM : N ≤ M) : XAt M w n x := RoseAt.mono hM h
theorem XAt.later {w w' : World} {n : Nat} {x : XM} (h : XAt w.heap.size w n x) (hb : Below w.heap.size w w') : XAt w'.heap.size w' n x := RoseAt.later h hb
theorem XAt.pos {N : Nat} {w : World} {n : Nat} {x : XM} (h : XAt N w n x) : 0 < n := RoseAt.pos h
theorem XAt.fair {N : Nat} {w : World} {n : Nat} {x : XM} (h : XAt N w n x) : x.t.lab.fair ∧ x.t.args.length ≤ x.cap ∧ x.cap ≤ 9223372036854775807 := RoseAt.fair h

/-- The k-th argument: its cells. -/
theorem XAt.kid {N : Nat} {w : World} {n : Nat} {x : XM} (h : XAt N w (n + 1) x) {k : Nat} (hk : k < x.t.args.length) :
    ∃ y : XM, y.t = x.t.args[k] ∧ XAt N w n y ∧ ∃ b o, x.a = some ⟨b, o, none⟩ ∧ b < N ∧ ∀ (j : Nat) (v : Value), (cellsX y)[j]? = some v → w.cell? ⟨b, o + k * 8 + j, none⟩ = some v :=
  RoseAt.kid Lb.cells_len h hk
end Go.Proofs.YtjhdlbkcpdfpcaaDoor

/- Classes of code points. -/
set_option linter.unusedSimpArgs false
set_option linter.unusedVariables false
set_option maxRecDepth 100000
namespace Go.Proofs.YtjhdlbkcpdfpcaaDoor
set_option linter.unusedSimpArgs false
open Go.RowKit

def classZ (v : Int) : Int :=
  if v = 32 ∨ v = 9 ∨ v = 10 ∨ v = 13 then 1
  else if (97 ≤ v ∧ v ≤ 122) ∨ (65 ≤ v ∧ v ≤ 90) ∨ v = 95 then 2
  else if 48 ≤ v ∧ v ≤ 57 then 3
  else if v = 39 then 4
  else if 33 ≤ v ∧ v ≤ 126 then 5
  else 0

theorem class_of (v k : Int) (h : (k = 1 ∧ (v = 32 ∨ v = 9 ∨ v = 10 ∨ v = 13)) ∨ (k = 2 ∧ ((97 ≤ v ∧ v ≤ 122) ∨ (65 ≤ v ∧ v ≤ 90) ∨ v = 95)) ∨ (k = 3 ∧ 48 ≤ v ∧ v ≤ 57) ∨ (k = 4 ∧ v = 39) ∨
    (k = 5 ∧ 33 ≤ v ∧ v ≤ 126 ∧ ¬ (97 ≤ v ∧ v ≤ 122) ∧ ¬ (65 ≤ v ∧ v ≤ 90) ∧ v ≠ 95 ∧ ¬ (48 ≤ v ∧ v ≤ 57) ∧ v ≠ 39) ∨ (k = 0 ∧ v ≠ 32 ∧ v ≠ 9 ∧ v ≠ 10 ∧ v ≠ 13 ∧ ¬ (33 ≤ v ∧ v ≤ 126))) : classZ v = k := by
  unfold classZ
  repeat' split
  all_goals omega

set_option maxRecDepth 100000 in
set_option maxHeartbeats 4000000 in
theorem Class_any (c : Int) (w : World) : Calls Tryd.prog 47 #[.int .i32 c] w fun e w' => e = .returned (.int .i64 (classZ c)) ∧ w = w' := by
  by_cases k9 : c = 9
  · subst k9
    go_enter Tryd.func47, Tryd.ntmps47
    go_wp2
    go_ret
    exact ⟨rfl, rfl⟩
  by_cases k10 : c = 10
  · subst k10
    go_enter Tryd.func47, Tryd.ntmps47
    go_wp2
    go_ret
    exact ⟨rfl, rfl⟩
  by_cases k13 : c = 13
  · subst k13
    go_enter Tryd.func47, Tryd.ntmps47
    go_wp2
    go_ret
    exact ⟨rfl, rfl⟩
  by_cases k32 : c = 32
  · subst k32
    go_enter Tryd.func47, Tryd.ntmps47
    go_wp2
    go_ret
    exact ⟨rfl, rfl⟩
  by_cases k39 : c = 39
  · subst k39
    go_enter Tryd.func47, Tryd.ntmps47
    go_wp2
    go_ret
    exact ⟨rfl, rfl⟩
  by_cases k95 : c = 95
  · subst k95
    go_enter Tryd.func47, Tryd.ntmps47
    go_wp2
    go_ret
    exact ⟨rfl, rfl⟩
  by_cases rx : c ≤ 8
  · have hcl : Hid (classZ c = 0) := class_of c 0 (by omega)
    have e32 : (c == 32) = false := by simp; omega
    have e9 : (c == 9) = false := by simp; omega
    have e10 : (c == 10) = false := by simp; omega
    have e13 : (c == 13) = false := by simp; omega
    have e95 : (c == 95) = false := by simp; omega
    have e39 : (c == 39) = false := by simp; omega
    have g97 : decide (97 ≤ c) = false := by simp; omega
    have l122 : decide (c ≤ 122) = true := by simp; omega
    have g65 : decide (65 ≤ c) = false := by simp; omega
    have l90 : decide (c ≤ 90) = true := by simp; omega
    have g48 : decide (48 ≤ c) = false := by simp; omega
    have l57 : decide (c ≤ 57) = true := by simp; omega
    have g33 : decide (33 ≤ c) = false := by simp; omega
    have l126 : decide (c ≤ 126) = true := by simp; omega
    clear k9 k10 k13 k32 k39 k95 rx
    go_enter Tryd.func47, Tryd.ntmps47
    go_wp2
    go_ret
    exact ⟨by rw [hcl.out]; rfl, rfl⟩
  by_cases r11 : 11 ≤ c ∧ c ≤ 12
  · have hcl : Hid (classZ c = 0) := class_of c 0 (by omega)
    have e32 : (c == 32) = false := by simp; omega
    have e9 : (c == 9) = false := by simp; omega
    have e10 : (c == 10) = false := by simp; omega
    have e13 : (c == 13) = false := by simp; omega
    have e95 : (c == 95) = false := by simp; omega
    have e39 : (c == 39) = false := by simp; omega
    have g97 : decide (97 ≤ c) = false := by simp; omega
    have l122 : decide (c ≤ 122) = true := by simp; omega
    have g65 : decide (65 ≤ c) = false := by simp; omega
    have l90 : decide (c ≤ 90) = true := by simp; omega
    have g48 : decide (48 ≤ c) = false := by simp; omega
    have l57 : decide (c ≤ 57) = true := by simp; omega
    have g33 : decide (33 ≤ c) = false := by simp; omega
    have l126 : decide (c ≤ 126) = true := by simp; omega
    clear k9 k10 k13 k32 k39 k95 r11 rx
    go_enter Tryd.func47, Tryd.ntmps47
    go_wp2
    go_ret
    exact ⟨by rw [hcl.out]; rfl, rfl⟩
  by_cases r14 : 14 ≤ c ∧ c ≤ 31
  · have hcl : Hid (classZ c = 0) := class_of c 0 (by omega)
    have e32 : (c == 32) = false := by simp; omega
    have e9 : (c == 9) = false := by simp; omega
    have e10 : (c == 10) = false := by simp; omega
    have e13 : (c == 13) = false := by simp; omega
    have e95 : (c == 95) = false := by simp; omega
    have e39 : (c == 39) = false := by simp; omega
    have g97 : decide (97 ≤ c) = false := by simp; omega
    have l122 : decide (c ≤ 122) = true := by simp; omega
    have g65 : decide (65 ≤ c) = false := by simp; omega
    have l90 : decide (c ≤ 90) = true := by simp; omega
    have g48 : decide (48 ≤ c) = false := by simp; omega
    have l57 : decide (c ≤ 57) = true := by simp; omega
    have g33 : decide (33 ≤ c) = false := by simp; omega
    have l126 : decide (c ≤ 126) = true := by simp; omega
    clear k9 k10 k13 k32 k39 k95 r14 rx r11
    go_enter Tryd.func47, Tryd.ntmps47
    go_wp2
    go_ret
    exact ⟨by rw [hcl.out]; rfl, rfl⟩
  by_cases r33 : 33 ≤ c ∧ c ≤ 38
  · have hcl : Hid (classZ c = 5) := class_of c 5 (by omega)
    have e32 : (c == 32) = false := by simp; omega
    have e9 : (c == 9) = false := by simp; omega
    have e10 : (c == 10) = false := by simp; omega
    have e13 : (c == 13) = false := by simp; omega
    have e95 : (c == 95) = false := by simp; omega
    have e39 : (c == 39) = false := by simp; omega
    have g97 : decide (97 ≤ c) = false := by simp; omega
    have l122 : decide (c ≤ 122) = true := by simp; omega
    have g65 : decide (65 ≤ c) = false := by simp; omega
    have l90 : decide (c ≤ 90) = true := by simp; omega
    have g48 : decide (48 ≤ c) = false := by simp; omega
    have l57 : decide (c ≤ 57) = true := by simp; omega
    have g33 : decide (33 ≤ c) = true := by simp; omega
    have l126 : decide (c ≤ 126) = true := by simp; omega
    clear k9 k10 k13 k32 k39 k95 r33 rx r11 r14
    go_enter Tryd.func47, Tryd.ntmps47
    go_wp2
    go_ret
    exact ⟨by rw [hcl.out]; rfl, rfl⟩
  by_cases r40 : 40 ≤ c ∧ c ≤ 47
  · have hcl : Hid (classZ c = 5) := class_of c 5 (by omega)
    have e32 : (c == 32) = false := by simp; omega
    have e9 : (c == 9) = false := by simp; omega
    have e10 : (c == 10) = false := by simp; omega
    have e13 : (c == 13) = false := by simp; omega
    have e95 : (c == 95) = false := by simp; omega
    have e39 : (c == 39) = false := by simp; omega
    have g97 : decide (97 ≤ c) = false := by simp; omega
    have l122 : decide (c ≤ 122) = true := by simp; omega
    have g65 : decide (65 ≤ c) = false := by simp; omega
    have l90 : decide (c ≤ 90) = true := by simp; omega
    have g48 : decide (48 ≤ c) = false := by simp; omega
    have l57 : decide (c ≤ 57) = true := by simp; omega
    have g33 : decide (33 ≤ c) = true := by simp; omega
    have l126 : decide (c ≤ 126) = true := by simp; omega
    clear k9 k10 k13 k32 k39 k95 r40 rx r11 r14 r33
    go_enter Tryd.func47, Tryd.ntmps47
    go_wp2
    go_ret
    exact ⟨by rw [hcl.out]; rfl, rfl⟩
  by_cases r48 : 48 ≤ c ∧ c ≤ 57
  · have hcl : Hid (classZ c = 3) := class_of c 3 (by omega)
    have e32 : (c == 32) = false := by simp; omega
    have e9 : (c == 9) = false := by simp; omega
    have e10 : (c == 10) = false := by simp; omega
    have e13 : (c == 13) = false := by simp; omega
    have e95 : (c == 95) = false := by simp; omega
    have e39 : (c == 39) = false := by simp; omega
    have g97 : decide (97 ≤ c) = false := by simp; omega
    have l122 : decide (c ≤ 122) = true := by simp; omega
    have g65 : decide (65 ≤ c) = false := by simp; omega
    have l90 : decide (c ≤ 90) = true := by simp; omega
    have g48 : decide (48 ≤ c) = true := by simp; omega
    have l57 : decide (c ≤ 57) = true := by simp; omega
    have g33 : decide (33 ≤ c) = true := by simp; omega
    have l126 : decide (c ≤ 126) = true := by simp; omega
    clear k9 k10 k13 k32 k39 k95 r48 rx r11 r14 r33 r40
    go_enter Tryd.func47, Tryd.ntmps47
    go_wp2
    go_ret
    exact ⟨by rw [hcl.out]; rfl, rfl⟩
  by_cases r58 : 58 ≤ c ∧ c ≤ 64
  · have hcl : Hid (classZ c = 5) := class_of c 5 (by omega)
    have e32 : (c == 32) = false := by simp; omega
    have e9 : (c == 9) = false := by simp; omega
    have e10 : (c == 10) = false := by simp; omega
    have e13 : (c == 13) = false := by simp; omega
    have e95 : (c == 95) = false := by simp; omega
    have e39 : (c == 39) = false := by simp; omega
    have g97 : decide (97 ≤ c) = false := by simp; omega
    have l122 : decide (c ≤ 122) = true := by simp; omega
    have g65 : decide (65 ≤ c) = false := by simp; omega
    have l90 : decide (c ≤ 90) = true := by simp; omega
    have g48 : decide (48 ≤ c) = true := by simp; omega
    have l57 : decide (c ≤ 57) = false := by simp; omega
    have g33 : decide (33 ≤ c) = true := by simp; omega
    have l126 : decide (c ≤ 126) = true := by simp; omega
    clear k9 k10 k13 k32 k39 k95 r58 rx r11 r14 r33 r40 r48
    go_enter Tryd.func47, Tryd.ntmps47
    go_wp2
    go_ret
    exact ⟨by rw [hcl.out]; rfl, rfl⟩
  by_cases r65 : 65 ≤ c ∧ c ≤ 90
  · have hcl : Hid (classZ c = 2) := class_of c 2 (by omega)
    have e32 : (c == 32) = false := by simp; omega
    have e9 : (c == 9) = false := by simp; omega
    have e10 : (c == 10) = false := by simp; omega
    have e13 : (c == 13) = false := by simp; omega
    have e95 : (c == 95) = false := by simp; omega
    have e39 : (c == 39) = false := by simp; omega
    have g97 : decide (97 ≤ c) = false := by simp; omega
    have l122 : decide (c ≤ 122) = true := by simp; omega
    have g65 : decide (65 ≤ c) = true := by simp; omega
    have l90 : decide (c ≤ 90) = true := by simp; omega
    have g48 : decide (48 ≤ c) = true := by simp; omega
    have l57 : decide (c ≤ 57) = false := by simp; omega
    have g33 : decide (33 ≤ c) = true := by simp; omega
    have l126 : decide (c ≤ 126) = true := by simp; omega
    clear k9 k10 k13 k32 k39 k95 r65 rx r11 r14 r33 r40 r48 r58
    go_enter Tryd.func47, Tryd.ntmps47
    go_wp2
    go_ret
    exact ⟨by rw [hcl.out]; rfl, rfl⟩
  by_cases r91 : 91 ≤ c ∧ c ≤ 94
  · have hcl : Hid (classZ c = 5) := class_of c 5 (by omega)
    have e32 : (c == 32) = false := by simp; omega
    have e9 : (c == 9) = false := by simp; omega
    have e10 : (c == 10) = false := by simp; omega
    have e13 : (c == 13) = false := by simp; omega
    have e95 : (c == 95) = false := by simp; omega
    have e39 : (c == 39) = false := by simp; omega
    have g97 : decide (97 ≤ c) = false := by simp; omega
    have l122 : decide (c ≤ 122) = true := by simp; omega
    have g65 : decide (65 ≤ c) = true := by simp; omega
    have l90 : decide (c ≤ 90) = false := by simp; omega
    have g48 : decide (48 ≤ c) = true := by simp; omega
    have l57 : decide (c ≤ 57) = false := by simp; omega
    have g33 : decide (33 ≤ c) = true := by simp; omega
    have l126 : decide (c ≤ 126) = true := by simp; omega
    clear k9 k10 k13 k32 k39 k95 r91 rx r11 r14 r33 r40 r48 r58 r65
    go_enter Tryd.func47, Tryd.ntmps47
    go_wp2
    go_ret
    exact ⟨by rw [hcl.out]; rfl, rfl⟩
  by_cases r96 : 96 ≤ c ∧ c ≤ 96
  · have hcl : Hid (classZ c = 5) := class_of c 5 (by omega)
    have e32 : (c == 32) = false := by simp; omega
    have e9 : (c == 9) = false := by simp; omega
    have e10 : (c == 10) = false := by simp; omega
    have e13 : (c == 13) = false := by simp; omega
    have e95 : (c == 95) = false := by simp; omega
    have e39 : (c == 39) = false := by simp; omega
    have g97 : decide (97 ≤ c) = false := by simp; omega
    have l122 : decide (c ≤ 122) = true := by simp; omega
    have g65 : decide (65 ≤ c) = true := by simp; omega
    have l90 : decide (c ≤ 90) = false := by simp; omega
    have g48 : decide (48 ≤ c) = true := by simp; omega
    have l57 : decide (c ≤ 57) = false := by simp; omega
    have g33 : decide (33 ≤ c) = true := by simp; omega
    have l126 : decide (c ≤ 126) = true := by simp; omega
    clear k9 k10 k13 k32 k39 k95 r96 rx r11 r14 r33 r40 r48 r58 r65 r91
    go_enter Tryd.func47, Tryd.ntmps47
    go_wp2
    go_ret
    exact ⟨by rw [hcl.out]; rfl, rfl⟩
  by_cases r97 : 97 ≤ c ∧ c ≤ 122
  · have hcl : Hid (classZ c = 2) := class_of c 2 (by omega)
    have e32 : (c == 32) = false := by simp; omega
    have e9 : (c == 9) = false := by simp; omega
    have e10 : (c == 10) = false := by simp; omega
    have e13 : (c == 13) = false := by simp; omega
    have e95 : (c == 95) = false := by simp; omega
    have e39 : (c == 39) = false := by simp; omega
    have g97 : decide (97 ≤ c) = true := by simp; omega
    have l122 : decide (c ≤ 122) = true := by simp; omega
    have g65 : decide (65 ≤ c) = true := by simp; omega
    have l90 : decide (c ≤ 90) = false := by simp; omega
    have g48 : decide (48 ≤ c) = true := by simp; omega
    have l57 : decide (c ≤ 57) = false := by simp; omega
    have g33 : decide (33 ≤ c) = true := by simp; omega
    have l126 : decide (c ≤ 126) = true := by simp; omega
    clear k9 k10 k13 k32 k39 k95 r97 rx r11 r14 r33 r40 r48 r58 r65 r91 r96
    go_enter Tryd.func47, Tryd.ntmps47
    go_wp2
    go_ret
    exact ⟨by rw [hcl.out]; rfl, rfl⟩
  by_cases r123 : 123 ≤ c ∧ c ≤ 126
  · have hcl : Hid (classZ c = 5) := class_of c 5 (by omega)
    have e32 : (c == 32) = false := by simp; omega
    have e9 : (c == 9) = false := by simp; omega
    have e10 : (c == 10) = false := by simp; omega
    have e13 : (c == 13) = false := by simp; omega
    have e95 : (c == 95) = false := by simp; omega
    have e39 : (c == 39) = false := by simp; omega
    have g97 : decide (97 ≤ c) = true := by simp; omega
    have l122 : decide (c ≤ 122) = false := by simp; omega
    have g65 : decide (65 ≤ c) = true := by simp; omega
    have l90 : decide (c ≤ 90) = false := by simp; omega
    have g48 : decide (48 ≤ c) = true := by simp; omega
    have l57 : decide (c ≤ 57) = false := by simp; omega
    have g33 : decide (33 ≤ c) = true := by simp; omega
    have l126 : decide (c ≤ 126) = true := by simp; omega
    clear k9 k10 k13 k32 k39 k95 r123 rx r11 r14 r33 r40 r48 r58 r65 r91 r96 r97
    go_enter Tryd.func47, Tryd.ntmps47
    go_wp2
    go_ret
    exact ⟨by rw [hcl.out]; rfl, rfl⟩
  by_cases r127 : 127 ≤ c
  · have hcl : Hid (classZ c = 0) := class_of c 0 (by omega)
    have e32 : (c == 32) = false := by simp; omega
    have e9 : (c == 9) = false := by simp; omega
    have e10 : (c == 10) = false := by simp; omega
    have e13 : (c == 13) = false := by simp; omega
    have e95 : (c == 95) = false := by simp; omega
    have e39 : (c == 39) = false := by simp; omega
    have g97 : decide (97 ≤ c) = true := by simp; omega
    have l122 : decide (c ≤ 122) = false := by simp; omega
    have g65 : decide (65 ≤ c) = true := by simp; omega
    have l90 : decide (c ≤ 90) = false := by simp; omega
    have g48 : decide (48 ≤ c) = true := by simp; omega
    have l57 : decide (c ≤ 57) = false := by simp; omega
    have g33 : decide (33 ≤ c) = true := by simp; omega
    have l126 : decide (c ≤ 126) = false := by simp; omega
    clear k9 k10 k13 k32 k39 k95 r127 rx r11 r14 r33 r40 r48 r58 r65 r91 r96 r97 r123
    go_enter Tryd.func47, Tryd.ntmps47
    go_wp2
    go_ret
    exact ⟨by rw [hcl.out]; rfl, rfl⟩
  exfalso; omega

set_option maxRecDepth 100000 in
set_option maxHeartbeats 4000000 in
theorem rClass_any (c : Int) (w : World) : Calls Tryd.prog 106 #[.int .i64 c] w fun e w' => e = .returned (.int .i64 (classZ c)) ∧ w = w' := by
  by_cases k9 : c = 9
  · subst k9
    go_enter Tryd.func106, Tryd.ntmps106
    go_wp2
    go_ret
    exact ⟨rfl, rfl⟩
  by_cases k10 : c = 10
  · subst k10
    go_enter Tryd.func106, Tryd.ntmps106
    go_wp2
    go_ret
    exact ⟨rfl, rfl⟩
  by_cases k13 : c = 13
  · subst k13
    go_enter Tryd.func106, Tryd.ntmps106
    go_wp2
    go_ret
    exact ⟨rfl, rfl⟩
  by_cases k32 : c = 32
  · subst k32
    go_enter Tryd.func106, Tryd.ntmps106
    go_wp2
    go_ret
    exact ⟨rfl, rfl⟩
  by_cases k39 : c = 39
  · subst k39
    go_enter Tryd.func106, Tryd.ntmps106
    go_wp2
    go_ret
    exact ⟨rfl, rfl⟩
  by_cases k95 : c = 95
  · subst k95
    go_enter Tryd.func106, Tryd.ntmps106
    go_wp2
    go_ret
    exact ⟨rfl, rfl⟩
  by_cases rx : c ≤ 8
  · have hcl : Hid (classZ c = 0) := class_of c 0 (by omega)
    have e32 : (c == 32) = false := by simp; omega
    have e9 : (c == 9) = false := by simp; omega
    have e10 : (c == 10) = false := by simp; omega
    have e13 : (c == 13) = false := by simp; omega
    have e95 : (c == 95) = false := by simp; omega
    have e39 : (c == 39) = false := by simp; omega
    have g97 : decide (97 ≤ c) = false := by simp; omega
    have l122 : decide (c ≤ 122) = true := by simp; omega
    have g65 : decide (65 ≤ c) = false := by simp; omega
    have l90 : decide (c ≤ 90) = true := by simp; omega
    have g48 : decide (48 ≤ c) = false := by simp; omega
    have l57 : decide (c ≤ 57) = true := by simp; omega
    have g33 : decide (33 ≤ c) = false := by simp; omega
    have l126 : decide (c ≤ 126) = true := by simp; omega
    clear k9 k10 k13 k32 k39 k95 rx
    go_enter Tryd.func106, Tryd.ntmps106
    go_wp2
    go_ret
    exact ⟨by rw [hcl.out]; rfl, rfl⟩
  by_cases r11 : 11 ≤ c ∧ c ≤ 12
  · have hcl : Hid (classZ c = 0) := class_of c 0 (by omega)
    have e32 : (c == 32) = false := by simp; omega
    have e9 : (c == 9) = false := by simp; omega
    have e10 : (c == 10) = false := by simp; omega
    have e13 : (c == 13) = false := by simp; omega
    have e95 : (c == 95) = false := by simp; omega
    have e39 : (c == 39) = false := by simp; omega
    have g97 : decide (97 ≤ c) = false := by simp; omega
    have l122 : decide (c ≤ 122) = true := by simp; omega
    have g65 : decide (65 ≤ c) = false := by simp; omega
    have l90 : decide (c ≤ 90) = true := by simp; omega
    have g48 : decide (48 ≤ c) = false := by simp; omega
    have l57 : decide (c ≤ 57) = true := by simp; omega
    have g33 : decide (33 ≤ c) = false := by simp; omega
    have l126 : decide (c ≤ 126) = true := by simp; omega
    clear k9 k10 k13 k32 k39 k95 r11 rx
    go_enter Tryd.func106, Tryd.ntmps106
    go_wp2
    go_ret
    exact ⟨by rw [hcl.out]; rfl, rfl⟩
  by_cases r14 : 14 ≤ c ∧ c ≤ 31
  · have hcl : Hid (classZ c = 0) := class_of c 0 (by omega)
    have e32 : (c == 32) = false := by simp; omega
    have e9 : (c == 9) = false := by simp; omega
    have e10 : (c == 10) = false := by simp; omega
    have e13 : (c == 13) = false := by simp; omega
    have e95 : (c == 95) = false := by simp; omega
    have e39 : (c == 39) = false := by simp; omega
    have g97 : decide (97 ≤ c) = false := by simp; omega
    have l122 : decide (c ≤ 122) = true := by simp; omega
    have g65 : decide (65 ≤ c) = false := by simp; omega
    have l90 : decide (c ≤ 90) = true := by simp; omega
    have g48 : decide (48 ≤ c) = false := by simp; omega
    have l57 : decide (c ≤ 57) = true := by simp; omega
    have g33 : decide (33 ≤ c) = false := by simp; omega
    have l126 : decide (c ≤ 126) = true := by simp; omega
    clear k9 k10 k13 k32 k39 k95 r14 rx r11
    go_enter Tryd.func106, Tryd.ntmps106
    go_wp2
    go_ret
    exact ⟨by rw [hcl.out]; rfl, rfl⟩
  by_cases r33 : 33 ≤ c ∧ c ≤ 38
  · have hcl : Hid (classZ c = 5) := class_of c 5 (by omega)
    have e32 : (c == 32) = false := by simp; omega
    have e9 : (c == 9) = false := by simp; omega
    have e10 : (c == 10) = false := by simp; omega
    have e13 : (c == 13) = false := by simp; omega
    have e95 : (c == 95) = false := by simp; omega
    have e39 : (c == 39) = false := by simp; omega
    have g97 : decide (97 ≤ c) = false := by simp; omega
    have l122 : decide (c ≤ 122) = true := by simp; omega
    have g65 : decide (65 ≤ c) = false := by simp; omega
    have l90 : decide (c ≤ 90) = true := by simp; omega
    have g48 : decide (48 ≤ c) = false := by simp; omega
    have l57 : decide (c ≤ 57) = true := by simp; omega
    have g33 : decide (33 ≤ c) = true := by simp; omega
    have l126 : decide (c ≤ 126) = true := by simp; omega
    clear k9 k10 k13 k32 k39 k95 r33 rx r11 r14
    go_enter Tryd.func106, Tryd.ntmps106
    go_wp2
    go_ret
    exact ⟨by rw [hcl.out]; rfl, rfl⟩
  by_cases r40 : 40 ≤ c ∧ c ≤ 47
  · have hcl : Hid (classZ c = 5) := class_of c 5 (by omega)
    have e32 : (c == 32) = false := by simp; omega
    have e9 : (c == 9) = false := by simp; omega
    have e10 : (c == 10) = false := by simp; omega
    have e13 : (c == 13) = false := by simp; omega
    have e95 : (c == 95) = false := by simp; omega
    have e39 : (c == 39) = false := by simp; omega
    have g97 : decide (97 ≤ c) = false := by simp; omega
    have l122 : decide (c ≤ 122) = true := by simp; omega
    have g65 : decide (65 ≤ c) = false := by simp; omega
    have l90 : decide (c ≤ 90) = true := by simp; omega
    have g48 : decide (48 ≤ c) = false := by simp; omega
    have l57 : decide (c ≤ 57) = true := by simp; omega
    have g33 : decide (33 ≤ c) = true := by simp; omega
    have l126 : decide (c ≤ 126) = true := by simp; omega
    clear k9 k10 k13 k32 k39 k95 r40 rx r11 r14 r33
    go_enter Tryd.func106, Tryd.ntmps106
    go_wp2
    go_ret
    exact ⟨by rw [hcl.out]; rfl, rfl⟩
  by_cases r48 : 48 ≤ c ∧ c ≤ 57
  · have hcl : Hid (classZ c = 3) := class_of c 3 (by omega)
    have e32 : (c == 32) = false := by simp; omega
    have e9 : (c == 9) = false := by simp; omega
    have e10 : (c == 10) = false := by simp; omega
    have e13 : (c == 13) = false := by simp; omega
    have e95 : (c == 95) = false := by simp; omega
    have e39 : (c == 39) = false := by simp; omega
    have g97 : decide (97 ≤ c) = false := by simp; omega
    have l122 : decide (c ≤ 122) = true := by simp; omega
    have g65 : decide (65 ≤ c) = false := by simp; omega
    have l90 : decide (c ≤ 90) = true := by simp; omega
    have g48 : decide (48 ≤ c) = true := by simp; omega
    have l57 : decide (c ≤ 57) = true := by simp; omega
    have g33 : decide (33 ≤ c) = true := by simp; omega
    have l126 : decide (c ≤ 126) = true := by simp; omega
    clear k9 k10 k13 k32 k39 k95 r48 rx r11 r14 r33 r40
    go_enter Tryd.func106, Tryd.ntmps106
    go_wp2
    go_ret
    exact ⟨by rw [hcl.out]; rfl, rfl⟩
  by_cases r58 : 58 ≤ c ∧ c ≤ 64
  · have hcl : Hid (classZ c = 5) := class_of c 5 (by omega)
    have e32 : (c == 32) = false := by simp; omega
    have e9 : (c == 9) = false := by simp; omega
    have e10 : (c == 10) = false := by simp; omega
    have e13 : (c == 13) = false := by simp; omega
    have e95 : (c == 95) = false := by simp; omega
    have e39 : (c == 39) = false := by simp; omega
    have g97 : decide (97 ≤ c) = false := by simp; omega
    have l122 : decide (c ≤ 122) = true := by simp; omega
    have g65 : decide (65 ≤ c) = false := by simp; omega
    have l90 : decide (c ≤ 90) = true := by simp; omega
    have g48 : decide (48 ≤ c) = true := by simp; omega
    have l57 : decide (c ≤ 57) = false := by simp; omega
    have g33 : decide (33 ≤ c) = true := by simp; omega
    have l126 : decide (c ≤ 126) = true := by simp; omega
    clear k9 k10 k13 k32 k39 k95 r58 rx r11 r14 r33 r40 r48
    go_enter Tryd.func106, Tryd.ntmps106
    go_wp2
    go_ret
    exact ⟨by rw [hcl.out]; rfl, rfl⟩
  by_cases r65 : 65 ≤ c ∧ c ≤ 90
  · have hcl : Hid (classZ c = 2) := class_of c 2 (by omega)
    have e32 : (c == 32) = false := by simp; omega
    have e9 : (c == 9) = false := by simp; omega
    have e10 : (c == 10) = false := by simp; omega
    have e13 : (c == 13) = false := by simp; omega
    have e95 : (c == 95) = false := by simp; omega
    have e39 : (c == 39) = false := by simp; omega
    have g97 : decide (97 ≤ c) = false := by simp; omega
    have l122 : decide (c ≤ 122) = true := by simp; omega
    have g65 : decide (65 ≤ c) = true := by simp; omega
    have l90 : decide (c ≤ 90) = true := by simp; omega
    have g48 : decide (48 ≤ c) = true := by simp; omega
    have l57 : decide (c ≤ 57) = false := by simp; omega
    have g33 : decide (33 ≤ c) = true := by simp; omega
    have l126 : decide (c ≤ 126) = true := by simp; omega
    clear k9 k10 k13 k32 k39 k95 r65 rx r11 r14 r33 r40 r48 r58
    go_enter Tryd.func106, Tryd.ntmps106
    go_wp2
    go_ret
    exact ⟨by rw [hcl.out]; rfl, rfl⟩
  by_cases r91 : 91 ≤ c ∧ c ≤ 94
  · have hcl : Hid (classZ c = 5) := class_of c 5 (by omega)
    have e32 : (c == 32) = false := by simp; omega
    have e9 : (c == 9) = false := by simp; omega
    have e10 : (c == 10) = false := by simp; omega
    have e13 : (c == 13) = false := by simp; omega
    have e95 : (c == 95) = false := by simp; omega
    have e39 : (c == 39) = false := by simp; omega
    have g97 : decide (97 ≤ c) = false := by simp; omega
    have l122 : decide (c ≤ 122) = true := by simp; omega
    have g65 : decide (65 ≤ c) = true := by simp; omega
    have l90 : decide (c ≤ 90) = false := by simp; omega
    have g48 : decide (48 ≤ c) = true := by simp; omega
    have l57 : decide (c ≤ 57) = false := by simp; omega
    have g33 : decide (33 ≤ c) = true := by simp; omega
    have l126 : decide (c ≤ 126) = true := by simp; omega
    clear k9 k10 k13 k32 k39 k95 r91 rx r11 r14 r33 r40 r48 r58 r65
    go_enter Tryd.func106, Tryd.ntmps106
    go_wp2
    go_ret
    exact ⟨by rw [hcl.out]; rfl, rfl⟩
  by_cases r96 : 96 ≤ c ∧ c ≤ 96
  · have hcl : Hid (classZ c = 5) := class_of c 5 (by omega)
    have e32 : (c == 32) = false := by simp; omega
    have e9 : (c == 9) = false := by simp; omega
    have e10 : (c == 10) = false := by simp; omega
    have e13 : (c == 13) = false := by simp; omega
    have e95 : (c == 95) = false := by simp; omega
    have e39 : (c == 39) = false := by simp; omega
    have g97 : decide (97 ≤ c) = false := by simp; omega
    have l122 : decide (c ≤ 122) = true := by simp; omega
    have g65 : decide (65 ≤ c) = true := by simp; omega
    have l90 : decide (c ≤ 90) = false := by simp; omega
    have g48 : decide (48 ≤ c) = true := by simp; omega
    have l57 : decide (c ≤ 57) = false := by simp; omega
    have g33 : decide (33 ≤ c) = true := by simp; omega
    have l126 : decide (c ≤ 126) = true := by simp; omega
    clear k9 k10 k13 k32 k39 k95 r96 rx r11 r14 r33 r40 r48 r58 r65 r91
    go_enter Tryd.func106, Tryd.ntmps106
    go_wp2
    go_ret
    exact ⟨by rw [hcl.out]; rfl, rfl⟩
  by_cases r97 : 97 ≤ c ∧ c ≤ 122
  · have hcl : Hid (classZ c = 2) := class_of c 2 (by omega)
    have e32 : (c == 32) = false := by simp; omega
    have e9 : (c == 9) = false := by simp; omega
    have e10 : (c == 10) = false := by simp; omega
    have e13 : (c == 13) = false := by simp; omega
    have e95 : (c == 95) = false := by simp; omega
    have e39 : (c == 39) = false := by simp; omega
    have g97 : decide (97 ≤ c) = true := by simp; omega
    have l122 : decide (c ≤ 122) = true := by simp; omega
    have g65 : decide (65 ≤ c) = true := by simp; omega
    have l90 : decide (c ≤ 90) = false := by simp; omega
    have g48 : decide (48 ≤ c) = true := by simp; omega
    have l57 : decide (c ≤ 57) = false := by simp; omega
    have g33 : decide (33 ≤ c) = true := by simp; omega
    have l126 : decide (c ≤ 126) = true := by simp; omega
    clear k9 k10 k13 k32 k39 k95 r97 rx r11 r14 r33 r40 r48 r58 r65 r91 r96
    go_enter Tryd.func106, Tryd.ntmps106
    go_wp2
    go_ret
    exact ⟨by rw [hcl.out]; rfl, rfl⟩
  by_cases r123 : 123 ≤ c ∧ c ≤ 126
  · have hcl : Hid (classZ c = 5) := class_of c 5 (by omega)
    have e32 : (c == 32) = false := by simp; omega
    have e9 : (c == 9) = false := by simp; omega
    have e10 : (c == 10) = false := by simp; omega
    have e13 : (c == 13) = false := by simp; omega
    have e95 : (c == 95) = false := by simp; omega
    have e39 : (c == 39) = false := by simp; omega
    have g97 : decide (97 ≤ c) = true := by simp; omega
    have l122 : decide (c ≤ 122) = false := by simp; omega
    have g65 : decide (65 ≤ c) = true := by simp; omega
    have l90 : decide (c ≤ 90) = false := by simp; omega
    have g48 : decide (48 ≤ c) = true := by simp; omega
    have l57 : decide (c ≤ 57) = false := by simp; omega
    have g33 : decide (33 ≤ c) = true := by simp; omega
    have l126 : decide (c ≤ 126) = true := by simp; omega
    clear k9 k10 k13 k32 k39 k95 r123 rx r11 r14 r33 r40 r48 r58 r65 r91 r96 r97
    go_enter Tryd.func106, Tryd.ntmps106
    go_wp2
    go_ret
    exact ⟨by rw [hcl.out]; rfl, rfl⟩
  by_cases r127 : 127 ≤ c
  · have hcl : Hid (classZ c = 0) := class_of c 0 (by omega)
    have e32 : (c == 32) = false := by simp; omega
    have e9 : (c == 9) = false := by simp; omega
    have e10 : (c == 10) = false := by simp; omega
    have e13 : (c == 13) = false := by simp; omega
    have e95 : (c == 95) = false := by simp; omega
    have e39 : (c == 39) = false := by simp; omega
    have g97 : decide (97 ≤ c) = true := by simp; omega
    have l122 : decide (c ≤ 122) = false := by simp; omega
    have g65 : decide (65 ≤ c) = true := by simp; omega
    have l90 : decide (c ≤ 90) = false := by simp; omega
    have g48 : decide (48 ≤ c) = true := by simp; omega
    have l57 : decide (c ≤ 57) = false := by simp; omega
    have g33 : decide (33 ≤ c) = true := by simp; omega
    have l126 : decide (c ≤ 126) = false := by simp; omega
    clear k9 k10 k13 k32 k39 k95 r127 rx r11 r14 r33 r40 r48 r58 r65 r91 r96 r97 r123
    go_enter Tryd.func106, Tryd.ntmps106
    go_wp2
    go_ret
    exact ⟨by rw [hcl.out]; rfl, rfl⟩
  exfalso; omega
end Go.Proofs.YtjhdlbkcpdfpcaaDoor

/- Code points and their bytes: plain mathematics. -/
set_option linter.unusedSimpArgs false
set_option linter.unusedVariables false
set_option maxRecDepth 100000
namespace Go.Proofs.YtjhdlbkcpdfpcaaDoor
open Go

/-- Is v a code point? -/
def okP (v : Nat) : Bool := decide (v < 55296) || (decide (57343 < v) && decide (v ≤ 1114111))

theorem okP_iff (v : Nat) : okP v = true ↔ (v < 55296 ∨ (57343 < v ∧ v ≤ 1114111)) := by
  simp [okP]

/-- The bytes of a code point. -/
def encP (v : Nat) : List Nat :=
  if v < 128 then [v] else if v < 2048 then [192 + v / 64, 128 + v % 64]
  else if v < 65536 then [224 + v / 4096, 128 + v / 64 % 64, 128 + v % 64]
  else [240 + v / 262144, 128 + v / 4096 % 64, 128 + v / 64 % 64, 128 + v % 64]

def encS (l : List Nat) : List Nat := l.flatMap encP

/-- What stands at the head of some bytes, as the model reads it. -/
def hd (l : List Nat) : Nat × Nat := Lib.decodeN l.length (l.getD 0 0) (l.getD 1 0) (l.getD 2 0) (l.getD 3 0)

/-- The code point at the head of some bytes. -/
def pt (l : List Nat) : Option (Nat × Nat) := if l = [] then none else if hd l = (65533, 1) then none else some (hd l)

def decF : Nat → List Nat → Option (List Nat)
  | 0, l => if l = [] then some [] else none
  | f + 1, l => if l = [] then some [] else match pt l with
    | none => none
    | some (v, n) => (decF f (l.drop n)).map (v :: ·)

/-- The code points of some bytes. -/
def decS (l : List Nat) : Option (List Nat) := decF l.length l

theorem encP_len (v : Nat) : 1 ≤ (encP v).length ∧ (encP v).length ≤ 4 := by
  unfold encP; split
  · simp
  · split
    · simp
    · split <;> simp

theorem encP_lt {v : Nat} (h : v ≤ 1114111) : ∀ c ∈ encP v, c < 256 := by
  intro c hc
  unfold encP at hc
  split at hc
  · simp at hc; omega
  · split at hc
    · simp at hc; omega
    · split at hc
      · simp at hc; omega
      · simp at hc; omega

theorem okP_le {v : Nat} (h : okP v = true) : v ≤ 1114111 := by rw [okP_iff] at h; omega

theorem pt_enc {v : Nat} (h : okP v = true) (B : List Nat) : pt (encP v ++ B) = some (v, (encP v).length) := by
  rw [okP_iff] at h
  have key : ∀ (L : List Nat), L ≠ [] → hd L = (v, (encP v).length) → ¬ (v = 65533 ∧ (encP v).length = 1) → pt L = some (v, (encP v).length) := by
    intro L h0 h1 h2
    unfold pt
    rw [if_neg h0, h1, if_neg (by intro h; simp only [Prod.mk.injEq] at h; exact h2 h)]
  unfold encP at key ⊢
  by_cases h1 : v < 128
  · simp only [if_pos h1] at key ⊢
    refine key _ (by simp) ?_ (by simp; omega)
    simp [hd, Lib.decodeN, h1]
  · simp only [if_neg h1] at key ⊢
    by_cases h2 : v < 2048
    · simp only [if_pos h2] at key ⊢
      refine key _ (by simp) ?_ (by simp)
      simp only [hd, Lib.decodeN, List.length_append, List.length_cons, List.length_nil, List.cons_append, List.nil_append, List.getD_cons_zero, List.getD_cons_succ]
      rw [if_neg (by omega), if_pos (by omega), if_pos (by omega)]
      congr 1; omega
    · simp only [if_neg h2] at key ⊢
      by_cases h3 : v < 65536
      · simp only [if_pos h3] at key ⊢
        refine key _ (by simp) ?_ (by simp)
        simp only [hd, Lib.decodeN, List.length_append, List.length_cons, List.length_nil, List.cons_append, List.nil_append, List.getD_cons_zero, List.getD_cons_succ]
        rw [if_neg (by omega), if_neg (by omega), if_pos (by omega), if_pos (by omega)]
        congr 1; omega
      · simp only [if_neg h3] at key ⊢
        refine key _ (by simp) ?_ (by simp)
        simp only [hd, Lib.decodeN, List.length_append, List.length_cons, List.length_nil, List.cons_append, List.nil_append, List.getD_cons_zero, List.getD_cons_succ]
        rw [if_neg (by omega), if_neg (by omega), if_neg (by omega), if_pos (by omega), if_pos (by omega)]
        congr 1; omega

theorem take1 : ∀ l : List Nat, 0 < l.length → l.take 1 = [l.getD 0 0]
  | _ :: _, _ => by simp
theorem take2 : ∀ l : List Nat, 1 < l.length → l.take 2 = [l.getD 0 0, l.getD 1 0]
  | [_], h => by simp at h
  | _ :: _ :: _, _ => by simp
theorem take3 : ∀ l : List Nat, 2 < l.length → l.take 3 = [l.getD 0 0, l.getD 1 0, l.getD 2 0]
  | [_], h => by simp at h
  | [_, _], h => by simp at h
  | _ :: _ :: _ :: _, _ => by simp
theorem take4 : ∀ l : List Nat, 3 < l.length → l.take 4 = [l.getD 0 0, l.getD 1 0, l.getD 2 0, l.getD 3 0]
  | [_], h => by simp at h
  | [_, _], h => by simp at h
  | [_, _, _], h => by simp at h
  | _ :: _ :: _ :: _ :: _, _ => by simp

theorem getD_lt (l : List Nat) (h : ∀ c ∈ l, c < 256) (i : Nat) : l.getD i 0 < 256 := by
  rw [List.getD_eq_getElem?_getD]
  cases hi : l[i]? with
  | none => simp
  | some c => exact h c (List.mem_of_getElem? hi)

theorem hd_pos (l : List Nat) : 1 ≤ (hd l).2 := by
  unfold hd
  rcases Lib.decodeN_shape l.length (l.getD 0 0) (l.getD 1 0) (l.getD 2 0) (l.getD 3 0) with ⟨c, e⟩ | ⟨c1, c2, c3, cv, e⟩ | ⟨c1, c2, c3, c4, cv, cs, e⟩ | ⟨c1, c2, c3, c4, c5, cv, cw, e⟩ | e <;> rw [e] <;> simp

theorem hd_le (l : List Nat) : (hd l).1 ≤ 1114111 ∨ 128 ≤ (hd l).1 := by
  unfold hd
  rcases Lib.decodeN_shape l.length (l.getD 0 0) (l.getD 1 0) (l.getD 2 0) (l.getD 3 0) with ⟨c, e⟩ | ⟨c1, c2, c3, cv, e⟩ | ⟨c1, c2, c3, c4, cv, cs, e⟩ | ⟨c1, c2, c3, c4, c5, cv, cw, e⟩ | e <;> rw [e] <;> dsimp only <;> omega

theorem pt_some {l : List Nat} (h256 : ∀ c ∈ l, c < 256) {v n : Nat} (h : pt l = some (v, n)) : okP v = true ∧ l.take n = encP v ∧ n = (encP v).length ∧ n ≤ l.length ∧ 1 ≤ n ∧ hd l = (v, n) := by
  unfold pt at h
  split at h
  · simp at h
  · rename_i hne
    split at h
    · simp at h
    · rename_i hb
      simp only [Option.some.injEq] at h
      have hl : 0 < l.length := List.length_pos_iff.2 hne
      have k0 := getD_lt l h256 0
      have k1 := getD_lt l h256 1
      have k2 := getD_lt l h256 2
      have k3 := getD_lt l h256 3
      have hH := h
      unfold hd at h hb
      rcases Lib.decodeN_shape l.length (l.getD 0 0) (l.getD 1 0) (l.getD 2 0) (l.getD 3 0) with ⟨c, e⟩ | ⟨c1, c2, c3, cv, e⟩ | ⟨c1, c2, c3, c4, cv, cs, e⟩ | ⟨c1, c2, c3, c4, c5, cv, cw, e⟩ | e
      · rw [e] at h
        simp only [Prod.mk.injEq] at h
        obtain ⟨rfl, rfl⟩ := h
        refine ⟨(okP_iff _).2 (by omega), ?_, ?_, by omega, by omega, hH⟩
        · rw [take1 l hl]; unfold encP; rw [if_pos c]
        · unfold encP; rw [if_pos c]; rfl
      · rw [e] at h
        simp only [Prod.mk.injEq] at h
        obtain ⟨rfl, rfl⟩ := h
        refine ⟨(okP_iff _).2 (by omega), ?_, ?_, by omega, by omega, hH⟩
        · rw [take2 l c2]; unfold encP; rw [if_neg (by omega), if_pos (by omega)]
          congr 1; · omega
          congr 1; omega
        · unfold encP; rw [if_neg (by omega), if_pos (by omega)]; rfl
      · rw [e] at h
        simp only [Prod.mk.injEq] at h
        obtain ⟨rfl, rfl⟩ := h
        refine ⟨(okP_iff _).2 (by omega), ?_, ?_, by omega, by omega, hH⟩
        · rw [take3 l c2]; unfold encP; rw [if_neg (by omega), if_neg (by omega), if_pos (by omega)]
          congr 1; · omega
          congr 1; · omega
          congr 1; omega
        · unfold encP; rw [if_neg (by omega), if_neg (by omega), if_pos (by omega)]; rfl
      · rw [e] at h
        simp only [Prod.mk.injEq] at h
        obtain ⟨rfl, rfl⟩ := h
        refine ⟨(okP_iff _).2 (by omega), ?_, ?_, by omega, by omega, hH⟩
        · rw [take4 l c2]; unfold encP; rw [if_neg (by omega), if_neg (by omega), if_neg (by omega)]
          congr 1; · omega
          congr 1; · omega
          congr 1; · omega
          congr 1; omega
        · unfold encP; rw [if_neg (by omega), if_neg (by omega), if_neg (by omega)]; rfl
      · exact absurd e hb

theorem decF_nil (f : Nat) : decF f [] = some [] := by cases f <;> simp [decF]

theorem decF_enc : ∀ (p : List Nat) (f : Nat), (∀ v ∈ p, okP v = true) → (encS p).length ≤ f → decF f (encS p) = some p
  | [], f, _, _ => by simp [encS, decF_nil]
  | v :: p, f, h, hf => by
    have hl := encP_len v
    have e : encS (v :: p) = encP v ++ encS p := rfl
    rw [e, List.length_append] at hf
    obtain ⟨f', rfl⟩ : ∃ f', f = f' + 1 := ⟨f - 1, by omega⟩
    have hne : encP v ++ encS p ≠ [] := by intro h; have := congrArg List.length h; rw [List.length_append] at this; simp only [List.length_nil] at this; omega
    rw [e]
    unfold decF
    rw [if_neg hne, pt_enc (h v (by simp))]
    simp only
    rw [List.drop_left, decF_enc p f' (fun x hx => h x (by simp [hx])) (by omega)]
    rfl

theorem enc_decF : ∀ (f : Nat) (l p : List Nat), (∀ c ∈ l, c < 256) → decF f l = some p → (∀ v ∈ p, okP v = true) ∧ encS p = l
  | 0, l, p, _, h => by
    unfold decF at h
    split at h
    · rename_i hl; simp at h; subst h; subst hl; simp [encS]
    · simp at h
  | f + 1, l, p, h256, h => by
    unfold decF at h
    split at h
    · rename_i hl; simp at h; subst h; subst hl; simp [encS]
    · cases hp : pt l with
      | none => rw [hp] at h; simp at h
      | some x =>
        obtain ⟨v, n⟩ := x
        rw [hp] at h
        simp only [Option.map_eq_some_iff] at h
        obtain ⟨q, hq, rfl⟩ := h
        obtain ⟨h1, h2, h3, h4, h5, _⟩ := pt_some h256 hp
        obtain ⟨h6, h7⟩ := enc_decF f (l.drop n) q (fun c hc => h256 c (List.mem_of_mem_drop hc)) hq
        refine ⟨?_, ?_⟩
        · intro x hx
          rcases List.mem_cons.1 hx with rfl | hx
          · exact h1
          · exact h6 x hx
        · show encP v ++ encS q = l
          rw [h7, ← h2, List.take_append_drop]

/-- The code points of some bytes: the one list of code points that has them. -/
theorem decS_iff {l : List Nat} (h256 : ∀ c ∈ l, c < 256) (p : List Nat) : decS l = some p ↔ ((∀ v ∈ p, okP v = true) ∧ encS p = l) := by
  constructor
  · exact enc_decF _ _ _ h256
  · rintro ⟨h1, rfl⟩
    exact decF_enc p _ h1 (Nat.le_refl _)

theorem encS_lt {p : List Nat} (h : ∀ v ∈ p, okP v = true) : ∀ c ∈ encS p, c < 256 := by
  intro c hc
  obtain ⟨v, hv, hc⟩ := List.mem_flatMap.1 hc
  exact encP_lt (okP_le (h v hv)) c hc

theorem decS_encS {p : List Nat} (h : ∀ v ∈ p, okP v = true) : decS (encS p) = some p := (decS_iff (encS_lt h) p).2 ⟨h, rfl⟩

theorem encS_append (p q : List Nat) : encS (p ++ q) = encS p ++ encS q := by simp [encS]
theorem encS_cons (v : Nat) (p : List Nat) : encS (v :: p) = encP v ++ encS p := rfl
theorem encS_nil : encS [] = [] := rfl

theorem decS_append {a b p q : List Nat} (ha : ∀ c ∈ a, c < 256) (hb : ∀ c ∈ b, c < 256) (h1 : decS a = some p) (h2 : decS b = some q) : decS (a ++ b) = some (p ++ q) := by
  obtain ⟨h3, h4⟩ := (decS_iff ha p).1 h1
  obtain ⟨h5, h6⟩ := (decS_iff hb q).1 h2
  refine (decS_iff (fun c hc => (List.mem_append.1 hc).elim (ha c) (hb c)) _).2 ⟨fun v hv => (List.mem_append.1 hv).elim (h3 v) (h5 v), ?_⟩
  rw [encS_append, h4, h6]

theorem encS_len (p : List Nat) : p.length ≤ (encS p).length ∧ (encS p).length ≤ 4 * p.length := by
  induction p with
  | nil => simp [encS]
  | cons v p ih => rw [encS_cons, List.length_append, List.length_cons]; have := encP_len v; omega

/-- The step of a reader: a code point is there. -/
theorem decS_step {l p : List Nat} (h256 : ∀ c ∈ l, c < 256) (h : decS l = some p) (hne : l ≠ []) : ∃ v n q, pt l = some (v, n) ∧ p = v :: q ∧ decS (l.drop n) = some q ∧ hd l = (v, n) ∧ 1 ≤ n ∧ n ≤ l.length ∧ okP v = true ∧ n = (encP v).length := by
  obtain ⟨h1, h2⟩ := (decS_iff h256 p).1 h
  cases p with
  | nil => exact absurd h2.symm hne
  | cons v q =>
    have hv := h1 v (by simp)
    have hp : pt l = some (v, (encP v).length) := by rw [← h2, encS_cons]; exact pt_enc hv _
    obtain ⟨_, _, _, g4, g5, g6⟩ := pt_some h256 hp
    refine ⟨v, _, q, hp, rfl, ?_, g6, g5, g4, hv, rfl⟩
    rw [← h2, encS_cons, List.drop_left]
    exact decS_encS fun x hx => h1 x (by simp [hx])

theorem decS_nil : decS [] = some [] := rfl

/-- .. and none is there. -/
theorem decS_bad {l : List Nat} (h256 : ∀ c ∈ l, c < 256) (hne : l ≠ []) (h : pt l = none) : decS l = none := by
  cases hd : decS l with
  | none => rfl
  | some p =>
    obtain ⟨v, n, q, h1, _⟩ := decS_step h256 hd hne
    rw [h] at h1; simp at h1

theorem decS_go {l : List Nat} (h256 : ∀ c ∈ l, c < 256) {v n : Nat} (h : pt l = some (v, n)) : decS l = (decS (l.drop n)).map (v :: ·) := by
  obtain ⟨h1, h2, h3, h4, h5, _⟩ := pt_some h256 h
  have hd256 : ∀ c ∈ l.drop n, c < 256 := fun c hc => h256 c (List.mem_of_mem_drop hc)
  have hne : l ≠ [] := by intro e; subst e; simp at h4; omega
  cases hq : decS (l.drop n) with
  | some q =>
    obtain ⟨h6, h7⟩ := (decS_iff hd256 q).1 hq
    refine (decS_iff h256 _).2 ⟨?_, ?_⟩
    · intro x hx
      rcases List.mem_cons.1 hx with rfl | hx
      · exact h1
      · exact h6 x hx
    · show encP v ++ encS q = l
      rw [h7, ← h2, List.take_append_drop]
  | none =>
    cases hp : decS l with
    | none => rfl
    | some p =>
      obtain ⟨v', n', q', g1, _, g3, _⟩ := decS_step h256 hp hne
      rw [h] at g1
      simp only [Option.some.injEq, Prod.mk.injEq] at g1
      obtain ⟨rfl, rfl⟩ := g1
      rw [hq] at g3; simp at g3

/-- The code points ahead of a place, where what stands there begins one. -/
theorem decS_split {l p : List Nat} (h256 : ∀ c ∈ l, c < 256) (h : decS l = some p) (i : Nat) (hi : i ≤ p.length) : decS (l.drop (encS (p.take i)).length) = some (p.drop i) ∧ (encS (p.take i)).length ≤ l.length := by
  obtain ⟨h1, h2⟩ := (decS_iff h256 p).1 h
  have e : l = encS (p.take i) ++ encS (p.drop i) := by rw [← encS_append, List.take_append_drop, h2]
  refine ⟨?_, by rw [e, List.length_append]; omega⟩
  rw [e, List.drop_left]
  exact decS_encS fun x hx => h1 x (List.mem_of_mem_drop hx)
end Go.Proofs.YtjhdlbkcpdfpcaaDoor
