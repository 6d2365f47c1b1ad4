/- Several texts of one proof, one behind the other. -/
import Derived.Test.YtapbhhehnbfdfaaWPk6
set_option linter.unusedSimpArgs false
set_option linter.unusedVariables false

/- The walks of cell.Truth, Bool, Not. -/
set_option linter.unusedSimpArgs false
set_option linter.unusedVariables false
set_option maxRecDepth 100000
namespace Go.Proofs.Ytapbhhehnbfdfaa
open Go.RowKit

theorem slots1 (w : World) (T : TypeId) (a0 a1 a2 : Value) (w' : World) (hl : Later (w.alloc (.cells #[a0, a1, a2] T)) w') :
    Slot w' w.heap.size a0 a1 a2 ∧ w.heap.size + 1 ≤ w'.heap.size := by
  have e1 : (w.alloc (.cells #[a0, a1, a2] T)).heap.size = w.heap.size + 1 := by simp
  refine ⟨(Slot.new w T a0 a1 a2).later hl (by rw [e1]; omega), ?_⟩
  have := hl.size
  rw [e1] at this; omega

theorem slots2 (w : World) (T : TypeId) (a0 a1 a2 b0 b1 b2 : Value) (w' : World) (hl : Later ((w.alloc (.cells #[a0, a1, a2] T)).alloc (.cells #[b0, b1, b2] T)) w') :
    Slot w' w.heap.size a0 a1 a2 ∧ Slot w' (w.heap.size + 1) b0 b1 b2 ∧ w.heap.size + 2 ≤ w'.heap.size := by
  have e1 : (w.alloc (.cells #[a0, a1, a2] T)).heap.size = w.heap.size + 1 := by simp
  have e2 : ((w.alloc (.cells #[a0, a1, a2] T)).alloc (.cells #[b0, b1, b2] T)).heap.size = w.heap.size + 1 + 1 := by simp
  have l1 : Later (w.alloc (.cells #[a0, a1, a2] T)) ((w.alloc (.cells #[a0, a1, a2] T)).alloc (.cells #[b0, b1, b2] T)) := (Below.refl _ _).alloc (Nat.le_refl _) _
  refine ⟨((Slot.new w T a0 a1 a2).later l1 (by rw [e1]; omega)).later hl (by rw [e2]; omega), ?_, ?_⟩
  · have := (Slot.new (w.alloc (.cells #[a0, a1, a2] T)) T b0 b1 b2)
    rw [e1] at this
    exact this.later hl (by rw [e2]; omega)
  · have := hl.size
    rw [e2] at this; omega

/-- What Truth answers: is it true, is that known, the error. -/
def truthT (x : Vl) : Bool × Bool × Int :=
  if x.right = false then (false, false, 3) else if 1 < x.k then (false, false, 20) else if x.k = 0 then (false, false, 0) else (x.n != 0, true, 0)

def RetT (w : World) (r : Bool × Bool × Int) (e : Ending) (w' : World) : Prop :=
  e = .returned (.tuple #[.bool r.1, .bool r.2.1, .int .i64 r.2.2]) ∧ Below w.heap.size w w'

def boolV (b : Bool) : Vl := numV (if b then 1 else 0)
end Go.Proofs.Ytapbhhehnbfdfaa

/- The walks of cell.Bool, Not, decide, And, Or. -/
set_option linter.unusedSimpArgs false
set_option linter.unusedVariables false
set_option maxRecDepth 100000
namespace Go.Proofs.Ytapbhhehnbfdfaa
open Go.RowKit

/-- What Not answers. -/
def notV (x : Vl) : Vl × Int :=
  if (truthT x).2.2 ≠ 0 then (nullV, (truthT x).2.2) else if (truthT x).2.1 = false then (nullV, 0) else (boolV (!(truthT x).1), 0)

/-- What decide answers. -/
def decideV (win : Bool) (a b : Vl) : Vl × Int :=
  if a.right = false ∨ b.right = false then (nullV, 3)
  else if 1 < a.k ∨ 1 < b.k then (nullV, 20)
  else if (truthT a).2.1 = true ∧ (truthT a).1 = win ∨ (truthT b).2.1 = true ∧ (truthT b).1 = win then (boolV win, 0)
  else if (truthT a).2.1 = false ∨ (truthT b).2.1 = false then (nullV, 0)
  else (boolV (!win), 0)

/-- Two truths and the winner decide. -/
def decideB (win y1 kn1 y2 kn2 : Bool) : Vl × Int :=
  if kn1 = true ∧ y1 = win ∨ kn2 = true ∧ y2 = win then (boolV win, 0) else if kn1 = false ∨ kn2 = false then (nullV, 0) else (boolV (!win), 0)

theorem truth_num (x : Vl) (h : x.right = true) (hk : x.k ≤ 1) : (truthT x).2.2 = 0 := by
  unfold truthT
  rw [if_neg (by simp [h]), if_neg (by omega)]
  split <;> rfl

theorem truth_type (x : Vl) (h : x.right = true) (hk : ¬ x.k ≤ 1) : truthT x = (false, false, 20) := by
  unfold truthT
  rw [if_neg (by simp [h]), if_pos (by omega)]

end Go.Proofs.Ytapbhhehnbfdfaa

/- The walks of cmp.Compare, cell.Order and cell.Compare. -/
set_option linter.unusedSimpArgs false
set_option linter.unusedVariables false
set_option maxRecDepth 100000
namespace Go.Proofs.Ytapbhhehnbfdfaa
open Go.RowKit

def cmpI (x y : Int) : Int := if x < y then -1 else if y < x then 1 else 0
def cmpS (s t : ByteArray) : Int := if Op.bytesLess s.toList t.toList then -1 else if s.toList == t.toList then 0 else 1

/-- The order of two values. -/
def orderV (a b : Vl) : Int :=
  if a = b ∨ a.right = false ∨ b.right = false then 0 else if a.k ≠ b.k then cmpI a.k b.k else if a.n ≠ b.n then cmpI a.n b.n else cmpS a.s b.s

theorem toList_inj {s t : ByteArray} (h : s.toList = t.toList) : s = t := by
  rw [ByteArray.toList_eq, ByteArray.toList_eq] at h
  exact ByteArray.ext (Array.toList_inj.1 h)

theorem ne_bool (k1 k2 : Nat) (n1 n2 : Int) (s1 s2 : ByteArray) (h : (⟨k1, n1, s1⟩ : Vl) ≠ ⟨k2, n2, s2⟩) : ((k1 : Int) == (k2 : Int) && (n1 == n2 && s1.toList == s2.toList)) = false := by
  rw [Bool.eq_false_iff]
  intro hh
  simp only [Bool.and_eq_true, beq_iff_eq] at hh
  obtain ⟨e1, e2, e3⟩ := hh
  apply h
  rw [show k1 = k2 by omega, e2, toList_inj e3]

def RetI (w : World) (n : Int) (e : Ending) (w' : World) : Prop := e = .returned (.int .i64 n) ∧ Below w.heap.size w w'

end Go.Proofs.Ytapbhhehnbfdfaa

/- The walks of isName, takes and valid. -/
set_option linter.unusedSimpArgs false
set_option linter.unusedVariables false
set_option maxRecDepth 100000
namespace Go.Proofs.Ytapbhhehnbfdfaa
open Go.RowKit

/-- A block of the call's own with eight cells. -/
structure Slot8 (W : World) (B : Nat) (v0 v1 v2 v3 v4 v5 v6 v7 : Value) : Prop where
  c0 : W.cell? ⟨B, 0, none⟩ = some v0
  c1 : W.cell? ⟨B, 1, none⟩ = some v1
  c2 : W.cell? ⟨B, 2, none⟩ = some v2
  c3 : W.cell? ⟨B, 3, none⟩ = some v3
  c4 : W.cell? ⟨B, 4, none⟩ = some v4
  c5 : W.cell? ⟨B, 5, none⟩ = some v5
  c6 : W.cell? ⟨B, 6, none⟩ = some v6
  c7 : W.cell? ⟨B, 7, none⟩ = some v7
theorem Slot8.new (w : World) (T : TypeId) (v0 v1 v2 v3 v4 v5 v6 v7 : Value) : Slot8 (w.alloc (.cells #[v0, v1, v2, v3, v4, v5, v6, v7] T)) w.heap.size v0 v1 v2 v3 v4 v5 v6 v7 :=
  ⟨by simp, by simp, by simp, by simp, by simp, by simp, by simp, by simp⟩
theorem Slot8.later {W W' : World} {B N : Nat} {v0 v1 v2 v3 v4 v5 v6 v7 : Value} (h : Slot8 W B v0 v1 v2 v3 v4 v5 v6 v7) (hB : B < N) (hb : Below N W W') : Slot8 W' B v0 v1 v2 v3 v4 v5 v6 v7 :=
  ⟨(hb.cell (p := ⟨B, 0, none⟩) hB).trans h.c0, (hb.cell (p := ⟨B, 1, none⟩) hB).trans h.c1, (hb.cell (p := ⟨B, 2, none⟩) hB).trans h.c2, (hb.cell (p := ⟨B, 3, none⟩) hB).trans h.c3, (hb.cell (p := ⟨B, 4, none⟩) hB).trans h.c4, (hb.cell (p := ⟨B, 5, none⟩) hB).trans h.c5, (hb.cell (p := ⟨B, 6, none⟩) hB).trans h.c6, (hb.cell (p := ⟨B, 7, none⟩) hB).trans h.c7⟩
theorem box8 (w : World) (o : Obj) : w.heap.size < (w.alloc o).heap.size := by simp
/-- The cells by name. -/
theorem XM.v_eq (x : XM) : x.v = .agg #[.int .i64 x.t.lab.kd, .int .u8 x.t.lab.v.k, .int .i64 x.t.lab.v.n, .string x.t.lab.v.s, .string x.t.lab.tb, .string x.t.lab.nm, .string x.t.lab.op, .slice x.a x.t.args.length x.cap] := rfl

theorem isX_eq (s : ByteArray) : isX s = (decide ((nameV s).2 = 0) && decide ((nameV s).1 = s) && !resB s) := rfl

end Go.Proofs.Ytapbhhehnbfdfaa

/- Nodes (layer 22) as data and in memory; the walks of have, its closure, and of match and typeOf at a sum. -/
set_option linter.unusedSimpArgs false
set_option linter.unusedVariables false
set_option maxRecDepth 100000
namespace Go.Proofs.Ytapbhhehnbfdfaa
open Go.RowKit

/-- All fields of a node but its arguments. -/
structure NLb where
  kd : Int
  op : ByteArray
  v : Vl
  sl : Int
  ty : Nat
  deriving DecidableEq
abbrev NM := RM NLb
def NLb.cells (l : NLb) : List Value := [.int .i64 l.kd, .string l.op, .int .u8 l.v.k, .int .i64 l.v.n, .string l.v.s, .int .i64 l.sl, .int .u8 (l.ty : Int)]
theorem NLb.cells_len (l : NLb) : l.cells.length = 7 := rfl
def cellsNd (x : NM) : List Value := cellsR NLb.cells x
theorem cellsNd_len (x : NM) : (cellsNd x).length = 8 := rfl
/-- A node by value. -/
abbrev ndV (x : NM) : Value := .agg #[.int .i64 x.t.lab.kd, .string x.t.lab.op, .int .u8 x.t.lab.v.k, .int .i64 x.t.lab.v.n, .string x.t.lab.v.s, .int .i64 x.t.lab.sl, .int .u8 (x.t.lab.ty : Int), .slice x.a x.t.args.length x.cap]
/-- The k-th node of a row. -/
theorem ndAt {N : Nat} {w : World} {a : Option Addr} {l : List NM} (h : Arr N w a (cellsOf cellsNd l)) {k : Nat} (hk : k < l.length) : ∃ b o, a = some ⟨b, o, none⟩ ∧ b < N ∧
    ∀ (j : Nat) (v : Value), (cellsNd l[k])[j]? = some v → w.cell? ⟨b, o + k * 8 + j, none⟩ = some v := by
  obtain ⟨b, o, ha, hb, hc⟩ := h.at_ (by intro h0; have := cellsOf_len cellsNd 8 (fun _ => rfl) l; rw [h0] at this; simp at this; omega)
  refine ⟨b, o, ha, hb, fun j v hv => ?_⟩
  have := hc _ _ (cellsOf_get cellsNd 8 (fun _ => rfl) l k j l[k] v (List.getElem?_eq_getElem hk) hv)
  rw [Nat.add_assoc]; exact this
def okTy (kind ty : Nat) : Bool := !(decide (ty ≠ kind) && decide (ty ≠ 0))

end Go.Proofs.Ytapbhhehnbfdfaa
