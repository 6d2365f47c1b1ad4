/- Several texts of one proof, one behind the other. -/
import Derived.Test.YthfgjkmfabmipaaJQk8
import Derived.Deep.Slices
import Derived.Deep.Fields
import Derived.ChangeSame
set_option linter.unusedSimpArgs false
set_option linter.unusedVariables false

/- Slices of values of SQL: what came in, and rows of the call's own. -/
set_option linter.unusedSimpArgs false
set_option linter.unusedVariables false
set_option maxRecDepth 100000
namespace Go.Proofs.Ythfgjkmfabmipaa
open Go.RowKit

/-- The address leads to the values l, in blocks below number N. -/
def Vs (N : Nat) (w : World) (a : Option Addr) (l : List Vl) : Prop :=
  l = [] ∨ ∃ b o, a = some ⟨b, o, none⟩ ∧ b < N ∧ ∀ (i : Nat) (x : Vl), l[i]? = some x →
    w.cell? ⟨b, o + i * 3, none⟩ = some (.int .u8 x.k) ∧ w.cell? ⟨b, o + i * 3 + 1, none⟩ = some (.int .i64 x.n) ∧ w.cell? ⟨b, o + i * 3 + 2, none⟩ = some (.string x.s)

theorem Vs.below {N : Nat} {w w' : World} {a : Option Addr} {l : List Vl} (h : Vs N w a l) (hb : Below N w w') : Vs N w' a l := by
  rcases h with h | ⟨b, o, ha, hN, hc⟩
  · exact .inl h
  · exact .inr ⟨b, o, ha, hN, fun i x hi => ⟨(hb.cell (p := ⟨b, _, none⟩) hN).trans (hc i x hi).1, (hb.cell (p := ⟨b, _, none⟩) hN).trans (hc i x hi).2.1, (hb.cell (p := ⟨b, _, none⟩) hN).trans (hc i x hi).2.2⟩⟩

theorem Vs.mono {N M : Nat} {w : World} {a : Option Addr} {l : List Vl} (h : Vs N w a l) (hM : N ≤ M) : Vs M w a l := by
  rcases h with h | ⟨b, o, ha, hN, hc⟩
  · exact .inl h
  · exact .inr ⟨b, o, ha, by omega, hc⟩

/-- The k-th value of such a slice, in a world. -/
def CellV (w : World) (b o : Nat) (x : Vl) : Prop :=
  w.cell? ⟨b, o, none⟩ = some (.int .u8 x.k) ∧ w.cell? ⟨b, o + 1, none⟩ = some (.int .i64 x.n) ∧ w.cell? ⟨b, o + 2, none⟩ = some (.string x.s)

theorem Vs.at_ {N : Nat} {w : World} {a : Option Addr} {l : List Vl} (h : Vs N w a l) {k : Nat} (hk : k < l.length) : ∃ b o, a = some ⟨b, o, none⟩ ∧ b < N ∧ CellV w b (o + k * 3) l[k] := by
  rcases h with h | ⟨b, o, ha, hN, hc⟩
  · subst h; simp at hk
  · exact ⟨b, o, ha, hN, hc k l[k] (List.getElem?_eq_getElem hk)⟩

theorem CellV.below {w w' : World} {b o N : Nat} {x : Vl} (h : CellV w b o x) (hb : Below N w w') (hN : b < N) : CellV w' b o x :=
  ⟨(hb.cell (p := ⟨b, _, none⟩) hN).trans h.1, (hb.cell (p := ⟨b, _, none⟩) hN).trans h.2.1, (hb.cell (p := ⟨b, _, none⟩) hN).trans h.2.2⟩

/-- The cells of values. -/
def cellsV (l : List Vl) : List Value := l.flatMap fun x => [.int .u8 x.k, .int .i64 x.n, .string x.s]

theorem cellsV_len (l : List Vl) : (cellsV l).length = l.length * 3 := by
  induction l with
  | nil => rfl
  | cons x r ih => simp only [cellsV, List.flatMap_cons, List.length_append, List.length_cons, List.length_nil] at *; omega

theorem cellsV_get : ∀ (l : List Vl) (i : Nat) (x : Vl), l[i]? = some x → (cellsV l)[i * 3]? = some (.int .u8 x.k) ∧ (cellsV l)[i * 3 + 1]? = some (.int .i64 x.n) ∧ (cellsV l)[i * 3 + 2]? = some (.string x.s)
  | [], i, x, h => by simp at h
  | y :: r, 0, x, h => by
    simp at h; subst h
    simp [cellsV]
  | y :: r, i + 1, x, h => by
    have := cellsV_get r i x (by simpa using h)
    have e : ∀ j, (cellsV (y :: r))[(i + 1) * 3 + j]? = (cellsV r)[i * 3 + j]? := by
      intro j
      show ([Value.int .u8 y.k, Value.int .i64 y.n, Value.string y.s] ++ cellsV r)[(i + 1) * 3 + j]? = _
      rw [List.getElem?_append_right (by simp; omega)]
      congr 1
      simp; omega
    exact ⟨(e 0).trans this.1, (e 1).trans this.2.1, (e 2).trans this.2.2⟩

/-- A row of values of the call's own. -/
def OwnV (w : World) (base : Nat) (T : TypeId) (v : Value) (l : List Vl) : Prop := w.ownsRow base T 3 v l.length (cellsV l)

theorem OwnV.nil (w : World) (base : Nat) (T : TypeId) : OwnV w base T (.slice none 0 0) [] := World.ownsRow_nil _ _ _ _

theorem OwnV.slice {w : World} {base : Nat} {T : TypeId} {v : Value} {l : List Vl} (h : OwnV w base T v l) : ∃ a cap, v = .slice a l.length cap ∧ l.length ≤ cap ∧ Vs w.heap.size w a l := by
  obtain ⟨h1, h2⟩ := h
  rcases h2 with ⟨hv, hn⟩ | ⟨g, cap, cur, hv, hg, hh, hnc, hcm, hcs, hcur⟩
  · have : l = [] := List.length_eq_zero_iff.1 hn
    subst this
    exact ⟨none, 0, by simpa using hv, by simp, .inl rfl⟩
  · refine ⟨some ⟨g, 0, none⟩, cap, hv, hnc, .inr ⟨g, 0, rfl, ?_, ?_⟩⟩
    · by_cases hlt : g < w.heap.size
      · exact hlt
      · rw [Array.getElem?_eq_none (by omega)] at hh; simp at hh
    · intro i x hi
      have hil : i < l.length := by
        by_cases hlt : i < l.length
        · exact hlt
        · rw [List.getElem?_eq_none (by omega)] at hi; simp at hi
      have key : ∀ j u, j < l.length * 3 → (cellsV l)[j]? = some u → w.cell? ⟨g, 0 + j, none⟩ = some u := by
        intro j u hj hu
        rw [← hcur, List.getElem?_take_of_lt (by omega)] at hu
        simp only [World.cell?, hh, Nat.zero_add]
        simpa using hu
      have hx := cellsV_get l i x hi
      refine ⟨?_, ?_, ?_⟩
      · exact key _ _ (by omega) hx.1
      · have := key _ _ (by omega) hx.2.1; rw [← Nat.add_assoc] at this; exact this
      · have := key _ _ (by omega) hx.2.2; rw [← Nat.add_assoc] at this; exact this

theorem OwnV.below {w w' : World} {base N : Nat} {T : TypeId} {v : Value} {l : List Vl} (h : OwnV w base T v l) (hN : w.heap.size ≤ N) (hb : Below N w w') : OwnV w' base T v l := by
  obtain ⟨h1, h2⟩ := h
  refine ⟨h1, ?_⟩
  rcases h2 with h2 | ⟨g, cap, cur, hv, hg, hh, r⟩
  · exact .inl h2
  · refine .inr ⟨g, cap, cur, hv, hg, ?_, r⟩
    rw [hb.block g (by
      by_cases hlt : g < w.heap.size
      · omega
      · rw [Array.getElem?_eq_none (by omega)] at hh; simp at hh)]
    exact hh

/-- 'append(l, x)': x has just been laid in a block of its own. -/
theorem wpList_appV1 {P : Program} {ops : Array Oper} {rest : List Oper} {o : Oper} {a : Act} {Q : Exit → Act → World → Prop} (hgd : o.guard = none) (s x : Operand) (t : TypeId)
    (ho : o.op = .call { callee := .builtin .append, args := #[s, x], argTypes := #[t, t] })
    (base : Nat) (e : TypeId) (i : TypeInfo) (z : Value) (bytes : Nat) (ht : P.underlying t = some (.slice e)) (hi : P.info? e = some i) (hz : i.zero = some z) (hzs : z.cells.size = 3)
    (hsize : i.size = 3) (hby : i.bytes = bytes) (hb100 : bytes ≤ 100)
    (v : Value) (l : List Vl) (w : World) (hown : OwnV w base e v l) (hs : a.eval s = v) (k n : Int) (t1 : ByteArray) (y : Vl) (hk : k = (y.k : Int)) (hn : n = y.n) (ht1 : t1 = y.s)
    (hx : a.eval x = .slice (some ⟨w.heap.size, 0, none⟩) 1 1) (hlen : l.length < 1000000000000) (hbase : base ≤ w.heap.size)
    (h : ∀ v' w', OwnV w' base e v' (l ++ [y]) → Below base w w' → w.heap.size < w'.heap.size → wpList P ops Q rest (a.put o.dst v') w') :
    wpList P ops Q (o :: rest) a (w.alloc (.cells #[.int .u8 k, .int .i64 n, .string t1] e)) := by
  subst hk hn ht1
  refine wpList_append_own (w.alloc (.cells #[.int .u8 (y.k : Int), .int .i64 y.n, .string y.s] e)) hgd s x t ho base e i z 3 bytes ht hi hz hsize hby hzs (by omega) v l.length _ hs (World.ownsRow.alloc hown _) ⟨w.heap.size, 0, none⟩ 1 1 [.int .u8 (y.k : Int), .int .i64 y.n, .string y.s] hx rfl ?_ ?_ ?_ ?_ ?_ ?_
  · intro j u hj
    match j, hj with
    | 0, hj => simp at hj; subst hj; simp [Addr.add]
    | 1, hj => simp at hj; subst hj; simp [Addr.add]
    | 2, hj => simp at hj; subst hj; simp [Addr.add]
  · intro u hu; simp at hu; rcases hu with rfl | rfl | rfl <;> rfl
  · unfold maxLen; omega
  · have : (l.length + 1) * bytes ≤ 1000000000000 * 100 := Nat.mul_le_mul (by omega) hb100
    omega
  · simp; omega
  · intro v' w' hown' hgrow _
    refine h v' w' ?_ ?_ ?_
    · unfold OwnV
      have e2 : cellsV (l ++ [y]) = cellsV l ++ [.int .u8 (y.k : Int), .int .i64 y.n, .string y.s] := by simp [cellsV]
      rw [e2]
      simpa using hown'
    · exact ((Below.refl base w).alloc hbase _).grown hgrow (by simp; omega) (fun j hj => (World.ownsRow.lt hown j hj).1)
    · have := hgrow.size; simp at this; omega

/-- A row of one byte that has just been made. -/
theorem OwnB.new (w : World) (base : Nat) (T : TypeId) (c : Nat) (n : Int) (g : Nat) (hn : n = (c : Int)) (hc : c < 256) (hb : base ≤ w.heap.size) (hg : g = w.heap.size) : OwnB (w.alloc (.cells #[.int .u8 n] T)) base T (.slice (some ⟨g, 0, none⟩) 1 1) [c] := by
  subst hn hg
  refine ⟨by simpa using hc, by simp, .inr ⟨w.heap.size, 1, #[.int .u8 (c : Int)], by simp, hb, heap_alloc_new _ _, by simp, by unfold maxLen; omega, by simp, by simp⟩⟩

/-- A call hands back bytes and an error. -/
def RetBE (w : World) (r : List Nat × Int) (e : Ending) (w' : World) : Prop :=
  ∃ a cap, e = .returned (.tuple #[.slice a r.1.length cap, .int .i64 r.2]) ∧ r.1.length ≤ cap ∧ Bs w'.heap.size w' a r.1 ∧ Below w.heap.size w w'

/-- A call hands back values and an error. -/
def RetVE (w : World) (r : List Vl × Int) (e : Ending) (w' : World) : Prop :=
  ∃ a cap, e = .returned (.tuple #[.slice a r.1.length cap, .int .i64 r.2]) ∧ r.1.length ≤ cap ∧ Vs w'.heap.size w' a r.1 ∧ Below w.heap.size w w'
end Go.Proofs.Ythfgjkmfabmipaa

/- The walk of hindsightlaw03.Great. -/
set_option linter.unusedSimpArgs false
set_option linter.unusedVariables false
set_option maxRecDepth 100000
namespace Go.Proofs.Ythfgjkmfabmipaa
open Go.RowKit

/-- The sizes of the texts together. -/
def sumS (l : List Vl) : Nat := (l.map fun x => x.s.size).sum
theorem sumS_take (l : List Vl) (k : Nat) (h : k < l.length) : sumS (l.take (k + 1)) = sumS (l.take k) + l[k].s.size := by
  unfold sumS; rw [List.take_succ_eq_append_getElem h, List.map_append, List.sum_append]; simp only [List.map_cons, List.map_nil, List.sum_cons, List.sum_nil]; omega

/-- A row that a statement isn't too much for. -/
def Small (l : List Vl) : Prop := l.length ≤ 40 ∧ (∀ x ∈ l, x.s.size ≤ 9000) ∧ sumS l ≤ 30000

def RetG (w : World) (l : List Vl) (e : Ending) (w' : World) : Prop := ∃ g : Bool, e = .returned (.bool g) ∧ (g = false → Small l) ∧ w = w'

end Go.Proofs.Ythfgjkmfabmipaa

/- The walks of cell.arith where an argument is null. -/
set_option linter.unusedSimpArgs false
set_option linter.unusedVariables false
set_option maxRecDepth 100000
namespace Go.Proofs.Ythfgjkmfabmipaa
open Go.RowKit

theorem right_n : Vl.right ⟨0, 0, ⟨#[]⟩⟩ = true := by decide
theorem right_i (n : Int) : Vl.right ⟨1, n, ⟨#[]⟩⟩ = true := by simp [Vl.right]; rfl
theorem num0 : decide (0 ≤ 1) = true := by decide
theorem num1 : decide (1 ≤ 1) = true := by decide

theorem right_cases0 (x : Vl) (h : x.right = true) (hk : x.k ≤ 1) : x = ⟨0, 0, ⟨#[]⟩⟩ ∨ x = ⟨1, x.n, ⟨#[]⟩⟩ := by
  obtain ⟨k, n, s⟩ := x
  rcases kinds k with rfl | rfl | rfl | rfl | h3
  · obtain ⟨rfl, rfl⟩ := right_null h; exact .inl rfl
  · have := right_num h; subst this; exact .inr rfl
  · simp only at hk; omega
  · simp only at hk; omega
  · simp only at hk; omega

end Go.Proofs.Ythfgjkmfabmipaa

/- The walks of cell.Truth, Bool, Not. -/
set_option linter.unusedSimpArgs false
set_option linter.unusedVariables false
set_option maxRecDepth 100000
namespace Go.Proofs.Ythfgjkmfabmipaa
open Go.RowKit

theorem slots1 (w : World) (T : TypeId) (a0 a1 a2 : Value) (w' : World) (hl : Later (w.alloc (.cells #[a0, a1, a2] T)) w') :
    Slot w' w.heap.size a0 a1 a2 ∧ w.heap.size + 1 ≤ w'.heap.size := by
  have e1 : (w.alloc (.cells #[a0, a1, a2] T)).heap.size = w.heap.size + 1 := by simp
  refine ⟨(Slot.new w T a0 a1 a2).later hl (by rw [e1]; omega), ?_⟩
  have := hl.size
  rw [e1] at this; omega

theorem slots2 (w : World) (T : TypeId) (a0 a1 a2 b0 b1 b2 : Value) (w' : World) (hl : Later ((w.alloc (.cells #[a0, a1, a2] T)).alloc (.cells #[b0, b1, b2] T)) w') :
    Slot w' w.heap.size a0 a1 a2 ∧ Slot w' (w.heap.size + 1) b0 b1 b2 ∧ w.heap.size + 2 ≤ w'.heap.size := by
  have e1 : (w.alloc (.cells #[a0, a1, a2] T)).heap.size = w.heap.size + 1 := by simp
  have e2 : ((w.alloc (.cells #[a0, a1, a2] T)).alloc (.cells #[b0, b1, b2] T)).heap.size = w.heap.size + 1 + 1 := by simp
  have l1 : Later (w.alloc (.cells #[a0, a1, a2] T)) ((w.alloc (.cells #[a0, a1, a2] T)).alloc (.cells #[b0, b1, b2] T)) := (Below.refl _ _).alloc (Nat.le_refl _) _
  refine ⟨((Slot.new w T a0 a1 a2).later l1 (by rw [e1]; omega)).later hl (by rw [e2]; omega), ?_, ?_⟩
  · have := (Slot.new (w.alloc (.cells #[a0, a1, a2] T)) T b0 b1 b2)
    rw [e1] at this
    exact this.later hl (by rw [e2]; omega)
  · have := hl.size
    rw [e2] at this; omega

/-- What Truth answers: is it true, is that known, the error. -/
def truthT (x : Vl) : Bool × Bool × Int :=
  if x.right = false then (false, false, 3) else if 1 < x.k then (false, false, 20) else if x.k = 0 then (false, false, 0) else (x.n != 0, true, 0)

def RetT (w : World) (r : Bool × Bool × Int) (e : Ending) (w' : World) : Prop :=
  e = .returned (.tuple #[.bool r.1, .bool r.2.1, .int .i64 r.2.2]) ∧ Below w.heap.size w w'

def boolV (b : Bool) : Vl := numV (if b then 1 else 0)
end Go.Proofs.Ythfgjkmfabmipaa

/- The walks of record.isRow and what it calls. -/
set_option linter.unusedSimpArgs false
set_option linter.unusedVariables false
set_option maxRecDepth 100000
namespace Go.Proofs.Ythfgjkmfabmipaa
open Go.RowKit

/-- Where the first one is that isn't valid: -1 if there is none. -/
def RetIx (w : World) (l : List Vl) (e : Ending) (w' : World) : Prop := ∃ r : Int, e = .returned (.int .i64 r) ∧ (decide (0 ≤ r) = !(l.all Vl.right)) ∧ -1 ≤ r ∧ Below w.heap.size w w'

theorem all_take (l : List Vl) (k : Nat) (h : k < l.length) : (l.take (k + 1)).all Vl.right = ((l.take k).all Vl.right && l[k].right) := by
  rw [List.take_succ_eq_append_getElem h, List.all_append]; simp only [List.all_cons, List.all_nil, Bool.and_true]

theorem all_false (l : List Vl) (k : Nat) (h : k < l.length) (hk : l[k].right = false) : l.all Vl.right = false := by
  rw [List.all_eq_false]
  exact ⟨l[k], List.getElem_mem h, by simp [hk]⟩

end Go.Proofs.Ythfgjkmfabmipaa

/- The walks of key.isTuple and what it calls. -/
set_option linter.unusedSimpArgs false
set_option linter.unusedVariables false
set_option maxRecDepth 100000
namespace Go.Proofs.Ythfgjkmfabmipaa
open Go.RowKit

end Go.Proofs.Ythfgjkmfabmipaa
