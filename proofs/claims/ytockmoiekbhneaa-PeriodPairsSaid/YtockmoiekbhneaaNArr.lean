/- Rows of values of any kind, of one or more cells each: read, cut, and the call's own. -/
import Derived.Test.YtockmoiekbhneaaKit
import Derived.Deep.Slices
import Derived.Deep.Fields
namespace Go.Proofs.Ytockmoiekbhneaa
open Go.RowKit

/-- The address leads to the cells vs, in blocks below number N. -/
def Arr (N : Nat) (w : World) (a : Option Addr) (vs : List Value) : Prop :=
  vs = [] ∨ ∃ b o, a = some ⟨b, o, none⟩ ∧ b < N ∧ ∀ (i : Nat) (v : Value), vs[i]? = some v → w.cell? ⟨b, o + i, none⟩ = some v

theorem Arr.nil (N : Nat) (w : World) (a : Option Addr) : Arr N w a [] := .inl rfl

theorem Arr.below {N : Nat} {w w' : World} {a : Option Addr} {l : List Value} (h : Arr N w a l) (hb : Below N w w') : Arr N w' a l := by
  rcases h with h2 | ⟨b, o, ha, hN, hc⟩
  · exact .inl h2
  · exact .inr ⟨b, o, ha, hN, fun i c hi => (hb.cell (p := ⟨b, o + i, none⟩) hN).trans (hc i c hi)⟩

theorem Arr.mono {N M : Nat} {w : World} {a : Option Addr} {l : List Value} (h : Arr N w a l) (hM : N ≤ M) : Arr M w a l := by
  rcases h with h2 | ⟨b, o, ha, hN, hc⟩
  · exact .inl h2
  · exact .inr ⟨b, o, ha, by omega, hc⟩

theorem Arr.later {N : Nat} {w w' : World} {a : Option Addr} {l : List Value} (h : Arr w.heap.size w a l) (hb : Below w.heap.size w w') : Arr w'.heap.size w' a l := (h.below hb).mono hb.size

/-- The cells from i on. -/
theorem Arr.at_ {N : Nat} {w : World} {a : Option Addr} {l : List Value} (h : Arr N w a l) (hne : l ≠ []) : ∃ b o, a = some ⟨b, o, none⟩ ∧ b < N ∧ ∀ (i : Nat) (v : Value), l[i]? = some v → w.cell? ⟨b, o + i, none⟩ = some v := by
  rcases h with h2 | h
  · exact absurd h2 hne
  · exact h

/-- Rows of z cells each. -/
def cellsOf {α : Type} (f : α → List Value) (l : List α) : List Value := l.flatMap f

theorem cellsOf_len {α : Type} (f : α → List Value) (z : Nat) (hf : ∀ x, (f x).length = z) (l : List α) : (cellsOf f l).length = l.length * z := by
  induction l with
  | nil => simp [cellsOf]
  | cons x r ih =>
    have e : cellsOf f (x :: r) = f x ++ cellsOf f r := rfl
    rw [e, List.length_append, hf, ih, List.length_cons, Nat.add_mul]; omega

theorem cellsOf_get {α : Type} (f : α → List Value) (z : Nat) (hf : ∀ x, (f x).length = z) : ∀ (l : List α) (i j : Nat) (x : α) (v : Value), l[i]? = some x → (f x)[j]? = some v → (cellsOf f l)[i * z + j]? = some v
  | [], i, _, x, _, h, _ => by simp at h
  | y :: r, 0, j, x, v, h, hv => by
    simp at h; subst h
    have e : cellsOf f (y :: r) = f y ++ cellsOf f r := rfl
    have hj := (List.getElem?_eq_some_iff.1 hv).1
    rw [e, Nat.zero_mul, Nat.zero_add, List.getElem?_append_left hj]; exact hv
  | y :: r, i + 1, j, x, v, h, hv => by
    have := cellsOf_get f z hf r i j x v (by simpa using h) hv
    have e : cellsOf f (y :: r) = f y ++ cellsOf f r := rfl
    rw [e, List.getElem?_append_right (by rw [hf, Nat.add_mul]; omega), hf]
    rw [← this]; congr 1; rw [Nat.add_mul]; omega

theorem cellsOf_take {α : Type} (f : α → List Value) (z : Nat) (hf : ∀ x, (f x).length = z) : ∀ (l : List α) (i : Nat), cellsOf f (l.take i) = (cellsOf f l).take (i * z)
  | [], i => by simp [cellsOf]
  | y :: r, 0 => by simp [cellsOf]
  | y :: r, i + 1 => by
    have e : cellsOf f (y :: r) = f y ++ cellsOf f r := rfl
    have e2 : cellsOf f ((y :: r).take (i + 1)) = f y ++ cellsOf f (r.take i) := rfl
    have h1 : (f y).take ((i + 1) * z) = f y := List.take_of_length_le (by rw [hf, Nat.add_mul]; omega)
    have h2 : (i + 1) * z - z = i * z := by rw [Nat.add_mul]; omega
    rw [e, e2, cellsOf_take f z hf r i, List.take_append, hf, h1, h2]

theorem cellsOf_drop {α : Type} (f : α → List Value) (z : Nat) (hf : ∀ x, (f x).length = z) : ∀ (l : List α) (i : Nat), cellsOf f (l.drop i) = (cellsOf f l).drop (i * z)
  | [], i => by simp [cellsOf]
  | y :: r, 0 => by simp [cellsOf]
  | y :: r, i + 1 => by
    have e : cellsOf f (y :: r) = f y ++ cellsOf f r := rfl
    have e2 : cellsOf f ((y :: r).drop (i + 1)) = cellsOf f (r.drop i) := rfl
    have h1 : (f y).drop ((i + 1) * z) = [] := List.drop_of_length_le (by rw [hf, Nat.add_mul]; omega)
    have h2 : (i + 1) * z - z = i * z := by rw [Nat.add_mul]; omega
    rw [e, e2, cellsOf_drop f z hf r i, List.drop_append, hf, h1, h2, List.nil_append]

theorem cellsOf_snoc {α : Type} (f : α → List Value) (l : List α) (x : α) : cellsOf f (l ++ [x]) = cellsOf f l ++ f x := by simp [cellsOf]

/-- 'b[k:m]' of such a slice. -/
theorem Arr.window {P : Program} {N : Nat} {w : World} {a : Option Addr} {l : List Value} (h : Arr N w a l) (t e : TypeId) (z : Nat) (ht : P.underlying t = some (.slice e)) (hz : ∀ w, (Go.sizeOf e).run P w = .ok z w)
    (len cap k m : Nat) (hlen : l.length = len * z) (hk : k ≤ m) (hm : m ≤ len) (hcap : len ≤ cap) (hz0 : 0 < z) :
    ∃ a', Arr N w a' ((l.drop (k * z)).take ((m - k) * z)) ∧ ∀ W, (Instr.slice t (.slice a len cap) (some (.int .i64 (k : Int))) (some (.int .i64 (m : Int))) none).run P W = .ok (.slice a' (m - k) (cap - k)) W := by
  have ht' : P.underlying t = some (.slice (P.elem t)) := by simp [Program.elem, ht]
  have hee : P.elem t = e := by simp [Program.elem, ht]
  refine ⟨if cap = k then a else a.map (·.add (k * z)), ?_, fun W => ?_⟩
  · rcases h with h2 | ⟨b, o, ha, hN, hc⟩
    · exact .inl (by simp [h2])
    · by_cases hkl : m = k
      · subst hkl; exact .inl (by simp)
      · right
        refine ⟨b, o + k * z, ?_, hN, fun i c hi => ?_⟩
        · rw [if_neg (by omega), ha]
          by_cases h0 : k = 0
          · subst h0; simp [Addr.add]
          · have : ¬ k * z = 0 := by have := Nat.mul_pos (show 0 < k by omega) hz0; omega
            simp [Addr.add]
            exact this
        · rw [List.getElem?_take] at hi
          split at hi
          · rw [List.getElem?_drop] at hi
            rw [Nat.add_assoc]; exact hc _ _ hi
          · simp at hi
  · have := run_slice_lh (P := P) W t a len cap ht' .i64 .i64 (k : Int) (m : Int) (by omega) (by omega) (by omega)
    rw [this, hee, hz W]
    simp [Result.andThen, sliced]

theorem own_below {w w' : World} {base N : Nat} {T : TypeId} {z : Nat} {v : Value} {n : Nat} {xs : List Value} (h : w.ownsRow base T z v n xs) (hN : w.heap.size ≤ N) (hb : Below N w w') : w'.ownsRow base T z v n xs := by
  obtain ⟨h1, h2⟩ := h
  refine ⟨h1, ?_⟩
  rcases h2 with h2 | ⟨g, cap, cur, hv, hg, hh, r⟩
  · exact .inl h2
  · refine .inr ⟨g, cap, cur, hv, hg, ?_, r⟩
    rw [hb.block g (by
      by_cases hlt : g < w.heap.size
      · omega
      · rw [Array.getElem?_eq_none (by omega)] at hh; simp at hh)]
    exact hh

theorem own_slice {w : World} {base : Nat} {T : TypeId} {z : Nat} {v : Value} {n : Nat} {xs : List Value} (h : w.ownsRow base T z v n xs) : ∃ a cap, v = .slice a n cap ∧ n ≤ cap ∧ cap ≤ 9223372036854775807 ∧ Arr w.heap.size w a xs := by
  obtain ⟨h1, h2⟩ := h
  rcases h2 with ⟨hv, hn⟩ | ⟨g, cap, cur, hv, hg, hh, hnc, hcm, hcs, hcur⟩
  · subst hn
    refine ⟨none, 0, hv, by omega, by omega, .inl ?_⟩
    exact List.length_eq_zero_iff.1 (by simpa using h1)
  · refine ⟨some ⟨g, 0, none⟩, cap, hv, hnc, by unfold maxLen at hcm; omega, .inr ⟨g, 0, rfl, ?_, ?_⟩⟩
    · by_cases hlt : g < w.heap.size
      · exact hlt
      · rw [Array.getElem?_eq_none (by omega)] at hh; simp at hh
    · intro i c hi
      have e1 : (cur.toList.take (n * z))[i]? = some c := by rw [hcur]; exact hi
      rw [List.getElem?_take] at e1
      split at e1
      · simp only [World.cell?, hh, Nat.zero_add]
        simpa using e1
      · simp at e1

/-- 'append(s, x)': x has just been laid in a block of its own. -/
theorem wpList_appN {P : Program} {ops : Array Oper} {rest : List Oper} {o : Oper} {a : Act} {Q : Exit → Act → World → Prop} (hgd : o.guard = none) (s x : Operand) (t : TypeId)
    (ho : o.op = .call { callee := .builtin .append, args := #[s, x], argTypes := #[t, t] })
    (base : Nat) (e : TypeId) (i : TypeInfo) (zr : Value) (z bytes : Nat) (ht : P.underlying t = some (.slice e)) (hi : P.info? e = some i) (hz : i.zero = some zr) (hzs : zr.cells.size = z)
    (hsize : i.size = z) (hz0 : 0 < z) (hby : i.bytes = bytes) (hb100 : bytes ≤ 100)
    (v : Value) (n : Nat) (l news : List Value) (w : World) (hown : w.ownsRow base e z v n l) (hs : a.eval s = v) (cs : Array Value) (hcs : cs = news.toArray) (hl : news.length = z) (h1 : ∀ u ∈ news, u.oneCell' = true)
    (hx : a.eval x = .slice (some ⟨w.heap.size, 0, none⟩) 1 1) (hlen : n < 1000000000000) (hbase : base ≤ w.heap.size)
    (h : ∀ v' w', w'.ownsRow base e z v' (n + 1) (l ++ news) → Below base w w' → w.heap.size < w'.heap.size → wpList P ops Q rest (a.put o.dst v') w') :
    wpList P ops Q (o :: rest) a (w.alloc (.cells cs e)) := by
  subst hcs
  refine wpList_append_own (w.alloc (.cells news.toArray e)) hgd s x t ho base e i zr z bytes ht hi hz hsize hby hzs hz0 v n _ hs (World.ownsRow.alloc hown _) ⟨w.heap.size, 0, none⟩ 1 1 news hx (by rw [hl]; omega) ?_ h1 ?_ ?_ ?_ ?_
  · intro j u hj
    have e0 : (⟨w.heap.size, 0, none⟩ : Addr).add j = ⟨w.heap.size, j, none⟩ := by
      unfold Addr.add; split <;> simp_all
    rw [e0, World.cell?_alloc_at _ _ _ _ rfl]
    simpa using hj
  · unfold maxLen; omega
  · have : (n + 1) * bytes ≤ 1000000000000 * 100 := Nat.mul_le_mul (by omega) hb100
    omega
  · simp; omega
  · intro v' w' hown' hgrow _
    refine h v' w' hown' ?_ ?_
    · exact ((Below.refl base w).alloc hbase _).grown hgrow (by simp; omega) (fun j hj => (World.ownsRow.lt hown j hj).1)
    · have := hgrow.size; simp at this; omega
end Go.Proofs.Ytockmoiekbhneaa
