/- Rows of integers of one kind: read, appended to. -/
import Derived.Test.YtkhcnfeklmbplaaDoorKit
namespace Go.Proofs.YtkhcnfeklmbplaaDoor
open Go.RowKit

/-- The address leads to the integers l, of kind k, in blocks below number N. -/
def Rs (k : IntKind) (N : Nat) (w : World) (a : Option Addr) (l : List Int) : Prop :=
  l = [] ∨ ∃ b o, a = some ⟨b, o, none⟩ ∧ b < N ∧ ∀ (i : Nat) (c : Int), l[i]? = some c → w.cell? ⟨b, o + i, none⟩ = some (.int k c)

theorem Rs.below {k : IntKind} {N : Nat} {w w' : World} {a : Option Addr} {l : List Int} (h : Rs k N w a l) (hb : Below N w w') : Rs k N w' a l := by
  rcases h with h2 | ⟨b, o, ha, hN, hc⟩
  · exact .inl h2
  · exact .inr ⟨b, o, ha, hN, fun i c hi => (hb.cell (p := ⟨b, o + i, none⟩) hN).trans (hc i c hi)⟩

theorem Rs.mono {k : IntKind} {N M : Nat} {w : World} {a : Option Addr} {l : List Int} (h : Rs k N w a l) (hM : N ≤ M) : Rs k M w a l := by
  rcases h with h2 | ⟨b, o, ha, hN, hc⟩
  · exact .inl h2
  · exact .inr ⟨b, o, ha, by omega, hc⟩

theorem Rs.at_ {k : IntKind} {N : Nat} {w : World} {a : Option Addr} {l : List Int} (h : Rs k N w a l) {j : Nat} (hj : j < l.length) : ∃ b o, a = some ⟨b, o, none⟩ ∧ b < N ∧ w.cell? ⟨b, o + j, none⟩ = some (.int k l[j]) := by
  rcases h with h2 | ⟨b, o, ha, hN, hc⟩
  · subst h2; simp at hj
  · exact ⟨b, o, ha, hN, hc j _ (List.getElem?_eq_getElem hj)⟩

/-- 'b[k:]' of such a slice, as one value. -/
theorem Rs.from {P : Program} {kd : IntKind} {N : Nat} {w : World} {a : Option Addr} {l : List Int} (h : Rs kd N w a l) (t e : TypeId) (ht : P.underlying t = some (.slice e)) (hz : ∀ w, (Go.sizeOf e).run P w = .ok 1 w)
    (len cap k : Nat) (hlen : len = l.length) (hk : k ≤ len) (hcap : len ≤ cap) :
    ∃ a', Rs kd N w a' (l.drop k) ∧ ∀ W, (Instr.slice t (.slice a len cap) (some (.int .i64 (k : Int))) none none).run P W = .ok (.slice a' (len - k) (cap - k)) W := by
  subst hlen
  have ht' : P.underlying t = some (.slice (P.elem t)) := by simp [Program.elem, ht]
  have hee : P.elem t = e := by simp [Program.elem, ht]
  refine ⟨if cap = k then a else a.map (·.add (k * 1)), ?_, fun W => ?_⟩
  · rcases h with h2 | ⟨b, o, ha, hN, hc⟩
    · exact .inl (by simp [h2])
    · by_cases hkl : k = l.length
      · exact .inl (by simp [hkl])
      · right
        refine ⟨b, o + k, ?_, hN, fun i c hi => ?_⟩
        · rw [if_neg (by omega), ha]; simp [Addr.add]
        · rw [List.getElem?_drop] at hi
          rw [Nat.add_assoc]; exact hc _ _ hi
  · have := run_slice_l (P := P) W t a l.length cap ht' .i64 (k : Int) (by omega) (by omega)
    rw [this, hee, hz W]
    simp [Result.andThen, sliced]

/-- 'b[:m]'. -/
theorem Rs.upTo {P : Program} {kd : IntKind} {N : Nat} {w : World} {a : Option Addr} {l : List Int} (h : Rs kd N w a l) (t e : TypeId) (ht : P.underlying t = some (.slice e)) (hz : ∀ w, (Go.sizeOf e).run P w = .ok 1 w)
    (len cap m : Nat) (hlen : len = l.length) (hm : m ≤ len) (hcap : len ≤ cap) :
    ∃ a', Rs kd N w a' (l.take m) ∧ ∀ W, (Instr.slice t (.slice a len cap) none (some (.int .i64 (m : Int))) none).run P W = .ok (.slice a' m cap) W := by
  subst hlen
  have ht' : P.underlying t = some (.slice (P.elem t)) := by simp [Program.elem, ht]
  have hee : P.elem t = e := by simp [Program.elem, ht]
  refine ⟨if cap = 0 then a else a.map (·.add (0 * 1)), ?_, fun W => ?_⟩
  · rcases h with h2 | ⟨b, o, ha, hN, hc⟩
    · exact .inl (by simp [h2])
    · right
      refine ⟨b, o, ?_, hN, fun i c hi => ?_⟩
      · rw [ha]; split <;> simp [Addr.add]
      · rw [List.getElem?_take] at hi
        split at hi
        · exact hc _ _ hi
        · simp at hi
  · have := run_slice_h (P := P) W t a l.length cap ht' .i64 (m : Int) (by omega) (by omega)
    rw [this, hee, hz W]
    simp [Result.andThen, sliced]

/-- A row of integers of the call's own. -/
def OwnI (k : IntKind) (w : World) (base : Nat) (T : TypeId) (v : Value) (l : List Int) : Prop := w.ownsRow base T 1 v l.length (l.map fun (c : Int) => Value.int k c)

theorem OwnI.nil (k : IntKind) (w : World) (base : Nat) (T : TypeId) : OwnI k w base T (.slice none 0 0) [] := World.ownsRow_nil _ _ _ _

theorem OwnI.slice {k : IntKind} {w : World} {base : Nat} {T : TypeId} {v : Value} {l : List Int} (h : OwnI k w base T v l) : ∃ a cap, v = .slice a l.length cap ∧ l.length ≤ cap ∧ Rs k w.heap.size w a l ∧ (l ≠ [] → ∃ g, a = some ⟨g, 0, none⟩ ∧ base ≤ g) := by
  obtain ⟨h1, h2⟩ := h
  rcases h2 with ⟨hv, hn⟩ | ⟨g, cap, cur, hv, hg, hh, hnc, hcm, hcs, hcur⟩
  · have : l = [] := List.length_eq_zero_iff.1 hn
    subst this
    exact ⟨none, 0, by simpa using hv, by simp, .inl rfl, by simp⟩
  · refine ⟨some ⟨g, 0, none⟩, cap, hv, hnc, .inr ⟨g, 0, rfl, ?_, ?_⟩, fun _ => ⟨g, rfl, hg⟩⟩
    · by_cases hlt : g < w.heap.size
      · exact hlt
      · rw [Array.getElem?_eq_none (by omega)] at hh; simp at hh
    · intro i c hi
      have hil : i < l.length := by
        by_cases hlt : i < l.length
        · exact hlt
        · rw [List.getElem?_eq_none (by omega)] at hi; simp at hi
      have e1 : (cur.toList.take (l.length * 1))[i]? = some (Value.int k c) := by rw [hcur]; simp [hi]
      rw [List.getElem?_take_of_lt (by omega)] at e1
      simp only [World.cell?, hh, Nat.zero_add]
      simpa using e1

theorem OwnI.below {k : IntKind} {w w' : World} {base N : Nat} {T : TypeId} {v : Value} {l : List Int} (h : OwnI k w base T v l) (hN : w.heap.size ≤ N) (hb : Below N w w') : OwnI k w' base T v l := by
  obtain ⟨h1, h2⟩ := h
  refine ⟨h1, ?_⟩
  rcases h2 with h2 | ⟨g, cap, cur, hv, hg, hh, r⟩
  · exact .inl h2
  · refine .inr ⟨g, cap, cur, hv, hg, ?_, r⟩
    rw [hb.block g (by
      by_cases hlt : g < w.heap.size
      · omega
      · rw [Array.getElem?_eq_none (by omega)] at hh; simp at hh)]
    exact hh

/-- 'append(s, x)': x has just been laid in a block of its own. -/
theorem wpList_appI {P : Program} {ops : Array Oper} {rest : List Oper} {o : Oper} {a : Act} {Q : Exit → Act → World → Prop} (hgd : o.guard = none) (s x : Operand) (t : TypeId)
    (ho : o.op = .call { callee := .builtin .append, args := #[s, x], argTypes := #[t, t] }) (k : IntKind)
    (base : Nat) (e : TypeId) (i : TypeInfo) (bytes : Nat) (ht : P.underlying t = some (.slice e)) (hi : P.info? e = some i) (hz : i.zero = some (.int k 0))
    (hsize : i.size = 1) (hby : i.bytes = bytes) (h0 : bytes ≤ 8)
    (v : Value) (l : List Int) (w : World) (hown : OwnI k w base e v l) (hs : a.eval s = v) (c : Int)
    (hx : a.eval x = .slice (some ⟨w.heap.size, 0, none⟩) 1 1) (hlen : l.length < 1000000000000) (hbase : base ≤ w.heap.size)
    (h : ∀ v' w', OwnI k w' base e v' (l ++ [c]) → Below base w w' → w.heap.size < w'.heap.size → wpList P ops Q rest (a.put o.dst v') w') :
    wpList P ops Q (o :: rest) a (w.alloc (.cells #[.int k c] e)) := by
  refine wpList_append_own (w.alloc (.cells #[.int k c] e)) hgd s x t ho base e i (.int k 0) 1 bytes ht hi hz hsize hby rfl (by decide) v l.length _ hs (World.ownsRow.alloc hown _) ⟨w.heap.size, 0, none⟩ 1 1 [.int k c] hx rfl ?_ ?_ ?_ ?_ ?_ ?_
  · intro j u hj
    match j, hj with
    | 0, hj => simp at hj; subst hj; simp [Addr.add]
  · intro u hu; simp at hu; subst hu; rfl
  · unfold maxLen; omega
  · have : (l.length + 1) * bytes ≤ (l.length + 1) * 8 := Nat.mul_le_mul_left _ h0
    omega
  · simp; omega
  · intro v' w' hown' hgrow _
    refine h v' w' (by simpa [OwnI] using hown') ?_ ?_
    · exact ((Below.refl base w).alloc hbase _).grown hgrow (by simp; omega) (fun j hj => (World.ownsRow.lt hown j hj).1)
    · have := hgrow.size; simp at this; omega

theorem boxB (w : World) (o : Obj) : Below w.heap.size w (w.alloc o) := (Below.refl _ w).alloc (Nat.le_refl _) o

/-- A slice of integers that came in. -/
theorem IsRow.rs {k : IntKind} {w : World} {a : Option Addr} {len cap : Nat} {zs : List Int} (h : IsRow k w a len cap zs) :
    ∃ l : List Int, len = l.length ∧ Rs k w.heap.size w a l ∧ len ≤ cap ∧ cap ≤ 9223372036854775807 ∧ ∀ n ∈ l, (Lit.int k n).wf = true := by
  obtain ⟨h1, h2, l, hl, hw, hc⟩ := h.read
  unfold maxLen at h2
  exact ⟨l, hl.symm, hc, h1, by omega, hw⟩
end Go.Proofs.YtkhcnfeklmbplaaDoor
