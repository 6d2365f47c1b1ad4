/- Several texts of one proof, one behind the other. -/
import Derived.Test.YtapbhhehnbfdfaaRows
import Derived.WalkKit
import Derived.WalkSpells
import Derived.WalkLawsBesides
import Derived.Laws.BitsAllLaws
import Derived.Laws.BytesArg
import Derived.OpenShut
import Derived.Deep.Slices
import Derived.Deep.Fields
set_option linter.unusedSimpArgs false
set_option linter.unusedVariables false

/- General lemmas that hold over every program: byte slices that are read, and one-byte appends to a row of the call's own. -/
set_option linter.unusedSimpArgs false
set_option linter.unusedVariables false
set_option maxRecDepth 100000
namespace Go.Proofs.Ytapbhhehnbfdfaa
open Go.RowKit

/-- The bytes l as a string of Go's. -/
def strN (l : List Nat) : ByteArray := ⟨(l.map UInt8.ofNat).toArray⟩

theorem strN_size (l : List Nat) : (strN l).size = l.length := by
  simp [strN, ByteArray.size]

/-- The address leads to the bytes l, in blocks below number N. -/
def Bs (N : Nat) (w : World) (a : Option Addr) (l : List Nat) : Prop :=
  (∀ c ∈ l, c < 256) ∧ (l = [] ∨ ∃ b o, a = some ⟨b, o, none⟩ ∧ b < N ∧ ∀ (i c : Nat), l[i]? = some c → w.cell? ⟨b, o + i, none⟩ = some (.int .u8 (c : Int)))

theorem Bs.below {N : Nat} {w w' : World} {a : Option Addr} {l : List Nat} (h : Bs N w a l) (hb : Below N w w') : Bs N w' a l := by
  obtain ⟨h1, h2⟩ := h
  refine ⟨h1, ?_⟩
  rcases h2 with h2 | ⟨b, o, ha, hN, hc⟩
  · exact .inl h2
  · exact .inr ⟨b, o, ha, hN, fun i c hi => (hb.cell (p := ⟨b, o + i, none⟩) hN).trans (hc i c hi)⟩

theorem Bs.mono {N M : Nat} {w : World} {a : Option Addr} {l : List Nat} (h : Bs N w a l) (hM : N ≤ M) : Bs M w a l := by
  obtain ⟨h1, h2⟩ := h
  refine ⟨h1, ?_⟩
  rcases h2 with h2 | ⟨b, o, ha, hN, hc⟩
  · exact .inl h2
  · exact .inr ⟨b, o, ha, by omega, hc⟩

theorem Bs.lt {N : Nat} {w : World} {a : Option Addr} {l : List Nat} (h : Bs N w a l) {i c : Nat} (hi : l[i]? = some c) : c < 256 :=
  h.1 c (List.mem_of_getElem? hi)

theorem bytes_fun (l : List Nat) (hl : ∀ c ∈ l, c < 256) : strOfNums (l.map fun (c : Nat) => (c : Int)) = strN l := by
  apply ByteArray.ext
  apply Array.toList_inj.1
  rw [strOfNums_data]
  simp [strN]

theorem Bs.conv {P : Program} {N : Nat} {w : World} {a : Option Addr} {l : List Nat} (h : Bs N w a l) (src e : TypeId) (hs : P.underlying src = some (.slice e)) (he : P.underlying e = some (.int .u8))
    (dst : TypeId) (hd : P.underlying dst = some .string) (n cap : Nat) (hn : n = l.length) :
    (convert src dst (.slice a n cap)).run P w = .ok (.string (strN l)) w := by
  subst hn
  obtain ⟨h1, h2⟩ := h
  rcases h2 with h2 | ⟨b, o, ha, hN, hc⟩
  · subst h2
    cases a with
    | none => exact run_convert_bytes_nil w src e hs he _ _ dst hd
    | some x =>
      rw [run_convert_bytes_string w src dst e _ _ cap hs he hd]
      have hl : (loadCells x 0).run P w = .ok (([] : List Int).map (Value.int .u8)).toArray w := run_loadCells_list (P := P) w x [] (fun j v hj => by simp at hj)
      exact run_bytesToString w x 0 cap [] hl
  · subst ha
    have := run_convert_bytes_arg (P := P) w src e hs he b o l.length cap (l.map fun (c : Nat) => (c : Int)) (by simp) (fun i hi => by
      rw [hc i l[i] (by simp [hi])]
      simp [hi]) dst hd
    rw [this, bytes_fun l h1]

/-- 'b[k:]' of such a slice, as one value. -/
theorem Bs.from {P : Program} {N : Nat} {w : World} {a : Option Addr} {l : List Nat} (h : Bs N w a l) (t e : TypeId) (ht : P.underlying t = some (.slice e)) (hz : ∀ w, (Go.sizeOf e).run P w = .ok 1 w)
    (len cap k : Nat) (hlen : len = l.length) (hk : k ≤ len) (hcap : len ≤ cap) :
    ∃ a', Bs N w a' (l.drop k) ∧ ∀ W, (Instr.slice t (.slice a len cap) (some (.int .i64 (k : Int))) none none).run P W = .ok (.slice a' (len - k) (cap - k)) W := by
  subst hlen
  have ht' : P.underlying t = some (.slice (P.elem t)) := by simp [Program.elem, ht]
  have hee : P.elem t = e := by simp [Program.elem, ht]
  refine ⟨if cap = k then a else a.map (·.add (k * 1)), ?_, fun W => ?_⟩
  · obtain ⟨h1, h2⟩ := h
    refine ⟨fun c hc => h1 c (List.mem_of_mem_drop hc), ?_⟩
    rcases h2 with h2 | ⟨b, o, ha, hN, hc⟩
    · exact .inl (by simp [h2])
    · by_cases hkl : k = l.length
      · exact .inl (by simp [hkl])
      · right
        refine ⟨b, o + k, ?_, hN, fun i c hi => ?_⟩
        · rw [if_neg (by omega), ha]; simp [Addr.add]
        · rw [List.getElem?_drop] at hi
          rw [Nat.add_assoc]; exact hc _ _ hi
  · have := run_slice_l (P := P) W t a l.length cap ht' .i64 (k : Int) (by omega) (by omega)
    rw [this, hee, hz W]
    simp [Result.andThen, sliced]

/-- 'b[k:h]' of such a slice. -/
theorem Bs.window {P : Program} {N : Nat} {w : World} {a : Option Addr} {l : List Nat} (h : Bs N w a l) (t e : TypeId) (ht : P.underlying t = some (.slice e)) (hz : ∀ w, (Go.sizeOf e).run P w = .ok 1 w)
    (len cap k m : Nat) (hlen : len = l.length) (hk : k ≤ m) (hm : m ≤ len) (hcap : len ≤ cap) :
    ∃ a', Bs N w a' ((l.drop k).take (m - k)) ∧ ∀ W, (Instr.slice t (.slice a len cap) (some (.int .i64 (k : Int))) (some (.int .i64 (m : Int))) none).run P W = .ok (.slice a' (m - k) (cap - k)) W := by
  subst hlen
  have ht' : P.underlying t = some (.slice (P.elem t)) := by simp [Program.elem, ht]
  have hee : P.elem t = e := by simp [Program.elem, ht]
  refine ⟨if cap = k then a else a.map (·.add (k * 1)), ?_, fun W => ?_⟩
  · obtain ⟨h1, h2⟩ := h
    refine ⟨fun c hc => h1 c (List.mem_of_mem_drop (List.mem_of_mem_take hc)), ?_⟩
    rcases h2 with h2 | ⟨b, o, ha, hN, hc⟩
    · exact .inl (by simp [h2])
    · by_cases hkl : k = l.length
      · exact .inl (by simp [hkl])
      · right
        refine ⟨b, o + k, ?_, hN, fun i c hi => ?_⟩
        · rw [if_neg (by omega), ha]; simp [Addr.add]
        · rw [List.getElem?_take] at hi
          split at hi
          · rw [List.getElem?_drop] at hi
            rw [Nat.add_assoc]; exact hc _ _ hi
          · simp at hi
  · have := run_slice_lh (P := P) W t a l.length cap ht' .i64 .i64 (k : Int) (m : Int) (by omega) (by omega) (by omega)
    rw [this, hee, hz W]
    simp [Result.andThen, sliced]

/-- What the walk is told of a slice of integers that came in: it is nil; or it leads to a row of 'cap' cells, the numbers zs, each fitting its kind. -/
def IsRow (k : IntKind) (w : World) (a : Option Addr) (len cap : Nat) (zs : List Int) : Prop :=
  (a = none ∧ len = 0 ∧ cap = 0 ∧ zs = []) ∨
  ∃ x, a = some x ∧ len ≤ cap ∧ cap ≤ maxLen ∧ zs.length = cap ∧ (∀ i, i < zs.length → w.cell? (x.add i) = some (.int k (zs.getD i 0))) ∧ ∀ n ∈ zs, (Lit.int k n).wf = true

theorem nat_u64 {n : Int} (h : (Lit.int .u64 n).wf = true) : ∃ m : Nat, n = (m : Int) ∧ m < 18446744073709551616 := by
  have := bounds_u64 h
  exact ⟨n.toNat, by omega, by omega⟩
theorem nat_u8 {n : Int} (h : (Lit.int .u8 n).wf = true) : ∃ m : Nat, n = (m : Int) ∧ m < 256 := by
  have := bounds_u8 h
  exact ⟨n.toNat, by omega, by omega⟩
theorem bd_i64 {n : Int} (h : (Lit.int .i64 n).wf = true) : -9223372036854775808 ≤ n ∧ n ≤ 9223372036854775807 := bounds_i64 h

/-- A slice of integers that came in: its elements, in the blocks of the world. -/
theorem IsRow.read {k : IntKind} {w : World} {a : Option Addr} {len cap : Nat} {zs : List Int} (h : IsRow k w a len cap zs) :
    len ≤ cap ∧ cap ≤ maxLen ∧ ∃ l : List Int, l.length = len ∧ (∀ n ∈ l, (Lit.int k n).wf = true) ∧ (l = [] ∨ ∃ b o, a = some ⟨b, o, none⟩ ∧ b < w.heap.size ∧ ∀ (i : Nat) n, l[i]? = some n → w.cell? ⟨b, o + i, none⟩ = some (.int k n)) := by
  rcases h with ⟨rfl, rfl, rfl, rfl⟩ | ⟨x, rfl, hl, hm, hz, hcell, hwz⟩
  · exact ⟨by omega, by unfold maxLen; omega, [], rfl, by simp, .inl rfl⟩
  · refine ⟨hl, hm, zs.take len, by rw [List.length_take]; omega, fun n hn => hwz n (List.mem_of_mem_take hn), ?_⟩
    by_cases h0 : len = 0
    · exact .inl (by simp [h0])
    · right
      obtain ⟨b, o, spot⟩ := x
      have hc := hcell 0 (by omega)
      have hspot : spot = none := by simpa [Addr.add] using World.cell?_spot hc
      subst hspot
      refine ⟨b, o, rfl, ?_, fun i n hi => ?_⟩
      · have := World.block_lt_of_cell? _ _ hc
        simpa [Addr.add] using this
      · rw [List.getElem?_take] at hi
        split at hi
        · rename_i hlt
          have h1 := hcell i (by omega)
          have e1 : (⟨b, o, none⟩ : Addr).add i = ⟨b, o + i, none⟩ := by unfold Addr.add; split <;> simp_all
          rw [e1] at h1
          rw [h1]
          simp [List.getD, hi]
        · simp at hi

theorem IsRow.bs {w : World} {a : Option Addr} {len cap : Nat} {zs : List Int} (h : IsRow .u8 w a len cap zs) :
    ∃ l : List Nat, len = l.length ∧ Bs w.heap.size w a l ∧ len ≤ cap ∧ cap ≤ 9223372036854775807 := by
  obtain ⟨h1, h2, l, hl, hw, hc⟩ := h.read
  unfold maxLen at h2
  refine ⟨l.map Int.toNat, by simp [hl], ⟨?_, ?_⟩, h1, by omega⟩
  · intro c hc
    obtain ⟨n, hn, rfl⟩ := List.mem_map.1 hc
    have := bounds_u8 (hw n hn)
    omega
  · rcases hc with rfl | ⟨b, o, ha, hb, hc⟩
    · exact .inl rfl
    · refine .inr ⟨b, o, ha, hb, fun i c hi => ?_⟩
      rw [List.getElem?_map] at hi
      cases hli : l[i]? with
      | none => rw [hli] at hi; simp at hi
      | some n =>
        rw [hli] at hi
        simp at hi
        have := bounds_u8 (hw n (List.mem_of_getElem? hli))
        rw [hc i n hli]
        congr 2; omega

/-- A row of bytes of the call's own. -/
def OwnB (w : World) (base : Nat) (T : TypeId) (v : Value) (l : List Nat) : Prop := (∀ c ∈ l, c < 256) ∧ w.ownsRow base T 1 v l.length (l.map fun (c : Nat) => Value.int .u8 (c : Int))

theorem OwnB.nil (w : World) (base : Nat) (T : TypeId) : OwnB w base T (.slice none 0 0) [] := ⟨by simp, World.ownsRow_nil _ _ _ _⟩

theorem OwnB.slice {w : World} {base : Nat} {T : TypeId} {v : Value} {l : List Nat} (h : OwnB w base T v l) : ∃ a cap, v = .slice a l.length cap ∧ l.length ≤ cap ∧ Bs w.heap.size w a l ∧ (l ≠ [] → ∃ g, a = some ⟨g, 0, none⟩ ∧ base ≤ g) := by
  obtain ⟨h0, h1, h2⟩ := h
  rcases h2 with ⟨hv, hn⟩ | ⟨g, cap, cur, hv, hg, hh, hnc, hcm, hcs, hcur⟩
  · have : l = [] := List.length_eq_zero_iff.1 hn
    subst this
    exact ⟨none, 0, by simpa using hv, by simp, ⟨by simp, .inl rfl⟩, by simp⟩
  · refine ⟨some ⟨g, 0, none⟩, cap, hv, hnc, ⟨h0, .inr ⟨g, 0, rfl, ?_, ?_⟩⟩, fun _ => ⟨g, rfl, hg⟩⟩
    · by_cases hlt : g < w.heap.size
      · exact hlt
      · rw [Array.getElem?_eq_none (by omega)] at hh; simp at hh
    · intro i c hi
      have hil : i < l.length := by
        by_cases hlt : i < l.length
        · exact hlt
        · rw [List.getElem?_eq_none (by omega)] at hi; simp at hi
      have e1 : (cur.toList.take (l.length * 1))[i]? = some (Value.int .u8 (c : Int)) := by rw [hcur]; simp [hi]
      rw [List.getElem?_take_of_lt (by omega)] at e1
      simp only [World.cell?, hh, Nat.zero_add]
      simpa using e1

theorem OwnB.below {w w' : World} {base N : Nat} {T : TypeId} {v : Value} {l : List Nat} (h : OwnB w base T v l) (hN : w.heap.size ≤ N) (hb : Below N w w') : OwnB w' base T v l := by
  obtain ⟨h0, h1, h2⟩ := h
  refine ⟨h0, h1, ?_⟩
  rcases h2 with h2 | ⟨g, cap, cur, hv, hg, hh, r⟩
  · exact .inl h2
  · refine .inr ⟨g, cap, cur, hv, hg, ?_, r⟩
    rw [hb.block g (by
      by_cases hlt : g < w.heap.size
      · omega
      · rw [Array.getElem?_eq_none (by omega)] at hh; simp at hh)]
    exact hh

/-- 'append(s, x)': x has just been laid in a block of its own. -/
theorem wpList_app1 {P : Program} {ops : Array Oper} {rest : List Oper} {o : Oper} {a : Act} {Q : Exit → Act → World → Prop} (hgd : o.guard = none) (s x : Operand) (t : TypeId)
    (ho : o.op = .call { callee := .builtin .append, args := #[s, x], argTypes := #[t, t] })
    (base : Nat) (e : TypeId) (i : TypeInfo) (ht : P.underlying t = some (.slice e)) (hi : P.info? e = some i) (hz : i.zero = some (.int .u8 0))
    (hsize : i.size = 1) (hby : i.bytes = 1)
    (v : Value) (l : List Nat) (w : World) (hown : OwnB w base e v l) (hs : a.eval s = v) (c : Nat) (hc : c < 256) (n : Int) (hn : n = (c : Int))
    (hx : a.eval x = .slice (some ⟨w.heap.size, 0, none⟩) 1 1) (hlen : l.length < 100000000000000) (hbase : base ≤ w.heap.size)
    (h : ∀ v' w', OwnB w' base e v' (l ++ [c]) → Below base w w' → w.heap.size < w'.heap.size → wpList P ops Q rest (a.put o.dst v') w') :
    wpList P ops Q (o :: rest) a (w.alloc (.cells #[.int .u8 n] e)) := by
  subst hn
  refine wpList_append_own (w.alloc (.cells #[.int .u8 (c : Int)] e)) hgd s x t ho base e i (.int .u8 0) 1 1 ht hi hz hsize hby rfl (by decide) v l.length _ hs (hown.2.alloc _) ⟨w.heap.size, 0, none⟩ 1 1 [.int .u8 (c : Int)] hx rfl ?_ ?_ ?_ ?_ ?_ ?_
  · intro j u hj
    match j, hj with
    | 0, hj => simp at hj; subst hj; simp [Addr.add]
  · intro u hu; simp at hu; subst hu; rfl
  · unfold maxLen; omega
  · omega
  · simp; omega
  · intro v' w' hown' hgrow _
    refine h v' w' ⟨?_, by simpa using hown'⟩ ?_ ?_
    · intro d hd
      simp at hd
      rcases hd with hd | hd
      · exact hown.1 d hd
      · omega
    · exact ((Below.refl base w).alloc hbase _).grown hgrow (by simp; omega) (fun j hj => (hown.2.lt j hj).1)
    · have := hgrow.size; simp at this; omega

end Go.Proofs.Ytapbhhehnbfdfaa

/- Rows of values of any kind, of one or more cells each: read, cut, and the call's own. -/
set_option linter.unusedSimpArgs false
set_option linter.unusedVariables false
set_option maxRecDepth 100000
namespace Go.Proofs.Ytapbhhehnbfdfaa
open Go.RowKit

/-- The address leads to the cells vs, in blocks below number N. -/
def Arr (N : Nat) (w : World) (a : Option Addr) (vs : List Value) : Prop :=
  vs = [] ∨ ∃ b o, a = some ⟨b, o, none⟩ ∧ b < N ∧ ∀ (i : Nat) (v : Value), vs[i]? = some v → w.cell? ⟨b, o + i, none⟩ = some v

theorem Arr.nil (N : Nat) (w : World) (a : Option Addr) : Arr N w a [] := .inl rfl

theorem Arr.below {N : Nat} {w w' : World} {a : Option Addr} {l : List Value} (h : Arr N w a l) (hb : Below N w w') : Arr N w' a l := by
  rcases h with h2 | ⟨b, o, ha, hN, hc⟩
  · exact .inl h2
  · exact .inr ⟨b, o, ha, hN, fun i c hi => (hb.cell (p := ⟨b, o + i, none⟩) hN).trans (hc i c hi)⟩

theorem Arr.mono {N M : Nat} {w : World} {a : Option Addr} {l : List Value} (h : Arr N w a l) (hM : N ≤ M) : Arr M w a l := by
  rcases h with h2 | ⟨b, o, ha, hN, hc⟩
  · exact .inl h2
  · exact .inr ⟨b, o, ha, by omega, hc⟩

theorem Arr.later {N : Nat} {w w' : World} {a : Option Addr} {l : List Value} (h : Arr w.heap.size w a l) (hb : Below w.heap.size w w') : Arr w'.heap.size w' a l := (h.below hb).mono hb.size

/-- The cells from i on. -/
theorem Arr.at_ {N : Nat} {w : World} {a : Option Addr} {l : List Value} (h : Arr N w a l) (hne : l ≠ []) : ∃ b o, a = some ⟨b, o, none⟩ ∧ b < N ∧ ∀ (i : Nat) (v : Value), l[i]? = some v → w.cell? ⟨b, o + i, none⟩ = some v := by
  rcases h with h2 | h
  · exact absurd h2 hne
  · exact h

/-- Rows of z cells each. -/
def cellsOf {α : Type} (f : α → List Value) (l : List α) : List Value := l.flatMap f

theorem cellsOf_len {α : Type} (f : α → List Value) (z : Nat) (hf : ∀ x, (f x).length = z) (l : List α) : (cellsOf f l).length = l.length * z := by
  induction l with
  | nil => simp [cellsOf]
  | cons x r ih =>
    have e : cellsOf f (x :: r) = f x ++ cellsOf f r := rfl
    rw [e, List.length_append, hf, ih, List.length_cons, Nat.add_mul]; omega

theorem cellsOf_get {α : Type} (f : α → List Value) (z : Nat) (hf : ∀ x, (f x).length = z) : ∀ (l : List α) (i j : Nat) (x : α) (v : Value), l[i]? = some x → (f x)[j]? = some v → (cellsOf f l)[i * z + j]? = some v
  | [], i, _, x, _, h, _ => by simp at h
  | y :: r, 0, j, x, v, h, hv => by
    simp at h; subst h
    have e : cellsOf f (y :: r) = f y ++ cellsOf f r := rfl
    have hj := (List.getElem?_eq_some_iff.1 hv).1
    rw [e, Nat.zero_mul, Nat.zero_add, List.getElem?_append_left hj]; exact hv
  | y :: r, i + 1, j, x, v, h, hv => by
    have := cellsOf_get f z hf r i j x v (by simpa using h) hv
    have e : cellsOf f (y :: r) = f y ++ cellsOf f r := rfl
    rw [e, List.getElem?_append_right (by rw [hf, Nat.add_mul]; omega), hf]
    rw [← this]; congr 1; rw [Nat.add_mul]; omega

theorem cellsOf_take {α : Type} (f : α → List Value) (z : Nat) (hf : ∀ x, (f x).length = z) : ∀ (l : List α) (i : Nat), cellsOf f (l.take i) = (cellsOf f l).take (i * z)
  | [], i => by simp [cellsOf]
  | y :: r, 0 => by simp [cellsOf]
  | y :: r, i + 1 => by
    have e : cellsOf f (y :: r) = f y ++ cellsOf f r := rfl
    have e2 : cellsOf f ((y :: r).take (i + 1)) = f y ++ cellsOf f (r.take i) := rfl
    have h1 : (f y).take ((i + 1) * z) = f y := List.take_of_length_le (by rw [hf, Nat.add_mul]; omega)
    have h2 : (i + 1) * z - z = i * z := by rw [Nat.add_mul]; omega
    rw [e, e2, cellsOf_take f z hf r i, List.take_append, hf, h1, h2]

theorem cellsOf_drop {α : Type} (f : α → List Value) (z : Nat) (hf : ∀ x, (f x).length = z) : ∀ (l : List α) (i : Nat), cellsOf f (l.drop i) = (cellsOf f l).drop (i * z)
  | [], i => by simp [cellsOf]
  | y :: r, 0 => by simp [cellsOf]
  | y :: r, i + 1 => by
    have e : cellsOf f (y :: r) = f y ++ cellsOf f r := rfl
    have e2 : cellsOf f ((y :: r).drop (i + 1)) = cellsOf f (r.drop i) := rfl
    have h1 : (f y).drop ((i + 1) * z) = [] := List.drop_of_length_le (by rw [hf, Nat.add_mul]; omega)
    have h2 : (i + 1) * z - z = i * z := by rw [Nat.add_mul]; omega
    rw [e, e2, cellsOf_drop f z hf r i, List.drop_append, hf, h1, h2, List.nil_append]

theorem cellsOf_snoc {α : Type} (f : α → List Value) (l : List α) (x : α) : cellsOf f (l ++ [x]) = cellsOf f l ++ f x := by simp [cellsOf]

/-- 'b[k:m]' of such a slice. -/
theorem Arr.window {P : Program} {N : Nat} {w : World} {a : Option Addr} {l : List Value} (h : Arr N w a l) (t e : TypeId) (z : Nat) (ht : P.underlying t = some (.slice e)) (hz : ∀ w, (Go.sizeOf e).run P w = .ok z w)
    (len cap k m : Nat) (hlen : l.length = len * z) (hk : k ≤ m) (hm : m ≤ len) (hcap : len ≤ cap) (hz0 : 0 < z) :
    ∃ a', Arr N w a' ((l.drop (k * z)).take ((m - k) * z)) ∧ ∀ W, (Instr.slice t (.slice a len cap) (some (.int .i64 (k : Int))) (some (.int .i64 (m : Int))) none).run P W = .ok (.slice a' (m - k) (cap - k)) W := by
  have ht' : P.underlying t = some (.slice (P.elem t)) := by simp [Program.elem, ht]
  have hee : P.elem t = e := by simp [Program.elem, ht]
  refine ⟨if cap = k then a else a.map (·.add (k * z)), ?_, fun W => ?_⟩
  · rcases h with h2 | ⟨b, o, ha, hN, hc⟩
    · exact .inl (by simp [h2])
    · by_cases hkl : m = k
      · subst hkl; exact .inl (by simp)
      · right
        refine ⟨b, o + k * z, ?_, hN, fun i c hi => ?_⟩
        · rw [if_neg (by omega), ha]
          by_cases h0 : k = 0
          · subst h0; simp [Addr.add]
          · have : ¬ k * z = 0 := by have := Nat.mul_pos (show 0 < k by omega) hz0; omega
            simp [Addr.add]
            exact this
        · rw [List.getElem?_take] at hi
          split at hi
          · rw [List.getElem?_drop] at hi
            rw [Nat.add_assoc]; exact hc _ _ hi
          · simp at hi
  · have := run_slice_lh (P := P) W t a len cap ht' .i64 .i64 (k : Int) (m : Int) (by omega) (by omega) (by omega)
    rw [this, hee, hz W]
    simp [Result.andThen, sliced]

theorem own_below {w w' : World} {base N : Nat} {T : TypeId} {z : Nat} {v : Value} {n : Nat} {xs : List Value} (h : w.ownsRow base T z v n xs) (hN : w.heap.size ≤ N) (hb : Below N w w') : w'.ownsRow base T z v n xs := by
  obtain ⟨h1, h2⟩ := h
  refine ⟨h1, ?_⟩
  rcases h2 with h2 | ⟨g, cap, cur, hv, hg, hh, r⟩
  · exact .inl h2
  · refine .inr ⟨g, cap, cur, hv, hg, ?_, r⟩
    rw [hb.block g (by
      by_cases hlt : g < w.heap.size
      · omega
      · rw [Array.getElem?_eq_none (by omega)] at hh; simp at hh)]
    exact hh

theorem own_slice {w : World} {base : Nat} {T : TypeId} {z : Nat} {v : Value} {n : Nat} {xs : List Value} (h : w.ownsRow base T z v n xs) : ∃ a cap, v = .slice a n cap ∧ n ≤ cap ∧ cap ≤ 9223372036854775807 ∧ Arr w.heap.size w a xs := by
  obtain ⟨h1, h2⟩ := h
  rcases h2 with ⟨hv, hn⟩ | ⟨g, cap, cur, hv, hg, hh, hnc, hcm, hcs, hcur⟩
  · subst hn
    refine ⟨none, 0, hv, by omega, by omega, .inl ?_⟩
    exact List.length_eq_zero_iff.1 (by simpa using h1)
  · refine ⟨some ⟨g, 0, none⟩, cap, hv, hnc, by unfold maxLen at hcm; omega, .inr ⟨g, 0, rfl, ?_, ?_⟩⟩
    · by_cases hlt : g < w.heap.size
      · exact hlt
      · rw [Array.getElem?_eq_none (by omega)] at hh; simp at hh
    · intro i c hi
      have e1 : (cur.toList.take (n * z))[i]? = some c := by rw [hcur]; exact hi
      rw [List.getElem?_take] at e1
      split at e1
      · simp only [World.cell?, hh, Nat.zero_add]
        simpa using e1
      · simp at e1

/-- 'append(s, x)': x has just been laid in a block of its own. -/
theorem wpList_appN {P : Program} {ops : Array Oper} {rest : List Oper} {o : Oper} {a : Act} {Q : Exit → Act → World → Prop} (hgd : o.guard = none) (s x : Operand) (t : TypeId)
    (ho : o.op = .call { callee := .builtin .append, args := #[s, x], argTypes := #[t, t] })
    (base : Nat) (e : TypeId) (i : TypeInfo) (zr : Value) (z bytes : Nat) (ht : P.underlying t = some (.slice e)) (hi : P.info? e = some i) (hz : i.zero = some zr) (hzs : zr.cells.size = z)
    (hsize : i.size = z) (hz0 : 0 < z) (hby : i.bytes = bytes) (hb100 : bytes ≤ 100)
    (v : Value) (n : Nat) (l news : List Value) (w : World) (hown : w.ownsRow base e z v n l) (hs : a.eval s = v) (cs : Array Value) (hcs : cs = news.toArray) (hl : news.length = z) (h1 : ∀ u ∈ news, u.oneCell' = true)
    (hx : a.eval x = .slice (some ⟨w.heap.size, 0, none⟩) 1 1) (hlen : n < 1000000000000) (hbase : base ≤ w.heap.size)
    (h : ∀ v' w', w'.ownsRow base e z v' (n + 1) (l ++ news) → Below base w w' → w.heap.size < w'.heap.size → wpList P ops Q rest (a.put o.dst v') w') :
    wpList P ops Q (o :: rest) a (w.alloc (.cells cs e)) := by
  subst hcs
  refine wpList_append_own (w.alloc (.cells news.toArray e)) hgd s x t ho base e i zr z bytes ht hi hz hsize hby hzs hz0 v n _ hs (World.ownsRow.alloc hown _) ⟨w.heap.size, 0, none⟩ 1 1 news hx (by rw [hl]; omega) ?_ h1 ?_ ?_ ?_ ?_
  · intro j u hj
    have e0 : (⟨w.heap.size, 0, none⟩ : Addr).add j = ⟨w.heap.size, j, none⟩ := by
      unfold Addr.add; split <;> simp_all
    rw [e0, World.cell?_alloc_at _ _ _ _ rfl]
    simpa using hj
  · unfold maxLen; omega
  · have : (n + 1) * bytes ≤ 1000000000000 * 100 := Nat.mul_le_mul (by omega) hb100
    omega
  · simp; omega
  · intro v' w' hown' hgrow _
    refine h v' w' hown' ?_ ?_
    · exact ((Below.refl base w).alloc hbase _).grown hgrow (by simp; omega) (fun j hj => (World.ownsRow.lt hown j hj).1)
    · have := hgrow.size; simp at this; omega
end Go.Proofs.Ytapbhhehnbfdfaa

/- Plain mathematics of layer 1: the bytes of an integer, and what bytes are an integer's. -/
set_option linter.unusedSimpArgs false
set_option linter.unusedVariables false
set_option maxRecDepth 100000
namespace Go.Proofs.Ytapbhhehnbfdfaa

/-- The bytes of v: seven bits a byte, the least first; all but the last have the eighth bit. -/
def putL (v : Nat) : List Nat := if v < 128 then [v] else (v % 128 + 128) :: putL (v / 128)
termination_by v

theorem putL_small {v : Nat} (h : v < 128) : putL v = [v] := by rw [putL, if_pos h]
theorem putL_step {v : Nat} (h : ¬ v < 128) : putL v = (v % 128 + 128) :: putL (v / 128) := by rw [putL, if_neg h]

theorem putL_byte : ∀ (v : Nat), ∀ c ∈ putL v, c < 256 := by
  intro v
  induction v using putL.induct with
  | case1 v h => rw [putL_small h]; intro c hc; simp at hc; omega
  | case2 v h ih =>
    rw [putL_step h]; intro c hc
    simp at hc
    rcases hc with hc | hc
    · omega
    · exact ih c hc

theorem putL_pos (v : Nat) : 1 ≤ (putL v).length := by
  rw [putL]; split <;> simp

/-- Of a number below 128^n at most n bytes. -/
theorem putL_len : ∀ (n v : Nat), v < 128 ^ (n + 1) → (putL v).length ≤ n + 1
  | 0, v, h => by rw [putL_small (by simpa using h)]; simp
  | n + 1, v, h => by
    by_cases hv : v < 128
    · rw [putL_small hv]; simp
    · rw [putL_step hv]
      have : v / 128 < 128 ^ (n + 1) := by
        rw [Nat.div_lt_iff_lt_mul (by omega)]
        rw [Nat.pow_succ] at h; exact h
      have := putL_len n (v / 128) this
      simp; omega

theorem putL_len10 {v : Nat} (h : v < 18446744073709551616) : (putL v).length ≤ 10 :=
  putL_len 9 v (Nat.lt_trans h (by decide))

theorem putL_mono : ∀ (a b : Nat), a ≤ b → (putL a).length ≤ (putL b).length := by
  intro a
  induction a using putL.induct with
  | case1 a h => intro b _; rw [putL_small h]; exact putL_pos b
  | case2 a h ih =>
    intro b hab
    rw [putL_step h, putL_step (by omega : ¬ b < 128)]
    have := ih (b / 128) (Nat.div_le_div_right hab)
    simp; omega

/-- What stands at a list of bytes: the integer, how many bytes it has, and the error (0: none; 3: ErrForm; 10: ErrShort). i: how many bytes have gone by; v: what they make. -/
def getS : List Nat → Nat → Nat → Nat × Nat × Nat
  | [], _, _ => (0, 0, 10)
  | c :: r, i, v =>
    if i = 9 ∧ 1 < c then (0, 0, 3)
    else if 0 < i ∧ c = 0 then (0, 0, 3)
    else if c < 128 then (v + c * 128 ^ i, i + 1, 0)
    else getS r (i + 1) (v + (c - 128) * 128 ^ i)

/-- The answer of Get at index 'at'. -/
def getR (l : List Nat) (at_ : Int) : Nat × Int × Nat :=
  if at_ < 0 ∨ (l.length : Int) < at_ then (0, 0, 1)
  else
    let r := getS (l.drop at_.toNat) 0 0
    if r.2.2 = 0 then (r.1, at_ + r.2.1, 0) else (0, 0, r.2.2)

theorem pow7 (i : Nat) : 2 ^ (7 * i) = 128 ^ i := by rw [Nat.pow_mul]

/-- 'c & 127' of a byte. -/
theorem and127 (c : Nat) (h : c < 256) : bits .and .u8 (c : Int) 127 = ((c % 128 : Nat) : Int) := by
  have := u8_and_nat c 127 h (by omega)
  rw [nat_mask7] at this; exact this

/-- 'byte(v) | 128'. -/
theorem or128 (v : Nat) : bits .or .u8 ((v : Int) % 256) 128 = (((v % 128 + 128 : Nat)) : Int) := by
  have h := u8_or_nat (v % 256) 128 (Nat.mod_lt _ (by omega)) (by omega)
  have e : v % 256 ||| 128 = v % 128 + 128 := by
    by_cases hb : v % 256 < 128
    · rw [Nat.or_comm, nat_join 7 128 (v % 256) (by decide) (by omega)]; omega
    · have e1 : v % 256 = 128 + v % 128 := by omega
      have e2 : 128 + v % 128 = 128 ||| (v % 128) := (nat_join 7 128 (v % 128) (by decide) (by omega)).symm
      rw [e1, e2]
      rw [Nat.or_comm, ← Nat.or_assoc, Nat.or_self, ← e2]; omega
  rw [e] at h
  rw [← h]; congr 1

/-- 'v | x << (7 * i)' where v lies below the shift. -/
theorem orShift (v x i : Nat) (hv : v < 128 ^ i) (hs : v + x * 128 ^ i < 18446744073709551616) : bits .or .u64 (v : Int) ((x * 128 ^ i : Nat) : Int) = ((v + x * 128 ^ i : Nat) : Int) := by
  have h := u64_or_nat v (x * 128 ^ i) (by omega) (by omega)
  rw [h, Nat.or_comm, nat_join (7 * i) (x * 128 ^ i) v (by rw [pow7]; exact Nat.mul_mod_left x (128 ^ i)) (by rw [pow7]; exact hv)]
  congr 1; omega

/-- 'x << (7 * i)' of a uint64, by a number of its own; and 'v | x << (7 * i)'. -/
theorem shiftOr (c k V : Nat) (hk : k ≤ 9) (hV : V < 128 ^ k) : ∃ X Y : Nat, IntKind.u64.wrap ((c : Int) % 128 * 2 ^ (7 * k)) = (X : Int) ∧
    bits .or .u64 (V : Int) (X : Int) = (Y : Int) ∧ Y < 18446744073709551616 ∧ (c % 128 * 128 ^ k + V < 18446744073709551616 → Y = V + c % 128 * 128 ^ k) := by
  have hp : 128 ^ k ≤ 128 ^ 9 := Nat.pow_le_pow_right (by omega) hk
  have hVs : V < 18446744073709551616 := by
    have : (128 : Nat) ^ 9 = 9223372036854775808 := by decide
    omega
  have hXlt : c % 128 * 128 ^ k % 18446744073709551616 < 18446744073709551616 := Nat.mod_lt _ (by omega)
  have hor : bits .or .u64 (V : Int) ((c % 128 * 128 ^ k % 18446744073709551616 : Nat) : Int) = _ := u64_or_nat V _ hVs hXlt
  refine ⟨c % 128 * 128 ^ k % 18446744073709551616, _, ?_, hor, ?_, ?_⟩
  · rw [IntKind.wrap_u64, show ((2 : Int) ^ (7 * k)) = ((2 ^ (7 * k) : Nat) : Int) from by simp, pow7]
    have e2 : ((c : Int) % 128) * ((128 ^ k : Nat) : Int) = ((c % 128 * 128 ^ k : Nat) : Int) := by rw [Int.natCast_mul]; rfl
    rw [e2]; omega
  · exact Nat.or_lt_two_pow (n := 64) hVs hXlt
  · intro hs
    have e : c % 128 * 128 ^ k % 18446744073709551616 = c % 128 * 128 ^ k := Nat.mod_eq_of_lt (by omega)
    rw [e, Nat.or_comm, nat_join (7 * k) (c % 128 * 128 ^ k) V (by rw [pow7]; exact Nat.mul_mod_left _ (128 ^ k)) (by rw [pow7]; exact hV)]
    omega

theorem grow7 (c k V : Nat) (hV : V < 128 ^ k) : c % 128 * 128 ^ k + V < 128 ^ (k + 1) := by
  have h : c % 128 ≤ 127 := by omega
  have := Nat.mul_le_mul_right (128 ^ k) h
  rw [Nat.pow_succ]; omega

theorem fits7 (c k V : Nat) (hV : V < 128 ^ k) (hk : k < 9 ∨ (k = 9 ∧ c ≤ 1)) : c % 128 * 128 ^ k + V < 18446744073709551616 := by
  rcases hk with hk | ⟨rfl, hc⟩
  · have h1 := grow7 c k V hV
    have h2 : 128 ^ (k + 1) ≤ 128 ^ 9 := Nat.pow_le_pow_right (by omega) (by omega)
    have : (128 : Nat) ^ 9 = 9223372036854775808 := by decide
    omega
  · have h : c % 128 ≤ 1 := by omega
    have := Nat.mul_le_mul_right (128 ^ 9) h
    have : (128 : Nat) ^ 9 = 9223372036854775808 := by decide
    omega

/-! The same number, read from the last byte to the first. -/
def horner : List Nat → Nat
  | [] => 0
  | c :: r => c % 128 + 128 * horner r

theorem horner_snoc : ∀ (l : List Nat) (c : Nat), horner (l ++ [c]) = horner l + c % 128 * 128 ^ l.length
  | [], c => by simp [horner]
  | d :: r, c => by
    have := horner_snoc r c
    simp only [List.cons_append, horner, this, List.length_cons, Nat.pow_succ]
    have e : 128 * (c % 128 * 128 ^ r.length) = c % 128 * (128 ^ r.length * 128) := by
      rw [← Nat.mul_assoc, Nat.mul_comm 128 (c % 128), Nat.mul_assoc, Nat.mul_comm 128]
    omega

theorem horner_lt : ∀ (l : List Nat), horner l < 128 ^ l.length
  | [] => by simp [horner]
  | d :: r => by
    have := horner_lt r
    simp only [horner, List.length_cons, Nat.pow_succ]; omega

theorem horner_drop : ∀ (l : List Nat) (j : Nat), horner (l.drop j) ≤ horner l
  | [], j => by simp
  | d :: r, 0 => by simp
  | d :: r, j + 1 => by
    have := horner_drop r j
    simp only [List.drop_succ_cons, horner]; omega

theorem horner_step (l : List Nat) (j : Nat) (h : j < l.length) : horner (l.drop j) = l[j] % 128 + 128 * horner (l.drop (j + 1)) := by
  rw [List.drop_eq_getElem_cons h]; rfl

theorem take_succ_n (l : List Nat) (k : Nat) (h : k < l.length) : l.take (k + 1) = l.take k ++ [l[k]] := by
  rw [List.take_add_one, List.getElem?_eq_getElem h]; rfl

/-- The first k bytes have the eighth bit: Get goes past them. -/
theorem getS_skip (D : List Nat) : ∀ (k : Nat), k ≤ 9 → (hk : k ≤ D.length) → (∀ i (h : i < k), 127 < D[i]'(by omega)) → (∀ c ∈ D, c < 256) → getS D 0 0 = getS (D.drop k) k (horner (D.take k))
  | 0, _, _, _, _ => by simp [horner]
  | k + 1, h9, hk, hb, h256 => by
    have ih := getS_skip D k (by omega) (by omega) (fun i h => hb i (by omega)) h256
    have hkl : k < D.length := by omega
    have hd := hb k (by omega)
    have h2 := h256 D[k] (List.getElem_mem hkl)
    rw [ih, List.drop_eq_getElem_cons hkl, getS, if_neg (by omega), if_neg (by omega), if_neg (by omega), take_succ_n D k hkl, horner_snoc]
    rw [show D[k] - 128 = D[k] % 128 by omega, List.length_take_of_le (by omega)]

theorem getS_big (D : List Nat) (hk : 9 < D.length) (hb : ∀ i (h : i < 9), 127 < D[i]'(by omega)) (h256 : ∀ c ∈ D, c < 256) (h1 : 1 < D[9]) : getS D 0 0 = (0, 0, 3) := by
  rw [getS_skip D 9 (by omega) (by omega) hb h256, List.drop_eq_getElem_cons hk, getS, if_pos ⟨rfl, h1⟩]

theorem getS_short (D : List Nat) (h9 : D.length ≤ 9) (hb : ∀ i (h : i < D.length), 127 < D[i]) (h256 : ∀ c ∈ D, c < 256) : getS D 0 0 = (0, 0, 10) := by
  rw [getS_skip D D.length h9 (by omega) hb h256, List.drop_of_length_le (by omega)]; rfl

theorem getS_zero (D : List Nat) (k : Nat) (h9 : k ≤ 9) (hk : k < D.length) (h0 : 0 < k) (hb : ∀ i (h : i < k), 127 < D[i]'(by omega)) (h256 : ∀ c ∈ D, c < 256) (h1 : D[k] = 0) : getS D 0 0 = (0, 0, 3) := by
  rw [getS_skip D k h9 (by omega) hb h256, List.drop_eq_getElem_cons hk, getS, if_neg (by omega), if_pos ⟨h0, h1⟩]

theorem getS_good (D : List Nat) (k : Nat) (h9 : k ≤ 9) (hk : k < D.length) (hb : ∀ i (h : i < k), 127 < D[i]'(by omega)) (h256 : ∀ c ∈ D, c < 256) (h1 : D[k] ≤ 127) (h2 : 0 < k → D[k] ≠ 0) (h3 : k = 9 → D[k] ≤ 1) :
    getS D 0 0 = (horner (D.take (k + 1)), k + 1, 0) := by
  rw [getS_skip D k h9 (by omega) hb h256, List.drop_eq_getElem_cons hk, getS, if_neg (fun h => by have := h3 h.1; omega), if_neg (fun h => h2 h.1 h.2), if_pos (by omega), take_succ_n D k hk, horner_snoc,
    List.length_take_of_le (by omega), show D[k] % 128 = D[k] by omega]

theorem horner_fits (D : List Nat) (k : Nat) (h9 : k ≤ 9) (hk : k < D.length) (h3 : k = 9 → D[k] ≤ 1) : horner (D.take (k + 1)) < 18446744073709551616 := by
  rw [take_succ_n D k hk, horner_snoc, List.length_take_of_le (by omega)]
  have h := horner_lt (D.take k)
  rw [List.length_take_of_le (by omega)] at h
  have := fits7 D[k] k _ h (by
    by_cases e : k = 9
    · exact .inr ⟨e, h3 e⟩
    · exact .inl (by omega))
  omega

/-! Zigzags. -/
def zigN (n : Int) : Nat := if n < 0 then (-2 * n - 1).toNat else (2 * n).toNat
def zagZ (v : Nat) : Int := if v % 2 = 0 then ((v / 2 : Nat) : Int) else -((v / 2 : Nat) : Int) - 1

theorem zag_zig (n : Int) : zagZ (zigN n) = n := by
  unfold zagZ zigN
  by_cases h : n < 0
  · rw [if_pos h, if_neg (by omega)]; omega
  · rw [if_neg h, if_pos (by omega)]; omega

theorem zig_zag (v : Nat) : zigN (zagZ v) = v := by
  unfold zagZ zigN
  by_cases h : v % 2 = 0
  · rw [if_pos h, if_neg (by omega)]; omega
  · rw [if_neg h, if_pos (by omega)]; omega

theorem zigN_lt (n : Int) (h1 : -9223372036854775808 ≤ n) (h2 : n ≤ 9223372036854775807) : zigN n < 18446744073709551616 := by
  unfold zigN; split <;> omega

theorem zagZ_bd (v : Nat) (h : v < 18446744073709551616) : -9223372036854775808 ≤ zagZ v ∧ zagZ v ≤ 9223372036854775807 := by
  unfold zagZ; split <;> omega

/-- '^n' of an int64. -/
theorem xor_neg1 (n : Int) (h1 : -9223372036854775808 ≤ n) (h2 : n ≤ 9223372036854775807) : bits .xor .i64 (-1) n = -n - 1 := by
  have hb : (BitVec.ofInt 64 n).toNat = (n % 18446744073709551616).toNat := by rw [BitVec.toNat_ofInt]; rfl
  show IntKind.i64.wrap ((BitVec.ofInt 64 (-1) ^^^ BitVec.ofInt 64 n).toNat : Int) = -n - 1
  rw [show BitVec.ofInt 64 (-1) = BitVec.allOnes 64 from by decide, BitVec.allOnes_xor, BitVec.toNat_not, hb, IntKind.wrap_i64]
  omega

theorem or_one (v : Nat) (h : 2 * v + 1 < 18446744073709551616) : bits .or .u64 (((2 * v : Nat)) : Int) 1 = ((2 * v + 1 : Nat) : Int) := by
  have := u64_or_nat (2 * v) 1 (by omega) (by omega)
  rw [nat_join 1 (2 * v) 1 (by omega) (by omega)] at this
  exact this

end Go.Proofs.Ytapbhhehnbfdfaa

/- The walks of layer 1's functions: what each call of varint and of hindsightref01 returns. -/
set_option linter.unusedSimpArgs false
set_option linter.unusedVariables false
set_option maxRecDepth 100000
namespace Go.Proofs.Ytapbhhehnbfdfaa
open Go.RowKit

theorem Try.info5 : (Try.prog.info? 5).map (fun i => (i.zero, i.size, i.bytes)) = some (some (.int .u8 0), 1, 1) := by kernel_rfl

end Go.Proofs.Ytapbhhehnbfdfaa

/- The walks of Get: varint's and hindsightref01's. -/
set_option linter.unusedSimpArgs false
set_option linter.unusedVariables false
set_option maxRecDepth 100000
namespace Go.Proofs.Ytapbhhehnbfdfaa
open Go.RowKit

theorem Try.sizeOf5 : ∀ w, (Go.sizeOf 5).run Try.prog w = .ok 1 w := by
  obtain ⟨i0, hi, hz0, hz1, hz2⟩ := info_parts Try.info5
  intro w
  have h := run_sizeOf (P := Try.prog) w hi
  have e : Try.prog.cellsOf 5 = 1 := by kernel_rfl
  rw [e] at h; exact h

end Go.Proofs.Ytapbhhehnbfdfaa
