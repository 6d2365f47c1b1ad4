/- Several texts of one proof, one behind the other. -/
import Derived.Test.YtlcphgomhhejbaaRows
import Derived.WalkKit
import Derived.WalkSpells
import Derived.WalkLawsBesides
import Derived.Laws.BitsAllLaws
import Derived.Laws.BytesArg
import Derived.OpenShut
import Derived.Deep.Slices
import Derived.Deep.Fields
import Derived.Deep.RegionHeld3
import Derived.Deep.MidRow
import Derived.Lib.Hide
set_option linter.unusedSimpArgs false
set_option linter.unusedVariables false

/- General lemmas that hold over every program: byte slices that are read, and one-byte appends to a row of the call's own. -/
namespace Go.Proofs.Ytlcphgomhhejbaa
open Go.RowKit

/-- The bytes l as a string of Go's. -/
def strN (l : List Nat) : ByteArray := ⟨(l.map UInt8.ofNat).toArray⟩

theorem strN_size (l : List Nat) : (strN l).size = l.length := by
  simp [strN, ByteArray.size]

/-- The address leads to the bytes l, in blocks below number N. -/
def Bs (N : Nat) (w : World) (a : Option Addr) (l : List Nat) : Prop :=
  (∀ c ∈ l, c < 256) ∧ (l = [] ∨ ∃ b o, a = some ⟨b, o, none⟩ ∧ b < N ∧ ∀ (i c : Nat), l[i]? = some c → w.cell? ⟨b, o + i, none⟩ = some (.int .u8 (c : Int)))

theorem Bs.below {N : Nat} {w w' : World} {a : Option Addr} {l : List Nat} (h : Bs N w a l) (hb : Below N w w') : Bs N w' a l := by
  obtain ⟨h1, h2⟩ := h
  refine ⟨h1, ?_⟩
  rcases h2 with h2 | ⟨b, o, ha, hN, hc⟩
  · exact .inl h2
  · exact .inr ⟨b, o, ha, hN, fun i c hi => (hb.cell (p := ⟨b, o + i, none⟩) hN).trans (hc i c hi)⟩

theorem Bs.mono {N M : Nat} {w : World} {a : Option Addr} {l : List Nat} (h : Bs N w a l) (hM : N ≤ M) : Bs M w a l := by
  obtain ⟨h1, h2⟩ := h
  refine ⟨h1, ?_⟩
  rcases h2 with h2 | ⟨b, o, ha, hN, hc⟩
  · exact .inl h2
  · exact .inr ⟨b, o, ha, by omega, hc⟩

theorem Bs.lt {N : Nat} {w : World} {a : Option Addr} {l : List Nat} (h : Bs N w a l) {i c : Nat} (hi : l[i]? = some c) : c < 256 :=
  h.1 c (List.mem_of_getElem? hi)

theorem bytes_fun (l : List Nat) (hl : ∀ c ∈ l, c < 256) : strOfNums (l.map fun (c : Nat) => (c : Int)) = strN l := by
  apply ByteArray.ext
  apply Array.toList_inj.1
  rw [strOfNums_data]
  simp [strN]

theorem Bs.conv {P : Program} {N : Nat} {w : World} {a : Option Addr} {l : List Nat} (h : Bs N w a l) (src e : TypeId) (hs : P.underlying src = some (.slice e)) (he : P.underlying e = some (.int .u8))
    (dst : TypeId) (hd : P.underlying dst = some .string) (n cap : Nat) (hn : n = l.length) :
    (convert src dst (.slice a n cap)).run P w = .ok (.string (strN l)) w := by
  subst hn
  obtain ⟨h1, h2⟩ := h
  rcases h2 with h2 | ⟨b, o, ha, hN, hc⟩
  · subst h2
    cases a with
    | none => exact run_convert_bytes_nil w src e hs he _ _ dst hd
    | some x =>
      rw [run_convert_bytes_string w src dst e _ _ cap hs he hd]
      have hl : (loadCells x 0).run P w = .ok (([] : List Int).map (Value.int .u8)).toArray w := run_loadCells_list (P := P) w x [] (fun j v hj => by simp at hj)
      exact run_bytesToString w x 0 cap [] hl
  · subst ha
    have := run_convert_bytes_arg (P := P) w src e hs he b o l.length cap (l.map fun (c : Nat) => (c : Int)) (by simp) (fun i hi => by
      rw [hc i l[i] (by simp [hi])]
      simp [hi]) dst hd
    rw [this, bytes_fun l h1]

/-- 'b[k:]' of such a slice, as one value. -/
theorem Bs.from {P : Program} {N : Nat} {w : World} {a : Option Addr} {l : List Nat} (h : Bs N w a l) (t e : TypeId) (ht : P.underlying t = some (.slice e)) (hz : ∀ w, (Go.sizeOf e).run P w = .ok 1 w)
    (len cap k : Nat) (hlen : len = l.length) (hk : k ≤ len) (hcap : len ≤ cap) :
    ∃ a', Bs N w a' (l.drop k) ∧ ∀ W, (Instr.slice t (.slice a len cap) (some (.int .i64 (k : Int))) none none).run P W = .ok (.slice a' (len - k) (cap - k)) W := by
  subst hlen
  have ht' : P.underlying t = some (.slice (P.elem t)) := by simp [Program.elem, ht]
  have hee : P.elem t = e := by simp [Program.elem, ht]
  refine ⟨if cap = k then a else a.map (·.add (k * 1)), ?_, fun W => ?_⟩
  · obtain ⟨h1, h2⟩ := h
    refine ⟨fun c hc => h1 c (List.mem_of_mem_drop hc), ?_⟩
    rcases h2 with h2 | ⟨b, o, ha, hN, hc⟩
    · exact .inl (by simp [h2])
    · by_cases hkl : k = l.length
      · exact .inl (by simp [hkl])
      · right
        refine ⟨b, o + k, ?_, hN, fun i c hi => ?_⟩
        · rw [if_neg (by omega), ha]; simp [Addr.add]
        · rw [List.getElem?_drop] at hi
          rw [Nat.add_assoc]; exact hc _ _ hi
  · have := run_slice_l (P := P) W t a l.length cap ht' .i64 (k : Int) (by omega) (by omega)
    rw [this, hee, hz W]
    simp [Result.andThen, sliced]

/-- 'b[k:h]' of such a slice. -/
theorem Bs.window {P : Program} {N : Nat} {w : World} {a : Option Addr} {l : List Nat} (h : Bs N w a l) (t e : TypeId) (ht : P.underlying t = some (.slice e)) (hz : ∀ w, (Go.sizeOf e).run P w = .ok 1 w)
    (len cap k m : Nat) (hlen : len = l.length) (hk : k ≤ m) (hm : m ≤ len) (hcap : len ≤ cap) :
    ∃ a', Bs N w a' ((l.drop k).take (m - k)) ∧ ∀ W, (Instr.slice t (.slice a len cap) (some (.int .i64 (k : Int))) (some (.int .i64 (m : Int))) none).run P W = .ok (.slice a' (m - k) (cap - k)) W := by
  subst hlen
  have ht' : P.underlying t = some (.slice (P.elem t)) := by simp [Program.elem, ht]
  have hee : P.elem t = e := by simp [Program.elem, ht]
  refine ⟨if cap = k then a else a.map (·.add (k * 1)), ?_, fun W => ?_⟩
  · obtain ⟨h1, h2⟩ := h
    refine ⟨fun c hc => h1 c (List.mem_of_mem_drop (List.mem_of_mem_take hc)), ?_⟩
    rcases h2 with h2 | ⟨b, o, ha, hN, hc⟩
    · exact .inl (by simp [h2])
    · by_cases hkl : k = l.length
      · exact .inl (by simp [hkl])
      · right
        refine ⟨b, o + k, ?_, hN, fun i c hi => ?_⟩
        · rw [if_neg (by omega), ha]; simp [Addr.add]
        · rw [List.getElem?_take] at hi
          split at hi
          · rw [List.getElem?_drop] at hi
            rw [Nat.add_assoc]; exact hc _ _ hi
          · simp at hi
  · have := run_slice_lh (P := P) W t a l.length cap ht' .i64 .i64 (k : Int) (m : Int) (by omega) (by omega) (by omega)
    rw [this, hee, hz W]
    simp [Result.andThen, sliced]

/-- What the walk is told of a slice of integers that came in: it is nil; or it leads to a row of 'cap' cells, the numbers zs, each fitting its kind. -/
def IsRow (k : IntKind) (w : World) (a : Option Addr) (len cap : Nat) (zs : List Int) : Prop :=
  (a = none ∧ len = 0 ∧ cap = 0 ∧ zs = []) ∨
  ∃ x, a = some x ∧ len ≤ cap ∧ cap ≤ maxLen ∧ zs.length = cap ∧ (∀ i, i < zs.length → w.cell? (x.add i) = some (.int k (zs.getD i 0))) ∧ ∀ n ∈ zs, (Lit.int k n).wf = true

theorem nat_u64 {n : Int} (h : (Lit.int .u64 n).wf = true) : ∃ m : Nat, n = (m : Int) ∧ m < 18446744073709551616 := by
  have := bounds_u64 h
  exact ⟨n.toNat, by omega, by omega⟩
theorem nat_u8 {n : Int} (h : (Lit.int .u8 n).wf = true) : ∃ m : Nat, n = (m : Int) ∧ m < 256 := by
  have := bounds_u8 h
  exact ⟨n.toNat, by omega, by omega⟩
theorem bd_i64 {n : Int} (h : (Lit.int .i64 n).wf = true) : -9223372036854775808 ≤ n ∧ n ≤ 9223372036854775807 := bounds_i64 h

/-- A slice of integers that came in: its elements, in the blocks of the world. -/
theorem IsRow.read {k : IntKind} {w : World} {a : Option Addr} {len cap : Nat} {zs : List Int} (h : IsRow k w a len cap zs) :
    len ≤ cap ∧ cap ≤ maxLen ∧ ∃ l : List Int, l.length = len ∧ (∀ n ∈ l, (Lit.int k n).wf = true) ∧ (l = [] ∨ ∃ b o, a = some ⟨b, o, none⟩ ∧ b < w.heap.size ∧ ∀ (i : Nat) n, l[i]? = some n → w.cell? ⟨b, o + i, none⟩ = some (.int k n)) := by
  rcases h with ⟨rfl, rfl, rfl, rfl⟩ | ⟨x, rfl, hl, hm, hz, hcell, hwz⟩
  · exact ⟨by omega, by unfold maxLen; omega, [], rfl, by simp, .inl rfl⟩
  · refine ⟨hl, hm, zs.take len, by rw [List.length_take]; omega, fun n hn => hwz n (List.mem_of_mem_take hn), ?_⟩
    by_cases h0 : len = 0
    · exact .inl (by simp [h0])
    · right
      obtain ⟨b, o, spot⟩ := x
      have hc := hcell 0 (by omega)
      have hspot : spot = none := by simpa [Addr.add] using World.cell?_spot hc
      subst hspot
      refine ⟨b, o, rfl, ?_, fun i n hi => ?_⟩
      · have := World.block_lt_of_cell? _ _ hc
        simpa [Addr.add] using this
      · rw [List.getElem?_take] at hi
        split at hi
        · rename_i hlt
          have h1 := hcell i (by omega)
          have e1 : (⟨b, o, none⟩ : Addr).add i = ⟨b, o + i, none⟩ := by unfold Addr.add; split <;> simp_all
          rw [e1] at h1
          rw [h1]
          simp [List.getD, hi]
        · simp at hi

theorem IsRow.bs {w : World} {a : Option Addr} {len cap : Nat} {zs : List Int} (h : IsRow .u8 w a len cap zs) :
    ∃ l : List Nat, len = l.length ∧ Bs w.heap.size w a l ∧ len ≤ cap ∧ cap ≤ 9223372036854775807 := by
  obtain ⟨h1, h2, l, hl, hw, hc⟩ := h.read
  unfold maxLen at h2
  refine ⟨l.map Int.toNat, by simp [hl], ⟨?_, ?_⟩, h1, by omega⟩
  · intro c hc
    obtain ⟨n, hn, rfl⟩ := List.mem_map.1 hc
    have := bounds_u8 (hw n hn)
    omega
  · rcases hc with rfl | ⟨b, o, ha, hb, hc⟩
    · exact .inl rfl
    · refine .inr ⟨b, o, ha, hb, fun i c hi => ?_⟩
      rw [List.getElem?_map] at hi
      cases hli : l[i]? with
      | none => rw [hli] at hi; simp at hi
      | some n =>
        rw [hli] at hi
        simp at hi
        have := bounds_u8 (hw n (List.mem_of_getElem? hli))
        rw [hc i n hli]
        congr 2; omega

/-- A row of bytes of the call's own. -/
def OwnB (w : World) (base : Nat) (T : TypeId) (v : Value) (l : List Nat) : Prop := (∀ c ∈ l, c < 256) ∧ w.ownsRow base T 1 v l.length (l.map fun (c : Nat) => Value.int .u8 (c : Int))

theorem OwnB.nil (w : World) (base : Nat) (T : TypeId) : OwnB w base T (.slice none 0 0) [] := ⟨by simp, World.ownsRow_nil _ _ _ _⟩

theorem OwnB.slice {w : World} {base : Nat} {T : TypeId} {v : Value} {l : List Nat} (h : OwnB w base T v l) : ∃ a cap, v = .slice a l.length cap ∧ l.length ≤ cap ∧ Bs w.heap.size w a l ∧ (l ≠ [] → ∃ g, a = some ⟨g, 0, none⟩ ∧ base ≤ g) := by
  obtain ⟨h0, h1, h2⟩ := h
  rcases h2 with ⟨hv, hn⟩ | ⟨g, cap, cur, hv, hg, hh, hnc, hcm, hcs, hcur⟩
  · have : l = [] := List.length_eq_zero_iff.1 hn
    subst this
    exact ⟨none, 0, by simpa using hv, by simp, ⟨by simp, .inl rfl⟩, by simp⟩
  · refine ⟨some ⟨g, 0, none⟩, cap, hv, hnc, ⟨h0, .inr ⟨g, 0, rfl, ?_, ?_⟩⟩, fun _ => ⟨g, rfl, hg⟩⟩
    · by_cases hlt : g < w.heap.size
      · exact hlt
      · rw [Array.getElem?_eq_none (by omega)] at hh; simp at hh
    · intro i c hi
      have hil : i < l.length := by
        by_cases hlt : i < l.length
        · exact hlt
        · rw [List.getElem?_eq_none (by omega)] at hi; simp at hi
      have e1 : (cur.toList.take (l.length * 1))[i]? = some (Value.int .u8 (c : Int)) := by rw [hcur]; simp [hi]
      rw [List.getElem?_take_of_lt (by omega)] at e1
      simp only [World.cell?, hh, Nat.zero_add]
      simpa using e1

theorem OwnB.below {w w' : World} {base N : Nat} {T : TypeId} {v : Value} {l : List Nat} (h : OwnB w base T v l) (hN : w.heap.size ≤ N) (hb : Below N w w') : OwnB w' base T v l := by
  obtain ⟨h0, h1, h2⟩ := h
  refine ⟨h0, h1, ?_⟩
  rcases h2 with h2 | ⟨g, cap, cur, hv, hg, hh, r⟩
  · exact .inl h2
  · refine .inr ⟨g, cap, cur, hv, hg, ?_, r⟩
    rw [hb.block g (by
      by_cases hlt : g < w.heap.size
      · omega
      · rw [Array.getElem?_eq_none (by omega)] at hh; simp at hh)]
    exact hh

/-- 'append(s, x)': x has just been laid in a block of its own. -/
theorem wpList_app1 {P : Program} {ops : Array Oper} {rest : List Oper} {o : Oper} {a : Act} {Q : Exit → Act → World → Prop} (hgd : o.guard = none) (s x : Operand) (t : TypeId)
    (ho : o.op = .call { callee := .builtin .append, args := #[s, x], argTypes := #[t, t] })
    (base : Nat) (e : TypeId) (i : TypeInfo) (ht : P.underlying t = some (.slice e)) (hi : P.info? e = some i) (hz : i.zero = some (.int .u8 0))
    (hsize : i.size = 1) (hby : i.bytes = 1)
    (v : Value) (l : List Nat) (w : World) (hown : OwnB w base e v l) (hs : a.eval s = v) (c : Nat) (hc : c < 256) (n : Int) (hn : n = (c : Int))
    (hx : a.eval x = .slice (some ⟨w.heap.size, 0, none⟩) 1 1) (hlen : l.length < 100000000000000) (hbase : base ≤ w.heap.size)
    (h : ∀ v' w', OwnB w' base e v' (l ++ [c]) → Below base w w' → w.heap.size < w'.heap.size → wpList P ops Q rest (a.put o.dst v') w') :
    wpList P ops Q (o :: rest) a (w.alloc (.cells #[.int .u8 n] e)) := by
  subst hn
  refine wpList_append_own (w.alloc (.cells #[.int .u8 (c : Int)] e)) hgd s x t ho base e i (.int .u8 0) 1 1 ht hi hz hsize hby rfl (by decide) v l.length _ hs (hown.2.alloc _) ⟨w.heap.size, 0, none⟩ 1 1 [.int .u8 (c : Int)] hx rfl ?_ ?_ ?_ ?_ ?_ ?_
  · intro j u hj
    match j, hj with
    | 0, hj => simp at hj; subst hj; simp [Addr.add]
  · intro u hu; simp at hu; subst hu; rfl
  · unfold maxLen; omega
  · omega
  · simp; omega
  · intro v' w' hown' hgrow _
    refine h v' w' ⟨?_, by simpa using hown'⟩ ?_ ?_
    · intro d hd
      simp at hd
      rcases hd with hd | hd
      · exact hown.1 d hd
      · omega
    · exact ((Below.refl base w).alloc hbase _).grown hgrow (by simp; omega) (fun j hj => (hown.2.lt j hj).1)
    · have := hgrow.size; simp at this; omega

end Go.Proofs.Ytlcphgomhhejbaa

/- Rows of values of any kind, of one or more cells each: read, cut, and the call's own. -/
namespace Go.Proofs.Ytlcphgomhhejbaa
open Go.RowKit

/-- The address leads to the cells vs, in blocks below number N. -/
def Arr (N : Nat) (w : World) (a : Option Addr) (vs : List Value) : Prop :=
  vs = [] ∨ ∃ b o, a = some ⟨b, o, none⟩ ∧ b < N ∧ ∀ (i : Nat) (v : Value), vs[i]? = some v → w.cell? ⟨b, o + i, none⟩ = some v

theorem Arr.nil (N : Nat) (w : World) (a : Option Addr) : Arr N w a [] := .inl rfl

theorem Arr.below {N : Nat} {w w' : World} {a : Option Addr} {l : List Value} (h : Arr N w a l) (hb : Below N w w') : Arr N w' a l := by
  rcases h with h2 | ⟨b, o, ha, hN, hc⟩
  · exact .inl h2
  · exact .inr ⟨b, o, ha, hN, fun i c hi => (hb.cell (p := ⟨b, o + i, none⟩) hN).trans (hc i c hi)⟩

theorem Arr.mono {N M : Nat} {w : World} {a : Option Addr} {l : List Value} (h : Arr N w a l) (hM : N ≤ M) : Arr M w a l := by
  rcases h with h2 | ⟨b, o, ha, hN, hc⟩
  · exact .inl h2
  · exact .inr ⟨b, o, ha, by omega, hc⟩

theorem Arr.later {N : Nat} {w w' : World} {a : Option Addr} {l : List Value} (h : Arr w.heap.size w a l) (hb : Below w.heap.size w w') : Arr w'.heap.size w' a l := (h.below hb).mono hb.size

/-- The cells from i on. -/
theorem Arr.at_ {N : Nat} {w : World} {a : Option Addr} {l : List Value} (h : Arr N w a l) (hne : l ≠ []) : ∃ b o, a = some ⟨b, o, none⟩ ∧ b < N ∧ ∀ (i : Nat) (v : Value), l[i]? = some v → w.cell? ⟨b, o + i, none⟩ = some v := by
  rcases h with h2 | h
  · exact absurd h2 hne
  · exact h

/-- Rows of z cells each. -/
def cellsOf {α : Type} (f : α → List Value) (l : List α) : List Value := l.flatMap f

theorem cellsOf_len {α : Type} (f : α → List Value) (z : Nat) (hf : ∀ x, (f x).length = z) (l : List α) : (cellsOf f l).length = l.length * z := by
  induction l with
  | nil => simp [cellsOf]
  | cons x r ih =>
    have e : cellsOf f (x :: r) = f x ++ cellsOf f r := rfl
    rw [e, List.length_append, hf, ih, List.length_cons, Nat.add_mul]; omega

theorem cellsOf_get {α : Type} (f : α → List Value) (z : Nat) (hf : ∀ x, (f x).length = z) : ∀ (l : List α) (i j : Nat) (x : α) (v : Value), l[i]? = some x → (f x)[j]? = some v → (cellsOf f l)[i * z + j]? = some v
  | [], i, _, x, _, h, _ => by simp at h
  | y :: r, 0, j, x, v, h, hv => by
    simp at h; subst h
    have e : cellsOf f (y :: r) = f y ++ cellsOf f r := rfl
    have hj := (List.getElem?_eq_some_iff.1 hv).1
    rw [e, Nat.zero_mul, Nat.zero_add, List.getElem?_append_left hj]; exact hv
  | y :: r, i + 1, j, x, v, h, hv => by
    have := cellsOf_get f z hf r i j x v (by simpa using h) hv
    have e : cellsOf f (y :: r) = f y ++ cellsOf f r := rfl
    rw [e, List.getElem?_append_right (by rw [hf, Nat.add_mul]; omega), hf]
    rw [← this]; congr 1; rw [Nat.add_mul]; omega

theorem cellsOf_take {α : Type} (f : α → List Value) (z : Nat) (hf : ∀ x, (f x).length = z) : ∀ (l : List α) (i : Nat), cellsOf f (l.take i) = (cellsOf f l).take (i * z)
  | [], i => by simp [cellsOf]
  | y :: r, 0 => by simp [cellsOf]
  | y :: r, i + 1 => by
    have e : cellsOf f (y :: r) = f y ++ cellsOf f r := rfl
    have e2 : cellsOf f ((y :: r).take (i + 1)) = f y ++ cellsOf f (r.take i) := rfl
    have h1 : (f y).take ((i + 1) * z) = f y := List.take_of_length_le (by rw [hf, Nat.add_mul]; omega)
    have h2 : (i + 1) * z - z = i * z := by rw [Nat.add_mul]; omega
    rw [e, e2, cellsOf_take f z hf r i, List.take_append, hf, h1, h2]

theorem cellsOf_drop {α : Type} (f : α → List Value) (z : Nat) (hf : ∀ x, (f x).length = z) : ∀ (l : List α) (i : Nat), cellsOf f (l.drop i) = (cellsOf f l).drop (i * z)
  | [], i => by simp [cellsOf]
  | y :: r, 0 => by simp [cellsOf]
  | y :: r, i + 1 => by
    have e : cellsOf f (y :: r) = f y ++ cellsOf f r := rfl
    have e2 : cellsOf f ((y :: r).drop (i + 1)) = cellsOf f (r.drop i) := rfl
    have h1 : (f y).drop ((i + 1) * z) = [] := List.drop_of_length_le (by rw [hf, Nat.add_mul]; omega)
    have h2 : (i + 1) * z - z = i * z := by rw [Nat.add_mul]; omega
    rw [e, e2, cellsOf_drop f z hf r i, List.drop_append, hf, h1, h2, List.nil_append]

theorem cellsOf_snoc {α : Type} (f : α → List Value) (l : List α) (x : α) : cellsOf f (l ++ [x]) = cellsOf f l ++ f x := by simp [cellsOf]

/-- 'b[k:m]' of such a slice. -/
theorem Arr.window {P : Program} {N : Nat} {w : World} {a : Option Addr} {l : List Value} (h : Arr N w a l) (t e : TypeId) (z : Nat) (ht : P.underlying t = some (.slice e)) (hz : ∀ w, (Go.sizeOf e).run P w = .ok z w)
    (len cap k m : Nat) (hlen : l.length = len * z) (hk : k ≤ m) (hm : m ≤ len) (hcap : len ≤ cap) (hz0 : 0 < z) :
    ∃ a', Arr N w a' ((l.drop (k * z)).take ((m - k) * z)) ∧ ∀ W, (Instr.slice t (.slice a len cap) (some (.int .i64 (k : Int))) (some (.int .i64 (m : Int))) none).run P W = .ok (.slice a' (m - k) (cap - k)) W := by
  have ht' : P.underlying t = some (.slice (P.elem t)) := by simp [Program.elem, ht]
  have hee : P.elem t = e := by simp [Program.elem, ht]
  refine ⟨if cap = k then a else a.map (·.add (k * z)), ?_, fun W => ?_⟩
  · rcases h with h2 | ⟨b, o, ha, hN, hc⟩
    · exact .inl (by simp [h2])
    · by_cases hkl : m = k
      · subst hkl; exact .inl (by simp)
      · right
        refine ⟨b, o + k * z, ?_, hN, fun i c hi => ?_⟩
        · rw [if_neg (by omega), ha]
          by_cases h0 : k = 0
          · subst h0; simp [Addr.add]
          · have : ¬ k * z = 0 := by have := Nat.mul_pos (show 0 < k by omega) hz0; omega
            simp [Addr.add]
            exact this
        · rw [List.getElem?_take] at hi
          split at hi
          · rw [List.getElem?_drop] at hi
            rw [Nat.add_assoc]; exact hc _ _ hi
          · simp at hi
  · have := run_slice_lh (P := P) W t a len cap ht' .i64 .i64 (k : Int) (m : Int) (by omega) (by omega) (by omega)
    rw [this, hee, hz W]
    simp [Result.andThen, sliced]

theorem own_below {w w' : World} {base N : Nat} {T : TypeId} {z : Nat} {v : Value} {n : Nat} {xs : List Value} (h : w.ownsRow base T z v n xs) (hN : w.heap.size ≤ N) (hb : Below N w w') : w'.ownsRow base T z v n xs := by
  obtain ⟨h1, h2⟩ := h
  refine ⟨h1, ?_⟩
  rcases h2 with h2 | ⟨g, cap, cur, hv, hg, hh, r⟩
  · exact .inl h2
  · refine .inr ⟨g, cap, cur, hv, hg, ?_, r⟩
    rw [hb.block g (by
      by_cases hlt : g < w.heap.size
      · omega
      · rw [Array.getElem?_eq_none (by omega)] at hh; simp at hh)]
    exact hh

theorem own_slice {w : World} {base : Nat} {T : TypeId} {z : Nat} {v : Value} {n : Nat} {xs : List Value} (h : w.ownsRow base T z v n xs) : ∃ a cap, v = .slice a n cap ∧ n ≤ cap ∧ cap ≤ 9223372036854775807 ∧ Arr w.heap.size w a xs := by
  obtain ⟨h1, h2⟩ := h
  rcases h2 with ⟨hv, hn⟩ | ⟨g, cap, cur, hv, hg, hh, hnc, hcm, hcs, hcur⟩
  · subst hn
    refine ⟨none, 0, hv, by omega, by omega, .inl ?_⟩
    exact List.length_eq_zero_iff.1 (by simpa using h1)
  · refine ⟨some ⟨g, 0, none⟩, cap, hv, hnc, by unfold maxLen at hcm; omega, .inr ⟨g, 0, rfl, ?_, ?_⟩⟩
    · by_cases hlt : g < w.heap.size
      · exact hlt
      · rw [Array.getElem?_eq_none (by omega)] at hh; simp at hh
    · intro i c hi
      have e1 : (cur.toList.take (n * z))[i]? = some c := by rw [hcur]; exact hi
      rw [List.getElem?_take] at e1
      split at e1
      · simp only [World.cell?, hh, Nat.zero_add]
        simpa using e1
      · simp at e1

/-- 'append(s, x)': x has just been laid in a block of its own. -/
theorem wpList_appN {P : Program} {ops : Array Oper} {rest : List Oper} {o : Oper} {a : Act} {Q : Exit → Act → World → Prop} (hgd : o.guard = none) (s x : Operand) (t : TypeId)
    (ho : o.op = .call { callee := .builtin .append, args := #[s, x], argTypes := #[t, t] })
    (base : Nat) (e : TypeId) (i : TypeInfo) (zr : Value) (z bytes : Nat) (ht : P.underlying t = some (.slice e)) (hi : P.info? e = some i) (hz : i.zero = some zr) (hzs : zr.cells.size = z)
    (hsize : i.size = z) (hz0 : 0 < z) (hby : i.bytes = bytes) (hb100 : bytes ≤ 100)
    (v : Value) (n : Nat) (l news : List Value) (w : World) (hown : w.ownsRow base e z v n l) (hs : a.eval s = v) (cs : Array Value) (hcs : cs = news.toArray) (hl : news.length = z) (h1 : ∀ u ∈ news, u.oneCell' = true)
    (hx : a.eval x = .slice (some ⟨w.heap.size, 0, none⟩) 1 1) (hlen : n < 1000000000000) (hbase : base ≤ w.heap.size)
    (h : ∀ v' w', w'.ownsRow base e z v' (n + 1) (l ++ news) → Below base w w' → w.heap.size < w'.heap.size → wpList P ops Q rest (a.put o.dst v') w') :
    wpList P ops Q (o :: rest) a (w.alloc (.cells cs e)) := by
  subst hcs
  refine wpList_append_own (w.alloc (.cells news.toArray e)) hgd s x t ho base e i zr z bytes ht hi hz hsize hby hzs hz0 v n _ hs (World.ownsRow.alloc hown _) ⟨w.heap.size, 0, none⟩ 1 1 news hx (by rw [hl]; omega) ?_ h1 ?_ ?_ ?_ ?_
  · intro j u hj
    have e0 : (⟨w.heap.size, 0, none⟩ : Addr).add j = ⟨w.heap.size, j, none⟩ := by
      unfold Addr.add; split <;> simp_all
    rw [e0, World.cell?_alloc_at _ _ _ _ rfl]
    simpa using hj
  · unfold maxLen; omega
  · have : (n + 1) * bytes ≤ 1000000000000 * 100 := Nat.mul_le_mul (by omega) hb100
    omega
  · simp; omega
  · intro v' w' hown' hgrow _
    refine h v' w' hown' ?_ ?_
    · exact ((Below.refl base w).alloc hbase _).grown hgrow (by simp; omega) (fun j hj => (World.ownsRow.lt hown j hj).1)
    · have := hgrow.size; simp at this; omega
end Go.Proofs.Ytlcphgomhhejbaa

/- A region that draws its order, walked in ONE order that is given: operations that yield the same in every later world go first (flag true); each of the others (flag false) is the only one that may come up when its turn comes. -/
namespace Go.Proofs.Ytlcphgomhhejbaa
open Go.RowKit

section
variable {P : Program} {ops : Array Oper} {Q : Exit → Act → World → Prop} {md : Region.Mode}

/-- A later world: what stood in this one stands there as it was. -/
def Later (w w' : World) : Prop := Below w.heap.size w w'
theorem Later.refl (w : World) : Later w w := Below.refl _ _
theorem Later.trans {a b c : World} (h : Later a b) (k : Later b c) : Later a c := Below.trans h (Below.mono k h.size)

def wpO (P : Program) (ops : Array Oper) (Q : Exit → Act → World → Prop) (L : World → World → Prop) : List (Nat × Bool) → Act → World → Prop
  | [], a, w => Q .normal a w
  | (i, true) :: r, a, w => ∃ o v, ops[i]? = some o ∧ YieldsIf P ops (L w) o v a ∧ wpO P ops Q L r (a.put o.dst v) w
  | (i, false) :: r, a, w => wpOp P ops Q i (fun a' w' => L w w' ∧ wpO P ops Q L r a' w') a w

def checkO (md : Region.Mode) (ops : Array Oper) : List (Nat × Bool) → Array Bool → Bool
  | [], listed => Region.ready md ops listed == []
  | (i, true) :: r, listed => Region.free md ops listed i && (Region.ready md ops listed).contains i && checkO md ops r (listed.setIfInBounds i true)
  | (i, false) :: r, listed => Region.ready md ops listed == [i] && checkO md ops r (listed.setIfInBounds i true)

theorem wpAnyH_stronger {S S' : World → Prop} (hS : ∀ w, S' w → S w) : ∀ (fuel : Nat) (listed : Array Bool) (a : Act) (w : World), wpAnyH P md ops Q S' fuel listed a w → wpAnyH P md ops Q S fuel listed a w
  | 0, _, _, _, h => h
  | fuel + 1, _, _, _, h => ⟨h.1, fun i hi => wpOp_mono (fun _ _ h' => ⟨hS _ h'.1, wpAnyH_stronger hS fuel _ _ _ h'.2⟩) (h.2 i hi)⟩

theorem wpO_sound {L : World → World → Prop} (Lr : ∀ w, L w w) (Lt : ∀ {a b c}, L a b → L b c → L a c) (hs : Region.noSelect ops = true) (hQ : ∀ c (a : Act) d v w, Q (.panic c) (a.put d v) w → Q (.panic c) a w) :
    ∀ (ord : List (Nat × Bool)) (fuel : Nat) (listed : Array Bool) (a : Act) (w : World), ord.length ≤ fuel → checkO md ops ord listed = true → wpO P ops Q L ord a w → wpAnyH P md ops Q (L w) fuel listed a w
  | [], fuel, listed, a, w, _, hc, h => wpAnyH_done (by simpa [checkO] using hc) h fuel
  | (i, true) :: r, fuel, listed, a, w, hf, hc, h => by
    obtain ⟨o, v, ho, hy, h⟩ := h
    simp only [checkO, Bool.and_eq_true] at hc
    cases fuel with
    | zero => simp at hf
    | succ fuel =>
      exact wpAnyH_take ho hs hc.1.1 hc.1.2 (fun c a w => hQ c a o.dst v w) hy (Lr w) (wpO_sound Lr Lt hs hQ r fuel _ _ w (by simpa using hf) hc.2 h)
  | (i, false) :: r, fuel, listed, a, w, hf, hc, h => by
    simp only [checkO, Bool.and_eq_true, beq_iff_eq] at hc
    cases fuel with
    | zero => simp at hf
    | succ fuel =>
      refine wpAnyH_all (rs := [i]) hc.1 (by simp) ?_
      intro j hj
      rw [List.mem_singleton.1 hj]
      exact wpOp_mono (fun a' w' h' => ⟨h'.1, wpAnyH_stronger (fun x hx => Lt h'.1 hx) fuel _ _ _ (wpO_sound Lr Lt hs hQ r fuel _ a' w' (by simpa using hf) hc.2 h'.2)⟩) h

theorem NoPanic.put (Q : Exit → Act → World → Prop) : ∀ c (a : Act) d v w, NoPanic Q (.panic c) (a.put d v) w → NoPanic Q (.panic c) a w := fun _ _ _ _ _ h => h

/-- Number i of a list that is written out. -/
def nth : List Oper → Nat → Option Oper
  | [], _ => none
  | x :: _, 0 => some x
  | _ :: r, n + 1 => nth r n

theorem nth_get : ∀ (l : List Oper) (i : Nat) (o : Oper), nth l i = some o → l[i]? = some o
  | [], _, _, h => by simp [nth] at h
  | x :: r, 0, o, h => by simpa [nth] using h
  | x :: r, n + 1, o, h => by simpa using nth_get r n o h

theorem nth_ops {i : Nat} {o : Oper} (h : nth ops.toList i = some o) : ops[i]? = some o := by
  have := nth_get _ _ _ h
  simpa using this

/-- A later world, but for one block, which the region itself may write. -/
structure LaterB (B : Nat) (w w' : World) : Prop where
  os : w'.os = w.os
  tape : w'.tape = w.tape
  output : w'.output = w.output
  size : w.heap.size ≤ w'.heap.size
  block : ∀ k, k < w.heap.size → k ≠ B → w'.heap[k]? = w.heap[k]?
theorem LaterB.refl (B : Nat) (w : World) : LaterB B w w := ⟨rfl, rfl, rfl, Nat.le_refl _, fun _ _ _ => rfl⟩
theorem LaterB.trans {B : Nat} {a b c : World} (h : LaterB B a b) (k : LaterB B b c) : LaterB B a c :=
  ⟨k.os.trans h.os, k.tape.trans h.tape, k.output.trans h.output, Nat.le_trans h.size k.size, fun i hi hn => (k.block i (Nat.lt_of_lt_of_le hi h.size) hn).trans (h.block i hi hn)⟩
theorem Later.toB {w w' : World} (h : Later w w') (B : Nat) : LaterB B w w' := ⟨h.os, h.tape, h.output, h.size, fun k hk _ => h.block k hk⟩
theorem LaterB.setCell {w : World} {b : Nat} {o : Nat} (v : Value) : LaterB b w (w.setCell ⟨b, o, none⟩ v) :=
  ⟨rfl, rfl, rfl, by simp [World.setCell], fun k _ hn => Below.heap_setCell _ _ _ _ hn⟩
theorem LaterB.cell {B : Nat} {w w' : World} (h : LaterB B w w') {b o : Nat} (hb : b < w.heap.size) (hn : b ≠ B) : w'.cell? ⟨b, o, none⟩ = w.cell? ⟨b, o, none⟩ :=
  World.cell?_of_block (w := w) (a := ⟨b, o, none⟩) (h.block b hb hn)
theorem LaterB.undrew {B : Nat} {w W : World} (h : LaterB B w.drew W) : LaterB B w W := ⟨h.os, h.tape, h.output, h.size, h.block⟩

/-- The beginning. -/
theorem wp_region_ord {id : Nat} {a : Act} {w : World} (ord : List (Nat × Bool)) (hm : P.follows .mixedOrders = true) (hs : Region.noSelect ops = true)
    (hl : decide (ord.length ≤ ops.size) = true) (hc : checkO .any ops ord (Array.replicate ops.size false) = true) (h : wpO P ops (NoPanic Q) Later ord a w.drew) : (Code.region id ops true).wp P Q a w :=
  wp_region_noPanic (wp_region_held hm (wpO_sound Later.refl Later.trans hs (NoPanic.put Q) ord ops.size _ a w.drew (of_decide_eq_true hl) hc h))

/-- The beginning, where the region writes one block. -/
theorem wp_region_ordB {id : Nat} {a : Act} {w : World} (B : Nat) (ord : List (Nat × Bool)) (hm : P.follows .mixedOrders = true) (hs : Region.noSelect ops = true)
    (hl : decide (ord.length ≤ ops.size) = true) (hc : checkO .any ops ord (Array.replicate ops.size false) = true) (h : wpO P ops (NoPanic Q) (LaterB B) ord a w.drew) : (Code.region id ops true).wp P Q a w :=
  wp_region_noPanic (wp_region_held hm (wpO_sound (LaterB.refl B) LaterB.trans hs (NoPanic.put Q) ord ops.size _ a w.drew (of_decide_eq_true hl) hc h))

variable {L : World → World → Prop}
theorem wpO_nil {a : Act} {w : World} (h : Q .normal a w) : wpO P ops (NoPanic Q) L [] a w := h

theorem wpO_F {i : Nat} {r : List (Nat × Bool)} {a : Act} {w : World} {o : Oper} {v : Value} (ho : nth ops.toList i = some o) (hw : Region.wanted o (yielded ops a.tmps) = true)
    (hv : ∀ w', L w w' → (execOp a.eval o).run P w' = .ok (.value v) w') (h : wpO P ops Q L r (a.put o.dst v) w) : wpO P ops Q L ((i, true) :: r) a w :=
  ⟨o, v, nth_ops ho, .inl ⟨hw, hv⟩, h⟩

theorem wpO_G' (Lr : ∀ w, L w w) {i : Nat} {b : Bool} {r : List (Nat × Bool)} {a : Act} {w : World} {o : Oper} (ho : nth ops.toList i = some o) (hw : Region.wanted o (yielded ops a.tmps) = false)
    (h : wpO P ops Q L r (a.put o.dst undef) w) : wpO P ops Q L ((i, b) :: r) a w := by
  cases b with
  | true => exact ⟨o, undef, nth_ops ho, .inr ⟨hw, rfl⟩, h⟩
  | false =>
    show wpOp P ops Q i _ a w
    unfold wpOp
    simp only [nth_ops ho, hw]
    exact ⟨Lr w, h⟩

theorem wpO_G {i : Nat} {b : Bool} {r : List (Nat × Bool)} {a : Act} {w : World} {o : Oper} (ho : nth ops.toList i = some o) (hw : Region.wanted o (yielded ops a.tmps) = false)
    (h : wpO P ops Q Later r (a.put o.dst undef) w) : wpO P ops Q Later ((i, b) :: r) a w := wpO_G' Later.refl ho hw h

theorem wpO_C {i : Nat} {r : List (Nat × Bool)} {a : Act} {w : World} {o : Oper} (ho : nth ops.toList i = some o) (hw : Region.wanted o (yielded ops a.tmps) = true)
    (h : o.wp P a w (fun a' w' => L w w' ∧ wpO P ops Q L r a' w') Q) : wpO P ops Q L ((i, false) :: r) a w := by
  show wpOp P ops Q i _ a w
  unfold wpOp
  simp only [nth_ops ho, hw]
  exact .inl h

end
attribute [irreducible] wpO
end Go.Proofs.Ytlcphgomhhejbaa

/- What a call may change: footprints; blocks that are known whole; regions that draw their order and write memory of their own. -/
namespace Go.Proofs.Ytlcphgomhhejbaa
open Go.RowKit

/-- But for the blocks S the world w' is as w was. -/
structure Chg (S : List Nat) (w w' : World) : Prop where
  os : w'.os = w.os
  tape : w'.tape = w.tape
  output : w'.output = w.output
  size : w.heap.size ≤ w'.heap.size
  block : ∀ k, k < w.heap.size → k ∉ S → w'.heap[k]? = w.heap[k]?

/-- Of the blocks S' each is of S or new. -/
def Frsh (w : World) (S S' : List Nat) : Prop := ∀ k, k ∈ S' → k ∈ S ∨ w.heap.size ≤ k

theorem Frsh.refl (w : World) (S : List Nat) : Frsh w S S := fun _ h => .inl h
theorem Chg.refl (S : List Nat) (w : World) : Chg S w w := ⟨rfl, rfl, rfl, Nat.le_refl _, fun _ _ _ => rfl⟩
theorem Chg.trans' {S S1 : List Nat} {a b c : World} (h : Chg S a b) (f : Frsh a S S1) (k : Chg S1 b c) : Chg S a c :=
  ⟨k.os.trans h.os, k.tape.trans h.tape, k.output.trans h.output, Nat.le_trans h.size k.size, fun i hi hn => (k.block i (Nat.lt_of_lt_of_le hi h.size) (fun hm => by rcases f i hm with h1 | h1; exact hn h1; omega)).trans (h.block i hi hn)⟩
theorem Chg.trans {S : List Nat} {a b c : World} (h : Chg S a b) (k : Chg S b c) : Chg S a c := h.trans' (Frsh.refl _ _) k
theorem Frsh.trans {S S1 S2 : List Nat} {a b : World} (f : Frsh a S S1) (h : a.heap.size ≤ b.heap.size) (g : Frsh b S1 S2) : Frsh a S S2 := fun k hk => by
  rcases g k hk with h1 | h1
  · exact f k h1
  · exact .inr (by omega)
theorem Frsh.sub {w : World} {S S' : List Nat} (h : ∀ k ∈ S', k ∈ S) : Frsh w S S' := fun k hk => .inl (h k hk)
theorem Chg.sub {S T : List Nat} {a b : World} (h : Chg S a b) (hs : ∀ k ∈ S, k ∈ T) : Chg T a b := ⟨h.os, h.tape, h.output, h.size, fun k hk hn => h.block k hk (fun hm => hn (hs k hm))⟩
theorem Chg.drew {S : List Nat} {a w : World} (h : Chg S a w) : Chg S a w.drew := ⟨h.os, h.tape, h.output, h.size, h.block⟩
theorem Chg.undrew {S : List Nat} {a w : World} (h : Chg S a.drew w) : Chg S a w := ⟨h.os, h.tape, h.output, h.size, h.block⟩
theorem Chg.alloc {S : List Nat} {a w : World} (h : Chg S a w) (o : Obj) : Chg S a (w.alloc o) :=
  h.trans ⟨rfl, rfl, rfl, by simp, fun k hk _ => Below.heap_alloc _ _ _ hk⟩
theorem Chg.setCell {S : List Nat} {a w : World} (h : Chg S a w) {b o : Nat} (hb : b ∈ S ∨ a.heap.size ≤ b) (u : Value) : Chg S a (w.setCell ⟨b, o, none⟩ u) :=
  ⟨h.os, h.tape, h.output, by simpa [World.setCell] using h.size, fun k hk hn => (Below.heap_setCell w ⟨b, o, none⟩ u k (fun e => by
    have e' : k = b := e
    rcases hb with hb | hb
    · exact hn (e' ▸ hb)
    · omega)).trans (h.block k hk hn)⟩
theorem Below.chg {N : Nat} {w w' : World} (h : Below N w w') {S : List Nat} (hN : ∀ k, N ≤ k → k < w.heap.size → k ∈ S) : Chg S w w' :=
  ⟨h.os, h.tape, h.output, h.size, fun k hk hn => h.block k (by
    rcases Nat.lt_or_ge k N with h1 | h1
    · exact h1
    · exact absurd (hN k h1 hk) hn)⟩
theorem Below.chg0 {w w' : World} (h : Below w.heap.size w w') (S : List Nat) : Chg S w w' := Below.chg h fun k h1 h2 => absurd h2 (by omega)
theorem Chg.below {S : List Nat} {w w' : World} (h : Chg S w w') {N : Nat} (hN : N ≤ w.heap.size) (hS : ∀ k ∈ S, N ≤ k) : Below N w w' :=
  ⟨h.os, h.tape, h.output, h.size, fun k hk => h.block k (by omega) (fun hm => by have := hS k hm; omega)⟩
theorem Chg.cell {S : List Nat} {w w' : World} (h : Chg S w w') {b o : Nat} (hb : b < w.heap.size) (hn : b ∉ S) : w'.cell? ⟨b, o, none⟩ = w.cell? ⟨b, o, none⟩ :=
  World.cell?_of_block (w := w) (a := ⟨b, o, none⟩) (h.block b hb hn)
theorem Chg.frozen {S : List Nat} {w w' : World} (h : Chg S w w') {b o : Nat} (hb : b < w.heap.size) (hn : b ∉ S) : w'.frozen? ⟨b, o, none⟩ = w.frozen? ⟨b, o, none⟩ :=
  World.frozen?_of_block (w := w) (a := ⟨b, o, none⟩) (h.block b hb hn)

/-- Block g is just these cells. -/
def Blk (w : World) (g : Nat) (t : TypeId) (cs : Array Value) : Prop := w.heap[g]? = some (.cells cs t (0, 0))
section
variable {w w' : World} {g : Nat} {t : TypeId} {cs : Array Value}
theorem Blk.lt (h : Blk w g t cs) : g < w.heap.size := by
  rcases Nat.lt_or_ge g w.heap.size with hlt | hge
  · exact hlt
  · unfold Blk at h; rw [Array.getElem?_eq_none hge] at h; cases h
theorem Blk.cell (h : Blk w g t cs) (i : Nat) : w.cell? ⟨g, i, none⟩ = cs[i]? := cell_of_row w g i cs t (0, 0) h
theorem Blk.frozen (h : Blk w g t cs) (i : Nat) : w.frozen? ⟨g, i, none⟩ = false := frozen_of_row w g i cs t h
theorem Blk.new (w : World) (t : TypeId) (cs : Array Value) : Blk (w.alloc (.cells cs t)) w.heap.size t cs := heap_alloc_new w _
theorem Blk.drew (h : Blk w g t cs) : Blk w.drew g t cs := h
theorem Blk.alloc (h : Blk w g t cs) (o : Obj) : Blk (w.alloc o) g t cs := (Below.heap_alloc w o g h.lt).trans h
theorem Blk.set_ (h : Blk w g t cs) (i : Nat) (u : Value) : Blk (w.setCell ⟨g, i, none⟩ u) g t (cs.setIfInBounds i u) := by
  unfold Blk at h ⊢
  simp [World.setCell, Array.getElem?_modify, h]
theorem Blk.far (h : Blk w g t cs) {b o : Nat} (hp : g ≠ b) (u : Value) : Blk (w.setCell ⟨b, o, none⟩ u) g t cs := (Below.heap_setCell w ⟨b, o, none⟩ u g hp).trans h
theorem Blk.chg {S : List Nat} (h : Blk w g t cs) (hc : Chg S w w') (hn : g ∉ S) : Blk w' g t cs := (hc.block g h.lt hn).trans h
theorem Blk.ne_ {g' : Nat} {t' : TypeId} {cs' : Array Value} (h : Blk w g t cs) (h' : Blk w g' t' cs') (hne : t ≠ t') : g ≠ g' := by
  rintro rfl
  unfold Blk at h h'
  rw [h] at h'
  injection h' with h'
  injection h' with _ ht
  exact hne ht
end

/-- Block g is a map with these entries. -/
def MapB (w : World) (g : Nat) (es : Array MapEntry) (clk : Nat) : Prop := w.heap[g]? = some (.map es clk)
theorem MapB.lt {w : World} {g clk : Nat} {es : Array MapEntry} (h : MapB w g es clk) : g < w.heap.size := by
  rcases Nat.lt_or_ge g w.heap.size with hlt | hge
  · exact hlt
  · unfold MapB at h; rw [Array.getElem?_eq_none hge] at h; cases h
theorem MapB.ne_blk {w : World} {g clk g' : Nat} {es : Array MapEntry} {t : TypeId} {cs : Array Value} (h : MapB w g es clk) (h' : Blk w g' t cs) : g ≠ g' := by
  rintro rfl
  unfold MapB at h; unfold Blk at h'
  rw [h] at h'
  injection h' with h'
  cases h'
theorem MapB.chg {S : List Nat} {w w' : World} {g clk : Nat} {es : Array MapEntry} (h : MapB w g es clk) (hc : Chg S w w') (hn : g ∉ S) : MapB w' g es clk := (hc.block g h.lt hn).trans h
theorem MapB.setCell {w : World} {g clk b o : Nat} {es : Array MapEntry} (h : MapB w g es clk) (u : Value) : MapB (w.setCell ⟨b, o, none⟩ u) g es clk := by
  unfold MapB at h ⊢
  simp only [World.setCell, Array.getElem?_modify]
  split
  · rw [h]; rfl
  · exact h

/-- The world with another object in block g. -/
def putObj (w : World) (g : Nat) (o : Obj) : World := { w with heap := w.heap.setIfInBounds g o }
theorem putObj_size (w : World) (g : Nat) (o : Obj) : (putObj w g o).heap.size = w.heap.size := by simp [putObj]
theorem putObj_same {w : World} {g : Nat} (o : Obj) (h : g < w.heap.size) : (putObj w g o).heap[g]? = some o := by
  simp [putObj, h]
theorem putObj_other (w : World) (g k : Nat) (o : Obj) (h : k ≠ g) : (putObj w g o).heap[k]? = w.heap[k]? := by
  simp only [putObj]
  rw [Array.getElem?_setIfInBounds_ne (by omega)]
theorem Chg.putObj {S : List Nat} {a w : World} (h : Chg S a w) {g : Nat} (hg : g ∈ S ∨ a.heap.size ≤ g) (o : Obj) : Chg S a (putObj w g o) :=
  ⟨h.os, h.tape, h.output, by rw [putObj_size]; exact h.size, fun k hk hn => (putObj_other w g k o (fun e => by
    subst e
    rcases hg with hb | hb
    · exact hn hb
    · omega)).trans (h.block k hk hn)⟩

/-! A region that draws its order and has a last operation of its own that waits for all others. -/
section
variable {P : Program} {ops : Array Oper} {Q : Exit → Act → World → Prop} {md : Region.Mode}

/-- Whatever order is picked; S holds behind each operation but number x. -/
def wpAnyX (P : Program) (md : Region.Mode) (ops : Array Oper) (Q : Exit → Act → World → Prop) (x : Nat) (S : World → Prop) : Nat → Array Bool → Act → World → Prop
  | 0, l, a, w => Region.ready md ops l = [] ∧ Q .normal a w
  | n + 1, l, a, w => (Region.ready md ops l = [] → Q .normal a w) ∧
      ∀ i, i ∈ Region.ready md ops l → wpOp P ops Q i (fun a' w' => (i ≠ x → S w') ∧ wpAnyX P md ops Q x S n (l.setIfInBounds i true) a' w') a w

theorem wpAny_of_X {x : Nat} {S : World → Prop} : ∀ (n : Nat) (l : Array Bool) (a : Act) (w : World), wpAnyX P md ops Q x S n l a w → wpAny P md ops Q n l a w
  | 0, _, _, _, h => h
  | n + 1, _, _, _, h => ⟨h.1, fun i hi => wpOp_mono (fun a' w' h' => wpAny_of_X n _ a' w' h'.2) (h.2 i hi)⟩

/-- Does operation x wait for operation i, be it through others? -/
def waitsN (md : Region.Mode) (ops : Array Oper) (i : Nat) : Nat → Nat → Bool
  | 0, _ => false
  | n + 1, x => match ops[x]? with
    | some ox => ox.after.any fun e => Region.binds md e && (e.on == i || waitsN md ops i n e.on)
    | none => false

/-- What has come up had all that it waits for come up before it. -/
def Closed (md : Region.Mode) (ops : Array Oper) (l : Array Bool) : Prop :=
  ∀ (k : Nat) (ok : Oper), ops[k]? = some ok → l.getD k false = true → ∀ e, e ∈ ok.after → Region.binds md e = true → l.getD e.on false = true

theorem Closed.waits {l : Array Bool} (hc : Closed md ops l) {i : Nat} : ∀ (n x : Nat) (ox : Oper), ops[x]? = some ox → (∀ e, e ∈ ox.after → Region.binds md e = true → l.getD e.on false = true) → waitsN md ops i n x = true → l.getD i false = true
  | 0, _, _, _, _, h => by simp [waitsN] at h
  | n + 1, x, ox, ho, hd, h => by
    unfold waitsN at h
    rw [ho] at h
    simp only [Array.any_eq_true', Bool.and_eq_true, Bool.or_eq_true, beq_iff_eq] at h
    obtain ⟨e, he, hb, h⟩ := h
    rcases h with h | h
    · rw [← h]; exact hd e he hb
    · have hl := hd e he hb
      cases hy : ops[e.on]? with
      | none =>
        cases n with
        | zero => simp [waitsN] at h
        | succ n => unfold waitsN at h; rw [hy] at h; cases h
      | some oy => exact Closed.waits hc n e.on oy hy (hc e.on oy hy hl) h

theorem Closed.set_ {l : Array Bool} (hc : Closed md ops l) {j : Nat} (hj : j ∈ Region.ready md ops l) : Closed md ops (l.setIfInBounds j true) := by
  intro k ok hk hl e he hb
  obtain ⟨hjun, oj, hoj, hall⟩ := mem_ready.1 hj
  by_cases hkj : j = k
  · subst hkj
    rw [hk] at hoj
    obtain rfl := Option.some.inj hoj
    exact getD_set_true (hall e he hb)
  · rw [getD_set_ne false hkj] at hl
    exact getD_set_true (hc k ok hk hl e he hb)

theorem closed_none (n : Nat) : Closed md ops (Array.replicate n false) := by
  intro k ok _ hl
  exfalso
  rw [Array.getD_eq_getD_getElem?, Array.getElem?_replicate] at hl
  split at hl <;> simp at hl

theorem wpAnyX_first {x i : Nat} {S : World → Prop} {oi : Oper} {v : Value} (hi : ops[i]? = some oi) (hsel : ∀ (j : Nat) (o : Oper) cs b, ops[j]? = some o → o.op ≠ .select cs b)
    (hQ : ∀ c (a : Act) w, Q (.panic c) (a.put oi.dst v) w → Q (.panic c) a w) (hix : i ≠ x) (m : Nat) (hxi : waitsN md ops i m x = true) :
    ∀ (n : Nat) (l : Array Bool) (a : Act) (w : World), Closed md ops l →
      (∀ j oj, ops[j]? = some oj → j ≠ i → l.getD j true = false → (∀ e ∈ oj.after, Region.binds md e = true → e.on ≠ i) → oi.apart ops oj = true) →
      i ∈ Region.ready md ops l → YieldsIf P ops S oi v a → S w →
      wpAnyX P md ops Q x S n (l.setIfInBounds i true) (a.put oi.dst v) w → wpAnyX P md ops Q x S (n + 1) l a w
  | n, l, a, w, hcl, hfree, hr, hy, hS, H => by
    refine ⟨fun h => absurd hr (by rw [h]; simp), fun j hj => ?_⟩
    by_cases hji : j = i
    · subst hji
      exact hy.wpOp hi hS ⟨fun _ => hS, H⟩
    obtain ⟨hjun, oj, hoj, hall⟩ := mem_ready.1 hj
    have hnot : ∀ e ∈ oj.after, Region.binds md e = true → e.on ≠ i := by
      intro e he hb heq
      have h1 := hall e he hb
      have h0 := (mem_ready.1 hr).1
      rw [heq] at h1
      by_cases hlt : i < l.size
      · simp [hlt] at h0 h1
        rw [h0] at h1
        cases h1
      · simp [Array.getElem?_eq_none (Nat.le_of_not_lt hlt)] at h1
    have hjx : j ≠ x := by
      rintro rfl
      have h1 := hcl.waits m j oj hoj hall hxi
      have h0 := (mem_ready.1 hr).1
      by_cases hlt : i < l.size
      · simp [hlt] at h0 h1
        rw [h0] at h1
        cases h1
      · simp [Array.getElem?_eq_none (Nat.le_of_not_lt hlt)] at h1
    match n, H with
    | 0, H =>
      have := ready_mono hj hji
      rw [H.1] at this
      cases this
    | n + 1, H =>
      have h1 := H.2 j (ready_mono hj hji)
      have h2 := wpOp_putIf hoj (hfree j oj hoj hji hjun hnot) (fun cs b => hsel i oi cs b hi) (fun cs b => hsel j oj cs b hoj) hQ hy h1
      refine wpOp_mono (fun a' w' h3 => ⟨fun _ => h3.2.1 hjx, ?_⟩) h2
      refine wpAnyX_first hi hsel hQ hix m hxi n _ a' w' (hcl.set_ hj) ?_ (ready_mono hr (Ne.symm hji)) h3.1 (h3.2.1 hjx) ?_
      · intro k ok hk hki hun hno
        refine hfree k ok hk hki ?_ hno
        by_cases hjk : j = k
        · subst hjk; exact hjun
        · rw [getD_set_ne true hjk] at hun; exact hun
      · rw [Array.setIfInBounds_comm _ _ hji]
        exact h3.2.2

theorem wpAnyX_stronger {x : Nat} {S S' : World → Prop} (hS : ∀ w, S' w → S w) : ∀ (n : Nat) (l : Array Bool) (a : Act) (w : World), wpAnyX P md ops Q x S' n l a w → wpAnyX P md ops Q x S n l a w
  | 0, _, _, _, h => h
  | n + 1, _, _, _, h => ⟨h.1, fun i hi => wpOp_mono (fun _ _ h' => ⟨fun hx => hS _ (h'.1 hx), wpAnyX_stronger hS n _ _ _ h'.2⟩) (h.2 i hi)⟩

/-- An order for such a region: at its end comes operation x. -/
def wpOX (P : Program) (ops : Array Oper) (Q : Exit → Act → World → Prop) (L : World → World → Prop) (x : Nat) : List (Nat × Bool) → Act → World → Prop
  | [], a, w => wpOp P ops Q x (fun a' w' => Q .normal a' w') a w
  | (i, true) :: r, a, w => ∃ o v, ops[i]? = some o ∧ YieldsIf P ops (L w) o v a ∧ wpOX P ops Q L x r (a.put o.dst v) w
  | (i, false) :: r, a, w => wpOp P ops Q i (fun a' w' => L w w' ∧ wpOX P ops Q L x r a' w') a w

def waitsB (md : Region.Mode) (ops : Array Oper) (x i : Nat) : Bool := i != x && waitsN md ops i ops.size x

def checkX (md : Region.Mode) (ops : Array Oper) (x : Nat) : List (Nat × Bool) → Array Bool → Bool
  | [], l => Region.ready md ops l == [x] && Region.ready md ops (l.setIfInBounds x true) == []
  | (i, true) :: r, l => waitsB md ops x i && (Region.free md ops l i && (Region.ready md ops l).contains i && checkX md ops x r (l.setIfInBounds i true))
  | (i, false) :: r, l => i != x && Region.ready md ops l == [i] && checkX md ops x r (l.setIfInBounds i true)

theorem wpOX_sound {L : World → World → Prop} {x : Nat} (Lr : ∀ w, L w w) (Lt : ∀ {a b c}, L a b → L b c → L a c) (hs : Region.noSelect ops = true) (hQ : ∀ c (a : Act) d v w, Q (.panic c) (a.put d v) w → Q (.panic c) a w) :
    ∀ (ord : List (Nat × Bool)) (n : Nat) (l : Array Bool) (a : Act) (w : World), ord.length + 1 ≤ n → Closed md ops l → checkX md ops x ord l = true → wpOX P ops Q L x ord a w → wpAnyX P md ops Q x (L w) n l a w
  | [], n, l, a, w, hn, hcl, hc, h => by
    simp only [checkX, Bool.and_eq_true, beq_iff_eq] at hc
    match n, hn with
    | n + 1, _ =>
      refine ⟨fun h0 => absurd hc.1 (by rw [h0]; simp), fun j hj => ?_⟩
      rw [hc.1] at hj
      obtain rfl := List.mem_singleton.1 hj
      refine wpOp_mono (fun a' w' h' => ⟨fun hx => absurd rfl hx, ?_⟩) h
      cases n with
      | zero => exact ⟨hc.2, h'⟩
      | succ n => exact ⟨fun _ => h', fun k hk => absurd hk (by rw [hc.2]; simp)⟩
  | (i, true) :: r, n, l, a, w, hn, hcl, hc, h => by
    obtain ⟨o, v, ho, hy, h⟩ := h
    simp only [checkX, Bool.and_eq_true] at hc
    have hri : i ∈ Region.ready md ops l := by simpa using hc.2.1.2
    match n, hn with
    | n + 1, hn =>
      have hw := hc.1
      unfold waitsB at hw
      simp only [Bool.and_eq_true, bne_iff_ne, ne_eq] at hw
      exact wpAnyX_first ho (Region.noSelect_spec hs) (fun c a w => hQ c a o.dst v w) hw.1 ops.size hw.2 n l a w hcl (Region.free_spec ho hc.2.1.1) hri hy (Lr w) (wpOX_sound Lr Lt hs hQ r n _ _ w (by simpa using hn) (hcl.set_ hri) hc.2.2 h)
  | (i, false) :: r, n, l, a, w, hn, hcl, hc, h => by
    simp only [checkX, Bool.and_eq_true, beq_iff_eq, bne_iff_ne, ne_eq] at hc
    match n, hn with
    | n + 1, hn =>
      refine ⟨fun h0 => absurd hc.1.2 (by rw [h0]; simp), fun j hj => ?_⟩
      rw [hc.1.2] at hj
      obtain rfl := List.mem_singleton.1 hj
      exact wpOp_mono (fun a' w' h' => ⟨fun _ => h'.1, wpAnyX_stronger (fun y hy => Lt h'.1 hy) n _ _ _ (wpOX_sound Lr Lt hs hQ r n _ a' w' (by simpa using hn) (hcl.set_ (by rw [hc.1.2]; simp)) hc.2 h'.2)⟩) h

/-- The beginning, where blocks S may be written, the last operation apart. -/
theorem wp_region_ordX {id : Nat} {a : Act} {w : World} (S : List Nat) (x : Nat) (ord : List (Nat × Bool)) (hm : P.follows .mixedOrders = true) (hs : Region.noSelect ops = true)
    (hl : decide (ord.length + 1 ≤ ops.size) = true) (hc : checkX .any ops x ord (Array.replicate ops.size false) = true) (h : wpOX P ops (NoPanic Q) (Chg S) x ord a w.drew) : (Code.region id ops true).wp P Q a w :=
  wp_region_noPanic (wp_region_any hm (wpAny_of_X _ _ _ _ (wpOX_sound (Chg.refl S) Chg.trans hs (NoPanic.put Q) ord ops.size _ a w.drew (of_decide_eq_true hl) (closed_none _) hc h)))

/-- The beginning, where blocks S may be written. -/
theorem wp_region_ordS {id : Nat} {a : Act} {w : World} (S : List Nat) (ord : List (Nat × Bool)) (hm : P.follows .mixedOrders = true) (hs : Region.noSelect ops = true)
    (hl : decide (ord.length ≤ ops.size) = true) (hc : checkO .any ops ord (Array.replicate ops.size false) = true) (h : wpO P ops (NoPanic Q) (Chg S) ord a w.drew) : (Code.region id ops true).wp P Q a w :=
  wp_region_noPanic (wp_region_held hm (wpO_sound (Chg.refl S) Chg.trans hs (NoPanic.put Q) ord ops.size _ a w.drew (of_decide_eq_true hl) hc h))

variable {L : World → World → Prop}
theorem wpOX_F {x i : Nat} {r : List (Nat × Bool)} {a : Act} {w : World} {o : Oper} {v : Value} (ho : nth ops.toList i = some o) (hw : Region.wanted o (yielded ops a.tmps) = true)
    (hv : ∀ w', L w w' → (execOp a.eval o).run P w' = .ok (.value v) w') (h : wpOX P ops Q L x r (a.put o.dst v) w) : wpOX P ops Q L x ((i, true) :: r) a w :=
  ⟨o, v, nth_ops ho, .inl ⟨hw, hv⟩, h⟩
theorem wpOX_G (Lr : ∀ w, L w w) {x i : Nat} {b : Bool} {r : List (Nat × Bool)} {a : Act} {w : World} {o : Oper} (ho : nth ops.toList i = some o) (hw : Region.wanted o (yielded ops a.tmps) = false)
    (h : wpOX P ops Q L x r (a.put o.dst undef) w) : wpOX P ops Q L x ((i, b) :: r) a w := by
  cases b with
  | true => exact ⟨o, undef, nth_ops ho, .inr ⟨hw, rfl⟩, h⟩
  | false =>
    show wpOp P ops Q i _ a w
    unfold wpOp
    simp only [nth_ops ho, hw]
    exact ⟨Lr w, h⟩
theorem wpOX_C {x i : Nat} {r : List (Nat × Bool)} {a : Act} {w : World} {o : Oper} (ho : nth ops.toList i = some o) (hw : Region.wanted o (yielded ops a.tmps) = true)
    (h : o.wp P a w (fun a' w' => L w w' ∧ wpOX P ops Q L x r a' w') Q) : wpOX P ops Q L x ((i, false) :: r) a w := by
  show wpOp P ops Q i _ a w
  unfold wpOp
  simp only [nth_ops ho, hw]
  exact .inl h
theorem wpOX_end {x : Nat} {a : Act} {w : World} {o : Oper} (ho : nth ops.toList x = some o) (hw : Region.wanted o (yielded ops a.tmps) = true)
    (h : o.wp P a w (fun a' w' => Q .normal a' w') Q) : wpOX P ops Q L x [] a w := by
  show wpOp P ops Q x _ a w
  unfold wpOp
  simp only [nth_ops ho, hw]
  exact .inl h
end
attribute [irreducible] wpOX
end Go.Proofs.Ytlcphgomhhejbaa
