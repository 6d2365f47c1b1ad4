/- General lemmas that hold over every program: byte slices that are read, and one-byte appends to a row of the call's own. -/
import Derived.Test.YtockmoiekbhneaaRows
import Derived.WalkKit
import Derived.WalkSpells
import Derived.WalkLawsBesides
import Derived.Laws.BitsAllLaws
import Derived.Laws.BytesArg
import Derived.OpenShut
namespace Go.Proofs.Ytockmoiekbhneaa
open Go.RowKit

/-- The bytes l as a string of Go's. -/
def strN (l : List Nat) : ByteArray := ⟨(l.map UInt8.ofNat).toArray⟩

theorem strN_size (l : List Nat) : (strN l).size = l.length := by
  simp [strN, ByteArray.size]

/-- The address leads to the bytes l, in blocks below number N. -/
def Bs (N : Nat) (w : World) (a : Option Addr) (l : List Nat) : Prop :=
  (∀ c ∈ l, c < 256) ∧ (l = [] ∨ ∃ b o, a = some ⟨b, o, none⟩ ∧ b < N ∧ ∀ (i c : Nat), l[i]? = some c → w.cell? ⟨b, o + i, none⟩ = some (.int .u8 (c : Int)))

theorem Bs.below {N : Nat} {w w' : World} {a : Option Addr} {l : List Nat} (h : Bs N w a l) (hb : Below N w w') : Bs N w' a l := by
  obtain ⟨h1, h2⟩ := h
  refine ⟨h1, ?_⟩
  rcases h2 with h2 | ⟨b, o, ha, hN, hc⟩
  · exact .inl h2
  · exact .inr ⟨b, o, ha, hN, fun i c hi => (hb.cell (p := ⟨b, o + i, none⟩) hN).trans (hc i c hi)⟩

theorem Bs.mono {N M : Nat} {w : World} {a : Option Addr} {l : List Nat} (h : Bs N w a l) (hM : N ≤ M) : Bs M w a l := by
  obtain ⟨h1, h2⟩ := h
  refine ⟨h1, ?_⟩
  rcases h2 with h2 | ⟨b, o, ha, hN, hc⟩
  · exact .inl h2
  · exact .inr ⟨b, o, ha, by omega, hc⟩

theorem Bs.lt {N : Nat} {w : World} {a : Option Addr} {l : List Nat} (h : Bs N w a l) {i c : Nat} (hi : l[i]? = some c) : c < 256 :=
  h.1 c (List.mem_of_getElem? hi)

theorem bytes_fun (l : List Nat) (hl : ∀ c ∈ l, c < 256) : strOfNums (l.map fun (c : Nat) => (c : Int)) = strN l := by
  apply ByteArray.ext
  apply Array.toList_inj.1
  rw [strOfNums_data]
  simp [strN]

theorem Bs.conv {P : Program} {N : Nat} {w : World} {a : Option Addr} {l : List Nat} (h : Bs N w a l) (src e : TypeId) (hs : P.underlying src = some (.slice e)) (he : P.underlying e = some (.int .u8))
    (dst : TypeId) (hd : P.underlying dst = some .string) (n cap : Nat) (hn : n = l.length) :
    (convert src dst (.slice a n cap)).run P w = .ok (.string (strN l)) w := by
  subst hn
  obtain ⟨h1, h2⟩ := h
  rcases h2 with h2 | ⟨b, o, ha, hN, hc⟩
  · subst h2
    cases a with
    | none => exact run_convert_bytes_nil w src e hs he _ _ dst hd
    | some x =>
      rw [run_convert_bytes_string w src dst e _ _ cap hs he hd]
      have hl : (loadCells x 0).run P w = .ok (([] : List Int).map (Value.int .u8)).toArray w := run_loadCells_list (P := P) w x [] (fun j v hj => by simp at hj)
      exact run_bytesToString w x 0 cap [] hl
  · subst ha
    have := run_convert_bytes_arg (P := P) w src e hs he b o l.length cap (l.map fun (c : Nat) => (c : Int)) (by simp) (fun i hi => by
      rw [hc i l[i] (by simp [hi])]
      simp [hi]) dst hd
    rw [this, bytes_fun l h1]

/-- 'b[k:]' of such a slice, as one value. -/
theorem Bs.from {P : Program} {N : Nat} {w : World} {a : Option Addr} {l : List Nat} (h : Bs N w a l) (t e : TypeId) (ht : P.underlying t = some (.slice e)) (hz : ∀ w, (Go.sizeOf e).run P w = .ok 1 w)
    (len cap k : Nat) (hlen : len = l.length) (hk : k ≤ len) (hcap : len ≤ cap) :
    ∃ a', Bs N w a' (l.drop k) ∧ ∀ W, (Instr.slice t (.slice a len cap) (some (.int .i64 (k : Int))) none none).run P W = .ok (.slice a' (len - k) (cap - k)) W := by
  subst hlen
  have ht' : P.underlying t = some (.slice (P.elem t)) := by simp [Program.elem, ht]
  have hee : P.elem t = e := by simp [Program.elem, ht]
  refine ⟨if cap = k then a else a.map (·.add (k * 1)), ?_, fun W => ?_⟩
  · obtain ⟨h1, h2⟩ := h
    refine ⟨fun c hc => h1 c (List.mem_of_mem_drop hc), ?_⟩
    rcases h2 with h2 | ⟨b, o, ha, hN, hc⟩
    · exact .inl (by simp [h2])
    · by_cases hkl : k = l.length
      · exact .inl (by simp [hkl])
      · right
        refine ⟨b, o + k, ?_, hN, fun i c hi => ?_⟩
        · rw [if_neg (by omega), ha]; simp [Addr.add]
        · rw [List.getElem?_drop] at hi
          rw [Nat.add_assoc]; exact hc _ _ hi
  · have := run_slice_l (P := P) W t a l.length cap ht' .i64 (k : Int) (by omega) (by omega)
    rw [this, hee, hz W]
    simp [Result.andThen, sliced]

/-- 'b[k:h]' of such a slice. -/
theorem Bs.window {P : Program} {N : Nat} {w : World} {a : Option Addr} {l : List Nat} (h : Bs N w a l) (t e : TypeId) (ht : P.underlying t = some (.slice e)) (hz : ∀ w, (Go.sizeOf e).run P w = .ok 1 w)
    (len cap k m : Nat) (hlen : len = l.length) (hk : k ≤ m) (hm : m ≤ len) (hcap : len ≤ cap) :
    ∃ a', Bs N w a' ((l.drop k).take (m - k)) ∧ ∀ W, (Instr.slice t (.slice a len cap) (some (.int .i64 (k : Int))) (some (.int .i64 (m : Int))) none).run P W = .ok (.slice a' (m - k) (cap - k)) W := by
  subst hlen
  have ht' : P.underlying t = some (.slice (P.elem t)) := by simp [Program.elem, ht]
  have hee : P.elem t = e := by simp [Program.elem, ht]
  refine ⟨if cap = k then a else a.map (·.add (k * 1)), ?_, fun W => ?_⟩
  · obtain ⟨h1, h2⟩ := h
    refine ⟨fun c hc => h1 c (List.mem_of_mem_drop (List.mem_of_mem_take hc)), ?_⟩
    rcases h2 with h2 | ⟨b, o, ha, hN, hc⟩
    · exact .inl (by simp [h2])
    · by_cases hkl : k = l.length
      · exact .inl (by simp [hkl])
      · right
        refine ⟨b, o + k, ?_, hN, fun i c hi => ?_⟩
        · rw [if_neg (by omega), ha]; simp [Addr.add]
        · rw [List.getElem?_take] at hi
          split at hi
          · rw [List.getElem?_drop] at hi
            rw [Nat.add_assoc]; exact hc _ _ hi
          · simp at hi
  · have := run_slice_lh (P := P) W t a l.length cap ht' .i64 .i64 (k : Int) (m : Int) (by omega) (by omega) (by omega)
    rw [this, hee, hz W]
    simp [Result.andThen, sliced]

/-- What the walk is told of a slice of integers that came in: it is nil; or it leads to a row of 'cap' cells, the numbers zs, each fitting its kind. -/
def IsRow (k : IntKind) (w : World) (a : Option Addr) (len cap : Nat) (zs : List Int) : Prop :=
  (a = none ∧ len = 0 ∧ cap = 0 ∧ zs = []) ∨
  ∃ x, a = some x ∧ len ≤ cap ∧ cap ≤ maxLen ∧ zs.length = cap ∧ (∀ i, i < zs.length → w.cell? (x.add i) = some (.int k (zs.getD i 0))) ∧ ∀ n ∈ zs, (Lit.int k n).wf = true

theorem nat_u64 {n : Int} (h : (Lit.int .u64 n).wf = true) : ∃ m : Nat, n = (m : Int) ∧ m < 18446744073709551616 := by
  have := bounds_u64 h
  exact ⟨n.toNat, by omega, by omega⟩
theorem nat_u8 {n : Int} (h : (Lit.int .u8 n).wf = true) : ∃ m : Nat, n = (m : Int) ∧ m < 256 := by
  have := bounds_u8 h
  exact ⟨n.toNat, by omega, by omega⟩
theorem bd_i64 {n : Int} (h : (Lit.int .i64 n).wf = true) : -9223372036854775808 ≤ n ∧ n ≤ 9223372036854775807 := bounds_i64 h

/-- A slice of integers that came in: its elements, in the blocks of the world. -/
theorem IsRow.read {k : IntKind} {w : World} {a : Option Addr} {len cap : Nat} {zs : List Int} (h : IsRow k w a len cap zs) :
    len ≤ cap ∧ cap ≤ maxLen ∧ ∃ l : List Int, l.length = len ∧ (∀ n ∈ l, (Lit.int k n).wf = true) ∧ (l = [] ∨ ∃ b o, a = some ⟨b, o, none⟩ ∧ b < w.heap.size ∧ ∀ (i : Nat) n, l[i]? = some n → w.cell? ⟨b, o + i, none⟩ = some (.int k n)) := by
  rcases h with ⟨rfl, rfl, rfl, rfl⟩ | ⟨x, rfl, hl, hm, hz, hcell, hwz⟩
  · exact ⟨by omega, by unfold maxLen; omega, [], rfl, by simp, .inl rfl⟩
  · refine ⟨hl, hm, zs.take len, by rw [List.length_take]; omega, fun n hn => hwz n (List.mem_of_mem_take hn), ?_⟩
    by_cases h0 : len = 0
    · exact .inl (by simp [h0])
    · right
      obtain ⟨b, o, spot⟩ := x
      have hc := hcell 0 (by omega)
      have hspot : spot = none := by simpa [Addr.add] using World.cell?_spot hc
      subst hspot
      refine ⟨b, o, rfl, ?_, fun i n hi => ?_⟩
      · have := World.block_lt_of_cell? _ _ hc
        simpa [Addr.add] using this
      · rw [List.getElem?_take] at hi
        split at hi
        · rename_i hlt
          have h1 := hcell i (by omega)
          have e1 : (⟨b, o, none⟩ : Addr).add i = ⟨b, o + i, none⟩ := by unfold Addr.add; split <;> simp_all
          rw [e1] at h1
          rw [h1]
          simp [List.getD, hi]
        · simp at hi

theorem IsRow.bs {w : World} {a : Option Addr} {len cap : Nat} {zs : List Int} (h : IsRow .u8 w a len cap zs) :
    ∃ l : List Nat, len = l.length ∧ Bs w.heap.size w a l ∧ len ≤ cap ∧ cap ≤ 9223372036854775807 := by
  obtain ⟨h1, h2, l, hl, hw, hc⟩ := h.read
  unfold maxLen at h2
  refine ⟨l.map Int.toNat, by simp [hl], ⟨?_, ?_⟩, h1, by omega⟩
  · intro c hc
    obtain ⟨n, hn, rfl⟩ := List.mem_map.1 hc
    have := bounds_u8 (hw n hn)
    omega
  · rcases hc with rfl | ⟨b, o, ha, hb, hc⟩
    · exact .inl rfl
    · refine .inr ⟨b, o, ha, hb, fun i c hi => ?_⟩
      rw [List.getElem?_map] at hi
      cases hli : l[i]? with
      | none => rw [hli] at hi; simp at hi
      | some n =>
        rw [hli] at hi
        simp at hi
        have := bounds_u8 (hw n (List.mem_of_getElem? hli))
        rw [hc i n hli]
        congr 2; omega

/-- A row of bytes of the call's own. -/
def OwnB (w : World) (base : Nat) (T : TypeId) (v : Value) (l : List Nat) : Prop := (∀ c ∈ l, c < 256) ∧ w.ownsRow base T 1 v l.length (l.map fun (c : Nat) => Value.int .u8 (c : Int))

theorem OwnB.nil (w : World) (base : Nat) (T : TypeId) : OwnB w base T (.slice none 0 0) [] := ⟨by simp, World.ownsRow_nil _ _ _ _⟩

theorem OwnB.slice {w : World} {base : Nat} {T : TypeId} {v : Value} {l : List Nat} (h : OwnB w base T v l) : ∃ a cap, v = .slice a l.length cap ∧ l.length ≤ cap ∧ Bs w.heap.size w a l ∧ (l ≠ [] → ∃ g, a = some ⟨g, 0, none⟩ ∧ base ≤ g) := by
  obtain ⟨h0, h1, h2⟩ := h
  rcases h2 with ⟨hv, hn⟩ | ⟨g, cap, cur, hv, hg, hh, hnc, hcm, hcs, hcur⟩
  · have : l = [] := List.length_eq_zero_iff.1 hn
    subst this
    exact ⟨none, 0, by simpa using hv, by simp, ⟨by simp, .inl rfl⟩, by simp⟩
  · refine ⟨some ⟨g, 0, none⟩, cap, hv, hnc, ⟨h0, .inr ⟨g, 0, rfl, ?_, ?_⟩⟩, fun _ => ⟨g, rfl, hg⟩⟩
    · by_cases hlt : g < w.heap.size
      · exact hlt
      · rw [Array.getElem?_eq_none (by omega)] at hh; simp at hh
    · intro i c hi
      have hil : i < l.length := by
        by_cases hlt : i < l.length
        · exact hlt
        · rw [List.getElem?_eq_none (by omega)] at hi; simp at hi
      have e1 : (cur.toList.take (l.length * 1))[i]? = some (Value.int .u8 (c : Int)) := by rw [hcur]; simp [hi]
      rw [List.getElem?_take_of_lt (by omega)] at e1
      simp only [World.cell?, hh, Nat.zero_add]
      simpa using e1

theorem OwnB.below {w w' : World} {base N : Nat} {T : TypeId} {v : Value} {l : List Nat} (h : OwnB w base T v l) (hN : w.heap.size ≤ N) (hb : Below N w w') : OwnB w' base T v l := by
  obtain ⟨h0, h1, h2⟩ := h
  refine ⟨h0, h1, ?_⟩
  rcases h2 with h2 | ⟨g, cap, cur, hv, hg, hh, r⟩
  · exact .inl h2
  · refine .inr ⟨g, cap, cur, hv, hg, ?_, r⟩
    rw [hb.block g (by
      by_cases hlt : g < w.heap.size
      · omega
      · rw [Array.getElem?_eq_none (by omega)] at hh; simp at hh)]
    exact hh

/-- 'append(s, x)': x has just been laid in a block of its own. -/
theorem wpList_app1 {P : Program} {ops : Array Oper} {rest : List Oper} {o : Oper} {a : Act} {Q : Exit → Act → World → Prop} (hgd : o.guard = none) (s x : Operand) (t : TypeId)
    (ho : o.op = .call { callee := .builtin .append, args := #[s, x], argTypes := #[t, t] })
    (base : Nat) (e : TypeId) (i : TypeInfo) (ht : P.underlying t = some (.slice e)) (hi : P.info? e = some i) (hz : i.zero = some (.int .u8 0))
    (hsize : i.size = 1) (hby : i.bytes = 1)
    (v : Value) (l : List Nat) (w : World) (hown : OwnB w base e v l) (hs : a.eval s = v) (c : Nat) (hc : c < 256) (n : Int) (hn : n = (c : Int))
    (hx : a.eval x = .slice (some ⟨w.heap.size, 0, none⟩) 1 1) (hlen : l.length < 100000000000000) (hbase : base ≤ w.heap.size)
    (h : ∀ v' w', OwnB w' base e v' (l ++ [c]) → Below base w w' → w.heap.size < w'.heap.size → wpList P ops Q rest (a.put o.dst v') w') :
    wpList P ops Q (o :: rest) a (w.alloc (.cells #[.int .u8 n] e)) := by
  subst hn
  refine wpList_append_own (w.alloc (.cells #[.int .u8 (c : Int)] e)) hgd s x t ho base e i (.int .u8 0) 1 1 ht hi hz hsize hby rfl (by decide) v l.length _ hs (hown.2.alloc _) ⟨w.heap.size, 0, none⟩ 1 1 [.int .u8 (c : Int)] hx rfl ?_ ?_ ?_ ?_ ?_ ?_
  · intro j u hj
    match j, hj with
    | 0, hj => simp at hj; subst hj; simp [Addr.add]
  · intro u hu; simp at hu; subst hu; rfl
  · unfold maxLen; omega
  · omega
  · simp; omega
  · intro v' w' hown' hgrow _
    refine h v' w' ⟨?_, by simpa using hown'⟩ ?_ ?_
    · intro d hd
      simp at hd
      rcases hd with hd | hd
      · exact hown.1 d hd
      · omega
    · exact ((Below.refl base w).alloc hbase _).grown hgrow (by simp; omega) (fun j hj => (hown.2.lt j hj).1)
    · have := hgrow.size; simp at this; omega

end Go.Proofs.Ytockmoiekbhneaa
