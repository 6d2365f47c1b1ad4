/- The walks of PutText and GetText (varint's and hindsightref01's). -/
import Derived.Test.YtfldjmjnjeemeaaVInt2
import Derived.Lib.AppendStr
namespace Go.Proofs.Ytfldjmjnjeemeaa
open Go.RowKit

/-- The bytes of a string. -/
def bytesOf (s : ByteArray) : List Nat := s.data.toList.map UInt8.toNat

theorem bytesOf_len (s : ByteArray) : (bytesOf s).length = s.size := by simp [bytesOf]
theorem bytesOf_lt (s : ByteArray) : ∀ c ∈ bytesOf s, c < 256 := by
  intro c hc
  obtain ⟨u, _, rfl⟩ := List.mem_map.1 hc
  exact u.toNat_lt
theorem strN_bytesOf (s : ByteArray) : strN (bytesOf s) = s := by
  apply ByteArray.ext
  apply Array.toList_inj.1
  have e : (UInt8.ofNat ∘ UInt8.toNat) = id := by funext x; simp
  simp [strN, bytesOf, e]
theorem bytesOf_get (s : ByteArray) (i : Nat) (h : i < s.size) : (bytesOf s)[i]? = some s[i].toNat := by
  simp [bytesOf, h]
  rfl
theorem strCells_bytes (s : ByteArray) : Lib.strCells s = (bytesOf s).map fun (c : Nat) => Value.int .u8 (c : Int) := by
  simp [Lib.strCells, bytesOf]

/-- 'append(b, s...)' of a string. -/
theorem wpList_appStr {P : Program} {ops : Array Oper} {rest : List Oper} {o : Oper} {a : Act} {Q : Exit → Act → World → Prop} (hgd : o.guard = none) (sl x : Operand) (t u : TypeId)
    (ho : o.op = .call { callee := .builtin .append, args := #[sl, x], argTypes := #[t, u] })
    (base : Nat) (e : TypeId) (i : TypeInfo) (ht : P.underlying t = some (.slice e)) (hu : P.underlying u = some .string) (hi : P.info? e = some i) (hz : i.zero = some (.int .u8 0))
    (hsize : i.size = 1) (hby : i.bytes = 1)
    (v : Value) (l : List Nat) (w : World) (hown : OwnB w base e v l) (hs : a.eval sl = v) (s : ByteArray) (hx : a.eval x = .string s)
    (hlen : l.length + s.size < 100000000000000) (hbase : base ≤ w.heap.size)
    (h : ∀ v' w', OwnB w' base e v' (l ++ bytesOf s) → Below base w w' → w.heap.size ≤ w'.heap.size → wpList P ops Q rest (a.put o.dst v') w') : wpList P ops Q (o :: rest) a w := by
  refine Lib.wpList_append_own_string w hgd sl x t u ho base e i ht hu hi hz hsize hby v l.length _ hs hown.2 s hx ?_ ?_ hbase ?_
  · unfold maxLen; omega
  · omega
  · intro v' w' hown' hgrow _
    refine h v' w' ⟨?_, ?_⟩ ?_ hgrow.size
    · intro d hd
      rcases List.mem_append.1 hd with hd | hd
      · exact hown.1 d hd
      · exact bytesOf_lt s d hd
    · rw [strCells_bytes] at hown'
      simpa [bytesOf_len] using hown'
    · exact (Below.refl base w).grown hgrow hbase (fun j hj => (hown.2.lt j hj).1)

/-- 'append(b, c...)' of bytes that are not none. -/
theorem wpList_appB {P : Program} {ops : Array Oper} {rest : List Oper} {o : Oper} {a : Act} {Q : Exit → Act → World → Prop} (hgd : o.guard = none) (sl x : Operand) (t : TypeId)
    (ho : o.op = .call { callee := .builtin .append, args := #[sl, x], argTypes := #[t, t] })
    (base : Nat) (e : TypeId) (i : TypeInfo) (ht : P.underlying t = some (.slice e)) (hi : P.info? e = some i) (hz : i.zero = some (.int .u8 0))
    (hsize : i.size = 1) (hby : i.bytes = 1)
    (v : Value) (l : List Nat) (w : World) (hown : OwnB w base e v l) (hs : a.eval sl = v) (N : Nat) (ad : Option Addr) (m : List Nat) (n c : Nat) (hB : Bs N w ad m) (hm : m ≠ []) (hn : n = m.length) (hx : a.eval x = .slice ad n c)
    (hlen : l.length + m.length < 100000000000000) (hbase : base ≤ w.heap.size)
    (h : ∀ v' w', OwnB w' base e v' (l ++ m) → Below base w w' → w.heap.size ≤ w'.heap.size → wpList P ops Q rest (a.put o.dst v') w') : wpList P ops Q (o :: rest) a w := by
  subst hn
  obtain ⟨hB1, hB2⟩ := hB
  rcases hB2 with hB2 | ⟨b, f, rfl, hb, hc⟩
  · exact absurd hB2 hm
  · refine wpList_append_own w hgd sl x t ho base e i (.int .u8 0) 1 1 ht hi hz hsize hby rfl (by decide) v l.length _ hs hown.2 ⟨b, f, none⟩ m.length c (m.map fun (c : Nat) => Value.int .u8 (c : Int)) hx (by simp) ?_ ?_ ?_ ?_ hbase ?_
    · intro j u hj
      rw [List.getElem?_map] at hj
      cases hmj : m[j]? with
      | none => rw [hmj] at hj; simp at hj
      | some q =>
        rw [hmj] at hj
        simp at hj
        subst hj
        have e1 : (⟨b, f, none⟩ : Addr).add j = ⟨b, f + j, none⟩ := by unfold Addr.add; split <;> simp_all
        rw [e1]; exact hc j q hmj
    · intro u hu
      obtain ⟨q, _, rfl⟩ := List.mem_map.1 hu
      rfl
    · unfold maxLen; omega
    · omega
    · intro v' w' hown' hgrow _
      refine h v' w' ⟨?_, ?_⟩ ?_ hgrow.size
      · intro d hd
        rcases List.mem_append.1 hd with hd | hd
        · exact hown.1 d hd
        · exact hB1 d hd
      · simpa using hown'
      · exact (Below.refl base w).grown hgrow hbase (fun j hj => (hown.2.lt j hj).1)

/-- The text's bytes. -/
def textL (s : ByteArray) : List Nat := putL s.size ++ bytesOf s

/-- What GetText answers. -/
def textR (l : List Nat) (at_ : Int) : ByteArray × Int × Nat :=
  let g := getR l at_
  if g.2.2 ≠ 0 then (ByteArray.empty, 0, g.2.2)
  else if (l.length : Int) - g.2.1 < (g.1 : Int) then (ByteArray.empty, 0, 10)
  else (strN ((l.drop g.2.1.toNat).take g.1), g.2.1 + g.1, 0)


end Go.Proofs.Ytfldjmjnjeemeaa
