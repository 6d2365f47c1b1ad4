/- Several texts of one proof, one behind the other. -/
import Derived.Test.YtbnddpicpomakaaGreatDoorMPk3
import Derived.Lib.AppendStr
import Derived.Laws.BitsAllLaws
import Derived.WalkKit
import Derived.Laws.StructEq
import Derived.Lib.Hide
set_option linter.unusedSimpArgs false
set_option linter.unusedVariables false

/- The walks of PutText and GetText (varint's and hindsightref01's). -/
set_option linter.unusedSimpArgs false
set_option linter.unusedVariables false
set_option maxRecDepth 100000
namespace Go.Proofs.YtbnddpicpomakaaGreatDoor
open Go.RowKit

/-- The bytes of a string. -/
def bytesOf (s : ByteArray) : List Nat := s.data.toList.map UInt8.toNat

theorem bytesOf_len (s : ByteArray) : (bytesOf s).length = s.size := by simp [bytesOf]
theorem bytesOf_lt (s : ByteArray) : ∀ c ∈ bytesOf s, c < 256 := by
  intro c hc
  obtain ⟨u, _, rfl⟩ := List.mem_map.1 hc
  exact u.toNat_lt
theorem strN_bytesOf (s : ByteArray) : strN (bytesOf s) = s := by
  apply ByteArray.ext
  apply Array.toList_inj.1
  have e : (UInt8.ofNat ∘ UInt8.toNat) = id := by funext x; simp
  simp [strN, bytesOf, e]
theorem bytesOf_get (s : ByteArray) (i : Nat) (h : i < s.size) : (bytesOf s)[i]? = some s[i].toNat := by
  simp [bytesOf, h]
  rfl
theorem strCells_bytes (s : ByteArray) : Lib.strCells s = (bytesOf s).map fun (c : Nat) => Value.int .u8 (c : Int) := by
  simp [Lib.strCells, bytesOf]

/-- 'append(b, s...)' of a string. -/
theorem wpList_appStr {P : Program} {ops : Array Oper} {rest : List Oper} {o : Oper} {a : Act} {Q : Exit → Act → World → Prop} (hgd : o.guard = none) (sl x : Operand) (t u : TypeId)
    (ho : o.op = .call { callee := .builtin .append, args := #[sl, x], argTypes := #[t, u] })
    (base : Nat) (e : TypeId) (i : TypeInfo) (ht : P.underlying t = some (.slice e)) (hu : P.underlying u = some .string) (hi : P.info? e = some i) (hz : i.zero = some (.int .u8 0))
    (hsize : i.size = 1) (hby : i.bytes = 1)
    (v : Value) (l : List Nat) (w : World) (hown : OwnB w base e v l) (hs : a.eval sl = v) (s : ByteArray) (hx : a.eval x = .string s)
    (hlen : l.length + s.size < 100000000000000) (hbase : base ≤ w.heap.size)
    (h : ∀ v' w', OwnB w' base e v' (l ++ bytesOf s) → Below base w w' → w.heap.size ≤ w'.heap.size → wpList P ops Q rest (a.put o.dst v') w') : wpList P ops Q (o :: rest) a w := by
  refine Lib.wpList_append_own_string w hgd sl x t u ho base e i ht hu hi hz hsize hby v l.length _ hs hown.2 s hx ?_ ?_ hbase ?_
  · unfold maxLen; omega
  · omega
  · intro v' w' hown' hgrow _
    refine h v' w' ⟨?_, ?_⟩ ?_ hgrow.size
    · intro d hd
      rcases List.mem_append.1 hd with hd | hd
      · exact hown.1 d hd
      · exact bytesOf_lt s d hd
    · rw [strCells_bytes] at hown'
      simpa [bytesOf_len] using hown'
    · exact (Below.refl base w).grown hgrow hbase (fun j hj => (hown.2.lt j hj).1)

/-- 'append(b, c...)' of bytes that are not none. -/
theorem wpList_appB {P : Program} {ops : Array Oper} {rest : List Oper} {o : Oper} {a : Act} {Q : Exit → Act → World → Prop} (hgd : o.guard = none) (sl x : Operand) (t : TypeId)
    (ho : o.op = .call { callee := .builtin .append, args := #[sl, x], argTypes := #[t, t] })
    (base : Nat) (e : TypeId) (i : TypeInfo) (ht : P.underlying t = some (.slice e)) (hi : P.info? e = some i) (hz : i.zero = some (.int .u8 0))
    (hsize : i.size = 1) (hby : i.bytes = 1)
    (v : Value) (l : List Nat) (w : World) (hown : OwnB w base e v l) (hs : a.eval sl = v) (N : Nat) (ad : Option Addr) (m : List Nat) (n c : Nat) (hB : Bs N w ad m) (hm : m ≠ []) (hn : n = m.length) (hx : a.eval x = .slice ad n c)
    (hlen : l.length + m.length < 100000000000000) (hbase : base ≤ w.heap.size)
    (h : ∀ v' w', OwnB w' base e v' (l ++ m) → Below base w w' → w.heap.size ≤ w'.heap.size → wpList P ops Q rest (a.put o.dst v') w') : wpList P ops Q (o :: rest) a w := by
  subst hn
  obtain ⟨hB1, hB2⟩ := hB
  rcases hB2 with hB2 | ⟨b, f, rfl, hb, hc⟩
  · exact absurd hB2 hm
  · refine wpList_append_own w hgd sl x t ho base e i (.int .u8 0) 1 1 ht hi hz hsize hby rfl (by decide) v l.length _ hs hown.2 ⟨b, f, none⟩ m.length c (m.map fun (c : Nat) => Value.int .u8 (c : Int)) hx (by simp) ?_ ?_ ?_ ?_ hbase ?_
    · intro j u hj
      rw [List.getElem?_map] at hj
      cases hmj : m[j]? with
      | none => rw [hmj] at hj; simp at hj
      | some q =>
        rw [hmj] at hj
        simp at hj
        subst hj
        have e1 : (⟨b, f, none⟩ : Addr).add j = ⟨b, f + j, none⟩ := by unfold Addr.add; split <;> simp_all
        rw [e1]; exact hc j q hmj
    · intro u hu
      obtain ⟨q, _, rfl⟩ := List.mem_map.1 hu
      rfl
    · unfold maxLen; omega
    · omega
    · intro v' w' hown' hgrow _
      refine h v' w' ⟨?_, ?_⟩ ?_ hgrow.size
      · intro d hd
        rcases List.mem_append.1 hd with hd | hd
        · exact hown.1 d hd
        · exact hB1 d hd
      · simpa using hown'
      · exact (Below.refl base w).grown hgrow hbase (fun j hj => (hown.2.lt j hj).1)

/-- The text's bytes. -/
def textL (s : ByteArray) : List Nat := putL s.size ++ bytesOf s

/-- What GetText answers. -/
def textR (l : List Nat) (at_ : Int) : ByteArray × Int × Nat :=
  let g := getR l at_
  if g.2.2 ≠ 0 then (ByteArray.empty, 0, g.2.2)
  else if (l.length : Int) - g.2.1 < (g.1 : Int) then (ByteArray.empty, 0, 10)
  else (strN ((l.drop g.2.1.toNat).take g.1), g.2.1 + g.1, 0)


end Go.Proofs.YtbnddpicpomakaaGreatDoor

/- The mathematics of nodes: what they are, their bytes, what is read. -/
set_option linter.unusedSimpArgs false
set_option linter.unusedVariables false
set_option maxRecDepth 100000
namespace Go.Proofs.YtbnddpicpomakaaGreatDoor
open Go.RowKit

/-- A part of a node: a key, a value's length, and what stands behind the key. -/
structure Pt where
  key : ByteArray
  len : Int
  data : ByteArray
  page : Int
  deriving DecidableEq

/-- A node as the document has it: a kind, a first kid, and parts. -/
structure Rn where
  leaf : Bool
  kid : Int
  l : List Pt
  deriving DecidableEq

/-- A cell. -/
structure Cl where
  len : Int
  data : ByteArray
  page : Int
  deriving DecidableEq

/-- A node as the program has it. -/
structure Nd where
  leaf : Bool
  keys : List ByteArray
  cells : List Cl
  kids : List Int
  deriving DecidableEq

def cellsP (l : List Pt) : List Value := cellsOf (fun p => [.string p.key, .int .i64 p.len, .string p.data, .int .i64 p.page]) l
def cellsC (l : List Cl) : List Value := cellsOf (fun c => [.int .i64 c.len, .string c.data, .int .i64 c.page]) l
def cellsS (l : List ByteArray) : List Value := cellsOf (fun s => [.string s]) l
def cellsI (l : List Int) : List Value := cellsOf (fun n => [.int .i64 n]) l

theorem cellsP_len (l : List Pt) : (cellsP l).length = l.length * 4 := cellsOf_len _ 4 (fun _ => rfl) l
theorem cellsC_len (l : List Cl) : (cellsC l).length = l.length * 3 := cellsOf_len _ 3 (fun _ => rfl) l
theorem cellsS_len (l : List ByteArray) : (cellsS l).length = l.length * 1 := cellsOf_len _ 1 (fun _ => rfl) l
theorem cellsI_len (l : List Int) : (cellsI l).length = l.length * 1 := cellsOf_len _ 1 (fun _ => rfl) l

/-- The cells of the k-th part. -/
theorem partAt {N : Nat} {w : World} {a : Option Addr} {l : List Pt} (h : Arr N w a (cellsP l)) {k : Nat} (hk : k < l.length) : ∃ b o, a = some ⟨b, o, none⟩ ∧ b < N ∧
    w.cell? ⟨b, o + k * 4, none⟩ = some (.string l[k].key) ∧ w.cell? ⟨b, o + k * 4 + 1, none⟩ = some (.int .i64 l[k].len) ∧ w.cell? ⟨b, o + k * 4 + 2, none⟩ = some (.string l[k].data) ∧ w.cell? ⟨b, o + k * 4 + 3, none⟩ = some (.int .i64 l[k].page) := by
  obtain ⟨b, o, ha, hb, hc⟩ := h.at_ (by intro h0; have := cellsP_len l; rw [h0] at this; simp at this; omega)
  have g := fun (j : Nat) (v : Value) (hv : ((fun p : Pt => [.string p.key, .int .i64 p.len, .string p.data, .int .i64 p.page]) l[k])[j]? = some v) => hc _ _ (cellsOf_get (fun p : Pt => [.string p.key, .int .i64 p.len, .string p.data, .int .i64 p.page]) 4 (fun _ => rfl) l k j l[k] v (List.getElem?_eq_getElem hk) hv)
  exact ⟨b, o, ha, hb, by simpa using g 0 _ rfl, by simpa [Nat.add_assoc] using g 1 _ rfl, by simpa [Nat.add_assoc] using g 2 _ rfl, by simpa [Nat.add_assoc] using g 3 _ rfl⟩
/-- The cells of the k-th cell of a node. -/
theorem cellAt {N : Nat} {w : World} {a : Option Addr} {l : List Cl} (h : Arr N w a (cellsC l)) {k : Nat} (hk : k < l.length) : ∃ b o, a = some ⟨b, o, none⟩ ∧ b < N ∧
    w.cell? ⟨b, o + k * 3, none⟩ = some (.int .i64 l[k].len) ∧ w.cell? ⟨b, o + k * 3 + 1, none⟩ = some (.string l[k].data) ∧ w.cell? ⟨b, o + k * 3 + 2, none⟩ = some (.int .i64 l[k].page) := by
  obtain ⟨b, o, ha, hb, hc⟩ := h.at_ (by intro h0; have := cellsC_len l; rw [h0] at this; simp at this; omega)
  have g := fun (j : Nat) (v : Value) (hv : ((fun c : Cl => [.int .i64 c.len, .string c.data, .int .i64 c.page]) l[k])[j]? = some v) => hc _ _ (cellsOf_get (fun c : Cl => [.int .i64 c.len, .string c.data, .int .i64 c.page]) 3 (fun _ => rfl) l k j l[k] v (List.getElem?_eq_getElem hk) hv)
  exact ⟨b, o, ha, hb, by simpa using g 0 _ rfl, by simpa [Nat.add_assoc] using g 1 _ rfl, by simpa [Nat.add_assoc] using g 2 _ rfl⟩
theorem strAt {N : Nat} {w : World} {a : Option Addr} {l : List ByteArray} (h : Arr N w a (cellsS l)) {k : Nat} (hk : k < l.length) : ∃ b o, a = some ⟨b, o, none⟩ ∧ b < N ∧ w.cell? ⟨b, o + k, none⟩ = some (.string l[k]) := by
  obtain ⟨b, o, ha, hb, hc⟩ := h.at_ (by intro h0; have := cellsS_len l; rw [h0] at this; simp at this; omega)
  have g := fun (j : Nat) (v : Value) (hv : ((fun s : ByteArray => [Value.string s]) l[k])[j]? = some v) => hc _ _ (cellsOf_get (fun s : ByteArray => [Value.string s]) 1 (fun _ => rfl) l k j l[k] v (List.getElem?_eq_getElem hk) hv)
  exact ⟨b, o, ha, hb, by simpa using g 0 _ rfl⟩
theorem intAt {N : Nat} {w : World} {a : Option Addr} {l : List Int} (h : Arr N w a (cellsI l)) {k : Nat} (hk : k < l.length) : ∃ b o, a = some ⟨b, o, none⟩ ∧ b < N ∧ w.cell? ⟨b, o + k, none⟩ = some (.int .i64 l[k]) := by
  obtain ⟨b, o, ha, hb, hc⟩ := h.at_ (by intro h0; have := cellsI_len l; rw [h0] at this; simp at this; omega)
  have g := fun (j : Nat) (v : Value) (hv : ((fun n : Int => [Value.int .i64 n]) l[k])[j]? = some v) => hc _ _ (cellsOf_get (fun n : Int => [Value.int .i64 n]) 1 (fun _ => rfl) l k j l[k] v (List.getElem?_eq_getElem hk) hv)
  exact ⟨b, o, ha, hb, by simpa using g 0 _ rfl⟩

def okPage (p : Int) : Bool := decide (1 ≤ p ∧ p ≤ 4095)
/-- A valid cell. -/
def Cl.ok (c : Cl) : Bool := decide (0 ≤ c.len ∧ c.len ≤ 8192 ∧ (c.len ≤ 120 → (c.data.size : Int) = c.len ∧ c.page = 0) ∧ (¬ c.len ≤ 120 → c.data.size = 0 ∧ 1 ≤ c.page ∧ c.page ≤ 4095))
/-- A part that may be in a leaf, or in another node. -/
def Pt.okL (x : Pt) : Bool := Cl.ok ⟨x.len, x.data, x.page⟩
def Pt.okI (x : Pt) : Bool := decide (x.len = 0 ∧ x.data.size = 0 ∧ 1 ≤ x.page ∧ x.page ≤ 4095)

def lessK (p k : ByteArray) : Bool := Op.bytesLess p.toList k.toList

/-- Keys that may be. -/
def KeysOk (l : List ByteArray) : Prop := ∀ (i : Nat) k, l[i]? = some k → k.size ≤ 100 ∧ (0 < i → ∀ p, l[i - 1]? = some p → lessK p k = true)
open Classical in
noncomputable def keysOk (l : List ByteArray) : Bool := decide (KeysOk l)

theorem KeysOk.take {l : List ByteArray} (h : KeysOk l) (n : Nat) : KeysOk (l.take n) := by
  intro i k hi
  rw [List.getElem?_take] at hi
  split at hi
  · rename_i hlt
    refine ⟨(h i k hi).1, fun h0 p hp => (h i k hi).2 h0 p ?_⟩
    rw [List.getElem?_take] at hp
    split at hp
    · exact hp
    · simp at hp
  · simp at hi
theorem KeysOk.succ {l : List ByteArray} {n : Nat} (h : KeysOk (l.take n)) (hn : n < l.length) (h1 : l[n].size ≤ 100) (h2 : 0 < n → ∀ p, l[n - 1]? = some p → lessK p l[n] = true) : KeysOk (l.take (n + 1)) := by
  intro i k hi
  rw [List.getElem?_take] at hi
  split at hi
  · rename_i hlt
    by_cases hin : i < n
    · have h0 := h i k (by rw [List.getElem?_take, if_pos hin]; exact hi)
      refine ⟨h0.1, fun hz p hp => h0.2 hz p ?_⟩
      rw [List.getElem?_take] at hp ⊢
      rw [if_pos (by omega)] at hp ⊢
      exact hp
    · have : i = n := by omega
      subst this
      rw [List.getElem?_eq_getElem hn] at hi
      simp at hi; subst hi
      refine ⟨h1, fun hz p hp => ?_⟩
      rw [List.getElem?_take, if_pos (by omega)] at hp
      exact h2 hz p hp
  · simp at hi
theorem KeysOk.len_no {l : List ByteArray} {n : Nat} (hn : n < l.length) (h : ¬ l[n].size ≤ 100) : ¬ KeysOk l := fun H => h (H n _ (List.getElem?_eq_getElem hn)).1
theorem KeysOk.less_no {l : List ByteArray} {n : Nat} (hn : n < l.length) {p : ByteArray} (hp : l[n - 1]? = some p) (h0 : 0 < n) (h : lessK p l[n] = false) : ¬ KeysOk l := fun H => by
  have := (H n _ (List.getElem?_eq_getElem hn)).2 h0 _ hp
  rw [h] at this; cases this

/-- A node that may be, as the program has it. -/
def Nd.Ok (n : Nd) : Prop := KeysOk n.keys ∧ (if n.leaf then n.cells.length = n.keys.length ∧ n.kids = [] ∧ ∀ c ∈ n.cells, c.ok = true else n.keys ≠ [] ∧ n.kids.length = n.keys.length + 1 ∧ n.cells = [] ∧ ∀ p ∈ n.kids, okPage p = true)
open Classical in
noncomputable def Nd.ok (n : Nd) : Bool := decide n.Ok

/-- .. and as the document has it. -/
def Rn.Ok (n : Rn) : Prop := KeysOk (n.l.map Pt.key) ∧ (if n.leaf then n.kid = 0 ∧ ∀ x ∈ n.l, x.okL = true else n.l ≠ [] ∧ okPage n.kid = true ∧ ∀ x ∈ n.l, x.okI = true)
open Classical in
noncomputable def Rn.ok (n : Rn) : Bool := decide n.Ok

/-- The program's node as the document's: of a leaf the cells, of another node the kids behind the first. -/
def zipL : List ByteArray → List Cl → List Pt
  | k :: ks, c :: cs => ⟨k, c.len, c.data, c.page⟩ :: zipL ks cs
  | _, _ => []
def zipI : List ByteArray → List Int → List Pt
  | k :: ks, p :: ps => ⟨k, 0, ⟨#[]⟩, p⟩ :: zipI ks ps
  | _, _ => []
def Nd.shaped (n : Nd) : Bool := if n.leaf then decide (n.cells.length = n.keys.length ∧ n.kids.length = 0) else decide (n.kids.length = n.keys.length + 1 ∧ n.cells.length = 0)
def Nd.asR (n : Nd) : Rn := if n.leaf then ⟨true, 0, zipL n.keys n.cells⟩ else ⟨false, n.kids.headD 0, zipI n.keys n.kids.tail⟩
/-- .. and back. -/
def Rn.asN (x : Rn) : Nd := if x.leaf then ⟨true, x.l.map Pt.key, x.l.map fun p => ⟨p.len, p.data, p.page⟩, []⟩ else ⟨false, x.l.map Pt.key, [], x.kid :: x.l.map Pt.page⟩
/-- The document's node has nothing that the program's can't have. -/
def Rn.plain (x : Rn) : Prop := if x.leaf then x.kid = 0 else ∀ p ∈ x.l, p.len = 0 ∧ p.data = ⟨#[]⟩

theorem zipL_key : ∀ (ks : List ByteArray) (cs : List Cl), cs.length = ks.length → (zipL ks cs).map Pt.key = ks ∧ (zipL ks cs).map (fun p => (⟨p.len, p.data, p.page⟩ : Cl)) = cs
  | [], [], _ => by simp [zipL]
  | [], _ :: _, h => by simp at h
  | _ :: _, [], h => by simp at h
  | k :: ks, c :: cs, h => by
    have := zipL_key ks cs (by simpa using h)
    simp [zipL, this.1, this.2]
theorem zipI_key : ∀ (ks : List ByteArray) (cs : List Int), cs.length = ks.length → (zipI ks cs).map Pt.key = ks ∧ (zipI ks cs).map Pt.page = cs
  | [], [], _ => by simp [zipI]
  | [], _ :: _, h => by simp at h
  | _ :: _, [], h => by simp at h
  | k :: ks, c :: cs, h => by
    have := zipI_key ks cs (by simpa using h)
    simp [zipI, this.1, this.2]
theorem zipI_plain : ∀ (ks : List ByteArray) (cs : List Int), ∀ p ∈ zipI ks cs, p.len = 0 ∧ p.data = ⟨#[]⟩
  | [], _, p, h => by simp [zipI] at h
  | _ :: _, [], p, h => by simp [zipI] at h
  | k :: ks, c :: cs, p, h => by
    simp [zipI] at h
    rcases h with rfl | h
    · exact ⟨rfl, rfl⟩
    · exact zipI_plain ks cs p h

theorem asN_asR {n : Nd} (h : n.shaped = true) : n.asR.asN = n ∧ n.asR.plain := by
  obtain ⟨leaf, ks, cs, ps⟩ := n
  cases leaf with
  | true =>
    simp only [Nd.shaped, if_true, decide_eq_true_eq] at h
    have := zipL_key ks cs h.1
    have h2 : ps = [] := List.length_eq_zero_iff.1 h.2
    subst h2
    simp [Nd.asR, Rn.asN, Rn.plain, this.1, this.2]
  | false =>
    simp only [Nd.shaped, Bool.false_eq_true, if_false, decide_eq_true_eq] at h
    have h2 : cs = [] := List.length_eq_zero_iff.1 h.2
    subst h2
    match ps, h with
    | p :: ps, h =>
      have := zipI_key ks ps (by simpa using h.1)
      simp [Nd.asR, Rn.asN, Rn.plain, this.1, this.2]
      exact fun q hq => zipI_plain ks ps q hq

theorem zipL_map (l : List Pt) : zipL (l.map Pt.key) (l.map fun p => (⟨p.len, p.data, p.page⟩ : Cl)) = l := by
  induction l with
  | nil => rfl
  | cons x r ih => simp [zipL, ih]
theorem zipI_map (l : List Pt) (h : ∀ p ∈ l, p.len = 0 ∧ p.data = ⟨#[]⟩) : zipI (l.map Pt.key) (l.map Pt.page) = l := by
  induction l with
  | nil => rfl
  | cons x r ih =>
    obtain ⟨k, n, d, p⟩ := x
    have := h _ (List.mem_cons_self)
    simp only at this
    obtain ⟨rfl, rfl⟩ := this
    simp [zipI, ih (fun p hp => h p (List.mem_cons_of_mem _ hp))]

theorem asR_asN {x : Rn} (h : x.plain) : x.asN.asR = x ∧ x.asN.shaped = true := by
  obtain ⟨leaf, kid, l⟩ := x
  cases leaf with
  | true =>
    simp only [Rn.plain, if_true] at h
    simp [Rn.asN, Nd.asR, Nd.shaped, zipL_map, h]
  | false =>
    simp only [Rn.plain, Bool.false_eq_true, if_false] at h
    simp [Rn.asN, Nd.asR, Nd.shaped, zipI_map l h]

theorem okI_of {x : Pt} (h1 : x.len = 0) (h2 : x.data = ⟨#[]⟩) : x.okI = okPage x.page := by
  unfold Pt.okI okPage
  rw [h1, h2]
  simp [ByteArray.size]

/-- The program's node may be just where the document's may. -/
theorem ok_iff (n : Nd) : n.Ok ↔ n.shaped = true ∧ n.asR.Ok := by
  constructor
  · intro h
    obtain ⟨hk, h⟩ := h
    obtain ⟨leaf, ks, cs, ps⟩ := n
    cases leaf with
    | true =>
      simp only [if_true] at h hk
      obtain ⟨h1, h2, h3⟩ := h
      have hz := zipL_key ks cs h1
      refine ⟨by simp [Nd.shaped, h1, h2], ?_⟩
      simp only [Rn.Ok, Nd.asR, if_true, hz.1]
      refine ⟨hk, trivial, fun x hx => ?_⟩
      have : (⟨x.len, x.data, x.page⟩ : Cl) ∈ cs := by rw [← hz.2]; exact List.mem_map.2 ⟨x, hx, rfl⟩
      exact h3 _ this
    | false =>
      simp only [Bool.false_eq_true, if_false] at h hk
      obtain ⟨h0, h1, h2, h3⟩ := h
      match ps, h1, h3 with
      | p :: ps, h1, h3 =>
        have hz := zipI_key ks ps (by simpa using h1)
        refine ⟨by simp [Nd.shaped, h2]; simpa using h1, ?_⟩
        simp only [Rn.Ok, Nd.asR, Bool.false_eq_true, if_false, List.tail_cons, List.headD_cons, hz.1]
        refine ⟨hk, ?_, h3 p (by simp), fun x hx => ?_⟩
        · intro h; apply h0; rw [← hz.1, h]; rfl
        · have := zipI_plain ks ps x hx
          rw [okI_of this.1 this.2]
          apply h3
          have : x.page ∈ ps := by rw [← hz.2]; exact List.mem_map.2 ⟨x, hx, rfl⟩
          simp [this]
  · rintro ⟨hs, h⟩
    obtain ⟨leaf, ks, cs, ps⟩ := n
    cases leaf with
    | true =>
      simp only [Nd.shaped, if_true, decide_eq_true_eq] at hs
      have hz := zipL_key ks cs hs.1
      simp only [Rn.Ok, Nd.asR, if_true, hz.1] at h
      refine ⟨h.1, ?_⟩
      simp only [if_true]
      refine ⟨hs.1, List.length_eq_zero_iff.1 hs.2, fun c hc => ?_⟩
      rw [← hz.2] at hc
      obtain ⟨x, hx, rfl⟩ := List.mem_map.1 hc
      exact h.2.2 x hx
    | false =>
      simp only [Nd.shaped, Bool.false_eq_true, if_false, decide_eq_true_eq] at hs
      match ps, hs, h with
      | p :: ps, hs, h =>
        have hz := zipI_key ks ps (by simpa using hs.1)
        simp only [Rn.Ok, Nd.asR, Bool.false_eq_true, if_false, List.tail_cons, List.headD_cons, hz.1] at h
        refine ⟨h.1, ?_⟩
        simp only [Bool.false_eq_true, if_false]
        refine ⟨?_, hs.1, List.length_eq_zero_iff.1 hs.2, fun q hq => ?_⟩
        · intro h0; apply h.2.1; subst h0; simp [zipI]
        · rcases List.mem_cons.1 hq with rfl | hq
          · exact h.2.2.1
          · rw [← hz.2] at hq
            obtain ⟨x, hx, rfl⟩ := List.mem_map.1 hq
            have := zipI_plain ks ps x hx
            rw [← okI_of this.1 this.2]
            exact h.2.2.2 x hx
end Go.Proofs.YtbnddpicpomakaaGreatDoor

/- Plain mathematics of layer 2: the values of SQL. -/
set_option linter.unusedSimpArgs false
set_option linter.unusedVariables false
set_option maxRecDepth 100000
namespace Go.Proofs.YtbnddpicpomakaaGreatDoor

/-- A value: its kind, its integer, its text. -/
structure Vl where
  k : Nat
  n : Int
  s : ByteArray
  deriving DecidableEq

/-- A value's fields fit their types. -/
def Vl.ok (x : Vl) : Prop := x.k < 256 ∧ -9223372036854775808 ≤ x.n ∧ x.n ≤ 9223372036854775807

def Vl.right (x : Vl) : Bool :=
  if x.k = 0 then decide (x.n = 0) && decide (x.s.size = 0)
  else if x.k = 1 then decide (x.s.size = 0)
  else if x.k = 2 ∨ x.k = 3 then decide (x.n = 0)
  else false

def nullV : Vl := ⟨0, 0, ⟨#[]⟩⟩
def numV (n : Int) : Vl := ⟨1, n, ⟨#[]⟩⟩

/-- Does an int64 hold it? -/
def fits (n : Int) : Bool := decide (-9223372036854775808 ≤ n ∧ n ≤ 9223372036854775807)

def addI (x y : Int) : Int × Int := if fits (x + y) then (x + y, 0) else (0, 21)
def subI (x y : Int) : Int × Int := if fits (x - y) then (x - y, 0) else (0, 21)
def mulI (x y : Int) : Int × Int := if fits (x * y) then (x * y, 0) else (0, 21)
def divI (x y : Int) : Int × Int := if y = 0 then (0, 22) else if fits (x.tdiv y) then (x.tdiv y, 0) else (0, 21)
def modI (x y : Int) : Int × Int := if y = 0 then (0, 22) else (x.tmod y, 0)

/-- An operation on two values. -/
def arithV (op : Int → Int → Int × Int) (a b : Vl) : Vl × Int :=
  if a.right = false ∨ b.right = false then (nullV, 3)
  else if 1 < a.k ∨ 1 < b.k then (nullV, 20)
  else if a.k = 0 ∨ b.k = 0 then (nullV, 0)
  else if (op a.n b.n).2 ≠ 0 then (nullV, (op a.n b.n).2) else (numV (op a.n b.n).1, 0)

theorem fits_iff (n : Int) : fits n = true ↔ -9223372036854775808 ≤ n ∧ n ≤ 9223372036854775807 := by simp [fits]

/-- A product that wrapped doesn't give back its factor. -/
theorem mul_back (x y : Int) (hx1 : -9223372036854775808 ≤ x) (hx2 : x ≤ 9223372036854775807) (hy1 : -9223372036854775808 ≤ y) (hy2 : y ≤ 9223372036854775807) (hy : y ≠ 0)
    (hf : fits (x * y) = false) : (IntKind.i64.wrap (x * y)).tdiv y ≠ x := by
  intro h
  have hnf : ¬ (-9223372036854775808 ≤ x * y ∧ x * y ≤ 9223372036854775807) := by
    intro hh; rw [(fits_iff _).2 hh] at hf; cases hf
  have hdm := Int.tdiv_mul_add_tmod (IntKind.i64.wrap (x * y)) y
  rw [h] at hdm
  have hlt : ((IntKind.i64.wrap (x * y)).tmod y).natAbs < y.natAbs := by rw [Int.natAbs_tmod]; exact Nat.mod_lt _ (by omega)
  rw [IntKind.wrap_i64] at *
  generalize x * y = p at *
  omega

end Go.Proofs.YtbnddpicpomakaaGreatDoor

/- The walks of layer 2's small functions. -/
set_option linter.unusedSimpArgs false
set_option linter.unusedVariables false
set_option maxRecDepth 100000
namespace Go.Proofs.YtbnddpicpomakaaGreatDoor
open Go.RowKit

theorem ret_b {a b : Bool} (h : a = b) : Ending.returned (.bool a) = .returned (.bool b) := by rw [h]

theorem Below.box (w : World) (o : Obj) : Below w.heap.size w (w.alloc o) := (Below.refl _ _).alloc (Nat.le_refl _) _

theorem null_any (w : World) : Calls Tryz.prog 123 #[] w fun e w' => e = .returned (.agg #[.int .u8 0, .int .i64 0, .string ⟨#[]⟩]) ∧ Below w.heap.size w w' := by
  go_enter Tryz.func123, Tryz.ntmps123
  go_wp2
  exact bodyPost_ret (v := .agg #[.int .u8 0, .int .i64 0, .string ⟨#[]⟩]) (by simp [results, Tryz.results123, go_sem]) rfl ⟨rfl, Below.box _ _⟩

theorem whole_any (n : Int) (w : World) : Calls Tryz.prog 124 #[.int .i64 n] w fun e w' => e = .returned (.agg #[.int .u8 1, .int .i64 n, .string ⟨#[]⟩]) ∧ Below w.heap.size w w' := by
  go_enter Tryz.func124, Tryz.ntmps124
  go_wp2
  exact bodyPost_ret (v := .agg #[.int .u8 1, .int .i64 n, .string ⟨#[]⟩]) (by simp [results, Tryz.results124, go_sem]) rfl ⟨rfl, Below.box _ _⟩

theorem kinds (k : Nat) : k = 0 ∨ k = 1 ∨ k = 2 ∨ k = 3 ∨ 3 < k := by omega

theorem right_big {k : Nat} (n : Int) (s : ByteArray) (hk : 3 < k) : Vl.right ⟨k, n, s⟩ = false := by
  unfold Vl.right
  rw [if_neg (by simp only; omega), if_neg (by simp only; omega), if_neg (by simp only; omega)]

theorem rright_any (k : Nat) (n : Int) (s : ByteArray) (w : World) : Calls Tryz.prog 77 #[.agg #[.int .u8 k, .int .i64 n, .string s]] w fun e w' => e = .returned (.bool (Vl.right ⟨k, n, s⟩)) ∧ Below w.heap.size w w' := by
  rcases kinds k with rfl | rfl | rfl | rfl | hk
  all_goals
    go_enter Tryz.func77, Tryz.ntmps77
    go_wp2
    all_goals
      go_ret
      exact ⟨ret_b (by first | (rw [right_big _ _ hk]; done) | (rw [right_big _ _ hk]; simp; omega) | (rw [Bool.eq_iff_iff]; simp [Vl.right, *])), Below.box _ _⟩
end Go.Proofs.YtbnddpicpomakaaGreatDoor

/- '==' of two values of SQL. -/
set_option linter.unusedSimpArgs false
set_option linter.unusedVariables false
set_option maxRecDepth 100000
namespace Go.Proofs.YtbnddpicpomakaaGreatDoor
open Go.RowKit

@[go_sem high] theorem eqV (k k' n n' : Int) (s s' : ByteArray) (w : World) : (Op.equalIn 10000 42 (.agg #[.int .u8 k, .int .i64 n, .string s]) (.agg #[.int .u8 k', .int .i64 n', .string s'])).run Tryz.prog w = .ok (k == k' && (n == n' && s.toList == s'.toList)) w := by
  have hS : Tryz.prog.underlying 42 = some (.struct (Tryz.prog.fieldsOf 42)) := by kernel_rfl
  have hp : Tryz.prog.stoodInHeld 42 = false := by kernel_rfl
  rw [show (10000 : Nat) = 9999 + 1 from rfl, run_equalIn_agg w 9999 42 _ _ hS hp]
  simp only [Program.fieldsOf, Tryz.underlying42]
  go_simp
  by_cases h1 : k = k' <;> by_cases h2 : n = n' <;> by_cases h3 : s.toList = s'.toList <;> simp [h1, h2, h3]

@[go_sem] theorem eqGuardV : Tryz.prog.eqGuardType Tryz.prog.depth 42 = false := by kernel_rfl

theorem isEmpty_size (s : ByteArray) : s.toList.isEmpty = decide (s.size = 0) := by
  have : s.toList = s.data.toList := ByteArray.toList_eq s
  rw [this]
  cases h : s.data.toList with
  | nil => simp [ByteArray.size, ← Array.length_toList, h]
  | cons x r => simp [ByteArray.size, ← Array.length_toList, h]
end Go.Proofs.YtbnddpicpomakaaGreatDoor

/- The walks of node.Right and what it calls. -/
set_option linter.unusedSimpArgs false
set_option linter.unusedVariables false
set_option maxRecDepth 100000
namespace Go.Proofs.YtbnddpicpomakaaGreatDoor
open Go.RowKit

theorem empty_list (s : ByteArray) (h : s.size = 0) : s.toList = [] := by rw [ByteArray.toList_eq, Array.size_eq_zero_iff.1 (show s.data.size = 0 from h)]
theorem empty_not (s : ByteArray) (h : ¬ s.size = 0) : ¬ s.toList = [] := fun h2 => h (by
  have := isEmpty_size s
  rw [h2] at this
  simpa using this.symm)

end Go.Proofs.YtbnddpicpomakaaGreatDoor

/- The walk of cell.Right. -/
set_option linter.unusedSimpArgs false
set_option linter.unusedVariables false
set_option maxRecDepth 100000
namespace Go.Proofs.YtbnddpicpomakaaGreatDoor
open Go.RowKit

/-- A boxed value is there in every later world. -/
theorem box_later (w : World) (T : TypeId) (v0 v1 v2 : Value) : ∀ W, Later (w.alloc (.cells #[v0, v1, v2] T)) W →
    W.cell? ⟨w.heap.size, 0, none⟩ = some v0 ∧ W.cell? ⟨w.heap.size, 1, none⟩ = some v1 ∧ W.cell? ⟨w.heap.size, 2, none⟩ = some v2 := by
  intro W h
  have hs : (w.alloc (.cells #[v0, v1, v2] T)).heap.size = w.heap.size + 1 := by simp
  refine ⟨?_, ?_, ?_⟩
  · rw [h.cell (p := ⟨w.heap.size, 0, none⟩) (by rw [hs]; simp), World.cell?_alloc_new]; rfl
  · rw [h.cell (p := ⟨w.heap.size, 1, none⟩) (by rw [hs]; simp), World.cell?_alloc_new]; rfl
  · rw [h.cell (p := ⟨w.heap.size, 2, none⟩) (by rw [hs]; simp), World.cell?_alloc_new]; rfl

theorem Later.undrew {w W : World} (h : Later w.drew W) : Later w W := (Below.refl _ _).drew.trans h

/-- What holds in every later world goes on holding. -/
theorem later_next {w w1 : World} {p : World → Prop} (h : ∀ W, Later w W → p W) (hl : Later w w1) : ∀ W, Later w1 W → p W := fun W hW => h W (hl.trans hW)

theorem right_any (k : Nat) (n : Int) (s : ByteArray) (w : World) : Calls Tryz.prog 107 #[.agg #[.int .u8 k, .int .i64 n, .string s]] w fun e w' => e = .returned (.bool (Vl.right ⟨k, n, s⟩)) ∧ Below w.heap.size w w' := by
  have hbx := fun W h => box_later w 42 (.int .u8 k) (.int .i64 n) (.string s) W (Later.undrew h)
  rcases kinds k with rfl | rfl | rfl | rfl | hk
  · have hc0 := fun W h => (hbx W h).1
    have hc1 := fun W h => (hbx W h).2.1
    have hc2 := fun W h => (hbx W h).2.2
    clear hbx
    go_enter Tryz.func107, Tryz.ntmps107
    go_wp2_with fail
    refine wp_region_ord [(0, true), (1, false), (2, true), (3, true)] (by kernel_rfl) (by kernel_rfl) (by kernel_rfl) (by kernel_rfl) ?_
    repeat (first | (refine wpO_F (v := ?_) rfl (by rfl) (fun w' hL => ?_) ?_; rotate_left; (solve | (go_simp; with_reducible rfl) | go_simp); try simp only [Act.put, List.setIfInBounds_toArray, List.set_cons_zero, List.set_cons_succ]) | (refine wpO_G rfl (by rfl) ?_; try simp only [Act.put, List.setIfInBounds_toArray, List.set_cons_zero, List.set_cons_succ]))
    refine wpO_C rfl (by rfl) ?_
    go_simp
    refine (null_any _).mono ?_
    rintro e w1 ⟨rfl, hb1⟩
    refine ⟨hb1, ?_⟩
    try simp only [Act.put, List.setIfInBounds_toArray, List.set_cons_zero, List.set_cons_succ]
    repeat (first | (refine wpO_F (v := ?_) rfl (by rfl) (fun w' hL => ?_) ?_; rotate_left; (solve | (go_simp; with_reducible rfl) | go_simp); try simp only [Act.put, List.setIfInBounds_toArray, List.set_cons_zero, List.set_cons_succ]) | (refine wpO_G rfl (by rfl) ?_; try simp only [Act.put, List.setIfInBounds_toArray, List.set_cons_zero, List.set_cons_succ]))
    refine wpO_nil ?_
    go_wp2
    go_ret
    exact ⟨ret_b (by rw [isEmpty_size, Bool.eq_iff_iff]; simp [Vl.right]), (Below.box _ _).drew.trans (hb1.mono (by simp))⟩
  · have hc0 := fun W h => (hbx W h).1
    have hc1 := fun W h => (hbx W h).2.1
    have hc2 := fun W h => (hbx W h).2.2
    clear hbx
    go_enter Tryz.func107, Tryz.ntmps107
    go_wp2_with fail
    refine wp_region_ord [(0, true), (1, true), (2, true), (3, false), (4, true), (5, true)] (by kernel_rfl) (by kernel_rfl) (by kernel_rfl) (by kernel_rfl) ?_
    repeat (first | (refine wpO_F (v := ?_) rfl (by rfl) (fun w' hL => ?_) ?_; rotate_left; (solve | (go_simp; with_reducible rfl) | go_simp); try simp only [Act.put, List.setIfInBounds_toArray, List.set_cons_zero, List.set_cons_succ]) | (refine wpO_G rfl (by rfl) ?_; try simp only [Act.put, List.setIfInBounds_toArray, List.set_cons_zero, List.set_cons_succ]))
    refine wpO_C rfl (by rfl) ?_
    go_simp
    refine (whole_any n _).mono ?_
    rintro e w1 ⟨rfl, hb1⟩
    refine ⟨hb1, ?_⟩
    try simp only [Act.put, List.setIfInBounds_toArray, List.set_cons_zero, List.set_cons_succ]
    repeat (first | (refine wpO_F (v := ?_) rfl (by rfl) (fun w' hL => ?_) ?_; rotate_left; (solve | (go_simp; with_reducible rfl) | go_simp); try simp only [Act.put, List.setIfInBounds_toArray, List.set_cons_zero, List.set_cons_succ]) | (refine wpO_G rfl (by rfl) ?_; try simp only [Act.put, List.setIfInBounds_toArray, List.set_cons_zero, List.set_cons_succ]))
    refine wpO_nil ?_
    go_wp2
    go_ret
    exact ⟨ret_b (by rw [isEmpty_size, Bool.eq_iff_iff]; simp [Vl.right]), (Below.box _ _).drew.trans (hb1.mono (by simp))⟩
  all_goals clear hbx
  · go_enter Tryz.func107, Tryz.ntmps107
    go_wp2
    go_ret
    exact ⟨ret_b (by rw [Bool.eq_iff_iff]; simp [Vl.right]), Below.box _ _⟩
  · go_enter Tryz.func107, Tryz.ntmps107
    go_wp2
    go_ret
    exact ⟨ret_b (by rw [Bool.eq_iff_iff]; simp [Vl.right]), Below.box _ _⟩
  · have e0 : ((k : Int) == 0) = false := by simp; omega
    have e1 : ((k : Int) == 1) = false := by simp; omega
    have e2 : ((k : Int) == 2) = false := by simp; omega
    have e3 : ((k : Int) == 3) = false := by simp; omega
    go_enter Tryz.func107, Tryz.ntmps107
    go_wp2
    go_ret
    exact ⟨ret_b (by rw [right_big _ _ hk]), Below.box _ _⟩
end Go.Proofs.YtbnddpicpomakaaGreatDoor

/- The walks of cell.add, sub, mul, div, mod: int64s. -/
set_option linter.unusedSimpArgs false
set_option linter.unusedVariables false
set_option maxRecDepth 100000
namespace Go.Proofs.YtbnddpicpomakaaGreatDoor
open Go.RowKit

theorem fits_yes {n : Int} (h1 : -9223372036854775808 ≤ n) (h2 : n ≤ 9223372036854775807) : fits n = true := (fits_iff n).2 ⟨h1, h2⟩
theorem fits_no {n : Int} (h : n < -9223372036854775808 ∨ 9223372036854775807 < n) : fits n = false := by
  cases hf : fits n with
  | false => rfl
  | true => have := (fits_iff n).1 hf; omega

theorem div_fits (x y : Int) (hx1 : -9223372036854775808 ≤ x) (hx2 : x ≤ 9223372036854775807) (hy : y ≠ 0) (h : ¬ (x = -9223372036854775808 ∧ y = -1)) : -9223372036854775808 ≤ x.tdiv y ∧ x.tdiv y ≤ 9223372036854775807 := by
  have h1 : (x.tdiv y).natAbs = x.natAbs / y.natAbs := Int.natAbs_tdiv x y
  by_cases hy1 : y = -1
  · subst hy1
    rw [Int.tdiv_neg, Int.tdiv_one]; omega
  · by_cases hy2 : y = 1
    · subst hy2; rw [Int.tdiv_one]; omega
    · have : x.natAbs / y.natAbs ≤ x.natAbs / 2 := Nat.div_le_div_left (by omega) (by omega)
      omega

theorem mod_fits (x y : Int) (hx1 : -9223372036854775808 ≤ x) (hx2 : x ≤ 9223372036854775807) : -9223372036854775808 ≤ x.tmod y ∧ x.tmod y ≤ 9223372036854775807 := by
  have h1 : (x.tmod y).natAbs = x.natAbs % y.natAbs := Int.natAbs_tmod x y
  have h2 : x.natAbs % y.natAbs ≤ x.natAbs := Nat.mod_le _ _
  have h3 : 0 ≤ x → 0 ≤ x.tmod y := fun h => Int.tmod_nonneg y h
  by_cases h : 0 ≤ x
  · have := h3 h; omega
  · have h4 : x.tmod y = -((-x).tmod y) := by rw [Int.neg_tmod]; simp
    have h5 := Int.tmod_nonneg y (show 0 ≤ -x by omega)
    omega

end Go.Proofs.YtbnddpicpomakaaGreatDoor
