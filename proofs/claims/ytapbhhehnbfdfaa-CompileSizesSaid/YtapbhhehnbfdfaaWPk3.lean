/- Several texts of one proof, one behind the other. -/
import Derived.Test.YtapbhhehnbfdfaaWPk2
import Derived.Lib.AppendStr
import Derived.OpenShut
import Derived.Lib.SmallJoins
import Derived.Laws.BitsAllLaws
import Derived.WalkKit
set_option linter.unusedSimpArgs false
set_option linter.unusedVariables false

/- The walks of PutText and GetText (varint's and hindsightref01's). -/
set_option linter.unusedSimpArgs false
set_option linter.unusedVariables false
set_option maxRecDepth 100000
namespace Go.Proofs.Ytapbhhehnbfdfaa
open Go.RowKit

/-- The bytes of a string. -/
def bytesOf (s : ByteArray) : List Nat := s.data.toList.map UInt8.toNat

theorem bytesOf_len (s : ByteArray) : (bytesOf s).length = s.size := by simp [bytesOf]
theorem bytesOf_lt (s : ByteArray) : ∀ c ∈ bytesOf s, c < 256 := by
  intro c hc
  obtain ⟨u, _, rfl⟩ := List.mem_map.1 hc
  exact u.toNat_lt
theorem strN_bytesOf (s : ByteArray) : strN (bytesOf s) = s := by
  apply ByteArray.ext
  apply Array.toList_inj.1
  have e : (UInt8.ofNat ∘ UInt8.toNat) = id := by funext x; simp
  simp [strN, bytesOf, e]
theorem bytesOf_get (s : ByteArray) (i : Nat) (h : i < s.size) : (bytesOf s)[i]? = some s[i].toNat := by
  simp [bytesOf, h]
  rfl
theorem strCells_bytes (s : ByteArray) : Lib.strCells s = (bytesOf s).map fun (c : Nat) => Value.int .u8 (c : Int) := by
  simp [Lib.strCells, bytesOf]

/-- 'append(b, s...)' of a string. -/
theorem wpList_appStr {P : Program} {ops : Array Oper} {rest : List Oper} {o : Oper} {a : Act} {Q : Exit → Act → World → Prop} (hgd : o.guard = none) (sl x : Operand) (t u : TypeId)
    (ho : o.op = .call { callee := .builtin .append, args := #[sl, x], argTypes := #[t, u] })
    (base : Nat) (e : TypeId) (i : TypeInfo) (ht : P.underlying t = some (.slice e)) (hu : P.underlying u = some .string) (hi : P.info? e = some i) (hz : i.zero = some (.int .u8 0))
    (hsize : i.size = 1) (hby : i.bytes = 1)
    (v : Value) (l : List Nat) (w : World) (hown : OwnB w base e v l) (hs : a.eval sl = v) (s : ByteArray) (hx : a.eval x = .string s)
    (hlen : l.length + s.size < 100000000000000) (hbase : base ≤ w.heap.size)
    (h : ∀ v' w', OwnB w' base e v' (l ++ bytesOf s) → Below base w w' → w.heap.size ≤ w'.heap.size → wpList P ops Q rest (a.put o.dst v') w') : wpList P ops Q (o :: rest) a w := by
  refine Lib.wpList_append_own_string w hgd sl x t u ho base e i ht hu hi hz hsize hby v l.length _ hs hown.2 s hx ?_ ?_ hbase ?_
  · unfold maxLen; omega
  · omega
  · intro v' w' hown' hgrow _
    refine h v' w' ⟨?_, ?_⟩ ?_ hgrow.size
    · intro d hd
      rcases List.mem_append.1 hd with hd | hd
      · exact hown.1 d hd
      · exact bytesOf_lt s d hd
    · rw [strCells_bytes] at hown'
      simpa [bytesOf_len] using hown'
    · exact (Below.refl base w).grown hgrow hbase (fun j hj => (hown.2.lt j hj).1)

/-- 'append(b, c...)' of bytes that are not none. -/
theorem wpList_appB {P : Program} {ops : Array Oper} {rest : List Oper} {o : Oper} {a : Act} {Q : Exit → Act → World → Prop} (hgd : o.guard = none) (sl x : Operand) (t : TypeId)
    (ho : o.op = .call { callee := .builtin .append, args := #[sl, x], argTypes := #[t, t] })
    (base : Nat) (e : TypeId) (i : TypeInfo) (ht : P.underlying t = some (.slice e)) (hi : P.info? e = some i) (hz : i.zero = some (.int .u8 0))
    (hsize : i.size = 1) (hby : i.bytes = 1)
    (v : Value) (l : List Nat) (w : World) (hown : OwnB w base e v l) (hs : a.eval sl = v) (N : Nat) (ad : Option Addr) (m : List Nat) (n c : Nat) (hB : Bs N w ad m) (hm : m ≠ []) (hn : n = m.length) (hx : a.eval x = .slice ad n c)
    (hlen : l.length + m.length < 100000000000000) (hbase : base ≤ w.heap.size)
    (h : ∀ v' w', OwnB w' base e v' (l ++ m) → Below base w w' → w.heap.size ≤ w'.heap.size → wpList P ops Q rest (a.put o.dst v') w') : wpList P ops Q (o :: rest) a w := by
  subst hn
  obtain ⟨hB1, hB2⟩ := hB
  rcases hB2 with hB2 | ⟨b, f, rfl, hb, hc⟩
  · exact absurd hB2 hm
  · refine wpList_append_own w hgd sl x t ho base e i (.int .u8 0) 1 1 ht hi hz hsize hby rfl (by decide) v l.length _ hs hown.2 ⟨b, f, none⟩ m.length c (m.map fun (c : Nat) => Value.int .u8 (c : Int)) hx (by simp) ?_ ?_ ?_ ?_ hbase ?_
    · intro j u hj
      rw [List.getElem?_map] at hj
      cases hmj : m[j]? with
      | none => rw [hmj] at hj; simp at hj
      | some q =>
        rw [hmj] at hj
        simp at hj
        subst hj
        have e1 : (⟨b, f, none⟩ : Addr).add j = ⟨b, f + j, none⟩ := by unfold Addr.add; split <;> simp_all
        rw [e1]; exact hc j q hmj
    · intro u hu
      obtain ⟨q, _, rfl⟩ := List.mem_map.1 hu
      rfl
    · unfold maxLen; omega
    · omega
    · intro v' w' hown' hgrow _
      refine h v' w' ⟨?_, ?_⟩ ?_ hgrow.size
      · intro d hd
        rcases List.mem_append.1 hd with hd | hd
        · exact hown.1 d hd
        · exact hB1 d hd
      · simpa using hown'
      · exact (Below.refl base w).grown hgrow hbase (fun j hj => (hown.2.lt j hj).1)

/-- The text's bytes. -/
def textL (s : ByteArray) : List Nat := putL s.size ++ bytesOf s

/-- What GetText answers. -/
def textR (l : List Nat) (at_ : Int) : ByteArray × Int × Nat :=
  let g := getR l at_
  if g.2.2 ≠ 0 then (ByteArray.empty, 0, g.2.2)
  else if (l.length : Int) - g.2.1 < (g.1 : Int) then (ByteArray.empty, 0, 10)
  else (strN ((l.drop g.2.1.toNat).take g.1), g.2.1 + g.1, 0)


end Go.Proofs.Ytapbhhehnbfdfaa

/- The mathematics of nodes: what they are, their bytes, what is read. -/
set_option linter.unusedSimpArgs false
set_option linter.unusedVariables false
set_option maxRecDepth 100000
namespace Go.Proofs.Ytapbhhehnbfdfaa
open Go.RowKit

/-- A part of a node: a key, a value's length, and what stands behind the key. -/
structure Pt where
  key : ByteArray
  len : Int
  data : ByteArray
  page : Int
  deriving DecidableEq

/-- A node as the document has it: a kind, a first kid, and parts. -/
structure Rn where
  leaf : Bool
  kid : Int
  l : List Pt
  deriving DecidableEq

/-- A cell. -/
structure Cl where
  len : Int
  data : ByteArray
  page : Int
  deriving DecidableEq

/-- A node as the program has it. -/
structure Nd where
  leaf : Bool
  keys : List ByteArray
  cells : List Cl
  kids : List Int
  deriving DecidableEq

def cellsP (l : List Pt) : List Value := cellsOf (fun p => [.string p.key, .int .i64 p.len, .string p.data, .int .i64 p.page]) l
def cellsC (l : List Cl) : List Value := cellsOf (fun c => [.int .i64 c.len, .string c.data, .int .i64 c.page]) l
def cellsS (l : List ByteArray) : List Value := cellsOf (fun s => [.string s]) l
def cellsI (l : List Int) : List Value := cellsOf (fun n => [.int .i64 n]) l

theorem cellsP_len (l : List Pt) : (cellsP l).length = l.length * 4 := cellsOf_len _ 4 (fun _ => rfl) l
theorem cellsC_len (l : List Cl) : (cellsC l).length = l.length * 3 := cellsOf_len _ 3 (fun _ => rfl) l
theorem cellsS_len (l : List ByteArray) : (cellsS l).length = l.length * 1 := cellsOf_len _ 1 (fun _ => rfl) l
theorem cellsI_len (l : List Int) : (cellsI l).length = l.length * 1 := cellsOf_len _ 1 (fun _ => rfl) l

/-- The cells of the k-th part. -/
theorem partAt {N : Nat} {w : World} {a : Option Addr} {l : List Pt} (h : Arr N w a (cellsP l)) {k : Nat} (hk : k < l.length) : ∃ b o, a = some ⟨b, o, none⟩ ∧ b < N ∧
    w.cell? ⟨b, o + k * 4, none⟩ = some (.string l[k].key) ∧ w.cell? ⟨b, o + k * 4 + 1, none⟩ = some (.int .i64 l[k].len) ∧ w.cell? ⟨b, o + k * 4 + 2, none⟩ = some (.string l[k].data) ∧ w.cell? ⟨b, o + k * 4 + 3, none⟩ = some (.int .i64 l[k].page) := by
  obtain ⟨b, o, ha, hb, hc⟩ := h.at_ (by intro h0; have := cellsP_len l; rw [h0] at this; simp at this; omega)
  have g := fun (j : Nat) (v : Value) (hv : ((fun p : Pt => [.string p.key, .int .i64 p.len, .string p.data, .int .i64 p.page]) l[k])[j]? = some v) => hc _ _ (cellsOf_get (fun p : Pt => [.string p.key, .int .i64 p.len, .string p.data, .int .i64 p.page]) 4 (fun _ => rfl) l k j l[k] v (List.getElem?_eq_getElem hk) hv)
  exact ⟨b, o, ha, hb, by simpa using g 0 _ rfl, by simpa [Nat.add_assoc] using g 1 _ rfl, by simpa [Nat.add_assoc] using g 2 _ rfl, by simpa [Nat.add_assoc] using g 3 _ rfl⟩
/-- The cells of the k-th cell of a node. -/
theorem cellAt {N : Nat} {w : World} {a : Option Addr} {l : List Cl} (h : Arr N w a (cellsC l)) {k : Nat} (hk : k < l.length) : ∃ b o, a = some ⟨b, o, none⟩ ∧ b < N ∧
    w.cell? ⟨b, o + k * 3, none⟩ = some (.int .i64 l[k].len) ∧ w.cell? ⟨b, o + k * 3 + 1, none⟩ = some (.string l[k].data) ∧ w.cell? ⟨b, o + k * 3 + 2, none⟩ = some (.int .i64 l[k].page) := by
  obtain ⟨b, o, ha, hb, hc⟩ := h.at_ (by intro h0; have := cellsC_len l; rw [h0] at this; simp at this; omega)
  have g := fun (j : Nat) (v : Value) (hv : ((fun c : Cl => [.int .i64 c.len, .string c.data, .int .i64 c.page]) l[k])[j]? = some v) => hc _ _ (cellsOf_get (fun c : Cl => [.int .i64 c.len, .string c.data, .int .i64 c.page]) 3 (fun _ => rfl) l k j l[k] v (List.getElem?_eq_getElem hk) hv)
  exact ⟨b, o, ha, hb, by simpa using g 0 _ rfl, by simpa [Nat.add_assoc] using g 1 _ rfl, by simpa [Nat.add_assoc] using g 2 _ rfl⟩
theorem strAt {N : Nat} {w : World} {a : Option Addr} {l : List ByteArray} (h : Arr N w a (cellsS l)) {k : Nat} (hk : k < l.length) : ∃ b o, a = some ⟨b, o, none⟩ ∧ b < N ∧ w.cell? ⟨b, o + k, none⟩ = some (.string l[k]) := by
  obtain ⟨b, o, ha, hb, hc⟩ := h.at_ (by intro h0; have := cellsS_len l; rw [h0] at this; simp at this; omega)
  have g := fun (j : Nat) (v : Value) (hv : ((fun s : ByteArray => [Value.string s]) l[k])[j]? = some v) => hc _ _ (cellsOf_get (fun s : ByteArray => [Value.string s]) 1 (fun _ => rfl) l k j l[k] v (List.getElem?_eq_getElem hk) hv)
  exact ⟨b, o, ha, hb, by simpa using g 0 _ rfl⟩
theorem intAt {N : Nat} {w : World} {a : Option Addr} {l : List Int} (h : Arr N w a (cellsI l)) {k : Nat} (hk : k < l.length) : ∃ b o, a = some ⟨b, o, none⟩ ∧ b < N ∧ w.cell? ⟨b, o + k, none⟩ = some (.int .i64 l[k]) := by
  obtain ⟨b, o, ha, hb, hc⟩ := h.at_ (by intro h0; have := cellsI_len l; rw [h0] at this; simp at this; omega)
  have g := fun (j : Nat) (v : Value) (hv : ((fun n : Int => [Value.int .i64 n]) l[k])[j]? = some v) => hc _ _ (cellsOf_get (fun n : Int => [Value.int .i64 n]) 1 (fun _ => rfl) l k j l[k] v (List.getElem?_eq_getElem hk) hv)
  exact ⟨b, o, ha, hb, by simpa using g 0 _ rfl⟩

def okPage (p : Int) : Bool := decide (1 ≤ p ∧ p ≤ 4095)
/-- A valid cell. -/
def Cl.ok (c : Cl) : Bool := decide (0 ≤ c.len ∧ c.len ≤ 8192 ∧ (c.len ≤ 120 → (c.data.size : Int) = c.len ∧ c.page = 0) ∧ (¬ c.len ≤ 120 → c.data.size = 0 ∧ 1 ≤ c.page ∧ c.page ≤ 4095))
/-- A part that may be in a leaf, or in another node. -/
def Pt.okL (x : Pt) : Bool := Cl.ok ⟨x.len, x.data, x.page⟩
def Pt.okI (x : Pt) : Bool := decide (x.len = 0 ∧ x.data.size = 0 ∧ 1 ≤ x.page ∧ x.page ≤ 4095)

def lessK (p k : ByteArray) : Bool := Op.bytesLess p.toList k.toList

/-- Keys that may be. -/
def KeysOk (l : List ByteArray) : Prop := ∀ (i : Nat) k, l[i]? = some k → k.size ≤ 100 ∧ (0 < i → ∀ p, l[i - 1]? = some p → lessK p k = true)
open Classical in
noncomputable def keysOk (l : List ByteArray) : Bool := decide (KeysOk l)

theorem KeysOk.take {l : List ByteArray} (h : KeysOk l) (n : Nat) : KeysOk (l.take n) := by
  intro i k hi
  rw [List.getElem?_take] at hi
  split at hi
  · rename_i hlt
    refine ⟨(h i k hi).1, fun h0 p hp => (h i k hi).2 h0 p ?_⟩
    rw [List.getElem?_take] at hp
    split at hp
    · exact hp
    · simp at hp
  · simp at hi
theorem KeysOk.succ {l : List ByteArray} {n : Nat} (h : KeysOk (l.take n)) (hn : n < l.length) (h1 : l[n].size ≤ 100) (h2 : 0 < n → ∀ p, l[n - 1]? = some p → lessK p l[n] = true) : KeysOk (l.take (n + 1)) := by
  intro i k hi
  rw [List.getElem?_take] at hi
  split at hi
  · rename_i hlt
    by_cases hin : i < n
    · have h0 := h i k (by rw [List.getElem?_take, if_pos hin]; exact hi)
      refine ⟨h0.1, fun hz p hp => h0.2 hz p ?_⟩
      rw [List.getElem?_take] at hp ⊢
      rw [if_pos (by omega)] at hp ⊢
      exact hp
    · have : i = n := by omega
      subst this
      rw [List.getElem?_eq_getElem hn] at hi
      simp at hi; subst hi
      refine ⟨h1, fun hz p hp => ?_⟩
      rw [List.getElem?_take, if_pos (by omega)] at hp
      exact h2 hz p hp
  · simp at hi
theorem KeysOk.len_no {l : List ByteArray} {n : Nat} (hn : n < l.length) (h : ¬ l[n].size ≤ 100) : ¬ KeysOk l := fun H => h (H n _ (List.getElem?_eq_getElem hn)).1
theorem KeysOk.less_no {l : List ByteArray} {n : Nat} (hn : n < l.length) {p : ByteArray} (hp : l[n - 1]? = some p) (h0 : 0 < n) (h : lessK p l[n] = false) : ¬ KeysOk l := fun H => by
  have := (H n _ (List.getElem?_eq_getElem hn)).2 h0 _ hp
  rw [h] at this; cases this

/-- A node that may be, as the program has it. -/
def Nd.Ok (n : Nd) : Prop := KeysOk n.keys ∧ (if n.leaf then n.cells.length = n.keys.length ∧ n.kids = [] ∧ ∀ c ∈ n.cells, c.ok = true else n.keys ≠ [] ∧ n.kids.length = n.keys.length + 1 ∧ n.cells = [] ∧ ∀ p ∈ n.kids, okPage p = true)
open Classical in
noncomputable def Nd.ok (n : Nd) : Bool := decide n.Ok

/-- .. and as the document has it. -/
def Rn.Ok (n : Rn) : Prop := KeysOk (n.l.map Pt.key) ∧ (if n.leaf then n.kid = 0 ∧ ∀ x ∈ n.l, x.okL = true else n.l ≠ [] ∧ okPage n.kid = true ∧ ∀ x ∈ n.l, x.okI = true)
open Classical in
noncomputable def Rn.ok (n : Rn) : Bool := decide n.Ok

/-- The program's node as the document's: of a leaf the cells, of another node the kids behind the first. -/
def zipL : List ByteArray → List Cl → List Pt
  | k :: ks, c :: cs => ⟨k, c.len, c.data, c.page⟩ :: zipL ks cs
  | _, _ => []
def zipI : List ByteArray → List Int → List Pt
  | k :: ks, p :: ps => ⟨k, 0, ⟨#[]⟩, p⟩ :: zipI ks ps
  | _, _ => []
def Nd.shaped (n : Nd) : Bool := if n.leaf then decide (n.cells.length = n.keys.length ∧ n.kids.length = 0) else decide (n.kids.length = n.keys.length + 1 ∧ n.cells.length = 0)
def Nd.asR (n : Nd) : Rn := if n.leaf then ⟨true, 0, zipL n.keys n.cells⟩ else ⟨false, n.kids.headD 0, zipI n.keys n.kids.tail⟩
/-- .. and back. -/
def Rn.asN (x : Rn) : Nd := if x.leaf then ⟨true, x.l.map Pt.key, x.l.map fun p => ⟨p.len, p.data, p.page⟩, []⟩ else ⟨false, x.l.map Pt.key, [], x.kid :: x.l.map Pt.page⟩
/-- The document's node has nothing that the program's can't have. -/
def Rn.plain (x : Rn) : Prop := if x.leaf then x.kid = 0 else ∀ p ∈ x.l, p.len = 0 ∧ p.data = ⟨#[]⟩

theorem zipL_key : ∀ (ks : List ByteArray) (cs : List Cl), cs.length = ks.length → (zipL ks cs).map Pt.key = ks ∧ (zipL ks cs).map (fun p => (⟨p.len, p.data, p.page⟩ : Cl)) = cs
  | [], [], _ => by simp [zipL]
  | [], _ :: _, h => by simp at h
  | _ :: _, [], h => by simp at h
  | k :: ks, c :: cs, h => by
    have := zipL_key ks cs (by simpa using h)
    simp [zipL, this.1, this.2]
theorem zipI_key : ∀ (ks : List ByteArray) (cs : List Int), cs.length = ks.length → (zipI ks cs).map Pt.key = ks ∧ (zipI ks cs).map Pt.page = cs
  | [], [], _ => by simp [zipI]
  | [], _ :: _, h => by simp at h
  | _ :: _, [], h => by simp at h
  | k :: ks, c :: cs, h => by
    have := zipI_key ks cs (by simpa using h)
    simp [zipI, this.1, this.2]
theorem zipI_plain : ∀ (ks : List ByteArray) (cs : List Int), ∀ p ∈ zipI ks cs, p.len = 0 ∧ p.data = ⟨#[]⟩
  | [], _, p, h => by simp [zipI] at h
  | _ :: _, [], p, h => by simp [zipI] at h
  | k :: ks, c :: cs, p, h => by
    simp [zipI] at h
    rcases h with rfl | h
    · exact ⟨rfl, rfl⟩
    · exact zipI_plain ks cs p h

theorem asN_asR {n : Nd} (h : n.shaped = true) : n.asR.asN = n ∧ n.asR.plain := by
  obtain ⟨leaf, ks, cs, ps⟩ := n
  cases leaf with
  | true =>
    simp only [Nd.shaped, if_true, decide_eq_true_eq] at h
    have := zipL_key ks cs h.1
    have h2 : ps = [] := List.length_eq_zero_iff.1 h.2
    subst h2
    simp [Nd.asR, Rn.asN, Rn.plain, this.1, this.2]
  | false =>
    simp only [Nd.shaped, Bool.false_eq_true, if_false, decide_eq_true_eq] at h
    have h2 : cs = [] := List.length_eq_zero_iff.1 h.2
    subst h2
    match ps, h with
    | p :: ps, h =>
      have := zipI_key ks ps (by simpa using h.1)
      simp [Nd.asR, Rn.asN, Rn.plain, this.1, this.2]
      exact fun q hq => zipI_plain ks ps q hq

theorem zipL_map (l : List Pt) : zipL (l.map Pt.key) (l.map fun p => (⟨p.len, p.data, p.page⟩ : Cl)) = l := by
  induction l with
  | nil => rfl
  | cons x r ih => simp [zipL, ih]
theorem zipI_map (l : List Pt) (h : ∀ p ∈ l, p.len = 0 ∧ p.data = ⟨#[]⟩) : zipI (l.map Pt.key) (l.map Pt.page) = l := by
  induction l with
  | nil => rfl
  | cons x r ih =>
    obtain ⟨k, n, d, p⟩ := x
    have := h _ (List.mem_cons_self)
    simp only at this
    obtain ⟨rfl, rfl⟩ := this
    simp [zipI, ih (fun p hp => h p (List.mem_cons_of_mem _ hp))]

theorem asR_asN {x : Rn} (h : x.plain) : x.asN.asR = x ∧ x.asN.shaped = true := by
  obtain ⟨leaf, kid, l⟩ := x
  cases leaf with
  | true =>
    simp only [Rn.plain, if_true] at h
    simp [Rn.asN, Nd.asR, Nd.shaped, zipL_map, h]
  | false =>
    simp only [Rn.plain, Bool.false_eq_true, if_false] at h
    simp [Rn.asN, Nd.asR, Nd.shaped, zipI_map l h]

theorem okI_of {x : Pt} (h1 : x.len = 0) (h2 : x.data = ⟨#[]⟩) : x.okI = okPage x.page := by
  unfold Pt.okI okPage
  rw [h1, h2]
  simp [ByteArray.size]

/-- The program's node may be just where the document's may. -/
theorem ok_iff (n : Nd) : n.Ok ↔ n.shaped = true ∧ n.asR.Ok := by
  constructor
  · intro h
    obtain ⟨hk, h⟩ := h
    obtain ⟨leaf, ks, cs, ps⟩ := n
    cases leaf with
    | true =>
      simp only [if_true] at h hk
      obtain ⟨h1, h2, h3⟩ := h
      have hz := zipL_key ks cs h1
      refine ⟨by simp [Nd.shaped, h1, h2], ?_⟩
      simp only [Rn.Ok, Nd.asR, if_true, hz.1]
      refine ⟨hk, trivial, fun x hx => ?_⟩
      have : (⟨x.len, x.data, x.page⟩ : Cl) ∈ cs := by rw [← hz.2]; exact List.mem_map.2 ⟨x, hx, rfl⟩
      exact h3 _ this
    | false =>
      simp only [Bool.false_eq_true, if_false] at h hk
      obtain ⟨h0, h1, h2, h3⟩ := h
      match ps, h1, h3 with
      | p :: ps, h1, h3 =>
        have hz := zipI_key ks ps (by simpa using h1)
        refine ⟨by simp [Nd.shaped, h2]; simpa using h1, ?_⟩
        simp only [Rn.Ok, Nd.asR, Bool.false_eq_true, if_false, List.tail_cons, List.headD_cons, hz.1]
        refine ⟨hk, ?_, h3 p (by simp), fun x hx => ?_⟩
        · intro h; apply h0; rw [← hz.1, h]; rfl
        · have := zipI_plain ks ps x hx
          rw [okI_of this.1 this.2]
          apply h3
          have : x.page ∈ ps := by rw [← hz.2]; exact List.mem_map.2 ⟨x, hx, rfl⟩
          simp [this]
  · rintro ⟨hs, h⟩
    obtain ⟨leaf, ks, cs, ps⟩ := n
    cases leaf with
    | true =>
      simp only [Nd.shaped, if_true, decide_eq_true_eq] at hs
      have hz := zipL_key ks cs hs.1
      simp only [Rn.Ok, Nd.asR, if_true, hz.1] at h
      refine ⟨h.1, ?_⟩
      simp only [if_true]
      refine ⟨hs.1, List.length_eq_zero_iff.1 hs.2, fun c hc => ?_⟩
      rw [← hz.2] at hc
      obtain ⟨x, hx, rfl⟩ := List.mem_map.1 hc
      exact h.2.2 x hx
    | false =>
      simp only [Nd.shaped, Bool.false_eq_true, if_false, decide_eq_true_eq] at hs
      match ps, hs, h with
      | p :: ps, hs, h =>
        have hz := zipI_key ks ps (by simpa using hs.1)
        simp only [Rn.Ok, Nd.asR, Bool.false_eq_true, if_false, List.tail_cons, List.headD_cons, hz.1] at h
        refine ⟨h.1, ?_⟩
        simp only [Bool.false_eq_true, if_false]
        refine ⟨?_, hs.1, List.length_eq_zero_iff.1 hs.2, fun q hq => ?_⟩
        · intro h0; apply h.2.1; subst h0; simp [zipI]
        · rcases List.mem_cons.1 hq with rfl | hq
          · exact h.2.2.1
          · rw [← hz.2] at hq
            obtain ⟨x, hx, rfl⟩ := List.mem_map.1 hq
            have := zipI_plain ks ps x hx
            rw [← okI_of this.1 this.2]
            exact h.2.2.2 x hx
end Go.Proofs.Ytapbhhehnbfdfaa

/- Rows of values that came in, element by element. -/
set_option linter.unusedSimpArgs false
set_option linter.unusedVariables false
set_option maxRecDepth 100000
namespace Go.Proofs.Ytapbhhehnbfdfaa
open Go.RowKit Go.ChangeShapes Go.WideShapes Go.Deep Go.Joins

theorem cellsOf_at {α : Type} (f : α → List Value) (z : Nat) (hz : 0 < z) (hf : ∀ x, (f x).length = z) : ∀ (l : List α) (i : Nat) (v : Value), (cellsOf f l)[i]? = some v → ∃ y, l[i / z]? = some y ∧ (f y)[i % z]? = some v
  | [], i, v, h => by simp [cellsOf] at h
  | x :: r, i, v, h => by
    have e : cellsOf f (x :: r) = f x ++ cellsOf f r := rfl
    rw [e] at h
    by_cases hi : i < z
    · rw [List.getElem?_append_left (by rw [hf]; exact hi)] at h
      exact ⟨x, by rw [Nat.div_eq_of_lt hi]; rfl, by rw [Nat.mod_eq_of_lt hi]; exact h⟩
    · rw [List.getElem?_append_right (by rw [hf]; omega), hf] at h
      obtain ⟨y, h1, h2⟩ := cellsOf_at f z hz hf r (i - z) v h
      have e1 : i = (i - z) + z := by omega
      refine ⟨y, ?_, ?_⟩
      · rw [e1, Nat.add_div_right _ hz]; exact h1
      · rw [e1, Nat.add_mod_right]; exact h2

/-- A row of values that came in, element by element. -/
theorem row_of {α : Type} (f : α → List Value) (z : Nat) (hz : 0 < z) (hf : ∀ x, (f x).length = z) (Q : α → Prop) (w : World) (x : Addr) (len : Nat)
    (hex : ∀ i : Fin len, ∃ y, Q y ∧ ∀ (j : Nat) (v : Value), (f y)[j]? = some v → w.cell? ((x.add (i.1 * z)).add j) = some v) :
    ∃ L : List α, L.length = len ∧ Arr w.heap.size w (some x) (cellsOf f L) ∧ ∀ y ∈ L, Q y := by
  obtain ⟨g, hg⟩ := Classical.axiomOfChoice hex
  refine ⟨List.ofFn g, by simp, ?_, ?_⟩
  · by_cases h0 : len = 0
    · left; subst h0; simp [cellsOf]
    · right
      obtain ⟨b, o, spot⟩ := x
      have hlen0 : 0 < (f (g ⟨0, by omega⟩)).length := by rw [hf]; exact hz
      have hc0 := (hg ⟨0, by omega⟩).2 0 _ (List.getElem?_eq_getElem hlen0)
      have hspot : spot = none := by
        have := World.cell?_spot hc0
        simpa [Addr.add] using this
      subst hspot
      have hblk := World.block_lt_of_cell? _ _ hc0
      refine ⟨b, o, rfl, by simpa [Addr.add] using hblk, fun i v hv => ?_⟩
      obtain ⟨y, h1, h2⟩ := cellsOf_at f z hz hf _ i v hv
      rw [List.getElem?_ofFn] at h1
      split at h1
      · rename_i hlt
        simp only [Option.some.injEq] at h1
        subst h1
        have hh := (hg ⟨i / z, hlt⟩).2 _ v h2
        have e1 : ((⟨b, o, none⟩ : Addr).add (i / z * z)).add (i % z) = ⟨b, o + i, none⟩ := by
          have : i / z * z + i % z = i := Nat.div_add_mod' i z
          simp only [Addr.add]
          split <;> split <;> simp_all <;> omega
        rw [e1] at hh
        exact hh
      · cases h1
  · intro y hy
    rw [List.mem_ofFn] at hy
    obtain ⟨i, rfl⟩ := hy
    exact (hg i).1

set_option maxRecDepth 100000 in
theorem trod_nums {H : Type} {enc : TypeId × Value → H} {w : World} {fuel : Nat} {cs : List Value} {x : DataW H × List MemPlace}
    (h : DataW.trod enc Try.prog w 0 (fun _ => true) true fuel 84 cs = some x) :
    ∃ (a : Option Addr) (len cap : Nat) (L : List Int), cs = [.slice a len cap] ∧ L.length = len ∧ len ≤ cap ∧ cap ≤ 9223372036854775807 ∧ Arr w.heap.size w a (cellsI L) ∧ ∀ p ∈ L, -9223372036854775808 ≤ p ∧ p ≤ 9223372036854775807 := by
  rcases open_slice Try.underlying84 h with ⟨hcs, _⟩ | ⟨x, l, c, m, n, D, Pl, hcs, _, hl, hm, hmm, _, hi⟩
  · exact ⟨none, 0, 0, [], hcs, rfl, by omega, by omega, .inl rfl, by simp⟩
  · have hmc : m = c := by simpa using hmm
    have hC : Try.prog.cellsOf 3 = 1 := by kernel_rfl
    unfold maxLen at hm
    obtain ⟨L, h1, h2, h3⟩ := row_of (fun n : Int => [Value.int .i64 n]) 1 (by omega) (fun _ => rfl) (fun p => -9223372036854775808 ≤ p ∧ p ≤ 9223372036854775807) w x l (fun i => by
      obtain ⟨cs', hc', ht'⟩ := hi i.1 (by have := i.2; omega)
      rw [hC] at hc'
      obtain ⟨_, hlen, hat⟩ := World.cells?_some hc'
      obtain ⟨s, e0, -, w0⟩ := DataW.trod_int Try.underlying3 ht'
      subst e0
      exact ⟨s, bd_i64 w0, fun j v hj => by rw [hat j (by have := (List.getElem?_eq_some_iff.1 hj).1; simpa using this)]; exact hj⟩)
    exact ⟨some x, l, c, L, hcs, h1, hl, by omega, h2, h3⟩
end Go.Proofs.Ytapbhhehnbfdfaa

/- Rose trees as data and in memory: a label, and a slice of such trees. -/
set_option linter.unusedSimpArgs false
set_option linter.unusedVariables false
set_option maxRecDepth 100000
namespace Go.Proofs.Ytapbhhehnbfdfaa
open Go.RowKit

/-- A tree. -/
inductive Rose (α : Type) where
  | mk (lab : α) (args : List (Rose α))

def Rose.lab {α : Type} : Rose α → α
  | .mk l _ => l
def Rose.args {α : Type} : Rose α → List (Rose α)
  | .mk _ r => r
theorem Rose.eta {α : Type} (e : Rose α) : Rose.mk e.lab e.args = e := by cases e; rfl
theorem Rose.size_arg {α : Type} [SizeOf α] {l : α} {r : List (Rose α)} {x : Rose α} (h : x ∈ r) : SizeOf.sizeOf x < SizeOf.sizeOf (Rose.mk l r) := by
  have h1 := List.sizeOf_lt_of_mem h
  simp only [Rose.mk.sizeOf_spec]
  omega

theorem Rose.ind {α : Type} {P : Rose α → Prop} (h : ∀ l args, (∀ x ∈ args, P x) → P (.mk l args)) : ∀ e, P e
  | .mk l args => h l args (fun x _ => Rose.ind h x)
termination_by e => SizeOf.sizeOf e
decreasing_by exact Rose.size_arg ‹_›

/-- A tree with the place of its arguments. -/
structure RM (α : Type) where
  t : Rose α
  a : Option Addr
  cap : Nat

def cellsR {α : Type} (c : α → List Value) (x : RM α) : List Value := c x.t.lab ++ [.slice x.a x.t.args.length x.cap]

/-- The tree lies in blocks below N, at most n levels deep, each label fair; a and cap: the place of its arguments. -/
def RoseAt {α : Type} (F : α → Prop) (c : α → List Value) (N : Nat) (w : World) : Nat → RM α → Prop
  | 0, _ => False
  | n + 1, x => F x.t.lab ∧ x.t.args.length ≤ x.cap ∧ x.cap ≤ 9223372036854775807 ∧
      ∃ L : List (RM α), L.map (·.t) = x.t.args ∧ Arr N w x.a (cellsOf (cellsR c) L) ∧ ∀ y ∈ L, RoseAt F c N w n y

theorem RoseAt.below {α : Type} {F : α → Prop} {c : α → List Value} {N : Nat} {w w' : World} (hb : Below N w w') : ∀ {n : Nat} {x : RM α}, RoseAt F c N w n x → RoseAt F c N w' n x
  | 0, _, h => h.elim
  | n + 1, _, ⟨h1, h2, h3, L, h4, h5, h6⟩ => ⟨h1, h2, h3, L, h4, h5.below hb, fun y hy => RoseAt.below hb (h6 y hy)⟩

theorem RoseAt.mono {α : Type} {F : α → Prop} {c : α → List Value} {N M : Nat} {w : World} (hM : N ≤ M) : ∀ {n : Nat} {x : RM α}, RoseAt F c N w n x → RoseAt F c M w n x
  | 0, _, h => h.elim
  | n + 1, _, ⟨h1, h2, h3, L, h4, h5, h6⟩ => ⟨h1, h2, h3, L, h4, h5.mono hM, fun y hy => RoseAt.mono hM (h6 y hy)⟩

theorem RoseAt.later {α : Type} {F : α → Prop} {c : α → List Value} {w w' : World} {n : Nat} {x : RM α} (h : RoseAt F c w.heap.size w n x) (hb : Below w.heap.size w w') : RoseAt F c w'.heap.size w' n x := (h.below hb).mono hb.size

theorem RoseAt.up {α : Type} {F : α → Prop} {c : α → List Value} {N : Nat} {w : World} : ∀ {n : Nat} {x : RM α}, RoseAt F c N w n x → RoseAt F c N w (n + 1) x
  | 0, _, h => h.elim
  | n + 1, _, ⟨h1, h2, h3, L, h4, h5, h6⟩ => ⟨h1, h2, h3, L, h4, h5, fun y hy => RoseAt.up (h6 y hy)⟩

theorem RoseAt.ups {α : Type} {F : α → Prop} {c : α → List Value} {N : Nat} {w : World} {n m : Nat} {x : RM α} (h : RoseAt F c N w n x) (hm : n ≤ m) : RoseAt F c N w m x := by
  induction hm with
  | refl => exact h
  | step _ ih => exact ih.up

theorem RoseAt.pos {α : Type} {F : α → Prop} {c : α → List Value} {N : Nat} {w : World} {n : Nat} {x : RM α} (h : RoseAt F c N w n x) : 0 < n := by
  cases n with
  | zero => exact h.elim
  | succ n => omega

theorem RoseAt.fair {α : Type} {F : α → Prop} {c : α → List Value} {N : Nat} {w : World} {n : Nat} {x : RM α} (h : RoseAt F c N w n x) : F x.t.lab ∧ x.t.args.length ≤ x.cap ∧ x.cap ≤ 9223372036854775807 := by
  cases n with
  | zero => exact h.elim
  | succ n => exact ⟨h.1, h.2.1, h.2.2.1⟩

/-- The k-th argument: its cells. -/
theorem RoseAt.kid {α : Type} {F : α → Prop} {c : α → List Value} {z : Nat} (hz : ∀ l, (c l).length = z) {N : Nat} {w : World} {n : Nat} {x : RM α} (h : RoseAt F c N w (n + 1) x) {k : Nat} (hk : k < x.t.args.length) :
    ∃ y : RM α, y.t = x.t.args[k] ∧ RoseAt F c N w n y ∧ ∃ b o, x.a = some ⟨b, o, none⟩ ∧ b < N ∧ ∀ (j : Nat) (v : Value), (cellsR c y)[j]? = some v → w.cell? ⟨b, o + k * (z + 1) + j, none⟩ = some v := by
  obtain ⟨_, _, _, L, hL, hA, hR⟩ := h
  have hlen : L.length = x.t.args.length := by rw [← hL]; simp
  have hlz : ∀ y : RM α, (cellsR c y).length = z + 1 := fun y => by simp [cellsR, hz]
  have hkL : k < L.length := by omega
  obtain ⟨b, o, ha, hb, hc⟩ := hA.at_ (by intro h0; have := cellsOf_len (cellsR c) (z + 1) hlz L; rw [h0] at this; have h2 := Nat.mul_pos (show 0 < L.length by omega) (show 0 < z + 1 by omega); rw [List.length_nil] at this; omega)
  refine ⟨L[k], ?_, hR _ (List.getElem_mem _), b, o, ha, hb, fun j v hv => ?_⟩
  · have : (L.map (·.t))[k]? = some (L[k].t) := by simp [List.getElem?_eq_getElem hkL]
    rw [hL, List.getElem?_eq_getElem hk] at this
    exact (Option.some.inj this).symm
  · have := hc _ _ (cellsOf_get (cellsR c) (z + 1) hlz L k j L[k] v (List.getElem?_eq_getElem hkL) hv)
    rw [Nat.add_assoc]; exact this

end Go.Proofs.Ytapbhhehnbfdfaa

/- Plain mathematics of layer 2: the values of SQL. -/
set_option linter.unusedSimpArgs false
set_option linter.unusedVariables false
set_option maxRecDepth 100000
namespace Go.Proofs.Ytapbhhehnbfdfaa

/-- A value: its kind, its integer, its text. -/
structure Vl where
  k : Nat
  n : Int
  s : ByteArray
  deriving DecidableEq

/-- A value's fields fit their types. -/
def Vl.ok (x : Vl) : Prop := x.k < 256 ∧ -9223372036854775808 ≤ x.n ∧ x.n ≤ 9223372036854775807

def Vl.right (x : Vl) : Bool :=
  if x.k = 0 then decide (x.n = 0) && decide (x.s.size = 0)
  else if x.k = 1 then decide (x.s.size = 0)
  else if x.k = 2 ∨ x.k = 3 then decide (x.n = 0)
  else false

def nullV : Vl := ⟨0, 0, ⟨#[]⟩⟩
def numV (n : Int) : Vl := ⟨1, n, ⟨#[]⟩⟩

/-- Does an int64 hold it? -/
def fits (n : Int) : Bool := decide (-9223372036854775808 ≤ n ∧ n ≤ 9223372036854775807)

def addI (x y : Int) : Int × Int := if fits (x + y) then (x + y, 0) else (0, 21)
def subI (x y : Int) : Int × Int := if fits (x - y) then (x - y, 0) else (0, 21)
def mulI (x y : Int) : Int × Int := if fits (x * y) then (x * y, 0) else (0, 21)
def divI (x y : Int) : Int × Int := if y = 0 then (0, 22) else if fits (x.tdiv y) then (x.tdiv y, 0) else (0, 21)
def modI (x y : Int) : Int × Int := if y = 0 then (0, 22) else (x.tmod y, 0)

/-- An operation on two values. -/
def arithV (op : Int → Int → Int × Int) (a b : Vl) : Vl × Int :=
  if a.right = false ∨ b.right = false then (nullV, 3)
  else if 1 < a.k ∨ 1 < b.k then (nullV, 20)
  else if a.k = 0 ∨ b.k = 0 then (nullV, 0)
  else if (op a.n b.n).2 ≠ 0 then (nullV, (op a.n b.n).2) else (numV (op a.n b.n).1, 0)

theorem fits_iff (n : Int) : fits n = true ↔ -9223372036854775808 ≤ n ∧ n ≤ 9223372036854775807 := by simp [fits]

/-- A product that wrapped doesn't give back its factor. -/
theorem mul_back (x y : Int) (hx1 : -9223372036854775808 ≤ x) (hx2 : x ≤ 9223372036854775807) (hy1 : -9223372036854775808 ≤ y) (hy2 : y ≤ 9223372036854775807) (hy : y ≠ 0)
    (hf : fits (x * y) = false) : (IntKind.i64.wrap (x * y)).tdiv y ≠ x := by
  intro h
  have hnf : ¬ (-9223372036854775808 ≤ x * y ∧ x * y ≤ 9223372036854775807) := by
    intro hh; rw [(fits_iff _).2 hh] at hf; cases hf
  have hdm := Int.tdiv_mul_add_tmod (IntKind.i64.wrap (x * y)) y
  rw [h] at hdm
  have hlt : ((IntKind.i64.wrap (x * y)).tmod y).natAbs < y.natAbs := by rw [Int.natAbs_tmod]; exact Nat.mod_lt _ (by omega)
  rw [IntKind.wrap_i64] at *
  generalize x * y = p at *
  omega

end Go.Proofs.Ytapbhhehnbfdfaa
