/- The mathematics of nodes: what they are, their bytes, what is read. -/
import Derived.Test.YtfldjmjnjeemeaaNArr
import Derived.Test.YtfldjmjnjeemeaaVText
namespace Go.Proofs.Ytfldjmjnjeemeaa
open Go.RowKit

/-- A part of a node: a key, a value's length, and what stands behind the key. -/
structure Pt where
  key : ByteArray
  len : Int
  data : ByteArray
  page : Int
  deriving DecidableEq

/-- A node as the document has it: a kind, a first kid, and parts. -/
structure Rn where
  leaf : Bool
  kid : Int
  l : List Pt
  deriving DecidableEq

/-- A cell. -/
structure Cl where
  len : Int
  data : ByteArray
  page : Int
  deriving DecidableEq

/-- A node as the program has it. -/
structure Nd where
  leaf : Bool
  keys : List ByteArray
  cells : List Cl
  kids : List Int
  deriving DecidableEq

def cellsP (l : List Pt) : List Value := cellsOf (fun p => [.string p.key, .int .i64 p.len, .string p.data, .int .i64 p.page]) l
def cellsC (l : List Cl) : List Value := cellsOf (fun c => [.int .i64 c.len, .string c.data, .int .i64 c.page]) l
def cellsS (l : List ByteArray) : List Value := cellsOf (fun s => [.string s]) l
def cellsI (l : List Int) : List Value := cellsOf (fun n => [.int .i64 n]) l

theorem cellsP_len (l : List Pt) : (cellsP l).length = l.length * 4 := cellsOf_len _ 4 (fun _ => rfl) l
theorem cellsC_len (l : List Cl) : (cellsC l).length = l.length * 3 := cellsOf_len _ 3 (fun _ => rfl) l
theorem cellsS_len (l : List ByteArray) : (cellsS l).length = l.length * 1 := cellsOf_len _ 1 (fun _ => rfl) l
theorem cellsI_len (l : List Int) : (cellsI l).length = l.length * 1 := cellsOf_len _ 1 (fun _ => rfl) l

/-- The cells of the k-th part. -/
theorem partAt {N : Nat} {w : World} {a : Option Addr} {l : List Pt} (h : Arr N w a (cellsP l)) {k : Nat} (hk : k < l.length) : ∃ b o, a = some ⟨b, o, none⟩ ∧ b < N ∧
    w.cell? ⟨b, o + k * 4, none⟩ = some (.string l[k].key) ∧ w.cell? ⟨b, o + k * 4 + 1, none⟩ = some (.int .i64 l[k].len) ∧ w.cell? ⟨b, o + k * 4 + 2, none⟩ = some (.string l[k].data) ∧ w.cell? ⟨b, o + k * 4 + 3, none⟩ = some (.int .i64 l[k].page) := by
  obtain ⟨b, o, ha, hb, hc⟩ := h.at_ (by intro h0; have := cellsP_len l; rw [h0] at this; simp at this; omega)
  have g := fun (j : Nat) (v : Value) (hv : ((fun p : Pt => [.string p.key, .int .i64 p.len, .string p.data, .int .i64 p.page]) l[k])[j]? = some v) => hc _ _ (cellsOf_get (fun p : Pt => [.string p.key, .int .i64 p.len, .string p.data, .int .i64 p.page]) 4 (fun _ => rfl) l k j l[k] v (List.getElem?_eq_getElem hk) hv)
  exact ⟨b, o, ha, hb, by simpa using g 0 _ rfl, by simpa [Nat.add_assoc] using g 1 _ rfl, by simpa [Nat.add_assoc] using g 2 _ rfl, by simpa [Nat.add_assoc] using g 3 _ rfl⟩
/-- The cells of the k-th cell of a node. -/
theorem cellAt {N : Nat} {w : World} {a : Option Addr} {l : List Cl} (h : Arr N w a (cellsC l)) {k : Nat} (hk : k < l.length) : ∃ b o, a = some ⟨b, o, none⟩ ∧ b < N ∧
    w.cell? ⟨b, o + k * 3, none⟩ = some (.int .i64 l[k].len) ∧ w.cell? ⟨b, o + k * 3 + 1, none⟩ = some (.string l[k].data) ∧ w.cell? ⟨b, o + k * 3 + 2, none⟩ = some (.int .i64 l[k].page) := by
  obtain ⟨b, o, ha, hb, hc⟩ := h.at_ (by intro h0; have := cellsC_len l; rw [h0] at this; simp at this; omega)
  have g := fun (j : Nat) (v : Value) (hv : ((fun c : Cl => [.int .i64 c.len, .string c.data, .int .i64 c.page]) l[k])[j]? = some v) => hc _ _ (cellsOf_get (fun c : Cl => [.int .i64 c.len, .string c.data, .int .i64 c.page]) 3 (fun _ => rfl) l k j l[k] v (List.getElem?_eq_getElem hk) hv)
  exact ⟨b, o, ha, hb, by simpa using g 0 _ rfl, by simpa [Nat.add_assoc] using g 1 _ rfl, by simpa [Nat.add_assoc] using g 2 _ rfl⟩
theorem strAt {N : Nat} {w : World} {a : Option Addr} {l : List ByteArray} (h : Arr N w a (cellsS l)) {k : Nat} (hk : k < l.length) : ∃ b o, a = some ⟨b, o, none⟩ ∧ b < N ∧ w.cell? ⟨b, o + k, none⟩ = some (.string l[k]) := by
  obtain ⟨b, o, ha, hb, hc⟩ := h.at_ (by intro h0; have := cellsS_len l; rw [h0] at this; simp at this; omega)
  have g := fun (j : Nat) (v : Value) (hv : ((fun s : ByteArray => [Value.string s]) l[k])[j]? = some v) => hc _ _ (cellsOf_get (fun s : ByteArray => [Value.string s]) 1 (fun _ => rfl) l k j l[k] v (List.getElem?_eq_getElem hk) hv)
  exact ⟨b, o, ha, hb, by simpa using g 0 _ rfl⟩
theorem intAt {N : Nat} {w : World} {a : Option Addr} {l : List Int} (h : Arr N w a (cellsI l)) {k : Nat} (hk : k < l.length) : ∃ b o, a = some ⟨b, o, none⟩ ∧ b < N ∧ w.cell? ⟨b, o + k, none⟩ = some (.int .i64 l[k]) := by
  obtain ⟨b, o, ha, hb, hc⟩ := h.at_ (by intro h0; have := cellsI_len l; rw [h0] at this; simp at this; omega)
  have g := fun (j : Nat) (v : Value) (hv : ((fun n : Int => [Value.int .i64 n]) l[k])[j]? = some v) => hc _ _ (cellsOf_get (fun n : Int => [Value.int .i64 n]) 1 (fun _ => rfl) l k j l[k] v (List.getElem?_eq_getElem hk) hv)
  exact ⟨b, o, ha, hb, by simpa using g 0 _ rfl⟩

def okPage (p : Int) : Bool := decide (1 ≤ p ∧ p ≤ 4095)
/-- A valid cell. -/
def Cl.ok (c : Cl) : Bool := decide (0 ≤ c.len ∧ c.len ≤ 8192 ∧ (c.len ≤ 120 → (c.data.size : Int) = c.len ∧ c.page = 0) ∧ (¬ c.len ≤ 120 → c.data.size = 0 ∧ 1 ≤ c.page ∧ c.page ≤ 4095))
/-- A part that may be in a leaf, or in another node. -/
def Pt.okL (x : Pt) : Bool := Cl.ok ⟨x.len, x.data, x.page⟩
def Pt.okI (x : Pt) : Bool := decide (x.len = 0 ∧ x.data.size = 0 ∧ 1 ≤ x.page ∧ x.page ≤ 4095)

def lessK (p k : ByteArray) : Bool := Op.bytesLess p.toList k.toList

/-- Keys that may be. -/
def KeysOk (l : List ByteArray) : Prop := ∀ (i : Nat) k, l[i]? = some k → k.size ≤ 100 ∧ (0 < i → ∀ p, l[i - 1]? = some p → lessK p k = true)
open Classical in
noncomputable def keysOk (l : List ByteArray) : Bool := decide (KeysOk l)

theorem KeysOk.take {l : List ByteArray} (h : KeysOk l) (n : Nat) : KeysOk (l.take n) := by
  intro i k hi
  rw [List.getElem?_take] at hi
  split at hi
  · rename_i hlt
    refine ⟨(h i k hi).1, fun h0 p hp => (h i k hi).2 h0 p ?_⟩
    rw [List.getElem?_take] at hp
    split at hp
    · exact hp
    · simp at hp
  · simp at hi
theorem KeysOk.succ {l : List ByteArray} {n : Nat} (h : KeysOk (l.take n)) (hn : n < l.length) (h1 : l[n].size ≤ 100) (h2 : 0 < n → ∀ p, l[n - 1]? = some p → lessK p l[n] = true) : KeysOk (l.take (n + 1)) := by
  intro i k hi
  rw [List.getElem?_take] at hi
  split at hi
  · rename_i hlt
    by_cases hin : i < n
    · have h0 := h i k (by rw [List.getElem?_take, if_pos hin]; exact hi)
      refine ⟨h0.1, fun hz p hp => h0.2 hz p ?_⟩
      rw [List.getElem?_take] at hp ⊢
      rw [if_pos (by omega)] at hp ⊢
      exact hp
    · have : i = n := by omega
      subst this
      rw [List.getElem?_eq_getElem hn] at hi
      simp at hi; subst hi
      refine ⟨h1, fun hz p hp => ?_⟩
      rw [List.getElem?_take, if_pos (by omega)] at hp
      exact h2 hz p hp
  · simp at hi
theorem KeysOk.len_no {l : List ByteArray} {n : Nat} (hn : n < l.length) (h : ¬ l[n].size ≤ 100) : ¬ KeysOk l := fun H => h (H n _ (List.getElem?_eq_getElem hn)).1
theorem KeysOk.less_no {l : List ByteArray} {n : Nat} (hn : n < l.length) {p : ByteArray} (hp : l[n - 1]? = some p) (h0 : 0 < n) (h : lessK p l[n] = false) : ¬ KeysOk l := fun H => by
  have := (H n _ (List.getElem?_eq_getElem hn)).2 h0 _ hp
  rw [h] at this; cases this

/-- A node that may be, as the program has it. -/
def Nd.Ok (n : Nd) : Prop := KeysOk n.keys ∧ (if n.leaf then n.cells.length = n.keys.length ∧ n.kids = [] ∧ ∀ c ∈ n.cells, c.ok = true else n.keys ≠ [] ∧ n.kids.length = n.keys.length + 1 ∧ n.cells = [] ∧ ∀ p ∈ n.kids, okPage p = true)
open Classical in
noncomputable def Nd.ok (n : Nd) : Bool := decide n.Ok

/-- .. and as the document has it. -/
def Rn.Ok (n : Rn) : Prop := KeysOk (n.l.map Pt.key) ∧ (if n.leaf then n.kid = 0 ∧ ∀ x ∈ n.l, x.okL = true else n.l ≠ [] ∧ okPage n.kid = true ∧ ∀ x ∈ n.l, x.okI = true)
open Classical in
noncomputable def Rn.ok (n : Rn) : Bool := decide n.Ok

/-- The program's node as the document's: of a leaf the cells, of another node the kids behind the first. -/
def zipL : List ByteArray → List Cl → List Pt
  | k :: ks, c :: cs => ⟨k, c.len, c.data, c.page⟩ :: zipL ks cs
  | _, _ => []
def zipI : List ByteArray → List Int → List Pt
  | k :: ks, p :: ps => ⟨k, 0, ⟨#[]⟩, p⟩ :: zipI ks ps
  | _, _ => []
def Nd.shaped (n : Nd) : Bool := if n.leaf then decide (n.cells.length = n.keys.length ∧ n.kids.length = 0) else decide (n.kids.length = n.keys.length + 1 ∧ n.cells.length = 0)
def Nd.asR (n : Nd) : Rn := if n.leaf then ⟨true, 0, zipL n.keys n.cells⟩ else ⟨false, n.kids.headD 0, zipI n.keys n.kids.tail⟩
/-- .. and back. -/
def Rn.asN (x : Rn) : Nd := if x.leaf then ⟨true, x.l.map Pt.key, x.l.map fun p => ⟨p.len, p.data, p.page⟩, []⟩ else ⟨false, x.l.map Pt.key, [], x.kid :: x.l.map Pt.page⟩
/-- The document's node has nothing that the program's can't have. -/
def Rn.plain (x : Rn) : Prop := if x.leaf then x.kid = 0 else ∀ p ∈ x.l, p.len = 0 ∧ p.data = ⟨#[]⟩

theorem zipL_key : ∀ (ks : List ByteArray) (cs : List Cl), cs.length = ks.length → (zipL ks cs).map Pt.key = ks ∧ (zipL ks cs).map (fun p => (⟨p.len, p.data, p.page⟩ : Cl)) = cs
  | [], [], _ => by simp [zipL]
  | [], _ :: _, h => by simp at h
  | _ :: _, [], h => by simp at h
  | k :: ks, c :: cs, h => by
    have := zipL_key ks cs (by simpa using h)
    simp [zipL, this.1, this.2]
theorem zipI_key : ∀ (ks : List ByteArray) (cs : List Int), cs.length = ks.length → (zipI ks cs).map Pt.key = ks ∧ (zipI ks cs).map Pt.page = cs
  | [], [], _ => by simp [zipI]
  | [], _ :: _, h => by simp at h
  | _ :: _, [], h => by simp at h
  | k :: ks, c :: cs, h => by
    have := zipI_key ks cs (by simpa using h)
    simp [zipI, this.1, this.2]
theorem zipI_plain : ∀ (ks : List ByteArray) (cs : List Int), ∀ p ∈ zipI ks cs, p.len = 0 ∧ p.data = ⟨#[]⟩
  | [], _, p, h => by simp [zipI] at h
  | _ :: _, [], p, h => by simp [zipI] at h
  | k :: ks, c :: cs, p, h => by
    simp [zipI] at h
    rcases h with rfl | h
    · exact ⟨rfl, rfl⟩
    · exact zipI_plain ks cs p h

theorem asN_asR {n : Nd} (h : n.shaped = true) : n.asR.asN = n ∧ n.asR.plain := by
  obtain ⟨leaf, ks, cs, ps⟩ := n
  cases leaf with
  | true =>
    simp only [Nd.shaped, if_true, decide_eq_true_eq] at h
    have := zipL_key ks cs h.1
    have h2 : ps = [] := List.length_eq_zero_iff.1 h.2
    subst h2
    simp [Nd.asR, Rn.asN, Rn.plain, this.1, this.2]
  | false =>
    simp only [Nd.shaped, Bool.false_eq_true, if_false, decide_eq_true_eq] at h
    have h2 : cs = [] := List.length_eq_zero_iff.1 h.2
    subst h2
    match ps, h with
    | p :: ps, h =>
      have := zipI_key ks ps (by simpa using h.1)
      simp [Nd.asR, Rn.asN, Rn.plain, this.1, this.2]
      exact fun q hq => zipI_plain ks ps q hq

theorem zipL_map (l : List Pt) : zipL (l.map Pt.key) (l.map fun p => (⟨p.len, p.data, p.page⟩ : Cl)) = l := by
  induction l with
  | nil => rfl
  | cons x r ih => simp [zipL, ih]
theorem zipI_map (l : List Pt) (h : ∀ p ∈ l, p.len = 0 ∧ p.data = ⟨#[]⟩) : zipI (l.map Pt.key) (l.map Pt.page) = l := by
  induction l with
  | nil => rfl
  | cons x r ih =>
    obtain ⟨k, n, d, p⟩ := x
    have := h _ (List.mem_cons_self)
    simp only at this
    obtain ⟨rfl, rfl⟩ := this
    simp [zipI, ih (fun p hp => h p (List.mem_cons_of_mem _ hp))]

theorem asR_asN {x : Rn} (h : x.plain) : x.asN.asR = x ∧ x.asN.shaped = true := by
  obtain ⟨leaf, kid, l⟩ := x
  cases leaf with
  | true =>
    simp only [Rn.plain, if_true] at h
    simp [Rn.asN, Nd.asR, Nd.shaped, zipL_map, h]
  | false =>
    simp only [Rn.plain, Bool.false_eq_true, if_false] at h
    simp [Rn.asN, Nd.asR, Nd.shaped, zipI_map l h]

theorem okI_of {x : Pt} (h1 : x.len = 0) (h2 : x.data = ⟨#[]⟩) : x.okI = okPage x.page := by
  unfold Pt.okI okPage
  rw [h1, h2]
  simp [ByteArray.size]

/-- The program's node may be just where the document's may. -/
theorem ok_iff (n : Nd) : n.Ok ↔ n.shaped = true ∧ n.asR.Ok := by
  constructor
  · intro h
    obtain ⟨hk, h⟩ := h
    obtain ⟨leaf, ks, cs, ps⟩ := n
    cases leaf with
    | true =>
      simp only [if_true] at h hk
      obtain ⟨h1, h2, h3⟩ := h
      have hz := zipL_key ks cs h1
      refine ⟨by simp [Nd.shaped, h1, h2], ?_⟩
      simp only [Rn.Ok, Nd.asR, if_true, hz.1]
      refine ⟨hk, trivial, fun x hx => ?_⟩
      have : (⟨x.len, x.data, x.page⟩ : Cl) ∈ cs := by rw [← hz.2]; exact List.mem_map.2 ⟨x, hx, rfl⟩
      exact h3 _ this
    | false =>
      simp only [Bool.false_eq_true, if_false] at h hk
      obtain ⟨h0, h1, h2, h3⟩ := h
      match ps, h1, h3 with
      | p :: ps, h1, h3 =>
        have hz := zipI_key ks ps (by simpa using h1)
        refine ⟨by simp [Nd.shaped, h2]; simpa using h1, ?_⟩
        simp only [Rn.Ok, Nd.asR, Bool.false_eq_true, if_false, List.tail_cons, List.headD_cons, hz.1]
        refine ⟨hk, ?_, h3 p (by simp), fun x hx => ?_⟩
        · intro h; apply h0; rw [← hz.1, h]; rfl
        · have := zipI_plain ks ps x hx
          rw [okI_of this.1 this.2]
          apply h3
          have : x.page ∈ ps := by rw [← hz.2]; exact List.mem_map.2 ⟨x, hx, rfl⟩
          simp [this]
  · rintro ⟨hs, h⟩
    obtain ⟨leaf, ks, cs, ps⟩ := n
    cases leaf with
    | true =>
      simp only [Nd.shaped, if_true, decide_eq_true_eq] at hs
      have hz := zipL_key ks cs hs.1
      simp only [Rn.Ok, Nd.asR, if_true, hz.1] at h
      refine ⟨h.1, ?_⟩
      simp only [if_true]
      refine ⟨hs.1, List.length_eq_zero_iff.1 hs.2, fun c hc => ?_⟩
      rw [← hz.2] at hc
      obtain ⟨x, hx, rfl⟩ := List.mem_map.1 hc
      exact h.2.2 x hx
    | false =>
      simp only [Nd.shaped, Bool.false_eq_true, if_false, decide_eq_true_eq] at hs
      match ps, hs, h with
      | p :: ps, hs, h =>
        have hz := zipI_key ks ps (by simpa using hs.1)
        simp only [Rn.Ok, Nd.asR, Bool.false_eq_true, if_false, List.tail_cons, List.headD_cons, hz.1] at h
        refine ⟨h.1, ?_⟩
        simp only [Bool.false_eq_true, if_false]
        refine ⟨?_, hs.1, List.length_eq_zero_iff.1 hs.2, fun q hq => ?_⟩
        · intro h0; apply h.2.1; subst h0; simp [zipI]
        · rcases List.mem_cons.1 hq with rfl | hq
          · exact h.2.2.1
          · rw [← hz.2] at hq
            obtain ⟨x, hx, rfl⟩ := List.mem_map.1 hq
            have := zipI_plain ks ps x hx
            rw [← okI_of this.1 this.2]
            exact h.2.2.2 x hx
end Go.Proofs.Ytfldjmjnjeemeaa
