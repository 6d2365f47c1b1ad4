/- Several texts of one proof, one behind the other. -/
import Derived.Test.YtjhdlbkcpdfpcaaDoorFPk1
import Derived.Deep.RegionHeld3
import Derived.Deep.RegionWith
import Derived.BigQuiet
import Derived.Lib.AppendStr
set_option linter.unusedSimpArgs false
set_option linter.unusedVariables false

/- A region that draws its order, walked in ONE order that is given: operations that yield the same in every later world go first (flag true); each of the others (flag false) is the only one that may come up when its turn comes. -/
set_option linter.unusedSimpArgs false
set_option linter.unusedVariables false
set_option maxRecDepth 100000
namespace Go.Proofs.YtjhdlbkcpdfpcaaDoor
open Go.RowKit

section
variable {P : Program} {ops : Array Oper} {Q : Exit → Act → World → Prop} {md : Region.Mode}

/-- A later world: what stood in this one stands there as it was. -/
def Later (w w' : World) : Prop := Below w.heap.size w w'
theorem Later.refl (w : World) : Later w w := Below.refl _ _
theorem Later.trans {a b c : World} (h : Later a b) (k : Later b c) : Later a c := Below.trans h (Below.mono k h.size)

def wpO (P : Program) (ops : Array Oper) (Q : Exit → Act → World → Prop) (L : World → World → Prop) : List (Nat × Bool) → Act → World → Prop
  | [], a, w => Q .normal a w
  | (i, true) :: r, a, w => ∃ o v, ops[i]? = some o ∧ YieldsIf P ops (L w) o v a ∧ wpO P ops Q L r (a.put o.dst v) w
  | (i, false) :: r, a, w => wpOp P ops Q i (fun a' w' => L w w' ∧ wpO P ops Q L r a' w') a w

def checkO (md : Region.Mode) (ops : Array Oper) : List (Nat × Bool) → Array Bool → Bool
  | [], listed => Region.ready md ops listed == []
  | (i, true) :: r, listed => Region.free md ops listed i && (Region.ready md ops listed).contains i && checkO md ops r (listed.setIfInBounds i true)
  | (i, false) :: r, listed => Region.ready md ops listed == [i] && checkO md ops r (listed.setIfInBounds i true)

theorem wpAnyH_stronger {S S' : World → Prop} (hS : ∀ w, S' w → S w) : ∀ (fuel : Nat) (listed : Array Bool) (a : Act) (w : World), wpAnyH P md ops Q S' fuel listed a w → wpAnyH P md ops Q S fuel listed a w
  | 0, _, _, _, h => h
  | fuel + 1, _, _, _, h => ⟨h.1, fun i hi => wpOp_mono (fun _ _ h' => ⟨hS _ h'.1, wpAnyH_stronger hS fuel _ _ _ h'.2⟩) (h.2 i hi)⟩

theorem wpO_sound {L : World → World → Prop} (Lr : ∀ w, L w w) (Lt : ∀ {a b c}, L a b → L b c → L a c) (hs : Region.noSelect ops = true) (hQ : ∀ c (a : Act) d v w, Q (.panic c) (a.put d v) w → Q (.panic c) a w) :
    ∀ (ord : List (Nat × Bool)) (fuel : Nat) (listed : Array Bool) (a : Act) (w : World), ord.length ≤ fuel → checkO md ops ord listed = true → wpO P ops Q L ord a w → wpAnyH P md ops Q (L w) fuel listed a w
  | [], fuel, listed, a, w, _, hc, h => wpAnyH_done (by simpa [checkO] using hc) h fuel
  | (i, true) :: r, fuel, listed, a, w, hf, hc, h => by
    obtain ⟨o, v, ho, hy, h⟩ := h
    simp only [checkO, Bool.and_eq_true] at hc
    cases fuel with
    | zero => simp at hf
    | succ fuel =>
      exact wpAnyH_take ho hs hc.1.1 hc.1.2 (fun c a w => hQ c a o.dst v w) hy (Lr w) (wpO_sound Lr Lt hs hQ r fuel _ _ w (by simpa using hf) hc.2 h)
  | (i, false) :: r, fuel, listed, a, w, hf, hc, h => by
    simp only [checkO, Bool.and_eq_true, beq_iff_eq] at hc
    cases fuel with
    | zero => simp at hf
    | succ fuel =>
      refine wpAnyH_all (rs := [i]) hc.1 (by simp) ?_
      intro j hj
      rw [List.mem_singleton.1 hj]
      exact wpOp_mono (fun a' w' h' => ⟨h'.1, wpAnyH_stronger (fun x hx => Lt h'.1 hx) fuel _ _ _ (wpO_sound Lr Lt hs hQ r fuel _ a' w' (by simpa using hf) hc.2 h'.2)⟩) h

theorem NoPanic.put (Q : Exit → Act → World → Prop) : ∀ c (a : Act) d v w, NoPanic Q (.panic c) (a.put d v) w → NoPanic Q (.panic c) a w := fun _ _ _ _ _ h => h

/-- Number i of a list that is written out. -/
def nth : List Oper → Nat → Option Oper
  | [], _ => none
  | x :: _, 0 => some x
  | _ :: r, n + 1 => nth r n

theorem nth_get : ∀ (l : List Oper) (i : Nat) (o : Oper), nth l i = some o → l[i]? = some o
  | [], _, _, h => by simp [nth] at h
  | x :: r, 0, o, h => by simpa [nth] using h
  | x :: r, n + 1, o, h => by simpa using nth_get r n o h

theorem nth_ops {i : Nat} {o : Oper} (h : nth ops.toList i = some o) : ops[i]? = some o := by
  have := nth_get _ _ _ h
  simpa using this

/-- A later world, but for one block, which the region itself may write. -/
structure LaterB (B : Nat) (w w' : World) : Prop where
  os : w'.os = w.os
  tape : w'.tape = w.tape
  output : w'.output = w.output
  size : w.heap.size ≤ w'.heap.size
  block : ∀ k, k < w.heap.size → k ≠ B → w'.heap[k]? = w.heap[k]?
theorem LaterB.refl (B : Nat) (w : World) : LaterB B w w := ⟨rfl, rfl, rfl, Nat.le_refl _, fun _ _ _ => rfl⟩
theorem LaterB.trans {B : Nat} {a b c : World} (h : LaterB B a b) (k : LaterB B b c) : LaterB B a c :=
  ⟨k.os.trans h.os, k.tape.trans h.tape, k.output.trans h.output, Nat.le_trans h.size k.size, fun i hi hn => (k.block i (Nat.lt_of_lt_of_le hi h.size) hn).trans (h.block i hi hn)⟩
theorem Later.toB {w w' : World} (h : Later w w') (B : Nat) : LaterB B w w' := ⟨h.os, h.tape, h.output, h.size, fun k hk _ => h.block k hk⟩
theorem LaterB.setCell {w : World} {b : Nat} {o : Nat} (v : Value) : LaterB b w (w.setCell ⟨b, o, none⟩ v) :=
  ⟨rfl, rfl, rfl, by simp [World.setCell], fun k _ hn => Below.heap_setCell _ _ _ _ hn⟩
theorem LaterB.cell {B : Nat} {w w' : World} (h : LaterB B w w') {b o : Nat} (hb : b < w.heap.size) (hn : b ≠ B) : w'.cell? ⟨b, o, none⟩ = w.cell? ⟨b, o, none⟩ :=
  World.cell?_of_block (w := w) (a := ⟨b, o, none⟩) (h.block b hb hn)
theorem LaterB.undrew {B : Nat} {w W : World} (h : LaterB B w.drew W) : LaterB B w W := ⟨h.os, h.tape, h.output, h.size, h.block⟩

/-- The beginning. -/
theorem wp_region_ord {id : Nat} {a : Act} {w : World} (ord : List (Nat × Bool)) (hm : P.follows .mixedOrders = true) (hs : Region.noSelect ops = true)
    (hl : decide (ord.length ≤ ops.size) = true) (hc : checkO .any ops ord (Array.replicate ops.size false) = true) (h : wpO P ops (NoPanic Q) Later ord a w.drew) : (Code.region id ops true).wp P Q a w :=
  wp_region_noPanic (wp_region_held hm (wpO_sound Later.refl Later.trans hs (NoPanic.put Q) ord ops.size _ a w.drew (of_decide_eq_true hl) hc h))

/-- The beginning, where the region writes one block. -/
theorem wp_region_ordB {id : Nat} {a : Act} {w : World} (B : Nat) (ord : List (Nat × Bool)) (hm : P.follows .mixedOrders = true) (hs : Region.noSelect ops = true)
    (hl : decide (ord.length ≤ ops.size) = true) (hc : checkO .any ops ord (Array.replicate ops.size false) = true) (h : wpO P ops (NoPanic Q) (LaterB B) ord a w.drew) : (Code.region id ops true).wp P Q a w :=
  wp_region_noPanic (wp_region_held hm (wpO_sound (LaterB.refl B) LaterB.trans hs (NoPanic.put Q) ord ops.size _ a w.drew (of_decide_eq_true hl) hc h))

variable {L : World → World → Prop}
theorem wpO_nil {a : Act} {w : World} (h : Q .normal a w) : wpO P ops (NoPanic Q) L [] a w := h

theorem wpO_F {i : Nat} {r : List (Nat × Bool)} {a : Act} {w : World} {o : Oper} {v : Value} (ho : nth ops.toList i = some o) (hw : Region.wanted o (yielded ops a.tmps) = true)
    (hv : ∀ w', L w w' → (execOp a.eval o).run P w' = .ok (.value v) w') (h : wpO P ops Q L r (a.put o.dst v) w) : wpO P ops Q L ((i, true) :: r) a w :=
  ⟨o, v, nth_ops ho, .inl ⟨hw, hv⟩, h⟩

theorem wpO_G' (Lr : ∀ w, L w w) {i : Nat} {b : Bool} {r : List (Nat × Bool)} {a : Act} {w : World} {o : Oper} (ho : nth ops.toList i = some o) (hw : Region.wanted o (yielded ops a.tmps) = false)
    (h : wpO P ops Q L r (a.put o.dst undef) w) : wpO P ops Q L ((i, b) :: r) a w := by
  cases b with
  | true => exact ⟨o, undef, nth_ops ho, .inr ⟨hw, rfl⟩, h⟩
  | false =>
    show wpOp P ops Q i _ a w
    unfold wpOp
    simp only [nth_ops ho, hw]
    exact ⟨Lr w, h⟩

theorem wpO_G {i : Nat} {b : Bool} {r : List (Nat × Bool)} {a : Act} {w : World} {o : Oper} (ho : nth ops.toList i = some o) (hw : Region.wanted o (yielded ops a.tmps) = false)
    (h : wpO P ops Q Later r (a.put o.dst undef) w) : wpO P ops Q Later ((i, b) :: r) a w := wpO_G' Later.refl ho hw h

theorem wpO_C {i : Nat} {r : List (Nat × Bool)} {a : Act} {w : World} {o : Oper} (ho : nth ops.toList i = some o) (hw : Region.wanted o (yielded ops a.tmps) = true)
    (h : o.wp P a w (fun a' w' => L w w' ∧ wpO P ops Q L r a' w') Q) : wpO P ops Q L ((i, false) :: r) a w := by
  show wpOp P ops Q i _ a w
  unfold wpOp
  simp only [nth_ops ho, hw]
  exact .inl h

end
attribute [irreducible] wpO
end Go.Proofs.YtjhdlbkcpdfpcaaDoor

/- The walk of hindsightlaw01.alive. -/
set_option linter.unusedSimpArgs false
set_option linter.unusedVariables false
set_option maxRecDepth 100000
namespace Go.Proofs.YtjhdlbkcpdfpcaaDoor
open Go.RowKit

/-- A call that hands back bytes l in memory of its own. -/
def RetB (w : World) (l : List Nat) (e : Ending) (w' : World) : Prop :=
  ∃ a cap, e = .returned (.slice a l.length cap) ∧ l.length ≤ cap ∧ Bs w'.heap.size w' a l ∧ Below w.heap.size w w'

theorem RetB.of {w : World} {l : List Nat} {T : TypeId} {e : Ending} {w' : World} : (∃ r, e = .returned r ∧ OwnB w' w.heap.size T r l ∧ Below w.heap.size w w') → RetB w l e w' := by
  rintro ⟨r, rfl, hown, hb⟩
  obtain ⟨a, cap, rfl, hc, hB, _⟩ := hown.slice
  exact ⟨a, cap, rfl, hc, hB, hb⟩

theorem Bs.str {N : Nat} {w : World} {a : Option Addr} {l : List Nat} (h : Bs N w a l) (n cap : Nat) (hn : n = l.length) :
    (convert 80 9 (.slice a n cap)).run Tryd.prog w = .ok (.string (strN l)) w :=
  h.conv 80 5 Tryd.underlying80 Tryd.underlying5 9 Tryd.underlying9 n cap hn

theorem Bs.strL {w : World} {a : Option Addr} {l : List Nat} (h : Bs w.heap.size w a l) (n cap : Nat) (hn : n = l.length) :
    ∀ W, Later w W → (convert 80 9 (.slice a n cap)).run Tryd.prog W = .ok (.string (strN l)) W := fun W hW => (h.below hW).str n cap hn

theorem Bs.new (w : World) (l : List Nat) (hl : ∀ c ∈ l, c < 256) (cs : Array Value) (T : TypeId) (hcs : ∀ (i c : Nat), l[i]? = some c → cs[i]? = some (Value.int .u8 (c : Int))) :
    Bs (w.heap.size + 1) (w.alloc (.cells cs T)) (some ⟨w.heap.size, 0, none⟩) l :=
  ⟨hl, .inr ⟨w.heap.size, 0, rfl, by omega, fun i c hi => by rw [World.cell?_alloc_new, Nat.zero_add]; exact hcs i c hi⟩⟩

theorem e300 : putL 300 = [172, 2] := by rw [putL_step (by omega), putL_small (by omega)]

end Go.Proofs.YtjhdlbkcpdfpcaaDoor

/- The walks of the laws VarintSizes and VarintInts. -/
set_option linter.unusedSimpArgs false
set_option linter.unusedVariables false
set_option maxRecDepth 100000
namespace Go.Proofs.YtjhdlbkcpdfpcaaDoor
open Go.RowKit

end Go.Proofs.YtjhdlbkcpdfpcaaDoor

/- The walk of the law VarintInts. -/
set_option linter.unusedSimpArgs false
set_option linter.unusedVariables false
set_option maxRecDepth 100000
namespace Go.Proofs.YtjhdlbkcpdfpcaaDoor
open Go.RowKit

end Go.Proofs.YtjhdlbkcpdfpcaaDoor

/- The walks of PutText and GetText (varint's and hindsightref01's). -/
set_option linter.unusedSimpArgs false
set_option linter.unusedVariables false
set_option maxRecDepth 100000
namespace Go.Proofs.YtjhdlbkcpdfpcaaDoor
open Go.RowKit

/-- The bytes of a string. -/
def bytesOf (s : ByteArray) : List Nat := s.data.toList.map UInt8.toNat

theorem bytesOf_len (s : ByteArray) : (bytesOf s).length = s.size := by simp [bytesOf]
theorem bytesOf_lt (s : ByteArray) : ∀ c ∈ bytesOf s, c < 256 := by
  intro c hc
  obtain ⟨u, _, rfl⟩ := List.mem_map.1 hc
  exact u.toNat_lt
theorem strN_bytesOf (s : ByteArray) : strN (bytesOf s) = s := by
  apply ByteArray.ext
  apply Array.toList_inj.1
  have e : (UInt8.ofNat ∘ UInt8.toNat) = id := by funext x; simp
  simp [strN, bytesOf, e]
theorem bytesOf_get (s : ByteArray) (i : Nat) (h : i < s.size) : (bytesOf s)[i]? = some s[i].toNat := by
  simp [bytesOf, h]
  rfl
theorem strCells_bytes (s : ByteArray) : Lib.strCells s = (bytesOf s).map fun (c : Nat) => Value.int .u8 (c : Int) := by
  simp [Lib.strCells, bytesOf]

/-- 'append(b, s...)' of a string. -/
theorem wpList_appStr {P : Program} {ops : Array Oper} {rest : List Oper} {o : Oper} {a : Act} {Q : Exit → Act → World → Prop} (hgd : o.guard = none) (sl x : Operand) (t u : TypeId)
    (ho : o.op = .call { callee := .builtin .append, args := #[sl, x], argTypes := #[t, u] })
    (base : Nat) (e : TypeId) (i : TypeInfo) (ht : P.underlying t = some (.slice e)) (hu : P.underlying u = some .string) (hi : P.info? e = some i) (hz : i.zero = some (.int .u8 0))
    (hsize : i.size = 1) (hby : i.bytes = 1)
    (v : Value) (l : List Nat) (w : World) (hown : OwnB w base e v l) (hs : a.eval sl = v) (s : ByteArray) (hx : a.eval x = .string s)
    (hlen : l.length + s.size < 100000000000000) (hbase : base ≤ w.heap.size)
    (h : ∀ v' w', OwnB w' base e v' (l ++ bytesOf s) → Below base w w' → w.heap.size ≤ w'.heap.size → wpList P ops Q rest (a.put o.dst v') w') : wpList P ops Q (o :: rest) a w := by
  refine Lib.wpList_append_own_string w hgd sl x t u ho base e i ht hu hi hz hsize hby v l.length _ hs hown.2 s hx ?_ ?_ hbase ?_
  · unfold maxLen; omega
  · omega
  · intro v' w' hown' hgrow _
    refine h v' w' ⟨?_, ?_⟩ ?_ hgrow.size
    · intro d hd
      rcases List.mem_append.1 hd with hd | hd
      · exact hown.1 d hd
      · exact bytesOf_lt s d hd
    · rw [strCells_bytes] at hown'
      simpa [bytesOf_len] using hown'
    · exact (Below.refl base w).grown hgrow hbase (fun j hj => (hown.2.lt j hj).1)

/-- 'append(b, c...)' of bytes that are not none. -/
theorem wpList_appB {P : Program} {ops : Array Oper} {rest : List Oper} {o : Oper} {a : Act} {Q : Exit → Act → World → Prop} (hgd : o.guard = none) (sl x : Operand) (t : TypeId)
    (ho : o.op = .call { callee := .builtin .append, args := #[sl, x], argTypes := #[t, t] })
    (base : Nat) (e : TypeId) (i : TypeInfo) (ht : P.underlying t = some (.slice e)) (hi : P.info? e = some i) (hz : i.zero = some (.int .u8 0))
    (hsize : i.size = 1) (hby : i.bytes = 1)
    (v : Value) (l : List Nat) (w : World) (hown : OwnB w base e v l) (hs : a.eval sl = v) (N : Nat) (ad : Option Addr) (m : List Nat) (n c : Nat) (hB : Bs N w ad m) (hm : m ≠ []) (hn : n = m.length) (hx : a.eval x = .slice ad n c)
    (hlen : l.length + m.length < 100000000000000) (hbase : base ≤ w.heap.size)
    (h : ∀ v' w', OwnB w' base e v' (l ++ m) → Below base w w' → w.heap.size ≤ w'.heap.size → wpList P ops Q rest (a.put o.dst v') w') : wpList P ops Q (o :: rest) a w := by
  subst hn
  obtain ⟨hB1, hB2⟩ := hB
  rcases hB2 with hB2 | ⟨b, f, rfl, hb, hc⟩
  · exact absurd hB2 hm
  · refine wpList_append_own w hgd sl x t ho base e i (.int .u8 0) 1 1 ht hi hz hsize hby rfl (by decide) v l.length _ hs hown.2 ⟨b, f, none⟩ m.length c (m.map fun (c : Nat) => Value.int .u8 (c : Int)) hx (by simp) ?_ ?_ ?_ ?_ hbase ?_
    · intro j u hj
      rw [List.getElem?_map] at hj
      cases hmj : m[j]? with
      | none => rw [hmj] at hj; simp at hj
      | some q =>
        rw [hmj] at hj
        simp at hj
        subst hj
        have e1 : (⟨b, f, none⟩ : Addr).add j = ⟨b, f + j, none⟩ := by unfold Addr.add; split <;> simp_all
        rw [e1]; exact hc j q hmj
    · intro u hu
      obtain ⟨q, _, rfl⟩ := List.mem_map.1 hu
      rfl
    · unfold maxLen; omega
    · omega
    · intro v' w' hown' hgrow _
      refine h v' w' ⟨?_, ?_⟩ ?_ hgrow.size
      · intro d hd
        rcases List.mem_append.1 hd with hd | hd
        · exact hown.1 d hd
        · exact hB1 d hd
      · simpa using hown'
      · exact (Below.refl base w).grown hgrow hbase (fun j hj => (hown.2.lt j hj).1)

/-- The text's bytes. -/
def textL (s : ByteArray) : List Nat := putL s.size ++ bytesOf s

/-- What GetText answers. -/
def textR (l : List Nat) (at_ : Int) : ByteArray × Int × Nat :=
  let g := getR l at_
  if g.2.2 ≠ 0 then (ByteArray.empty, 0, g.2.2)
  else if (l.length : Int) - g.2.1 < (g.1 : Int) then (ByteArray.empty, 0, 10)
  else (strN ((l.drop g.2.1.toNat).take g.1), g.2.1 + g.1, 0)


end Go.Proofs.YtjhdlbkcpdfpcaaDoor

/- The mathematics of nodes: what they are, their bytes, what is read. -/
set_option linter.unusedSimpArgs false
set_option linter.unusedVariables false
set_option maxRecDepth 100000
namespace Go.Proofs.YtjhdlbkcpdfpcaaDoor
open Go.RowKit

/-- A part of a node: a key, a value's length, and what stands behind the key. -/
structure Pt where
  key : ByteArray
  len : Int
  data : ByteArray
  page : Int
  deriving DecidableEq

/-- A node as the document has it: a kind, a first kid, and parts. -/
structure Rn where
  leaf : Bool
  kid : Int
  l : List Pt
  deriving DecidableEq

/-- A cell. -/
structure Cl where
  len : Int
  data : ByteArray
  page : Int
  deriving DecidableEq

/-- A node as the program has it. -/
structure Nd where
  leaf : Bool
  keys : List ByteArray
  cells : List Cl
  kids : List Int
  deriving DecidableEq

def cellsP (l : List Pt) : List Value := cellsOf (fun p => [.string p.key, .int .i64 p.len, .string p.data, .int .i64 p.page]) l
def cellsC (l : List Cl) : List Value := cellsOf (fun c => [.int .i64 c.len, .string c.data, .int .i64 c.page]) l
def cellsS (l : List ByteArray) : List Value := cellsOf (fun s => [.string s]) l
def cellsI (l : List Int) : List Value := cellsOf (fun n => [.int .i64 n]) l

theorem cellsP_len (l : List Pt) : (cellsP l).length = l.length * 4 := cellsOf_len _ 4 (fun _ => rfl) l
theorem cellsC_len (l : List Cl) : (cellsC l).length = l.length * 3 := cellsOf_len _ 3 (fun _ => rfl) l
theorem cellsS_len (l : List ByteArray) : (cellsS l).length = l.length * 1 := cellsOf_len _ 1 (fun _ => rfl) l
theorem cellsI_len (l : List Int) : (cellsI l).length = l.length * 1 := cellsOf_len _ 1 (fun _ => rfl) l

/-- The cells of the k-th part. -/
theorem partAt {N : Nat} {w : World} {a : Option Addr} {l : List Pt} (h : Arr N w a (cellsP l)) {k : Nat} (hk : k < l.length) : ∃ b o, a = some ⟨b, o, none⟩ ∧ b < N ∧
    w.cell? ⟨b, o + k * 4, none⟩ = some (.string l[k].key) ∧ w.cell? ⟨b, o + k * 4 + 1, none⟩ = some (.int .i64 l[k].len) ∧ w.cell? ⟨b, o + k * 4 + 2, none⟩ = some (.string l[k].data) ∧ w.cell? ⟨b, o + k * 4 + 3, none⟩ = some (.int .i64 l[k].page) := by
  obtain ⟨b, o, ha, hb, hc⟩ := h.at_ (by intro h0; have := cellsP_len l; rw [h0] at this; simp at this; omega)
  have g := fun (j : Nat) (v : Value) (hv : ((fun p : Pt => [.string p.key, .int .i64 p.len, .string p.data, .int .i64 p.page]) l[k])[j]? = some v) => hc _ _ (cellsOf_get (fun p : Pt => [.string p.key, .int .i64 p.len, .string p.data, .int .i64 p.page]) 4 (fun _ => rfl) l k j l[k] v (List.getElem?_eq_getElem hk) hv)
  exact ⟨b, o, ha, hb, by simpa using g 0 _ rfl, by simpa [Nat.add_assoc] using g 1 _ rfl, by simpa [Nat.add_assoc] using g 2 _ rfl, by simpa [Nat.add_assoc] using g 3 _ rfl⟩
/-- The cells of the k-th cell of a node. -/
theorem cellAt {N : Nat} {w : World} {a : Option Addr} {l : List Cl} (h : Arr N w a (cellsC l)) {k : Nat} (hk : k < l.length) : ∃ b o, a = some ⟨b, o, none⟩ ∧ b < N ∧
    w.cell? ⟨b, o + k * 3, none⟩ = some (.int .i64 l[k].len) ∧ w.cell? ⟨b, o + k * 3 + 1, none⟩ = some (.string l[k].data) ∧ w.cell? ⟨b, o + k * 3 + 2, none⟩ = some (.int .i64 l[k].page) := by
  obtain ⟨b, o, ha, hb, hc⟩ := h.at_ (by intro h0; have := cellsC_len l; rw [h0] at this; simp at this; omega)
  have g := fun (j : Nat) (v : Value) (hv : ((fun c : Cl => [.int .i64 c.len, .string c.data, .int .i64 c.page]) l[k])[j]? = some v) => hc _ _ (cellsOf_get (fun c : Cl => [.int .i64 c.len, .string c.data, .int .i64 c.page]) 3 (fun _ => rfl) l k j l[k] v (List.getElem?_eq_getElem hk) hv)
  exact ⟨b, o, ha, hb, by simpa using g 0 _ rfl, by simpa [Nat.add_assoc] using g 1 _ rfl, by simpa [Nat.add_assoc] using g 2 _ rfl⟩
theorem strAt {N : Nat} {w : World} {a : Option Addr} {l : List ByteArray} (h : Arr N w a (cellsS l)) {k : Nat} (hk : k < l.length) : ∃ b o, a = some ⟨b, o, none⟩ ∧ b < N ∧ w.cell? ⟨b, o + k, none⟩ = some (.string l[k]) := by
  obtain ⟨b, o, ha, hb, hc⟩ := h.at_ (by intro h0; have := cellsS_len l; rw [h0] at this; simp at this; omega)
  have g := fun (j : Nat) (v : Value) (hv : ((fun s : ByteArray => [Value.string s]) l[k])[j]? = some v) => hc _ _ (cellsOf_get (fun s : ByteArray => [Value.string s]) 1 (fun _ => rfl) l k j l[k] v (List.getElem?_eq_getElem hk) hv)
  exact ⟨b, o, ha, hb, by simpa using g 0 _ rfl⟩
theorem intAt {N : Nat} {w : World} {a : Option Addr} {l : List Int} (h : Arr N w a (cellsI l)) {k : Nat} (hk : k < l.length) : ∃ b o, a = some ⟨b, o, none⟩ ∧ b < N ∧ w.cell? ⟨b, o + k, none⟩ = some (.int .i64 l[k]) := by
  obtain ⟨b, o, ha, hb, hc⟩ := h.at_ (by intro h0; have := cellsI_len l; rw [h0] at this; simp at this; omega)
  have g := fun (j : Nat) (v : Value) (hv : ((fun n : Int => [Value.int .i64 n]) l[k])[j]? = some v) => hc _ _ (cellsOf_get (fun n : Int => [Value.int .i64 n]) 1 (fun _ => rfl) l k j l[k] v (List.getElem?_eq_getElem hk) hv)
  exact ⟨b, o, ha, hb, by simpa using g 0 _ rfl⟩

def okPage (p : Int) : Bool := decide (1 ≤ p ∧ p ≤ 4095)
/-- A valid cell. -/
def Cl.ok (c : Cl) : Bool := decide (0 ≤ c.len ∧ c.len ≤ 8192 ∧ (c.len ≤ 120 → (c.data.size : Int) = c.len ∧ c.page = 0) ∧ (¬ c.len ≤ 120 → c.data.size = 0 ∧ 1 ≤ c.page ∧ c.page ≤ 4095))
/-- A part that may be in a leaf, or in another node. -/
def Pt.okL (x : Pt) : Bool := Cl.ok ⟨x.len, x.data, x.page⟩
def Pt.okI (x : Pt) : Bool := decide (x.len = 0 ∧ x.data.size = 0 ∧ 1 ≤ x.page ∧ x.page ≤ 4095)

def lessK (p k : ByteArray) : Bool := Op.bytesLess p.toList k.toList

/-- Keys that may be. -/
def KeysOk (l : List ByteArray) : Prop := ∀ (i : Nat) k, l[i]? = some k → k.size ≤ 100 ∧ (0 < i → ∀ p, l[i - 1]? = some p → lessK p k = true)
open Classical in
noncomputable def keysOk (l : List ByteArray) : Bool := decide (KeysOk l)

theorem KeysOk.take {l : List ByteArray} (h : KeysOk l) (n : Nat) : KeysOk (l.take n) := by
  intro i k hi
  rw [List.getElem?_take] at hi
  split at hi
  · rename_i hlt
    refine ⟨(h i k hi).1, fun h0 p hp => (h i k hi).2 h0 p ?_⟩
    rw [List.getElem?_take] at hp
    split at hp
    · exact hp
    · simp at hp
  · simp at hi
theorem KeysOk.succ {l : List ByteArray} {n : Nat} (h : KeysOk (l.take n)) (hn : n < l.length) (h1 : l[n].size ≤ 100) (h2 : 0 < n → ∀ p, l[n - 1]? = some p → lessK p l[n] = true) : KeysOk (l.take (n + 1)) := by
  intro i k hi
  rw [List.getElem?_take] at hi
  split at hi
  · rename_i hlt
    by_cases hin : i < n
    · have h0 := h i k (by rw [List.getElem?_take, if_pos hin]; exact hi)
      refine ⟨h0.1, fun hz p hp => h0.2 hz p ?_⟩
      rw [List.getElem?_take] at hp ⊢
      rw [if_pos (by omega)] at hp ⊢
      exact hp
    · have : i = n := by omega
      subst this
      rw [List.getElem?_eq_getElem hn] at hi
      simp at hi; subst hi
      refine ⟨h1, fun hz p hp => ?_⟩
      rw [List.getElem?_take, if_pos (by omega)] at hp
      exact h2 hz p hp
  · simp at hi
theorem KeysOk.len_no {l : List ByteArray} {n : Nat} (hn : n < l.length) (h : ¬ l[n].size ≤ 100) : ¬ KeysOk l := fun H => h (H n _ (List.getElem?_eq_getElem hn)).1
theorem KeysOk.less_no {l : List ByteArray} {n : Nat} (hn : n < l.length) {p : ByteArray} (hp : l[n - 1]? = some p) (h0 : 0 < n) (h : lessK p l[n] = false) : ¬ KeysOk l := fun H => by
  have := (H n _ (List.getElem?_eq_getElem hn)).2 h0 _ hp
  rw [h] at this; cases this

/-- A node that may be, as the program has it. -/
def Nd.Ok (n : Nd) : Prop := KeysOk n.keys ∧ (if n.leaf then n.cells.length = n.keys.length ∧ n.kids = [] ∧ ∀ c ∈ n.cells, c.ok = true else n.keys ≠ [] ∧ n.kids.length = n.keys.length + 1 ∧ n.cells = [] ∧ ∀ p ∈ n.kids, okPage p = true)
open Classical in
noncomputable def Nd.ok (n : Nd) : Bool := decide n.Ok

/-- .. and as the document has it. -/
def Rn.Ok (n : Rn) : Prop := KeysOk (n.l.map Pt.key) ∧ (if n.leaf then n.kid = 0 ∧ ∀ x ∈ n.l, x.okL = true else n.l ≠ [] ∧ okPage n.kid = true ∧ ∀ x ∈ n.l, x.okI = true)
open Classical in
noncomputable def Rn.ok (n : Rn) : Bool := decide n.Ok

/-- The program's node as the document's: of a leaf the cells, of another node the kids behind the first. -/
def zipL : List ByteArray → List Cl → List Pt
  | k :: ks, c :: cs => ⟨k, c.len, c.data, c.page⟩ :: zipL ks cs
  | _, _ => []
def zipI : List ByteArray → List Int → List Pt
  | k :: ks, p :: ps => ⟨k, 0, ⟨#[]⟩, p⟩ :: zipI ks ps
  | _, _ => []
def Nd.shaped (n : Nd) : Bool := if n.leaf then decide (n.cells.length = n.keys.length ∧ n.kids.length = 0) else decide (n.kids.length = n.keys.length + 1 ∧ n.cells.length = 0)
def Nd.asR (n : Nd) : Rn := if n.leaf then ⟨true, 0, zipL n.keys n.cells⟩ else ⟨false, n.kids.headD 0, zipI n.keys n.kids.tail⟩
/-- .. and back. -/
def Rn.asN (x : Rn) : Nd := if x.leaf then ⟨true, x.l.map Pt.key, x.l.map fun p => ⟨p.len, p.data, p.page⟩, []⟩ else ⟨false, x.l.map Pt.key, [], x.kid :: x.l.map Pt.page⟩
/-- The document's node has nothing that the program's can't have. -/
def Rn.plain (x : Rn) : Prop := if x.leaf then x.kid = 0 else ∀ p ∈ x.l, p.len = 0 ∧ p.data = ⟨#[]⟩

theorem zipL_key : ∀ (ks : List ByteArray) (cs : List Cl), cs.length = ks.length → (zipL ks cs).map Pt.key = ks ∧ (zipL ks cs).map (fun p => (⟨p.len, p.data, p.page⟩ : Cl)) = cs
  | [], [], _ => by simp [zipL]
  | [], _ :: _, h => by simp at h
  | _ :: _, [], h => by simp at h
  | k :: ks, c :: cs, h => by
    have := zipL_key ks cs (by simpa using h)
    simp [zipL, this.1, this.2]
theorem zipI_key : ∀ (ks : List ByteArray) (cs : List Int), cs.length = ks.length → (zipI ks cs).map Pt.key = ks ∧ (zipI ks cs).map Pt.page = cs
  | [], [], _ => by simp [zipI]
  | [], _ :: _, h => by simp at h
  | _ :: _, [], h => by simp at h
  | k :: ks, c :: cs, h => by
    have := zipI_key ks cs (by simpa using h)
    simp [zipI, this.1, this.2]
theorem zipI_plain : ∀ (ks : List ByteArray) (cs : List Int), ∀ p ∈ zipI ks cs, p.len = 0 ∧ p.data = ⟨#[]⟩
  | [], _, p, h => by simp [zipI] at h
  | _ :: _, [], p, h => by simp [zipI] at h
  | k :: ks, c :: cs, p, h => by
    simp [zipI] at h
    rcases h with rfl | h
    · exact ⟨rfl, rfl⟩
    · exact zipI_plain ks cs p h

theorem asN_asR {n : Nd} (h : n.shaped = true) : n.asR.asN = n ∧ n.asR.plain := by
  obtain ⟨leaf, ks, cs, ps⟩ := n
  cases leaf with
  | true =>
    simp only [Nd.shaped, if_true, decide_eq_true_eq] at h
    have := zipL_key ks cs h.1
    have h2 : ps = [] := List.length_eq_zero_iff.1 h.2
    subst h2
    simp [Nd.asR, Rn.asN, Rn.plain, this.1, this.2]
  | false =>
    simp only [Nd.shaped, Bool.false_eq_true, if_false, decide_eq_true_eq] at h
    have h2 : cs = [] := List.length_eq_zero_iff.1 h.2
    subst h2
    match ps, h with
    | p :: ps, h =>
      have := zipI_key ks ps (by simpa using h.1)
      simp [Nd.asR, Rn.asN, Rn.plain, this.1, this.2]
      exact fun q hq => zipI_plain ks ps q hq

theorem zipL_map (l : List Pt) : zipL (l.map Pt.key) (l.map fun p => (⟨p.len, p.data, p.page⟩ : Cl)) = l := by
  induction l with
  | nil => rfl
  | cons x r ih => simp [zipL, ih]
theorem zipI_map (l : List Pt) (h : ∀ p ∈ l, p.len = 0 ∧ p.data = ⟨#[]⟩) : zipI (l.map Pt.key) (l.map Pt.page) = l := by
  induction l with
  | nil => rfl
  | cons x r ih =>
    obtain ⟨k, n, d, p⟩ := x
    have := h _ (List.mem_cons_self)
    simp only at this
    obtain ⟨rfl, rfl⟩ := this
    simp [zipI, ih (fun p hp => h p (List.mem_cons_of_mem _ hp))]

theorem asR_asN {x : Rn} (h : x.plain) : x.asN.asR = x ∧ x.asN.shaped = true := by
  obtain ⟨leaf, kid, l⟩ := x
  cases leaf with
  | true =>
    simp only [Rn.plain, if_true] at h
    simp [Rn.asN, Nd.asR, Nd.shaped, zipL_map, h]
  | false =>
    simp only [Rn.plain, Bool.false_eq_true, if_false] at h
    simp [Rn.asN, Nd.asR, Nd.shaped, zipI_map l h]

theorem okI_of {x : Pt} (h1 : x.len = 0) (h2 : x.data = ⟨#[]⟩) : x.okI = okPage x.page := by
  unfold Pt.okI okPage
  rw [h1, h2]
  simp [ByteArray.size]

/-- The program's node may be just where the document's may. -/
theorem ok_iff (n : Nd) : n.Ok ↔ n.shaped = true ∧ n.asR.Ok := by
  constructor
  · intro h
    obtain ⟨hk, h⟩ := h
    obtain ⟨leaf, ks, cs, ps⟩ := n
    cases leaf with
    | true =>
      simp only [if_true] at h hk
      obtain ⟨h1, h2, h3⟩ := h
      have hz := zipL_key ks cs h1
      refine ⟨by simp [Nd.shaped, h1, h2], ?_⟩
      simp only [Rn.Ok, Nd.asR, if_true, hz.1]
      refine ⟨hk, trivial, fun x hx => ?_⟩
      have : (⟨x.len, x.data, x.page⟩ : Cl) ∈ cs := by rw [← hz.2]; exact List.mem_map.2 ⟨x, hx, rfl⟩
      exact h3 _ this
    | false =>
      simp only [Bool.false_eq_true, if_false] at h hk
      obtain ⟨h0, h1, h2, h3⟩ := h
      match ps, h1, h3 with
      | p :: ps, h1, h3 =>
        have hz := zipI_key ks ps (by simpa using h1)
        refine ⟨by simp [Nd.shaped, h2]; simpa using h1, ?_⟩
        simp only [Rn.Ok, Nd.asR, Bool.false_eq_true, if_false, List.tail_cons, List.headD_cons, hz.1]
        refine ⟨hk, ?_, h3 p (by simp), fun x hx => ?_⟩
        · intro h; apply h0; rw [← hz.1, h]; rfl
        · have := zipI_plain ks ps x hx
          rw [okI_of this.1 this.2]
          apply h3
          have : x.page ∈ ps := by rw [← hz.2]; exact List.mem_map.2 ⟨x, hx, rfl⟩
          simp [this]
  · rintro ⟨hs, h⟩
    obtain ⟨leaf, ks, cs, ps⟩ := n
    cases leaf with
    | true =>
      simp only [Nd.shaped, if_true, decide_eq_true_eq] at hs
      have hz := zipL_key ks cs hs.1
      simp only [Rn.Ok, Nd.asR, if_true, hz.1] at h
      refine ⟨h.1, ?_⟩
      simp only [if_true]
      refine ⟨hs.1, List.length_eq_zero_iff.1 hs.2, fun c hc => ?_⟩
      rw [← hz.2] at hc
      obtain ⟨x, hx, rfl⟩ := List.mem_map.1 hc
      exact h.2.2 x hx
    | false =>
      simp only [Nd.shaped, Bool.false_eq_true, if_false, decide_eq_true_eq] at hs
      match ps, hs, h with
      | p :: ps, hs, h =>
        have hz := zipI_key ks ps (by simpa using hs.1)
        simp only [Rn.Ok, Nd.asR, Bool.false_eq_true, if_false, List.tail_cons, List.headD_cons, hz.1] at h
        refine ⟨h.1, ?_⟩
        simp only [Bool.false_eq_true, if_false]
        refine ⟨?_, hs.1, List.length_eq_zero_iff.1 hs.2, fun q hq => ?_⟩
        · intro h0; apply h.2.1; subst h0; simp [zipI]
        · rcases List.mem_cons.1 hq with rfl | hq
          · exact h.2.2.1
          · rw [← hz.2] at hq
            obtain ⟨x, hx, rfl⟩ := List.mem_map.1 hq
            have := zipI_plain ks ps x hx
            rw [← okI_of this.1 this.2]
            exact h.2.2.2 x hx
end Go.Proofs.YtjhdlbkcpdfpcaaDoor
