/- Several texts of one proof, one behind the other. -/
import Derived.Test.YtapbhhehnbfdfaaWPk10
import Derived.Laws.StructEq
import Derived.Maps.OwnSet
import Derived.StringKeys
set_option linter.unusedSimpArgs false
set_option linter.unusedVariables false

/- A table in memory; the walks of isName, hasPeriod, has, Find, and of the reference's IsName. -/
set_option linter.unusedSimpArgs false
set_option linter.unusedVariables false
set_option maxRecDepth 100000
namespace Go.Proofs.Ytapbhhehnbfdfaa
open Go.RowKit

/-- Where a table's columns and its key lie. -/
structure TM where
  ca : Option Addr
  cl : Nat
  cc : Nat
  ka : Option Addr
  kl : Nat
  kc : Nat

/-- The cells of a table. -/
abbrev TM.cs (m : TM) (t : Tb) : Array Value := #[.string t.name, .slice m.ca m.cl m.cc, .slice m.ka m.kl m.kc, .string t.per, .int .i64 t.fr, .int .i64 t.tt, .bool t.apart, .bool t.vers]
abbrev TM.v (m : TM) (t : Tb) : Value := .agg (m.cs t)

/-- The table t lies there. -/
structure TAt (w : World) (t : Tb) (m : TM) : Prop where
  hc : m.cl = t.cols.length
  hk : m.kl = t.key.length
  ccap : m.cl ≤ m.cc
  kcap : m.kl ≤ m.kc
  carr : Arr w.heap.size w m.ca (cellsO t.cols)
  karr : Arr w.heap.size w m.ka (cellsI t.key)
  fair : t.Fair
theorem TAt.later {w w' : World} {t : Tb} {m : TM} (h : TAt w t m) (hb : Below w.heap.size w w') : TAt w' t m :=
  ⟨h.hc, h.hk, h.ccap, h.kcap, h.carr.later (N := 0) hb, h.karr.later (N := 0) hb, h.fair⟩
theorem TAt.cmax {w : World} {t : Tb} {m : TM} (h : TAt w t m) : m.cl ≤ 1000000 := by have := h.fair.cl; have := h.hc; omega
theorem TAt.kmax {w : World} {t : Tb} {m : TM} (h : TAt w t m) : m.kl ≤ 1000000 := by have := h.fair.kl; have := h.hk; omega

theorem isNm_eq (s : ByteArray) : isNm s = (decide ((nameV s).2 = 0) && decide ((nameV s).1 = s)) := by
  unfold isNm
  obtain ⟨x, e⟩ := nameV s
  rw [Bool.eq_iff_iff]
  simp
  exact and_comm

theorem size0 {s : ByteArray} (h : s.size = 0) : s = ⟨#[]⟩ := by
  apply ByteArray.ext
  exact Array.eq_empty_of_size_eq_zero h

end Go.Proofs.Ytapbhhehnbfdfaa

/- The walks of slices.Contains over integers, of isKey, isEdge, Find and what these call. -/
set_option linter.unusedSimpArgs false
set_option linter.unusedVariables false
set_option maxRecDepth 100000
namespace Go.Proofs.Ytapbhhehnbfdfaa
open Go.RowKit

/-- 's[:m]'. -/
theorem Arr.frontS {P : Program} {N : Nat} {w : World} {a : Option Addr} {l : List Value} (h : Arr N w a l) (t e : TypeId) (z : Nat) (ht : P.underlying t = some (.slice e)) (hz : ∀ w, (Go.sizeOf e).run P w = .ok z w)
    (len cap m : Nat) (hlen : l.length = len * z) (hm : m ≤ len) (hcap : len ≤ cap) :
    Arr N w a (l.take (m * z)) ∧ ∀ W, (Instr.slice t (.slice a len cap) none (some (.int .i64 (m : Int))) none).run P W = .ok (.slice a m cap) W := by
  have ht' : P.underlying t = some (.slice (P.elem t)) := by simp [Program.elem, ht]
  have hee : P.elem t = e := by simp [Program.elem, ht]
  refine ⟨?_, fun W => ?_⟩
  · rcases h with h2 | ⟨b, o, ha, hN, hc⟩
    · exact .inl (by simp [h2])
    · refine .inr ⟨b, o, ha, hN, fun i c hi => hc i c ?_⟩
      rw [List.getElem?_take] at hi
      split at hi
      · exact hi
      · simp at hi
  · have hu := run_underlying (P := P) (w := W) ht
    have hz' := hz W
    cases a <;> simp [Instr.slice, hu, hz', asIntOf, go_sem] <;> try omega
theorem info_intS : (Try.prog.info? 3).map (fun i => (i.zero, i.size, i.bytes)) = some (some (.int .i64 0), 1, 8) := by kernel_rfl
theorem sizeOf_intS : ∀ w, (Go.sizeOf 3).run Try.prog w = .ok 1 w := by
  obtain ⟨i0, hi, hz0, hz1, hz2⟩ := info_parts info_intS
  intro w
  have h := run_sizeOf (P := Try.prog) w hi
  have e : Try.prog.cellsOf 3 = 1 := by kernel_rfl
  rw [e] at h; exact h

/-- A table in a block of the call's own. -/
structure TBox (W : World) (B : Nat) (m : TM) (t : Tb) : Prop where
  c0 : W.cell? ⟨B, 0, none⟩ = some (.string t.name)
  c1 : W.cell? ⟨B, 1, none⟩ = some (.slice m.ca m.cl m.cc)
  c2 : W.cell? ⟨B, 2, none⟩ = some (.slice m.ka m.kl m.kc)
  c3 : W.cell? ⟨B, 3, none⟩ = some (.string t.per)
  c4 : W.cell? ⟨B, 4, none⟩ = some (.int .i64 t.fr)
  c5 : W.cell? ⟨B, 5, none⟩ = some (.int .i64 t.tt)
  c6 : W.cell? ⟨B, 6, none⟩ = some (.bool t.apart)
  c7 : W.cell? ⟨B, 7, none⟩ = some (.bool t.vers)
theorem TBox.new (w : World) (m : TM) (t : Tb) (T : TypeId) : TBox (w.alloc (.cells (m.cs t) T)) w.heap.size m t :=
  ⟨by simp, by simp, by simp, by simp, by simp, by simp, by simp, by simp⟩
theorem TBox.later {W W' : World} {B N : Nat} {m : TM} {t : Tb} (h : TBox W B m t) (hB : B < N) (hb : Below N W W') : TBox W' B m t :=
  ⟨(hb.cell (p := ⟨B, 0, none⟩) hB).trans h.c0, (hb.cell (p := ⟨B, 1, none⟩) hB).trans h.c1, (hb.cell (p := ⟨B, 2, none⟩) hB).trans h.c2, (hb.cell (p := ⟨B, 3, none⟩) hB).trans h.c3, (hb.cell (p := ⟨B, 4, none⟩) hB).trans h.c4, (hb.cell (p := ⟨B, 5, none⟩) hB).trans h.c5, (hb.cell (p := ⟨B, 6, none⟩) hB).trans h.c6, (hb.cell (p := ⟨B, 7, none⟩) hB).trans h.c7⟩

open Classical in
noncomputable def keyOkB (l : List Col) (ks : List Int) : Bool := decide (KeyOk l ks)
theorem keyOk_iff {l : List Col} {ks : List Int} : keyOkB l ks = true ↔ KeyOk l ks := by unfold keyOkB; simp
theorem keyOk_false {l : List Col} {ks : List Int} (h : ¬ KeyOk l ks) : keyOkB l ks = false := by unfold keyOkB; simpa using h

end Go.Proofs.Ytapbhhehnbfdfaa

/- The walk of areColumns: names in a map. -/
set_option linter.unusedSimpArgs false
set_option linter.unusedVariables false
set_option maxRecDepth 100000
namespace Go.Proofs.Ytapbhhehnbfdfaa
open Go.RowKit

/-- The map's keys are these columns' names. -/
structure NameSet (l : List Col) (D : DataW Unit) : Prop where
  tidy : Maps.Tidy D
  le : Maps.size D ≤ l.length
  nd : Maps.size D = l.length ↔ (l.map Col.nm).Nodup
  has : ∀ s : ByteArray, Maps.has D (.string s.data.toList) = true ↔ s ∈ l.map Col.nm

theorem NameSet.nil : NameSet [] (.map []) := ⟨Maps.tidy_empty, by simp [Maps.size_eq], by simp [Maps.size_eq], fun s => by simp [Maps.has_eq]⟩
theorem data_inj {s t : ByteArray} (h : s.data.toList = t.data.toList) : s = t := ByteArray.ext (Array.toList_inj.1 h)
theorem NameSet.snoc {l : List Col} {D : DataW Unit} (h : NameSet l D) (c : Col) (d : DataW Unit) : NameSet (l ++ [c]) (D.put (.string c.nm.data.toList) d) := by
  have hk : WideAt.IsKeyLit (.string c.nm.data.toList) := trivial
  have hsz := Maps.size_put (k := .string c.nm.data.toList) h.tidy d
  have hh := h.has c.nm
  refine ⟨h.tidy.put hk d, ?_, ?_, fun s => ?_⟩
  · rw [hsz, List.length_append, List.length_singleton]
    have := h.le
    split <;> omega
  · rw [hsz, List.length_append, List.length_singleton, List.map_append, List.nodup_append]
    have h1 := h.le
    have h2 := h.nd
    by_cases hm : c.nm ∈ l.map Col.nm
    · rw [if_pos (hh.2 hm)]
      constructor
      · intro h0; omega
      · rintro ⟨-, -, h3⟩
        exact absurd rfl (h3 _ hm c.nm (by simp))
    · rw [if_neg (fun h0 => hm (hh.1 h0))]
      constructor
      · intro h0
        refine ⟨h2.1 (by omega), by simp, ?_⟩
        intro a ha b hb
        simp at hb
        subst hb
        rintro rfl
        exact hm ha
      · rintro ⟨h3, -, -⟩
        have := h2.2 h3
        omega
  · by_cases hs : s = c.nm
    · subst hs
      rw [Maps.has_put_same h.tidy.isMap hk d]
      simp
    · rw [Maps.has_put_other (by intro h0; injection h0 with h0; exact hs (data_inj h0)) d, h.has s]
      simp [hs]

open Classical in
noncomputable def colsOk (l : List Col) : Bool := decide (ColsOk l)
theorem colsOk_iff {l : List Col} : colsOk l = true ↔ ColsOk l := by unfold colsOk; simp
theorem colsOk_false {l : List Col} (h : ¬ ColsOk l) : colsOk l = false := by unfold colsOk; simpa using h
theorem colsOk_bad {l : List Col} {k : Nat} (hk : k < l.length) (h : l[k].ok = false) : colsOk l = false := colsOk_false (fun H => by have := H.2.2.1 _ (List.getElem_mem hk); rw [h] at this; cases this)

theorem stringKeyed : Maps.Keyed Try.prog 9 := Maps.string_keyed Try.underlying9

end Go.Proofs.Ytapbhhehnbfdfaa

/- The walks of isEdge and Find. -/
set_option linter.unusedSimpArgs false
set_option linter.unusedVariables false
set_option maxRecDepth 100000
namespace Go.Proofs.Ytapbhhehnbfdfaa
open Go.RowKit

open Classical in
noncomputable def edgeB (l : List Col) (i : Int) : Bool := decide (EdgeAt l i)
theorem edgeB_false {l : List Col} {i : Int} (h : ¬ EdgeAt l i) : edgeB l i = false := by unfold edgeB; simpa using h
theorem edgeB_eq {l : List Col} {j : Nat} (h : j < l.length) : edgeB l j = (decide (l[j].kd = 1) && l[j].nn) := by
  unfold edgeB EdgeAt
  rw [Int.toNat_natCast, List.getElem?_eq_getElem h, Bool.eq_iff_iff]
  simp
  exact and_comm

end Go.Proofs.Ytapbhhehnbfdfaa

/- The walks of slices.IndexFunc over columns, of Find, isPeriod, canBeApart and Right. -/
set_option linter.unusedSimpArgs false
set_option linter.unusedVariables false
set_option maxRecDepth 100000
namespace Go.Proofs.Ytapbhhehnbfdfaa
open Go.RowKit

open Classical in
noncomputable def perOk (t : Tb) : Bool := decide (PerOk t)
open Classical in
noncomputable def apOk (t : Tb) : Bool := decide (t.per.size ≠ 0 ∧ t.fr ∉ t.key ∧ t.tt ∉ t.key)
theorem perOk_eq (t : Tb) : perOk t = if t.per.size = 0 then (decide (t.fr = -1) && decide (t.tt = -1)) else (isNm t.per && (decide (findC t.cols t.per = -1) && (decide (t.fr ≠ t.tt) && (edgeB t.cols t.fr && edgeB t.cols t.tt)))) := by
  unfold perOk PerOk edgeB
  rw [Bool.eq_iff_iff]
  by_cases h0 : t.per.size = 0
  · rw [if_pos h0, if_pos h0]; simp
  · rw [if_neg h0, if_neg h0]; simp
theorem apOk_eq (t : Tb) : apOk t = (decide (t.per.size ≠ 0) && (!decide (t.fr ∈ t.key) && !decide (t.tt ∈ t.key))) := by
  unfold apOk
  rw [Bool.eq_iff_iff]
  simp
theorem Tb.ok_eq (t : Tb) : t.ok = (isNm t.name && (colsOk t.cols && (keyOkB t.cols t.key && (perOk t && (!t.apart || apOk t))))) := by
  unfold Tb.ok Tb.Ok colsOk keyOkB perOk ApOk apOk
  rw [Bool.eq_iff_iff]
  cases t.apart <;> simp
end Go.Proofs.Ytapbhhehnbfdfaa
