/- Several texts of one proof, one behind the other. -/
import Derived.Test.YtmfdnphjhbbkiaaRPk11
import Derived.WalkMore
import Derived.Deep.QuietTactic
import Derived.BigQuiet
import Derived.WalkSmall
import Derived.OpenShut
import Derived.Lib.SmallJoins
import Derived.SizedLaws
set_option linter.unusedSimpArgs false
set_option linter.unusedVariables false

/- A scope in memory; the walks of slices.Clone over columns, of typing.columns, all and Slots. -/
set_option linter.unusedSimpArgs false
set_option linter.unusedVariables false
set_option maxRecDepth 100000
namespace Go.Proofs.Ytmfdnphjhbbkiaa
open Go.RowKit

/-- A source in a scope: its name, its table, and where the table's rows lie. -/
structure Sx where
  al : ByteArray
  t : Tb
  m : TM
abbrev Sx.cells (x : Sx) : List Value := [.string x.al, .string x.t.name, .slice x.m.ca x.m.cl x.m.cc, .slice x.m.ka x.m.kl x.m.kc, .string x.t.per, .int .i64 x.t.fr, .int .i64 x.t.tt, .bool x.t.apart, .bool x.t.vers]
def cellsSx (l : List Sx) : List Value := cellsOf Sx.cells l
theorem cellsSx_len (l : List Sx) : (cellsSx l).length = l.length * 9 := cellsOf_len _ 9 (fun _ => rfl) l
/-- The cells of a source in a box. -/
structure Slot9 (W : World) (B o : Nat) (x : Sx) : Prop where
  c0 : W.cell? ⟨B, o, none⟩ = some (.string x.al)
  c1 : W.cell? ⟨B, o + 1, none⟩ = some (.string x.t.name)
  c2 : W.cell? ⟨B, o + 2, none⟩ = some (.slice x.m.ca x.m.cl x.m.cc)
  c3 : W.cell? ⟨B, o + 3, none⟩ = some (.slice x.m.ka x.m.kl x.m.kc)
  c4 : W.cell? ⟨B, o + 4, none⟩ = some (.string x.t.per)
  c5 : W.cell? ⟨B, o + 5, none⟩ = some (.int .i64 x.t.fr)
  c6 : W.cell? ⟨B, o + 6, none⟩ = some (.int .i64 x.t.tt)
  c7 : W.cell? ⟨B, o + 7, none⟩ = some (.bool x.t.apart)
  c8 : W.cell? ⟨B, o + 8, none⟩ = some (.bool x.t.vers)
theorem Slot9.new (w : World) (T : TypeId) (x : Sx) : Slot9 (w.alloc (.cells #[.string x.al, .string x.t.name, .slice x.m.ca x.m.cl x.m.cc, .slice x.m.ka x.m.kl x.m.kc, .string x.t.per, .int .i64 x.t.fr, .int .i64 x.t.tt, .bool x.t.apart, .bool x.t.vers] T)) w.heap.size 0 x :=
  ⟨by simp, by simp, by simp, by simp, by simp, by simp, by simp, by simp, by simp⟩
theorem Slot9.later {W W' : World} {B o N : Nat} {x : Sx} (h : Slot9 W B o x) (hB : B < N) (hb : Below N W W') : Slot9 W' B o x :=
  ⟨(hb.cell (p := ⟨B, o, none⟩) hB).trans h.c0, (hb.cell (p := ⟨B, o + 1, none⟩) hB).trans h.c1, (hb.cell (p := ⟨B, o + 2, none⟩) hB).trans h.c2, (hb.cell (p := ⟨B, o + 3, none⟩) hB).trans h.c3, (hb.cell (p := ⟨B, o + 4, none⟩) hB).trans h.c4, (hb.cell (p := ⟨B, o + 5, none⟩) hB).trans h.c5, (hb.cell (p := ⟨B, o + 6, none⟩) hB).trans h.c6, (hb.cell (p := ⟨B, o + 7, none⟩) hB).trans h.c7, (hb.cell (p := ⟨B, o + 8, none⟩) hB).trans h.c8⟩
/-- The k-th source's cells. -/
theorem sxAt {N : Nat} {w : World} {a : Option Addr} {l : List Sx} (h : Arr N w a (cellsSx l)) {k : Nat} (hk : k < l.length) : ∃ b o, a = some ⟨b, o, none⟩ ∧ b < N ∧ Slot9 w b (o + k * 9) l[k] := by
  obtain ⟨b, o, ha, hb, hc⟩ := h.at_ (by intro h0; have := cellsSx_len l; rw [h0] at this; simp at this; omega)
  have g := fun (j : Nat) (v : Value) (hv : (Sx.cells l[k])[j]? = some v) => hc _ _ (cellsOf_get Sx.cells 9 (fun _ => rfl) l k j l[k] v (List.getElem?_eq_getElem hk) hv)
  refine ⟨b, o, ha, hb, ?_, ?_, ?_, ?_, ?_, ?_, ?_, ?_, ?_⟩
  · simpa using g 0 _ rfl
  · simpa [Nat.add_assoc] using g 1 _ rfl
  · simpa [Nat.add_assoc] using g 2 _ rfl
  · simpa [Nat.add_assoc] using g 3 _ rfl
  · simpa [Nat.add_assoc] using g 4 _ rfl
  · simpa [Nat.add_assoc] using g 5 _ rfl
  · simpa [Nat.add_assoc] using g 6 _ rfl
  · simpa [Nat.add_assoc] using g 7 _ rfl
  · simpa [Nat.add_assoc] using g 8 _ rfl

/-- The scope lies there. -/
structure ScAt (w : World) (a : Option Addr) (cap : Nat) (L : List Sx) : Prop where
  arr : Arr w.heap.size w a (cellsSx L)
  tabs : ∀ x ∈ L, TAt w x.t x.m
  names : ∀ x ∈ L, x.al.size ≤ 1000000
  small : L.length ≤ 6
  hcap : L.length ≤ cap
  hmax : cap ≤ 9223372036854775807
theorem ScAt.later {w w' : World} {a : Option Addr} {cap : Nat} {L : List Sx} (h : ScAt w a cap L) (hb : Below w.heap.size w w') : ScAt w' a cap L :=
  ⟨(h.arr.below hb).mono hb.size, fun x hx => (h.tabs x hx).later hb, h.names, h.small, h.hcap, h.hmax⟩

/-- The columns of a source, with the system's. -/
def sysC : List Col := [⟨sysF, 1, false⟩, ⟨sysT, 1, false⟩]
def colsOf (t : Tb) : List Col := t.cols ++ (if t.vers = true then sysC else [])
def allOf (L : List Sx) : List Col := L.flatMap fun x => colsOf x.t
theorem allOf_snoc (L : List Sx) (x : Sx) : allOf (L ++ [x]) = allOf L ++ colsOf x.t := by simp [allOf]
theorem colsOf_len {t : Tb} (h : t.cols.length ≤ 1000000) : (colsOf t).length ≤ 1000002 := by
  unfold colsOf sysC
  rw [List.length_append]
  split <;> simp only [List.length_cons, List.length_nil] <;> omega
theorem one_O (l : List Col) : ∀ u ∈ cellsO l, u.oneCell' = true := by
  intro u hu
  unfold cellsO cellsOf at hu
  obtain ⟨c, _, hc⟩ := List.mem_flatMap.1 hu
  simp at hc
  rcases hc with rfl | rfl | rfl <;> rfl
theorem cellsO_app (l m : List Col) : cellsO (l ++ m) = cellsO l ++ cellsO m := by simp [cellsO, cellsOf]
theorem info_colT : (Try.prog.info? 69).map (fun i => (i.zero, i.size, i.bytes)) = some (some (.agg #[.string ⟨#[]⟩, .int .u8 0, .bool false]), 3, 24) := by kernel_rfl
/-- A call hands back a row of its own. -/
def RetOwn (w : World) (T : TypeId) (z : Nat) (xs : List Value) (n : Nat) (e : Ending) (w' : World) : Prop :=
  ∃ v, e = .returned v ∧ w'.ownsRow w.heap.size T z v n xs ∧ Below w.heap.size w w'

set_option maxRecDepth 100000 in
set_option maxHeartbeats 1000000 in
theorem cloneO_any (l : List Col) (a : Option Addr) (n cap : Nat) (w : World) (hV : Arr w.heap.size w a (cellsO l)) (hn : n = l.length) (hmax : n ≤ 1000000000) :
    Calls Try.prog 24 #[.slice a n cap] w (RetOwn w 69 3 (cellsO l) n) := by
  obtain ⟨i0, hi, hz0, hz1, hz2⟩ := info_parts info_colT
  have q22 : ∀ (w : World) (a : Option Addr) (n c : Nat), (binOp .eql 41 (.slice a n c) (.slice none 0 0)).run Try.prog w = .ok (.bool a.isNone) w := fun w a n c => by simp [binOp, run_equal_slice_nil w _ _ a n c Try.underlying41]
  have HV := Lib.hid hV
  have hlen : (cellsO l).length = n * 3 := by rw [cellsO_len, hn]
  have HN := Lib.hid hlen
  have HO := Lib.hid (one_O l)
  cases a with
  | none =>
    have hvs : cellsO l = [] := by
      rcases hV with h | ⟨b, o, h, _⟩
      · exact h
      · cases h
    have hn0 : n = 0 := by rw [hvs] at hlen; simp at hlen; omega
    subst hn0
    have HE : Hid (RetOwn w 69 3 (cellsO l) 0 (.returned (.slice none 0 0)) w) := ⟨_, rfl, by rw [hvs]; exact World.ownsRow_nil _ _ _ _, Below.refl _ _⟩
    clear hV hlen hvs hn
    go_enter Try.func24, Try.ntmps24
    go_wp2
    go_ret
    exact HE.out
  | some ad =>
    have HB : Hid (Below w.heap.size w (w.alloc (.cells #[] 69))) := Below.box w _
    have HVa : Hid (Arr w.heap.size (w.alloc (.cells #[] 69)) (some ad) (cellsO l)) := hV.below HB.out
    have hown : (w.alloc (.cells #[] 69)).ownsRow w.heap.size 69 3 (.slice (some ⟨w.heap.size, 0, none⟩) 0 0) 0 [] := ⟨by simp, .inr ⟨w.heap.size, 0, #[], rfl, Nat.le_refl _, heap_alloc_new _ _, by omega, by unfold maxLen; omega, by simp, by simp⟩⟩
    have HOwn := Lib.hid hown
    clear hV hlen hown hn
    go_enter Try.func24, Try.ntmps24
    go_wp2_with (at_builtin; refine wpList_appS rfl _ _ 41 rfl w.heap.size 69 i0 (.agg #[.string ⟨#[]⟩, .int .u8 0, .bool false]) 3 24 Try.underlying41 hi hz0 rfl hz1 (by omega) hz2 (by omega) (.slice (some ⟨w.heap.size, 0, none⟩) 0 0) 0 [] (w.alloc (.cells #[] 69)) HOwn.out rfl w.heap.size (some ad) n cap (cellsO l) HVa.out HN.out HO.out rfl (by omega) (by simp) ?_; intro v1 w1 hown1 hc1 hb1; have HO1 := Lib.hid hown1; have HB1 := Lib.hid hb1; clear hown1 hc1 hb1)
    go_ret
    have h1 := HO1.out
    rw [Nat.zero_add, List.nil_append] at h1
    exact ⟨_, rfl, h1, HB.out.trans HB1.out⟩

set_option maxRecDepth 100000 in
set_option maxHeartbeats 2000000 in
theorem columns_any (x : Sx) (w : World) (h : TAt w x.t x.m) :
    Calls Try.prog 19 #[.agg #[.string x.al, .string x.t.name, .slice x.m.ca x.m.cl x.m.cc, .slice x.m.ka x.m.kl x.m.kc, .string x.t.per, .int .i64 x.t.fr, .int .i64 x.t.tt, .bool x.t.apart, .bool x.t.vers]] w (RetOwn w 69 3 (cellsO (colsOf x.t)) (colsOf x.t).length) := by
  obtain ⟨i0, hi, hz0, hz1, hz2⟩ := info_parts info_colT
  have hS := Slot9.new w 46 x
  obtain ⟨w0, hw0⟩ : ∃ w0, w.alloc (.cells #[.string x.al, .string x.t.name, .slice x.m.ca x.m.cl x.m.cc, .slice x.m.ka x.m.kl x.m.kc, .string x.t.per, .int .i64 x.t.fr, .int .i64 x.t.tt, .bool x.t.apart, .bool x.t.vers] 46) = w0 := ⟨_, rfl⟩
  have hb0 : Below w.heap.size w w0 := by rw [← hw0]; exact (Below.refl _ w).alloc (Nat.le_refl _) _
  have hlt : w.heap.size < w0.heap.size := by rw [← hw0]; simp
  rw [hw0] at hS
  have h0 := h.later hb0
  have hcm := h.cmax
  have hcl := h.hc
  have HCl := Lib.hid (cloneO_any x.t.cols x.m.ca x.m.cl x.m.cc w0 h0.carr hcl (by omega))
  have HB0 := Lib.hid hb0
  have HL := Lib.hid hlt
  have HS := Lib.hid hS
  have HCL := Lib.hid hcl
  have hv1 : colsOf x.t = if x.t.vers = true then x.t.cols ++ sysC else x.t.cols := by unfold colsOf; split <;> simp
  have HV := Lib.hid hv1
  generalize colsOf x.t = cs at *
  obtain ⟨al, ⟨nm, cols, key, per, fr, tt, ap, vers⟩, ⟨ca, cl, cc, ka, kl, kc⟩⟩ := x
  dsimp only at *
  obtain ⟨-, -, -, -, -, -, -, -, -⟩ := hS
  clear h h0 hb0 hlt hcl hv1
  obtain ⟨c0, c1, c2, c3, c4, c5, c6, c7, c8⟩ := HS.out
  simp only [Nat.zero_add] at c0 c1 c2 c3 c4 c5 c6 c7 c8
  cases vers with
  | false =>
    rw [if_neg (by decide)] at HV
    go_enter Try.func19, Try.ntmps19
    go_wp2_with fail
    refine HCl.out.mono ?_
    rintro e w1 ⟨v, rfl, ho, hb⟩
    have k8 := (hb.cell (p := ⟨w.heap.size, 8, none⟩) HL.out).trans c8
    have HO := Lib.hid ho
    have HB := Lib.hid (HB0.out.trans (hb.mono HB0.out.size))
    clear ho hb c0 c1 c2 c3 c4 c5 c6 c7 c8
    go_wp2
    go_ret
    refine ⟨_, rfl, ?_, HB.out⟩
    rw [HV.out]
    have := HO.out
    rw [HCL.out] at this
    exact ⟨this.1, this.2.imp id fun ⟨g, c, cur, r1, r2, r3⟩ => ⟨g, c, cur, r1, Nat.le_trans HB0.out.size r2, r3⟩⟩
  | true =>
    rw [if_pos rfl] at HV
    go_enter Try.func19, Try.ntmps19
    go_wp2_with fail
    refine HCl.out.mono ?_
    rintro e w1 ⟨v, rfl, ho, hb⟩
    have k8 := (hb.cell (p := ⟨w.heap.size, 8, none⟩) HL.out).trans c8
    have HO := Lib.hid ho
    have HBs : Hid (w0.heap.size ≤ w1.heap.size) := hb.size
    have HB := Lib.hid (HB0.out.trans (hb.mono HB0.out.size))
    clear ho hb c0 c1 c2 c3 c4 c5 c6 c7 c8
    have hA : Arr (w1.heap.size + 1) (w1.alloc (.cells (cellsO sysC).toArray 69)) (some ⟨w1.heap.size, 0, none⟩) (cellsO sysC) := by
      refine .inr ⟨w1.heap.size, 0, rfl, by omega, fun i v hi => ?_⟩
      rw [World.cell?_alloc_at _ _ _ _ rfl, Nat.zero_add]
      simpa using hi
    obtain ⟨w2, hw2⟩ : ∃ w2, w1.alloc (.cells #[.string ⟨#[115, 121, 115, 95, 102, 114, 111, 109]⟩, .int .u8 1, .bool false, .string ⟨#[115, 121, 115, 95, 116, 111]⟩, .int .u8 1, .bool false] 69) = w2 := ⟨_, rfl⟩
    have HA : Hid (Arr (w1.heap.size + 1) w2 (some ⟨w1.heap.size, 0, none⟩) (cellsO sysC)) := by rw [← hw2]; exact hA
    have HBa : Hid (Below w1.heap.size w1 w2) := by rw [← hw2]; exact (Below.refl _ w1).alloc (Nat.le_refl _) _
    have HO2 : Hid (w2.ownsRow w0.heap.size 69 3 v cl (cellsO cols)) := own_below HO.out (Nat.le_refl _) HBa.out
    have HZ : Hid (w0.heap.size ≤ w2.heap.size) := Nat.le_trans HBs.out HBa.out.size
    clear hA
    go_wp2_with (at_builtin; refine wpList_appS rfl _ _ 41 rfl w0.heap.size 69 i0 (.agg #[.string ⟨#[]⟩, .int .u8 0, .bool false]) 3 24 Try.underlying41 hi hz0 rfl hz1 (by omega) hz2 (by omega) v cl (cellsO cols) w2 HO2.out rfl (w1.heap.size + 1) (some ⟨w1.heap.size, 0, none⟩) 2 2 (cellsO sysC) HA.out rfl (one_O _) rfl (by omega) HZ.out ?_; intro v3 w3 hown3 hc3 hb3; have HO3 := Lib.hid hown3; have HB3 := Lib.hid hb3; clear hown3 hc3 hb3)
    go_ret
    refine ⟨_, rfl, ?_, HB.out.trans ((HBa.out.mono (by have := HB0.out.size; have := HBs.out; omega)).trans (HB3.out.mono (by exact HB0.out.size)))⟩
    have h3 := HO3.out
    rw [HV.out, cellsO_app, List.length_append, ← HCL.out]
    exact ⟨h3.1, h3.2.imp id fun ⟨g, c, cur, r1, r2, r3⟩ => ⟨g, c, cur, r1, Nat.le_trans HB0.out.size r2, r3⟩⟩
end Go.Proofs.Ytmfdnphjhbbkiaa

/- 'append(s, x, y)': several values that have just been laid together. -/
set_option linter.unusedSimpArgs false
set_option linter.unusedVariables false
set_option maxRecDepth 100000
namespace Go.Proofs.Ytmfdnphjhbbkiaa
open Go.RowKit

/-- 'append(s, x..)', m values just laid in a block of their own: one operation. -/
theorem wp_appM {P : Program} {o : Oper} {a : Act} {K : Act → World → Prop} {Q : Exit → Act → World → Prop} (s x : Operand) (t : TypeId)
    (ho : o.op = .call { callee := .builtin .append, args := #[s, x], argTypes := #[t, t] })
    (base : Nat) (e : TypeId) (i : TypeInfo) (zr : Value) (z bytes m : Nat) (ht : P.underlying t = some (.slice e)) (hi : P.info? e = some i) (hz : i.zero = some zr) (hzs : zr.cells.size = z)
    (hsize : i.size = z) (hz0 : 0 < z) (hby : i.bytes = bytes) (hb100 : bytes ≤ 100)
    (v : Value) (n : Nat) (l news : List Value) (w : World) (hown : w.ownsRow base e z v n l) (hs : a.eval s = v) (cs : Array Value) (hcs : cs = news.toArray) (hl : news.length = m * z) (h1 : ∀ u ∈ news, u.oneCell' = true)
    (hx : a.eval x = .slice (some ⟨w.heap.size, 0, none⟩) m m) (hlen : n + m < 1000000000000) (hbase : base ≤ w.heap.size)
    (h : ∀ v' w', w'.ownsRow base e z v' (n + m) (l ++ news) → Chg v.ownBlock.toList (w.alloc (.cells cs e)) w' → w.heap.size < w'.heap.size → K (a.put o.dst v') w') :
    o.wp P a (w.alloc (.cells cs e)) K Q := by
  subst hcs
  refine wp_append_own (w.alloc (.cells news.toArray e)) s x t ho base e i zr z bytes ht hi hz hsize hby hzs hz0 v n _ hs (World.ownsRow.alloc hown _) ⟨w.heap.size, 0, none⟩ m m news hx (by rw [hl]) ?_ h1 ?_ ?_ ?_ ?_
  · intro j u hj
    have e0 : (⟨w.heap.size, 0, none⟩ : Addr).add j = ⟨w.heap.size, j, none⟩ := by
      unfold Addr.add; split <;> simp_all
    rw [e0, World.cell?_alloc_at _ _ _ _ rfl]
    simpa using hj
  · unfold maxLen; omega
  · have : (n + m) * bytes ≤ 1000000000000 * 100 := Nat.mul_le_mul (by omega) hb100
    omega
  · simp; omega
  · intro v' w' hown' hgrow _
    have hsz := hgrow.size
    refine h v' w' hown' ⟨hgrow.os, hgrow.tape, hgrow.output, hsz, fun k hk hn => ?_⟩ (by simp at hsz; omega)
    exact hgrow.block k hk (by intro he; apply hn; rw [Option.mem_toList]; exact he.symm)
theorem wpList_appM {P : Program} {ops : Array Oper} {rest : List Oper} {o : Oper} {a : Act} {Q : Exit → Act → World → Prop} (hgd : o.guard = none) (s x : Operand) (t : TypeId)
    (ho : o.op = .call { callee := .builtin .append, args := #[s, x], argTypes := #[t, t] })
    (base : Nat) (e : TypeId) (i : TypeInfo) (zr : Value) (z bytes m : Nat) (ht : P.underlying t = some (.slice e)) (hi : P.info? e = some i) (hz : i.zero = some zr) (hzs : zr.cells.size = z)
    (hsize : i.size = z) (hz0 : 0 < z) (hby : i.bytes = bytes) (hb100 : bytes ≤ 100)
    (v : Value) (n : Nat) (l news : List Value) (w : World) (hown : w.ownsRow base e z v n l) (hs : a.eval s = v) (cs : Array Value) (hcs : cs = news.toArray) (hl : news.length = m * z) (h1 : ∀ u ∈ news, u.oneCell' = true)
    (hx : a.eval x = .slice (some ⟨w.heap.size, 0, none⟩) m m) (hlen : n + m < 1000000000000) (hbase : base ≤ w.heap.size)
    (h : ∀ v' w', w'.ownsRow base e z v' (n + m) (l ++ news) → Chg v.ownBlock.toList (w.alloc (.cells cs e)) w' → w.heap.size < w'.heap.size → wpList P ops Q rest (a.put o.dst v') w') :
    wpList P ops Q (o :: rest) a (w.alloc (.cells cs e)) :=
  wpList_plain hgd fun _ hK => wp_appM s x t ho base e i zr z bytes m ht hi hz hzs hsize hz0 hby hb100 v n l news w hown hs cs hcs hl h1 hx hlen hbase fun v' w' h2 h3 h4 => hK _ _ (h v' w' h2 h3 h4)
end Go.Proofs.Ytmfdnphjhbbkiaa

/- The walks of typing.all, Slots, Names and Kinds. Written by wip/gen/genty2.py. -/
set_option linter.unusedSimpArgs false
set_option linter.unusedVariables false
set_option maxRecDepth 100000
namespace Go.Proofs.Ytmfdnphjhbbkiaa
open Go.RowKit

theorem allOf_bound : ∀ (L : List Sx), (∀ x ∈ L, x.t.cols.length ≤ 1000000) → (allOf L).length ≤ L.length * 1000002
  | [], _ => by simp [allOf]
  | x :: r, h => by
    have ih := allOf_bound r fun y hy => h y (List.mem_cons_of_mem _ hy)
    have h1 := colsOf_len (h x List.mem_cons_self)
    have e : allOf (x :: r) = colsOf x.t ++ allOf r := by simp [allOf]
    rw [e, List.length_append, List.length_cons]; omega
theorem allOf_len {w : World} {a : Option Addr} {cap : Nat} {L : List Sx} (h : ScAt w a cap L) : (allOf L).length ≤ 100000000 := by
  have := allOf_bound L fun x hx => (h.tabs x hx).fair.cl
  have := h.small
  omega

set_option maxRecDepth 100000 in
set_option maxHeartbeats 4000000 in
theorem all_any (L : List Sx) (a : Option Addr) (cap : Nat) (w : World) (h : ScAt w a cap L) :
    Calls Try.prog 18 #[.slice a L.length cap] w (RetOwn w 69 3 (cellsO (allOf L)) (allOf L).length) := by
  obtain ⟨i0, hi, hz0, hz1, hz2⟩ := info_parts info_colT
  have HSc := Lib.hid h
  have hsm := h.small
  obtain ⟨n, hn⟩ : ∃ n, L.length = n := ⟨_, rfl⟩
  have HN := Lib.hid hn
  rw [hn] at hsm ⊢
  clear h hn
  go_enter Try.func18, Try.ntmps18
  go_wp2
  go_loopw [3, 8] (fun v i wr => ∃ (k m : Nat) (cv : Value), cv = v ∧ k ≤ n ∧ i = .int .i64 (k : Int) ∧ m ≤ k * 1000002 ∧ Hid (m = (allOf (L.take k)).length) ∧ Hid (wr.ownsRow w.heap.size 69 3 cv m (cellsO (allOf (L.take k)))) ∧ Hid (Below w.heap.size w wr)) (fun _ i _ => n - (intOf i).toNat)
  case atStart => exact ⟨0, 0, _, rfl, by omega, rfl, by omega, rfl, World.ownsRow_nil _ _ _ _, Below.refl _ _⟩
  case round =>
    obtain ⟨k, m, cv, rfl, hk, rfl, hm, HM, HO, HB⟩ := hrel
    by_cases hlt : k < n
    · have hkl : k < L.length := by rw [HN.out]; exact hlt
      have HTk : Hid (allOf (L.take (k + 1)) = allOf (L.take k) ++ colsOf L[k].t) := by
        show _ = _
        rw [List.take_succ_eq_append_getElem hkl, allOf_snoc]
      obtain ⟨b, o, hab, hbN, hS⟩ := sxAt (HSc.out.later HB.out).arr hkl
      have hT := HSc.out.tabs _ (List.getElem_mem hkl)
      generalize L[k] = x at *
      subst hab
      have q0 : decide ((k : Int) < (n : Int)) = true := by simp; omega
      obtain ⟨w2, hw2⟩ : ∃ w2, wr.alloc (.cells #[.string x.al, .string x.t.name, .slice x.m.ca x.m.cl x.m.cc, .slice x.m.ka x.m.kl x.m.kc, .string x.t.per, .int .i64 x.t.fr, .int .i64 x.t.tt, .bool x.t.apart, .bool x.t.vers] 46) = w2 := ⟨_, rfl⟩
      have hb2 : Below wr.heap.size wr w2 := by rw [← hw2]; exact (Below.refl _ wr).alloc (Nat.le_refl _) _
      have hZ : Slot9 w2 wr.heap.size 0 x := by have := Slot9.new wr 46 x; rw [hw2] at this; exact this
      have HO2 : Hid (w2.ownsRow w.heap.size 69 3 cv m (cellsO (allOf (L.take k)))) := own_below HO.out (Nat.le_refl _) hb2
      have HB2 : Hid (Below w.heap.size w w2) := HB.out.trans (hb2.mono HB.out.size)
      have hcb := colsOf_len hT.fair.cl
      have HCo := Lib.hid (columns_any x w2 (hT.later HB2.out))
      generalize colsOf x.t = cs at *
      obtain ⟨c0, c1, c2, c3, c4, c5, c6, c7, c8⟩ := hS
      obtain ⟨z0, z1, z2, z3, z4, z5, z6, z7, z8⟩ := hZ
      simp only [Nat.zero_add] at z0 z1 z2 z3 z4 z5 z6 z7 z8
      obtain ⟨p, hp⟩ : ∃ p, cs.length = p := ⟨_, rfl⟩
      have HP := Lib.hid hp
      rw [hp] at HCo hcb
      clear hb2 hkl hbN hT hp
      go_wp2_with fail
      refine HCo.out.mono ?_
      rintro e w3 ⟨v3, rfl, ho3, hb3⟩
      obtain ⟨a3, c3', rfl, hcc3, hcm3, hA3⟩ := own_slice ho3
      have HA3 := Lib.hid hA3
      have HO3 : Hid (w3.ownsRow w.heap.size 69 3 cv m (cellsO (allOf (L.take k)))) := own_below HO2.out (Nat.le_refl _) hb3
      have HB3 : Hid (Below w.heap.size w w3) := HB2.out.trans (hb3.mono HB2.out.size)
      have HS3 : Hid (w.heap.size ≤ w3.heap.size) := HB3.out.size
      have HLn : Hid ((cellsO cs).length = p * 3) := by show _ = _; rw [cellsO_len, HP.out]
      clear ho3 hA3 hb3 c0 c1 c2 c3 c4 c5 c6 c7 c8 z0 z1 z2 z3 z4 z5 z6 z7 z8
      go_wp2_with (at_builtin; refine wpList_appS rfl _ _ 41 rfl w.heap.size 69 i0 (.agg #[.string ⟨#[]⟩, .int .u8 0, .bool false]) 3 24 Try.underlying41 hi hz0 rfl hz1 (by omega) hz2 (by omega) cv m (cellsO (allOf (L.take k))) w3 HO3.out rfl w3.heap.size a3 p c3' (cellsO cs) HA3.out HLn.out (one_O _) rfl (by omega) HS3.out ?_; intro v6 w6 hown6 hc6 hb6; have HO6 := Lib.hid hown6; have HB6 := Lib.hid (HB3.out.trans hb6); clear hown6 hc6 hb6)
      have HO7 : Hid (w6.ownsRow w.heap.size 69 3 v6 (m + p) (cellsO (allOf (L.take (k + 1))))) := by show World.ownsRow _ _ _ _ _ _ _; rw [HTk.out, cellsO_app]; exact HO6.out
      have HM7 : Hid (m + p = (allOf (L.take (k + 1))).length) := by show _ = _; rw [HTk.out, List.length_append, HP.out, ← HM.out]
      go_roundw
      case rel => exact ⟨k + 1, m + p, v6, rfl, by omega, by go_num, by omega, HM7, HO7.out, HB6.out⟩
      case measure => (simp [intOf] <;> try omega)
    · have q0 : decide ((k : Int) < (n : Int)) = false := by simp; omega
      have hke : k = n := by omega
      have hO := HO.out
      have hM := HM.out
      rw [hke, List.take_of_length_le (by rw [HN.out]; omega)] at hO hM
      have HO2 := Lib.hid hO
      have HM2 := Lib.hid hM
      clear hO hM HO HM hke
      go_wp2
      go_ret
      exact ⟨_, rfl, by rw [← HM2.out]; exact HO2.out, HB.out⟩

set_option maxHeartbeats 1000000 in
theorem slots_any (L : List Sx) (a : Option Addr) (cap : Nat) (w : World) (h : ScAt w a cap L) :
    Calls Try.prog 13 #[.slice a L.length cap] w fun e w' => e = .returned (.int .i64 ((allOf L).length : Int)) ∧ Below w.heap.size w w' := by
  have HAll := Lib.hid (all_any L a cap w h)
  have hal := allOf_len h
  generalize (cellsO (allOf L)) = xs at *
  generalize (allOf L).length = n at *
  clear h
  go_enter Try.func13, Try.ntmps13
  go_wp2_with fail
  refine HAll.out.mono ?_
  rintro e w1 ⟨v1, rfl, ho1, hb1⟩
  obtain ⟨a1, c1, rfl, hcc1, hcm1, -⟩ := own_slice ho1
  have HB1 := Lib.hid hb1
  clear ho1 hb1
  go_wp2
  go_ret
  exact ⟨rfl, HB1.out⟩

theorem info_strT : (Try.prog.info? 9).map (fun i => (i.zero, i.size, i.bytes)) = some (some (.string ⟨#[]⟩), 1, 16) := by kernel_rfl
theorem info_u8T : (Try.prog.info? 5).map (fun i => (i.zero, i.size, i.bytes)) = some (some (.int .u8 0), 1, 1) := by kernel_rfl
abbrev nmCell (c : Col) : List Value := [.string c.nm]
abbrev kdCell (c : Col) : List Value := [.int .u8 (c.kd : Int)]

set_option maxRecDepth 100000 in
set_option maxHeartbeats 4000000 in
theorem names_any22 (L : List Sx) (a : Option Addr) (cap : Nat) (w : World) (h : ScAt w a cap L) :
    Calls Try.prog 10 #[.slice a L.length cap] w (RetOwn w 9 1 (cellsOf nmCell (allOf L)) (allOf L).length) := by
  obtain ⟨i0, hi, hz0, hz1, hz2⟩ := info_parts info_strT
  have hal := allOf_len h
  have HAll := Lib.hid (all_any L a cap w h)
  generalize allOf L = cs at *
  clear h
  obtain ⟨n, hn⟩ : ∃ n, cs.length = n := ⟨_, rfl⟩
  have HN := Lib.hid hn
  rw [hn] at HAll hal ⊢
  clear hn
  go_enter Try.func10, Try.ntmps10
  go_wp2_with fail
  refine HAll.out.mono ?_
  rintro e w1 ⟨v1, rfl, ho1, hb1⟩
  obtain ⟨a1, c1, rfl, hcc1, hcm1, hA1⟩ := own_slice ho1
  have HA1 := Lib.hid hA1
  have HB1 := Lib.hid hb1
  clear ho1 hA1 hb1
  go_wp2
  go_loopw [3, 9] (fun v i wr => ∃ (k : Nat) (cv : Value), cv = v ∧ k ≤ n ∧ i = .int .i64 (k : Int) ∧ Hid (wr.ownsRow w1.heap.size 9 1 cv k (cellsOf nmCell (cs.take k))) ∧ Hid (Below w1.heap.size w1 wr)) (fun _ i _ => n - (intOf i).toNat)
  case atStart => exact ⟨0, _, rfl, by omega, rfl, World.ownsRow_nil _ _ _ _, Below.refl _ _⟩
  case round =>
    obtain ⟨k, cv, rfl, hk, rfl, HO, HB⟩ := hrel
    by_cases hlt : k < n
    · have hkl : k < cs.length := by rw [HN.out]; exact hlt
      have HTk : Hid (cellsOf nmCell (cs.take (k + 1)) = cellsOf nmCell (cs.take k) ++ [.string cs[k].nm]) := by
        show _ = _
        rw [List.take_succ_eq_append_getElem hkl, cellsOf_snoc]
      obtain ⟨b, o, hab, hbN, t0, t1, t2⟩ := colAt ((HA1.out.below HB.out).mono HB.out.size) hkl
      generalize cs[k] = x at *
      subst hab
      have q0 : decide ((k : Int) < (n : Int)) = true := by simp; omega
      obtain ⟨w2, hw2⟩ : ∃ w2, wr.alloc (.cells #[.string x.nm, .int .u8 (x.kd : Int), .bool x.nn] 69) = w2 := ⟨_, rfl⟩
      have hb2 : Below wr.heap.size wr w2 := by rw [← hw2]; exact (Below.refl _ wr).alloc (Nat.le_refl _) _
      have z0 : w2.cell? ⟨wr.heap.size, 0, none⟩ = some (.string x.nm) := by rw [← hw2]; simp
      have z1 : w2.cell? ⟨wr.heap.size, 1, none⟩ = some (.int .u8 (x.kd : Int)) := by rw [← hw2]; simp
      have HO2 : Hid (w2.ownsRow w1.heap.size 9 1 cv k (cellsOf nmCell (cs.take k))) := own_below HO.out (Nat.le_refl _) hb2
      have HB2 : Hid (Below w1.heap.size w1 w2) := HB.out.trans (hb2.mono HB.out.size)
      have HS2 : Hid (w1.heap.size ≤ w2.heap.size) := HB2.out.size
      clear hb2 hkl hbN
      go_wp2_with (at_builtin; refine wpList_appM rfl _ _ 31 rfl w1.heap.size 9 i0 (.string ⟨#[]⟩) 1 16 1 Try.underlying31 hi hz0 rfl hz1 (by omega) hz2 (by omega) cv k (cellsOf nmCell (cs.take k)) [.string x.nm] w2 HO2.out rfl _ rfl rfl (by intro u hu; simp at hu; subst hu; rfl) rfl (by omega) HS2.out ?_; intro v6 w6 hown6 hc6 hsz6; have HO6 := Lib.hid hown6; have HC6 := Lib.hid hc6; clear hown6 hc6 hsz6)
      have HB6 : Hid (Below w1.heap.size w1 w6) := HB2.out.trans (((Below.refl w1.heap.size w2).alloc HS2.out _).trans (HC6.out.below (by have := HS2.out; simp; omega) (fun g hg => (HO2.out.lt g (by simpa using hg)).1)))
      have HO7 : Hid (w6.ownsRow w1.heap.size 9 1 v6 (k + 1) (cellsOf nmCell (cs.take (k + 1)))) := by show World.ownsRow _ _ _ _ _ _ _; rw [HTk.out]; exact HO6.out
      go_roundw
      case rel => exact ⟨k + 1, v6, rfl, by omega, by go_num, HO7.out, HB6.out⟩
      case measure => (simp [intOf] <;> try omega)
    · have q0 : decide ((k : Int) < (n : Int)) = false := by simp; omega
      have hke : k = n := by omega
      have hO := HO.out
      rw [hke, List.take_of_length_le (by rw [HN.out]; omega)] at hO
      have HO2 := Lib.hid hO
      have HBw := Lib.hid (HB1.out.trans (HB.out.mono HB1.out.size))
      clear hO HO hke
      go_wp2
      go_ret
      refine ⟨_, rfl, ?_, HBw.out⟩
      have h2 := HO2.out
      exact ⟨h2.1, h2.2.imp id fun ⟨g, c, cur, r1, r2, r3⟩ => ⟨g, c, cur, r1, Nat.le_trans HB1.out.size r2, r3⟩⟩

set_option maxRecDepth 100000 in
set_option maxHeartbeats 4000000 in
theorem kinds_any22 (L : List Sx) (a : Option Addr) (cap : Nat) (w : World) (h : ScAt w a cap L) :
    Calls Try.prog 9 #[.slice a L.length cap] w (RetOwn w 5 1 (cellsOf kdCell (allOf L)) (allOf L).length) := by
  obtain ⟨i0, hi, hz0, hz1, hz2⟩ := info_parts info_u8T
  have hal := allOf_len h
  have HAll := Lib.hid (all_any L a cap w h)
  generalize allOf L = cs at *
  clear h
  obtain ⟨n, hn⟩ : ∃ n, cs.length = n := ⟨_, rfl⟩
  have HN := Lib.hid hn
  rw [hn] at HAll hal ⊢
  clear hn
  go_enter Try.func9, Try.ntmps9
  go_wp2_with fail
  refine HAll.out.mono ?_
  rintro e w1 ⟨v1, rfl, ho1, hb1⟩
  obtain ⟨a1, c1, rfl, hcc1, hcm1, hA1⟩ := own_slice ho1
  have HA1 := Lib.hid hA1
  have HB1 := Lib.hid hb1
  clear ho1 hA1 hb1
  go_wp2
  go_loopw [3, 9] (fun v i wr => ∃ (k : Nat) (cv : Value), cv = v ∧ k ≤ n ∧ i = .int .i64 (k : Int) ∧ Hid (wr.ownsRow w1.heap.size 5 1 cv k (cellsOf kdCell (cs.take k))) ∧ Hid (Below w1.heap.size w1 wr)) (fun _ i _ => n - (intOf i).toNat)
  case atStart => exact ⟨0, _, rfl, by omega, rfl, World.ownsRow_nil _ _ _ _, Below.refl _ _⟩
  case round =>
    obtain ⟨k, cv, rfl, hk, rfl, HO, HB⟩ := hrel
    by_cases hlt : k < n
    · have hkl : k < cs.length := by rw [HN.out]; exact hlt
      have HTk : Hid (cellsOf kdCell (cs.take (k + 1)) = cellsOf kdCell (cs.take k) ++ [.int .u8 (cs[k].kd : Int)]) := by
        show _ = _
        rw [List.take_succ_eq_append_getElem hkl, cellsOf_snoc]
      obtain ⟨b, o, hab, hbN, t0, t1, t2⟩ := colAt ((HA1.out.below HB.out).mono HB.out.size) hkl
      generalize cs[k] = x at *
      subst hab
      have q0 : decide ((k : Int) < (n : Int)) = true := by simp; omega
      obtain ⟨w2, hw2⟩ : ∃ w2, wr.alloc (.cells #[.string x.nm, .int .u8 (x.kd : Int), .bool x.nn] 69) = w2 := ⟨_, rfl⟩
      have hb2 : Below wr.heap.size wr w2 := by rw [← hw2]; exact (Below.refl _ wr).alloc (Nat.le_refl _) _
      have z0 : w2.cell? ⟨wr.heap.size, 0, none⟩ = some (.string x.nm) := by rw [← hw2]; simp
      have z1 : w2.cell? ⟨wr.heap.size, 1, none⟩ = some (.int .u8 (x.kd : Int)) := by rw [← hw2]; simp
      have HO2 : Hid (w2.ownsRow w1.heap.size 5 1 cv k (cellsOf kdCell (cs.take k))) := own_below HO.out (Nat.le_refl _) hb2
      have HB2 : Hid (Below w1.heap.size w1 w2) := HB.out.trans (hb2.mono HB.out.size)
      have HS2 : Hid (w1.heap.size ≤ w2.heap.size) := HB2.out.size
      clear hb2 hkl hbN
      go_wp2_with (at_builtin; refine wpList_appM rfl _ _ 29 rfl w1.heap.size 5 i0 (.int .u8 0) 1 1 1 Try.underlying29 hi hz0 rfl hz1 (by omega) hz2 (by omega) cv k (cellsOf kdCell (cs.take k)) [.int .u8 (x.kd : Int)] w2 HO2.out rfl _ rfl rfl (by intro u hu; simp at hu; subst hu; rfl) rfl (by omega) HS2.out ?_; intro v6 w6 hown6 hc6 hsz6; have HO6 := Lib.hid hown6; have HC6 := Lib.hid hc6; clear hown6 hc6 hsz6)
      have HB6 : Hid (Below w1.heap.size w1 w6) := HB2.out.trans (((Below.refl w1.heap.size w2).alloc HS2.out _).trans (HC6.out.below (by have := HS2.out; simp; omega) (fun g hg => (HO2.out.lt g (by simpa using hg)).1)))
      have HO7 : Hid (w6.ownsRow w1.heap.size 5 1 v6 (k + 1) (cellsOf kdCell (cs.take (k + 1)))) := by show World.ownsRow _ _ _ _ _ _ _; rw [HTk.out]; exact HO6.out
      go_roundw
      case rel => exact ⟨k + 1, v6, rfl, by omega, by go_num, HO7.out, HB6.out⟩
      case measure => (simp [intOf] <;> try omega)
    · have q0 : decide ((k : Int) < (n : Int)) = false := by simp; omega
      have hke : k = n := by omega
      have hO := HO.out
      rw [hke, List.take_of_length_le (by rw [HN.out]; omega)] at hO
      have HO2 := Lib.hid hO
      have HBw := Lib.hid (HB1.out.trans (HB.out.mono HB1.out.size))
      clear hO HO hke
      go_wp2
      go_ret
      refine ⟨_, rfl, ?_, HBw.out⟩
      have h2 := HO2.out
      exact ⟨h2.1, h2.2.imp id fun ⟨g, c, cur, r1, r2, r3⟩ => ⟨g, c, cur, r1, Nat.le_trans HB1.out.size r2, r3⟩⟩
end Go.Proofs.Ytmfdnphjhbbkiaa

/- The walk of typing.Slot. -/
set_option linter.unusedSimpArgs false
set_option linter.unusedVariables false
set_option maxRecDepth 100000
namespace Go.Proofs.Ytmfdnphjhbbkiaa
open Go.RowKit

/-- The place of the last one that is meant; 0: none is. -/
def lastI {α : Type} (p : α → Bool) (l : List α) : Nat := (l.foldl (fun (s : Nat × Nat) x => (s.1 + 1, if p x then s.1 else s.2)) (0, 0)).2
theorem lastI_cnt {α : Type} (p : α → Bool) (l : List α) : (l.foldl (fun (s : Nat × Nat) x => (s.1 + 1, if p x then s.1 else s.2)) (0, 0)).1 = l.length := by
  have h : ∀ (l : List α) (a b : Nat), (l.foldl (fun (s : Nat × Nat) x => (s.1 + 1, if p x then s.1 else s.2)) (a, b)).1 = a + l.length := by
    intro l
    induction l with
    | nil => intro a b; rfl
    | cons x r ih => intro a b; rw [List.foldl_cons, ih, List.length_cons]; omega
  rw [h, Nat.zero_add]
theorem lastI_snoc {α : Type} (p : α → Bool) (l : List α) (x : α) : lastI p (l ++ [x]) = if p x then l.length else lastI p l := by
  unfold lastI
  rw [List.foldl_append, List.foldl_cons, List.foldl_nil, lastI_cnt]
/-- The slot, and an error. -/
def slotV {α : Type} (p : α → Bool) (l : List α) : Int × Int := if l.countP p = 1 then ((lastI p l : Int), 0) else (0, 31)

/-- The places of a scope: the source's name, and the column. -/
def plOf (L : List Sx) : List (ByteArray × Col) := L.flatMap fun x => (colsOf x.t).map fun c => (x.al, c)
theorem plOf_snoc (L : List Sx) (x : Sx) : plOf (L ++ [x]) = plOf L ++ (colsOf x.t).map fun c => (x.al, c) := by simp [plOf]
theorem plOf_all (L : List Sx) : (plOf L).map (·.2) = allOf L := by
  unfold plOf allOf
  induction L with
  | nil => rfl
  | cons x r ih => rw [List.flatMap_cons, List.flatMap_cons, List.map_append, ih, List.map_map, show ((fun p : ByteArray × Col => p.2) ∘ fun c => (x.al, c)) = id from rfl, List.map_id]
theorem plOf_len (L : List Sx) : (plOf L).length = (allOf L).length := by rw [← plOf_all, List.length_map]
def hitP (table name : ByteArray) (p : ByteArray × Col) : Bool := decide (p.2.nm = name) && (decide (table = ⟨#[]⟩) || decide (p.1 = table))
theorem toL_eq (a b : ByteArray) : (a.toList == b.toList) = decide (a = b) := by
  rw [Bool.eq_iff_iff, beq_iff_eq, decide_eq_true_eq]
  exact ⟨toList_inj, fun h => by rw [h]⟩

/-- What is known behind some places. -/
structure SlI (p : (ByteArray × Col) → Bool) (l : List (ByteArray × Col)) (nx fd sl : Nat) : Prop where
  n : nx = l.length
  f : fd = l.countP p
  s : sl = lastI p l
theorem SlI.nil (p : (ByteArray × Col) → Bool) : SlI p [] 0 0 0 := ⟨rfl, rfl, rfl⟩
theorem SlI.yes {p : (ByteArray × Col) → Bool} {l : List (ByteArray × Col)} {nx fd sl : Nat} {x : ByteArray × Col} (h : SlI p l nx fd sl) (hx : p x = true) : SlI p (l ++ [x]) (nx + 1) (fd + 1) nx :=
  ⟨by rw [h.n]; simp, by rw [h.f, List.countP_append, List.countP_cons, hx]; simp, by rw [lastI_snoc, hx, h.n]; rfl⟩
theorem SlI.no {p : (ByteArray × Col) → Bool} {l : List (ByteArray × Col)} {nx fd sl : Nat} {x : ByteArray × Col} (h : SlI p l nx fd sl) (hx : p x = false) : SlI p (l ++ [x]) (nx + 1) fd sl :=
  ⟨by rw [h.n]; simp, by rw [h.f, List.countP_append, List.countP_cons, hx]; simp, by rw [lastI_snoc, hx, h.s]; rfl⟩

set_option maxRecDepth 100000 in
set_option maxHeartbeats 8000000 in
theorem slot_any22 (L : List Sx) (a : Option Addr) (cap : Nat) (table name : ByteArray) (w : World) (h : ScAt w a cap L) :
    Calls Try.prog 11 #[.slice a L.length cap, .string table, .string name] w fun e w' => e = .returned (.tuple #[.int .i64 (slotV (hitP table name) (plOf L)).1, .int .i64 (slotV (hitP table name) (plOf L)).2]) ∧ Below w.heap.size w w' := by
  have HSc := Lib.hid h
  have hsm := h.small
  have hal := allOf_len h
  rw [← plOf_len] at hal
  obtain ⟨pf, hpf⟩ : ∃ pf, hitP table name = pf := ⟨_, rfl⟩
  have HPf : Hid (∀ x : ByteArray × Col, pf x = ((x.2.nm.toList == name.toList) && ((table.toList == []) || (x.1.toList == table.toList)))) := fun x => by
    rw [← hpf, toL_eq, toL_eq]
    unfold hitP
    have : (table.toList == []) = decide (table = ⟨#[]⟩) := by
      have h1 := toL_eq table ⟨#[]⟩
      rw [show (⟨#[]⟩ : ByteArray).toList = [] from by rw [ByteArray.toList_eq]] at h1
      exact h1
    rw [this]
  rw [hpf]
  have HV : Hid (∀ V, slotV pf (plOf L) = V → slotV pf (plOf L) = if (plOf L).countP pf = 1 then ((lastI pf (plOf L) : Int), 0) else (0, 31)) := fun _ _ => rfl
  obtain ⟨V, hV⟩ : ∃ V, slotV pf (plOf L) = V := ⟨_, rfl⟩
  have HV2 : Hid (V = if (plOf L).countP pf = 1 then ((lastI pf (plOf L) : Int), 0) else (0, 31)) := by rw [← hV]; rfl
  rw [hV]
  obtain ⟨n, hn⟩ : ∃ n, L.length = n := ⟨_, rfl⟩
  have HN := Lib.hid hn
  have HLen : Hid (∀ k, (plOf (L.take k)).length ≤ (plOf L).length) := fun k => by
    have e : plOf L = plOf (L.take k) ++ plOf (L.drop k) := by
      unfold plOf
      rw [← List.flatMap_append, List.take_append_drop]
    rw [e, List.length_append]; omega
  have HCnt : Hid (∀ k, (plOf (L.take k)).countP pf ≤ (plOf L).countP pf) := fun k => by
    have e : plOf L = plOf (L.take k) ++ plOf (L.drop k) := by
      unfold plOf
      rw [← List.flatMap_append, List.take_append_drop]
    rw [e, List.countP_append]; omega
  have HAl := Lib.hid hal
  rw [hn] at hsm ⊢
  clear h hn hV HV hpf hal
  go_enter Try.func11, Try.ntmps11
  go_wp2
  go_step3
  go_wp2
  go_step3
  go_wp2
  go_loopw [8, 9, 10, 17] (fun nv fv sv i wr => ∃ (k nx fd sl : Nat), k ≤ n ∧ i = .int .i64 (k : Int) ∧ nv = .int .i64 (nx : Int) ∧ fv = .int .i64 (fd : Int) ∧ sv = .int .i64 (sl : Int) ∧ fd ≤ 1 ∧ nx ≤ 100000000 ∧ Hid (SlI pf (plOf (L.take k)) nx fd sl) ∧ Hid (Below w.heap.size w wr)) (fun _ _ _ i _ => n - (intOf i).toNat)
  case atStart => exact ⟨0, 0, 0, 0, by omega, rfl, rfl, rfl, rfl, by omega, by omega, SlI.nil pf, Below.refl _ _⟩
  case round =>
    obtain ⟨k, nx, fd, sl, hk, rfl, rfl, rfl, rfl, hfd, hnx, HI, HB⟩ := hrel
    obtain ⟨wo, rfl⟩ : ∃ wo, wo = wr := ⟨wr, rfl⟩
    by_cases hlt : k < n
    · have hkl : k < L.length := by rw [HN.out]; exact hlt
      have HTk : Hid (plOf (L.take (k + 1)) = plOf (L.take k) ++ (colsOf L[k].t).map fun c => (L[k].al, c)) := by
        show _ = _
        rw [List.take_succ_eq_append_getElem hkl, plOf_snoc]
      have HLk := Lib.hid (HLen.out (k + 1))
      have HCk := Lib.hid (HCnt.out (k + 1))
      obtain ⟨b, o, hab, hbN, hS⟩ := sxAt (HSc.out.later HB.out).arr hkl
      have hT := HSc.out.tabs _ (List.getElem_mem hkl)
      generalize L[k] = x at *
      subst hab
      have q0 : decide ((k : Int) < (n : Int)) = true := by simp; omega
      obtain ⟨w2, hw2⟩ : ∃ w2, wo.alloc (.cells #[.string x.al, .string x.t.name, .slice x.m.ca x.m.cl x.m.cc, .slice x.m.ka x.m.kl x.m.kc, .string x.t.per, .int .i64 x.t.fr, .int .i64 x.t.tt, .bool x.t.apart, .bool x.t.vers] 46) = w2 := ⟨_, rfl⟩
      have hb2 : Below wo.heap.size wo w2 := by rw [← hw2]; exact (Below.refl _ wo).alloc (Nat.le_refl _) _
      have hlt2 : wo.heap.size < w2.heap.size := by rw [← hw2]; simp
      have hZ : Slot9 w2 wo.heap.size 0 x := by have := Slot9.new wo 46 x; rw [hw2] at this; exact this
      have HB2 : Hid (Below w.heap.size w w2) := HB.out.trans (hb2.mono HB.out.size)
      have HCo := Lib.hid (columns_any x w2 (hT.later HB2.out))
      have hcb := colsOf_len hT.fair.cl
      have HZ := Lib.hid hZ
      have HL2 := Lib.hid hlt2
      generalize colsOf x.t = cs at *
      obtain ⟨c0, c1, c2, c3, c4, c5, c6, c7, c8⟩ := hS
      obtain ⟨z0, z1, z2, z3, z4, z5, z6, z7, z8⟩ := hZ
      simp only [Nat.zero_add] at z0 z1 z2 z3 z4 z5 z6 z7 z8
      obtain ⟨m, hm⟩ : ∃ m, cs.length = m := ⟨_, rfl⟩
      have HM := Lib.hid hm
      rw [hm] at HCo hcb
      clear hb2 hkl hbN hT hm hlt2
      go_wp2_with fail
      refine HCo.out.mono ?_
      rintro e w3 ⟨v3, rfl, ho3, hb3⟩
      obtain ⟨a3, c3', rfl, hcc3, hcm3, hA3⟩ := own_slice ho3
      have HA3 := Lib.hid hA3
      have HB3 : Hid (Below w.heap.size w w3) := HB2.out.trans (hb3.mono HB2.out.size)
      have HZ3 : Hid (Slot9 w3 wo.heap.size 0 x) := HZ.out.later HL2.out hb3
      have HL3 : Hid (wo.heap.size < w3.heap.size) := Nat.lt_of_lt_of_le HL2.out hb3.size
      clear ho3 hA3 hb3 c0 c1 c2 c3 c4 c5 c6 c7 c8 z0 z1 z2 z3 z4 z5 z6 z7 z8 hw2
      go_wp2
      go_loopw [8, 9, 10, 24] (fun nv fv sv i wr => ∃ (j nx2 fd2 sl2 : Nat), j ≤ m ∧ i = .int .i64 (j : Int) ∧ nv = .int .i64 (nx2 : Int) ∧ fv = .int .i64 (fd2 : Int) ∧ sv = .int .i64 (sl2 : Int) ∧ fd2 ≤ 1 ∧ nx2 ≤ 100000000 ∧ Hid (SlI pf (plOf (L.take k) ++ (cs.take j).map fun c => (x.al, c)) nx2 fd2 sl2) ∧ Hid (Below w3.heap.size w3 wr)) (fun _ _ _ i _ => m - (intOf i).toNat)
      case atStart => exact ⟨0, nx, fd, sl, by omega, rfl, rfl, rfl, rfl, hfd, hnx, by show SlI _ _ _ _ _; simpa using HI.out, Below.refl _ _⟩
      case round =>
        obtain ⟨j, nx2, fd2, sl2, hj, rfl, rfl, rfl, rfl, hfd2, hnx2, HI2, HBq⟩ := hrel
        have HBw := Lib.hid (HB3.out.trans (HBq.out.mono HB3.out.size))
        by_cases hjt : j < m
        · have hjl : j < cs.length := by rw [HM.out]; exact hjt
          have HTj : Hid ((cs.take (j + 1)).map (fun c => (x.al, c)) = (cs.take j).map (fun c => (x.al, c)) ++ [(x.al, cs[j])]) := by
            show _ = _
            rw [List.take_succ_eq_append_getElem hjl, List.map_append]; rfl
          have HLj : Hid ((plOf (L.take k)).length + (j + 1) ≤ (plOf L).length) := by
            have h1 := HLk.out
            rw [HTk.out, List.length_append, List.length_map] at h1
            show _ ≤ _
            omega
          have HCj : Hid ((plOf (L.take k) ++ (cs.take (j + 1)).map fun c => (x.al, c)).countP pf ≤ (plOf L).countP pf) := by
            have h1 := HCk.out
            have e : (cs.map fun c => (x.al, c)) = (cs.take (j + 1)).map (fun c => (x.al, c)) ++ (cs.drop (j + 1)).map (fun c => (x.al, c)) := by rw [← List.map_append, List.take_append_drop]
            rw [HTk.out, e, ← List.append_assoc, List.countP_append] at h1
            show _ ≤ _
            omega
          obtain ⟨b4, o4, hab4, hbN4, y0, y1, y2⟩ := colAt ((HA3.out.below HBq.out).mono HBq.out.size) hjl
          have hnl := HI2.out.n
          rw [List.length_append, List.length_map, List.length_take, Nat.min_eq_left (by omega)] at hnl
          have hnx3 : nx2 + 1 ≤ 100000000 := by have := HLj.out; have := HAl.out; omega
          have hy := HI2.out.yes (x := (x.al, cs[j]))
          have hno := HI2.out.no (x := (x.al, cs[j]))
          rw [List.append_assoc, ← HTj.out] at hy hno
          have HY := Lib.hid hy
          have HNo := Lib.hid hno
          have hpx := HPf.out (x.al, cs[j])
          dsimp only at hpx
          generalize cs[j] = c at *
          subst hab4
          have q1 : decide ((j : Int) < (m : Int)) = true := by simp; omega
          obtain ⟨w4, hw4⟩ : ∃ w4, wr.alloc (.cells #[.string c.nm, .int .u8 (c.kd : Int), .bool c.nn] 69) = w4 := ⟨_, rfl⟩
          have hb4 : Below wr.heap.size wr w4 := by rw [← hw4]; exact (Below.refl _ wr).alloc (Nat.le_refl _) _
          have e0 : w4.cell? ⟨wr.heap.size, 0, none⟩ = some (.string c.nm) := by rw [← hw4]; simp
          have hZ4 := (HZ3.out.later HL3.out HBq.out).later (N := wr.heap.size) (Nat.lt_of_lt_of_le HL3.out HBq.out.size) hb4
          have z0 := hZ4.c0
          have HB4 : Hid (Below w3.heap.size w3 w4) := HBq.out.trans (hb4.mono HBq.out.size)
          have HBw4 := Lib.hid (HB3.out.trans (HB4.out.mono HB3.out.size))
          clear hb4 hZ4 hjl hbN4 hnl hy hno
          obtain ⟨bn, hbn⟩ : ∃ b, (c.nm.toList == name.toList) = b := ⟨_, rfl⟩
          obtain ⟨bt, hbt⟩ : ∃ b, (table.toList == []) = b := ⟨_, rfl⟩
          obtain ⟨ba, hba⟩ : ∃ b, (x.al.toList == table.toList) = b := ⟨_, rfl⟩
          rw [hbn, hbt, hba] at hpx
          have hbt2 : table.toList.isEmpty = bt := by rw [← hbt]; cases table.toList <;> rfl
          cases bn with
          | false =>
            have HI3 : Hid (SlI pf (plOf (L.take k) ++ (cs.take (j + 1)).map fun c => (x.al, c)) (nx2 + 1) fd2 sl2) := HNo.out (by rw [hpx]; rfl)
            have qf : decide ((1 : Int) < (fd2 : Int)) = false := by simp; omega
            clear HY HNo hpx HCj HLj HTj
            go_wp2
            go_roundw
            case rel => exact ⟨j + 1, nx2 + 1, fd2, sl2, by omega, by go_num, by go_num, rfl, rfl, hfd2, hnx3, HI3, HB4.out⟩
            case measure => (simp [intOf] <;> try omega)
          | true =>
            cases bt with
            | true =>
              have HI3 : Hid (SlI pf (plOf (L.take k) ++ (cs.take (j + 1)).map fun c => (x.al, c)) (nx2 + 1) (fd2 + 1) nx2) := HY.out (by rw [hpx]; rfl)
              have hfc : fd2 = 0 ∨ fd2 = 1 := by omega
              clear HY HNo hpx HLj HTj
              rcases hfc with rfl | rfl
              · clear HCj
                go_wp2
                go_roundw
                case rel => exact ⟨j + 1, nx2 + 1, 1, nx2, by omega, by go_num, by go_num, rfl, rfl, by omega, hnx3, HI3, HB4.out⟩
                case measure => (simp [intOf] <;> try omega)
              · have HF : Hid (V = (0, 31)) := by
                  have h1 := HCj.out
                  rw [← HI3.out.f] at h1
                  show _ = _
                  rw [HV2.out, if_neg (by omega)]
                clear HI3 HCj HV2
                go_wp2
                try rw [Exit.noGoto_ret]
                go_ret2
                exact ⟨by rw [HF.out]; rfl, HBw4.out⟩
            | false =>
              cases ba with
              | true =>
                have HI3 : Hid (SlI pf (plOf (L.take k) ++ (cs.take (j + 1)).map fun c => (x.al, c)) (nx2 + 1) (fd2 + 1) nx2) := HY.out (by rw [hpx]; rfl)
                have hfc : fd2 = 0 ∨ fd2 = 1 := by omega
                clear HY HNo hpx HLj HTj
                rcases hfc with rfl | rfl
                · clear HCj
                  go_wp2
                  go_roundw
                  case rel => exact ⟨j + 1, nx2 + 1, 1, nx2, by omega, by go_num, by go_num, rfl, rfl, by omega, hnx3, HI3, HB4.out⟩
                  case measure => (simp [intOf] <;> try omega)
                · have HF : Hid (V = (0, 31)) := by
                    have h1 := HCj.out
                    rw [← HI3.out.f] at h1
                    show _ = _
                    rw [HV2.out, if_neg (by omega)]
                  clear HI3 HCj HV2
                  go_wp2
                  try rw [Exit.noGoto_ret]
                  go_ret2
                  exact ⟨by rw [HF.out]; rfl, HBw4.out⟩
              | false =>
                have HI3 : Hid (SlI pf (plOf (L.take k) ++ (cs.take (j + 1)).map fun c => (x.al, c)) (nx2 + 1) fd2 sl2) := HNo.out (by rw [hpx]; rfl)
                have qf : decide ((1 : Int) < (fd2 : Int)) = false := by simp; omega
                clear HY HNo hpx HCj HLj HTj
                go_wp2
                go_roundw
                case rel => exact ⟨j + 1, nx2 + 1, fd2, sl2, by omega, by go_num, by go_num, rfl, rfl, hfd2, hnx3, HI3, HB4.out⟩
                case measure => (simp [intOf] <;> try omega)
        · have q1 : decide ((j : Int) < (m : Int)) = false := by simp; omega
          have hje : j = m := by omega
          have hI := HI2.out
          rw [hje, List.take_of_length_le (l := cs) (by rw [HM.out]; omega), ← HTk.out] at hI
          have HI3 := Lib.hid hI
          clear hI HI2 hje HTk HLk HCk
          go_wp2
          go_roundw
          case rel => exact ⟨k + 1, nx2, fd2, sl2, by omega, by go_num, rfl, rfl, rfl, hfd2, hnx2, HI3, HBw.out⟩
          case measure => (simp [intOf] <;> try omega)
    · have q0 : decide ((k : Int) < (n : Int)) = false := by simp; omega
      have hke : k = n := by omega
      have hI := HI.out
      rw [hke, List.take_of_length_le (by rw [HN.out]; omega)] at hI
      have hcase : fd = 0 ∨ fd = 1 := by omega
      have hI1 := hI.f
      have hI2 := hI.s
      have HV3 : Hid (V = if fd = 1 then ((sl : Int), 0) else (0, 31)) := by
        show _ = _
        rw [HV2.out, ← hI1, ← hI2]
      clear hI hI1 hI2 HI HV2 hke
      rcases hcase with rfl | rfl
      · have HF : Hid (V = (0, 31)) := HV3.out
        clear HV3
        go_wp2
        try rw [Exit.noGoto_ret]
        go_ret2
        exact ⟨by rw [HF.out]; rfl, HB.out⟩
      · have HF : Hid (V = ((sl : Int), 0)) := HV3.out
        clear HV3
        go_wp2
        try rw [Exit.noGoto_ret]
        go_ret2
        exact ⟨by rw [HF.out]; rfl, HB.out⟩
end Go.Proofs.Ytmfdnphjhbbkiaa

/- Rows of values that came in, element by element. -/
set_option linter.unusedSimpArgs false
set_option linter.unusedVariables false
set_option maxRecDepth 100000
namespace Go.Proofs.Ytmfdnphjhbbkiaa
open Go.RowKit Go.ChangeShapes Go.WideShapes Go.Deep Go.Joins

theorem cellsOf_at {α : Type} (f : α → List Value) (z : Nat) (hz : 0 < z) (hf : ∀ x, (f x).length = z) : ∀ (l : List α) (i : Nat) (v : Value), (cellsOf f l)[i]? = some v → ∃ y, l[i / z]? = some y ∧ (f y)[i % z]? = some v
  | [], i, v, h => by simp [cellsOf] at h
  | x :: r, i, v, h => by
    have e : cellsOf f (x :: r) = f x ++ cellsOf f r := rfl
    rw [e] at h
    by_cases hi : i < z
    · rw [List.getElem?_append_left (by rw [hf]; exact hi)] at h
      exact ⟨x, by rw [Nat.div_eq_of_lt hi]; rfl, by rw [Nat.mod_eq_of_lt hi]; exact h⟩
    · rw [List.getElem?_append_right (by rw [hf]; omega), hf] at h
      obtain ⟨y, h1, h2⟩ := cellsOf_at f z hz hf r (i - z) v h
      have e1 : i = (i - z) + z := by omega
      refine ⟨y, ?_, ?_⟩
      · rw [e1, Nat.add_div_right _ hz]; exact h1
      · rw [e1, Nat.add_mod_right]; exact h2

/-- A row of values that came in, element by element. -/
theorem row_of {α : Type} (f : α → List Value) (z : Nat) (hz : 0 < z) (hf : ∀ x, (f x).length = z) (Q : α → Prop) (w : World) (x : Addr) (len : Nat)
    (hex : ∀ i : Fin len, ∃ y, Q y ∧ ∀ (j : Nat) (v : Value), (f y)[j]? = some v → w.cell? ((x.add (i.1 * z)).add j) = some v) :
    ∃ L : List α, L.length = len ∧ Arr w.heap.size w (some x) (cellsOf f L) ∧ ∀ y ∈ L, Q y := by
  obtain ⟨g, hg⟩ := Classical.axiomOfChoice hex
  refine ⟨List.ofFn g, by simp, ?_, ?_⟩
  · by_cases h0 : len = 0
    · left; subst h0; simp [cellsOf]
    · right
      obtain ⟨b, o, spot⟩ := x
      have hlen0 : 0 < (f (g ⟨0, by omega⟩)).length := by rw [hf]; exact hz
      have hc0 := (hg ⟨0, by omega⟩).2 0 _ (List.getElem?_eq_getElem hlen0)
      have hspot : spot = none := by
        have := World.cell?_spot hc0
        simpa [Addr.add] using this
      subst hspot
      have hblk := World.block_lt_of_cell? _ _ hc0
      refine ⟨b, o, rfl, by simpa [Addr.add] using hblk, fun i v hv => ?_⟩
      obtain ⟨y, h1, h2⟩ := cellsOf_at f z hz hf _ i v hv
      rw [List.getElem?_ofFn] at h1
      split at h1
      · rename_i hlt
        simp only [Option.some.injEq] at h1
        subst h1
        have hh := (hg ⟨i / z, hlt⟩).2 _ v h2
        have e1 : ((⟨b, o, none⟩ : Addr).add (i / z * z)).add (i % z) = ⟨b, o + i, none⟩ := by
          have : i / z * z + i % z = i := Nat.div_add_mod' i z
          simp only [Addr.add]
          split <;> split <;> simp_all <;> omega
        rw [e1] at hh
        exact hh
      · cases h1
  · intro y hy
    rw [List.mem_ofFn] at hy
    obtain ⟨i, rfl⟩ := hy
    exact (hg i).1

set_option maxRecDepth 100000 in
theorem trod_nums {H : Type} {enc : TypeId × Value → H} {w : World} {fuel : Nat} {cs : List Value} {x : DataW H × List MemPlace}
    (h : DataW.trod enc Try.prog w 0 (fun _ => true) true fuel 42 cs = some x) :
    ∃ (a : Option Addr) (len cap : Nat) (L : List Int), cs = [.slice a len cap] ∧ L.length = len ∧ len ≤ cap ∧ cap ≤ 9223372036854775807 ∧ Arr w.heap.size w a (cellsI L) ∧ ∀ p ∈ L, -9223372036854775808 ≤ p ∧ p ≤ 9223372036854775807 := by
  rcases open_slice Try.underlying42 h with ⟨hcs, _⟩ | ⟨x, l, c, m, n, D, Pl, hcs, _, hl, hm, hmm, _, hi⟩
  · exact ⟨none, 0, 0, [], hcs, rfl, by omega, by omega, .inl rfl, by simp⟩
  · have hmc : m = c := by simpa using hmm
    have hC : Try.prog.cellsOf 3 = 1 := by kernel_rfl
    unfold maxLen at hm
    obtain ⟨L, h1, h2, h3⟩ := row_of (fun n : Int => [Value.int .i64 n]) 1 (by omega) (fun _ => rfl) (fun p => -9223372036854775808 ≤ p ∧ p ≤ 9223372036854775807) w x l (fun i => by
      obtain ⟨cs', hc', ht'⟩ := hi i.1 (by have := i.2; omega)
      rw [hC] at hc'
      obtain ⟨_, hlen, hat⟩ := World.cells?_some hc'
      obtain ⟨s, e0, -, w0⟩ := DataW.trod_int Try.underlying3 ht'
      subst e0
      exact ⟨s, bd_i64 w0, fun j v hj => by rw [hat j (by have := (List.getElem?_eq_some_iff.1 hj).1; simpa using this)]; exact hj⟩)
    exact ⟨some x, l, c, L, hcs, h1, hl, by omega, h2, h3⟩
end Go.Proofs.Ytmfdnphjhbbkiaa

/- Rose trees as data and in memory: a label, and a slice of such trees. -/
set_option linter.unusedSimpArgs false
set_option linter.unusedVariables false
set_option maxRecDepth 100000
namespace Go.Proofs.Ytmfdnphjhbbkiaa
open Go.RowKit

/-- A tree. -/
inductive Rose (α : Type) where
  | mk (lab : α) (args : List (Rose α))

def Rose.lab {α : Type} : Rose α → α
  | .mk l _ => l
def Rose.args {α : Type} : Rose α → List (Rose α)
  | .mk _ r => r
theorem Rose.eta {α : Type} (e : Rose α) : Rose.mk e.lab e.args = e := by cases e; rfl
theorem Rose.size_arg {α : Type} [SizeOf α] {l : α} {r : List (Rose α)} {x : Rose α} (h : x ∈ r) : SizeOf.sizeOf x < SizeOf.sizeOf (Rose.mk l r) := by
  have h1 := List.sizeOf_lt_of_mem h
  simp only [Rose.mk.sizeOf_spec]
  omega

theorem Rose.ind {α : Type} {P : Rose α → Prop} (h : ∀ l args, (∀ x ∈ args, P x) → P (.mk l args)) : ∀ e, P e
  | .mk l args => h l args (fun x _ => Rose.ind h x)
termination_by e => SizeOf.sizeOf e
decreasing_by exact Rose.size_arg ‹_›

/-- A tree with the place of its arguments. -/
structure RM (α : Type) where
  t : Rose α
  a : Option Addr
  cap : Nat

def cellsR {α : Type} (c : α → List Value) (x : RM α) : List Value := c x.t.lab ++ [.slice x.a x.t.args.length x.cap]

/-- The tree lies in blocks below N, at most n levels deep, each label fair; a and cap: the place of its arguments. -/
def RoseAt {α : Type} (F : α → Prop) (c : α → List Value) (N : Nat) (w : World) : Nat → RM α → Prop
  | 0, _ => False
  | n + 1, x => F x.t.lab ∧ x.t.args.length ≤ x.cap ∧ x.cap ≤ 9223372036854775807 ∧
      ∃ L : List (RM α), L.map (·.t) = x.t.args ∧ Arr N w x.a (cellsOf (cellsR c) L) ∧ ∀ y ∈ L, RoseAt F c N w n y

theorem RoseAt.below {α : Type} {F : α → Prop} {c : α → List Value} {N : Nat} {w w' : World} (hb : Below N w w') : ∀ {n : Nat} {x : RM α}, RoseAt F c N w n x → RoseAt F c N w' n x
  | 0, _, h => h.elim
  | n + 1, _, ⟨h1, h2, h3, L, h4, h5, h6⟩ => ⟨h1, h2, h3, L, h4, h5.below hb, fun y hy => RoseAt.below hb (h6 y hy)⟩

theorem RoseAt.mono {α : Type} {F : α → Prop} {c : α → List Value} {N M : Nat} {w : World} (hM : N ≤ M) : ∀ {n : Nat} {x : RM α}, RoseAt F c N w n x → RoseAt F c M w n x
  | 0, _, h => h.elim
  | n + 1, _, ⟨h1, h2, h3, L, h4, h5, h6⟩ => ⟨h1, h2, h3, L, h4, h5.mono hM, fun y hy => RoseAt.mono hM (h6 y hy)⟩

theorem RoseAt.later {α : Type} {F : α → Prop} {c : α → List Value} {w w' : World} {n : Nat} {x : RM α} (h : RoseAt F c w.heap.size w n x) (hb : Below w.heap.size w w') : RoseAt F c w'.heap.size w' n x := (h.below hb).mono hb.size

theorem RoseAt.up {α : Type} {F : α → Prop} {c : α → List Value} {N : Nat} {w : World} : ∀ {n : Nat} {x : RM α}, RoseAt F c N w n x → RoseAt F c N w (n + 1) x
  | 0, _, h => h.elim
  | n + 1, _, ⟨h1, h2, h3, L, h4, h5, h6⟩ => ⟨h1, h2, h3, L, h4, h5, fun y hy => RoseAt.up (h6 y hy)⟩

theorem RoseAt.ups {α : Type} {F : α → Prop} {c : α → List Value} {N : Nat} {w : World} {n m : Nat} {x : RM α} (h : RoseAt F c N w n x) (hm : n ≤ m) : RoseAt F c N w m x := by
  induction hm with
  | refl => exact h
  | step _ ih => exact ih.up

theorem RoseAt.pos {α : Type} {F : α → Prop} {c : α → List Value} {N : Nat} {w : World} {n : Nat} {x : RM α} (h : RoseAt F c N w n x) : 0 < n := by
  cases n with
  | zero => exact h.elim
  | succ n => omega

theorem RoseAt.fair {α : Type} {F : α → Prop} {c : α → List Value} {N : Nat} {w : World} {n : Nat} {x : RM α} (h : RoseAt F c N w n x) : F x.t.lab ∧ x.t.args.length ≤ x.cap ∧ x.cap ≤ 9223372036854775807 := by
  cases n with
  | zero => exact h.elim
  | succ n => exact ⟨h.1, h.2.1, h.2.2.1⟩

/-- The k-th argument: its cells. -/
theorem RoseAt.kid {α : Type} {F : α → Prop} {c : α → List Value} {z : Nat} (hz : ∀ l, (c l).length = z) {N : Nat} {w : World} {n : Nat} {x : RM α} (h : RoseAt F c N w (n + 1) x) {k : Nat} (hk : k < x.t.args.length) :
    ∃ y : RM α, y.t = x.t.args[k] ∧ RoseAt F c N w n y ∧ ∃ b o, x.a = some ⟨b, o, none⟩ ∧ b < N ∧ ∀ (j : Nat) (v : Value), (cellsR c y)[j]? = some v → w.cell? ⟨b, o + k * (z + 1) + j, none⟩ = some v := by
  obtain ⟨_, _, _, L, hL, hA, hR⟩ := h
  have hlen : L.length = x.t.args.length := by rw [← hL]; simp
  have hlz : ∀ y : RM α, (cellsR c y).length = z + 1 := fun y => by simp [cellsR, hz]
  have hkL : k < L.length := by omega
  obtain ⟨b, o, ha, hb, hc⟩ := hA.at_ (by intro h0; have := cellsOf_len (cellsR c) (z + 1) hlz L; rw [h0] at this; have h2 := Nat.mul_pos (show 0 < L.length by omega) (show 0 < z + 1 by omega); rw [List.length_nil] at this; omega)
  refine ⟨L[k], ?_, hR _ (List.getElem_mem _), b, o, ha, hb, fun j v hv => ?_⟩
  · have : (L.map (·.t))[k]? = some (L[k].t) := by simp [List.getElem?_eq_getElem hkL]
    rw [hL, List.getElem?_eq_getElem hk] at this
    exact (Option.some.inj this).symm
  · have := hc _ _ (cellsOf_get (cellsR c) (z + 1) hlz L k j L[k] v (List.getElem?_eq_getElem hkL) hv)
    rw [Nat.add_assoc]; exact this

end Go.Proofs.Ytmfdnphjhbbkiaa

/- Expressions (layer 20) as data and in memory: what is known of one that comes in. -/
set_option linter.unusedSimpArgs false
set_option linter.unusedVariables false
set_option maxRecDepth 100000
namespace Go.Proofs.Ytmfdnphjhbbkiaa
open Go.RowKit Go.ChangeShapes Go.WideShapes Go.Deep Go.Joins

/-- All fields of an expression but its arguments. -/
structure Lb where
  kd : Int
  v : Vl
  tb : ByteArray
  nm : ByteArray
  op : ByteArray
  deriving DecidableEq

abbrev Ex := Rose Lb
abbrev XM := RM Lb

def Lb.cells (l : Lb) : List Value := [.int .i64 l.kd, .int .u8 l.v.k, .int .i64 l.v.n, .string l.v.s, .string l.tb, .string l.nm, .string l.op]
theorem Lb.cells_len (l : Lb) : l.cells.length = 7 := rfl

structure Lb.fair (l : Lb) : Prop where
  kd : -9223372036854775808 ≤ l.kd ∧ l.kd ≤ 9223372036854775807
  k : l.v.k < 256
  n : -9223372036854775808 ≤ l.v.n ∧ l.v.n ≤ 9223372036854775807
  s : l.v.s.size ≤ 140737488351232
  tb : l.tb.size ≤ 140737488351232
  nm : l.nm.size ≤ 140737488351232
  op : l.op.size ≤ 140737488351232

/-- The cells of an expression. -/
def cellsX (x : XM) : List Value := cellsR Lb.cells x
theorem cellsX_len (x : XM) : (cellsX x).length = 8 := rfl
/-- An expression by value. -/
def XM.v (x : XM) : Value := .agg (cellsX x).toArray

/-- The expression's arguments lie in blocks below N. -/
def XAt (N : Nat) (w : World) (n : Nat) (x : XM) : Prop := RoseAt Lb.fair Lb.cells N w n x

theorem XAt.below {N : Nat} {w w' : World} {n : Nat} {x : XM} (h : XAt N w n x) (hb : Below N w w') : XAt N w' n x := RoseAt.below hb h
theorem XAt.mono {N M : Nat} {w : World} {n : Nat} {x : XM} (h : XAt N w n x) (hM : N ≤ M) : XAt M w n x := RoseAt.mono hM h
theorem XAt.later {w w' : World} {n : Nat} {x : XM} (h : XAt w.heap.size w n x) (hb : Below w.heap.size w w') : XAt w'.heap.size w' n x := RoseAt.later h hb
theorem XAt.pos {N : Nat} {w : World} {n : Nat} {x : XM} (h : XAt N w n x) : 0 < n := RoseAt.pos h
theorem XAt.fair {N : Nat} {w : World} {n : Nat} {x : XM} (h : XAt N w n x) : x.t.lab.fair ∧ x.t.args.length ≤ x.cap ∧ x.cap ≤ 9223372036854775807 := RoseAt.fair h

/-- The k-th argument: its cells. -/
theorem XAt.kid {N : Nat} {w : World} {n : Nat} {x : XM} (h : XAt N w (n + 1) x) {k : Nat} (hk : k < x.t.args.length) :
    ∃ y : XM, y.t = x.t.args[k] ∧ XAt N w n y ∧ ∃ b o, x.a = some ⟨b, o, none⟩ ∧ b < N ∧ ∀ (j : Nat) (v : Value), (cellsX y)[j]? = some v → w.cell? ⟨b, o + k * 8 + j, none⟩ = some v :=
  RoseAt.kid Lb.cells_len h hk
end Go.Proofs.Ytmfdnphjhbbkiaa

/- The mathematics of expressions: how deep and how many, which may be. -/
set_option linter.unusedSimpArgs false
set_option linter.unusedVariables false
set_option maxRecDepth 100000
namespace Go.Proofs.Ytmfdnphjhbbkiaa
open Go.RowKit

/-- The greatest of some numbers. -/
def maxL : List Nat → Nat
  | [] => 0
  | x :: r => max x (maxL r)
theorem maxL_le {l : List Nat} {m : Nat} : maxL l ≤ m ↔ ∀ x ∈ l, x ≤ m := by
  induction l with
  | nil => simp [maxL]
  | cons x r ih => simp only [maxL, List.mem_cons, forall_eq_or_imp, ← ih]; omega
theorem maxL_snoc (l : List Nat) (x : Nat) : maxL (l ++ [x]) = max (maxL l) x := by
  induction l with
  | nil => simp [maxL]
  | cons y r ih => simp only [List.cons_append, maxL, ih]; omega
theorem maxL_mem {l : List Nat} {x : Nat} (h : x ∈ l) : x ≤ maxL l := maxL_le.1 (Nat.le_refl _) x h

section
variable {α : Type}
def Rose.depth : Rose α → Nat
  | .mk _ args => 1 + maxL (args.attach.map fun x => Rose.depth x.1)
termination_by e => SizeOf.sizeOf e
decreasing_by exact Rose.size_arg x.2
theorem Rose.depth_eq (e : Rose α) : e.depth = 1 + maxL (e.args.map Rose.depth) := by
  obtain ⟨l, args⟩ := e
  rw [Rose.depth, Rose.args]
  congr 2
  rw [List.attach_map_val (f := Rose.depth)]
theorem Rose.depth_pos (e : Rose α) : 1 ≤ e.depth := by rw [Rose.depth_eq]; omega
theorem Rose.depth_arg {e x : Rose α} (h : x ∈ e.args) : x.depth < e.depth := by
  rw [Rose.depth_eq e]
  have := maxL_mem (List.mem_map.2 ⟨x, h, rfl⟩ : x.depth ∈ e.args.map Rose.depth)
  omega
theorem Rose.depth_le {e : Rose α} {n : Nat} : e.depth ≤ n + 1 ↔ ∀ x ∈ e.args, x.depth ≤ n := by
  rw [Rose.depth_eq]
  have := @maxL_le (e.args.map Rose.depth) n
  simp only [List.mem_map, forall_exists_index, and_imp, forall_apply_eq_imp_iff₂] at this
  rw [← this]; omega

def Rose.count : Rose α → Nat
  | .mk _ args => 1 + (args.attach.map fun x => Rose.count x.1).sum
termination_by e => SizeOf.sizeOf e
decreasing_by exact Rose.size_arg x.2
theorem Rose.count_eq (e : Rose α) : e.count = 1 + (e.args.map Rose.count).sum := by
  obtain ⟨l, args⟩ := e
  rw [Rose.count, Rose.args]
  congr 2
  rw [List.attach_map_val (f := Rose.count)]
theorem Rose.count_pos (e : Rose α) : 1 ≤ e.count := by rw [Rose.count_eq]; omega

/-- Do all labels do, each with the number of its arguments? -/
def Rose.allB (p : α → Nat → Bool) : Rose α → Bool
  | .mk l args => p l args.length && args.attach.all fun x => Rose.allB p x.1
termination_by e => SizeOf.sizeOf e
decreasing_by exact Rose.size_arg x.2
theorem Rose.allB_eq (p : α → Nat → Bool) (e : Rose α) : e.allB p = (p e.lab e.args.length && e.args.all (Rose.allB p)) := by
  obtain ⟨l, args⟩ := e
  rw [Rose.allB, Rose.args, Rose.lab]
  congr 1
  rw [Bool.eq_iff_iff, List.all_eq_true, List.all_eq_true]
  simp

theorem sum_le_max {l : List Nat} : maxL l ≤ l.sum := by
  induction l with
  | nil => simp [maxL]
  | cons x r ih => simp only [maxL, List.sum_cons]; omega

theorem Rose.depth_le_count (e : Rose α) : e.depth ≤ e.count := by
  induction e using Rose.ind with
  | h l args ih =>
    rw [Rose.depth_eq, Rose.count_eq]
    have h1 : maxL ((Rose.mk l args).args.map Rose.depth) ≤ ((Rose.mk l args).args.map Rose.count).sum := by
      refine Nat.le_trans ?_ sum_le_max
      rw [maxL_le]
      intro x hx
      obtain ⟨y, hy, rfl⟩ := List.mem_map.1 hx
      exact Nat.le_trans (ih y hy) (maxL_mem (List.mem_map.2 ⟨y, hy, rfl⟩))
    omega

/-- All labels do, and no more than so many levels. -/
def Rose.fits (p : α → Nat → Bool) : Nat → Rose α → Bool
  | 0, _ => false
  | n + 1, e => p e.lab e.args.length && e.args.all (Rose.fits p n)
theorem Rose.fits_eq (p : α → Nat → Bool) : ∀ (n : Nat) (e : Rose α), e.fits p n = (e.allB p && decide (e.depth ≤ n))
  | 0, e => by have := e.depth_pos; simp [Rose.fits]; omega
  | n + 1, e => by
    rw [Rose.fits, Rose.allB_eq, Bool.eq_iff_iff]
    simp only [Bool.and_eq_true, List.all_eq_true, decide_eq_true_iff, Rose.depth_le, Rose.fits_eq p n]
    constructor
    · rintro ⟨h1, h2⟩; exact ⟨⟨h1, fun x hx => (h2 x hx).1⟩, fun x hx => (h2 x hx).2⟩
    · rintro ⟨⟨h1, h2⟩, h3⟩; exact ⟨h1, fun x hx => ⟨h2 x hx, h3 x hx⟩⟩
end

/-- Is an expression too much for a statement? -/
def Lb.big (l : Lb) (n : Nat) : Bool := decide (6 < n) || decide (100 < l.nm.size + l.tb.size + l.op.size) || decide (200 < l.v.s.size)
def greatX : Nat → Ex → Bool
  | 0, _ => true
  | n + 1, e => e.lab.big e.args.length || e.args.any (greatX n)
theorem greatX_fits : ∀ (n : Nat) (e : Ex), greatX n e = !e.fits (fun l k => !l.big k) n
  | 0, e => rfl
  | n + 1, e => by
    rw [greatX, Rose.fits, Bool.eq_iff_iff]
    have : e.args.any (greatX n) = !e.args.all (Rose.fits (fun l k => !l.big k) n) := by
      rw [List.any_eq_not_all_not]
      congr 2
      funext x
      rw [greatX_fits n x]; simp
    rw [this]
    simp

/-- A string's bytes. -/
def sB (l : List Nat) : ByteArray := strN l

def resL : List (List Nat) := [
  [97, 110, 100],
  [97, 115],
  [97, 115, 99],
  [98, 101, 103, 105, 110],
  [98, 101, 116, 119, 101, 101, 110],
  [98, 108, 111, 98],
  [98, 121],
  [99, 111, 109, 109, 105, 116],
  [99, 114, 101, 97, 116, 101],
  [100, 101, 108, 101, 116, 101],
  [100, 101, 115, 99],
  [100, 105, 115, 116, 105, 110, 99, 116],
  [100, 114, 111, 112],
  [102, 111, 114],
  [102, 114, 111, 109],
  [103, 114, 111, 117, 112],
  [105, 110, 100, 101, 120],
  [105, 110, 115, 101, 114, 116],
  [105, 110, 116],
  [105, 110, 116, 111],
  [105, 115],
  [106, 111, 105, 110],
  [107, 101, 121],
  [108, 105, 107, 101],
  [108, 105, 109, 105, 116],
  [110, 111, 116],
  [110, 117, 108, 108],
  [111, 102],
  [111, 110],
  [111, 114],
  [111, 114, 100, 101, 114],
  [112, 101, 114, 105, 111, 100],
  [112, 111, 114, 116, 105, 111, 110],
  [112, 114, 105, 109, 97, 114, 121],
  [112, 114, 117, 110, 101],
  [114, 101, 108, 101, 97, 115, 101],
  [114, 111, 108, 108, 98, 97, 99, 107],
  [115, 97, 118, 101, 112, 111, 105, 110, 116],
  [115, 101, 108, 101, 99, 116],
  [115, 101, 116],
  [115, 121, 115, 116, 101, 109, 95, 116, 105, 109, 101],
  [116, 97, 98, 108, 101],
  [116, 101, 120, 116],
  [116, 111],
  [117, 112, 100, 97, 116, 101],
  [118, 97, 108, 117, 101, 115],
  [118, 101, 114, 115, 105, 111, 110, 101, 100],
  [119, 104, 101, 114, 101],
  [119, 105, 116, 104, 111, 117, 116]]
/-- A reserved word? -/
def resB (s : ByteArray) : Bool := resL.any fun l => s.toList == l.map UInt8.ofNat
/-- The name of a column or a table? -/
def isX (s : ByteArray) : Bool := decide ((nameV s).2 = 0) && decide ((nameV s).1 = s) && !resB s
def binL : List (List Nat) := [[111, 114], [97, 110, 100], [61], [60, 62], [60], [60, 61], [62], [62, 61], [108, 105, 107, 101], [124, 124], [43], [45], [42], [47], [37]]
def inL (L : List (List Nat)) (s : ByteArray) : Bool := L.any fun l => s.toList == l.map UInt8.ofNat
def unL : List (List Nat) := [[45], [110, 111, 116]]
def nullL : List (List Nat) := [[105, 115, 32, 110, 117, 108, 108], [105, 115, 32, 110, 111, 116, 32, 110, 117, 108, 108]]
def aggL : List (List Nat) := [[99, 111, 117, 110, 116], [115, 117, 109], [109, 105, 110], [109, 97, 120]]
def countL : List (List Nat) := [[99, 111, 117, 110, 116]]
def callL : List (List Nat) := [[111, 118, 101, 114, 108, 97, 112, 115], [99, 111, 110, 116, 97, 105, 110, 115]]
def lenL : List (List Nat) := [[108, 101, 110, 103, 116, 104]]
/-- Is there such an operation? -/
def takesB (k : Int) (op : ByteArray) (n : Nat) : Bool :=
  if k = 3 then decide (n = 1) && inL unL op
  else if k = 4 then decide (n = 2) && inL binL op
  else if k = 5 then decide (n = 1) && inL nullL op
  else if k = 6 then (inL aggL op && decide (n = 1)) || (inL countL op && decide (n = 0))
  else if k = 7 then (inL callL op && decide (n = 4)) || (inL lenL op && decide (n = 1))
  else false
/-- Is a value without anything? -/
def Vl.zeroB (v : Vl) : Bool := ((v.k : Int) == 0) && ((v.n == 0) && v.s.toList.isEmpty)
/-- May a label be, with so many arguments? -/
def Lb.ok (l : Lb) (n : Nat) : Bool :=
  if l.kd = 1 then l.v.right && decide (0 ≤ l.v.n) && l.tb.toList.isEmpty && l.nm.toList.isEmpty && l.op.toList.isEmpty && ((n : Int) == 0)
  else if l.kd = 2 then isX l.nm && (l.tb.toList.isEmpty || isX l.tb) && l.v.zeroB && l.op.toList.isEmpty && ((n : Int) == 0)
  else takesB l.kd l.op n && l.v.zeroB && l.tb.toList.isEmpty && l.nm.toList.isEmpty
/-- Right, with so many levels. -/
def rightX (n : Nat) (e : Ex) : Bool := e.fits Lb.ok n
theorem rightX_eq (n : Nat) (e : Ex) : rightX n e = (e.allB Lb.ok && decide (e.depth ≤ n)) := Rose.fits_eq _ n e
end Go.Proofs.Ytmfdnphjhbbkiaa
