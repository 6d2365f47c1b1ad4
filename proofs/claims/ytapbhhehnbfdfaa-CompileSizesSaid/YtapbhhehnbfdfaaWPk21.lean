/- Several texts of one proof, one behind the other. -/
import Derived.Test.YtapbhhehnbfdfaaWPk20
set_option linter.unusedSimpArgs false
set_option linter.unusedVariables false

/- The walk of schema.span. -/
set_option linter.unusedSimpArgs false
set_option linter.unusedVariables false
set_option maxRecDepth 100000
namespace Go.Proofs.Ytapbhhehnbfdfaa
open Go.RowKit

theorem results_cell1 {P : Program} {fn : Func} {p : Tmp} {ty : TypeId} (h : fn.results = #[.cell p ty]) (tmps : Array Value) (w : World) {ad : Addr} {v : Value}
    (hp : tmps.getD p undef = .pointer (some ad)) (hl : (loadVar ty ad).run P w = .ok v w) : (results fn tmps).run P w = .ok v w := by
  have hp' : tmps[p]?.getD undef = .pointer (some ad) := by simpa using hp
  simp [results, h, hp', asAddr, hl]

end Go.Proofs.Ytapbhhehnbfdfaa

/- The walk of hindsightlaw15.As. -/
set_option linter.unusedSimpArgs false
set_option linter.unusedVariables false
set_option maxRecDepth 100000
namespace Go.Proofs.Ytapbhhehnbfdfaa
open Go.RowKit

end Go.Proofs.Ytapbhhehnbfdfaa

/- A scope in memory; the walks of slices.Clone over columns, of typing.columns, all and Slots. -/
set_option linter.unusedSimpArgs false
set_option linter.unusedVariables false
set_option maxRecDepth 100000
namespace Go.Proofs.Ytapbhhehnbfdfaa
open Go.RowKit

/-- A source in a scope: its name, its table, and where the table's rows lie. -/
structure Sx where
  al : ByteArray
  t : Tb
  m : TM
abbrev Sx.cells (x : Sx) : List Value := [.string x.al, .string x.t.name, .slice x.m.ca x.m.cl x.m.cc, .slice x.m.ka x.m.kl x.m.kc, .string x.t.per, .int .i64 x.t.fr, .int .i64 x.t.tt, .bool x.t.apart, .bool x.t.vers]
def cellsSx (l : List Sx) : List Value := cellsOf Sx.cells l
theorem cellsSx_len (l : List Sx) : (cellsSx l).length = l.length * 9 := cellsOf_len _ 9 (fun _ => rfl) l
/-- The cells of a source in a box. -/
structure Slot9 (W : World) (B o : Nat) (x : Sx) : Prop where
  c0 : W.cell? ⟨B, o, none⟩ = some (.string x.al)
  c1 : W.cell? ⟨B, o + 1, none⟩ = some (.string x.t.name)
  c2 : W.cell? ⟨B, o + 2, none⟩ = some (.slice x.m.ca x.m.cl x.m.cc)
  c3 : W.cell? ⟨B, o + 3, none⟩ = some (.slice x.m.ka x.m.kl x.m.kc)
  c4 : W.cell? ⟨B, o + 4, none⟩ = some (.string x.t.per)
  c5 : W.cell? ⟨B, o + 5, none⟩ = some (.int .i64 x.t.fr)
  c6 : W.cell? ⟨B, o + 6, none⟩ = some (.int .i64 x.t.tt)
  c7 : W.cell? ⟨B, o + 7, none⟩ = some (.bool x.t.apart)
  c8 : W.cell? ⟨B, o + 8, none⟩ = some (.bool x.t.vers)
theorem Slot9.new (w : World) (T : TypeId) (x : Sx) : Slot9 (w.alloc (.cells #[.string x.al, .string x.t.name, .slice x.m.ca x.m.cl x.m.cc, .slice x.m.ka x.m.kl x.m.kc, .string x.t.per, .int .i64 x.t.fr, .int .i64 x.t.tt, .bool x.t.apart, .bool x.t.vers] T)) w.heap.size 0 x :=
  ⟨by simp, by simp, by simp, by simp, by simp, by simp, by simp, by simp, by simp⟩
theorem Slot9.later {W W' : World} {B o N : Nat} {x : Sx} (h : Slot9 W B o x) (hB : B < N) (hb : Below N W W') : Slot9 W' B o x :=
  ⟨(hb.cell (p := ⟨B, o, none⟩) hB).trans h.c0, (hb.cell (p := ⟨B, o + 1, none⟩) hB).trans h.c1, (hb.cell (p := ⟨B, o + 2, none⟩) hB).trans h.c2, (hb.cell (p := ⟨B, o + 3, none⟩) hB).trans h.c3, (hb.cell (p := ⟨B, o + 4, none⟩) hB).trans h.c4, (hb.cell (p := ⟨B, o + 5, none⟩) hB).trans h.c5, (hb.cell (p := ⟨B, o + 6, none⟩) hB).trans h.c6, (hb.cell (p := ⟨B, o + 7, none⟩) hB).trans h.c7, (hb.cell (p := ⟨B, o + 8, none⟩) hB).trans h.c8⟩
/-- The k-th source's cells. -/
theorem sxAt {N : Nat} {w : World} {a : Option Addr} {l : List Sx} (h : Arr N w a (cellsSx l)) {k : Nat} (hk : k < l.length) : ∃ b o, a = some ⟨b, o, none⟩ ∧ b < N ∧ Slot9 w b (o + k * 9) l[k] := by
  obtain ⟨b, o, ha, hb, hc⟩ := h.at_ (by intro h0; have := cellsSx_len l; rw [h0] at this; simp at this; omega)
  have g := fun (j : Nat) (v : Value) (hv : (Sx.cells l[k])[j]? = some v) => hc _ _ (cellsOf_get Sx.cells 9 (fun _ => rfl) l k j l[k] v (List.getElem?_eq_getElem hk) hv)
  refine ⟨b, o, ha, hb, ?_, ?_, ?_, ?_, ?_, ?_, ?_, ?_, ?_⟩
  · simpa using g 0 _ rfl
  · simpa [Nat.add_assoc] using g 1 _ rfl
  · simpa [Nat.add_assoc] using g 2 _ rfl
  · simpa [Nat.add_assoc] using g 3 _ rfl
  · simpa [Nat.add_assoc] using g 4 _ rfl
  · simpa [Nat.add_assoc] using g 5 _ rfl
  · simpa [Nat.add_assoc] using g 6 _ rfl
  · simpa [Nat.add_assoc] using g 7 _ rfl
  · simpa [Nat.add_assoc] using g 8 _ rfl

/-- The scope lies there. -/
structure ScAt (w : World) (a : Option Addr) (cap : Nat) (L : List Sx) : Prop where
  arr : Arr w.heap.size w a (cellsSx L)
  tabs : ∀ x ∈ L, TAt w x.t x.m
  names : ∀ x ∈ L, x.al.size ≤ 1000000
  small : L.length ≤ 6
  hcap : L.length ≤ cap
  hmax : cap ≤ 9223372036854775807
theorem ScAt.later {w w' : World} {a : Option Addr} {cap : Nat} {L : List Sx} (h : ScAt w a cap L) (hb : Below w.heap.size w w') : ScAt w' a cap L :=
  ⟨(h.arr.below hb).mono hb.size, fun x hx => (h.tabs x hx).later hb, h.names, h.small, h.hcap, h.hmax⟩

/-- The columns of a source, with the system's. -/
def sysC : List Col := [⟨sysF, 1, false⟩, ⟨sysT, 1, false⟩]
def colsOf (t : Tb) : List Col := t.cols ++ (if t.vers = true then sysC else [])
def allOf (L : List Sx) : List Col := L.flatMap fun x => colsOf x.t
theorem allOf_snoc (L : List Sx) (x : Sx) : allOf (L ++ [x]) = allOf L ++ colsOf x.t := by simp [allOf]
theorem colsOf_len {t : Tb} (h : t.cols.length ≤ 1000000) : (colsOf t).length ≤ 1000002 := by
  unfold colsOf sysC
  rw [List.length_append]
  split <;> simp only [List.length_cons, List.length_nil] <;> omega
theorem one_O (l : List Col) : ∀ u ∈ cellsO l, u.oneCell' = true := by
  intro u hu
  unfold cellsO cellsOf at hu
  obtain ⟨c, _, hc⟩ := List.mem_flatMap.1 hu
  simp at hc
  rcases hc with rfl | rfl | rfl <;> rfl
theorem cellsO_app (l m : List Col) : cellsO (l ++ m) = cellsO l ++ cellsO m := by simp [cellsO, cellsOf]
/-- A call hands back a row of its own. -/
def RetOwn (w : World) (T : TypeId) (z : Nat) (xs : List Value) (n : Nat) (e : Ending) (w' : World) : Prop :=
  ∃ v, e = .returned v ∧ w'.ownsRow w.heap.size T z v n xs ∧ Below w.heap.size w w'

end Go.Proofs.Ytapbhhehnbfdfaa

/- 'append(s, x, y)': several values that have just been laid together. -/
set_option linter.unusedSimpArgs false
set_option linter.unusedVariables false
set_option maxRecDepth 100000
namespace Go.Proofs.Ytapbhhehnbfdfaa
open Go.RowKit

/-- 'append(s, x..)', m values just laid in a block of their own: one operation. -/
theorem wp_appM {P : Program} {o : Oper} {a : Act} {K : Act → World → Prop} {Q : Exit → Act → World → Prop} (s x : Operand) (t : TypeId)
    (ho : o.op = .call { callee := .builtin .append, args := #[s, x], argTypes := #[t, t] })
    (base : Nat) (e : TypeId) (i : TypeInfo) (zr : Value) (z bytes m : Nat) (ht : P.underlying t = some (.slice e)) (hi : P.info? e = some i) (hz : i.zero = some zr) (hzs : zr.cells.size = z)
    (hsize : i.size = z) (hz0 : 0 < z) (hby : i.bytes = bytes) (hb100 : bytes ≤ 100)
    (v : Value) (n : Nat) (l news : List Value) (w : World) (hown : w.ownsRow base e z v n l) (hs : a.eval s = v) (cs : Array Value) (hcs : cs = news.toArray) (hl : news.length = m * z) (h1 : ∀ u ∈ news, u.oneCell' = true)
    (hx : a.eval x = .slice (some ⟨w.heap.size, 0, none⟩) m m) (hlen : n + m < 1000000000000) (hbase : base ≤ w.heap.size)
    (h : ∀ v' w', w'.ownsRow base e z v' (n + m) (l ++ news) → Chg v.ownBlock.toList (w.alloc (.cells cs e)) w' → w.heap.size < w'.heap.size → K (a.put o.dst v') w') :
    o.wp P a (w.alloc (.cells cs e)) K Q := by
  subst hcs
  refine wp_append_own (w.alloc (.cells news.toArray e)) s x t ho base e i zr z bytes ht hi hz hsize hby hzs hz0 v n _ hs (World.ownsRow.alloc hown _) ⟨w.heap.size, 0, none⟩ m m news hx (by rw [hl]) ?_ h1 ?_ ?_ ?_ ?_
  · intro j u hj
    have e0 : (⟨w.heap.size, 0, none⟩ : Addr).add j = ⟨w.heap.size, j, none⟩ := by
      unfold Addr.add; split <;> simp_all
    rw [e0, World.cell?_alloc_at _ _ _ _ rfl]
    simpa using hj
  · unfold maxLen; omega
  · have : (n + m) * bytes ≤ 1000000000000 * 100 := Nat.mul_le_mul (by omega) hb100
    omega
  · simp; omega
  · intro v' w' hown' hgrow _
    have hsz := hgrow.size
    refine h v' w' hown' ⟨hgrow.os, hgrow.tape, hgrow.output, hsz, fun k hk hn => ?_⟩ (by simp at hsz; omega)
    exact hgrow.block k hk (by intro he; apply hn; rw [Option.mem_toList]; exact he.symm)
theorem wpList_appM {P : Program} {ops : Array Oper} {rest : List Oper} {o : Oper} {a : Act} {Q : Exit → Act → World → Prop} (hgd : o.guard = none) (s x : Operand) (t : TypeId)
    (ho : o.op = .call { callee := .builtin .append, args := #[s, x], argTypes := #[t, t] })
    (base : Nat) (e : TypeId) (i : TypeInfo) (zr : Value) (z bytes m : Nat) (ht : P.underlying t = some (.slice e)) (hi : P.info? e = some i) (hz : i.zero = some zr) (hzs : zr.cells.size = z)
    (hsize : i.size = z) (hz0 : 0 < z) (hby : i.bytes = bytes) (hb100 : bytes ≤ 100)
    (v : Value) (n : Nat) (l news : List Value) (w : World) (hown : w.ownsRow base e z v n l) (hs : a.eval s = v) (cs : Array Value) (hcs : cs = news.toArray) (hl : news.length = m * z) (h1 : ∀ u ∈ news, u.oneCell' = true)
    (hx : a.eval x = .slice (some ⟨w.heap.size, 0, none⟩) m m) (hlen : n + m < 1000000000000) (hbase : base ≤ w.heap.size)
    (h : ∀ v' w', w'.ownsRow base e z v' (n + m) (l ++ news) → Chg v.ownBlock.toList (w.alloc (.cells cs e)) w' → w.heap.size < w'.heap.size → wpList P ops Q rest (a.put o.dst v') w') :
    wpList P ops Q (o :: rest) a (w.alloc (.cells cs e)) :=
  wpList_plain hgd fun _ hK => wp_appM s x t ho base e i zr z bytes m ht hi hz hzs hsize hz0 hby hb100 v n l news w hown hs cs hcs hl h1 hx hlen hbase fun v' w' h2 h3 h4 => hK _ _ (h v' w' h2 h3 h4)
end Go.Proofs.Ytapbhhehnbfdfaa

/- The walks of typing.all, Slots, Names and Kinds. Written by wip/gen/genty2.py. -/
set_option linter.unusedSimpArgs false
set_option linter.unusedVariables false
set_option maxRecDepth 100000
namespace Go.Proofs.Ytapbhhehnbfdfaa
open Go.RowKit

theorem allOf_bound : ∀ (L : List Sx), (∀ x ∈ L, x.t.cols.length ≤ 1000000) → (allOf L).length ≤ L.length * 1000002
  | [], _ => by simp [allOf]
  | x :: r, h => by
    have ih := allOf_bound r fun y hy => h y (List.mem_cons_of_mem _ hy)
    have h1 := colsOf_len (h x List.mem_cons_self)
    have e : allOf (x :: r) = colsOf x.t ++ allOf r := by simp [allOf]
    rw [e, List.length_append, List.length_cons]; omega
theorem allOf_len {w : World} {a : Option Addr} {cap : Nat} {L : List Sx} (h : ScAt w a cap L) : (allOf L).length ≤ 100000000 := by
  have := allOf_bound L fun x hx => (h.tabs x hx).fair.cl
  have := h.small
  omega

theorem info_strT : (Try.prog.info? 9).map (fun i => (i.zero, i.size, i.bytes)) = some (some (.string ⟨#[]⟩), 1, 16) := by kernel_rfl
theorem info_u8T : (Try.prog.info? 5).map (fun i => (i.zero, i.size, i.bytes)) = some (some (.int .u8 0), 1, 1) := by kernel_rfl
abbrev nmCell (c : Col) : List Value := [.string c.nm]
abbrev kdCell (c : Col) : List Value := [.int .u8 (c.kd : Int)]

end Go.Proofs.Ytapbhhehnbfdfaa
