/- Several texts of one proof, one behind the other. -/
import Derived.Test.YtapbhhehnbfdfaaWPk22
import Derived.Great.BuildSlice
set_option linter.unusedSimpArgs false
set_option linter.unusedVariables false

/- An element of a row of the call's own that is stored into its place. -/
set_option linter.unusedSimpArgs false
set_option linter.unusedVariables false
set_option maxRecDepth 100000
namespace Go.Proofs.Ytapbhhehnbfdfaa
open Go.RowKit

theorem run_storeVar_in {P : Program} (w : World) (g off : Nat) (T ty : TypeId) (cur : Array Value) (cells : Array Value) (hg : w.heap[g]? = some (.cells cur T (0, 0))) (hi : (P.info? ty).map (·.size) = some cells.size) (hfit : off + cells.size ≤ cur.size) (h1 : ∀ v ∈ cells.toList, v.oneCell' = true) :
    (storeVar ty ⟨g, off, none⟩ (.agg cells)).run P w = .ok () (w.setRow g (cur.toList.take off ++ cells.toList ++ cur.toList.drop (off + cells.size)).toArray) := by
  have h := run_storeCells_at (P := P) g off T cells.toList 0 cur w hg (by simpa using hfit) h1
  cases hq : P.info? ty with
  | none => simp [hq] at hi
  | some i =>
    simp [hq] at hi
    have e : (Value.agg cells).cells = cells := rfl
    simp [storeVar, sizeOf, typeInfo, hq, e, hi]
    simpa using h

/-- The row with its last element stored anew. -/
theorem own_put {P : Program} {w : World} {base : Nat} {e : TypeId} {z n : Nat} {v : Value} {l news : List Value} (h : w.ownsRow base e z v (n + 1) (l ++ news)) (hl : l.length = n * z) (hn : news.length = z) (cs : Array Value) (hc : cs.size = z) (hi : (P.info? e).map (·.size) = some z) (h1 : ∀ u ∈ cs.toList, u.oneCell' = true) :
    ∃ g cap R, v = .slice (some ⟨g, 0, none⟩) (n + 1) cap ∧ base ≤ g ∧ g < w.heap.size ∧ n + 1 ≤ cap ∧ cap ≤ 9223372036854775807 ∧
      (∀ W : World, W.heap[g]? = w.heap[g]? → (storeVar e ⟨g, n * z, none⟩ (.agg cs)).run P W = .ok () (W.setRow g R) ∧ (W.setRow g R).ownsRow base e z v (n + 1) (l ++ cs.toList)) ∧ ∀ j, j < z → ∃ u, w.cell? ⟨g, n * z + j, none⟩ = some u := by
  obtain ⟨h2, h3⟩ := h
  rcases h3 with ⟨_, h0⟩ | ⟨g, cap, cur, rfl, hg, hh, hnc, hcm, hcs, hcur⟩
  · omega
  · have hglt : g < w.heap.size := (Array.getElem?_eq_some_iff.1 hh).1
    have hfit : n * z + z ≤ cur.size := by rw [hcs]; have := Nat.mul_le_mul_right z hnc; rw [Nat.add_mul] at this; omega
    have hnz : (n + 1) * z = n * z + z := by rw [Nat.add_mul]; omega
    have hlt : cur.toList.take (n * z) = l := by
      have h5 := congrArg (List.take (n * z)) hcur
      rw [List.take_take, hnz, Nat.min_eq_left (by omega), ← hl, List.take_left] at h5
      rw [← hl]; exact h5
    refine ⟨g, cap, (cur.toList.take (n * z) ++ cs.toList ++ cur.toList.drop (n * z + cs.size)).toArray, rfl, hg, hglt, hnc, by unfold maxLen at hcm; omega, fun W hW => ?_, fun j hj => ?_⟩
    · have hWg : W.heap[g]? = some (.cells cur e (0, 0)) := hW.trans hh
      refine ⟨run_storeVar_in W g (n * z) e e cur cs hWg (by rw [hi, hc]) (by rw [hc]; exact hfit) h1, ?_, .inr ⟨g, cap, _, rfl, hg, setRow_heap W g cur _ e _ hWg, hnc, hcm, ?_, ?_⟩⟩
      · rw [List.length_append, hl, hnz]; simp [hc]
      · simp only [List.size_toArray, List.length_append, List.length_take, List.length_drop, Array.length_toList]
        omega
      · rw [hlt]
        have : (l ++ cs.toList).length = (n + 1) * z := by rw [List.length_append, hl, hnz]; simp [hc]
        rw [← this, List.toList_toArray]
        exact List.take_left
    · have hj2 : n * z + j < cur.size := by omega
      exact ⟨cur[n * z + j], by simp only [World.cell?, hh]; simp [hj2]⟩

/-- 'append(s, x..)' of m values that lie in a block: one operation; where the row lies behind it. -/
theorem wp_appG {P : Program} {o : Oper} {a : Act} {K : Act → World → Prop} {Q : Exit → Act → World → Prop} (s x : Operand) (t : TypeId)
    (ho : o.op = .call { callee := .builtin .append, args := #[s, x], argTypes := #[t, t] })
    (base : Nat) (e : TypeId) (i : TypeInfo) (zr : Value) (z bytes m : Nat) (ht : P.underlying t = some (.slice e)) (hi : P.info? e = some i) (hz : i.zero = some zr) (hzs : zr.cells.size = z)
    (hsize : i.size = z) (hz0 : 0 < z) (hby : i.bytes = bytes) (hb1000 : bytes ≤ 1000)
    (v : Value) (n : Nat) (l news : List Value) (w : World) (hown : w.ownsRow base e z v n l) (hs : a.eval s = v) (b c : Nat) (hn : ∀ (j : Nat) u, news[j]? = some u → w.cell? ⟨b, j, none⟩ = some u) (hl : news.length = m * z) (h1 : ∀ u ∈ news, u.oneCell' = true)
    (hx : a.eval x = .slice (some ⟨b, 0, none⟩) m c) (hlen : n + m < 100000000000) (hbase : base ≤ w.heap.size)
    (h : ∀ v' w', w'.ownsRow base e z v' (n + m) (l ++ news) → Chg v.ownBlock.toList w w' → (v'.ownBlock = v.ownBlock ∨ ∀ g, v'.ownBlock = some g → w.heap.size ≤ g) → K (a.put o.dst v') w') :
    o.wp P a w K Q := by
  have hnews : ∀ j u, news[j]? = some u → w.cell? ((⟨b, 0, none⟩ : Addr).add j) = some u := by
    intro j u hj
    have e0 : (⟨b, 0, none⟩ : Addr).add j = ⟨b, j, none⟩ := by
      unfold Addr.add; split <;> simp_all
    rw [e0]; exact hn j u hj
  have h63 : n + m ≤ maxLen := by unfold maxLen; omega
  have hbs : (n + m) * bytes ≤ 140737488355328 := by
    have : (n + m) * bytes ≤ 100000000000 * 1000 := Nat.mul_le_mul (by omega) hb1000
    omega
  obtain ⟨v', w', hrun, h2, h3, _⟩ := run_append_own (P := P) w base t o.type e i zr z bytes ht hi hz hsize hby hzs hz0 v n l hown ⟨b, 0, none⟩ m c news hl hnews h1 h63 hbs hbase
  have hfr := append_fresh (P := P) w base t o.type e i zr z bytes ht hi hz hsize hby hzs hz0 v n l hown ⟨b, 0, none⟩ m c news hl hnews h1 h63 hbs v' w' hrun
  unfold Oper.wp execOp
  simp only [ho, resolve, invoke, builtin, Sem.run_bind, Sem.run_pure, Result.andThen_ok, List.map_toArray, List.map_cons, List.map_nil, hs, hx, hrun]
  exact h v' w' h2 ⟨h3.os, h3.tape, h3.output, h3.size, fun k hk hn => h3.block k hk (by intro he; apply hn; rw [Option.mem_toList]; exact he.symm)⟩ hfr

theorem KidsIn.add2 {lo : Nat} {W w6 : World} {T : TypeId} {n : Nat} {cv v6 : Value} {L : List XM} {y : XM} (h : KidsIn lo W T n cv L) (hs : W.heap.size ≤ w6.heap.size) (hlo : lo ≤ W.heap.size)
    (hk : ∀ b, lo ≤ b → b < W.heap.size → cv.ownBlock ≠ some b → w6.heap[b]? = W.heap[b]?)
    (hy : XIn (fun b => W.heap.size ≤ b ∧ b < w6.heap.size ∧ v6.ownBlock ≠ some b) w6 n y) (hr : w6.ownsRow lo T 8 v6 (L.length + 1) (cellsOf cellsX L ++ cellsX y)) (hf : v6.ownBlock = cv.ownBlock ∨ ∀ g, v6.ownBlock = some g → W.heap.size ≤ g) :
    KidsIn lo w6 T n v6 (L ++ [y]) := by
  refine ⟨by rw [List.length_append]; exact (cellsOf_snoc cellsX L y).symm ▸ hr, fun z hz => ?_⟩
  rcases List.mem_append.1 hz with hz | hz
  · have hz2 := h.kid z hz
    refine (hz2.keep (w' := w6) (fun b hb => hk b hb.1 hb.2.1 hb.2.2)).imp fun b hb => ⟨hb.1, by omega, ?_⟩
    rcases hf with hf | hf
    · rw [hf]; exact hb.2.2
    · intro hg; have := hf b hg; omega
  · rw [List.mem_singleton.1 hz]
    exact hy.imp fun b hb => ⟨by omega, hb.2.1, hb.2.2⟩
end Go.Proofs.Ytapbhhehnbfdfaa

/- The walk of clone. -/
set_option linter.unusedSimpArgs false
set_option linter.unusedVariables false
set_option maxRecDepth 100000
namespace Go.Proofs.Ytapbhhehnbfdfaa
open Go.RowKit

abbrev zeroXc : Array Value := #[.int .i64 0, .int .u8 0, .int .i64 0, .string ⟨#[]⟩, .string ⟨#[]⟩, .string ⟨#[]⟩, .string ⟨#[]⟩, .slice none 0 0]
/-- The cells of an expression, with another slice of arguments. -/
abbrev Lb.csX (l : Lb) (v : Value) : Array Value := #[.int .i64 l.kd, .int .u8 l.v.k, .int .i64 l.v.n, .string l.v.s, .string l.tb, .string l.nm, .string l.op, v]

/-- 'clone' is at work. -/
structure CloneIn (w W : World) (T : TypeId) (l : Lb) (sv : Value) (n : Nat) (cv : Value) (L : List XM) : Prop where
  box : Blk W w.heap.size T (l.csX sv)
  res : Blk W (w.heap.size + 1) T zeroXc
  bel : Below w.heap.size w W
  lo : w.heap.size + 2 ≤ W.heap.size
  kids : KidsIn (w.heap.size + 2) W T n cv L
theorem CloneIn.new (w : World) (T : TypeId) (l : Lb) (sv : Value) (n : Nat) : CloneIn w ((w.alloc (.cells (l.csX sv) T)).alloc (.cells zeroXc T)) T l sv n (.slice none 0 0) [] := by
  refine ⟨(Blk.new w T (l.csX sv)).alloc _, ?_, ((Below.refl _ w).alloc (Nat.le_refl _) _).alloc (by simp) _, by simp, KidsIn.nil _ _ _ _⟩
  have := Blk.new (w.alloc (.cells (l.csX sv) T)) T zeroXc
  rw [show (w.alloc (.cells (l.csX sv) T)).heap.size = w.heap.size + 1 by simp] at this
  exact this

theorem CloneIn.add {w W w2 w5 : World} {T : TypeId} {l : Lb} {sv : Value} {n : Nat} {cv v5 : Value} {L : List XM} {y : XM} (h : CloneIn w W T l sv n cv L) (hb : Below W.heap.size W w2)
    (hy : XIn (fun b => W.heap.size ≤ b ∧ b < w2.heap.size) w2 n y) (hr : w5.ownsRow (w.heap.size + 2) T 8 v5 (L.length + 1) (cellsOf cellsX L ++ cellsX y)) {o : Obj} (hc : Chg cv.ownBlock.toList (w2.alloc o) w5) (hf : v5.ownBlock = cv.ownBlock ∨ ∀ g, v5.ownBlock = some g → w2.heap.size < g) :
    CloneIn w w5 T l sv n v5 (L ++ [y]) := by
  have hsz := hc.size
  simp at hsz
  have h0 := hb.size
  have hlo := h.lo
  have hgt : ∀ g, cv.ownBlock = some g → w.heap.size + 2 ≤ g := fun g hg => (h.kids.row.lt g hg).1
  have hold : Below (w.heap.size + 2) W w5 := (hb.mono hlo).trans (((Below.refl (w.heap.size + 2) w2).alloc (by omega) o).trans (hc.below (by simp; omega) (fun g hg => hgt g (by simpa using hg))))
  exact ⟨(hold.block _ (by omega)).trans h.box, (hold.block _ (by omega)).trans h.res, h.bel.trans (hold.mono (by omega)), by omega, h.kids.add h0 (fun b _ hb2 => hb.block b hb2) hlo hy hr hc hf⟩

end Go.Proofs.Ytapbhhehnbfdfaa

/- The walks of the closures of Columns and Aggregates: what is picked. -/
set_option linter.unusedSimpArgs false
set_option linter.unusedVariables false
set_option maxRecDepth 100000
namespace Go.Proofs.Ytapbhhehnbfdfaa
open Go.RowKit

theorem below_chg {w w' : World} {S : List Nat} (h : Below w.heap.size w w') : Chg S w w' := ⟨h.os, h.tape, h.output, h.size, fun k hk _ => h.block k hk⟩
def pickL (kd : Int) (e : Ex) : List Ex := if e.lab.kd = kd then [e] else []
theorem one_X (z : XM) : ∀ u ∈ cellsX z, u.oneCell' = true := by
  intro u hu; simp [cellsX, cellsR, Lb.cells] at hu; rcases hu with rfl | rfl | rfl | rfl | rfl | rfl | rfl | rfl <;> rfl
abbrev zero8 : List Value := [.int .i64 0, .int .u8 0, .int .i64 0, .string ⟨#[]⟩, .string ⟨#[]⟩, .string ⟨#[]⟩, .string ⟨#[]⟩, .slice none 0 0]
theorem one_Z : ∀ u ∈ zero8, u.oneCell' = true := by
  intro u hu; simp at hu; rcases hu with rfl | rfl | rfl | rfl | rfl | rfl <;> rfl
end Go.Proofs.Ytapbhhehnbfdfaa

/- The walk of typing.bind at a column. -/
set_option linter.unusedSimpArgs false
set_option linter.unusedVariables false
set_option maxRecDepth 100000
namespace Go.Proofs.Ytapbhhehnbfdfaa
open Go.RowKit

theorem info_ndS : (Try.prog.info? 26).map (·.size) = some 8 := by kernel_rfl
abbrev ndZ : Array Value := #[.int .i64 0, .string ⟨#[]⟩, .int .u8 0, .int .i64 0, .string ⟨#[]⟩, .int .i64 0, .int .u8 0, .slice none 0 0]
/-- A node is loaded, is stored. -/
theorem nd_load {W : World} {B : Nat} (kd : Int) (op : ByteArray) (vk : Nat) (vn : Int) (vs : ByteArray) (sl : Int) (ty : Nat) (a : Option Addr) (n c : Nat) (hB : Blk W B 26 #[.int .i64 kd, .string op, .int .u8 (vk : Int), .int .i64 vn, .string vs, .int .i64 sl, .int .u8 (ty : Int), .slice a n c]) :
    (loadVar 26 ⟨B, 0, none⟩).run Try.prog W = .ok (.agg #[.int .i64 kd, .string op, .int .u8 (vk : Int), .int .i64 vn, .string vs, .int .i64 sl, .int .u8 (ty : Int), .slice a n c]) W :=
  run_loadVar_row _ _ _ 26 _ (0, 0) _ hB Try.underlying26 rfl (by rw [info_ndS]; rfl)
theorem nd_end {w W : World} {B : Nat} (kd : Int) (op : ByteArray) (vk : Nat) (vn : Int) (vs : ByteArray) (sl : Int) (ty : Nat) (a : Option Addr) (n c : Nat) (hB : Blk W B 26 ndZ) (hN : w.heap.size ≤ B) (hb : Below w.heap.size w W) :
    (storeVar 26 ⟨B, 0, none⟩ (.agg #[.int .i64 kd, .string op, .int .u8 (vk : Int), .int .i64 vn, .string vs, .int .i64 sl, .int .u8 (ty : Int), .slice a n c])).run Try.prog W = .ok () (W.setRow B #[.int .i64 kd, .string op, .int .u8 (vk : Int), .int .i64 vn, .string vs, .int .i64 sl, .int .u8 (ty : Int), .slice a n c]) ∧
    (loadVar 26 ⟨B, 0, none⟩).run Try.prog (W.setRow B #[.int .i64 kd, .string op, .int .u8 (vk : Int), .int .i64 vn, .string vs, .int .i64 sl, .int .u8 (ty : Int), .slice a n c]) = .ok (.agg #[.int .i64 kd, .string op, .int .u8 (vk : Int), .int .i64 vn, .string vs, .int .i64 sl, .int .u8 (ty : Int), .slice a n c]) (W.setRow B #[.int .i64 kd, .string op, .int .u8 (vk : Int), .int .i64 vn, .string vs, .int .i64 sl, .int .u8 (ty : Int), .slice a n c]) ∧
    Below w.heap.size w (W.setRow B #[.int .i64 kd, .string op, .int .u8 (vk : Int), .int .i64 vn, .string vs, .int .i64 sl, .int .u8 (ty : Int), .slice a n c]) := by
  have hc : Chg [B] W (W.setRow B #[.int .i64 kd, .string op, .int .u8 (vk : Int), .int .i64 vn, .string vs, .int .i64 sl, .int .u8 (ty : Int), .slice a n c]) := (Chg.refl _ _).setRow (.inl (by simp)) _
  exact ⟨run_storeVar_row _ _ _ 26 _ _ hB (by rw [info_ndS]; rfl) rfl (by simp [Value.oneCell']), nd_load _ _ _ _ _ _ _ _ _ _ (Blk.setRow hB), hb.trans (hc.below hb.size (by simp; exact hN))⟩

end Go.Proofs.Ytapbhhehnbfdfaa

/- The walk of typing.bind at a sum of columns. -/
set_option linter.unusedSimpArgs false
set_option linter.unusedVariables false
set_option maxRecDepth 100000
namespace Go.Proofs.Ytapbhhehnbfdfaa
open Go.RowKit

/-- A column in a scope: its names, its slot, what it is. -/
structure Cx where
  tb : ByteArray
  nm : ByteArray
  sl : Nat
  c : Col
abbrev exC (x : Cx) : List Value := [.int .i64 2, .int .u8 0, .int .i64 0, .string ⟨#[]⟩, .string x.tb, .string x.nm, .string ⟨#[]⟩, .slice none 0 0]
abbrev ndOf (x : Cx) : NM := ⟨.mk ⟨2, ⟨#[]⟩, ⟨0, 0, ⟨#[]⟩⟩, (x.sl : Int), x.c.kd⟩ [], none, 0⟩
theorem ndOf_cells (x : Cx) : cellsNd (ndOf x) = [.int .i64 2, .string ⟨#[]⟩, .int .u8 0, .int .i64 0, .string ⟨#[]⟩, .int .i64 (x.sl : Int), .int .u8 (x.c.kd : Int), .slice none 0 0] := rfl
theorem info_nd : (Try.prog.info? 26).map (fun i => (i.zero, i.size, i.bytes)) = some (some (.agg #[.int .i64 0, .string ⟨#[]⟩, .int .u8 0, .int .i64 0, .string ⟨#[]⟩, .int .i64 0, .int .u8 0, .slice none 0 0]), 8, 96) := by kernel_rfl
theorem exAt {N : Nat} {w : World} {a : Option Addr} {l : List Cx} (h : Arr N w a (cellsOf exC l)) {k : Nat} (hk : k < l.length) : ∃ b o, a = some ⟨b, o, none⟩ ∧ b < N ∧ ∀ (j : Nat) (v : Value), (exC l[k])[j]? = some v → w.cell? ⟨b, o + k * 8 + j, none⟩ = some v := by
  obtain ⟨b, o, ha, hb, hc⟩ := h.at_ (by intro h0; have := cellsOf_len exC 8 (fun _ => rfl) l; rw [h0] at this; simp at this; omega)
  refine ⟨b, o, ha, hb, fun j v hv => ?_⟩
  have := hc _ _ (cellsOf_get exC 8 (fun _ => rfl) l k j l[k] v (List.getElem?_eq_getElem hk) hv)
  rw [Nat.add_assoc]; exact this
/-- The column is what it says. -/
def CxOk (L : List Sx) (x : Cx) : Prop := slotV (hitP x.tb x.nm) (plOf L) = ((x.sl : Int), 0) ∧ (allOf L)[x.sl]? = some x.c

/-- What bind hands back of a sum. -/
def RetSum (w : World) (n : Nat) (b : Bool) (e : Ending) (w' : World) : Prop :=
  (∃ (a2 : Option Addr) (c2 : Nat), e = .returned (.tuple #[if b = true then .agg #[.int .i64 4, .string ⟨#[43]⟩, .int .u8 0, .int .i64 0, .string ⟨#[]⟩, .int .i64 0, .int .u8 1, .slice a2 n c2] else .agg #[.int .i64 0, .string ⟨#[]⟩, .int .u8 0, .int .i64 0, .string ⟨#[]⟩, .int .i64 0, .int .u8 0, .slice none 0 0], .int .i64 (if b = true then 0 else 20)])) ∧ Below w.heap.size w w'

end Go.Proofs.Ytapbhhehnbfdfaa
