/- Several texts of one proof, one behind the other. -/
import Derived.Test.YtapbhhehnbfdfaaWPk24
import Derived.WalkMore
set_option linter.unusedSimpArgs false
set_option linter.unusedVariables false

/- plan.clone. -/
set_option linter.unusedSimpArgs false
set_option linter.unusedVariables false
set_option maxRecDepth 100000
namespace Go.Proofs.Ytapbhhehnbfdfaa
open Go.RowKit

/-- A node in blocks of which p holds. -/
def NdIn (p : Nat → Prop) (w : World) (n : Nat) (x : NM) : Prop := RoseIn NLb.fair NLb.cells p w n x
theorem NdIn.imp {p q : Nat → Prop} (h : ∀ b, p b → q b) {w : World} {n : Nat} {x : NM} (hx : NdIn p w n x) : NdIn q w n x := RoseIn.imp h hx
theorem NdIn.keep {p : Nat → Prop} {w w' : World} (h : ∀ b, p b → w'.heap[b]? = w.heap[b]?) {n : Nat} {x : NM} (hx : NdIn p w n x) : NdIn p w' n x := RoseIn.keep h hx
theorem NdIn.at_ {N : Nat} {w : World} {n : Nat} {x : NM} (hx : NdIn (· < N) w n x) : NdAt N w n x := RoseIn.at_ hx

abbrev zeroNdc : Array Value := #[.int .i64 0, .string ⟨#[]⟩, .int .u8 0, .int .i64 0, .string ⟨#[]⟩, .int .i64 0, .int .u8 0, .slice none 0 0]
/-- The cells of a node, with another slice of arguments. -/
abbrev NLb.csN (l : NLb) (v : Value) : Array Value := #[.int .i64 l.kd, .string l.op, .int .u8 l.v.k, .int .i64 l.v.n, .string l.v.s, .int .i64 l.sl, .int .u8 (l.ty : Int), v]
/-- What a call hands back: a node in memory of its own. -/
def RetNd (w : World) (n : Nat) (t : Nx) (e : Ending) (w' : World) : Prop :=
  ∃ y : NM, e = .returned (.agg #[.int .i64 y.t.lab.kd, .string y.t.lab.op, .int .u8 y.t.lab.v.k, .int .i64 y.t.lab.v.n, .string y.t.lab.v.s, .int .i64 y.t.lab.sl, .int .u8 (y.t.lab.ty : Int), .slice y.a y.t.args.length y.cap]) ∧ y.t = t ∧ NdIn (fun b => w.heap.size ≤ b ∧ b < w'.heap.size) w' n y ∧ Below w.heap.size w w'

/-- 'clone' is at work: k arguments have been cloned in place. -/
structure PlIn (w W : World) (l : NLb) (v : Value) (n m k : Nat) (LC LO : List NM) : Prop where
  box : Blk W w.heap.size 26 (l.csN v)
  res : Blk W (w.heap.size + 1) 26 zeroNdc
  bel : Below w.heap.size w W
  lo : w.heap.size + 2 ≤ W.heap.size
  row : W.ownsRow (w.heap.size + 2) 26 8 v m (cellsNs LC ++ cellsNs (LO.drop k))
  kids : ∀ z ∈ LC, NdIn (fun b => w.heap.size + 2 ≤ b ∧ b < W.heap.size ∧ v.ownBlock ≠ some b) W n z
  list : LC.map (·.t) = (LO.take k).map (·.t)
theorem PlIn.len {w W : World} {l : NLb} {v : Value} {n m k : Nat} {LC LO : List NM} (h : PlIn w W l v n m k LC LO) (hk : k ≤ LO.length) : LC.length = k := by
  have := congrArg List.length h.list
  simpa [Nat.min_eq_left hk] using this
theorem cellsNs_cons (y : NM) (l : List NM) : cellsNs (y :: l) = cellsNd y ++ cellsNs l := by simp [cellsNs, cellsOf]
theorem cellsNs_snoc (l : List NM) (y : NM) : cellsNs (l ++ [y]) = cellsNs l ++ cellsNd y := cellsOf_snoc cellsNd l y

/-- One more argument is cloned and stored. -/
theorem PlIn.add {w W w2 W6 : World} {l : NLb} {v : Value} {n m k g : Nat} {LC LO : List NM} {z : NM} {R : Array Value} (h : PlIn w W l v n m k LC LO) (hk : k < LO.length) (hb : Below W.heap.size W w2)
    (hz : NdIn (fun b => W.heap.size ≤ b ∧ b < w2.heap.size) w2 n z) (hzt : z.t = LO[k].t) (hvg : v.ownBlock = some g) (hW6 : W6 = w2.setRow g R)
    (hr : W6.ownsRow (w.heap.size + 2) 26 8 v m (cellsNs LC ++ cellsNd z ++ cellsNs (LO.drop (k + 1)))) :
    PlIn w W6 l v n m (k + 1) (LC ++ [z]) LO := by
  have hs2 := hb.size
  have hlo := h.lo
  have hgl : g < W.heap.size := own_lt h.row hvg
  have hgb : w.heap.size + 2 ≤ g := (h.row.lt g hvg).1
  have hs6 : W6.heap.size = w2.heap.size := by rw [hW6]; simp
  have hold : ∀ b, b < W.heap.size → b ≠ g → W6.heap[b]? = W.heap[b]? := fun b h1 h2 => by rw [hW6]; exact (setRow_other _ g b _ h2).trans (hb.block b h1)
  have hchg : Chg [g] w2 W6 := by rw [hW6]; exact (Chg.refl _ _).setRow (.inl (by simp)) _
  have hbel : Below (w.heap.size + 2) W W6 := (hb.mono hlo).trans (hchg.below (by omega) (by simp; omega))
  refine ⟨(hold _ (by omega) (by omega)).trans h.box, (hold _ (by omega) (by omega)).trans h.res, h.bel.trans (hbel.mono (by omega)), by omega, ?_, fun q hq => ?_, ?_⟩
  · rw [cellsNs_snoc]; exact hr
  · rcases List.mem_append.1 hq with hq | hq
    · exact ((h.kids q hq).keep (fun b hb' => hold b hb'.2.1 (fun e => hb'.2.2 (by rw [hvg, e])))).imp fun b hb' => ⟨hb'.1, by omega, hb'.2.2⟩
    · rw [List.mem_singleton.1 hq]
      refine (hz.keep (w' := W6) (fun b hb' => by rw [hW6]; exact setRow_other _ g b _ (by omega))).imp fun b hb' => ⟨by omega, by omega, ?_⟩
      rw [hvg]; intro he; injection he with he; omega
  · rw [List.map_append, h.list, List.take_succ_eq_append_getElem hk, List.map_append]; simp [hzt]

theorem PlIn.tree {w W : World} {l : NLb} {v : Value} {n m : Nat} {LC LO : List NM} {args : List Nx} (h : PlIn w W l v n m m LC LO) (hm : LO.length = m) (hl : l.fair) (ha : LO.map (·.t) = args) :
    ∃ ac cc, v = .slice ac m cc ∧ NdIn (fun b => w.heap.size + 2 ≤ b ∧ b < W.heap.size) W (n + 1) ⟨.mk l args, ac, cc⟩ := by
  have hLC : LC.map (·.t) = args := by rw [h.list, ← hm, List.take_length]; exact ha
  have hrow := h.row
  rw [← hm, List.drop_length] at hrow
  have hnil : cellsNs [] = [] := rfl
  rw [hnil, List.append_nil, hm] at hrow
  have hal : args.length = m := by rw [← ha, List.length_map]; exact hm
  obtain ⟨h1, h2⟩ := hrow
  rcases h2 with ⟨rfl, hn⟩ | ⟨g, cap, cur, rfl, hg, hh, hnc, hcm, hcs, hcur⟩
  · subst hn
    refine ⟨none, 0, rfl, hl, by simp only [Rose.args]; omega, by simp, LC, hLC, .inl ?_, fun y hy => (h.kids y hy).imp fun b hb => ⟨hb.1, hb.2.1⟩⟩
    show cellsNs LC = []
    exact List.length_eq_zero_iff.1 (by simpa using h1)
  · have hglt : g < W.heap.size := (Array.getElem?_eq_some_iff.1 hh).1
    refine ⟨_, cap, rfl, hl, by simp only [Rose.args]; omega, by unfold maxLen at hcm; simp only; omega, LC, hLC, .inr ⟨g, 0, rfl, ⟨hg, hglt⟩, fun i u hi => ?_⟩, fun y hy => (h.kids y hy).imp fun b hb => ⟨hb.1, hb.2.1⟩⟩
    have e1 : (cur.toList.take (m * 8))[i]? = some u := by rw [hcur]; exact hi
    rw [List.getElem?_take] at e1
    split at e1
    · simp only [World.cell?, hh, Nat.zero_add]
      simpa using e1
    · simp at e1

theorem mem_le_sum : ∀ {l : List Nat} {k : Nat}, k ∈ l → k ≤ l.sum
  | [], _, h => by cases h
  | a :: r, k, h => by
    rcases List.mem_cons.1 h with rfl | h
    · simp
    · have := mem_le_sum h; simp only [List.sum_cons]; omega
end Go.Proofs.Ytapbhhehnbfdfaa

/- Package opcode: operations, and the walks of its functions. Written by wip/gen/gencp1.py. -/
set_option linter.unusedSimpArgs false
set_option linter.unusedVariables false
set_option maxRecDepth 100000
namespace Go.Proofs.Ytapbhhehnbfdfaa
open Go.RowKit

/-- What 'Of' tells. -/
structure Opn where
  kd : Int
  nm : ByteArray
  tk : Nat
  ok : Bool
  deriving DecidableEq
def noOp : Opn := ⟨0, ⟨#[]⟩, 0, false⟩
def unK : List Int := [3, 3, 5, 5, 7]
def unN : List (List UInt8) := [[45], [110, 111, 116], [105, 115, 32, 110, 117, 108, 108], [105, 115, 32, 110, 111, 116, 32, 110, 117, 108, 108], [108, 101, 110, 103, 116, 104]]
def biN : List (List UInt8) := [[111, 114], [97, 110, 100], [61], [60, 62], [60], [60, 61], [62], [62, 61], [108, 105, 107, 101], [124, 124], [43], [45], [42], [47], [37]]
def foN : List (List UInt8) := [[111, 118, 101, 114, 108, 97, 112, 115], [99, 111, 110, 116, 97, 105, 110, 115]]
def unV (a : Int) : Opn := if 0 ≤ a ∧ a < 5 then ⟨unK.getD a.toNat 0, bs (unN.getD a.toNat []), 1, true⟩ else noOp
def biV (a : Int) : Opn := if 0 ≤ a ∧ a < 15 then ⟨4, bs (biN.getD a.toNat []), 2, true⟩ else noOp
def foV (a : Int) : Opn := if 0 ≤ a ∧ a < 2 then ⟨7, bs (foN.getD a.toNat []), 4, true⟩ else noOp
def ofV (o a : Int) : Opn := if o = 3 then unV a else if o = 4 then biV a else if o = 5 then foV a else noOp
abbrev Opn.cs (x : Opn) : Array Value := #[.int .i64 x.kd, .string x.nm, .int .i64 (x.tk : Int)]
abbrev zeroOp : Array Value := #[.int .i64 0, .string ⟨#[]⟩, .int .i64 0]
theorem info_opS : (Try.prog.info? 66).map (·.size) = some 3 := by kernel_rfl
def RetOp (w : World) (x : Opn) (e : Ending) (w' : World) : Prop := Below w.heap.size w w' ∧ e = .returned (.tuple #[.agg #[.int .i64 x.kd, .string x.nm, .int .i64 (x.tk : Int)], .bool x.ok])
/-- The end: what an operation is, is stored into the result's block (at w.heap.size) and loaded. -/
theorem op_end {w w2 : World} (x : Opn) (hr : Blk w2 w.heap.size 66 zeroOp) (hb : Below w.heap.size w w2) :
    (storeVar 66 ⟨w.heap.size, 0, none⟩ (.agg #[.int .i64 x.kd, .string x.nm, .int .i64 (x.tk : Int)])).run Try.prog w2 = .ok () (w2.setRow w.heap.size x.cs) ∧
    (loadVar 66 ⟨w.heap.size, 0, none⟩).run Try.prog (w2.setRow w.heap.size x.cs) = .ok (.agg #[.int .i64 x.kd, .string x.nm, .int .i64 (x.tk : Int)]) (w2.setRow w.heap.size x.cs) ∧
    Chg [w.heap.size] w2 (w2.setRow w.heap.size x.cs) ∧ RetOp w x (.returned (.tuple #[.agg #[.int .i64 x.kd, .string x.nm, .int .i64 (x.tk : Int)], .bool x.ok])) (w2.setRow w.heap.size x.cs) := by
  have hc : Chg [w.heap.size] w2 (w2.setRow w.heap.size x.cs) := (Chg.refl _ _).setRow (.inl (by simp)) _
  exact ⟨run_storeVar_row _ _ _ 66 _ _ hr (by rw [info_opS]; rfl) rfl (by simp [Value.oneCell']), run_loadVar_row _ _ _ 66 _ (0, 0) _ (Blk.setRow (new := x.cs) hr) Try.underlying66 rfl (by rw [info_opS]; rfl), hc, hb.trans (hc.below hb.size (by simp)), rfl⟩
set_option maxHeartbeats 4000000 in
theorem binary_any (a : Int) (w : World) : Calls Try.prog 38 #[.int .i64 a] w (RetOp w (biV a)) := by
  obtain ⟨w0, hw0⟩ : ∃ w0, (w.alloc (.cells zeroOp 66)).alloc (.cells #[.string ⟨#[111, 114]⟩, .string ⟨#[97, 110, 100]⟩, .string ⟨#[61]⟩, .string ⟨#[60, 62]⟩, .string ⟨#[60]⟩, .string ⟨#[60, 61]⟩, .string ⟨#[62]⟩, .string ⟨#[62, 61]⟩, .string ⟨#[108, 105, 107, 101]⟩, .string ⟨#[124, 124]⟩, .string ⟨#[43]⟩, .string ⟨#[45]⟩, .string ⟨#[42]⟩, .string ⟨#[47]⟩, .string ⟨#[37]⟩] 94) = w0 := ⟨_, rfl⟩
  have hr : Blk w0 w.heap.size 66 zeroOp := by rw [← hw0]; exact (Blk.new w _ _).alloc _
  have hn : Blk w0 (w.heap.size + 1) 94 #[.string ⟨#[111, 114]⟩, .string ⟨#[97, 110, 100]⟩, .string ⟨#[61]⟩, .string ⟨#[60, 62]⟩, .string ⟨#[60]⟩, .string ⟨#[60, 61]⟩, .string ⟨#[62]⟩, .string ⟨#[62, 61]⟩, .string ⟨#[108, 105, 107, 101]⟩, .string ⟨#[124, 124]⟩, .string ⟨#[43]⟩, .string ⟨#[45]⟩, .string ⟨#[42]⟩, .string ⟨#[47]⟩, .string ⟨#[37]⟩] := by
    rw [← hw0]
    have := Blk.new (w.alloc (.cells zeroOp 66)) 94 #[.string ⟨#[111, 114]⟩, .string ⟨#[97, 110, 100]⟩, .string ⟨#[61]⟩, .string ⟨#[60, 62]⟩, .string ⟨#[60]⟩, .string ⟨#[60, 61]⟩, .string ⟨#[62]⟩, .string ⟨#[62, 61]⟩, .string ⟨#[108, 105, 107, 101]⟩, .string ⟨#[124, 124]⟩, .string ⟨#[43]⟩, .string ⟨#[45]⟩, .string ⟨#[42]⟩, .string ⟨#[47]⟩, .string ⟨#[37]⟩]
    rw [show (w.alloc (.cells zeroOp 66)).heap.size = w.heap.size + 1 by simp] at this
    exact this
  have hb : Below w.heap.size w w0 := by rw [← hw0]; exact ((Below.refl _ w).alloc (Nat.le_refl _) _).alloc (by simp) _
  by_cases ha : 0 ≤ a ∧ a < 15
  · have hv : biV a = ⟨4, bs (biN.getD a.toNat []), 2, true⟩ := by unfold biV; rw [if_pos ha]
    rw [hv]
    obtain ⟨k, rfl⟩ : ∃ k : Nat, a = (k : Int) := ⟨a.toNat, by omega⟩
    rw [Int.toNat_natCast]
    have hk15 : k < 15 := by omega
    have y0 : w0.cell? ⟨w.heap.size + 1, k, none⟩ = some (.string (bs (biN.getD k []))) := by
      refine (hn.cell k).trans ?_
      rcases (show k = 0 ∨ k = 1 ∨ k = 2 ∨ k = 3 ∨ k = 4 ∨ k = 5 ∨ k = 6 ∨ k = 7 ∨ k = 8 ∨ k = 9 ∨ k = 10 ∨ k = 11 ∨ k = 12 ∨ k = 13 ∨ k = 14 by omega) with rfl | rfl | rfl | rfl | rfl | rfl | rfl | rfl | rfl | rfl | rfl | rfl | rfl | rfl | rfl <;> rfl
    generalize bs (biN.getD k []) = nm at *
    obtain ⟨h1, h2, hc, h3⟩ := op_end (w := w) (w2 := w0) ⟨4, nm, 2, true⟩ hr hb
    have HS := Lib.hid h1
    have HL := Lib.hid h2
    have HC := Lib.hid hc
    have HE := Lib.hid h3
    have q0 : (0 : Int) ≤ (k : Int) := by omega
    have q1 : decide ((k : Int) < 0) = false := by simp
    have q2 : decide ((15 : Int) ≤ (k : Int)) = false := by simp; omega
    clear h1 h2 hc h3 hr hn hb hv ha
    go_enter Try.func38, Try.ntmps38
    go_wp2_with (first | (guard_target =~ wpList _ _ _ (Oper.mk _ (Op.store 66 _ _) _ _ _ _ :: _) _ _; refine wpList_skp rfl (exec_store rfl rfl rfl HS.out) ?_))
    exact bodyPost_ret (results_cell_tmp Try.results38 _ _ rfl rfl HL.out) rfl HE.out
  · have hv : biV a = noOp := by unfold biV; rw [if_neg ha]
    rw [hv]
    obtain ⟨h1, h2, hc, h3⟩ := op_end (w := w) (w2 := w0) noOp hr hb
    have HS := Lib.hid h1
    have HL := Lib.hid h2
    have HE := Lib.hid h3
    have hcase : decide (a < 0) = true ∨ (decide (a < 0) = false ∧ decide ((15 : Int) ≤ a) = true) := by
      by_cases h : a < 0
      · left; simpa using h
      · right; exact ⟨by simpa using h, by simp; omega⟩
    clear h1 h2 hc h3 hr hn hb hv ha
    rcases hcase with q1 | ⟨q1, q2⟩
    all_goals
      go_enter Try.func38, Try.ntmps38
      go_wp2_with (first | (guard_target =~ wpList _ _ _ (Oper.mk _ (Op.store 66 _ _) _ _ _ _ :: _) _ _; refine wpList_skp rfl (exec_store rfl rfl rfl HS.out) ?_))
      exact bodyPost_ret (results_cell_tmp Try.results38 _ _ rfl rfl HL.out) rfl HE.out

set_option maxHeartbeats 4000000 in
theorem four_any (a : Int) (w : World) : Calls Try.prog 39 #[.int .i64 a] w (RetOp w (foV a)) := by
  obtain ⟨w0, hw0⟩ : ∃ w0, (w.alloc (.cells zeroOp 66)).alloc (.cells #[.string ⟨#[111, 118, 101, 114, 108, 97, 112, 115]⟩, .string ⟨#[99, 111, 110, 116, 97, 105, 110, 115]⟩] 95) = w0 := ⟨_, rfl⟩
  have hr : Blk w0 w.heap.size 66 zeroOp := by rw [← hw0]; exact (Blk.new w _ _).alloc _
  have hn : Blk w0 (w.heap.size + 1) 95 #[.string ⟨#[111, 118, 101, 114, 108, 97, 112, 115]⟩, .string ⟨#[99, 111, 110, 116, 97, 105, 110, 115]⟩] := by
    rw [← hw0]
    have := Blk.new (w.alloc (.cells zeroOp 66)) 95 #[.string ⟨#[111, 118, 101, 114, 108, 97, 112, 115]⟩, .string ⟨#[99, 111, 110, 116, 97, 105, 110, 115]⟩]
    rw [show (w.alloc (.cells zeroOp 66)).heap.size = w.heap.size + 1 by simp] at this
    exact this
  have hb : Below w.heap.size w w0 := by rw [← hw0]; exact ((Below.refl _ w).alloc (Nat.le_refl _) _).alloc (by simp) _
  by_cases ha : 0 ≤ a ∧ a < 2
  · have hv : foV a = ⟨7, bs (foN.getD a.toNat []), 4, true⟩ := by unfold foV; rw [if_pos ha]
    rw [hv]
    obtain ⟨k, rfl⟩ : ∃ k : Nat, a = (k : Int) := ⟨a.toNat, by omega⟩
    rw [Int.toNat_natCast]
    have hk2 : k < 2 := by omega
    have y0 : w0.cell? ⟨w.heap.size + 1, k, none⟩ = some (.string (bs (foN.getD k []))) := by
      refine (hn.cell k).trans ?_
      rcases (show k = 0 ∨ k = 1 by omega) with rfl | rfl <;> rfl
    generalize bs (foN.getD k []) = nm at *
    obtain ⟨h1, h2, hc, h3⟩ := op_end (w := w) (w2 := w0) ⟨7, nm, 4, true⟩ hr hb
    have HS := Lib.hid h1
    have HL := Lib.hid h2
    have HC := Lib.hid hc
    have HE := Lib.hid h3
    have q0 : (0 : Int) ≤ (k : Int) := by omega
    have q1 : decide ((k : Int) < 0) = false := by simp
    have q2 : decide ((2 : Int) ≤ (k : Int)) = false := by simp; omega
    clear h1 h2 hc h3 hr hn hb hv ha
    go_enter Try.func39, Try.ntmps39
    go_wp2_with (first | (guard_target =~ wpList _ _ _ (Oper.mk _ (Op.store 66 _ _) _ _ _ _ :: _) _ _; refine wpList_skp rfl (exec_store rfl rfl rfl HS.out) ?_))
    exact bodyPost_ret (results_cell_tmp Try.results39 _ _ rfl rfl HL.out) rfl HE.out
  · have hv : foV a = noOp := by unfold foV; rw [if_neg ha]
    rw [hv]
    obtain ⟨h1, h2, hc, h3⟩ := op_end (w := w) (w2 := w0) noOp hr hb
    have HS := Lib.hid h1
    have HL := Lib.hid h2
    have HE := Lib.hid h3
    have hcase : decide (a < 0) = true ∨ (decide (a < 0) = false ∧ decide ((2 : Int) ≤ a) = true) := by
      by_cases h : a < 0
      · left; simpa using h
      · right; exact ⟨by simpa using h, by simp; omega⟩
    clear h1 h2 hc h3 hr hn hb hv ha
    rcases hcase with q1 | ⟨q1, q2⟩
    all_goals
      go_enter Try.func39, Try.ntmps39
      go_wp2_with (first | (guard_target =~ wpList _ _ _ (Oper.mk _ (Op.store 66 _ _) _ _ _ _ :: _) _ _; refine wpList_skp rfl (exec_store rfl rfl rfl HS.out) ?_))
      exact bodyPost_ret (results_cell_tmp Try.results39 _ _ rfl rfl HL.out) rfl HE.out

set_option maxHeartbeats 4000000 in
theorem unary_any (a : Int) (w : World) : Calls Try.prog 37 #[.int .i64 a] w (RetOp w (unV a)) := by
  obtain ⟨w0, hw0⟩ : ∃ w0, ((w.alloc (.cells zeroOp 66)).alloc (.cells #[.int .i64 3, .int .i64 3, .int .i64 5, .int .i64 5, .int .i64 7] 92)).alloc (.cells #[.string ⟨#[45]⟩, .string ⟨#[110, 111, 116]⟩, .string ⟨#[105, 115, 32, 110, 117, 108, 108]⟩, .string ⟨#[105, 115, 32, 110, 111, 116, 32, 110, 117, 108, 108]⟩, .string ⟨#[108, 101, 110, 103, 116, 104]⟩] 93) = w0 := ⟨_, rfl⟩
  have hr : Blk w0 w.heap.size 66 zeroOp := by rw [← hw0]; exact ((Blk.new w _ _).alloc _).alloc _
  have hk : Blk w0 (w.heap.size + 1) 92 #[.int .i64 3, .int .i64 3, .int .i64 5, .int .i64 5, .int .i64 7] := by
    rw [← hw0]
    have := (Blk.new (w.alloc (.cells zeroOp 66)) 92 #[.int .i64 3, .int .i64 3, .int .i64 5, .int .i64 5, .int .i64 7]).alloc (.cells #[.string ⟨#[45]⟩, .string ⟨#[110, 111, 116]⟩, .string ⟨#[105, 115, 32, 110, 117, 108, 108]⟩, .string ⟨#[105, 115, 32, 110, 111, 116, 32, 110, 117, 108, 108]⟩, .string ⟨#[108, 101, 110, 103, 116, 104]⟩] 93)
    rw [show (w.alloc (.cells zeroOp 66)).heap.size = w.heap.size + 1 by simp] at this
    exact this
  have hn : Blk w0 (w.heap.size + 1 + 1) 93 #[.string ⟨#[45]⟩, .string ⟨#[110, 111, 116]⟩, .string ⟨#[105, 115, 32, 110, 117, 108, 108]⟩, .string ⟨#[105, 115, 32, 110, 111, 116, 32, 110, 117, 108, 108]⟩, .string ⟨#[108, 101, 110, 103, 116, 104]⟩] := by
    rw [← hw0]
    have := Blk.new ((w.alloc (.cells zeroOp 66)).alloc (.cells #[.int .i64 3, .int .i64 3, .int .i64 5, .int .i64 5, .int .i64 7] 92)) 93 #[.string ⟨#[45]⟩, .string ⟨#[110, 111, 116]⟩, .string ⟨#[105, 115, 32, 110, 117, 108, 108]⟩, .string ⟨#[105, 115, 32, 110, 111, 116, 32, 110, 117, 108, 108]⟩, .string ⟨#[108, 101, 110, 103, 116, 104]⟩]
    rw [show ((w.alloc (.cells zeroOp 66)).alloc (.cells #[.int .i64 3, .int .i64 3, .int .i64 5, .int .i64 5, .int .i64 7] 92)).heap.size = w.heap.size + 1 + 1 by simp] at this
    exact this
  have hb : Below w.heap.size w w0 := by rw [← hw0]; exact (((Below.refl _ w).alloc (Nat.le_refl _) _).alloc (by simp) _).alloc (by simp; omega) _
  by_cases ha : 0 ≤ a ∧ a < 5
  · have hv : unV a = ⟨unK.getD a.toNat 0, bs (unN.getD a.toNat []), 1, true⟩ := by unfold unV; rw [if_pos ha]
    rw [hv]
    obtain ⟨k, rfl⟩ : ∃ k : Nat, a = (k : Int) := ⟨a.toNat, by omega⟩
    rw [Int.toNat_natCast]
    have hk5 : k < 5 := by omega
    have y0 : w0.cell? ⟨w.heap.size + 1 + 1, k, none⟩ = some (.string (bs (unN.getD k []))) := by
      refine (hn.cell k).trans ?_
      rcases (show k = 0 ∨ k = 1 ∨ k = 2 ∨ k = 3 ∨ k = 4 by omega) with rfl | rfl | rfl | rfl | rfl <;> rfl
    have y1 : w0.cell? ⟨w.heap.size + 1, k, none⟩ = some (.int .i64 (unK.getD k 0)) := by
      refine (hk.cell k).trans ?_
      rcases (show k = 0 ∨ k = 1 ∨ k = 2 ∨ k = 3 ∨ k = 4 by omega) with rfl | rfl | rfl | rfl | rfl <;> rfl
    generalize bs (unN.getD k []) = nm at *
    generalize unK.getD k 0 = kd at *
    obtain ⟨h1, h2, hc, h3⟩ := op_end (w := w) (w2 := w0.drew) ⟨kd, nm, 1, true⟩ hr hb.drew
    have HS := Lib.hid h1
    have HL := Lib.hid h2
    have HC := Lib.hid hc
    have HE := Lib.hid h3
    have l0 : ∀ W, Chg [w.heap.size] w0.drew W → W.cell? ⟨w.heap.size + 1 + 1, k, none⟩ = some (.string nm) := fun W hW => (hW.cell (b := w.heap.size + 1 + 1) hn.lt (by simp; omega)).trans y0
    have l1 : ∀ W, Chg [w.heap.size] w0.drew W → W.cell? ⟨w.heap.size + 1, k, none⟩ = some (.int .i64 kd) := fun W hW => (hW.cell (b := w.heap.size + 1) hk.lt (by simp)).trans y1
    have q0 : (0 : Int) ≤ (k : Int) := by omega
    have q1 : decide ((k : Int) < 0) = false := by simp
    have q2 : decide ((5 : Int) ≤ (k : Int)) = false := by simp; omega
    clear h1 h2 hc h3 hr hk hn hb hv ha y0 y1
    go_enter Try.func37, Try.ntmps37
    go_upto_region 5 with fail
    try rw [hw0]
    refine wp_region_ordS [w.heap.size] [(0, true), (1, true), (2, true), (3, true), (4, true), (5, true), (6, true), (7, false), (8, true)] (by kernel_rfl) (by kernel_rfl) (by kernel_rfl) (by kernel_rfl) ?_
    repeat (first | (refine wpO_F (v := ?_) rfl (by rfl) (fun w' hL => ?_) ?_; rotate_left; (solve | (go_simp; with_reducible rfl) | go_simp); try simp only [Act.put, List.setIfInBounds_toArray, List.set_cons_zero, List.set_cons_succ]) | (refine wpO_G' (Chg.refl _) rfl (by rfl) ?_; try simp only [Act.put, List.setIfInBounds_toArray, List.set_cons_zero, List.set_cons_succ]))
    refine wpO_F (v := .pointer (some ⟨w.heap.size + 1, k, none⟩)) rfl (by rfl) (fun w' hL => by first | (go_simp; done) | (go_simp; intro h; exfalso; omega)) ?_
    try simp only [Act.put, List.setIfInBounds_toArray, List.set_cons_zero, List.set_cons_succ]
    repeat (first | (refine wpO_F (v := ?_) rfl (by rfl) (fun w' hL => ?_) ?_; rotate_left; (solve | (go_simp; with_reducible rfl) | go_simp); try simp only [Act.put, List.setIfInBounds_toArray, List.set_cons_zero, List.set_cons_succ]) | (refine wpO_G' (Chg.refl _) rfl (by rfl) ?_; try simp only [Act.put, List.setIfInBounds_toArray, List.set_cons_zero, List.set_cons_succ]))
    refine wpO_F (v := .pointer (some ⟨w.heap.size + 1 + 1, k, none⟩)) rfl (by rfl) (fun w' hL => by first | (go_simp; done) | (go_simp; intro h; exfalso; omega)) ?_
    try simp only [Act.put, List.setIfInBounds_toArray, List.set_cons_zero, List.set_cons_succ]
    repeat (first | (refine wpO_F (v := ?_) rfl (by rfl) (fun w' hL => ?_) ?_; rotate_left; (solve | (go_simp; with_reducible rfl) | go_simp); try simp only [Act.put, List.setIfInBounds_toArray, List.set_cons_zero, List.set_cons_succ]) | (refine wpO_G' (Chg.refl _) rfl (by rfl) ?_; try simp only [Act.put, List.setIfInBounds_toArray, List.set_cons_zero, List.set_cons_succ]))
    refine wpO_C rfl (by rfl) ?_
    refine wp_skp (exec_store rfl rfl rfl HS.out) ?_
    refine ⟨HC.out, ?_⟩
    try simp only [Act.put, List.setIfInBounds_toArray, List.set_cons_zero, List.set_cons_succ]
    repeat (first | (refine wpO_F (v := ?_) rfl (by rfl) (fun w' hL => ?_) ?_; rotate_left; (solve | (go_simp; with_reducible rfl) | go_simp); try simp only [Act.put, List.setIfInBounds_toArray, List.set_cons_zero, List.set_cons_succ]) | (refine wpO_G' (Chg.refl _) rfl (by rfl) ?_; try simp only [Act.put, List.setIfInBounds_toArray, List.set_cons_zero, List.set_cons_succ]))
    refine wpO_nil ?_
    try go_wp2
    exact bodyPost_ret (results_cell_tmp Try.results37 _ _ rfl rfl HL.out) rfl HE.out
  · have hv : unV a = noOp := by unfold unV; rw [if_neg ha]
    rw [hv]
    obtain ⟨h1, h2, hc, h3⟩ := op_end (w := w) (w2 := w0) noOp hr hb
    have HS := Lib.hid h1
    have HL := Lib.hid h2
    have HE := Lib.hid h3
    have hcase : decide (a < 0) = true ∨ (decide (a < 0) = false ∧ decide ((5 : Int) ≤ a) = true) := by
      by_cases h : a < 0
      · left; simpa using h
      · right; exact ⟨by simpa using h, by simp; omega⟩
    clear h1 h2 hc h3 hr hn hb hv ha
    rcases hcase with q1 | ⟨q1, q2⟩
    all_goals
      go_enter Try.func37, Try.ntmps37
      go_wp2_with (first | (guard_target =~ wpList _ _ _ (Oper.mk _ (Op.store 66 _ _) _ _ _ _ :: _) _ _; refine wpList_skp rfl (exec_store rfl rfl rfl HS.out) ?_))
      exact bodyPost_ret (results_cell_tmp Try.results37 _ _ rfl rfl HL.out) rfl HE.out

set_option maxHeartbeats 4000000 in
theorem opOf_any (o a : Int) (w : World) : Calls Try.prog 28 #[.int .i64 o, .int .i64 a] w (RetOp w (ofV o a)) := by
  have HU := Lib.hid (fun W => unary_any a W)
  have HB := Lib.hid (fun W => binary_any a W)
  have HF := Lib.hid (fun W => four_any a W)
  obtain ⟨w0, hw0⟩ : ∃ w0, w.alloc (.cells zeroOp 66) = w0 := ⟨_, rfl⟩
  have hr : Blk w0 w.heap.size 66 zeroOp := by rw [← hw0]; exact Blk.new w _ _
  have hb : Below w.heap.size w w0 := by rw [← hw0]; exact (Below.refl _ w).alloc (Nat.le_refl _) _
  have HE := Lib.hid (fun (W : World) (x : Opn) (h : Below w0.heap.size w0 W) => op_end (w := w) (w2 := W) x ((h.block _ hr.lt).trans hr) (hb.trans (h.mono hb.size)))
  clear hr hb
  by_cases k3 : o = 3
  · have hv : ofV o a = unV a := by unfold ofV; simp [k3]
    rw [hv]
    generalize unV a = x at *
    subst k3
    clear hv
    go_enter Try.func28, Try.ntmps28
    go_wp2_with fail
    refine (HU.out _).mono ?_
    rintro e w1 ⟨hb1, rfl⟩
    obtain ⟨h1, h2, -, h3⟩ := HE.out w1 x hb1
    have HS := Lib.hid h1
    have HL := Lib.hid h2
    have HE2 := Lib.hid h3
    clear h1 h2 h3 hb1 HE
    go_wp2_with (first | (guard_target =~ wpList _ _ _ (Oper.mk _ (Op.store 66 _ _) _ _ _ _ :: _) _ _; refine wpList_skp rfl (exec_store rfl rfl rfl HS.out) ?_))
    exact bodyPost_ret (results_cell_tmp Try.results28 _ _ rfl rfl HL.out) rfl HE2.out
  by_cases k4 : o = 4
  · have hv : ofV o a = biV a := by unfold ofV; simp [k4]
    rw [hv]
    generalize biV a = x at *
    subst k4
    clear hv
    go_enter Try.func28, Try.ntmps28
    go_wp2_with fail
    refine (HB.out _).mono ?_
    rintro e w1 ⟨hb1, rfl⟩
    obtain ⟨h1, h2, -, h3⟩ := HE.out w1 x hb1
    have HS := Lib.hid h1
    have HL := Lib.hid h2
    have HE2 := Lib.hid h3
    clear h1 h2 h3 hb1 HE
    go_wp2_with (first | (guard_target =~ wpList _ _ _ (Oper.mk _ (Op.store 66 _ _) _ _ _ _ :: _) _ _; refine wpList_skp rfl (exec_store rfl rfl rfl HS.out) ?_))
    exact bodyPost_ret (results_cell_tmp Try.results28 _ _ rfl rfl HL.out) rfl HE2.out
  by_cases k5 : o = 5
  · have hv : ofV o a = foV a := by unfold ofV; simp [k5]
    rw [hv]
    generalize foV a = x at *
    subst k5
    clear hv
    go_enter Try.func28, Try.ntmps28
    go_wp2_with fail
    refine (HF.out _).mono ?_
    rintro e w1 ⟨hb1, rfl⟩
    obtain ⟨h1, h2, -, h3⟩ := HE.out w1 x hb1
    have HS := Lib.hid h1
    have HL := Lib.hid h2
    have HE2 := Lib.hid h3
    clear h1 h2 h3 hb1 HE
    go_wp2_with (first | (guard_target =~ wpList _ _ _ (Oper.mk _ (Op.store 66 _ _) _ _ _ _ :: _) _ _; refine wpList_skp rfl (exec_store rfl rfl rfl HS.out) ?_))
    exact bodyPost_ret (results_cell_tmp Try.results28 _ _ rfl rfl HL.out) rfl HE2.out
  have hv : ofV o a = noOp := by unfold ofV; simp [k3, k4, k5]
  rw [hv]
  obtain ⟨h1, h2, -, h3⟩ := HE.out w0 noOp (Below.refl _ _)
  have HS := Lib.hid h1
  have HL := Lib.hid h2
  have HE2 := Lib.hid h3
  have q3 : (o == 3) = false := by simpa using k3
  have q4 : (o == 4) = false := by simpa using k4
  have q5 : (o == 5) = false := by simpa using k5
  clear h1 h2 h3 HE hv
  go_enter Try.func28, Try.ntmps28
  go_wp2_with (first | (guard_target =~ wpList _ _ _ (Oper.mk _ (Op.store 66 _ _) _ _ _ _ :: _) _ _; refine wpList_skp rfl (exec_store rfl rfl rfl HS.out) ?_))
  exact bodyPost_ret (results_cell_tmp Try.results28 _ _ rfl rfl HL.out) rfl HE2.out
end Go.Proofs.Ytapbhhehnbfdfaa

/- Package code: takes, high, Right. -/
set_option linter.unusedSimpArgs false
set_option linter.unusedVariables false
set_option maxRecDepth 100000
namespace Go.Proofs.Ytapbhhehnbfdfaa
open Go.RowKit

/-- An instruction. -/
structure Ins where
  op : Int
  ag : Int
  deriving DecidableEq
abbrev Ins.v (x : Ins) : Value := .agg #[.int .i64 x.op, .int .i64 x.ag]
def insC (x : Ins) : List Value := [.int .i64 x.op, .int .i64 x.ag]
theorem insC_len (x : Ins) : (insC x).length = 2 := rfl
def cellsIn (l : List Ins) : List Value := cellsOf insC l
def valC (x : Vl) : List Value := [.int .u8 (x.k : Int), .int .i64 x.n, .string x.s]
theorem valC_len (x : Vl) : (valC x).length = 3 := rfl
def cellsVl (l : List Vl) : List Value := cellsOf valC l
/-- How many values an instruction pops, and whether there is it. -/
def takesV (x : Ins) (n : Nat) : Nat × Bool :=
  if x.op = 1 then (0, decide (0 ≤ x.ag) && decide (x.ag < (n : Int)))
  else if x.op = 2 then (0, decide (0 ≤ x.ag) && decide (x.ag ≤ 999))
  else ((ofV x.op x.ag).tk, (ofV x.op x.ag).ok)

set_option maxHeartbeats 4000000 in
theorem takes_any (x : Ins) (n : Nat) (w : World) (hn : n ≤ 1000000) :
    Calls Try.prog 46 #[.agg #[.int .i64 x.op, .int .i64 x.ag], .int .i64 (n : Int)] w fun e w' => e = .returned (.tuple #[.int .i64 ((takesV x n).1 : Int), .bool (takesV x n).2]) ∧ Below w.heap.size w w' := by
  obtain ⟨o, a⟩ := x
  simp only
  obtain ⟨w0, hw0⟩ : ∃ w0, w.alloc (.cells #[.int .i64 o, .int .i64 a] 63) = w0 := ⟨_, rfl⟩
  have hB : Blk w0 w.heap.size 63 #[.int .i64 o, .int .i64 a] := by rw [← hw0]; exact Blk.new w _ _
  have HB0 : Hid (Below w.heap.size w w0) := by rw [← hw0]; exact (Below.refl _ w).alloc (Nat.le_refl _) _
  have HBl := Lib.hid hB
  have hs0 : w0.heap.size = w.heap.size + 1 := by rw [← hw0]; simp
  have HS0 := Lib.hid hs0
  have c0 := (hB.cell 0).trans rfl
  have c1 := (hB.cell 1).trans rfl
  have l1 : ∀ W, Later w0.drew W → W.cell? ⟨w.heap.size, 1, none⟩ = some (.int .i64 a) := fun W hW => (hW.cell (p := ⟨w.heap.size, 1, none⟩) (by show w.heap.size < w0.heap.size; omega)).trans c1
  clear hB hs0
  by_cases k1 : o = 1
  · obtain ⟨r, hr⟩ : ∃ r, takesV ⟨o, a⟩ n = r := ⟨_, rfl⟩
    have hv : r = (0, decide (0 ≤ a) && decide (a < (n : Int))) := by rw [← hr]; unfold takesV; simp [k1]
    rw [hr, hv]
    subst k1
    obtain ⟨b, hb⟩ : ∃ b, decide ((0 : Int) ≤ a) = b := ⟨_, rfl⟩
    rw [hb]
    clear hr hv r
    go_enter Try.func46, Try.ntmps46
    cases b with
    | false =>
      have q0 : ¬ (0 ≤ a) := by simpa using hb
      go_upto_region 3 with fail
      refine wp_region_ord [(0, true), (1, true), (2, true), (3, true), (4, true), (5, true), (6, true), (7, true), (8, true), (9, true), (10, true)] (by kernel_rfl) (by kernel_rfl) (by kernel_rfl) (by kernel_rfl) ?_
      repeat (first | (refine wpO_F (v := ?_) rfl (by rfl) (fun w' hL => ?_) ?_; rotate_left; (solve | (go_simp; with_reducible rfl) | go_simp); try simp only [Act.put, List.setIfInBounds_toArray, List.set_cons_zero, List.set_cons_succ]) | (refine wpO_G rfl (by rfl) ?_; try simp only [Act.put, List.setIfInBounds_toArray, List.set_cons_zero, List.set_cons_succ]))
      refine wpO_nil ?_
      try go_wp2
      go_ret2
      exact ⟨by first | rfl | simp, HB0.out.drew⟩
    | true =>
      have q0 : 0 ≤ a := by simpa using hb
      go_upto_region 3 with fail
      refine wp_region_ord [(0, true), (1, true), (2, true), (3, true), (4, true), (5, true), (6, true), (7, true), (8, true), (9, true), (10, true)] (by kernel_rfl) (by kernel_rfl) (by kernel_rfl) (by kernel_rfl) ?_
      repeat (first | (refine wpO_F (v := ?_) rfl (by rfl) (fun w' hL => ?_) ?_; rotate_left; (solve | (go_simp; with_reducible rfl) | go_simp); try simp only [Act.put, List.setIfInBounds_toArray, List.set_cons_zero, List.set_cons_succ]) | (refine wpO_G rfl (by rfl) ?_; try simp only [Act.put, List.setIfInBounds_toArray, List.set_cons_zero, List.set_cons_succ]))
      refine wpO_nil ?_
      try go_wp2
      go_ret2
      exact ⟨by first | rfl | simp, HB0.out.drew⟩
  by_cases k2 : o = 2
  · obtain ⟨r, hr⟩ : ∃ r, takesV ⟨o, a⟩ n = r := ⟨_, rfl⟩
    have hv : r = (0, decide (0 ≤ a) && decide (a ≤ 999)) := by rw [← hr]; unfold takesV; simp [k2]
    rw [hr, hv]
    subst k2
    obtain ⟨b, hb⟩ : ∃ b, decide ((0 : Int) ≤ a) = b := ⟨_, rfl⟩
    rw [hb]
    clear hr hv r
    go_enter Try.func46, Try.ntmps46
    cases b with
    | false =>
      have q0 : ¬ (0 ≤ a) := by simpa using hb
      go_upto_region 5 with fail
      refine wp_region_ord [(0, true), (1, true), (2, true), (3, true), (4, true), (5, true), (6, true), (7, true), (8, true), (9, true)] (by kernel_rfl) (by kernel_rfl) (by kernel_rfl) (by kernel_rfl) ?_
      repeat (first | (refine wpO_F (v := ?_) rfl (by rfl) (fun w' hL => ?_) ?_; rotate_left; (solve | (go_simp; with_reducible rfl) | go_simp); try simp only [Act.put, List.setIfInBounds_toArray, List.set_cons_zero, List.set_cons_succ]) | (refine wpO_G rfl (by rfl) ?_; try simp only [Act.put, List.setIfInBounds_toArray, List.set_cons_zero, List.set_cons_succ]))
      refine wpO_nil ?_
      try go_wp2
      go_ret2
      exact ⟨by first | rfl | simp, HB0.out.drew⟩
    | true =>
      have q0 : 0 ≤ a := by simpa using hb
      go_upto_region 5 with fail
      refine wp_region_ord [(0, true), (1, true), (2, true), (3, true), (4, true), (5, true), (6, true), (7, true), (8, true), (9, true)] (by kernel_rfl) (by kernel_rfl) (by kernel_rfl) (by kernel_rfl) ?_
      repeat (first | (refine wpO_F (v := ?_) rfl (by rfl) (fun w' hL => ?_) ?_; rotate_left; (solve | (go_simp; with_reducible rfl) | go_simp); try simp only [Act.put, List.setIfInBounds_toArray, List.set_cons_zero, List.set_cons_succ]) | (refine wpO_G rfl (by rfl) ?_; try simp only [Act.put, List.setIfInBounds_toArray, List.set_cons_zero, List.set_cons_succ]))
      refine wpO_nil ?_
      try go_wp2
      go_ret2
      exact ⟨by first | rfl | simp, HB0.out.drew⟩
  · have hv : takesV ⟨o, a⟩ n = ((ofV o a).tk, (ofV o a).ok) := by unfold takesV; simp [k1, k2]
    rw [hv]
    have q1 : (o == 1) = false := by simpa using k1
    have q2 : (o == 2) = false := by simpa using k2
    have HO := Lib.hid (opOf_any o a w0)
    generalize ofV o a = x at *
    clear hv k1 k2 l1
    go_enter Try.func46, Try.ntmps46
    go_wp2_with fail
    refine HO.out.mono ?_
    rintro e w1 ⟨hb1, rfl⟩
    have HB1 := Lib.hid (HB0.out.trans (hb1.mono HB0.out.size))
    clear hb1 HO c0 c1
    go_wp2
    go_ret2
    exact ⟨rfl, HB1.out.alloc HB1.out.size _⟩

theorem highDo_any (x : Vl) (W : World) :
    Calls Try.prog 44 #[.agg #[.int .u8 (x.k : Int), .int .i64 x.n, .string x.s]] W fun e w' => e = .returned (.bool (!Vl.right x)) ∧ Below W.heap.size W w' := by
  have HR := Lib.hid (fun V => right_any x.k x.n x.s V)
  have HX : Hid (∀ o, Below W.heap.size W (W.alloc o)) := fun o => (Below.refl _ W).alloc (Nat.le_refl _) _
  have hbx := box_later W 23 (.int .u8 (x.k : Int)) (.int .i64 x.n) (.string x.s) _ (Below.refl _ _)
  obtain ⟨w0, hw0⟩ : ∃ w0, W.alloc (.cells #[.int .u8 (x.k : Int), .int .i64 x.n, .string x.s] 23) = w0 := ⟨_, rfl⟩
  rw [hw0] at hbx
  have HB0 : Hid (Below W.heap.size W w0) := by rw [← hw0]; exact HX.out _
  obtain ⟨c0, c1, c2⟩ := hbx
  obtain ⟨r, hr⟩ : ∃ r, Vl.right x = r := ⟨_, rfl⟩
  have HR : Hid (∀ V, Calls Try.prog 45 #[.agg #[.int .u8 (x.k : Int), .int .i64 x.n, .string x.s]] V fun e w' => e = .returned (.bool r) ∧ Below V.heap.size V w') := fun V => by
    have := HR.out V
    rw [show (⟨x.k, x.n, x.s⟩ : Vl) = x from rfl, hr] at this; exact this
  rw [hr]
  clear HX hr
  go_enter Try.func44, Try.ntmps44
  go_wp2_with fail
  refine (HR.out _).mono ?_
  rintro e w1 ⟨rfl, hb1⟩
  have HB1 := Lib.hid (HB0.out.trans (hb1.mono HB0.out.size))
  clear hb1
  go_wp2
  go_ret
  exact ⟨rfl, HB1.out⟩

/-- The k-th value's cells. -/
theorem vlAt {W : World} {a : Option Addr} {L : List Vl} (h : Arr W.heap.size W a (cellsVl L)) {k : Nat} (hk : k < L.length) :
    ∃ b o, a = some ⟨b, o, none⟩ ∧ b < W.heap.size ∧ W.cell? ⟨b, o + k * 3, none⟩ = some (.int .u8 (L[k].k : Int)) ∧ W.cell? ⟨b, o + k * 3 + 1, none⟩ = some (.int .i64 L[k].n) ∧ W.cell? ⟨b, o + k * 3 + 2, none⟩ = some (.string L[k].s) := by
  obtain ⟨b, o, ha, hb, hc⟩ := h.at_ (by intro h0; have := cellsOf_len valC 3 valC_len L; unfold cellsVl at h0; rw [h0] at this; simp at this; omega)
  have g := fun (j : Nat) (v : Value) (hv : (valC L[k])[j]? = some v) => hc _ _ (cellsOf_get valC 3 valC_len L k j L[k] v (List.getElem?_eq_getElem hk) hv)
  exact ⟨b, o, ha, hb, by simpa using g 0 _ rfl, by simpa [Nat.add_assoc] using g 1 _ rfl, by simpa [Nat.add_assoc] using g 2 _ rfl⟩
theorem insAt {W : World} {a : Option Addr} {L : List Ins} (h : Arr W.heap.size W a (cellsIn L)) {k : Nat} (hk : k < L.length) :
    ∃ b o, a = some ⟨b, o, none⟩ ∧ b < W.heap.size ∧ W.cell? ⟨b, o + k * 2, none⟩ = some (.int .i64 L[k].op) ∧ W.cell? ⟨b, o + k * 2 + 1, none⟩ = some (.int .i64 L[k].ag) := by
  obtain ⟨b, o, ha, hb, hc⟩ := h.at_ (by intro h0; have := cellsOf_len insC 2 insC_len L; unfold cellsIn at h0; rw [h0] at this; simp at this; omega)
  have g := fun (j : Nat) (v : Value) (hv : (insC L[k])[j]? = some v) => hc _ _ (cellsOf_get insC 2 insC_len L k j L[k] v (List.getElem?_eq_getElem hk) hv)
  exact ⟨b, o, ha, hb, by simpa using g 0 _ rfl, by simpa [Nat.add_assoc] using g 1 _ rfl⟩

set_option maxHeartbeats 4000000 in
theorem idxV_any (L : List Vl) (a : Option Addr) (m cap : Nat) (w : World) (hA : Arr w.heap.size w a (cellsVl L)) (hm : L.length = m) (hcap : m ≤ cap) (hcm : cap ≤ 9223372036854775807) :
    Calls Try.prog 51 #[.slice a m cap, .func (.func 44) #[] #[]] w fun e w' => ∃ r : Int, e = .returned (.int .i64 r) ∧ decide (0 ≤ r) = L.any (fun x => !Vl.right x) ∧ Below w.heap.size w w' := by
  have HA := Lib.hid hA
  have HCl := Lib.hid (fun x W => highDo_any x W)
  have HM := Lib.hid hm
  clear hA hm
  go_enter Try.func51, Try.ntmps51
  go_wp2
  go_loopw [8] (fun i wr => ∃ k : Nat, k ≤ m ∧ i = .int .i64 k ∧ Hid ((L.take k).any (fun x => !Vl.right x) = false) ∧ Hid (Below w.heap.size w wr)) (fun i _ => m - (intOf i).toNat)
  case atStart => exact ⟨0, by omega, rfl, by simp [Hid], Below.refl _ _⟩
  case round =>
    obtain ⟨k, hk, rfl, HI, HB⟩ := hrel
    by_cases hlt : k < m
    · have hkl : k < L.length := by rw [HM.out]; exact hlt
      obtain ⟨b, o, hab, -, y0, y1, y2⟩ := vlAt ((HA.out.below HB.out).mono HB.out.size) hkl
      have HTk : Hid ((L.take (k + 1)).any (fun x => !Vl.right x) = !Vl.right L[k]) := by
        rw [List.take_succ_eq_append_getElem hkl, List.any_append, HI.out]; simp [Hid]
      have HTf : Hid ((!Vl.right L[k]) = true → L.any (fun x => !Vl.right x) = true) := fun hf => by
        rw [List.any_eq_true]; exact ⟨_, List.getElem_mem hkl, hf⟩
      have HY := Lib.hid (fun W => HCl.out L[k] W)
      generalize L[k] = x at *
      subst hab
      generalize (!Vl.right x) = d at *
      clear hkl HI HCl HA
      go_wp2_with fail
      refine (HY.out _).mono ?_
      rintro e w2 ⟨rfl, hb2⟩
      have HB2 := Lib.hid (HB.out.trans (hb2.mono HB.out.size))
      clear HY hb2 y0 y1 y2
      cases d with
      | false =>
        go_wp2
        go_roundw
        case rel => exact ⟨k + 1, by omega, by go_num, HTk.out, HB2.out⟩
        case measure => simp [intOf]; omega
      | true =>
        go_wp2
        go_ret
        exact ⟨k, rfl, by rw [HTf.out (by trivial)]; simp, HB2.out⟩
    · have HT : Hid (L.any (fun x => !Vl.right x) = false) := by
        have := HI.out
        rwa [show k = m by omega, ← HM.out, List.take_length] at this
      go_wp2
      go_ret
      exact ⟨-1, rfl, by rw [HT.out]; rfl, HB.out⟩

theorem conV_any (L : List Vl) (a : Option Addr) (m cap : Nat) (w : World) (hA : Arr w.heap.size w a (cellsVl L)) (hm : L.length = m) (hcap : m ≤ cap) (hcm : cap ≤ 9223372036854775807) :
    Calls Try.prog 43 #[.slice a m cap, .func (.func 44) #[] #[]] w fun e w' => e = .returned (.bool (L.any (fun x => !Vl.right x))) ∧ Below w.heap.size w w' := by
  have HC := Lib.hid (idxV_any L a m cap w hA hm hcap hcm)
  clear hA hm
  generalize L.any (fun x => !Vl.right x) = d at *
  go_enter Try.func43, Try.ntmps43
  go_wp2_with fail
  refine HC.out.mono ?_
  rintro e w1 ⟨r, rfl, hr, hb⟩
  have HR := Lib.hid hr
  have HB := Lib.hid hb
  clear hr HC hb
  go_wp2
  go_ret
  exact ⟨ret_b HR.out, HB.out⟩
end Go.Proofs.Ytapbhhehnbfdfaa

/- Package code: high, Right. -/
set_option linter.unusedSimpArgs false
set_option linter.unusedVariables false
set_option maxRecDepth 100000
namespace Go.Proofs.Ytapbhhehnbfdfaa
open Go.RowKit

/-- One instruction more: the stack's height and the most so far; none: it may not be. -/
def stepI (n : Nat) (s : Option (Nat × Nat)) (x : Ins) : Option (Nat × Nat) :=
  match s with
  | none => none
  | some (h, m) => if (takesV x n).2 = true ∧ (takesV x n).1 ≤ h then some (h + 1 - (takesV x n).1, max m (h + 1 - (takesV x n).1)) else none
def runI (n : Nat) (l : List Ins) : Option (Nat × Nat) := l.foldl (stepI n) (some (0, 0))
theorem runI_snoc (n : Nat) (l : List Ins) (x : Ins) : runI n (l ++ [x]) = stepI n (runI n l) x := by unfold runI; rw [List.foldl_append]; rfl
theorem foldl_none (n : Nat) (l : List Ins) : l.foldl (stepI n) none = none := by
  induction l with
  | nil => rfl
  | cons x r ih => exact ih
theorem runI_none (n : Nat) (l r : List Ins) (h : runI n l = none) : runI n (l ++ r) = none := by
  unfold runI at h ⊢
  rw [List.foldl_append, h]; exact foldl_none n r
theorem runI_le (n : Nat) (l : List Ins) : ∀ h m, runI n l = some (h, m) → h ≤ l.length ∧ m ≤ l.length := by
  have key : ∀ r : List Ins, ∀ h m, runI n r.reverse = some (h, m) → h ≤ r.length ∧ m ≤ r.length := by
    intro r
    induction r with
    | nil => intro h m e; simp [runI] at e; omega
    | cons x r ih =>
      intro h m e
      rw [List.reverse_cons, runI_snoc] at e
      cases hq : runI n r.reverse with
      | none => rw [hq] at e; cases e
      | some p =>
        obtain ⟨h0, m0⟩ := p
        have := ih h0 m0 hq
        rw [hq] at e
        unfold stepI at e
        simp only at e
        split at e
        · simp only [Option.some.injEq, Prod.mk.injEq] at e
          simp only [List.length_cons]; omega
        · cases e
  intro h m e
  have := key l.reverse h m (by rw [List.reverse_reverse]; exact e)
  simpa using this
/-- A program. -/
structure Pg where
  cs : List Vl
  code : List Ins
  deriving DecidableEq
def highV (p : Pg) : Nat × Bool :=
  if 200 < p.cs.length ∨ 4000 < p.code.length ∨ p.cs.any (fun x => !Vl.right x) = true then (0, false)
  else match runI p.cs.length p.code with
    | none => (0, false)
    | some (h, m) => if h ≠ 1 ∨ 100 < m then (0, false) else (m, true)
/-- A program in memory. -/
structure PgM where
  p : Pg
  ca : Option Addr
  cc : Nat
  ia : Option Addr
  ic : Nat
structure PgAt (W : World) (x : PgM) : Prop where
  c : Arr W.heap.size W x.ca (cellsVl x.p.cs)
  cl : x.p.cs.length ≤ x.cc
  cc : x.cc ≤ 9223372036854775807
  i : Arr W.heap.size W x.ia (cellsIn x.p.code)
  il : x.p.code.length ≤ x.ic
  ic : x.ic ≤ 9223372036854775807
theorem PgAt.later {W W' : World} {x : PgM} (h : PgAt W x) (hb : Below W.heap.size W W') : PgAt W' x :=
  ⟨(h.c.below hb).mono hb.size, h.cl, h.cc, (h.i.below hb).mono hb.size, h.il, h.ic⟩

set_option maxHeartbeats 8000000 in
theorem high_any (x : PgM) (w : World) (hx : PgAt w x) :
    Calls Try.prog 35 #[.agg #[.slice x.ca x.p.cs.length x.cc, .slice x.ia x.p.code.length x.ic]] w fun e w' => e = .returned (.tuple #[.int .i64 ((highV x.p).1 : Int), .bool (highV x.p).2]) ∧ Below w.heap.size w w' := by
  obtain ⟨⟨cs, code⟩, ca, cc, ia, ic⟩ := x
  obtain ⟨h1, h2, h3, h4, h5, h6⟩ := hx
  simp only at h1 h2 h3 h4 h5 h6 ⊢
  obtain ⟨n, hn⟩ : ∃ n, cs.length = n := ⟨_, rfl⟩
  obtain ⟨m, hm⟩ : ∃ m, code.length = m := ⟨_, rfl⟩
  obtain ⟨r, hr⟩ : ∃ r, highV ⟨cs, code⟩ = r := ⟨_, rfl⟩
  unfold highV at hr
  simp only at hr
  rw [hn, hm] at hr
  obtain ⟨w0, hw0⟩ : ∃ w0, w.alloc (.cells #[.slice ca n cc, .slice ia m ic] 36) = w0 := ⟨_, rfl⟩
  have hB : Blk w0 w.heap.size 36 #[.slice ca n cc, .slice ia m ic] := by rw [← hw0]; exact Blk.new w _ _
  have HB0 : Hid (Below w.heap.size w w0) := by rw [← hw0]; exact (Below.refl _ w).alloc (Nat.le_refl _) _
  have HS0 : Hid (w0.heap.size = w.heap.size + 1) := by rw [← hw0]; simp [Hid]
  have HBl := Lib.hid hB
  have HCo := Lib.hid (fun (W : World) (hb : Below w.heap.size w W) => conV_any cs ca n cc W (h1.later (N := 0) hb) hn (by omega) h3)
  have HIa := Lib.hid (fun (W : World) (hb : Below w.heap.size w W) => h4.later (N := 0) hb)
  have HN := Lib.hid hn
  have HM := Lib.hid hm
  have HR := Lib.hid hr
  rw [hn] at h2 ⊢
  rw [hm] at h5 ⊢
  have hrd : highV ⟨cs, code⟩ = r := by unfold highV; simp only; rw [hn, hm]; exact hr
  rw [hrd]
  have c0 := (hB.cell 0).trans rfl
  have c1 := (hB.cell 1).trans rfl
  clear hB h1 h4 hn hm hr hrd
  by_cases hbig : 200 < n ∨ 4000 < m
  · have hrr : r = (0, false) := by
      rw [← HR.out]
      rcases hbig with h | h
      · simp [h]
      · simp [h]
    subst hrr
    have hcase : decide ((200 : Int) < (n : Int)) = true ∨ (decide ((200 : Int) < (n : Int)) = false ∧ decide ((4000 : Int) < (m : Int)) = true) := by
      by_cases h : 200 < n
      · left; simp; omega
      · right; exact ⟨by simp; omega, by simp; omega⟩
    clear hbig HR
    rcases hcase with q1 | ⟨q1, q2⟩
    all_goals
      go_enter Try.func35, Try.ntmps35
      go_wp2
      go_ret2
      exact ⟨rfl, HB0.out⟩
  have hn2 : n ≤ 200 := by omega
  have hm4 : m ≤ 4000 := by omega
  have q1 : decide ((200 : Int) < (n : Int)) = false := by simp; omega
  have q2 : decide ((4000 : Int) < (m : Int)) = false := by simp; omega
  clear hbig
  obtain ⟨b, hb⟩ : ∃ b, cs.any (fun x => !Vl.right x) = b := ⟨_, rfl⟩
  rw [hb] at HCo HR
  clear hb
  cases b with
  | true =>
    have hrr : r = (0, false) := by rw [← HR.out]; simp
    subst hrr
    clear HR
    go_enter Try.func35, Try.ntmps35
    go_wp2_with fail
    refine (HCo.out _ HB0.out).mono ?_
    rintro e w1 ⟨rfl, hb1⟩
    have HB1 := Lib.hid (HB0.out.trans (hb1.mono HB0.out.size))
    clear hb1 HCo c0 c1
    go_wp2
    go_ret2
    exact ⟨rfl, HB1.out⟩
  | false =>
    have HR2 : Hid (r = match runI n code with | none => (0, false) | some (h, m) => if h ≠ 1 ∨ 100 < m then (0, false) else (m, true)) := by
      show r = _
      rw [← HR.out, if_neg (by simp; omega)]
    clear HR
    go_enter Try.func35, Try.ntmps35
    go_wp2_with fail
    refine (HCo.out _ HB0.out).mono ?_
    rintro e w1 ⟨rfl, hb1⟩
    have HB01 := Lib.hid hb1
    have HB1 : Hid (Below w.heap.size w w1) := HB0.out.trans (hb1.mono HB0.out.size)
    have HBx : Hid (∀ W, Below w1.heap.size w1 W → W.cell? ⟨w.heap.size, 0, none⟩ = some (.slice ca n cc) ∧ W.cell? ⟨w.heap.size, 1, none⟩ = some (.slice ia m ic)) := fun W hW => by
      have hlt : w.heap.size < w0.heap.size := by have := HS0.out; omega
      have := (hW.block w.heap.size (Nat.lt_of_lt_of_le hlt HB01.out.size)).trans ((HB01.out.block w.heap.size hlt).trans HBl.out)
      exact ⟨(Blk.cell this 0).trans rfl, (Blk.cell this 1).trans rfl⟩
    clear hb1 HCo c0 c1
    obtain ⟨c0, c1⟩ := HBx.out w1 (Below.refl _ _)
    go_wp2
    clear c0 c1 q1 q2
    go_loopw [4, 5, 26] (fun hv mv iv wr => ∃ (k h g : Nat), k ≤ m ∧ hv = .int .i64 (h : Int) ∧ mv = .int .i64 (g : Int) ∧ iv = .int .i64 (k : Int) ∧ h ≤ k ∧ g ≤ k ∧ Hid (runI n (code.take k) = some (h, g)) ∧ Hid (Below w1.heap.size w1 wr)) (fun _ _ iv _ => m - (intOf iv).toNat)
    case atStart => exact ⟨0, 0, 0, by omega, rfl, rfl, rfl, by omega, by omega, rfl, Below.refl _ _⟩
    case round =>
      obtain ⟨k, h, g, hk, rfl, rfl, rfl, hhk, hgk, HI, HB⟩ := hrel
      have HBw := Lib.hid (HB1.out.trans (HB.out.mono HB1.out.size))
      by_cases hlt : k < m
      · have hkl : k < code.length := by rw [HM.out]; exact hlt
        obtain ⟨b, o, hab, -, y0, y1⟩ := insAt (HIa.out wr HBw.out) hkl
        have HTk : Hid (runI n (code.take (k + 1)) = stepI n (some (h, g)) code[k]) := by
          rw [List.take_succ_eq_append_getElem hkl, runI_snoc, HI.out]; exact rfl
        have HTn : Hid (stepI n (some (h, g)) code[k] = none → r = (0, false)) := fun hno => by
          have hc : code = code.take (k + 1) ++ code.drop (k + 1) := (List.take_append_drop _ _).symm
          have : runI n code = none := by rw [hc]; exact runI_none _ _ _ (HTk.out.trans hno)
          rw [HR2.out, this]
        generalize code[k] = x at *
        subst hab
        obtain ⟨w2, hw2⟩ : ∃ w2, wr.alloc (.cells #[.int .i64 x.op, .int .i64 x.ag] 63) = w2 := ⟨_, rfl⟩
        have hB2 : Blk w2 wr.heap.size 63 #[.int .i64 x.op, .int .i64 x.ag] := by rw [← hw2]; exact Blk.new wr _ _
        have hb2 : Below wr.heap.size wr w2 := by rw [← hw2]; exact (Below.refl _ wr).alloc (Nat.le_refl _) _
        have HB2 : Hid (Below w1.heap.size w1 w2) := HB.out.trans (hb2.mono HB.out.size)
        have i0 := (hB2.cell 0).trans rfl
        have i1 := (hB2.cell 1).trans rfl
        obtain ⟨c0, c1⟩ := HBx.out w2 HB2.out
        have HT := Lib.hid (takes_any x n w2 (by omega))
        have HSt : Hid (stepI n (some (h, g)) x = if (takesV x n).2 = true ∧ (takesV x n).1 ≤ h then some (h + 1 - (takesV x n).1, max g (h + 1 - (takesV x n).1)) else none) := rfl
        obtain ⟨t, ht⟩ : ∃ t, (takesV x n).1 = t := ⟨_, rfl⟩
        obtain ⟨sb, hsb⟩ : ∃ sb, (takesV x n).2 = sb := ⟨_, rfl⟩
        rw [ht, hsb] at HT HSt
        clear hkl hB2 hb2 ht hsb
        go_wp2_with fail
        refine HT.out.mono ?_
        rintro e w3 ⟨rfl, hb3⟩
        have HB3 : Hid (Below w1.heap.size w1 w3) := HB2.out.trans (hb3.mono HB2.out.size)
        have HB3w : Hid (Below w.heap.size w w3) := HB1.out.trans (HB3.out.mono HB1.out.size)
        clear hb3 HT i0 i1 c0 c1 y0 y1
        cases sb with
        | false =>
          have hrr : r = (0, false) := HTn.out (by rw [HSt.out]; simp)
          subst hrr
          clear HTn HSt HR2
          go_wp2
          go_ret2
          exact ⟨rfl, HB3w.out⟩
        | true =>
          by_cases hth : h < t
          · have hrr : r = (0, false) := HTn.out (by rw [HSt.out, if_neg (by simp; omega)])
            subst hrr
            have q3 : decide ((h : Int) < (t : Int)) = true := by simp; omega
            clear HTn HSt HR2
            go_wp2
            go_ret2
            exact ⟨rfl, HB3w.out⟩
          · have q3 : decide ((h : Int) < (t : Int)) = false := by simp; omega
            have HN2 : Hid (runI n (code.take (k + 1)) = some (h + 1 - t, max g (h + 1 - t))) := by
              rw [HTk.out, HSt.out, if_pos ⟨rfl, by omega⟩]; exact rfl
            have e1 : IntKind.i64.wrap (1 - (t : Int)) = 1 - (t : Int) := IntWalk.i64_in _ (by omega)
            have e2 : IntKind.i64.wrap ((h : Int) + (1 - (t : Int))) = ((h + 1 - t : Nat) : Int) := by rw [IntWalk.i64_in _ (by omega)]; omega
            obtain ⟨h', hh'⟩ : ∃ h', h + 1 - t = h' := ⟨_, rfl⟩
            rw [hh'] at HN2 e2
            have hle : h' ≤ k + 1 := by omega
            have hmx : max g h' ≤ k + 1 := by omega
            clear HTn HSt hh' hhk
            by_cases hgh : g < h'
            · have q4 : decide ((g : Int) < (h' : Int)) = true := by simp; omega
              have q5 : (g : Int) < (h' : Int) := by omega
              have hme : max g h' = h' := by omega
              have q6 : max (g : Int) (h' : Int) = (h' : Int) := by omega
              rw [hme] at HN2 hmx
              go_wp2
              go_roundw
              case rel => exact ⟨k + 1, h', h', by omega, rfl, by first | rfl | (simp; done) | (simp; omega), by go_num, by omega, by omega, HN2.out, HB3.out⟩
              case measure => (simp [intOf] <;> try omega)
            · have q4 : decide ((g : Int) < (h' : Int)) = false := by simp; omega
              have q5 : ¬ (g : Int) < (h' : Int) := by omega
              have hme : max g h' = g := by omega
              have q6 : max (g : Int) (h' : Int) = (g : Int) := by omega
              rw [hme] at HN2 hmx
              go_wp2
              go_roundw
              case rel => exact ⟨k + 1, h', g, by omega, rfl, by first | rfl | (simp; done) | (simp; omega), by go_num, by omega, by omega, HN2.out, HB3.out⟩
              case measure => (simp [intOf] <;> try omega)
      · have HE : Hid (runI n code = some (h, g)) := by
          have := HI.out
          rwa [show k = m by omega, ← HM.out, List.take_length] at this
        have HRr : Hid (r = if h ≠ 1 ∨ 100 < g then (0, false) else (g, true)) := by
          show r = _
          rw [HR2.out, HE.out]
        by_cases he : h = 1
        · subst he
          by_cases hg : 100 < g
          · have hrr : r = (0, false) := by rw [HRr.out]; simp [hg]
            subst hrr
            have q4 : decide ((100 : Int) < (g : Int)) = true := by simp; omega
            clear HRr HR2 HE HI
            go_wp2
            go_ret2
            exact ⟨rfl, HBw.out⟩
          · have hrr : r = (g, true) := by rw [HRr.out]; simp [hg]
            subst hrr
            have q4 : decide ((100 : Int) < (g : Int)) = false := by simp; omega
            clear HRr HR2 HE HI
            go_wp2
            go_ret2
            exact ⟨rfl, HBw.out⟩
        · have hrr : r = (0, false) := by rw [HRr.out]; simp [he]
          subst hrr
          have q4 : ((h : Int) != 1) = true := by simp; omega
          clear HRr HR2 HE HI
          go_wp2
          go_ret2
          exact ⟨rfl, HBw.out⟩

theorem codeRight_any (x : PgM) (w : World) (hx : PgAt w x) :
    Calls Try.prog 23 #[.agg #[.slice x.ca x.p.cs.length x.cc, .slice x.ia x.p.code.length x.ic]] w fun e w' => e = .returned (.bool (highV x.p).2) ∧ Below w.heap.size w w' := by
  obtain ⟨w0, hw0⟩ : ∃ w0, w.alloc (.cells #[.slice x.ca x.p.cs.length x.cc, .slice x.ia x.p.code.length x.ic] 36) = w0 := ⟨_, rfl⟩
  have hB : Blk w0 w.heap.size 36 #[.slice x.ca x.p.cs.length x.cc, .slice x.ia x.p.code.length x.ic] := by rw [← hw0]; exact Blk.new w _ _
  have hb : Below w.heap.size w w0 := by rw [← hw0]; exact (Below.refl _ w).alloc (Nat.le_refl _) _
  have HB0 := Lib.hid hb
  have HH := Lib.hid (high_any x w0 (hx.later hb))
  have c0 := (hB.cell 0).trans rfl
  have c1 := (hB.cell 1).trans rfl
  clear hB hb hx
  go_enter Try.func23, Try.ntmps23
  go_wp2_with fail
  refine HH.out.mono ?_
  rintro e w1 ⟨rfl, hb1⟩
  have HB1 := Lib.hid (HB0.out.trans (hb1.mono HB0.out.size))
  clear hb1 HH c0 c1
  go_wp2
  go_ret
  exact ⟨rfl, HB1.out⟩
end Go.Proofs.Ytapbhhehnbfdfaa

/- Package compile: find. -/
set_option linter.unusedSimpArgs false
set_option linter.unusedVariables false
set_option maxRecDepth 100000
namespace Go.Proofs.Ytapbhhehnbfdfaa
open Go.RowKit

@[go_sem high] theorem eqOp (k k' n n' : Int) (s s' : ByteArray) (w : World) : (Op.equalIn 10000 66 (.agg #[.int .i64 k, .string s, .int .i64 n]) (.agg #[.int .i64 k', .string s', .int .i64 n'])).run Try.prog w = .ok (k == k' && (s.toList == s'.toList && n == n')) w := by
  have hS : Try.prog.underlying 66 = some (.struct (Try.prog.fieldsOf 66)) := by kernel_rfl
  have hp : Try.prog.stoodInHeld 66 = false := by kernel_rfl
  rw [show (10000 : Nat) = 9999 + 1 from rfl, run_equalIn_agg w 9999 66 _ _ hS hp]
  simp only [Program.fieldsOf, Try.underlying66]
  go_simp
  by_cases h1 : k = k' <;> by_cases h2 : n = n' <;> by_cases h3 : s.toList = s'.toList <;> simp [h1, h2, h3]
@[go_sem] theorem eqGuardOp : Try.prog.eqGuardType Try.prog.depth 66 = false := by kernel_rfl

/-- The first arg of an op whose operation is q. -/
def hitO (o : Int) (n : Nat) (q : Opn) : Option Nat := (List.range n).find? fun a => decide (ofV o (a : Int) = q)
def findV (q : Opn) : Option Ins :=
  match hitO 3 5 q with
  | some a => some ⟨3, (a : Int)⟩
  | none => match hitO 4 15 q with
    | some a => some ⟨4, (a : Int)⟩
    | none => (hitO 5 2 q).map fun a => ⟨5, (a : Int)⟩
theorem hitO_none {o : Int} {n : Nat} {q : Opn} (h : ∀ a : Nat, a < n → ofV o (a : Int) ≠ q) : hitO o n q = none := by
  unfold hitO
  rw [List.find?_eq_none]
  intro a ha
  simp at ha
  simpa using h a ha
theorem hitO_some {o : Int} {n j : Nat} {q : Opn} (h : ∀ a : Nat, a < j → ofV o (a : Int) ≠ q) (hj : j < n) (hq : ofV o (j : Int) = q) : hitO o n q = some j := by
  unfold hitO
  rw [List.find?_range_eq_some]
  exact ⟨by simpa using hq, by simpa using hj, fun a ha => by simpa using h a ha⟩
def opI (i : Nat) : Int := ((3 + i : Nat) : Int)
def cntI : Nat → Nat
  | 0 => 5
  | 1 => 15
  | _ => 2
theorem ok_opI (i j : Nat) (hi : i < 3) : (ofV (opI i) (j : Int)).ok = decide (j < cntI i) := by
  rcases (show i = 0 ∨ i = 1 ∨ i = 2 by omega) with rfl | rfl | rfl
  · show (ofV 3 (j : Int)).ok = decide (j < 5)
    unfold ofV
    rw [if_pos rfl]
    unfold unV
    by_cases h : j < 5
    · rw [if_pos ⟨by omega, by omega⟩]; simp [h]
    · rw [if_neg (by omega)]; simp [h, noOp]
  · show (ofV 4 (j : Int)).ok = decide (j < 15)
    unfold ofV
    rw [if_neg (by decide), if_pos rfl]
    unfold biV
    by_cases h : j < 15
    · rw [if_pos ⟨by omega, by omega⟩]; simp [h]
    · rw [if_neg (by omega)]; simp [h, noOp]
  · show (ofV 5 (j : Int)).ok = decide (j < 2)
    unfold ofV
    rw [if_neg (by decide), if_neg (by decide), if_pos rfl]
    unfold foV
    by_cases h : j < 2
    · rw [if_pos ⟨by omega, by omega⟩]; simp [h]
    · rw [if_neg (by omega)]; simp [h, noOp]
/-- What is known when i ops have been gone through. -/
def FdNo (q : Opn) (i : Nat) : Prop := ∀ k, k < i → hitO (opI k) (cntI k) q = none
theorem FdNo.all {q : Opn} (h : FdNo q 3) : findV q = none := by
  have h0 : hitO 3 5 q = none := h 0 (by omega)
  have h1 : hitO 4 15 q = none := h 1 (by omega)
  have h2 : hitO 5 2 q = none := h 2 (by omega)
  unfold findV
  rw [h0, h1, h2]; rfl
theorem FdNo.hit {q : Opn} {i j : Nat} (h : FdNo q i) (hi : i < 3) (hj : hitO (opI i) (cntI i) q = some j) : findV q = some ⟨opI i, (j : Int)⟩ := by
  rcases (show i = 0 ∨ i = 1 ∨ i = 2 by omega) with rfl | rfl | rfl
  · have h1 : hitO 3 5 q = some j := hj
    unfold findV; rw [h1]; rfl
  · have h0 : hitO 3 5 q = none := h 0 (by omega)
    have h1 : hitO 4 15 q = some j := hj
    unfold findV; rw [h0, h1]; rfl
  · have h0 : hitO 3 5 q = none := h 0 (by omega)
    have h1 : hitO 4 15 q = none := h 1 (by omega)
    have h2 : hitO 5 2 q = some j := hj
    unfold findV; rw [h0, h1, h2]; rfl
abbrev zeroIn : Array Value := #[.int .i64 0, .int .i64 0]
theorem info_inS : (Try.prog.info? 63).map (·.size) = some 2 := by kernel_rfl
/-- What find and instruction hand back. -/
def RetIn (w : World) (o : Option Ins) (e : Ending) (w' : World) : Prop :=
  Below w.heap.size w w' ∧ e = .returned (.tuple #[.agg #[.int .i64 ((o.map Ins.op).getD 0), .int .i64 ((o.map Ins.ag).getD 0)], .bool o.isSome])

set_option maxHeartbeats 8000000 in
theorem find_any (kd : Int) (nm : ByteArray) (tk : Nat) (w : World) :
    Calls Try.prog 48 #[.agg #[.int .i64 kd, .string nm, .int .i64 (tk : Int)]] w (RetIn w (findV ⟨kd, nm, tk, true⟩)) := by
  obtain ⟨q, hq⟩ : ∃ q : Opn, (⟨kd, nm, tk, true⟩ : Opn) = q := ⟨_, rfl⟩
  have HQ := Lib.hid hq
  rw [hq]
  obtain ⟨w0, hw0⟩ : ∃ w0, ((w.alloc (.cells #[.int .i64 kd, .string nm, .int .i64 (tk : Int)] 66)).alloc (.cells zeroIn 63)).alloc (.cells zeroIn 63) = w0 := ⟨_, rfl⟩
  have HWa : Hid (Blk w0 w.heap.size 66 #[.int .i64 kd, .string nm, .int .i64 (tk : Int)]) := by rw [← hw0]; exact ((Blk.new w _ _).alloc _).alloc _
  have HR2 : Hid (Blk w0 (w.heap.size + 1) 63 zeroIn) := by
    rw [← hw0]
    have := (Blk.new (w.alloc (.cells #[.int .i64 kd, .string nm, .int .i64 (tk : Int)] 66)) 63 zeroIn).alloc (.cells zeroIn 63)
    rw [show (w.alloc (.cells #[.int .i64 kd, .string nm, .int .i64 (tk : Int)] 66)).heap.size = w.heap.size + 1 by simp] at this
    exact this
  have HR4 : Hid (Blk w0 (w.heap.size + 1 + 1) 63 zeroIn) := by
    rw [← hw0]
    have := Blk.new ((w.alloc (.cells #[.int .i64 kd, .string nm, .int .i64 (tk : Int)] 66)).alloc (.cells zeroIn 63)) 63 zeroIn
    rw [show ((w.alloc (.cells #[.int .i64 kd, .string nm, .int .i64 (tk : Int)] 66)).alloc (.cells zeroIn 63)).heap.size = w.heap.size + 1 + 1 by simp] at this
    exact this
  have HB0 : Hid (Below w.heap.size w w0) := by rw [← hw0]; exact (((Below.refl _ w).alloc (Nat.le_refl _) _).alloc (by simp) _).alloc (by simp; omega) _
  have HS0 : Hid (w0.heap.size = w.heap.size + 3) := by rw [← hw0]; simp [Hid]
  have HO := Lib.hid (fun o a W => opOf_any o a W)
  clear hq
  go_enter Try.func48, Try.ntmps48
  go_wp2
  go_step3
  go_wp2
  go_step3
  go_wp2
  try rw [hw0]
  go_loopw [5, 12] (fun fv iv wr => ∃ i : Nat, fv = .bool false ∧ i ≤ 3 ∧ iv = .int .i64 (i : Int) ∧ Hid (FdNo q i) ∧ Hid (Below w0.heap.size w0 wr)) (fun _ iv _ => 3 - (intOf iv).toNat)
  case atStart => exact ⟨0, rfl, by omega, rfl, (fun k hk => by omega), Below.refl _ _⟩
  case round =>
    obtain ⟨i, rfl, hi, rfl, HF, HBr⟩ := hrel
    have HBw : Hid (Below w.heap.size w wr) := HB0.out.trans (HBr.out.mono HB0.out.size)
    by_cases hlt : i < 3
    · have hix : ∀ W, (Instr.index 100 (.agg #[.int .i64 3, .int .i64 4, .int .i64 5]) (.int .i64 (i : Int))).run Try.prog W = .ok (.int .i64 (opI i)) W := by
        rcases (show i = 0 ∨ i = 1 ∨ i = 2 by omega) with rfl | rfl | rfl <;> exact fun W => rfl
      have HOk := Lib.hid (fun j => ok_opI i j hlt)
      have HHt := Lib.hid (fun (j : Nat) (h1 : ∀ a : Nat, a < j → ofV (opI i) (a : Int) ≠ q) (h2 : j < cntI i) (h3 : ofV (opI i) (j : Int) = q) => HF.out.hit hlt (hitO_some h1 h2 h3))
      have HNx : Hid ((∀ a : Nat, a < cntI i → ofV (opI i) (a : Int) ≠ q) → FdNo q (i + 1)) := fun h k hk => by
        by_cases hki : k = i
        · subst hki; exact hitO_none h
        · exact HF.out k (by omega)
      have hcn : cntI i ≤ 15 := by
        rcases (show i = 0 ∨ i = 1 ∨ i = 2 by omega) with rfl | rfl | rfl <;> decide
      generalize cntI i = c at *
      generalize opI i = oi at *
      obtain ⟨wo, rfl⟩ : ∃ wo, wo = wr := ⟨wr, rfl⟩
      have q0 : decide ((i : Int) < 3) = true := by simp; omega
      go_wp2
      clear hix
      go_loopw [5, 8] (fun fv jv wi => ∃ j : Nat, fv = .bool false ∧ j ≤ c ∧ jv = .int .i64 (j : Int) ∧ Hid (∀ a : Nat, a < j → ofV oi (a : Int) ≠ q) ∧ Hid (Below w0.heap.size w0 wi)) (fun _ jv _ => c - (intOf jv).toNat)
      case atStart => exact ⟨0, rfl, by omega, rfl, (fun a ha => by omega), HBr.out⟩
      case round =>
        obtain ⟨j, rfl, hj, rfl, HJ, HBj⟩ := hrel
        have HY := Lib.hid (HO.out oi (j : Int) wr)
        have HOj := HOk.out j
        obtain ⟨x, hx⟩ : ∃ x, ofV oi (j : Int) = x := ⟨_, rfl⟩
        rw [hx] at HY HOj
        have HXe := Lib.hid hx
        clear hx
        obtain ⟨xk, xn, xt, xo⟩ := x
        simp only at HOj
        replace HY : Hid (Calls Try.prog 28 #[.int .i64 oi, .int .i64 (j : Int)] wr fun e w' => Below wr.heap.size wr w' ∧ e = .returned (.tuple #[.agg #[.int .i64 xk, .string xn, .int .i64 (xt : Int)], .bool xo])) := HY.out
        go_wp2_with fail
        refine HY.out.mono ?_
        rintro e w2 ⟨hb2, rfl⟩
        have HB2 : Hid (Below w0.heap.size w0 w2) := HBj.out.trans (hb2.mono HBj.out.size)
        obtain ⟨w3, hw3⟩ : ∃ w3, w2.alloc (.cells #[.int .i64 xk, .string xn, .int .i64 (xt : Int)] 66) = w3 := ⟨_, rfl⟩
        have hV3 : Blk w3 w2.heap.size 66 #[.int .i64 xk, .string xn, .int .i64 (xt : Int)] := by rw [← hw3]; exact Blk.new w2 _ _
        have hb3 : Below w2.heap.size w2 w3 := by rw [← hw3]; exact (Below.refl _ w2).alloc (Nat.le_refl _) _
        have HB3 : Hid (Below w0.heap.size w0 w3) := HB2.out.trans (hb3.mono HB2.out.size)
        clear hb2 hb3 HY
        by_cases hjc : j < c
        · obtain rfl : xo = true := by rw [HOj]; simp [hjc]
          clear HOj
          have hWa3 : Blk w3 w.heap.size 66 #[.int .i64 kd, .string nm, .int .i64 (tk : Int)] := (HB3.out.block _ (by have := HS0.out; omega)).trans HWa.out
          have i0 := (hV3.cell 0).trans rfl
          have i1 := (hV3.cell 1).trans rfl
          have i2 := (hV3.cell 2).trans rfl
          have a0 := (hWa3.cell 0).trans rfl
          have a1 := (hWa3.cell 1).trans rfl
          have a2 := (hWa3.cell 2).trans rfl
          obtain ⟨bq, hbq⟩ : ∃ bq, (xk == kd && (xn.toList == nm.toList && ((xt : Int) == (tk : Int)))) = bq := ⟨_, rfl⟩
          have HBq : Hid (bq = decide (ofV oi (j : Int) = q)) := by
            rw [HXe.out, ← HQ.out, ← hbq]
            show _ = _
            rw [Bool.eq_iff_iff]
            simp only [Bool.and_eq_true, beq_iff_eq, decide_eq_true_eq, Opn.mk.injEq, and_true]
            constructor
            · rintro ⟨h1, h2, h3⟩
              refine ⟨h1, ?_, by omega⟩
              rw [ByteArray.toList_eq, ByteArray.toList_eq] at h2
              exact ByteArray.ext (Array.toList_inj.1 h2)
            · rintro ⟨rfl, rfl, rfl⟩; exact ⟨rfl, rfl, rfl⟩
          have HBqE := Lib.hid hbq
          clear hV3 hWa3
          cases bq with
          | false =>
            have hne : ofV oi (j : Int) ≠ q := by have := HBq.out; simpa using this.symm
            have HJ2 : Hid (∀ a : Nat, a < j + 1 → ofV oi (a : Int) ≠ q) := fun a ha => by
              by_cases haj : a = j
              · subst haj; exact hne
              · exact HJ.out a (by omega)
            clear hne
            go_wp2
            go_roundw
            case rel => exact ⟨j + 1, rfl, by omega, by go_num, HJ2.out, HB3.out⟩
            case measure => simp [intOf]; omega
          | true =>
            have heq : ofV oi (j : Int) = q := by have := HBq.out; simpa using this.symm
            have HE : Hid (findV q = some ⟨oi, (j : Int)⟩) := HHt.out j HJ.out hjc heq
            have hR2 : Blk w3 (w.heap.size + 1) 63 zeroIn := (HB3.out.block _ (by have := HS0.out; omega)).trans HR2.out
            have hR4 : Blk w3 (w.heap.size + 1 + 1) 63 zeroIn := (HB3.out.block _ (by have := HS0.out; omega)).trans HR4.out
            have hR2' : Blk (w3.setRow (w.heap.size + 1 + 1) #[.int .i64 oi, .int .i64 (j : Int)]) (w.heap.size + 1) 63 zeroIn := (setRow_other _ _ _ _ (by omega)).trans hR2
            have HS4 := Lib.hid (run_storeVar_row (P := Try.prog) w3 (w.heap.size + 1 + 1) 63 63 zeroIn #[.int .i64 oi, .int .i64 (j : Int)] hR4 (by rw [info_inS]; rfl) rfl (by simp [Value.oneCell']))
            have HL4 := Lib.hid (run_loadVar_row (P := Try.prog) _ _ _ 63 _ (0, 0) _ (Blk.setRow (new := #[.int .i64 oi, .int .i64 (j : Int)]) hR4) Try.underlying63 rfl (by rw [info_inS]; rfl))
            have HS2 := Lib.hid (run_storeVar_row (P := Try.prog) (w3.setRow (w.heap.size + 1 + 1) #[.int .i64 oi, .int .i64 (j : Int)]) (w.heap.size + 1) 63 63 zeroIn #[.int .i64 oi, .int .i64 (j : Int)] hR2' (by rw [info_inS]; rfl) rfl (by simp [Value.oneCell']))
            have HL2 := Lib.hid (run_loadVar_row (P := Try.prog) _ _ _ 63 _ (0, 0) _ (Blk.setRow (new := #[.int .i64 oi, .int .i64 (j : Int)]) hR2') Try.underlying63 rfl (by rw [info_inS]; rfl))
            have hch : Chg [w.heap.size + 1, w.heap.size + 1 + 1] w3 ((w3.setRow (w.heap.size + 1 + 1) #[.int .i64 oi, .int .i64 (j : Int)]).setRow (w.heap.size + 1) #[.int .i64 oi, .int .i64 (j : Int)]) := ((Chg.refl _ w3).setRow (.inl (by simp)) _).setRow (.inl (by simp)) _
            have HBE : Hid (Below w.heap.size w ((w3.setRow (w.heap.size + 1 + 1) #[.int .i64 oi, .int .i64 (j : Int)]).setRow (w.heap.size + 1) #[.int .i64 oi, .int .i64 (j : Int)])) := (HB0.out.trans (HB3.out.mono HB0.out.size)).trans (hch.below (by have := HB0.out.size; have := HB3.out.size; omega) (by simp; omega))
            clear heq hR2 hR4 hR2' hch HBq
            go_wp2_with (first | (guard_target =~ wpList _ _ _ (Oper.mk _ (Op.load 63 _) _ _ _ _ :: _) _ _; refine wpList_loadV rfl 63 _ rfl rfl HL4.out ?_) | (guard_target =~ wpList _ _ _ (Oper.mk _ (Op.store 63 _ _) _ _ _ _ :: _) _ _; first | refine wpList_skp rfl (exec_store rfl rfl rfl HS4.out) ?_ | refine wpList_skp rfl (exec_store rfl rfl rfl HS2.out) ?_))
            try rw [Exit.noGoto_ret]
            exact bodyPost_ret (results_cell_tmp Try.results48 _ _ rfl rfl HL2.out) rfl ⟨HBE.out, by rw [HE.out]; rfl⟩
        · obtain rfl : xo = false := by rw [HOj]; simp [hjc]
          clear HOj
          have HF2 : Hid (FdNo q (i + 1)) := HNx.out (fun a ha => HJ.out a (by omega))
          clear hV3
          go_wp2
          go_roundw
          case rel => exact ⟨i + 1, rfl, by omega, by go_num, HF2.out, HB3.out⟩
          case measure => simp [intOf]; omega
    · have HE : Hid (findV q = none) := by
        have := HF.out
        rw [show i = 3 by omega] at this
        exact this.all
      have hR2 : Blk wr (w.heap.size + 1) 63 zeroIn := (HBr.out.block _ (by have := HS0.out; omega)).trans HR2.out
      have hR4 : Blk wr (w.heap.size + 1 + 1) 63 zeroIn := (HBr.out.block _ (by have := HS0.out; omega)).trans HR4.out
      have HL4 := Lib.hid (run_loadVar_row (P := Try.prog) _ _ _ 63 _ (0, 0) _ hR4 Try.underlying63 rfl (by rw [info_inS]; rfl))
      have HS2 := Lib.hid (run_storeVar_row (P := Try.prog) wr (w.heap.size + 1) 63 63 zeroIn zeroIn hR2 (by rw [info_inS]; rfl) rfl (by simp [Value.oneCell']))
      have HL2 := Lib.hid (run_loadVar_row (P := Try.prog) _ _ _ 63 _ (0, 0) _ (Blk.setRow (new := zeroIn) hR2) Try.underlying63 rfl (by rw [info_inS]; rfl))
      have HBE : Hid (Below w.heap.size w (wr.setRow (w.heap.size + 1) zeroIn)) := HBw.out.trans (((Chg.refl _ wr).setRow (.inl (by simp)) _ : Chg [w.heap.size + 1] wr _).below HBw.out.size (by simp))
      clear hR2 hR4
      go_wp2_with (first | (guard_target =~ wpList _ _ _ (Oper.mk _ (Op.load 63 _) _ _ _ _ :: _) _ _; refine wpList_loadV rfl 63 _ rfl rfl HL4.out ?_) | (guard_target =~ wpList _ _ _ (Oper.mk _ (Op.store 63 _ _) _ _ _ _ :: _) _ _; refine wpList_skp rfl (exec_store rfl rfl rfl HS2.out) ?_))
      exact bodyPost_ret (results_cell_tmp Try.results48 _ _ rfl rfl HL2.out) rfl ⟨HBE.out, by rw [HE.out]; rfl⟩
end Go.Proofs.Ytapbhhehnbfdfaa
