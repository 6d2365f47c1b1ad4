/- Several texts of one proof, one behind the other. -/
import Derived.Test.YtbnddpicpomakaaGreatDoorHPk8
import Derived.Great.BuildSlice
set_option linter.unusedSimpArgs false
set_option linter.unusedVariables false

/- An element of a row of the call's own that is stored into its place. -/
set_option linter.unusedSimpArgs false
set_option linter.unusedVariables false
set_option maxRecDepth 100000
namespace Go.Proofs.YtbnddpicpomakaaGreatDoor
open Go.RowKit

theorem run_storeVar_in {P : Program} (w : World) (g off : Nat) (T ty : TypeId) (cur : Array Value) (cells : Array Value) (hg : w.heap[g]? = some (.cells cur T (0, 0))) (hi : (P.info? ty).map (·.size) = some cells.size) (hfit : off + cells.size ≤ cur.size) (h1 : ∀ v ∈ cells.toList, v.oneCell' = true) :
    (storeVar ty ⟨g, off, none⟩ (.agg cells)).run P w = .ok () (w.setRow g (cur.toList.take off ++ cells.toList ++ cur.toList.drop (off + cells.size)).toArray) := by
  have h := run_storeCells_at (P := P) g off T cells.toList 0 cur w hg (by simpa using hfit) h1
  cases hq : P.info? ty with
  | none => simp [hq] at hi
  | some i =>
    simp [hq] at hi
    have e : (Value.agg cells).cells = cells := rfl
    simp [storeVar, sizeOf, typeInfo, hq, e, hi]
    simpa using h

/-- The row with its last element stored anew. -/
theorem own_put {P : Program} {w : World} {base : Nat} {e : TypeId} {z n : Nat} {v : Value} {l news : List Value} (h : w.ownsRow base e z v (n + 1) (l ++ news)) (hl : l.length = n * z) (hn : news.length = z) (cs : Array Value) (hc : cs.size = z) (hi : (P.info? e).map (·.size) = some z) (h1 : ∀ u ∈ cs.toList, u.oneCell' = true) :
    ∃ g cap R, v = .slice (some ⟨g, 0, none⟩) (n + 1) cap ∧ base ≤ g ∧ g < w.heap.size ∧ n + 1 ≤ cap ∧ cap ≤ 9223372036854775807 ∧
      (∀ W : World, W.heap[g]? = w.heap[g]? → (storeVar e ⟨g, n * z, none⟩ (.agg cs)).run P W = .ok () (W.setRow g R) ∧ (W.setRow g R).ownsRow base e z v (n + 1) (l ++ cs.toList)) ∧ ∀ j, j < z → ∃ u, w.cell? ⟨g, n * z + j, none⟩ = some u := by
  obtain ⟨h2, h3⟩ := h
  rcases h3 with ⟨_, h0⟩ | ⟨g, cap, cur, rfl, hg, hh, hnc, hcm, hcs, hcur⟩
  · omega
  · have hglt : g < w.heap.size := (Array.getElem?_eq_some_iff.1 hh).1
    have hfit : n * z + z ≤ cur.size := by rw [hcs]; have := Nat.mul_le_mul_right z hnc; rw [Nat.add_mul] at this; omega
    have hnz : (n + 1) * z = n * z + z := by rw [Nat.add_mul]; omega
    have hlt : cur.toList.take (n * z) = l := by
      have h5 := congrArg (List.take (n * z)) hcur
      rw [List.take_take, hnz, Nat.min_eq_left (by omega), ← hl, List.take_left] at h5
      rw [← hl]; exact h5
    refine ⟨g, cap, (cur.toList.take (n * z) ++ cs.toList ++ cur.toList.drop (n * z + cs.size)).toArray, rfl, hg, hglt, hnc, by unfold maxLen at hcm; omega, fun W hW => ?_, fun j hj => ?_⟩
    · have hWg : W.heap[g]? = some (.cells cur e (0, 0)) := hW.trans hh
      refine ⟨run_storeVar_in W g (n * z) e e cur cs hWg (by rw [hi, hc]) (by rw [hc]; exact hfit) h1, ?_, .inr ⟨g, cap, _, rfl, hg, setRow_heap W g cur _ e _ hWg, hnc, hcm, ?_, ?_⟩⟩
      · rw [List.length_append, hl, hnz]; simp [hc]
      · simp only [List.size_toArray, List.length_append, List.length_take, List.length_drop, Array.length_toList]
        omega
      · rw [hlt]
        have : (l ++ cs.toList).length = (n + 1) * z := by rw [List.length_append, hl, hnz]; simp [hc]
        rw [← this, List.toList_toArray]
        exact List.take_left
    · have hj2 : n * z + j < cur.size := by omega
      exact ⟨cur[n * z + j], by simp only [World.cell?, hh]; simp [hj2]⟩

/-- 'append(s, x..)' of m values that lie in a block: one operation; where the row lies behind it. -/
theorem wp_appG {P : Program} {o : Oper} {a : Act} {K : Act → World → Prop} {Q : Exit → Act → World → Prop} (s x : Operand) (t : TypeId)
    (ho : o.op = .call { callee := .builtin .append, args := #[s, x], argTypes := #[t, t] })
    (base : Nat) (e : TypeId) (i : TypeInfo) (zr : Value) (z bytes m : Nat) (ht : P.underlying t = some (.slice e)) (hi : P.info? e = some i) (hz : i.zero = some zr) (hzs : zr.cells.size = z)
    (hsize : i.size = z) (hz0 : 0 < z) (hby : i.bytes = bytes) (hb1000 : bytes ≤ 1000)
    (v : Value) (n : Nat) (l news : List Value) (w : World) (hown : w.ownsRow base e z v n l) (hs : a.eval s = v) (b c : Nat) (hn : ∀ (j : Nat) u, news[j]? = some u → w.cell? ⟨b, j, none⟩ = some u) (hl : news.length = m * z) (h1 : ∀ u ∈ news, u.oneCell' = true)
    (hx : a.eval x = .slice (some ⟨b, 0, none⟩) m c) (hlen : n + m < 100000000000) (hbase : base ≤ w.heap.size)
    (h : ∀ v' w', w'.ownsRow base e z v' (n + m) (l ++ news) → Chg v.ownBlock.toList w w' → (v'.ownBlock = v.ownBlock ∨ ∀ g, v'.ownBlock = some g → w.heap.size ≤ g) → K (a.put o.dst v') w') :
    o.wp P a w K Q := by
  have hnews : ∀ j u, news[j]? = some u → w.cell? ((⟨b, 0, none⟩ : Addr).add j) = some u := by
    intro j u hj
    have e0 : (⟨b, 0, none⟩ : Addr).add j = ⟨b, j, none⟩ := by
      unfold Addr.add; split <;> simp_all
    rw [e0]; exact hn j u hj
  have h63 : n + m ≤ maxLen := by unfold maxLen; omega
  have hbs : (n + m) * bytes ≤ 140737488355328 := by
    have : (n + m) * bytes ≤ 100000000000 * 1000 := Nat.mul_le_mul (by omega) hb1000
    omega
  obtain ⟨v', w', hrun, h2, h3, _⟩ := run_append_own (P := P) w base t o.type e i zr z bytes ht hi hz hsize hby hzs hz0 v n l hown ⟨b, 0, none⟩ m c news hl hnews h1 h63 hbs hbase
  have hfr := append_fresh (P := P) w base t o.type e i zr z bytes ht hi hz hsize hby hzs hz0 v n l hown ⟨b, 0, none⟩ m c news hl hnews h1 h63 hbs v' w' hrun
  unfold Oper.wp execOp
  simp only [ho, resolve, invoke, builtin, Sem.run_bind, Sem.run_pure, Result.andThen_ok, List.map_toArray, List.map_cons, List.map_nil, hs, hx, hrun]
  exact h v' w' h2 ⟨h3.os, h3.tape, h3.output, h3.size, fun k hk hn => h3.block k hk (by intro he; apply hn; rw [Option.mem_toList]; exact he.symm)⟩ hfr

theorem KidsIn.add2 {lo : Nat} {W w6 : World} {T : TypeId} {n : Nat} {cv v6 : Value} {L : List XM} {y : XM} (h : KidsIn lo W T n cv L) (hs : W.heap.size ≤ w6.heap.size) (hlo : lo ≤ W.heap.size)
    (hk : ∀ b, lo ≤ b → b < W.heap.size → cv.ownBlock ≠ some b → w6.heap[b]? = W.heap[b]?)
    (hy : XIn (fun b => W.heap.size ≤ b ∧ b < w6.heap.size ∧ v6.ownBlock ≠ some b) w6 n y) (hr : w6.ownsRow lo T 8 v6 (L.length + 1) (cellsOf cellsX L ++ cellsX y)) (hf : v6.ownBlock = cv.ownBlock ∨ ∀ g, v6.ownBlock = some g → W.heap.size ≤ g) :
    KidsIn lo w6 T n v6 (L ++ [y]) := by
  refine ⟨by rw [List.length_append]; exact (cellsOf_snoc cellsX L y).symm ▸ hr, fun z hz => ?_⟩
  rcases List.mem_append.1 hz with hz | hz
  · have hz2 := h.kid z hz
    refine (hz2.keep (w' := w6) (fun b hb => hk b hb.1 hb.2.1 hb.2.2)).imp fun b hb => ⟨hb.1, by omega, ?_⟩
    rcases hf with hf | hf
    · rw [hf]; exact hb.2.2
    · intro hg; have := hf b hg; omega
  · rw [List.mem_singleton.1 hz]
    exact hy.imp fun b hb => ⟨by omega, hb.2.1, hb.2.2⟩
end Go.Proofs.YtbnddpicpomakaaGreatDoor

/- Operations on large arrays and structs, carried out as one step. -/
set_option linter.unusedSimpArgs false
set_option linter.unusedVariables false
set_option maxRecDepth 100000
namespace Go.Proofs.YtbnddpicpomakaaGreatDoor
open Go.RowKit

section
variable {P : Program} {ops : Array Oper} {Q : Exit → Act → World → Prop}

theorem exec_load {o : Oper} {a : Act} {w : World} {ty : TypeId} {x : Operand} {ad : Addr} {v : Value} (ho : o.op = .load ty x) (hx : a.eval x = .pointer (some ad)) (h : (loadVar ty ad).run P w = .ok v w) :
    (execOp a.eval o).run P w = .ok (.value v) w := by
  unfold execOp
  simp only [ho, hx, Instr.loadAt, Instr.sureAddr, Sem.run_bind, Sem.run_pure, Result.andThen_ok, h]

/-- A load in a plain region. -/
theorem wpList_loadV {rest : List Oper} {o : Oper} {a : Act} {w : World} (hg : o.guard = none) (ty : TypeId) (x : Operand) (ho : o.op = .load ty x) {ad : Addr} (hx : a.eval x = .pointer (some ad)) {v : Value} (h : (loadVar ty ad).run P w = .ok v w)
    (hK : wpList P ops Q rest (a.put o.dst v) w) : wpList P ops Q (o :: rest) a w :=
  wpList_plain hg fun _ hk => by
    unfold Oper.wp
    rw [exec_load ho hx h]
    exact hk _ _ hK

/-- A store in a plain region. -/
theorem wpList_storeV {rest : List Oper} {o : Oper} {a : Act} {w w' : World} (hg : o.guard = none) (ty : TypeId) (x y : Operand) (ho : o.op = .store ty x y) {ad : Addr} (hx : a.eval x = .pointer (some ad)) {v : Value} (hy : a.eval y = v) (h : (storeVar ty ad v).run P w = .ok () w')
    (hK : wpList P ops Q rest (a.put o.dst undef) w') : wpList P ops Q (o :: rest) a w :=
  wpList_plain hg fun _ hk => by
    unfold Oper.wp execOp
    simp only [ho, hx, hy, Instr.storeAt, Instr.sureAddr, Sem.run_bind, Sem.run_pure, Result.andThen_ok, h]
    exact hk _ _ hK

/-- An operation of a plain region whose run is known. -/
theorem wpList_val {rest : List Oper} {o : Oper} {a : Act} {w w' : World} (hg : o.guard = none) {v : Value} (h : (execOp a.eval o).run P w = .ok (.value v) w')
    (hK : wpList P ops Q rest (a.put o.dst v) w') : wpList P ops Q (o :: rest) a w :=
  wpList_plain hg fun _ hk => by
    unfold Oper.wp
    rw [h]
    exact hk _ _ hK
theorem wpList_skp {rest : List Oper} {o : Oper} {a : Act} {w w' : World} (hg : o.guard = none) (h : (execOp a.eval o).run P w = .ok .skip w')
    (hK : wpList P ops Q rest (a.put o.dst undef) w') : wpList P ops Q (o :: rest) a w :=
  wpList_plain hg fun _ hk => by
    unfold Oper.wp
    rw [h]
    exact hk _ _ hK
/-- One whose run is known, at its own. -/
theorem wp_val {o : Oper} {a : Act} {w w' : World} {K : Act → World → Prop} {v : Value} (h : (execOp a.eval o).run P w = .ok (.value v) w') (hK : K (a.put o.dst v) w') : o.wp P a w K Q := by
  unfold Oper.wp
  rw [h]
  exact hK
theorem wp_skp {o : Oper} {a : Act} {w w' : World} {K : Act → World → Prop} (h : (execOp a.eval o).run P w = .ok .skip w') (hK : K (a.put o.dst undef) w') : o.wp P a w K Q := by
  unfold Oper.wp
  rw [h]
  exact hK

theorem exec_mapUpdate {o : Oper} {a : Act} {w w' : World} {T : TypeId} {m k x : Operand} (ho : o.op = .mapUpdate T m k x) {vm vk vx : Value} (hm : a.eval m = vm) (hk : a.eval k = vk) (hx : a.eval x = vx) (h : (Instr.mapUpdate T vm vk vx).run P w = .ok () w') :
    (execOp a.eval o).run P w = .ok .skip w' := by
  unfold execOp
  simp only [ho, hm, hk, hx, Sem.run_bind, h, Result.andThen_ok, Sem.run_pure]
theorem exec_lookup {o : Oper} {a : Act} {w : World} {T : TypeId} {m k : Operand} {ok : Bool} (ho : o.op = .lookup T m k ok) {vm vk v : Value} (hm : a.eval m = vm) (hk : a.eval k = vk) (h : (Instr.lookup T vm vk ok).run P w = .ok v w) :
    (execOp a.eval o).run P w = .ok (.value v) w := by
  unfold execOp
  simp only [ho, hm, hk, Sem.run_bind, h, Result.andThen_ok, Sem.run_pure]
theorem exec_alloc {o : Oper} {a : Act} {w : World} {e : TypeId} (ho : o.op = .alloc e) {z : Value} (hz : ∀ W, (zeroValue e).run P W = .ok z W) :
    (execOp a.eval o).run P w = .ok (.value (.pointer (some ⟨w.heap.size, 0, none⟩))) (w.alloc (.cells z.cells e)) := by
  unfold execOp
  simp only [ho, Instr.alloc, Sem.run_bind, hz, Result.andThen_ok]
  rfl
theorem exec_build {o : Oper} {a : Act} {w : World} {t : TypeId} {parts : Array (Nat × Operand)} (ho : o.op = .build t parts) {cells : Array Value} (h : (Instr.build t (parts.map fun (i, x) => (i, a.eval x))).run P w = .ok (.agg cells) w) :
    (execOp a.eval o).run P w = .ok (.value (.agg cells)) w := by
  unfold execOp
  simp only [ho, Sem.run_bind, h, Result.andThen_ok, Sem.run_pure]
theorem exec_buildSlice {o : Oper} {a : Act} {w w' : World} {t : TypeId} {n : Nat} {parts : Array (Nat × Operand)} (ho : o.op = .buildSlice t n parts) {v : Value} (h : (Instr.buildSlice t n (parts.map fun (i, x) => (i, a.eval x))).run P w = .ok v w') :
    (execOp a.eval o).run P w = .ok (.value v) w' := by
  unfold execOp
  simp only [ho, Sem.run_bind, h, Result.andThen_ok, Sem.run_pure]
theorem exec_buildSlice1 {o : Oper} {a : Act} {w w' : World} {t : TypeId} {n : Nat} {i : Nat} {x : Operand} (ho : o.op = .buildSlice t n #[(i, x)]) {vx v : Value} (hx : a.eval x = vx) (h : (Instr.buildSlice t n #[(i, vx)]).run P w = .ok v w') :
    (execOp a.eval o).run P w = .ok (.value v) w' := exec_buildSlice ho (by simpa [hx] using h)
theorem exec_build1 {o : Oper} {a : Act} {w : World} {t : TypeId} {i : Nat} {x : Operand} (ho : o.op = .build t #[(i, x)]) {vx : Value} {cells : Array Value} (hx : a.eval x = vx) (h : (Instr.build t #[(i, vx)]).run P w = .ok (.agg cells) w) :
    (execOp a.eval o).run P w = .ok (.value (.agg cells)) w := exec_build ho (by simpa [hx] using h)
theorem exec_build2 {o : Oper} {a : Act} {w : World} {t : TypeId} {i j : Nat} {x y : Operand} (ho : o.op = .build t #[(i, x), (j, y)]) {vx vy : Value} {cells : Array Value} (hx : a.eval x = vx) (hy : a.eval y = vy) (h : (Instr.build t #[(i, vx), (j, vy)]).run P w = .ok (.agg cells) w) :
    (execOp a.eval o).run P w = .ok (.value (.agg cells)) w := exec_build ho (by simpa [hx, hy] using h)
theorem exec_store {o : Oper} {a : Act} {w w' : World} {ty : TypeId} {x y : Operand} (ho : o.op = .store ty x y) {ad : Addr} (hx : a.eval x = .pointer (some ad)) {v : Value} (hy : a.eval y = v) (h : (storeVar ty ad v).run P w = .ok () w') :
    (execOp a.eval o).run P w = .ok .skip w' := by
  unfold execOp
  simp only [ho, hx, hy, Instr.storeAt, Instr.sureAddr, Sem.run_bind, Sem.run_pure, Result.andThen_ok, h]
end

/-- The zero value of a type, and its size. -/
theorem zero_of {P : Program} {t : TypeId} {v : Value} (h : (P.info? t).map (·.zero) = some (some v)) (w : World) : (zeroValue t).run P w = .ok v w := by
  cases hq : P.info? t with
  | none => simp [hq] at h
  | some i =>
    simp [hq] at h
    simp [zeroValue, typeInfo, hq, h]
end Go.Proofs.YtbnddpicpomakaaGreatDoor

/- The walk of clone. -/
set_option linter.unusedSimpArgs false
set_option linter.unusedVariables false
set_option maxRecDepth 100000
namespace Go.Proofs.YtbnddpicpomakaaGreatDoor
open Go.RowKit

abbrev zeroXc : Array Value := #[.int .i64 0, .int .u8 0, .int .i64 0, .string ⟨#[]⟩, .string ⟨#[]⟩, .string ⟨#[]⟩, .string ⟨#[]⟩, .slice none 0 0]
/-- The cells of an expression, with another slice of arguments. -/
abbrev Lb.csX (l : Lb) (v : Value) : Array Value := #[.int .i64 l.kd, .int .u8 l.v.k, .int .i64 l.v.n, .string l.v.s, .string l.tb, .string l.nm, .string l.op, v]

/-- 'clone' is at work. -/
structure CloneIn (w W : World) (T : TypeId) (l : Lb) (sv : Value) (n : Nat) (cv : Value) (L : List XM) : Prop where
  box : Blk W w.heap.size T (l.csX sv)
  res : Blk W (w.heap.size + 1) T zeroXc
  bel : Below w.heap.size w W
  lo : w.heap.size + 2 ≤ W.heap.size
  kids : KidsIn (w.heap.size + 2) W T n cv L
theorem CloneIn.new (w : World) (T : TypeId) (l : Lb) (sv : Value) (n : Nat) : CloneIn w ((w.alloc (.cells (l.csX sv) T)).alloc (.cells zeroXc T)) T l sv n (.slice none 0 0) [] := by
  refine ⟨(Blk.new w T (l.csX sv)).alloc _, ?_, ((Below.refl _ w).alloc (Nat.le_refl _) _).alloc (by simp) _, by simp, KidsIn.nil _ _ _ _⟩
  have := Blk.new (w.alloc (.cells (l.csX sv) T)) T zeroXc
  rw [show (w.alloc (.cells (l.csX sv) T)).heap.size = w.heap.size + 1 by simp] at this
  exact this

theorem CloneIn.add {w W w2 w5 : World} {T : TypeId} {l : Lb} {sv : Value} {n : Nat} {cv v5 : Value} {L : List XM} {y : XM} (h : CloneIn w W T l sv n cv L) (hb : Below W.heap.size W w2)
    (hy : XIn (fun b => W.heap.size ≤ b ∧ b < w2.heap.size) w2 n y) (hr : w5.ownsRow (w.heap.size + 2) T 8 v5 (L.length + 1) (cellsOf cellsX L ++ cellsX y)) {o : Obj} (hc : Chg cv.ownBlock.toList (w2.alloc o) w5) (hf : v5.ownBlock = cv.ownBlock ∨ ∀ g, v5.ownBlock = some g → w2.heap.size < g) :
    CloneIn w w5 T l sv n v5 (L ++ [y]) := by
  have hsz := hc.size
  simp at hsz
  have h0 := hb.size
  have hlo := h.lo
  have hgt : ∀ g, cv.ownBlock = some g → w.heap.size + 2 ≤ g := fun g hg => (h.kids.row.lt g hg).1
  have hold : Below (w.heap.size + 2) W w5 := (hb.mono hlo).trans (((Below.refl (w.heap.size + 2) w2).alloc (by omega) o).trans (hc.below (by simp; omega) (fun g hg => hgt g (by simpa using hg))))
  exact ⟨(hold.block _ (by omega)).trans h.box, (hold.block _ (by omega)).trans h.res, h.bel.trans (hold.mono (by omega)), by omega, h.kids.add h0 (fun b _ hb2 => hb.block b hb2) hlo hy hr hc hf⟩

set_option maxHeartbeats 4000000 in
theorem clone_is : ∀ (n : Nat) (x : XM) (w : World), XAt w.heap.size w n x → x.t.args.length ≤ 1000000 → x.t.allB (fun _ k => decide (k ≤ 1000000)) = true →
    Calls Tryz.prog 76 #[x.v] w (RetX w n x.t)
  | 0, _, _, h, _, _ => h.elim
  | n + 1, ⟨t, a, cap⟩, w, h, _, hall => by
    rw [XM.v_eq]
    obtain ⟨i0, hi, hz0, hz1, hz2⟩ := info_parts info_ex
    have HA := Lib.hid h
    have hF := h.fair.1
    rw [Rose.allB_eq, Bool.and_eq_true, List.all_eq_true] at hall
    have hm6 := hall.1
    simp only at hm6 hF ⊢
    have HAll := Lib.hid hall.2
    have HFa := Lib.hid hF
    obtain ⟨m, hm⟩ : ∃ m, t.args.length = m := ⟨_, rfl⟩
    have HM := Lib.hid hm
    rw [hm] at hm6 ⊢
    have hm6 : m ≤ 1000000 := by simpa using hm6
    have IH : Hid (∀ (y : XM) (W : World), XAt W.heap.size W n y → y.t ∈ t.args → Calls Tryz.prog 76 #[.agg #[.int .i64 y.t.lab.kd, .int .u8 y.t.lab.v.k, .int .i64 y.t.lab.v.n, .string y.t.lab.v.s, .string y.t.lab.tb, .string y.t.lab.nm, .string y.t.lab.op, .slice y.a y.t.args.length y.cap]] W (RetX W n y.t)) := fun y W hy hmem => by
      have hya := HAll.out y.t hmem
      have hyl : y.t.args.length ≤ 1000000 := by rw [Rose.allB_eq, Bool.and_eq_true] at hya; simpa using hya.1
      have := clone_is n y W hy hyl hya
      rw [XM.v_eq] at this; exact this
    have HC0 := Lib.hid (CloneIn.new w 45 t.lab (.slice a m cap) n)
    obtain ⟨w0, hw0⟩ : ∃ w0, (w.alloc (.cells (t.lab.csX (.slice a m cap)) 45)).alloc (.cells zeroXc 45) = w0 := ⟨_, rfl⟩
    rw [hw0] at HC0
    have x7 : w0.cell? ⟨w.heap.size, 7, none⟩ = some (.slice a m cap) := (HC0.out.box.cell 7).trans rfl
    clear h hm hF hall
    go_enter Tryz.func76, Tryz.ntmps76
    go_wp2
    clear x7
    go_loopw [3, 9] (fun v i wr => ∃ (k : Nat) (cv : Value) (L : List XM), cv = v ∧ k ≤ m ∧ i = .int .i64 (k : Int) ∧ Hid (L.map (·.t) = t.args.take k) ∧ Hid (CloneIn w wr 45 t.lab (.slice a m cap) n cv L)) (fun _ i _ => m - (intOf i).toNat)
    case atStart => exact ⟨0, _, [], rfl, by omega, rfl, rfl, HC0.out⟩
    case round =>
      clear HC0
      obtain ⟨k, cv, L, rfl, hk, rfl, HLt, HC⟩ := hrel
      have HBs : Hid (w.heap.size + 2 ≤ wr.heap.size) := HC.out.lo
      by_cases hlt : k < m
      · have hkl : k < t.args.length := by rw [HM.out]; exact hlt
        obtain ⟨y, hy, hAy, b, o, hab, hbN, hKid⟩ := (HA.out.later HC.out.bel).kid8 (k := k) hkl
        simp only at hab hy
        subst hab
        obtain ⟨y0, y1, y2, y3, y4, y5, y6, y7⟩ := hKid
        have hLk : L.length = k := by have := congrArg List.length HLt.out; rw [List.length_map, List.length_take] at this; omega
        have HLk := Lib.hid hLk
        have hmem : y.t ∈ t.args := by rw [hy]; exact List.getElem_mem hkl
        have HY := Lib.hid (IH.out y (wr.alloc (.cells #[.int .i64 y.t.lab.kd, .int .u8 y.t.lab.v.k, .int .i64 y.t.lab.v.n, .string y.t.lab.v.s, .string y.t.lab.tb, .string y.t.lab.nm, .string y.t.lab.op, .slice y.a y.t.args.length y.cap] 45)) (hAy.later ((Below.refl _ wr).alloc (Nat.le_refl _) _)) hmem)
        have HTk : Hid (t.args.take (k + 1) = t.args.take k ++ [y.t]) := by
          rw [List.take_succ_eq_append_getElem hkl, ← hy]; rfl
        clear hy hAy hkl hmem HA IH HAll hLk
        go_wp2_with fail
        refine HY.out.mono ?_
        rintro e w2 ⟨z, rfl, hzt, hzI, hb2⟩
        have HB1 : Hid (Below wr.heap.size wr w2) := ((Below.refl _ wr).alloc (Nat.le_refl _) _).trans (hb2.mono (by simp))
        have HzI : Hid (XIn (fun b => wr.heap.size ≤ b ∧ b < w2.heap.size) w2 n z) := hzI.imp fun b hb => ⟨by have := hb.1; simp at this; omega, hb.2⟩
        have HZt := Lib.hid hzt
        have hrow2 : w2.ownsRow (w.heap.size + 2) 45 8 cv k (cellsOf cellsX L) := by
          have := own_below HC.out.kids.row (Nat.le_refl _) HB1.out
          rw [HLk.out] at this; exact this
        have HR2 := Lib.hid hrow2
        have HBs2 : Hid (w.heap.size + 2 ≤ w2.heap.size) := Nat.le_trans HBs.out HB1.out.size
        clear hb2 HY y0 y1 y2 y3 y4 y5 y6 y7 hzI hzt hrow2
        go_wp2_with (first | (at_builtin; refine wpList_appF rfl _ _ 43 rfl (w.heap.size + 2) 45 i0 (.agg #[.int .i64 0, .int .u8 0, .int .i64 0, .string ⟨#[]⟩, .string ⟨#[]⟩, .string ⟨#[]⟩, .string ⟨#[]⟩, .slice none 0 0]) 8 112 1 Tryz.underlying43 hi hz0 rfl hz1 (by omega) hz2 (by omega) cv k _ (cellsX z) w2 HR2.out rfl _ rfl rfl (by intro u hu; simp [cellsX, cellsR, Lb.cells] at hu; rcases hu with rfl | rfl | rfl | rfl | rfl | rfl | rfl | rfl <;> rfl) rfl (by omega) HBs2.out ?_; intro v5 w5 hown5 hc5 hsz5 hf5; have HO5 := Lib.hid hown5; have HC5 := Lib.hid hc5; have HF5 := Lib.hid hf5; clear hown5 hc5 hsz5 hf5))
        have HN : Hid (CloneIn w w5 45 t.lab (.slice (some ⟨b, o, none⟩) m cap) n v5 (L ++ [z])) := HC.out.add HB1.out HzI.out (by rw [HLk.out]; exact HO5.out) HC5.out HF5.out
        go_roundw
        case rel => exact ⟨k + 1, v5, L ++ [z], rfl, by omega, by go_num, by rw [HTk.out, List.map_append, HLt.out, ← HZt.out]; rfl, HN.out⟩
        case measure => simp [intOf]; omega
      · have hke : k = m := by omega
        have hLt := HLt.out
        rw [hke, ← HM.out, List.take_length] at hLt
        have HLt2 := Lib.hid hLt
        have hLm : L.length = m := by have := congrArg List.length hLt; rw [List.length_map] at this; rw [this]; exact HM.out
        obtain ⟨ac, cc, hcv, hX⟩ := HC.out.kids.tree t.lab HFa.out
        rw [hLm] at hcv
        rw [hLt] at hX
        subst hcv
        have hbox := HC.out.box
        have hBlk1 : Blk (wr.setCell ⟨w.heap.size, 7, none⟩ (.slice ac m cc)) w.heap.size 45 (t.lab.csX (.slice ac m cc)) := hbox.set_ 7 _
        have hres1 : Blk (wr.setCell ⟨w.heap.size, 7, none⟩ (.slice ac m cc)) (w.heap.size + 1) 45 zeroXc := HC.out.res.far (by omega) _
        have hc1 : Chg [w.heap.size] wr (wr.setCell ⟨w.heap.size, 7, none⟩ (.slice ac m cc)) := (Chg.refl _ _).setCell (.inl (by simp)) _
        have pc := (hbox.cell 7).trans rfl
        have pf := hbox.frozen 7
        have pl := hbox.lt
        obtain ⟨W1, hW1⟩ : ∃ W1, wr.setCell ⟨w.heap.size, 7, none⟩ (.slice ac m cc) = W1 := ⟨_, rfl⟩
        rw [hW1] at hBlk1 hres1 hc1
        have z0 := (hBlk1.cell 0).trans rfl
        have z1 := (hBlk1.cell 1).trans rfl
        have z2 := (hBlk1.cell 2).trans rfl
        have z3 := (hBlk1.cell 3).trans rfl
        have z4 := (hBlk1.cell 4).trans rfl
        have z5 := (hBlk1.cell 5).trans rfl
        have z6 := (hBlk1.cell 6).trans rfl
        have z7 := (hBlk1.cell 7).trans rfl
        have HS : Hid ((storeVar 45 ⟨w.heap.size + 1, 0, none⟩ (.agg (t.lab.csX (.slice ac m cc)))).run Tryz.prog W1 = .ok () (W1.setRow (w.heap.size + 1) (t.lab.csX (.slice ac m cc)))) :=
          run_storeVar_row _ _ _ 45 _ _ hres1 (by rw [info_exS]; rfl) rfl (by simp [Value.oneCell'])
        have HL : Hid ((loadVar 45 ⟨w.heap.size + 1, 0, none⟩).run Tryz.prog (W1.setRow (w.heap.size + 1) (t.lab.csX (.slice ac m cc))) = .ok (.agg (t.lab.csX (.slice ac m cc))) (W1.setRow (w.heap.size + 1) (t.lab.csX (.slice ac m cc)))) :=
          run_loadVar_row _ _ _ 45 _ (0, 0) _ (Blk.setRow (new := t.lab.csX (.slice ac m cc)) hres1) Tryz.underlying45 rfl (by rw [info_exS]; rfl)
        have hcR : Chg [w.heap.size, w.heap.size + 1] wr (W1.setRow (w.heap.size + 1) (t.lab.csX (.slice ac m cc))) := (hc1.sub (by simp)).setRow (.inl (by simp)) _
        have HF : Hid (Below w.heap.size w (W1.setRow (w.heap.size + 1) (t.lab.csX (.slice ac m cc)))) := HC.out.bel.trans (hcR.below HC.out.bel.size (by simp))
        have HX : Hid (XIn (fun b => w.heap.size ≤ b ∧ b < (W1.setRow (w.heap.size + 1) (t.lab.csX (.slice ac m cc))).heap.size) (W1.setRow (w.heap.size + 1) (t.lab.csX (.slice ac m cc))) (n + 1) ⟨.mk t.lab t.args, ac, cc⟩) :=
          (XIn.keep (fun b hb => hcR.block b hb.2 (by simp; omega)) hX).imp fun b hb => ⟨by omega, by have := hcR.size; omega⟩
        clear hbox hBlk1 hres1 hc1 hcR hX HC HLt HLt2 hLt hLm HA IH HAll HFa
        have hmk : (Rose.mk t.lab t.args).args.length = m := HM.out
        go_wp2_with (first | (guard_target =~ wpList _ _ _ (Oper.mk _ (Op.store 45 _ _) _ _ _ _ :: _) _ _; refine wpList_skp rfl (exec_store rfl rfl rfl HS.out) ?_))
        refine bodyPost_ret (v := .agg (t.lab.csX (.slice ac m cc))) (results_cell1x Tryz.results76 _ _ rfl HL.out) rfl ⟨⟨.mk t.lab t.args, ac, cc⟩, ?_, t.eta, HX.out, HF.out⟩
        rw [hmk]; rfl
end Go.Proofs.YtbnddpicpomakaaGreatDoor

/- The walks of the closures of Columns and Aggregates: what is picked. -/
set_option linter.unusedSimpArgs false
set_option linter.unusedVariables false
set_option maxRecDepth 100000
namespace Go.Proofs.YtbnddpicpomakaaGreatDoor
open Go.RowKit

/-- Picking is under way: the variable in block G holds the row. -/
structure PickIn (G : Nat) (W : World) (n : Nat) (cv : Value) (L : List XM) : Prop where
  var : Blk W G 43 #[cv]
  kids : KidsIn (G + 1) W 45 n cv L
theorem PickIn.lt {G : Nat} {W : World} {n : Nat} {cv : Value} {L : List XM} (h : PickIn G W n cv L) : G < W.heap.size := h.var.lt
theorem PickIn.keep {G : Nat} {W W' : World} {n : Nat} {cv : Value} {L : List XM} (h : PickIn G W n cv L) (hb : Below W.heap.size W W') : PickIn G W' n cv L :=
  ⟨(hb.block G h.lt).trans h.var, h.kids.keep hb.size (fun b _ hb2 => hb.block b hb2)⟩

theorem below_chg {w w' : World} {S : List Nat} (h : Below w.heap.size w w') : Chg S w w' := ⟨h.os, h.tape, h.output, h.size, fun k hk _ => h.block k hk⟩
/-- What picking comes to. -/
structure Picked (G : Nat) (W : World) (n : Nat) (cv : Value) (L : List XM) (p : List Ex) (W' : World) (cv' : Value) (L' : List XM) : Prop where
  pick : PickIn G W' n cv' L'
  list : L'.map (·.t) = L.map (·.t) ++ p
  chg : Chg (G :: cv.ownBlock.toList) W W'
  own : cv'.ownBlock = cv.ownBlock ∨ ∀ g, cv'.ownBlock = some g → W.heap.size ≤ g
def RetDo (G : Nat) (W : World) (n : Nat) (cv : Value) (L : List XM) (p : List Ex) (v : Value) (e : Ending) (W' : World) : Prop :=
  e = .returned v ∧ ∃ cv' L', Picked G W n cv L p W' cv' L'

theorem Picked.none {G : Nat} {W W' : World} {n : Nat} {cv : Value} {L : List XM} (h : PickIn G W n cv L) (hb : Below W.heap.size W W') : Picked G W n cv L [] W' cv L :=
  ⟨h.keep hb, by simp, below_chg hb, .inl rfl⟩
theorem Picked.trans {G : Nat} {W W1 W2 : World} {n : Nat} {cv cv1 cv2 : Value} {L L1 L2 : List XM} {p q : List Ex} (h : Picked G W n cv L p W1 cv1 L1) (k : Picked G W1 n cv1 L1 q W2 cv2 L2) : Picked G W n cv L (p ++ q) W2 cv2 L2 := by
  refine ⟨k.pick, by rw [k.list, h.list, List.append_assoc], h.chg.trans' ?_ k.chg, ?_⟩
  · intro b hb
    rcases List.mem_cons.1 hb with rfl | hb
    · exact .inl (by simp)
    · rw [Option.mem_toList] at hb
      rcases h.own with ho | ho
      · rw [ho] at hb; exact .inl (by simp [hb])
      · exact .inr (ho b hb)
  · have hs := h.chg.size
    rcases k.own with ko | ko
    · rw [ko]; exact h.own
    · exact .inr fun g hg => by have := ko g hg; omega

theorem pick_end {G : Nat} {W w5 W6 : World} {n m2 g : Nat} {cv v5 : Value} {L : List XM} {y : XM} (hP : PickIn G W n cv L) (hc5 : Chg cv.ownBlock.toList W w5) (hf5 : v5.ownBlock = cv.ownBlock ∨ ∀ q, v5.ownBlock = some q → m2 ≤ q) (hm2 : W.heap.size ≤ m2) (hm5 : m2 ≤ w5.heap.size)
    (hy : XIn (fun b => W.heap.size ≤ b ∧ b < m2) w5 n y) (hvg : v5.ownBlock = some g) (hc6 : Chg [G, g] w5 W6) (hvar : Blk W6 G 43 #[v5]) (hr : W6.ownsRow (G + 1) 45 8 v5 (L.length + 1) (cellsOf cellsX L ++ cellsX y)) :
    Picked G W n cv L [y.t] W6 v5 (L ++ [y]) := by
  have hG := hP.lt
  have hs6 := hc6.size
  have hs5 := hc5.size
  have hcvlt : ∀ q, cv.ownBlock = some q → q < W.heap.size := fun q hq => own_lt hP.kids.row hq
  have hgb : ∀ b, W.heap.size ≤ b → b < m2 → b ≠ g := fun b h1 h2 hbg => by
    subst hbg
    rcases hf5 with hf | hf
    · rw [hf] at hvg; have := hcvlt b hvg; omega
    · have := hf b hvg; omega
  have hg2 : cv.ownBlock = some g ∨ W.heap.size ≤ g := by
    rcases hf5 with hf | hf
    · exact .inl (by rw [← hf]; exact hvg)
    · exact .inr (by have := hf g hvg; omega)
  refine ⟨⟨hvar, hP.kids.add2 (by omega) (by omega) ?_ ?_ hr ?_⟩, by simp, hc5.sub (fun k hk => List.mem_cons_of_mem _ hk) |>.trans' ?_ hc6, ?_⟩
  · intro b h1 h2 h3
    refine (hc6.block b (by omega) ?_).trans (hc5.block b h2 (by rw [Option.mem_toList]; exact h3))
    intro hm
    rcases List.mem_cons.1 hm with hm | hm
    · omega
    · rw [List.mem_singleton.1 hm] at h2 h3
      rcases hg2 with hg2 | hg2
      · exact h3 hg2
      · omega
  · refine (hy.keep (w' := W6) (fun b hb => hc6.block b (by omega) ?_)).imp fun b hb => ⟨hb.1, by omega, ?_⟩
    · intro hm
      rcases List.mem_cons.1 hm with hm | hm
      · omega
      · exact hgb b hb.1 hb.2 (List.mem_singleton.1 hm)
    · rw [hvg]; intro he; exact hgb b hb.1 hb.2 (Option.some.inj he).symm
  · rcases hf5 with hf | hf
    · exact .inl hf
    · exact .inr fun q hq => by have := hf q hq; omega
  · intro b hb
    rcases List.mem_cons.1 hb with rfl | hb
    · exact .inl (by simp)
    · rw [List.mem_singleton.1 hb]
      rcases hg2 with hg2 | hg2
      · exact .inl (by simp [hg2])
      · exact .inr hg2
  · rcases hf5 with hf | hf
    · exact .inl hf
    · exact .inr fun q hq => by have := hf q hq; omega

def pickL (kd : Int) (e : Ex) : List Ex := if e.lab.kd = kd then [e] else []
theorem one_X (z : XM) : ∀ u ∈ cellsX z, u.oneCell' = true := by
  intro u hu; simp [cellsX, cellsR, Lb.cells] at hu; rcases hu with rfl | rfl | rfl | rfl | rfl | rfl | rfl | rfl <;> rfl
abbrev zero8 : List Value := [.int .i64 0, .int .u8 0, .int .i64 0, .string ⟨#[]⟩, .string ⟨#[]⟩, .string ⟨#[]⟩, .string ⟨#[]⟩, .slice none 0 0]
theorem one_Z : ∀ u ∈ zero8, u.oneCell' = true := by
  intro u hu; simp at hu; rcases hu with rfl | rfl | rfl | rfl | rfl | rfl <;> rfl
theorem info_sl : (Tryz.prog.info? 43).map (·.size) = some 1 := by kernel_rfl

/-- Both orders of the two stores at the end. -/
theorem pick_both {G : Nat} {W wa w5 : World} {n m2 k : Nat} {cv v5 : Value} {ac : Option Addr} {cc : Nat} {S : List Nat} {L : List XM} {y : XM} (hP : PickIn G W n cv L) (hcv : cv = .slice ac k cc) (hS : cv.ownBlock.toList = S) (hLk : L.length = k) (hWa : Below W.heap.size W wa) (hy : XIn (fun b => W.heap.size ≤ b ∧ b < m2) wa n y) (hm1 : W.heap.size ≤ m2) (hm2 : m2 ≤ wa.heap.size)
    (hown5 : w5.ownsRow (G + 1) 45 8 v5 (k + 1) (cellsOf cellsX L ++ zero8)) (hc5 : Chg S wa w5) (hf5 : v5.ownBlock = (Value.slice ac k cc).ownBlock ∨ ∀ g, v5.ownBlock = some g → wa.heap.size ≤ g) :
    ∃ g cap R, v5 = .slice (some ⟨g, 0, none⟩) (k + 1) cap ∧ G < g ∧ k + 1 ≤ cap ∧
      (∀ V : World, V.heap[g]? = w5.heap[g]? → (storeVar 45 ⟨g, k * 8, none⟩ (.agg #[.int .i64 y.t.lab.kd, .int .u8 y.t.lab.v.k, .int .i64 y.t.lab.v.n, .string y.t.lab.v.s, .string y.t.lab.tb, .string y.t.lab.nm, .string y.t.lab.op, .slice y.a y.t.args.length y.cap])).run Tryz.prog V = .ok () (V.setRow g R)) ∧
      (∀ V : World, V.heap[G]? = w5.heap[G]? → (storeVar 43 ⟨G, 0, none⟩ v5).run Tryz.prog V = .ok () (V.setRow G #[v5])) ∧
      Picked G W n cv L [y.t] ((w5.setRow g R).setRow G #[v5]) v5 (L ++ [y]) ∧ Picked G W n cv L [y.t] ((w5.setRow G #[v5]).setRow g R) v5 (L ++ [y]) ∧
      (∀ B, W.heap.size ≤ B → B < m2 → ((w5.setRow g R).setRow G #[v5]).heap[B]? = wa.heap[B]? ∧ ((w5.setRow G #[v5]).setRow g R).heap[B]? = wa.heap[B]?) := by
  subst hS
  have hG := hP.lt
  have hll : (cellsOf cellsX L).length = k * 8 := by rw [cellsOf_len cellsX 8 cellsX_len, hLk]
  obtain ⟨g, cap, R, rfl, hg1, hg2, hcap, hcm, hput, -⟩ := own_put (P := Tryz.prog) hown5 hll rfl (cellsX y).toArray rfl info_exS (by simpa using one_X y)
  have hGS : G ∉ cv.ownBlock.toList := fun hm => by rw [Option.mem_toList] at hm; have := (hP.kids.row.lt G hm).1; omega
  have hvar5 : Blk w5 G 43 #[cv] := (hc5.block G (by have := hWa.size; omega) hGS).trans ((hP.keep hWa).var)
  have hcW : Chg cv.ownBlock.toList W w5 := (below_chg hWa).trans hc5
  have hf : (Value.slice (some ⟨g, 0, none⟩) (k + 1) cap).ownBlock = cv.ownBlock ∨ ∀ q, (Value.slice (some ⟨g, 0, none⟩) (k + 1) cap).ownBlock = some q → m2 ≤ q := by
    rw [hcv]
    rcases hf5 with h | h
    · exact .inl h
    · exact .inr fun q hq => by have := h q hq; omega
  have hy5 : XIn (fun b => W.heap.size ≤ b ∧ b < m2) w5 n y := hy.keep fun b hb => hc5.block b (by omega) (fun hm => by rw [Option.mem_toList] at hm; have := own_lt hP.kids.row hm; omega)
  have hs5 := hc5.size
  have hr : ∀ V : World, V.heap[g]? = w5.heap[g]? → (V.setRow g R).ownsRow (G + 1) 45 8 (.slice (some ⟨g, 0, none⟩) (k + 1) cap) (L.length + 1) (cellsOf cellsX L ++ cellsX y) := fun V hV => by
    have := (hput V hV).2
    rw [hLk]; simpa using this
  have hvb : ∀ V : World, V.heap[G]? = w5.heap[G]? → V.heap[G]? = some (.cells #[cv] 43 (0, 0)) := fun V hV => hV.trans hvar5
  refine ⟨g, cap, R, rfl, by omega, hcap, fun V hV => (hput V hV).1, fun V hV => run_storeVar_one V G _ _ cv _ (hvb V hV) info_sl rfl, ?_, ?_, ?_⟩
  · refine pick_end hP hcW hf hm1 (by omega) hy5 rfl (((Chg.refl _ _).setRow (.inl (by simp)) _).setRow (.inl (by simp)) _) (Blk.setRow (old := #[cv]) (hvb _ (setRow_other w5 g G _ (by omega)))) ?_
    exact own_keep (hr w5 rfl) fun q hq => by
      have : q = g := by simpa [Value.ownBlock] using hq.symm
      subst this
      exact setRow_other _ G q _ (by omega)
  · refine pick_end hP hcW hf hm1 (by omega) hy5 rfl (((Chg.refl _ _).setRow (.inl (by simp)) _).setRow (.inl (by simp)) _) ?_ (hr _ (setRow_other w5 G g _ (by omega)))
    exact (setRow_other _ g G _ (by omega)).trans (Blk.setRow (old := #[cv]) (hvb w5 rfl))
  · intro B h1 h2
    have hBg : B ≠ g := by
      intro e; subst e
      rcases hf with h | h
      · have h3 : B < W.heap.size := own_lt hP.kids.row (h.symm.trans rfl)
        omega
      · have := h B rfl; omega
    have hB5 : w5.heap[B]? = wa.heap[B]? := hc5.block B (by omega) (fun hm => by rw [Option.mem_toList] at hm; have := own_lt hP.kids.row hm; omega)
    exact ⟨(setRow_other _ G B _ (by omega)).trans ((setRow_other _ g B _ hBg).trans hB5), (setRow_other _ g B _ hBg).trans ((setRow_other _ G B _ (by omega)).trans hB5)⟩


set_option maxHeartbeats 8000000 in
theorem colsDo_any (G n : Nat) (x : XM) (W : World) (cv : Value) (L : List XM) (hP : PickIn G W n cv L) (h : XAt W.heap.size W n x) (hall : x.t.allB (fun _ k => decide (k ≤ 1000000)) = true) (hL : L.length ≤ 1000000) :
    Calls Tryz.prog 75 #[.agg #[.int .i64 x.t.lab.kd, .int .u8 x.t.lab.v.k, .int .i64 x.t.lab.v.n, .string x.t.lab.v.s, .string x.t.lab.tb, .string x.t.lab.nm, .string x.t.lab.op, .slice x.a x.t.args.length x.cap], .pointer (some ⟨G, 0, none⟩)] W (RetDo G W n cv L (pickL 2 x.t) (.bool true)) := by
  have hmx : x.t.args.length ≤ 1000000 := by rw [Rose.allB_eq, Bool.and_eq_true] at hall; simpa using hall.1
  have HCl := Lib.hid (fun V (hb : Below W.heap.size W V) => clone_is n x V (h.later hb) hmx hall)
  rw [XM.v_eq] at HCl
  have HP := Lib.hid hP
  have HX := Lib.hid (Slot8.new W 45 (.int .i64 x.t.lab.kd) (.int .u8 x.t.lab.v.k) (.int .i64 x.t.lab.v.n) (.string x.t.lab.v.s) (.string x.t.lab.tb) (.string x.t.lab.nm) (.string x.t.lab.op) (.slice x.a x.t.args.length x.cap))
  obtain ⟨w0, hw0⟩ : ∃ w0, W.alloc (.cells #[.int .i64 x.t.lab.kd, .int .u8 x.t.lab.v.k, .int .i64 x.t.lab.v.n, .string x.t.lab.v.s, .string x.t.lab.tb, .string x.t.lab.nm, .string x.t.lab.op, .slice x.a x.t.args.length x.cap] 45) = w0 := ⟨_, rfl⟩
  have HB0 : Hid (Below W.heap.size W w0) := by rw [← hw0]; exact (Below.refl _ W).alloc (Nat.le_refl _) _
  have hs0 : w0.heap.size = W.heap.size + 1 := by rw [← hw0]; simp
  rw [hw0] at HX
  by_cases hk : x.t.lab.kd = 2
  · have hkd : decide (x.t.lab.kd = 2) = true := by simpa using hk
    have hpk : pickL 2 x.t = [x.t] := if_pos hk
    rw [hpk]
    have HK := Lib.hid hk
    obtain ⟨i0, hi, hz0, hz1, hz2⟩ := info_parts info_ex
    have HRow : Hid (W.ownsRow (G + 1) 45 8 cv L.length (cellsOf cellsX L)) := hP.kids.row
    have hGlt := hP.lt
    have HGl := Lib.hid hGlt
    obtain ⟨k, hk5⟩ : ∃ k, L.length = k := ⟨_, rfl⟩
    have HLk := Lib.hid hk5
    rw [hk5] at HRow hL
    obtain ⟨ac, cc, hcv, hcc, -, -⟩ := own_slice HRow.out
    have HCv := Lib.hid hcv
    obtain ⟨S, hS⟩ : ∃ S, cv.ownBlock.toList = S := ⟨_, rfl⟩
    have hGS : G ∉ cv.ownBlock.toList := fun hm => by rw [Option.mem_toList] at hm; have := (hP.kids.row.lt G hm).1; omega
    have hBS : W.heap.size ∉ cv.ownBlock.toList := fun hm => by rw [Option.mem_toList] at hm; have := own_lt hP.kids.row hm; omega
    rw [hS] at hGS hBS
    have HSv : Hid ((Value.slice ac k cc).ownBlock.toList = S) := by rw [← hcv]; exact hS
    have HSS := Lib.hid hS
    have l0 : ∀ V, Chg S w0.drew V → V.cell? ⟨G, 0, none⟩ = some (.slice ac k cc) := fun V hV => by rw [← HCv.out]; exact (hV.cell (b := G) (by show G < w0.heap.size; omega) hGS).trans (((HP.out.keep HB0.out).var.cell 0).trans rfl)
    have b0 : ∀ V, Chg S w0.drew V → V.cell? ⟨W.heap.size, 0, none⟩ = some (.int .i64 x.t.lab.kd) := fun V hV => (hV.cell (b := W.heap.size) (by show W.heap.size < w0.heap.size; omega) hBS).trans HX.out.c0
    have b1 : ∀ V, Chg S w0.drew V → V.cell? ⟨W.heap.size, 1, none⟩ = some (.int .u8 x.t.lab.v.k) := fun V hV => (hV.cell (b := W.heap.size) (by show W.heap.size < w0.heap.size; omega) hBS).trans HX.out.c1
    have b2 : ∀ V, Chg S w0.drew V → V.cell? ⟨W.heap.size, 2, none⟩ = some (.int .i64 x.t.lab.v.n) := fun V hV => (hV.cell (b := W.heap.size) (by show W.heap.size < w0.heap.size; omega) hBS).trans HX.out.c2
    have b3 : ∀ V, Chg S w0.drew V → V.cell? ⟨W.heap.size, 3, none⟩ = some (.string x.t.lab.v.s) := fun V hV => (hV.cell (b := W.heap.size) (by show W.heap.size < w0.heap.size; omega) hBS).trans HX.out.c3
    have b4 : ∀ V, Chg S w0.drew V → V.cell? ⟨W.heap.size, 4, none⟩ = some (.string x.t.lab.tb) := fun V hV => (hV.cell (b := W.heap.size) (by show W.heap.size < w0.heap.size; omega) hBS).trans HX.out.c4
    have b5 : ∀ V, Chg S w0.drew V → V.cell? ⟨W.heap.size, 5, none⟩ = some (.string x.t.lab.nm) := fun V hV => (hV.cell (b := W.heap.size) (by show W.heap.size < w0.heap.size; omega) hBS).trans HX.out.c5
    have b6 : ∀ V, Chg S w0.drew V → V.cell? ⟨W.heap.size, 6, none⟩ = some (.string x.t.lab.op) := fun V hV => (hV.cell (b := W.heap.size) (by show W.heap.size < w0.heap.size; omega) hBS).trans HX.out.c6
    have b7 : ∀ V, Chg S w0.drew V → V.cell? ⟨W.heap.size, 7, none⟩ = some (.slice x.a x.t.args.length x.cap) := fun V hV => (hV.cell (b := W.heap.size) (by show W.heap.size < w0.heap.size; omega) hBS).trans HX.out.c7
    have HSz := Lib.hid hs0
    have qk : (x.t.lab.kd == 2) = true := by simpa using hk
    have x0 := HX.out.c0
    clear hP h hall hmx hGlt hGS hBS hpk hk5 hk hkd hs0 hcv hS
    go_enter Tryz.func75, Tryz.ntmps75
    go_wp2_with fail
    clear x0
    refine wp_region_tail (S) [6,7,8] (.free 0 (.free 1 (.free 3 (.two 2 4 (.one 4 (.one 5 (.lasts 6 8 (.lasts 7 8 (.last 8 (.nil)) (.last 7 (.nil))) (.last 6 (.last 7 (.nil)))))) (.one 2 (.one 5 (.lasts 6 8 (.lasts 7 8 (.last 8 (.nil)) (.last 7 (.nil))) (.last 6 (.last 7 (.nil)))))))))) (by kernel_rfl) (by kernel_rfl) (by kernel_rfl) (by kernel_rfl) ?_
    repeat (first | ((refine wpL_F rfl (by rfl) (fun w' hL => exec_load rfl rfl (l0 w' hL)) ?_); try simp only [Act.put, List.setIfInBounds_toArray, List.set_cons_zero, List.set_cons_succ]) | (refine wpL_F (v := ?_) rfl (by rfl) (fun w' hL => ?_) ?_; rotate_left; (solve | (go_simp; with_reducible rfl) | go_simp); try simp only [Act.put, List.setIfInBounds_toArray, List.set_cons_zero, List.set_cons_succ]) | (refine wpL_G rfl (by rfl) ?_; try simp only [Act.put, List.setIfInBounds_toArray, List.set_cons_zero, List.set_cons_succ]))
    have HBd : Hid (Below W.heap.size W w0.drew) := HB0.out.drew
    refine wpL_two ?_ ?_
    · skip
      refine wpL_C rfl (by rfl) ?_
      go_simp
      refine (HCl.out _ HBd.out).mono ?_
      rintro e w1 ⟨y, rfl, hyt, hyI, hb1⟩
      have HYt := Lib.hid hyt
      clear hyt
      refine ⟨below_chg hb1, ?_⟩
      try simp only [Act.put, List.setIfInBounds_toArray, List.set_cons_zero, List.set_cons_succ]
      refine wpL_C rfl (by rfl) ?_
      go_simp
      refine ⟨(Chg.refl _ _).alloc _, ?_⟩
      try simp only [Act.put, List.setIfInBounds_toArray, List.set_cons_zero, List.set_cons_succ]
      obtain ⟨wa, hwa⟩ : ∃ wa, w1.alloc (.cells #[.int .i64 0, .int .u8 0, .int .i64 0, .string ⟨#[]⟩, .string ⟨#[]⟩, .string ⟨#[]⟩, .string ⟨#[]⟩, .slice none 0 0] 45) = wa := ⟨_, rfl⟩
      rw [hwa]
      have hbk : ∀ (j : Nat) u, zero8[j]? = some u → wa.cell? ⟨w1.heap.size, j, none⟩ = some u := fun j u hu => by
        rw [← hwa, World.cell?_alloc_at _ _ _ _ rfl]; simpa using hu
      have hWa : Below W.heap.size W wa := by rw [← hwa]; exact ((HBd.out.trans (hb1.mono HBd.out.size)).alloc (Nat.le_trans HBd.out.size hb1.size) _)
      have hyA : XIn (fun b => W.heap.size ≤ b ∧ b < w1.heap.size) wa n y := (hyI.keep (w' := wa) (fun b hb => by rw [← hwa]; exact Below.heap_alloc w1 _ b hb.2)).imp fun b hb => ⟨by have := HBd.out.size; omega, hb.2⟩
      have hm2 : w1.heap.size ≤ wa.heap.size := by rw [← hwa]; simp
      have hm1 : W.heap.size ≤ w1.heap.size := Nat.le_trans HBd.out.size hb1.size
      have hrow1 : wa.ownsRow (G + 1) 45 8 (.slice ac k cc) k (cellsOf cellsX L) := by rw [← HCv.out]; exact own_below HRow.out (Nat.le_refl _) hWa
      refine wpL_C rfl (by rfl) ?_
      refine wp_appG (.tmp 7) (.tmp 11) 43 rfl (G + 1) 45 i0 (.agg #[.int .i64 0, .int .u8 0, .int .i64 0, .string ⟨#[]⟩, .string ⟨#[]⟩, .string ⟨#[]⟩, .string ⟨#[]⟩, .slice none 0 0]) 8 112 1 Tryz.underlying43 hi hz0 rfl hz1 (by omega) hz2 (by omega) (.slice ac k cc) k _ zero8 wa hrow1 rfl (w1.heap.size) 1 hbk rfl one_Z rfl (by omega) (by have := HGl.out; have := hWa.size; omega) ?_
      intro v5 w5 hown5 hc5 hf5
      rw [HSv.out] at hc5
      refine ⟨hc5, ?_⟩
      try simp only [Act.put, List.setIfInBounds_toArray, List.set_cons_zero, List.set_cons_succ]
      have hPick := pick_both HP.out HCv.out HSS.out HLk.out hWa hyA hm1 hm2 hown5 hc5 hf5
      obtain ⟨g, cap, R, hv5, hGg, hcap, hstore, hvar, hA, hB, hbx⟩ := hPick
      subst hv5
      have hwx : wa.cell? ⟨W.heap.size, 0, none⟩ = some (.int .i64 x.t.lab.kd) := (((hb1.cell (p := ⟨W.heap.size, 0, none⟩) (by have := HSz.out; show W.heap.size < w0.heap.size; omega)).trans HX.out.c0) |> fun h => by rw [← hwa]; exact (((Below.refl w1.heap.size w1).alloc (Nat.le_refl _) _).cell (p := ⟨W.heap.size, 0, none⟩) (by have := HSz.out; have := hb1.size; have : w0.drew.heap.size = w0.heap.size := rfl; show W.heap.size < w1.heap.size; omega)).trans h)
      have xA := Lib.hid ((World.cell?_of_block (a := ⟨W.heap.size, 0, none⟩) (hbx W.heap.size (Nat.le_refl _) (by have := HSz.out; have := hb1.size; have : w0.drew.heap.size = w0.heap.size := rfl; omega)).1).trans hwx)
      have xB := Lib.hid ((World.cell?_of_block (a := ⟨W.heap.size, 0, none⟩) (hbx W.heap.size (Nat.le_refl _) (by have := HSz.out; have := hb1.size; have : w0.drew.heap.size = w0.heap.size := rfl; omega)).2).trans hwx)
      have HA := Lib.hid hA
      have HB := Lib.hid hB
      have HS1 := Lib.hid (hstore w5 rfl)
      have HS2 := Lib.hid (hstore (w5.setRow G #[.slice (some ⟨g, 0, none⟩) (k + 1) cap]) (setRow_other w5 G g _ (by omega)))
      have HV1 := Lib.hid (hvar w5 rfl)
      have HV2 := Lib.hid (hvar (w5.setRow g R) (setRow_other w5 g G _ (by omega)))
      clear hbk hWa hyA hm2 hm1 hrow1 hown5 hc5 hf5 hstore hvar hA hB hyI hb1 hbx hwx l0 b0 b1 b2 b3 b4 b5 b6 b7
      refine wpL_lasts ?_ ?_
      · refine wpL_X rfl (by rfl) ?_
        refine wp_val (v := .pointer (some ⟨g, k * 8, none⟩)) (by go_simp; rw [if_pos (by omega)]) ?_
        try simp only [Act.put, List.setIfInBounds_toArray, List.set_cons_zero, List.set_cons_succ]
        refine wpL_lasts ?_ ?_
        · refine wpL_X rfl (by rfl) ?_
          refine wp_skp (exec_store rfl rfl rfl HS1.out) ?_
          try simp only [Act.put, List.setIfInBounds_toArray, List.set_cons_zero, List.set_cons_succ]
          refine wpL_X rfl (by rfl) ?_
          refine wp_skp (exec_store rfl rfl rfl HV2.out) ?_
          try simp only [Act.put, List.setIfInBounds_toArray, List.set_cons_zero, List.set_cons_succ]
          refine wpL_nil ?_
          try go_simp
          try simp only [NoPanic]
          have xq := xA.out
          go_wp2
          go_ret
          exact ⟨ret_b (by rfl), _, _, by rw [← HYt.out]; exact HA.out⟩
        · refine wpL_X rfl (by rfl) ?_
          refine wp_skp (exec_store rfl rfl rfl HV1.out) ?_
          try simp only [Act.put, List.setIfInBounds_toArray, List.set_cons_zero, List.set_cons_succ]
          refine wpL_X rfl (by rfl) ?_
          refine wp_skp (exec_store rfl rfl rfl HS2.out) ?_
          try simp only [Act.put, List.setIfInBounds_toArray, List.set_cons_zero, List.set_cons_succ]
          refine wpL_nil ?_
          try go_simp
          try simp only [NoPanic]
          have xq := xB.out
          go_wp2
          go_ret
          exact ⟨ret_b (by rfl), _, _, by rw [← HYt.out]; exact HB.out⟩
      · refine wpL_X rfl (by rfl) ?_
        refine wp_skp (exec_store rfl rfl rfl HV1.out) ?_
        try simp only [Act.put, List.setIfInBounds_toArray, List.set_cons_zero, List.set_cons_succ]
        refine wpL_X rfl (by rfl) ?_
        refine wp_val (v := .pointer (some ⟨g, k * 8, none⟩)) (by go_simp; rw [if_pos (by omega)]) ?_
        try simp only [Act.put, List.setIfInBounds_toArray, List.set_cons_zero, List.set_cons_succ]
        refine wpL_X rfl (by rfl) ?_
        refine wp_skp (exec_store rfl rfl rfl HS2.out) ?_
        try simp only [Act.put, List.setIfInBounds_toArray, List.set_cons_zero, List.set_cons_succ]
        refine wpL_nil ?_
        try go_simp
        try simp only [NoPanic]
        have xq := xB.out
        go_wp2
        go_ret
        exact ⟨ret_b (by rfl), _, _, by rw [← HYt.out]; exact HB.out⟩
    · refine wpL_C rfl (by rfl) ?_
      go_simp
      refine ⟨(Chg.refl _ _).alloc _, ?_⟩
      try simp only [Act.put, List.setIfInBounds_toArray, List.set_cons_zero, List.set_cons_succ]
      obtain ⟨wz, hwz⟩ : ∃ wz, (w0.alloc (.cells #[.int .i64 0, .int .u8 0, .int .i64 0, .string ⟨#[]⟩, .string ⟨#[]⟩, .string ⟨#[]⟩, .string ⟨#[]⟩, .slice none 0 0] 45)).drew = wz := ⟨_, rfl⟩
      try rw [hwz]
      have HBz : Hid (Below W.heap.size W wz) := by rw [← hwz]; exact (HB0.out.alloc HB0.out.size _).drew
      refine wpL_C rfl (by rfl) ?_
      go_simp
      refine (HCl.out _ HBz.out).mono ?_
      rintro e wa ⟨y, rfl, hyt, hyI, hb1⟩
      have HYt := Lib.hid hyt
      clear hyt
      refine ⟨below_chg hb1, ?_⟩
      try simp only [Act.put, List.setIfInBounds_toArray, List.set_cons_zero, List.set_cons_succ]
      have hbk : ∀ (j : Nat) u, zero8[j]? = some u → wa.cell? ⟨w0.heap.size, j, none⟩ = some u := fun j u hu => by
        refine (hb1.cell (p := ⟨w0.heap.size, j, none⟩) (by rw [← hwz]; show w0.heap.size < (w0.alloc _).heap.size; simp)).trans ?_
        rw [← hwz]
        show (w0.alloc _).cell? _ = _
        rw [World.cell?_alloc_at _ _ _ _ rfl]; simpa using hu
      have hWa : Below W.heap.size W wa := HBz.out.trans (hb1.mono HBz.out.size)
      have hyA : XIn (fun b => W.heap.size ≤ b ∧ b < wa.heap.size) wa n y := hyI.imp fun b hb => ⟨by have := HBz.out.size; omega, hb.2⟩
      have hm2 : wa.heap.size ≤ wa.heap.size := Nat.le_refl _
      have hm1 : W.heap.size ≤ wa.heap.size := hWa.size
      have hrow1 : wa.ownsRow (G + 1) 45 8 (.slice ac k cc) k (cellsOf cellsX L) := by rw [← HCv.out]; exact own_below HRow.out (Nat.le_refl _) hWa
      refine wpL_C rfl (by rfl) ?_
      refine wp_appG (.tmp 7) (.tmp 11) 43 rfl (G + 1) 45 i0 (.agg #[.int .i64 0, .int .u8 0, .int .i64 0, .string ⟨#[]⟩, .string ⟨#[]⟩, .string ⟨#[]⟩, .string ⟨#[]⟩, .slice none 0 0]) 8 112 1 Tryz.underlying43 hi hz0 rfl hz1 (by omega) hz2 (by omega) (.slice ac k cc) k _ zero8 wa hrow1 rfl (w0.heap.size) 1 hbk rfl one_Z rfl (by omega) (by have := HGl.out; have := hWa.size; omega) ?_
      intro v5 w5 hown5 hc5 hf5
      rw [HSv.out] at hc5
      refine ⟨hc5, ?_⟩
      try simp only [Act.put, List.setIfInBounds_toArray, List.set_cons_zero, List.set_cons_succ]
      have hPick := pick_both HP.out HCv.out HSS.out HLk.out hWa hyA hm1 hm2 hown5 hc5 hf5
      obtain ⟨g, cap, R, hv5, hGg, hcap, hstore, hvar, hA, hB, hbx⟩ := hPick
      subst hv5
      have hwx : wa.cell? ⟨W.heap.size, 0, none⟩ = some (.int .i64 x.t.lab.kd) := (hb1.cell (p := ⟨W.heap.size, 0, none⟩) (by have := HSz.out; rw [← hwz]; show W.heap.size < (w0.alloc _).heap.size; simp; omega)).trans (by rw [← hwz]; exact (((Below.refl w0.heap.size w0).alloc (Nat.le_refl _) _).cell (p := ⟨W.heap.size, 0, none⟩) (by have := HSz.out; show W.heap.size < w0.heap.size; omega)).trans HX.out.c0)
      have xA := Lib.hid ((World.cell?_of_block (a := ⟨W.heap.size, 0, none⟩) (hbx W.heap.size (Nat.le_refl _) (by have := HSz.out; have := hb1.size; have : w0.heap.size ≤ wz.heap.size := (by rw [← hwz]; show w0.heap.size ≤ (w0.alloc _).heap.size; simp); omega)).1).trans hwx)
      have xB := Lib.hid ((World.cell?_of_block (a := ⟨W.heap.size, 0, none⟩) (hbx W.heap.size (Nat.le_refl _) (by have := HSz.out; have := hb1.size; have : w0.heap.size ≤ wz.heap.size := (by rw [← hwz]; show w0.heap.size ≤ (w0.alloc _).heap.size; simp); omega)).2).trans hwx)
      have HA := Lib.hid hA
      have HB := Lib.hid hB
      have HS1 := Lib.hid (hstore w5 rfl)
      have HS2 := Lib.hid (hstore (w5.setRow G #[.slice (some ⟨g, 0, none⟩) (k + 1) cap]) (setRow_other w5 G g _ (by omega)))
      have HV1 := Lib.hid (hvar w5 rfl)
      have HV2 := Lib.hid (hvar (w5.setRow g R) (setRow_other w5 g G _ (by omega)))
      clear hbk hWa hyA hm2 hm1 hrow1 hown5 hc5 hf5 hstore hvar hA hB hyI hb1 hbx hwx l0 b0 b1 b2 b3 b4 b5 b6 b7
      refine wpL_lasts ?_ ?_
      · refine wpL_X rfl (by rfl) ?_
        refine wp_val (v := .pointer (some ⟨g, k * 8, none⟩)) (by go_simp; rw [if_pos (by omega)]) ?_
        try simp only [Act.put, List.setIfInBounds_toArray, List.set_cons_zero, List.set_cons_succ]
        refine wpL_lasts ?_ ?_
        · refine wpL_X rfl (by rfl) ?_
          refine wp_skp (exec_store rfl rfl rfl HS1.out) ?_
          try simp only [Act.put, List.setIfInBounds_toArray, List.set_cons_zero, List.set_cons_succ]
          refine wpL_X rfl (by rfl) ?_
          refine wp_skp (exec_store rfl rfl rfl HV2.out) ?_
          try simp only [Act.put, List.setIfInBounds_toArray, List.set_cons_zero, List.set_cons_succ]
          refine wpL_nil ?_
          try go_simp
          try simp only [NoPanic]
          have xq := xA.out
          go_wp2
          go_ret
          exact ⟨ret_b (by rfl), _, _, by rw [← HYt.out]; exact HA.out⟩
        · refine wpL_X rfl (by rfl) ?_
          refine wp_skp (exec_store rfl rfl rfl HV1.out) ?_
          try simp only [Act.put, List.setIfInBounds_toArray, List.set_cons_zero, List.set_cons_succ]
          refine wpL_X rfl (by rfl) ?_
          refine wp_skp (exec_store rfl rfl rfl HS2.out) ?_
          try simp only [Act.put, List.setIfInBounds_toArray, List.set_cons_zero, List.set_cons_succ]
          refine wpL_nil ?_
          try go_simp
          try simp only [NoPanic]
          have xq := xB.out
          go_wp2
          go_ret
          exact ⟨ret_b (by rfl), _, _, by rw [← HYt.out]; exact HB.out⟩
      · refine wpL_X rfl (by rfl) ?_
        refine wp_skp (exec_store rfl rfl rfl HV1.out) ?_
        try simp only [Act.put, List.setIfInBounds_toArray, List.set_cons_zero, List.set_cons_succ]
        refine wpL_X rfl (by rfl) ?_
        refine wp_val (v := .pointer (some ⟨g, k * 8, none⟩)) (by go_simp; rw [if_pos (by omega)]) ?_
        try simp only [Act.put, List.setIfInBounds_toArray, List.set_cons_zero, List.set_cons_succ]
        refine wpL_X rfl (by rfl) ?_
        refine wp_skp (exec_store rfl rfl rfl HS2.out) ?_
        try simp only [Act.put, List.setIfInBounds_toArray, List.set_cons_zero, List.set_cons_succ]
        refine wpL_nil ?_
        try go_simp
        try simp only [NoPanic]
        have xq := xB.out
        go_wp2
        go_ret
        exact ⟨ret_b (by rfl), _, _, by rw [← HYt.out]; exact HB.out⟩
  · have hpk : pickL 2 x.t = [] := if_neg hk
    rw [hpk]
    have qk : (x.t.lab.kd == 2) = false := by simpa using hk
    have x0 := HX.out.c0
    have HN := Lib.hid (Picked.none hP HB0.out)
    clear hP h hall hpk hk hs0 HCl
    go_enter Tryz.func75, Tryz.ntmps75
    go_wp2
    go_ret
    exact ⟨ret_b (by rfl), _, _, HN.out⟩

end Go.Proofs.YtbnddpicpomakaaGreatDoor

/- The walks of descend and visit at the closures of Columns and Aggregates, and of these. -/
set_option linter.unusedSimpArgs false
set_option linter.unusedVariables false
set_option maxRecDepth 100000
namespace Go.Proofs.YtbnddpicpomakaaGreatDoor
open Go.RowKit

/-- What is picked of an expression: of kind kd; within one of these only where 'deep'. -/
def pickX (kd : Int) (deep : Bool) : Ex → List Ex
  | .mk l args => pickL kd (.mk l args) ++ if l.kd = kd ∧ deep = false then [] else args.attach.flatMap fun x => pickX kd deep x.1
termination_by e => SizeOf.sizeOf e
decreasing_by exact Rose.size_arg x.2
theorem pickX_eq (kd : Int) (deep : Bool) (e : Ex) : pickX kd deep e = pickL kd e ++ if e.lab.kd = kd ∧ deep = false then [] else e.args.flatMap (pickX kd deep) := by
  obtain ⟨l, args⟩ := e
  rw [pickX, Rose.args, Rose.lab]
  congr 1
  split
  · rfl
  · rw [List.flatMap_def, List.flatMap_def, List.attach_map_val (f := pickX kd deep)]
theorem pickL_len (kd : Int) (e : Ex) : (pickL kd e).length ≤ 1 := by unfold pickL; split <;> simp
theorem pickX_len (kd : Int) (deep : Bool) (e : Ex) : (pickX kd deep e).length ≤ e.count := by
  induction e using Rose.ind with
  | h l args ih =>
    rw [pickX_eq, Rose.count_eq, List.length_append]
    have h1 := pickL_len kd (Rose.mk l args)
    have h2 : (args.flatMap (pickX kd deep)).length ≤ (args.map Rose.count).sum := by
      clear h1
      induction args with
      | nil => simp
      | cons y r ih2 =>
        have := ih y List.mem_cons_self
        have := ih2 (fun z hz => ih z (List.mem_cons_of_mem _ hz))
        simp only [List.flatMap_cons, List.length_append, List.map_cons, List.sum_cons]; omega
    split
    · simp only [List.length_nil]; omega
    · show _ + (args.flatMap (pickX kd deep)).length ≤ 1 + (args.map Rose.count).sum
      omega
theorem pickT_len (kd : Int) (deep : Bool) (l : List Ex) (k : Nat) : ((l.take k).flatMap (pickX kd deep)).length ≤ ((l.take k).map Rose.count).sum := by
  generalize l.take k = q
  induction q with
  | nil => simp
  | cons y r ih =>
    have := pickX_len kd deep y
    simp only [List.flatMap_cons, List.length_append, List.map_cons, List.sum_cons]; omega

theorem Picked.len {G : Nat} {W W' : World} {n : Nat} {cv cv' : Value} {L L' : List XM} {p : List Ex} (h : Picked G W n cv L p W' cv' L') : L'.length = L.length + p.length := by
  have := congrArg List.length h.list
  simpa using this
/-- A block that picking leaves as it is. -/
theorem Picked.keepB {G : Nat} {W W' : World} {n : Nat} {cv cv' : Value} {L L' : List XM} {p : List Ex} (h : Picked G W n cv L p W' cv' L') {b : Nat} (hb : b < W.heap.size) (h1 : b ≠ G) (h2 : cv.ownBlock ≠ some b) : W'.heap[b]? = W.heap[b]? :=
  h.chg.block b hb (fun hm => by rcases List.mem_cons.1 hm with hm | hm; exact h1 hm; rw [Option.mem_toList] at hm; exact h2 hm)
theorem Picked.below {G : Nat} {W W' : World} {n : Nat} {cv cv' : Value} {L L' : List XM} {p : List Ex} (h : Picked G W n cv L p W' cv' L') (hP : PickIn G W n cv L) : Below G W W' :=
  h.chg.below (Nat.le_of_lt hP.lt) (fun k hk => by
    rcases List.mem_cons.1 hk with hk | hk
    · omega
    · rw [Option.mem_toList] at hk; have := (hP.kids.row.lt k hk).1; omega)

def RetPk (G : Nat) (W : World) (n : Nat) (cv : Value) (L : List XM) (p : List Ex) (e : Ending) (W' : World) : Prop :=
  e = .returned (.tuple #[]) ∧ ∃ cv' L', Picked G W n cv L p W' cv' L'

set_option maxHeartbeats 4000000 in
theorem colsDesc_is (G N : Nat) : ∀ (n : Nat) (x : XM) (W : World) (cv : Value) (L : List XM), n ≤ N → PickIn G W N cv L → XAt G W n x → x.t.allB (fun _ k => decide (k ≤ 1000000)) = true → L.length + x.t.count ≤ 1000000 →
    Calls Tryz.prog 106 #[x.v, .func (.func 75) #[] #[.pointer (some ⟨G, 0, none⟩)]] W (RetPk G W N cv L (pickX 2 true x.t))
  | 0, _, _, _, _, _, _, h, _, _ => h.elim
  | n + 1, x, W, cv, L, hn, hP, h, hall, hlen => by
    rw [XM.v_eq]
    have HA := Lib.hid h
    have HAll : Hid (∀ y ∈ x.t.args, y.allB (fun _ k => decide (k ≤ 1000000)) = true) := by
      rw [Rose.allB_eq, Bool.and_eq_true, List.all_eq_true] at hall; exact hall.2
    have hax := h.fair.2.1
    have hcx := h.fair.2.2
    have HPk := Lib.hid (pickX_eq 2 true x.t)
    have hG := hP.lt
    have HGlt := Lib.hid hG
    have HP := Lib.hid hP
    have HLen := Lib.hid hlen
    have HDo := Lib.hid (fun V cv' L' hP' hX' hL' => colsDo_any G N x V cv' L' hP' hX' hall hL')
    have HXA : Hid (XAt G W N x) := RoseAt.ups h hn
    have IH : Hid (∀ (y : XM) (V : World) (cv' : Value) (L' : List XM), PickIn G V N cv' L' → XAt G V n y → y.t.allB (fun _ k => decide (k ≤ 1000000)) = true → L'.length + y.t.count ≤ 1000000 → Calls Tryz.prog 106 #[.agg #[.int .i64 y.t.lab.kd, .int .u8 y.t.lab.v.k, .int .i64 y.t.lab.v.n, .string y.t.lab.v.s, .string y.t.lab.tb, .string y.t.lab.nm, .string y.t.lab.op, .slice y.a y.t.args.length y.cap], .func (.func 75) #[] #[.pointer (some ⟨G, 0, none⟩)]] V (RetPk G V N cv' L' (pickX 2 true y.t))) := fun y V cv' L' h1 h2 h3 h4 => by
      have := colsDesc_is G N n y V cv' L' (by omega) h1 h2 h3 h4
      rw [XM.v_eq] at this; exact this
    have HX := Lib.hid (Slot8.new W 45 (.int .i64 x.t.lab.kd) (.int .u8 x.t.lab.v.k) (.int .i64 x.t.lab.v.n) (.string x.t.lab.v.s) (.string x.t.lab.tb) (.string x.t.lab.nm) (.string x.t.lab.op) (.slice x.a x.t.args.length x.cap))
    obtain ⟨w0, hw0⟩ : ∃ w0, W.alloc (.cells #[.int .i64 x.t.lab.kd, .int .u8 x.t.lab.v.k, .int .i64 x.t.lab.v.n, .string x.t.lab.v.s, .string x.t.lab.tb, .string x.t.lab.nm, .string x.t.lab.op, .slice x.a x.t.args.length x.cap] 45) = w0 := ⟨_, rfl⟩
    have HB0 : Hid (Below W.heap.size W w0) := by rw [← hw0]; exact (Below.refl _ W).alloc (Nat.le_refl _) _
    have hs0 : w0.heap.size = W.heap.size + 1 := by rw [← hw0]; simp
    rw [hw0] at HX
    have HZ := Lib.hid hs0
    have hb0 := HB0.out
    have hP0 := hP.keep hb0
    have hY := HDo.out w0 cv L hP0 (((HXA.out.below (hb0.mono (Nat.le_of_lt hG)))).mono (by omega)) (by have := x.t.count_pos; omega)
    have HY := Lib.hid hY
    have HP0 := Lib.hid hP0
    have hcvB : cv.ownBlock ≠ some W.heap.size := fun he => by have := own_lt hP.kids.row he; omega
    have HCB := Lib.hid hcvB
    clear h hP hall hlen hG hs0 hb0 hP0 hY hcvB HDo
    obtain ⟨x0, x1, x2, x3, x4, x5, x6, x7⟩ := HX.out
    go_enter Tryz.func106, Tryz.ntmps106
    go_wp2_with fail
    refine HY.out.mono ?_
    rintro e w1 ⟨rfl, cv1, L1, hpk1⟩
    have HPk1 := Lib.hid hpk1
    have hkb : w1.heap[W.heap.size]? = w0.heap[W.heap.size]? := hpk1.keepB (by have := HZ.out; omega) (by have := HGlt.out; omega) HCB.out
    have z7 : w1.cell? ⟨W.heap.size, 7, none⟩ = some (.slice x.a x.t.args.length x.cap) := (World.cell?_of_block (a := ⟨W.heap.size, 7, none⟩) hkb).trans HX.out.c7
    clear hpk1 hkb HY x0 x1 x2 x3 x4 x5 x6 x7
    have HEq : Hid (pickX 2 true x.t = pickL 2 x.t ++ x.t.args.flatMap (pickX 2 true)) := by rw [HPk.out, if_neg (fun h => by cases h.2)]; rfl
    obtain ⟨t, a, cap⟩ := x
    obtain ⟨m, hm⟩ : ∃ m, t.args.length = m := ⟨_, rfl⟩
    have HM := Lib.hid hm
    simp only at hax hcx z7 HA HAll HPk HLen HEq HX HPk1 HXA hw0 ⊢
    rw [hm] at hax z7 HX hw0 ⊢
    clear hm
    go_wp2
    clear z7
    go_loopw [13] (fun i wr => ∃ (k : Nat) (cv2 : Value) (L2 : List XM), k ≤ m ∧ i = .int .i64 (k : Int) ∧ Hid (Picked G W N cv L (pickL 2 t ++ (t.args.take k).flatMap (pickX 2 true)) wr cv2 L2)) (fun i _ => m - (intOf i).toNat)
    case atStart => exact ⟨0, cv1, L1, by omega, rfl, by have := (Picked.none HP.out HB0.out).trans HPk1.out; simpa [Hid] using this⟩
    case round =>
      obtain ⟨k, cv2, L2, hk, rfl, HR⟩ := hrel
      by_cases hlt : k < m
      · have hkl : k < t.args.length := by rw [HM.out]; exact hlt
        have hbel := HR.out.below HP.out
        obtain ⟨y, hy, hAy, b, o, hab, hbN, hKid⟩ := (HA.out.below hbel).kid8 (k := k) hkl
        simp only at hab hy
        subst hab
        obtain ⟨y0, y1, y2, y3, y4, y5, y6, y7⟩ := hKid
        have hb1 : Below wr.heap.size wr (wr.alloc (.cells #[.int .i64 y.t.lab.kd, .int .u8 y.t.lab.v.k, .int .i64 y.t.lab.v.n, .string y.t.lab.v.s, .string y.t.lab.tb, .string y.t.lab.nm, .string y.t.lab.op, .slice y.a y.t.args.length y.cap] 45)) := (Below.refl _ wr).alloc (Nat.le_refl _) _
        have hGr : G ≤ wr.heap.size := Nat.le_of_lt HR.out.pick.lt
        have hcnt : L2.length + y.t.count ≤ 1000000 := by
          have h1 := HR.out.len
          have h2 := pickL_len 2 t
          have h3 := pickT_len 2 true t.args k
          have h4 := HLen.out
          have h5 := sum_take_succ hkl
          have h6 := sum_take_le t.args (k + 1)
          have h7 := t.count_eq
          rw [hy]
          simp only [List.length_append] at h1
          omega
        have HTk : Hid ((t.args.take (k + 1)).flatMap (pickX 2 true) = (t.args.take k).flatMap (pickX 2 true) ++ pickX 2 true y.t) := by
          rw [List.take_succ_eq_append_getElem hkl, List.flatMap_append, ← hy]; simp [Hid]
        have HY2 := Lib.hid (IH.out y _ cv2 L2 (HR.out.pick.keep hb1) (hAy.below (hb1.mono hGr)) (HAll.out y.t (by rw [hy]; exact List.getElem_mem hkl)) hcnt)
        have HB1 := Lib.hid hb1
        clear hbel hy hAy hb1 hGr hcnt hkl HA IH HAll
        go_wp2_with fail
        refine HY2.out.mono ?_
        rintro e w3 ⟨rfl, cv3, L3, hpk3⟩
        have HN : Hid (Picked G W N cv L (pickL 2 t ++ (t.args.take (k + 1)).flatMap (pickX 2 true)) w3 cv3 L3) := by
          have := HR.out.trans ((Picked.none HR.out.pick HB1.out).trans hpk3)
          rw [HTk.out, ← List.append_assoc]; exact this
        clear hpk3 HY2 HB1 y0 y1 y2 y3 y4 y5 y6 y7
        go_wp2
        go_roundw
        case rel => exact ⟨k + 1, cv3, L3, by omega, by go_num, HN.out⟩
        case measure => simp [intOf]; omega
      · have HFin : Hid (Picked G W N cv L (pickX 2 true t) wr cv2 L2) := by
          have := HR.out
          rw [show k = m by omega, ← HM.out, List.take_length] at this
          rw [HEq.out]; exact this
        go_wp2
        exact bodyPost_ret (v := .tuple #[]) (by simp [results, Tryz.results106, go_sem]) rfl ⟨rfl, cv2, L2, HFin.out⟩

theorem ok_len4 {l : Lb} {n : Nat} (h : l.ok n = true) : n ≤ 4 := by
  unfold Lb.ok takesB at h
  split at h
  · simp at h; omega
  · split at h
    · simp at h; omega
    · simp only [Bool.and_eq_true] at h
      have h1 := h.1.1.1
      repeat' split at h1
      all_goals first | (simp at h1; done) | (simp at h1; omega)
theorem right_all {n : Nat} {e : Ex} (h : rightX n e = true) : e.allB (fun _ k => decide (k ≤ 1000000)) = true := by
  rw [rightX_eq, Bool.and_eq_true] at h
  have h1 := h.1
  clear h
  induction e using Rose.ind with
  | h l args ih =>
    rw [Rose.allB_eq, Bool.and_eq_true, List.all_eq_true] at h1 ⊢
    exact ⟨by have := ok_len4 h1.1; simp; omega, fun x hx => ih x hx (h1.2 x hx)⟩

/-- What Columns and Aggregates hand back. -/
def RetL (w : World) (n : Nat) (p : List Ex) (e : Ending) (w' : World) : Prop :=
  ∃ (a : Option Addr) (cap : Nat) (L : List XM), e = .returned (.slice a L.length cap) ∧ L.length ≤ cap ∧ cap ≤ 9223372036854775807 ∧ L.map (·.t) = p ∧ Arr w'.heap.size w' a (cellsOf cellsX L) ∧ (∀ y ∈ L, XAt w'.heap.size w' n y) ∧ Below w.heap.size w w'

set_option maxHeartbeats 2000000 in
theorem colsVisit_any (G n : Nat) (x : XM) (W : World) (cv : Value) (L : List XM) (hP : PickIn G W n cv L) (h : XAt G W n x) (hlen : L.length + x.t.count ≤ 1000000) :
    Calls Tryz.prog 74 #[.agg #[.int .i64 x.t.lab.kd, .int .u8 x.t.lab.v.k, .int .i64 x.t.lab.v.n, .string x.t.lab.v.s, .string x.t.lab.tb, .string x.t.lab.nm, .string x.t.lab.op, .slice x.a x.t.args.length x.cap], .func (.func 75) #[] #[.pointer (some ⟨G, 0, none⟩)]] W (RetPk G W n cv L (if rightX 20 x.t = true then pickX 2 true x.t else [])) := by
  have HX := Lib.hid (Slot8.new W 45 (.int .i64 x.t.lab.kd) (.int .u8 x.t.lab.v.k) (.int .i64 x.t.lab.v.n) (.string x.t.lab.v.s) (.string x.t.lab.tb) (.string x.t.lab.nm) (.string x.t.lab.op) (.slice x.a x.t.args.length x.cap))
  obtain ⟨w0, hw0⟩ : ∃ w0, W.alloc (.cells #[.int .i64 x.t.lab.kd, .int .u8 x.t.lab.v.k, .int .i64 x.t.lab.v.n, .string x.t.lab.v.s, .string x.t.lab.tb, .string x.t.lab.nm, .string x.t.lab.op, .slice x.a x.t.args.length x.cap] 45) = w0 := ⟨_, rfl⟩
  have HB0 : Hid (Below W.heap.size W w0) := by rw [← hw0]; exact (Below.refl _ W).alloc (Nat.le_refl _) _
  have hs0 : w0.heap.size = W.heap.size + 1 := by rw [← hw0]; simp
  rw [hw0] at HX
  have hG := hP.lt
  have HP := Lib.hid hP
  have HR := Lib.hid (fun V (hb : Below G W V) (hs : G ≤ V.heap.size) => Right_any20 n x V ((h.below hb).mono hs))
  rw [XM.v_eq] at HR
  have HD := Lib.hid (fun V (hr : rightX 20 x.t = true) (hb : Below W.heap.size W V) => colsDesc_is G n n x V cv L (Nat.le_refl _) (HP.out.keep hb) (h.below (hb.mono (Nat.le_of_lt hG))) (right_all hr) hlen)
  rw [XM.v_eq] at HD
  have HZ := Lib.hid hs0
  have HGl := Lib.hid hG
  obtain ⟨r, hr⟩ : ∃ r, rightX 20 x.t = r := ⟨_, rfl⟩
  rw [hr] at HR HD ⊢
  obtain ⟨P, hPd⟩ : ∃ P, (if r = true then pickX 2 true x.t else []) = P := ⟨_, rfl⟩
  rw [hPd]
  have HPd := Lib.hid hPd
  clear h hP hlen hr hG hs0 hPd
  obtain ⟨x0, x1, x2, x3, x4, x5, x6, x7⟩ := HX.out
  go_enter Tryz.func74, Tryz.ntmps74
  go_wp2_with fail
  refine (HR.out _ (HB0.out.mono (Nat.le_of_lt HGl.out)) (by have := HZ.out; have := HGl.out; omega)).mono ?_
  rintro e w1 ⟨rfl, hb1⟩
  have HB1 := Lib.hid (HB0.out.trans (hb1.mono HB0.out.size))
  clear x0 x1 x2 x3 x4 x5 x6 x7
  obtain ⟨x0, x1, x2, x3, x4, x5, x6, x7⟩ := HX.out.later (by have := HZ.out; omega) hb1
  clear hb1 HR
  cases r with
  | false =>
    have HFin : Hid (Picked G W n cv L P w1 cv L) := by rw [← HPd.out]; exact Picked.none HP.out HB1.out
    go_wp2
    exact bodyPost_ret (v := .tuple #[]) (by simp [results, Tryz.results74, go_sem]) rfl ⟨rfl, cv, L, HFin.out⟩
  | true =>
    have HY := Lib.hid (HD.out w1 (by trivial) HB1.out)
    clear HD
    go_wp2_with fail
    refine HY.out.mono ?_
    rintro e w2 ⟨rfl, cv2, L2, hpk⟩
    have HFin : Hid (Picked G W n cv L P w2 cv2 L2) := by
      have := (Picked.none HP.out HB1.out).trans hpk
      rw [← HPd.out]; simpa [Hid] using this
    clear hpk HY x0 x1 x2 x3 x4 x5 x6 x7
    go_wp2
    exact bodyPost_ret (v := .tuple #[]) (by simp [results, Tryz.results74, go_sem]) rfl ⟨rfl, cv2, L2, HFin.out⟩

set_option maxHeartbeats 2000000 in
theorem cols_any (n : Nat) (x : XM) (W : World) (h : XAt W.heap.size W n x) (hlen : x.t.count ≤ 1000000) :
    Calls Tryz.prog 41 #[x.v] W (RetL W n (if rightX 20 x.t = true then pickX 2 true x.t else [])) := by
  have HX := Lib.hid (Slot8.new W 45 (.int .i64 x.t.lab.kd) (.int .u8 x.t.lab.v.k) (.int .i64 x.t.lab.v.n) (.string x.t.lab.v.s) (.string x.t.lab.tb) (.string x.t.lab.nm) (.string x.t.lab.op) (.slice x.a x.t.args.length x.cap))
  rw [XM.v_eq]
  obtain ⟨w0, hw0⟩ : ∃ w0, W.alloc (.cells #[.int .i64 x.t.lab.kd, .int .u8 x.t.lab.v.k, .int .i64 x.t.lab.v.n, .string x.t.lab.v.s, .string x.t.lab.tb, .string x.t.lab.nm, .string x.t.lab.op, .slice x.a x.t.args.length x.cap] 45) = w0 := ⟨_, rfl⟩
  have hb0 : Below W.heap.size W w0 := by rw [← hw0]; exact (Below.refl _ W).alloc (Nat.le_refl _) _
  have hs0 : w0.heap.size = W.heap.size + 1 := by rw [← hw0]; simp
  rw [hw0] at HX
  obtain ⟨w1, hw1⟩ : ∃ w1, w0.alloc (.cells #[.slice none 0 0] 43) = w1 := ⟨_, rfl⟩
  have hb1 : Below w0.heap.size w0 w1 := by rw [← hw1]; exact (Below.refl _ w0).alloc (Nat.le_refl _) _
  have hs1 : w1.heap.size = W.heap.size + 2 := by rw [← hw1]; simp [hs0]
  have hv : Blk w1 w0.heap.size 43 #[.slice none 0 0] := by
    have := Blk.new w0 43 #[.slice none 0 0]
    rw [hw1] at this; exact this
  have hP : PickIn w0.heap.size w1 n (.slice none 0 0) [] := ⟨hv, KidsIn.nil _ _ _ _⟩
  have hbw : Below W.heap.size W w1 := hb0.trans (hb1.mono hb0.size)
  have HY := Lib.hid (colsVisit_any w0.heap.size n x w1 (.slice none 0 0) [] hP ((h.below hbw).mono (by omega)) (by simpa using hlen))
  have HZ := Lib.hid hs0
  have HX1 := Lib.hid (HX.out.later (by omega) hb1)
  have HBw := Lib.hid hbw
  have HP := Lib.hid hP
  generalize (if rightX 20 x.t = true then pickX 2 true x.t else []) = P at *
  clear h hlen hb0 hs0 hb1 hs1 hv hP hbw HX
  obtain ⟨x0, x1, x2, x3, x4, x5, x6, x7⟩ := HX1.out
  go_enter Tryz.func41, Tryz.ntmps41
  go_wp2_with fail
  refine HY.out.mono ?_
  rintro e w2 ⟨rfl, cv, L, hpk⟩
  clear x0 x1 x2 x3 x4 x5 x6 x7
  obtain ⟨ac, cc, hcv, hcc, hcm, hA⟩ := own_slice hpk.pick.kids.row
  have hl : w2.cell? ⟨w0.heap.size, 0, none⟩ = some cv := (hpk.pick.var.cell 0).trans rfl
  rw [hcv] at hl
  have HB2 : Hid (Below W.heap.size W w2) := HBw.out.trans ((hpk.below HP.out).mono (by have := HZ.out; omega))
  have HA := Lib.hid hA
  have HK : Hid (∀ y ∈ L, XAt w2.heap.size w2 n y) := fun y hy => XIn.at_ ((hpk.pick.kids.kid y hy).imp fun b hb => hb.2.1)
  have HLt : Hid (L.map (·.t) = P) := by have := hpk.list; simpa [Hid] using this
  have HC := Lib.hid hcc
  have HM := Lib.hid hcm
  clear hpk hA hcv hcc hcm HY
  go_wp2
  go_ret
  exact ⟨ac, cc, L, rfl, HC.out, HM.out, HLt.out, HA.out, HK.out, HB2.out⟩

end Go.Proofs.YtbnddpicpomakaaGreatDoor

/- What the fixed calls of law 20's alive come to. -/
set_option linter.unusedSimpArgs false
set_option linter.unusedVariables false
set_option maxRecDepth 100000
namespace Go.Proofs.YtbnddpicpomakaaGreatDoor
open Go.RowKit

def vZ : Vl := ⟨0, 0, ⟨#[]⟩⟩
def aT : Ex := .mk ⟨2, vZ, ⟨#[]⟩, ⟨#[97]⟩, ⟨#[]⟩⟩ []
def oneT : Ex := .mk ⟨1, ⟨1, 1, ⟨#[]⟩⟩, ⟨#[]⟩, ⟨#[]⟩, ⟨#[]⟩⟩ []
def eT : Ex := .mk ⟨4, vZ, ⟨#[]⟩, ⟨#[]⟩, ⟨#[43]⟩⟩ [aT, oneT]
def selT : Ex := .mk ⟨2, vZ, ⟨#[]⟩, ⟨#[115, 101, 108, 101, 99, 116]⟩, ⟨#[]⟩⟩ []
theorem al_right : rightX 20 eT = true := by decide +kernel
theorem al_sel : rightX 20 selT = false := by decide +kernel
theorem al_of : resB ⟨#[111, 102]⟩ = true := by decide +kernel
theorem al_a : resB ⟨#[97]⟩ = false := by decide +kernel
theorem al_fits : eT.fits (fun l k => !l.big k) 20 = true := by decide +kernel
theorem al_fitsS : selT.fits (fun l k => !l.big k) 20 = true := by decide +kernel
theorem al_depth : eT.depth = 2 := by
  simp [eT, aT, oneT, Rose.depth_eq, Rose.args, maxL]
theorem al_count : eT.count = 3 := by
  simp [eT, aT, oneT, Rose.count_eq, Rose.args]
theorem al_countS : selT.count = 1 := by
  simp [selT, Rose.count_eq, Rose.args]
theorem al_pick : pickX 2 true eT = [aT] := by
  simp [eT, aT, oneT, pickX_eq, pickL, Rose.args, Rose.lab]
theorem al_lit : Vl.litS ⟨1, 1, ⟨#[]⟩⟩ = ⟨#[49]⟩ := by
  rw [Vl.litS_eq]
  show baL (Lib.itoa 1) = _
  have : Lib.itoa 1 = [49] := by decide +kernel
  rw [this]; rfl
theorem al_textA : textX aT = ⟨#[97]⟩ := by
  rw [textX_eq]
  show Lb.textOf ⟨2, vZ, ⟨#[]⟩, ⟨#[97]⟩, ⟨#[]⟩⟩ [] = _
  decide +kernel
theorem al_text1 : textX oneT = ⟨#[49]⟩ := by
  rw [textX_eq]
  show Vl.litS ⟨1, 1, ⟨#[]⟩⟩ = _
  exact al_lit
theorem al_text : textX eT = ⟨#[40, 97, 32, 43, 32, 49, 41]⟩ := by
  rw [textX_eq]
  have h : eT.args.map textX = [⟨#[97]⟩, ⟨#[49]⟩] := by
    show [textX aT, textX oneT] = _
    rw [al_textA, al_text1]
  rw [h]
  decide +kernel

/-- Write's answer. -/
def writeV (e : Ex) : ByteArray × Int := if rightX 20 e = true then (textX e, 0) else (⟨#[]⟩, 3)
theorem good_of {e : Ex} (h : rightX 20 e = true) (hs : e.allB (fun l k => !l.big k) = true) : GoodX e := by
  rw [rightX_eq, Bool.and_eq_true] at h
  have h1 := h.1
  clear h
  unfold GoodX
  induction e using Rose.ind with
  | h l args ih =>
    rw [Rose.allB_eq, Bool.and_eq_true, List.all_eq_true] at h1 hs ⊢
    exact ⟨by unfold Lb.good; rw [h1.1, hs.1]; rfl, fun x hx => ih x hx (hs.2 x hx) (h1.2 x hx)⟩

set_option maxHeartbeats 1000000 in
theorem sWrite_any20 (n : Nat) (x : XM) (w : World) (hT : Pre4 w) (h : XAt w.heap.size w n x) (hs : x.t.allB (fun l k => !l.big k) = true) (hc : x.t.count ≤ 100000) :
    Calls Tryz.prog 20 #[x.v] w fun e w' => e = .returned (.tuple #[.string (writeV x.t).1, .int .i64 (writeV x.t).2]) ∧ Below w.heap.size w w' := by
  have HX := Lib.hid (Slot8.new w 45 (.int .i64 x.t.lab.kd) (.int .u8 x.t.lab.v.k) (.int .i64 x.t.lab.v.n) (.string x.t.lab.v.s) (.string x.t.lab.tb) (.string x.t.lab.nm) (.string x.t.lab.op) (.slice x.a x.t.args.length x.cap))
  have HR := Lib.hid (fun V (hb : Below w.heap.size w V) => Right_any20 n x V (h.later hb))
  have HD := Lib.hid (fun V (hr : rightX 20 x.t = true) (hb : Below w.heap.size w V) => text_is n x V (hT.below hb) (h.later hb) (good_of hr hs) hc)
  have HB0 : Hid (∀ o, Below w.heap.size w (w.alloc o)) := fun o => (Below.refl _ w).alloc (Nat.le_refl _) _
  rw [XM.v_eq] at HR HD ⊢
  unfold writeV
  obtain ⟨r, hr⟩ : ∃ r, rightX 20 x.t = r := ⟨_, rfl⟩
  rw [hr] at HR HD ⊢
  generalize textX x.t = T at *
  clear h hT hs hc hr
  obtain ⟨x0, x1, x2, x3, x4, x5, x6, x7⟩ := HX.out
  cases r with
  | false =>
    rw [if_neg (by simp)]
    go_enter Tryz.func20, Tryz.ntmps20
    go_wp2_with fail
    refine (HR.out _ (HB0.out _)).mono ?_
    rintro e w1 ⟨rfl, hb1⟩
    have HB1 := Lib.hid ((HB0.out _).trans (hb1.mono (Nat.le_of_lt (box8 _ _))))
    clear hb1 x0 x1 x2 x3 x4 x5 x6 x7
    go_wp2
    go_ret2
    exact ⟨rfl, HB1.out⟩
  | true =>
    rw [if_pos rfl]
    go_enter Tryz.func20, Tryz.ntmps20
    go_wp2_with fail
    refine (HR.out _ (HB0.out _)).mono ?_
    rintro e w1 ⟨rfl, hb1⟩
    have HB1 := Lib.hid ((HB0.out _).trans (hb1.mono (Nat.le_of_lt (box8 _ _))))
    clear x0 x1 x2 x3 x4 x5 x6 x7
    obtain ⟨x0, x1, x2, x3, x4, x5, x6, x7⟩ := HX.out.later (box8 _ _) hb1
    have HY := Lib.hid (HD.out w1 (by trivial) HB1.out)
    clear hb1 HD HR
    go_wp2_with fail
    refine HY.out.mono ?_
    rintro e w2 ⟨rfl, hb2⟩
    have HB2 := Lib.hid (HB1.out.trans (hb2.mono HB1.out.size))
    clear hb2 HY x0 x1 x2 x3 x4 x5 x6 x7
    go_wp2
    go_ret2
    exact ⟨rfl, HB2.out⟩

theorem fits_all (p : Lb → Nat → Bool) (n : Nat) (e : Ex) (h : e.fits p n = true) : e.allB p = true := by
  rw [Rose.fits_eq, Bool.and_eq_true] at h; exact h.1

theorem one20_any (w : World) : Calls Tryz.prog 40 #[] w fun e w' => e = .returned (.agg #[.int .i64 1, .int .u8 1, .int .i64 1, .string ⟨#[]⟩, .string ⟨#[]⟩, .string ⟨#[]⟩, .string ⟨#[]⟩, .slice none 0 0]) ∧ Below w.heap.size w w' := by
  go_enter Tryz.func40, Tryz.ntmps40
  go_wp2
  exact bodyPost_ret (v := .agg #[.int .i64 1, .int .u8 1, .int .i64 1, .string ⟨#[]⟩, .string ⟨#[]⟩, .string ⟨#[]⟩, .string ⟨#[]⟩, .slice none 0 0]) (by simp [results, Tryz.results40, go_sem]) rfl ⟨rfl, (Below.refl _ w).alloc (Nat.le_refl _) _⟩
end Go.Proofs.YtbnddpicpomakaaGreatDoor

/- The walk of law 20's alive. -/
set_option linter.unusedSimpArgs false
set_option linter.unusedVariables false
set_option maxRecDepth 100000
namespace Go.Proofs.YtbnddpicpomakaaGreatDoor
open Go.RowKit

abbrev c16 : List Value := [.int .i64 2, .int .u8 0, .int .i64 0, .string ⟨#[]⟩, .string ⟨#[]⟩, .string ⟨#[97]⟩, .string ⟨#[]⟩, .slice none 0 0, .int .i64 1, .int .u8 1, .int .i64 1, .string ⟨#[]⟩, .string ⟨#[]⟩, .string ⟨#[]⟩, .string ⟨#[]⟩, .slice none 0 0]
theorem al_fair (kd : Int) (v : Vl) (tb nm op : ByteArray) (h1 : -9223372036854775808 ≤ kd ∧ kd ≤ 9223372036854775807) (h2 : v.k < 256 ∧ (-9223372036854775808 ≤ v.n ∧ v.n ≤ 9223372036854775807)) (h3 : v.s.size ≤ 100 ∧ tb.size ≤ 100 ∧ nm.size ≤ 100 ∧ op.size ≤ 100) : Lb.fair ⟨kd, v, tb, nm, op⟩ :=
  ⟨h1, h2.1, h2.2, by have := h3.1; show v.s.size ≤ _; omega, by have := h3.2.1; show tb.size ≤ _; omega, by have := h3.2.2.1; show nm.size ≤ _; omega, by have := h3.2.2.2; show op.size ≤ _; omega⟩

/-- The expression a + 1 has been laid. -/
structure AlE (w W : World) (B A : Nat) : Prop where
  at_ : XAt W.heap.size W 3 ⟨eT, some ⟨A, 0, none⟩, 2⟩
  box : Slot8 W B (.int .i64 4) (.int .u8 0) (.int .i64 0) (.string ⟨#[]⟩) (.string ⟨#[]⟩) (.string ⟨#[]⟩) (.string ⟨#[43]⟩) (.slice (some ⟨A, 0, none⟩) 2 2)
  lt : B < W.heap.size
  bel : Below w.heap.size w W
theorem AlE.later {w W W' : World} {B A : Nat} (h : AlE w W B A) (hb : Below W.heap.size W W') : AlE w W' B A :=
  ⟨h.at_.later hb, h.box.later h.lt hb, Nat.lt_of_lt_of_le h.lt hb.size, h.bel.trans (hb.mono h.bel.size)⟩

theorem al_end {w W3 : World} {B A : Nat} (hB : Blk W3 B 45 zeroXc) (hA : ∀ (j : Nat) v, c16[j]? = some v → W3.cell? ⟨A, j, none⟩ = some v) (hAlt : A < W3.heap.size) (hAB : A ≠ B) (hb : Below w.heap.size w W3) (hBw : w.heap.size ≤ B) :
    (storeVar 45 ⟨B, 0, none⟩ (.agg #[.int .i64 4, .int .u8 0, .int .i64 0, .string ⟨#[]⟩, .string ⟨#[]⟩, .string ⟨#[]⟩, .string ⟨#[43]⟩, .slice (some ⟨A, 0, none⟩) 2 2])).run Tryz.prog W3 = .ok () (W3.setRow B #[.int .i64 4, .int .u8 0, .int .i64 0, .string ⟨#[]⟩, .string ⟨#[]⟩, .string ⟨#[]⟩, .string ⟨#[43]⟩, .slice (some ⟨A, 0, none⟩) 2 2]) ∧ AlE w (W3.setRow B #[.int .i64 4, .int .u8 0, .int .i64 0, .string ⟨#[]⟩, .string ⟨#[]⟩, .string ⟨#[]⟩, .string ⟨#[43]⟩, .slice (some ⟨A, 0, none⟩) 2 2]) B A := by
  refine ⟨run_storeVar_row _ _ _ 45 _ _ hB (by rw [info_exS]; rfl) rfl (by simp [Value.oneCell']), ?_⟩
  have hN : Blk (W3.setRow B #[.int .i64 4, .int .u8 0, .int .i64 0, .string ⟨#[]⟩, .string ⟨#[]⟩, .string ⟨#[]⟩, .string ⟨#[43]⟩, .slice (some ⟨A, 0, none⟩) 2 2]) B 45 #[.int .i64 4, .int .u8 0, .int .i64 0, .string ⟨#[]⟩, .string ⟨#[]⟩, .string ⟨#[]⟩, .string ⟨#[43]⟩, .slice (some ⟨A, 0, none⟩) 2 2] := Blk.setRow hB
  have hc : Chg [B] W3 (W3.setRow B #[.int .i64 4, .int .u8 0, .int .i64 0, .string ⟨#[]⟩, .string ⟨#[]⟩, .string ⟨#[]⟩, .string ⟨#[43]⟩, .slice (some ⟨A, 0, none⟩) 2 2]) := (Chg.refl _ _).setRow (.inl (by simp)) _
  have hA2 : ∀ (j : Nat) v, c16[j]? = some v → (W3.setRow B #[.int .i64 4, .int .u8 0, .int .i64 0, .string ⟨#[]⟩, .string ⟨#[]⟩, .string ⟨#[]⟩, .string ⟨#[43]⟩, .slice (some ⟨A, 0, none⟩) 2 2]).cell? ⟨A, j, none⟩ = some v := fun j v hj => (hc.cell hAlt (by simp; exact hAB)).trans (hA j v hj)
  have hsz := hc.size
  refine ⟨⟨al_fair _ _ _ _ _ (by decide) (by decide) (by decide), (show (2 : Nat) ≤ 2 by decide), (show (2 : Nat) ≤ 9223372036854775807 by decide), [⟨aT, none, 0⟩, ⟨oneT, none, 0⟩], rfl, .inr ⟨A, 0, rfl, by omega, fun i v hi => ?_⟩, ?_⟩, ?_, hN.lt, hb.trans (hc.below hb.size (by simp; exact hBw))⟩
  · rw [Nat.zero_add]; exact hA2 i v hi
  · intro y hy
    rcases List.mem_cons.1 hy with rfl | hy
    · exact ⟨al_fair _ _ _ _ _ (by decide) (by decide) (by decide), by decide, by decide, [], rfl, .inl rfl, fun z hz => by cases hz⟩
    · rw [List.mem_singleton.1 hy]
      exact ⟨al_fair _ _ _ _ _ (by decide) (by decide) (by decide), by decide, by decide, [], rfl, .inl rfl, fun z hz => by cases hz⟩
  · exact ⟨(hN.cell 0).trans rfl, (hN.cell 1).trans rfl, (hN.cell 2).trans rfl, (hN.cell 3).trans rfl, (hN.cell 4).trans rfl, (hN.cell 5).trans rfl, (hN.cell 6).trans rfl, (hN.cell 7).trans rfl⟩

set_option maxHeartbeats 8000000 in
theorem alive20_any (w : World) (hT : Pre4 w) : Calls Tryz.prog 17 #[] w fun e w' => e = .returned (.bool true) ∧ Below w.heap.size w w' := by
  have HO := Lib.hid (fun V => one20_any V)
  have HWr : Hid (∀ (V : World) (B A : Nat), AlE w V B A → Calls Tryz.prog 20 #[.agg #[.int .i64 4, .int .u8 0, .int .i64 0, .string ⟨#[]⟩, .string ⟨#[]⟩, .string ⟨#[]⟩, .string ⟨#[43]⟩, .slice (some ⟨A, 0, none⟩) 2 2]] V fun e w' => e = .returned (.tuple #[.string ⟨#[40, 97, 32, 43, 32, 49, 41]⟩, .int .i64 0]) ∧ Below V.heap.size V w') := fun V B A h => by
    have := sWrite_any20 3 ⟨eT, some ⟨A, 0, none⟩, 2⟩ V (hT.below h.bel) h.at_ (fits_all _ _ _ al_fits) (by show eT.count ≤ _; rw [al_count]; omega)
    have e1 : writeV eT = (⟨#[40, 97, 32, 43, 32, 49, 41]⟩, 0) := by unfold writeV; rw [if_pos al_right, al_text]
    rw [XM.v_eq] at this
    simp only [e1] at this
    exact this
  have HCo : Hid (∀ (V : World) (B A : Nat), AlE w V B A → Calls Tryz.prog 41 #[.agg #[.int .i64 4, .int .u8 0, .int .i64 0, .string ⟨#[]⟩, .string ⟨#[]⟩, .string ⟨#[]⟩, .string ⟨#[43]⟩, .slice (some ⟨A, 0, none⟩) 2 2]] V fun e w' => ∃ (a : Option Addr) (cap : Nat), e = .returned (.slice a 1 cap) ∧ Below V.heap.size V w') := fun V B A h => by
    have := cols_any 3 ⟨eT, some ⟨A, 0, none⟩, 2⟩ V h.at_ (by show eT.count ≤ _; rw [al_count]; omega)
    rw [XM.v_eq] at this
    refine this.mono ?_
    rintro e w' ⟨a, cap, L, he, -, -, hL, -, -, hb⟩
    have e1 : (if rightX 20 eT = true then pickX 2 true eT else []) = [aT] := by rw [if_pos al_right, al_pick]
    have hl : L.length = 1 := by
      have h2 := congrArg List.length hL
      rw [List.length_map] at h2
      rw [h2]
      show (if rightX 20 eT = true then pickX 2 true eT else []).length = 1
      rw [e1]; rfl
    exact ⟨a, cap, by rw [he, hl], hb⟩
  have HSe : Hid (∀ (V : World), Below w.heap.size w V → Calls Tryz.prog 20 #[.agg #[.int .i64 2, .int .u8 0, .int .i64 0, .string ⟨#[]⟩, .string ⟨#[]⟩, .string ⟨#[115, 101, 108, 101, 99, 116]⟩, .string ⟨#[]⟩, .slice none 0 0]] V fun e w' => e = .returned (.tuple #[.string ⟨#[]⟩, .int .i64 3]) ∧ Below V.heap.size V w') := fun V hb => by
    have := sWrite_any20 1 ⟨selT, none, 0⟩ V (hT.below hb) ⟨al_fair _ _ _ _ _ (by decide) (by decide) (by decide), by decide, by decide, [], rfl, .inl rfl, fun z hz => by cases hz⟩ (fits_all _ _ _ al_fitsS) (by show selT.count ≤ _; rw [al_countS]; omega)
    have e1 : writeV selT = (⟨#[]⟩, 3) := by unfold writeV; rw [if_neg (by rw [al_sel]; simp)]
    rw [XM.v_eq] at this
    simp only [e1] at this
    exact this
  have HDe : Hid (∀ (V : World) (B A : Nat), AlE w V B A → Calls Tryz.prog 24 #[.agg #[.int .i64 4, .int .u8 0, .int .i64 0, .string ⟨#[]⟩, .string ⟨#[]⟩, .string ⟨#[]⟩, .string ⟨#[43]⟩, .slice (some ⟨A, 0, none⟩) 2 2]] V fun e w' => e = .returned (.int .i64 2) ∧ Below V.heap.size V w') := fun V B A h => by
    have := Deep_any 3 ⟨eT, some ⟨A, 0, none⟩, 2⟩ V h.at_
    rw [XM.v_eq] at this
    simp only [al_depth] at this
    exact this
  have HOf : Hid (∀ V, Calls Tryz.prog 27 #[.string ⟨#[111, 102]⟩] V fun e w' => e = .returned (.bool true) ∧ V = w') := fun V => by
    have := Reserved_any ⟨#[111, 102]⟩ V; rw [al_of] at this; exact this
  have HRa : Hid (∀ V, Calls Tryz.prog 27 #[.string ⟨#[97]⟩] V fun e w' => e = .returned (.bool false) ∧ V = w') := fun V => by
    have := Reserved_any ⟨#[97]⟩ V; rw [al_a] at this; exact this
  have HX := Lib.hid (Slot8.new w 45 (.int .i64 2) (.int .u8 0) (.int .i64 0) (.string ⟨#[]⟩) (.string ⟨#[]⟩) (.string ⟨#[97]⟩) (.string ⟨#[]⟩) (.slice none 0 0))
  obtain ⟨w0, hw0⟩ : ∃ w0, w.alloc (.cells #[.int .i64 2, .int .u8 0, .int .i64 0, .string ⟨#[]⟩, .string ⟨#[]⟩, .string ⟨#[97]⟩, .string ⟨#[]⟩, .slice none 0 0] 45) = w0 := ⟨_, rfl⟩
  have HB0 : Hid (Below w.heap.size w w0) := by rw [← hw0]; exact (Below.refl _ w).alloc (Nat.le_refl _) _
  have hs0 : w0.heap.size = w.heap.size + 1 := by rw [← hw0]; simp
  rw [hw0] at HX
  have HZ := Lib.hid hs0
  have b0 : ∀ V, Chg [] w0.drew V → V.cell? ⟨w.heap.size, 0, none⟩ = some (.int .i64 2) := fun V hV => (hV.cell (b := w.heap.size) (by show w.heap.size < w0.heap.size; have := HZ.out; omega) (by simp)).trans HX.out.c0
  have b1 : ∀ V, Chg [] w0.drew V → V.cell? ⟨w.heap.size, 1, none⟩ = some (.int .u8 0) := fun V hV => (hV.cell (b := w.heap.size) (by show w.heap.size < w0.heap.size; have := HZ.out; omega) (by simp)).trans HX.out.c1
  have b2 : ∀ V, Chg [] w0.drew V → V.cell? ⟨w.heap.size, 2, none⟩ = some (.int .i64 0) := fun V hV => (hV.cell (b := w.heap.size) (by show w.heap.size < w0.heap.size; have := HZ.out; omega) (by simp)).trans HX.out.c2
  have b3 : ∀ V, Chg [] w0.drew V → V.cell? ⟨w.heap.size, 3, none⟩ = some (.string ⟨#[]⟩) := fun V hV => (hV.cell (b := w.heap.size) (by show w.heap.size < w0.heap.size; have := HZ.out; omega) (by simp)).trans HX.out.c3
  have b4 : ∀ V, Chg [] w0.drew V → V.cell? ⟨w.heap.size, 4, none⟩ = some (.string ⟨#[]⟩) := fun V hV => (hV.cell (b := w.heap.size) (by show w.heap.size < w0.heap.size; have := HZ.out; omega) (by simp)).trans HX.out.c4
  have b5 : ∀ V, Chg [] w0.drew V → V.cell? ⟨w.heap.size, 5, none⟩ = some (.string ⟨#[97]⟩) := fun V hV => (hV.cell (b := w.heap.size) (by show w.heap.size < w0.heap.size; have := HZ.out; omega) (by simp)).trans HX.out.c5
  have b6 : ∀ V, Chg [] w0.drew V → V.cell? ⟨w.heap.size, 6, none⟩ = some (.string ⟨#[]⟩) := fun V hV => (hV.cell (b := w.heap.size) (by show w.heap.size < w0.heap.size; have := HZ.out; omega) (by simp)).trans HX.out.c6
  have b7 : ∀ V, Chg [] w0.drew V → V.cell? ⟨w.heap.size, 7, none⟩ = some (.slice none 0 0) := fun V hV => (hV.cell (b := w.heap.size) (by show w.heap.size < w0.heap.size; have := HZ.out; omega) (by simp)).trans HX.out.c7
  have HW0 := Lib.hid hw0
  clear hT hs0 hw0
  go_enter Tryz.func17, Tryz.ntmps17
  go_wp2_with fail
  rw [HW0.out]
  refine wp_region_tail ([]) [5] (.free 0 (.two 1 4 (.two 2 4 (.free 3 (.one 4 (.last 5 (.nil)))) (.one 2 (.free 3 (.last 5 (.nil))))) (.one 1 (.one 2 (.free 3 (.last 5 (.nil))))))) (by kernel_rfl) (by kernel_rfl) (by kernel_rfl) (by kernel_rfl) ?_
  repeat (first | (refine wpL_F (v := ?_) rfl (by rfl) (fun w' hL => ?_) ?_; rotate_left; (solve | (go_simp; with_reducible rfl) | go_simp); try simp only [Act.put, List.setIfInBounds_toArray, List.set_cons_zero, List.set_cons_succ]) | (refine wpL_G rfl (by rfl) ?_; try simp only [Act.put, List.setIfInBounds_toArray, List.set_cons_zero, List.set_cons_succ]))
  refine wpL_two ?_ ?_
  · skip
    refine wpL_C rfl (by rfl) ?_
    go_simp
    refine (HO.out _).mono ?_
    rintro e w1 ⟨rfl, hb1⟩
    refine ⟨below_chg hb1, ?_⟩
    try simp only [Act.put, List.setIfInBounds_toArray, List.set_cons_zero, List.set_cons_succ]
    refine wpL_two ?_ ?_
    · skip
      refine wpL_C rfl (by rfl) ?_
      go_simp
      refine ⟨(Chg.refl _ _).alloc _, ?_⟩
      try simp only [Act.put, List.setIfInBounds_toArray, List.set_cons_zero, List.set_cons_succ]
      repeat (first | (refine wpL_F (v := ?_) rfl (by rfl) (fun w' hL => ?_) ?_; rotate_left; (solve | (go_simp; with_reducible rfl) | go_simp); try simp only [Act.put, List.setIfInBounds_toArray, List.set_cons_zero, List.set_cons_succ]) | (refine wpL_G rfl (by rfl) ?_; try simp only [Act.put, List.setIfInBounds_toArray, List.set_cons_zero, List.set_cons_succ]))
      refine wpL_C rfl (by rfl) ?_
      go_simp
      refine ⟨(Chg.refl _ _).alloc _, ?_⟩
      try simp only [Act.put, List.setIfInBounds_toArray, List.set_cons_zero, List.set_cons_succ]
      obtain ⟨W3, hW3⟩ : ∃ W3, (w1.alloc (.cells #[.int .i64 2, .int .u8 0, .int .i64 0, .string ⟨#[]⟩, .string ⟨#[]⟩, .string ⟨#[97]⟩, .string ⟨#[]⟩, .slice none 0 0, .int .i64 1, .int .u8 1, .int .i64 1, .string ⟨#[]⟩, .string ⟨#[]⟩, .string ⟨#[]⟩, .string ⟨#[]⟩, .slice none 0 0] 45)).alloc (.cells #[.int .i64 0, .int .u8 0, .int .i64 0, .string ⟨#[]⟩, .string ⟨#[]⟩, .string ⟨#[]⟩, .string ⟨#[]⟩, .slice none 0 0] 45) = W3 := ⟨_, rfl⟩
      try rw [hW3]
      have hEnd := al_end (w := w) (W3 := W3) (B := w1.heap.size + 1) (A := w1.heap.size) (by rw [← hW3]; have := Blk.new (w1.alloc (.cells #[.int .i64 2, .int .u8 0, .int .i64 0, .string ⟨#[]⟩, .string ⟨#[]⟩, .string ⟨#[97]⟩, .string ⟨#[]⟩, .slice none 0 0, .int .i64 1, .int .u8 1, .int .i64 1, .string ⟨#[]⟩, .string ⟨#[]⟩, .string ⟨#[]⟩, .string ⟨#[]⟩, .slice none 0 0] 45)) 45 zeroXc; rw [show (w1.alloc (.cells #[.int .i64 2, .int .u8 0, .int .i64 0, .string ⟨#[]⟩, .string ⟨#[]⟩, .string ⟨#[97]⟩, .string ⟨#[]⟩, .slice none 0 0, .int .i64 1, .int .u8 1, .int .i64 1, .string ⟨#[]⟩, .string ⟨#[]⟩, .string ⟨#[]⟩, .string ⟨#[]⟩, .slice none 0 0] 45)).heap.size = w1.heap.size + 1 by simp] at this; exact this) (fun j v hj => by rw [← hW3]; exact ((((Below.refl _ (w1.alloc (.cells #[.int .i64 2, .int .u8 0, .int .i64 0, .string ⟨#[]⟩, .string ⟨#[]⟩, .string ⟨#[97]⟩, .string ⟨#[]⟩, .slice none 0 0, .int .i64 1, .int .u8 1, .int .i64 1, .string ⟨#[]⟩, .string ⟨#[]⟩, .string ⟨#[]⟩, .string ⟨#[]⟩, .slice none 0 0] 45))).alloc (Nat.le_refl _) _).cell (p := ⟨w1.heap.size, j, none⟩) (by simp))).trans (by rw [World.cell?_alloc_at _ _ _ _ rfl]; simpa using hj)) (by rw [← hW3]; simp; omega) (by omega) (by rw [← hW3]; have h1 := hb1.size; have h2 : w0.drew.heap.size = w0.heap.size := rfl; have h3 := HZ.out; exact ((HB0.out.drew.trans (hb1.mono HB0.out.drew.size)).alloc (by omega) _).alloc (by simp; omega) _) (by have h1 := hb1.size; have h2 : w0.drew.heap.size = w0.heap.size := rfl; have h3 := HZ.out; omega)
      have HSt := Lib.hid hEnd.1
      have HE := Lib.hid hEnd.2
      clear hEnd hb1 b0 b1 b2 b3 b4 b5 b6 b7
      refine wpL_X rfl (by rfl) ?_
      refine wp_skp (exec_store rfl rfl rfl HSt.out) ?_
      try simp only [Act.put, List.setIfInBounds_toArray, List.set_cons_zero, List.set_cons_succ]
      refine wpL_nil ?_
      try go_simp
      try simp only [NoPanic]
      obtain ⟨x0q, x1q, x2q, x3q, x4q, x5q, x6q, x7q⟩ := HE.out.box
      go_wp2_with fail
      refine (HWr.out _ _ _ HE.out).mono ?_
      rintro e x1 ⟨rfl, hb1⟩
      have HE1 := Lib.hid (HE.out.later hb1)
      clear x0q x1q x2q x3q x4q x5q x6q x7q hb1
      obtain ⟨x0q, x1q, x2q, x3q, x4q, x5q, x6q, x7q⟩ := HE1.out.box
      go_wp2_with fail
      refine (HCo.out _ _ _ HE1.out).mono ?_
      rintro e x2 ⟨ac, cc, rfl, hb2⟩
      have HE2 := Lib.hid (HE1.out.later hb2)
      clear x0q x1q x2q x3q x4q x5q x6q x7q hb2 HE1
      go_wp2_with fail
      refine (HSe.out _ HE2.out.bel).mono ?_
      rintro e x3 ⟨rfl, hb3⟩
      have HE3 := Lib.hid (HE2.out.later hb3)
      clear hb3 HE2
      obtain ⟨x0q, x1q, x2q, x3q, x4q, x5q, x6q, x7q⟩ := HE3.out.box
      go_wp2_with fail
      refine (HDe.out _ _ _ HE3.out).mono ?_
      rintro e x4 ⟨rfl, hb4⟩
      have HE4 := Lib.hid (HE3.out.later hb4)
      clear x0q x1q x2q x3q x4q x5q x6q x7q hb4 HE3
      go_wp2_with fail
      refine (HOf.out _).mono ?_
      rintro e x5 ⟨rfl, rfl⟩
      go_wp2_with fail
      refine (HRa.out _).mono ?_
      rintro e x6 ⟨rfl, rfl⟩
      go_wp2
      go_ret
      exact ⟨rfl, HE4.out.bel⟩
    · skip
      refine wpL_C rfl (by rfl) ?_
      go_simp
      refine ⟨(Chg.refl _ _).alloc _, ?_⟩
      try simp only [Act.put, List.setIfInBounds_toArray, List.set_cons_zero, List.set_cons_succ]
      refine wpL_C rfl (by rfl) ?_
      go_simp
      refine ⟨(Chg.refl _ _).alloc _, ?_⟩
      try simp only [Act.put, List.setIfInBounds_toArray, List.set_cons_zero, List.set_cons_succ]
      repeat (first | (refine wpL_F (v := ?_) rfl (by rfl) (fun w' hL => ?_) ?_; rotate_left; (solve | (go_simp; with_reducible rfl) | go_simp); try simp only [Act.put, List.setIfInBounds_toArray, List.set_cons_zero, List.set_cons_succ]) | (refine wpL_G rfl (by rfl) ?_; try simp only [Act.put, List.setIfInBounds_toArray, List.set_cons_zero, List.set_cons_succ]))
      obtain ⟨W3, hW3⟩ : ∃ W3, (w1.alloc (.cells #[.int .i64 0, .int .u8 0, .int .i64 0, .string ⟨#[]⟩, .string ⟨#[]⟩, .string ⟨#[]⟩, .string ⟨#[]⟩, .slice none 0 0] 45)).alloc (.cells #[.int .i64 2, .int .u8 0, .int .i64 0, .string ⟨#[]⟩, .string ⟨#[]⟩, .string ⟨#[97]⟩, .string ⟨#[]⟩, .slice none 0 0, .int .i64 1, .int .u8 1, .int .i64 1, .string ⟨#[]⟩, .string ⟨#[]⟩, .string ⟨#[]⟩, .string ⟨#[]⟩, .slice none 0 0] 45) = W3 := ⟨_, rfl⟩
      try rw [hW3]
      have hEnd := al_end (w := w) (W3 := W3) (B := w1.heap.size) (A := w1.heap.size + 1) (by rw [← hW3]; exact (Blk.new w1 45 zeroXc).alloc _) (fun j v hj => by rw [← hW3, World.cell?_alloc_at (w := w1.alloc (.cells #[.int .i64 0, .int .u8 0, .int .i64 0, .string ⟨#[]⟩, .string ⟨#[]⟩, .string ⟨#[]⟩, .string ⟨#[]⟩, .slice none 0 0] 45)) _ _ _ _ (show w1.heap.size + 1 = (w1.alloc (.cells #[.int .i64 0, .int .u8 0, .int .i64 0, .string ⟨#[]⟩, .string ⟨#[]⟩, .string ⟨#[]⟩, .string ⟨#[]⟩, .slice none 0 0] 45)).heap.size by simp)]; simpa using hj) (by rw [← hW3]; simp) (by omega) (by rw [← hW3]; have h1 := hb1.size; have h2 : w0.drew.heap.size = w0.heap.size := rfl; have h3 := HZ.out; exact ((HB0.out.drew.trans (hb1.mono HB0.out.drew.size)).alloc (by omega) _).alloc (by simp; omega) _) (by have h1 := hb1.size; have h2 : w0.drew.heap.size = w0.heap.size := rfl; have h3 := HZ.out; omega)
      have HSt := Lib.hid hEnd.1
      have HE := Lib.hid hEnd.2
      clear hEnd hb1 b0 b1 b2 b3 b4 b5 b6 b7
      refine wpL_X rfl (by rfl) ?_
      refine wp_skp (exec_store rfl rfl rfl HSt.out) ?_
      try simp only [Act.put, List.setIfInBounds_toArray, List.set_cons_zero, List.set_cons_succ]
      refine wpL_nil ?_
      try go_simp
      try simp only [NoPanic]
      obtain ⟨x0q, x1q, x2q, x3q, x4q, x5q, x6q, x7q⟩ := HE.out.box
      go_wp2_with fail
      refine (HWr.out _ _ _ HE.out).mono ?_
      rintro e x1 ⟨rfl, hb1⟩
      have HE1 := Lib.hid (HE.out.later hb1)
      clear x0q x1q x2q x3q x4q x5q x6q x7q hb1
      obtain ⟨x0q, x1q, x2q, x3q, x4q, x5q, x6q, x7q⟩ := HE1.out.box
      go_wp2_with fail
      refine (HCo.out _ _ _ HE1.out).mono ?_
      rintro e x2 ⟨ac, cc, rfl, hb2⟩
      have HE2 := Lib.hid (HE1.out.later hb2)
      clear x0q x1q x2q x3q x4q x5q x6q x7q hb2 HE1
      go_wp2_with fail
      refine (HSe.out _ HE2.out.bel).mono ?_
      rintro e x3 ⟨rfl, hb3⟩
      have HE3 := Lib.hid (HE2.out.later hb3)
      clear hb3 HE2
      obtain ⟨x0q, x1q, x2q, x3q, x4q, x5q, x6q, x7q⟩ := HE3.out.box
      go_wp2_with fail
      refine (HDe.out _ _ _ HE3.out).mono ?_
      rintro e x4 ⟨rfl, hb4⟩
      have HE4 := Lib.hid (HE3.out.later hb4)
      clear x0q x1q x2q x3q x4q x5q x6q x7q hb4 HE3
      go_wp2_with fail
      refine (HOf.out _).mono ?_
      rintro e x5 ⟨rfl, rfl⟩
      go_wp2_with fail
      refine (HRa.out _).mono ?_
      rintro e x6 ⟨rfl, rfl⟩
      go_wp2
      go_ret
      exact ⟨rfl, HE4.out.bel⟩
  · skip
    refine wpL_C rfl (by rfl) ?_
    go_simp
    refine ⟨(Chg.refl _ _).alloc _, ?_⟩
    try simp only [Act.put, List.setIfInBounds_toArray, List.set_cons_zero, List.set_cons_succ]
    obtain ⟨wz, hwz⟩ : ∃ wz, (w0.alloc (.cells #[.int .i64 0, .int .u8 0, .int .i64 0, .string ⟨#[]⟩, .string ⟨#[]⟩, .string ⟨#[]⟩, .string ⟨#[]⟩, .slice none 0 0] 45)).drew = wz := ⟨_, rfl⟩
    try rw [hwz]
    refine wpL_C rfl (by rfl) ?_
    go_simp
    refine (HO.out _).mono ?_
    rintro e w1 ⟨rfl, hb1⟩
    refine ⟨below_chg hb1, ?_⟩
    try simp only [Act.put, List.setIfInBounds_toArray, List.set_cons_zero, List.set_cons_succ]
    refine wpL_C rfl (by rfl) ?_
    go_simp
    refine ⟨(Chg.refl _ _).alloc _, ?_⟩
    try simp only [Act.put, List.setIfInBounds_toArray, List.set_cons_zero, List.set_cons_succ]
    repeat (first | (refine wpL_F (v := ?_) rfl (by rfl) (fun w' hL => ?_) ?_; rotate_left; (solve | (go_simp; with_reducible rfl) | go_simp); try simp only [Act.put, List.setIfInBounds_toArray, List.set_cons_zero, List.set_cons_succ]) | (refine wpL_G rfl (by rfl) ?_; try simp only [Act.put, List.setIfInBounds_toArray, List.set_cons_zero, List.set_cons_succ]))
    obtain ⟨W3, hW3⟩ : ∃ W3, w1.alloc (.cells #[.int .i64 2, .int .u8 0, .int .i64 0, .string ⟨#[]⟩, .string ⟨#[]⟩, .string ⟨#[97]⟩, .string ⟨#[]⟩, .slice none 0 0, .int .i64 1, .int .u8 1, .int .i64 1, .string ⟨#[]⟩, .string ⟨#[]⟩, .string ⟨#[]⟩, .string ⟨#[]⟩, .slice none 0 0] 45) = W3 := ⟨_, rfl⟩
    try rw [hW3]
    have hEnd := al_end (w := w) (W3 := W3) (B := w0.heap.size) (A := w1.heap.size) (by rw [← hW3]; have h4 : Blk wz w0.heap.size 45 zeroXc := (by rw [← hwz]; exact (Blk.new w0 45 zeroXc)); exact Blk.alloc (show Blk w1 w0.heap.size 45 zeroXc from (hb1.block _ h4.lt).trans h4) _) (fun j v hj => by rw [← hW3, World.cell?_alloc_at _ _ _ _ rfl]; simpa using hj) (by rw [← hW3]; simp) (by have h1 := hb1.size; have : w0.heap.size < wz.heap.size := (by rw [← hwz]; show w0.heap.size < (w0.alloc _).heap.size; simp); omega) (by rw [← hW3]; have h1 := hb1.size; have h5 : Below w.heap.size w wz := (by rw [← hwz]; exact (HB0.out.alloc HB0.out.size _).drew); exact (h5.trans (hb1.mono h5.size)).alloc (Nat.le_trans h5.size h1) _) (by have h3 := HZ.out; omega)
    have HSt := Lib.hid hEnd.1
    have HE := Lib.hid hEnd.2
    clear hEnd hb1 b0 b1 b2 b3 b4 b5 b6 b7
    refine wpL_X rfl (by rfl) ?_
    refine wp_skp (exec_store rfl rfl rfl HSt.out) ?_
    try simp only [Act.put, List.setIfInBounds_toArray, List.set_cons_zero, List.set_cons_succ]
    refine wpL_nil ?_
    try go_simp
    try simp only [NoPanic]
    obtain ⟨x0q, x1q, x2q, x3q, x4q, x5q, x6q, x7q⟩ := HE.out.box
    go_wp2_with fail
    refine (HWr.out _ _ _ HE.out).mono ?_
    rintro e x1 ⟨rfl, hb1⟩
    have HE1 := Lib.hid (HE.out.later hb1)
    clear x0q x1q x2q x3q x4q x5q x6q x7q hb1
    obtain ⟨x0q, x1q, x2q, x3q, x4q, x5q, x6q, x7q⟩ := HE1.out.box
    go_wp2_with fail
    refine (HCo.out _ _ _ HE1.out).mono ?_
    rintro e x2 ⟨ac, cc, rfl, hb2⟩
    have HE2 := Lib.hid (HE1.out.later hb2)
    clear x0q x1q x2q x3q x4q x5q x6q x7q hb2 HE1
    go_wp2_with fail
    refine (HSe.out _ HE2.out.bel).mono ?_
    rintro e x3 ⟨rfl, hb3⟩
    have HE3 := Lib.hid (HE2.out.later hb3)
    clear hb3 HE2
    obtain ⟨x0q, x1q, x2q, x3q, x4q, x5q, x6q, x7q⟩ := HE3.out.box
    go_wp2_with fail
    refine (HDe.out _ _ _ HE3.out).mono ?_
    rintro e x4 ⟨rfl, hb4⟩
    have HE4 := Lib.hid (HE3.out.later hb4)
    clear x0q x1q x2q x3q x4q x5q x6q x7q hb4 HE3
    go_wp2_with fail
    refine (HOf.out _).mono ?_
    rintro e x5 ⟨rfl, rfl⟩
    go_wp2_with fail
    refine (HRa.out _).mono ?_
    rintro e x6 ⟨rfl, rfl⟩
    go_wp2
    go_ret
    exact ⟨rfl, HE4.out.bel⟩
end Go.Proofs.YtbnddpicpomakaaGreatDoor

/- Unlike expressions have unlike texts: the mathematics. -/
set_option linter.unusedSimpArgs false
set_option linter.unusedVariables false
set_option maxRecDepth 100000
namespace Go.Proofs.YtbnddpicpomakaaGreatDoor
open Go.RowKit

def bL (s : ByteArray) : List UInt8 := s.data.toList
theorem bL_inj {s t : ByteArray} (h : bL s = bL t) : s = t := ByteArray.ext (Array.toList_inj.1 h)
theorem bL_app (s t : ByteArray) : bL (s ++ t) = bL s ++ bL t := by simp [bL, ByteArray.data_append]
theorem bL_baL (l : List UInt8) : bL (baL l) = l := baL_list l
theorem bL_nil {s : ByteArray} (h : bL s = []) : s = ⟨#[]⟩ := bL_inj h
theorem bL_empty {s : ByteArray} (h : s.toList.isEmpty = true) : s = ⟨#[]⟩ := by
  rw [ByteArray.toList_eq] at h
  exact bL_nil (by simpa [bL] using h)

/-- A longest run of bytes that are so. -/
theorem run_of (p : UInt8 → Bool) : ∀ (a a' r r' : List UInt8), (∀ c ∈ a, p c = true) → (∀ c ∈ a', p c = true) → (∀ c, r.head? = some c → p c = false) → (∀ c, r'.head? = some c → p c = false) → a ++ r = a' ++ r' → a = a' ∧ r = r'
  | [], [], r, r', _, _, _, _, h => ⟨rfl, by simpa using h⟩
  | [], c :: t, r, r', _, h2, h3, _, h => by
    have hr : r.head? = some c := by rw [List.nil_append] at h; rw [h]; rfl
    have h5 := h3 c hr
    rw [h2 c (by simp)] at h5; cases h5
  | c :: t, [], r, r', h1, _, _, h4, h => by
    have hr : r'.head? = some c := by rw [List.nil_append] at h; rw [← h]; rfl
    have h5 := h4 c hr
    rw [h1 c (by simp)] at h5; cases h5
  | c :: t, d :: u, r, r', h1, h2, h3, h4, h => by
    rw [List.cons_append, List.cons_append] at h
    injection h with hc ht
    subst hc
    obtain ⟨h5, h6⟩ := run_of p t u r r' (fun x hx => h1 x (by simp [hx])) (fun x hx => h2 x (by simp [hx])) h3 h4 ht
    exact ⟨by rw [h5], h6⟩

/-- What stands behind a text: nothing, or one of ' ', ')', ','. -/
def Dl (r : List UInt8) : Prop := ∀ c, r.head? = some c → c = 32 ∨ c = 41 ∨ c = 44
theorem Dl.nil : Dl [] := fun _ h => by cases h
theorem Dl.sp (r : List UInt8) : Dl (32 :: r) := fun c h => by simp at h; exact .inl h.symm
theorem Dl.cl (r : List UInt8) : Dl (41 :: r) := fun c h => by simp at h; exact .inr (.inl h.symm)
theorem Dl.co (r : List UInt8) : Dl (44 :: r) := fun c h => by simp at h; exact .inr (.inr h.symm)

/-- A byte of a word. -/
def wb (c : UInt8) : Bool := c != 32 && c != 39 && c != 40 && c != 41 && c != 44
theorem Dl.wb {r : List UInt8} (h : Dl r) : ∀ c, r.head? = some c → wb c = false := fun c hc => by
  rcases h c hc with rfl | rfl | rfl <;> decide
theorem wb_of {c : UInt8} (h : c.toNat ≠ 32 ∧ c.toNat ≠ 39 ∧ c.toNat ≠ 40 ∧ c.toNat ≠ 41 ∧ c.toNat ≠ 44) : wb c = true := by
  obtain ⟨h1, h2, h3, h4, h5⟩ := h
  have f : ∀ d : UInt8, c.toNat ≠ d.toNat → (c != d) = true := fun d hd => by
    rw [bne_iff_ne]; rintro rfl; exact hd rfl
  unfold Go.Proofs.YtbnddpicpomakaaGreatDoor.wb
  rw [f 32 h1, f 39 h2, f 40 h3, f 41 h4, f 44 h5]; rfl

theorem dbl_inj : ∀ (s s' r r' : List UInt8), r.head? ≠ some 39 → r'.head? ≠ some 39 → dblL s ++ 39 :: r = dblL s' ++ 39 :: r' → s = s' ∧ r = r'
  | [], [], r, r', _, _, h => ⟨rfl, by simpa [dblL] using h⟩
  | [], c :: t, r, r', h1, _, h => by
    rw [dblL, dblL] at h
    split at h
    · rw [List.nil_append, List.cons_append, List.cons_append] at h
      injection h with _ h
      rw [h] at h1; simp at h1
    · rename_i hc
      rw [List.nil_append, List.cons_append] at h
      injection h with h _
      exact absurd h.symm hc
  | c :: t, [], r, r', _, h2, h => by
    rw [dblL, dblL] at h
    split at h
    · rw [List.nil_append, List.cons_append, List.cons_append] at h
      injection h with _ h
      rw [← h] at h2; simp at h2
    · rename_i hc
      rw [List.nil_append, List.cons_append] at h
      injection h with h _
      exact absurd h hc
  | c :: t, d :: u, r, r', h1, h2, h => by
    rw [dblL, dblL] at h
    split at h <;> split at h
    · rename_i hc hd
      rw [List.cons_append, List.cons_append, List.cons_append, List.cons_append] at h
      injection h with _ h
      injection h with _ h
      obtain ⟨h5, h6⟩ := dbl_inj t u r r' h1 h2 h
      exact ⟨by rw [h5, hc, hd], h6⟩
    · rename_i hc hd
      rw [List.cons_append, List.cons_append, List.cons_append] at h
      injection h with h _
      exact absurd h.symm hd
    · rename_i hc hd
      rw [List.cons_append, List.cons_append, List.cons_append] at h
      injection h with h _
      exact absurd h hc
    · rw [List.cons_append, List.cons_append] at h
      injection h with hc h
      obtain ⟨h5, h6⟩ := dbl_inj t u r r' h1 h2 h
      exact ⟨by rw [h5, hc], h6⟩

def valD (l : List UInt8) : Nat := l.foldl (fun a c => 10 * a + (c.toNat - 48)) 0
theorem valD_dec (u : Nat) : valD (Lib.decDigits u) = u := by
  induction u using Nat.strongRecOn with
  | _ u ih =>
    by_cases h : u < 10
    · rw [Lib.decDigits, dif_pos h]
      simp only [valD, List.foldl_cons, List.foldl_nil, UInt8.toNat_ofNat']
      omega
    · rw [Lib.decDigits, dif_neg h]
      have h1 := ih (u / 10) (by omega)
      unfold valD at h1 ⊢
      rw [List.foldl_append, h1]
      simp only [List.foldl_cons, List.foldl_nil, UInt8.toNat_ofNat']
      omega
theorem dec_dig (u : Nat) : ∀ c ∈ Lib.decDigits u, 48 ≤ c.toNat ∧ c.toNat ≤ 57 := by
  induction u using Nat.strongRecOn with
  | _ u ih =>
    by_cases h : u < 10
    · rw [Lib.decDigits, dif_pos h]
      intro c hc
      rw [List.mem_singleton.1 hc, UInt8.toNat_ofNat']
      omega
    · rw [Lib.decDigits, dif_neg h]
      intro c hc
      rcases List.mem_append.1 hc with hc | hc
      · exact ih (u / 10) (by omega) c hc
      · rw [List.mem_singleton.1 hc, UInt8.toNat_ofNat']
        omega
theorem dec_ne (u : Nat) : Lib.decDigits u ≠ [] := by
  rw [Lib.decDigits]; split <;> simp

theorem hexd_inj : ∀ a b : Fin 16, hexd a.1 = hexd b.1 → a = b := by decide
theorem hexN_inj : ∀ (l m : List Nat), (∀ c ∈ l, c < 256) → (∀ c ∈ m, c < 256) → hexN l = hexN m → l = m
  | [], [], _, _, _ => rfl
  | [], c :: m, _, _, h => by simp [hexN] at h
  | c :: l, [], _, _, h => by simp [hexN] at h
  | c :: l, d :: m, h1, h2, h => by
    have h3 := h1 c (by simp)
    have h4 := h2 d (by simp)
    rw [hexN, hexN, List.flatMap_cons, List.flatMap_cons] at h
    simp only [List.cons_append, List.nil_append, List.cons.injEq] at h
    have a1 := hexd_inj ⟨c / 16, by omega⟩ ⟨d / 16, by omega⟩ h.1
    have a2 := hexd_inj ⟨c % 16, by omega⟩ ⟨d % 16, by omega⟩ h.2.1
    simp only [Fin.mk.injEq] at a1 a2
    rw [show c = d by omega, hexN_inj l m (fun x hx => h1 x (by simp [hx])) (fun x hx => h2 x (by simp [hx])) h.2.2]
theorem map_ofNat_inj : ∀ (l m : List Nat), (∀ c ∈ l, c < 256) → (∀ c ∈ m, c < 256) → l.map UInt8.ofNat = m.map UInt8.ofNat → l = m
  | [], [], _, _, _ => rfl
  | [], c :: m, _, _, h => by simp at h
  | c :: l, [], _, _, h => by simp at h
  | c :: l, d :: m, h1, h2, h => by
    have h3 := h1 c (by simp)
    have h4 := h2 d (by simp)
    rw [List.map_cons, List.map_cons] at h
    injection h with ha hb
    have := congrArg UInt8.toNat ha
    rw [UInt8.toNat_ofNat', UInt8.toNat_ofNat'] at this
    rw [show c = d by omega, map_ofNat_inj l m (fun x hx => h1 x (by simp [hx])) (fun x hx => h2 x (by simp [hx])) hb]
theorem hexN_lt (l : List Nat) (h : ∀ c ∈ l, c < 256) : ∀ d ∈ hexN l, d < 256 := by
  intro d hd
  unfold hexN at hd
  obtain ⟨c, hc, hd⟩ := List.mem_flatMap.1 hd
  have := h c hc
  simp only [List.mem_cons, List.not_mem_nil, or_false] at hd
  rcases hd with rfl | rfl
  · exact hexd_lt (by omega)
  · exact hexd_lt (by omega)
theorem hexS_inj {s t : ByteArray} (h : bL (hexS s) = bL (hexS t)) : s = t := by
  have h1 : ∀ u : ByteArray, bL (hexS u) = (hexN (bytesU u)).map UInt8.ofNat := fun u => by simp [bL, hexS, strN]
  rw [h1, h1] at h
  have h2 := map_ofNat_inj _ _ (hexN_lt _ (bytesU_lt s)) (hexN_lt _ (bytesU_lt t)) h
  have h3 := hexN_inj _ _ (bytesU_lt s) (bytesU_lt t) h2
  apply bL_inj
  unfold bytesU at h3
  exact (List.map_inj_right (fun a b hab => UInt8.toNat_inj.1 hab)).1 h3

/-- A byte of a name. -/
def nch (c : UInt8) : Prop := (97 ≤ c.toNat ∧ c.toNat ≤ 122) ∨ (65 ≤ c.toNat ∧ c.toNat ≤ 90) ∨ c.toNat = 95 ∨ (48 ≤ c.toNat ∧ c.toNat ≤ 57)
theorem isX_bytes {s : ByteArray} (h : isX s = true) : bL s ≠ [] ∧ (∀ c ∈ bL s, nch c) ∧ (∀ c, (bL s).head? = some c → ¬ (48 ≤ c.toNat ∧ c.toNat ≤ 57)) ∧ resB s = false := by
  unfold isX at h
  simp only [Bool.and_eq_true, decide_eq_true_iff, Bool.not_eq_true'] at h
  obtain ⟨⟨h1, h2⟩, h3⟩ := h
  have hb : nameB s = true := by
    rw [nameV] at h1
    split at h1
    · cases h1
    · split at h1
      · cases h1
      · rename_i hx; simpa using hx
  obtain ⟨hp, hall⟩ := nameB_true.1 hb
  have hok : ∀ i (hi : i < (bL s).length), (classZ ((bL s)[i].toNat : Int) = 2 ∨ (classZ ((bL s)[i].toNat : Int) = 3 ∧ i ≠ 0)) := fun i hi => by
    have hi2 : i < s.size := by simpa [bL] using hi
    have h5 := hall i hi2
    rw [byteN_at s i hi2, okN] at h5
    exact (by simpa using h5 : classZ ((s[i]'hi2).toNat : Int) = 2 ∨ (classZ ((s[i]'hi2).toNat : Int) = 3 ∧ i ≠ 0))
  refine ⟨fun hn => ?_, fun c hc => ?_, fun c hc => ?_, h3⟩
  · have : (bL s).length = s.size := by simp [bL]
    rw [hn] at this; simp at this; omega
  · obtain ⟨i, hi, rfl⟩ := List.getElem_of_mem hc
    have := hok i hi
    unfold classZ at this
    unfold nch
    rcases this with h7 | ⟨h7, _⟩
    · split at h7
      · cases h7
      · split at h7
        · omega
        · split at h7
          · cases h7
          · split at h7
            · cases h7
            · split at h7 <;> cases h7
    · split at h7
      · cases h7
      · split at h7
        · cases h7
        · split at h7
          · omega
          · split at h7
            · cases h7
            · split at h7 <;> cases h7
  · have h0 : 0 < (bL s).length := by cases hl : bL s with | nil => rw [hl] at hc; cases hc | cons a r => simp
    have hc2 : c = (bL s)[0] := by rw [List.head?_eq_getElem?, List.getElem?_eq_getElem h0] at hc; injection hc with hc; exact hc.symm
    subst hc2
    have := hok 0 h0
    unfold classZ at this
    rcases this with h7 | ⟨_, h7⟩
    · split at h7
      · cases h7
      · split at h7
        · omega
        · split at h7
          · cases h7
          · split at h7
            · cases h7
            · split at h7 <;> cases h7
    · exact absurd rfl h7
theorem nch_wb {c : UInt8} (h : nch c) : wb c = true := wb_of (by unfold nch at h; omega)
theorem nch_ne {c : UInt8} (h : nch c) : c ≠ 46 := by rintro rfl; revert h; unfold nch; decide
end Go.Proofs.YtbnddpicpomakaaGreatDoor
