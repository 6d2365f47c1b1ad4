/- Several texts of one proof, one behind the other. -/
import Derived.Test.YtialpfdhdcjpaaaSPk7
import Derived.Laws.OwnMore
import Derived.Deep.WholeRow
import Derived.Laws.Rows
import Derived.Laws.CopyRow
set_option linter.unusedSimpArgs false
set_option linter.unusedVariables false

/- 'append(s, t...)' of a row of the call's own and any slice, nil or not. -/
set_option linter.unusedSimpArgs false
set_option linter.unusedVariables false
set_option maxRecDepth 100000
namespace Go.Proofs.Ytialpfdhdcjpaaa
open Go.RowKit

section
variable {P : Program}

theorem run_appNil (w : World) (base : Nat) (t ty e : TypeId) (i : TypeInfo) (z : Nat) (ht : P.underlying t = some (.slice e)) (hi : P.info? e = some i)
    (v : Value) (n : Nat) (l : List Value) (hown : w.ownsRow base e z v n l) (c : Nat) : (Builtin.append_ #[t, t] ty #[v, .slice none 0 c]).run P w = .ok v w := by
  obtain ⟨_, h⟩ := hown
  rcases h with ⟨rfl, _⟩ | ⟨g, cap, cur, rfl, _, _, hnc, _⟩ <;> simp [Builtin.append_, run_underlying ht, sizeOf, typeInfo, hi, Builtin.lenOf, Builtin.firstCells, storeCells, *]

theorem run_appS (w : World) (base : Nat) (t ty e : TypeId) (i : TypeInfo) (zr : Value) (z bytes : Nat) (ht : P.underlying t = some (.slice e)) (hi : P.info? e = some i) (hz : i.zero = some zr) (hzs : zr.cells.size = z)
    (hsize : i.size = z) (hz0 : 0 < z) (hby : i.bytes = bytes) (hb100 : bytes ≤ 100)
    (v : Value) (n : Nat) (l : List Value) (hown : w.ownsRow base e z v n l) (N : Nat) (A : Option Addr) (m c : Nat) (news : List Value) (hA : Arr N w A news) (hl : news.length = m * z) (h1 : ∀ u ∈ news, u.oneCell' = true)
    (hlen : n + m < 1000000000000) (hbase : base ≤ w.heap.size) :
    ∃ v' w', (Builtin.append_ #[t, t] ty #[v, .slice A m c]).run P w = .ok v' w' ∧ w'.ownsRow base e z v' (n + m) (l ++ news) ∧ w.grownBy w' v.ownBlock := by
  have hby2 : (n + m) * bytes ≤ 140737488355328 := by
    have : (n + m) * bytes ≤ 1000000000000 * 100 := Nat.mul_le_mul (by omega) hb100
    omega
  cases A with
  | none =>
    have hn : news = [] := by
      rcases hA with h | ⟨b, o, h, _⟩
      · exact h
      · cases h
    subst hn
    have hm : m = 0 := by
      rcases Nat.eq_zero_or_pos m with h0 | h0
      · exact h0
      · have := Nat.mul_pos h0 hz0
        simp at hl; omega
    subst hm
    exact ⟨v, w, run_appNil w base t ty e i z ht hi v n l hown c, by simpa using hown, World.grownBy.refl w _⟩
  | some ad =>
    obtain ⟨v', w', h2, h3, h4, _⟩ := run_append_own (P := P) w base t ty e i zr z bytes ht hi hz hsize hby hzs hz0 v n l hown ad m c news hl (fun j u hu => by
      rcases hA with h | ⟨b, o, h, _, hc⟩
      · rw [h] at hu; simp at hu
      · simp only [Option.some.injEq] at h
        subst h
        have e1 : (⟨b, o, none⟩ : Addr).add j = ⟨b, o + j, none⟩ := by unfold Addr.add; split <;> simp_all
        rw [e1]; exact hc j u hu) h1 (by unfold maxLen; omega) hby2 hbase
    exact ⟨v', w', h2, h3, h4⟩

theorem wp_appS {o : Oper} {a : Act} {K : Act → World → Prop} {Q : Exit → Act → World → Prop} (s x : Operand) (t : TypeId)
    (ho : o.op = .call { callee := .builtin .append, args := #[s, x], argTypes := #[t, t] })
    (base : Nat) (e : TypeId) (i : TypeInfo) (zr : Value) (z bytes : Nat) (ht : P.underlying t = some (.slice e)) (hi : P.info? e = some i) (hz : i.zero = some zr) (hzs : zr.cells.size = z)
    (hsize : i.size = z) (hz0 : 0 < z) (hby : i.bytes = bytes) (hb100 : bytes ≤ 100)
    (v : Value) (n : Nat) (l : List Value) (w : World) (hown : w.ownsRow base e z v n l) (hs : a.eval s = v) (N : Nat) (A : Option Addr) (m c : Nat) (news : List Value) (hA : Arr N w A news) (hl : news.length = m * z) (h1 : ∀ u ∈ news, u.oneCell' = true)
    (hx : a.eval x = .slice A m c) (hlen : n + m < 1000000000000) (hbase : base ≤ w.heap.size)
    (h : ∀ v' w', w'.ownsRow base e z v' (n + m) (l ++ news) → Chg v.ownBlock.toList w w' → Below base w w' → K (a.put o.dst v') w') :
    o.wp P a w K Q := by
  obtain ⟨v', w', hrun, h2, h3⟩ := run_appS (P := P) w base t o.type e i zr z bytes ht hi hz hzs hsize hz0 hby hb100 v n l hown N A m c news hA hl h1 hlen hbase
  unfold Oper.wp execOp
  simp only [ho, resolve, invoke, builtin, Sem.run_bind, Sem.run_pure, Result.andThen_ok, List.map_toArray, List.map_cons, List.map_nil, hs, hx, hrun]
  refine h v' w' h2 ⟨h3.os, h3.tape, h3.output, h3.size, fun k hk hn => h3.block k hk (by intro he; apply hn; rw [Option.mem_toList]; exact he.symm)⟩ ?_
  exact (Below.refl base w).grown h3 hbase (fun j hj => (hown.lt j hj).1)

theorem wpList_appS {ops : Array Oper} {rest : List Oper} {o : Oper} {a : Act} {Q : Exit → Act → World → Prop} (hgd : o.guard = none) (s x : Operand) (t : TypeId)
    (ho : o.op = .call { callee := .builtin .append, args := #[s, x], argTypes := #[t, t] })
    (base : Nat) (e : TypeId) (i : TypeInfo) (zr : Value) (z bytes : Nat) (ht : P.underlying t = some (.slice e)) (hi : P.info? e = some i) (hz : i.zero = some zr) (hzs : zr.cells.size = z)
    (hsize : i.size = z) (hz0 : 0 < z) (hby : i.bytes = bytes) (hb100 : bytes ≤ 100)
    (v : Value) (n : Nat) (l : List Value) (w : World) (hown : w.ownsRow base e z v n l) (hs : a.eval s = v) (N : Nat) (A : Option Addr) (m c : Nat) (news : List Value) (hA : Arr N w A news) (hl : news.length = m * z) (h1 : ∀ u ∈ news, u.oneCell' = true)
    (hx : a.eval x = .slice A m c) (hlen : n + m < 1000000000000) (hbase : base ≤ w.heap.size)
    (h : ∀ v' w', w'.ownsRow base e z v' (n + m) (l ++ news) → Chg v.ownBlock.toList w w' → Below base w w' → wpList P ops Q rest (a.put o.dst v') w') :
    wpList P ops Q (o :: rest) a w :=
  wpList_plain hgd fun _ hK => wp_appS s x t ho base e i zr z bytes ht hi hz hzs hsize hz0 hby hb100 v n l w hown hs N A m c news hA hl h1 hx hlen hbase fun v' w' h2 h3 h4 => hK _ _ (h v' w' h2 h3 h4)
end

/-- The cells of bytes. -/
def cellsU (l : List Nat) : List Value := l.map fun (c : Nat) => Value.int .u8 (c : Int)
theorem cellsU_len (l : List Nat) : (cellsU l).length = l.length * 1 := by simp [cellsU]
theorem one_B (l : List Nat) : ∀ u ∈ cellsU l, u.oneCell' = true := by
  intro u hu
  obtain ⟨c, _, rfl⟩ := List.mem_map.1 hu
  rfl
theorem Bs.arr {N : Nat} {w : World} {a : Option Addr} {l : List Nat} (h : Bs N w a l) : Arr N w a (cellsU l) := by
  rcases h.2 with h2 | ⟨b, o, ha, hN, hc⟩
  · exact .inl (by rw [h2]; rfl)
  · refine .inr ⟨b, o, ha, hN, fun i v hi => ?_⟩
    unfold cellsU at hi
    rw [List.getElem?_map] at hi
    cases hl : l[i]? with
    | none => rw [hl] at hi; simp at hi
    | some c => rw [hl] at hi; simp at hi; subst hi; exact hc i c hl
theorem Arr.bs {N : Nat} {w : World} {a : Option Addr} {l : List Nat} (h : Arr N w a (cellsU l)) (hl : ∀ c ∈ l, c < 256) : Bs N w a l := by
  refine ⟨hl, ?_⟩
  rcases h with h2 | ⟨b, o, ha, hN, hc⟩
  · left
    cases l with
    | nil => rfl
    | cons x r => simp [cellsU] at h2
  · exact .inr ⟨b, o, ha, hN, fun i c hi => hc i _ (by unfold cellsU; rw [List.getElem?_map, hi]; rfl)⟩
/-- 'append(s, x)', x just laid in a block of its own: one operation. -/
theorem wp_appC {P : Program} {o : Oper} {a : Act} {K : Act → World → Prop} {Q : Exit → Act → World → Prop} (s x : Operand) (t : TypeId)
    (ho : o.op = .call { callee := .builtin .append, args := #[s, x], argTypes := #[t, t] })
    (base : Nat) (e : TypeId) (i : TypeInfo) (zr : Value) (z bytes : Nat) (ht : P.underlying t = some (.slice e)) (hi : P.info? e = some i) (hz : i.zero = some zr) (hzs : zr.cells.size = z)
    (hsize : i.size = z) (hz0 : 0 < z) (hby : i.bytes = bytes) (hb100 : bytes ≤ 100)
    (v : Value) (n : Nat) (l news : List Value) (w : World) (hown : w.ownsRow base e z v n l) (hs : a.eval s = v) (cs : Array Value) (hcs : cs = news.toArray) (hl : news.length = z) (h1 : ∀ u ∈ news, u.oneCell' = true)
    (hx : a.eval x = .slice (some ⟨w.heap.size, 0, none⟩) 1 1) (hlen : n < 1000000000000) (hbase : base ≤ w.heap.size)
    (h : ∀ v' w', w'.ownsRow base e z v' (n + 1) (l ++ news) → Chg v.ownBlock.toList (w.alloc (.cells cs e)) w' → w.heap.size < w'.heap.size → K (a.put o.dst v') w') :
    o.wp P a (w.alloc (.cells cs e)) K Q := by
  subst hcs
  refine wp_append_own (w.alloc (.cells news.toArray e)) s x t ho base e i zr z bytes ht hi hz hsize hby hzs hz0 v n _ hs (World.ownsRow.alloc hown _) ⟨w.heap.size, 0, none⟩ 1 1 news hx (by rw [hl]; omega) ?_ h1 ?_ ?_ ?_ ?_
  · intro j u hj
    have e0 : (⟨w.heap.size, 0, none⟩ : Addr).add j = ⟨w.heap.size, j, none⟩ := by
      unfold Addr.add; split <;> simp_all
    rw [e0, World.cell?_alloc_at _ _ _ _ rfl]
    simpa using hj
  · unfold maxLen; omega
  · have : (n + 1) * bytes ≤ 1000000000000 * 100 := Nat.mul_le_mul (by omega) hb100
    omega
  · simp; omega
  · intro v' w' hown' hgrow _
    have hsz := hgrow.size
    refine h v' w' hown' ⟨hgrow.os, hgrow.tape, hgrow.output, hsz, fun k hk hn => ?_⟩ (by simp at hsz; omega)
    exact hgrow.block k hk (by intro he; apply hn; rw [Option.mem_toList]; exact he.symm)
/-- The same in a list of operations. -/
theorem wpList_appC {P : Program} {ops : Array Oper} {rest : List Oper} {o : Oper} {a : Act} {Q : Exit → Act → World → Prop} (hgd : o.guard = none) (s x : Operand) (t : TypeId)
    (ho : o.op = .call { callee := .builtin .append, args := #[s, x], argTypes := #[t, t] })
    (base : Nat) (e : TypeId) (i : TypeInfo) (zr : Value) (z bytes : Nat) (ht : P.underlying t = some (.slice e)) (hi : P.info? e = some i) (hz : i.zero = some zr) (hzs : zr.cells.size = z)
    (hsize : i.size = z) (hz0 : 0 < z) (hby : i.bytes = bytes) (hb100 : bytes ≤ 100)
    (v : Value) (n : Nat) (l news : List Value) (w : World) (hown : w.ownsRow base e z v n l) (hs : a.eval s = v) (cs : Array Value) (hcs : cs = news.toArray) (hl : news.length = z) (h1 : ∀ u ∈ news, u.oneCell' = true)
    (hx : a.eval x = .slice (some ⟨w.heap.size, 0, none⟩) 1 1) (hlen : n < 1000000000000) (hbase : base ≤ w.heap.size)
    (h : ∀ v' w', w'.ownsRow base e z v' (n + 1) (l ++ news) → Chg v.ownBlock.toList (w.alloc (.cells cs e)) w' → w.heap.size < w'.heap.size → wpList P ops Q rest (a.put o.dst v') w') :
    wpList P ops Q (o :: rest) a (w.alloc (.cells cs e)) :=
  wpList_plain hgd fun _ hK => wp_appC s x t ho base e i zr z bytes ht hi hz hzs hsize hz0 hby hb100 v n l news w hown hs cs hcs hl h1 hx hlen hbase fun v' w' h2 h3 h4 => hK _ _ (h v' w' h2 h3 h4)
end Go.Proofs.Ytialpfdhdcjpaaa

/- Rows of the call's own: where they lie, what leaves them as they are. -/
set_option linter.unusedSimpArgs false
set_option linter.unusedVariables false
set_option maxRecDepth 100000
namespace Go.Proofs.Ytialpfdhdcjpaaa
open Go.RowKit

theorem own_lt {w : World} {base : Nat} {e : TypeId} {size n : Nat} {v : Value} {xs : List Value} (h : w.ownsRow base e size v n xs) {g : Nat} (hg : v.ownBlock = some g) : g < w.heap.size := by
  rcases h.2 with ⟨rfl, _⟩ | ⟨g', cap, cur, rfl, _, hh, _⟩
  · simp [Value.ownBlock] at hg
  · have : g' = g := by simpa [Value.ownBlock] using hg
    subst this
    exact Blk.lt (t := e) hh
theorem own_keep {w w' : World} {base : Nat} {e : TypeId} {size n : Nat} {v : Value} {xs : List Value} (h : w.ownsRow base e size v n xs) (hk : ∀ g, v.ownBlock = some g → w'.heap[g]? = w.heap[g]?) : w'.ownsRow base e size v n xs := by
  refine ⟨h.1, ?_⟩
  rcases h.2 with h2 | ⟨g, cap, cur, hv, hg, hh, r⟩
  · exact .inl h2
  · exact .inr ⟨g, cap, cur, hv, hg, by rw [hk g (by rw [hv]; rfl)]; exact hh, r⟩
theorem own_chg {w w' : World} {base : Nat} {e : TypeId} {size n : Nat} {v : Value} {xs : List Value} {S : List Nat} (h : w.ownsRow base e size v n xs) (hc : Chg S w w') (hn : ∀ g, v.ownBlock = some g → g ∉ S) : w'.ownsRow base e size v n xs :=
  own_keep h fun g hg => hc.block g (own_lt h hg) (hn g hg)
theorem own_ne {w : World} {base : Nat} {e : TypeId} {size n : Nat} {v : Value} {xs : List Value} (h : w.ownsRow base e size v n xs) {g : Nat} {t : TypeId} {cs : Array Value} (hb : Blk w g t cs) (hne : e ≠ t) : v.ownBlock ≠ some g := by
  rcases h.2 with ⟨rfl, _⟩ | ⟨g', cap, cur, rfl, _, hh, _⟩
  · simp [Value.ownBlock]
  · intro he
    have : g' = g := by simpa [Value.ownBlock] using he
    subst this
    exact Blk.ne_ (t := e) hh hb hne rfl
end Go.Proofs.Ytialpfdhdcjpaaa

/- The walks of the encoder's methods. -/
set_option linter.unusedSimpArgs false
set_option linter.unusedVariables false
set_option maxRecDepth 100000
namespace Go.Proofs.Ytialpfdhdcjpaaa
open Go.RowKit

/-- The encoder in block E has written the bytes L into a row v of the call's own. -/
structure EncAt (w : World) (E : Nat) (v : Value) (L : List Nat) : Prop where
  blk : Blk w E 71 #[v]
  row : OwnB w (E + 1) 5 v L
def ES (E : Nat) (v : Value) : List Nat := E :: v.ownBlock.toList
theorem EncAt.lt {w : World} {E : Nat} {v : Value} {L : List Nat} (h : EncAt w E v L) : E < w.heap.size := h.blk.lt
theorem EncAt.ne {w : World} {E : Nat} {v : Value} {L : List Nat} (h : EncAt w E v L) : v.ownBlock ≠ some E := fun he => by
  have := (h.row.2.lt E he).1; omega
theorem EncAt.below {w w' : World} {E : Nat} {v : Value} {L : List Nat} (h : EncAt w E v L) (hc : Chg (ES E v) w w') : Below E w w' :=
  hc.below (Nat.le_of_lt h.lt) fun k hk => by
    unfold ES at hk
    simp only [List.mem_cons, Option.mem_toList] at hk
    rcases hk with rfl | hk
    · exact Nat.le_refl _
    · have := (h.row.2.lt k hk).1; omega
/-- A block of another type stays. -/
theorem EncAt.keeps {w w' : World} {E : Nat} {v : Value} {L : List Nat} (h : EncAt w E v L) (hc : Chg (ES E v) w w') {g : Nat} {T : TypeId} {cs : Array Value} (hb : Blk w g T cs) (h1 : 5 ≠ T) (h2 : 71 ≠ T) : Blk w' g T cs := by
  refine hb.chg hc ?_
  unfold ES
  simp only [List.mem_cons, Option.mem_toList, not_or]
  exact ⟨fun he => by subst he; exact Blk.ne_ h.blk hb h2 rfl, own_ne h.row.2 hb h1⟩
/-- What a call leaves behind. -/
def RetEn (w : World) (E : Nat) (v : Value) (L : List Nat) (e : Ending) (w' : World) : Prop := e = .returned (.tuple #[]) ∧ ∃ v', EncAt w' E v' L ∧ Chg (ES E v) w w'

theorem info_u8E : (Try.prog.info? 5).map (fun i => (i.zero, i.size, i.bytes)) = some (some (.int .u8 0), 1, 1) := by kernel_rfl

theorem Bs.arrE {N : Nat} {w : World} {a : Option Addr} {l : List Nat} (h : Bs N w a l) : Arr N w a (l.map fun (c : Nat) => Value.int .u8 (c : Int)) := by
  rcases h.2 with h2 | ⟨b, o, ha, hN, hc⟩
  · exact .inl (by rw [h2]; rfl)
  · refine .inr ⟨b, o, ha, hN, fun i v hi => ?_⟩
    rw [List.getElem?_map] at hi
    cases hl : l[i]? with
    | none => rw [hl] at hi; simp at hi
    | some c => rw [hl] at hi; simp at hi; subst hi; exact hc i c hl

/-- The world in which the row's new value is stored into the encoder. -/
theorem enc_store {w x2 : World} {E : Nat} {v v2 : Value} {L L2 : List Nat} (h : EncAt w E v L) (hc : Chg v.ownBlock.toList w.drew x2) (hr : OwnB x2 (E + 1) 5 v2 L2) :
    x2.cell? ⟨E, 0, none⟩ = some v ∧ x2.frozen? ⟨E, 0, none⟩ = false ∧ E < x2.heap.size ∧ EncAt (x2.setCell ⟨E, 0, none⟩ v2) E v2 L2 ∧ Chg (ES E v) w (x2.setCell ⟨E, 0, none⟩ v2) := by
  have hb2 : Blk x2 E 71 #[v] := h.blk.chg (w := w.drew) hc (by simpa using h.ne)
  refine ⟨(hb2.cell 0).trans rfl, hb2.frozen 0, hb2.lt, ⟨hb2.set_ 0 v2, hr.1, ?_⟩, ((hc.undrew).sub (fun k hk => List.mem_cons_of_mem _ hk)).setCell (.inl List.mem_cons_self) _⟩
  refine own_chg (S := [E]) hr.2 ((Chg.refl _ _).setCell (.inl (by simp)) _) fun g hg => ?_
  have := (hr.2.lt g hg).1
  simp; omega

set_option maxHeartbeats 2000000 in
theorem eNumber_any (E : Nat) (v : Value) (L : List Nat) (n : Int) (w : World) (h : EncAt w E v L) (h1 : -9223372036854775808 ≤ n) (h2 : n ≤ 9223372036854775807) (hl : L.length < 1000000000) :
    Calls Try.prog 31 #[.pointer (some ⟨E, 0, none⟩), .int .i64 n] w (RetEn w E v (L ++ intL n)) := by
  obtain ⟨i0, hi, hz0, hz1, hz2⟩ := info_parts info_u8E
  have hP := fun W => putInt_ret n W h1 h2
  have hl10 : (intL n).length ≤ 10 := putL_len10 (zigN_lt n h1 h2)
  change ∀ W, Calls _ _ _ W (RetB W (intL n)) at hP
  generalize intL n = M at *
  have hElt := h.lt
  have hEne := h.ne
  have hblk := h.blk
  have hrow := h.row
  have HP := Lib.hid hP
  have HS := Lib.hid (fun x2 v2 L2 (hc : Chg v.ownBlock.toList w.drew x2) hr => enc_store (v2 := v2) (L2 := L2) h hc hr)
  have HR : Hid (∀ x1, Chg [] w.drew x1 → OwnB x1 (E + 1) 5 v L ∧ E + 1 ≤ x1.heap.size) := fun x1 hc => ⟨⟨hrow.1, own_chg (w := w.drew) hrow.2 hc (by simp)⟩, by have := hc.size; have : w.drew.heap.size = w.heap.size := rfl; omega⟩
  have e1 : ∀ W, Chg v.ownBlock.toList w.drew W → W.cell? ⟨E, 0, none⟩ = some v := fun W hW => (hW.cell (b := E) hElt (by simpa using hEne)).trans ((hblk.cell 0).trans rfl)
  clear hP h hrow hblk hEne
  go_enter Try.func31, Try.ntmps31
  go_wp2_with fail
  refine wp_region_ordX v.ownBlock.toList 10 [(0, true), (1, true), (2, true), (3, true), (4, true), (5, true), (6, false), (7, false), (8, true), (9, true)] (by kernel_rfl) (by kernel_rfl) (by kernel_rfl) (by kernel_rfl) ?_
  repeat (first | ((refine wpOX_F rfl (by rfl) (fun w' hL => exec_load rfl rfl (e1 w' hL)) ?_); try simp only [Act.put, List.setIfInBounds_toArray, List.set_cons_zero, List.set_cons_succ]) | (refine wpOX_F (v := ?_) rfl (by rfl) (fun w' hL => ?_) ?_; rotate_left; (solve | (go_simp; with_reducible rfl) | go_simp); try simp only [Act.put, List.setIfInBounds_toArray, List.set_cons_zero, List.set_cons_succ]) | (refine wpOX_G (Chg.refl _) rfl (by rfl) ?_; try simp only [Act.put, List.setIfInBounds_toArray, List.set_cons_zero, List.set_cons_succ]))
  refine wpOX_C rfl (by rfl) ?_
  go_simp
  refine (HP.out _).mono ?_
  rintro e x1 ⟨a1, c1, rfl, hc1, hB1, hb1⟩
  refine ⟨Below.chg0 hb1 _, ?_⟩
  try simp only [Act.put, List.setIfInBounds_toArray, List.set_cons_zero, List.set_cons_succ]
  obtain ⟨hr1, hs1⟩ := HR.out x1 (Below.chg0 hb1 _)
  refine wpOX_C rfl (by rfl) ?_
  refine wp_appS (.tmp 8) (.tmp 10) 32 rfl (E + 1) 5 i0 (.int .u8 0) 1 1 Try.underlying32 hi hz0 rfl hz1 (by omega) hz2 (by omega) v L.length _ x1 hr1.2 rfl x1.heap.size a1 M.length c1 _ hB1.arrE (by simp) (by intro u hu; obtain ⟨q, _, rfl⟩ := List.mem_map.1 hu; rfl) rfl (by omega) hs1 ?_
  intro v2 x2 hrow2 hc2 hbl2
  refine ⟨hc2, ?_⟩
  try simp only [Act.put, List.setIfInBounds_toArray, List.set_cons_zero, List.set_cons_succ]
  have hr2 : OwnB x2 (E + 1) 5 v2 (L ++ M) := ⟨by
    intro d hd
    rcases List.mem_append.1 hd with hd | hd
    · exact hr1.1 d hd
    · exact hB1.1 d hd, by simpa using hrow2⟩
  obtain ⟨k2, a2, cc2, rfl⟩ : ∃ k2 a2 cc2, v2 = .slice a2 k2 cc2 := by obtain ⟨a, c, h, -⟩ := hr2.slice; exact ⟨_, _, _, h⟩
  obtain ⟨p1, pf, pl, hEn, hCh⟩ := HS.out x2 _ (L ++ M) ((Below.chg0 hb1 _).trans hc2) hr2
  have HEn := Lib.hid hEn
  have HCh := Lib.hid hCh
  clear hEn hCh hr2 hr1 hrow2 hc2 hbl2 hB1 hb1 HS HR e1
  repeat (first | (refine wpOX_F (v := ?_) rfl (by rfl) (fun w' hL => ?_) ?_; rotate_left; (solve | (go_simp; with_reducible rfl) | go_simp); try simp only [Act.put, List.setIfInBounds_toArray, List.set_cons_zero, List.set_cons_succ]) | (refine wpOX_G (Chg.refl _) rfl (by rfl) ?_; try simp only [Act.put, List.setIfInBounds_toArray, List.set_cons_zero, List.set_cons_succ]))
  refine wpOX_end rfl (by rfl) ?_
  go_simp
  simp only [NoPanic]
  exact bodyPost_end (v := .tuple #[]) (results_none rfl _ _ _) rfl ⟨rfl, _, HEn.out, HCh.out⟩
set_option maxHeartbeats 2000000 in
theorem eText_any (E : Nat) (v : Value) (L : List Nat) (s : ByteArray) (w : World) (h : EncAt w E v L) (h1 : s.size ≤ 1000000) (hl : L.length < 1000000000) :
    Calls Try.prog 30 #[.pointer (some ⟨E, 0, none⟩), .string s] w (RetEn w E v (L ++ textL s)) := by
  obtain ⟨i0, hi, hz0, hz1, hz2⟩ := info_parts info_u8E
  have hP := fun W => putText_ret s W h1
  have hl10 : (textL s).length ≤ 1000010 := by
    have := putL_len10 (show s.size < 18446744073709551616 by omega)
    unfold textL; rw [List.length_append, bytesOf_len]; omega
  change ∀ W, Calls _ _ _ W (RetB W (textL s)) at hP
  generalize textL s = M at *
  have hElt := h.lt
  have hEne := h.ne
  have hblk := h.blk
  have hrow := h.row
  have HP := Lib.hid hP
  have HS := Lib.hid (fun x2 v2 L2 (hc : Chg v.ownBlock.toList w.drew x2) hr => enc_store (v2 := v2) (L2 := L2) h hc hr)
  have HR : Hid (∀ x1, Chg [] w.drew x1 → OwnB x1 (E + 1) 5 v L ∧ E + 1 ≤ x1.heap.size) := fun x1 hc => ⟨⟨hrow.1, own_chg (w := w.drew) hrow.2 hc (by simp)⟩, by have := hc.size; have : w.drew.heap.size = w.heap.size := rfl; omega⟩
  have e1 : ∀ W, Chg v.ownBlock.toList w.drew W → W.cell? ⟨E, 0, none⟩ = some v := fun W hW => (hW.cell (b := E) hElt (by simpa using hEne)).trans ((hblk.cell 0).trans rfl)
  clear hP h hrow hblk hEne
  go_enter Try.func30, Try.ntmps30
  go_wp2_with fail
  refine wp_region_ordX v.ownBlock.toList 10 [(0, true), (1, true), (2, true), (3, true), (4, true), (5, true), (6, false), (7, false), (8, true), (9, true)] (by kernel_rfl) (by kernel_rfl) (by kernel_rfl) (by kernel_rfl) ?_
  repeat (first | ((refine wpOX_F rfl (by rfl) (fun w' hL => exec_load rfl rfl (e1 w' hL)) ?_); try simp only [Act.put, List.setIfInBounds_toArray, List.set_cons_zero, List.set_cons_succ]) | (refine wpOX_F (v := ?_) rfl (by rfl) (fun w' hL => ?_) ?_; rotate_left; (solve | (go_simp; with_reducible rfl) | go_simp); try simp only [Act.put, List.setIfInBounds_toArray, List.set_cons_zero, List.set_cons_succ]) | (refine wpOX_G (Chg.refl _) rfl (by rfl) ?_; try simp only [Act.put, List.setIfInBounds_toArray, List.set_cons_zero, List.set_cons_succ]))
  refine wpOX_C rfl (by rfl) ?_
  go_simp
  refine (HP.out _).mono ?_
  rintro e x1 ⟨a1, c1, rfl, hc1, hB1, hb1⟩
  refine ⟨Below.chg0 hb1 _, ?_⟩
  try simp only [Act.put, List.setIfInBounds_toArray, List.set_cons_zero, List.set_cons_succ]
  obtain ⟨hr1, hs1⟩ := HR.out x1 (Below.chg0 hb1 _)
  refine wpOX_C rfl (by rfl) ?_
  refine wp_appS (.tmp 8) (.tmp 10) 32 rfl (E + 1) 5 i0 (.int .u8 0) 1 1 Try.underlying32 hi hz0 rfl hz1 (by omega) hz2 (by omega) v L.length _ x1 hr1.2 rfl x1.heap.size a1 M.length c1 _ hB1.arrE (by simp) (by intro u hu; obtain ⟨q, _, rfl⟩ := List.mem_map.1 hu; rfl) rfl (by omega) hs1 ?_
  intro v2 x2 hrow2 hc2 hbl2
  refine ⟨hc2, ?_⟩
  try simp only [Act.put, List.setIfInBounds_toArray, List.set_cons_zero, List.set_cons_succ]
  have hr2 : OwnB x2 (E + 1) 5 v2 (L ++ M) := ⟨by
    intro d hd
    rcases List.mem_append.1 hd with hd | hd
    · exact hr1.1 d hd
    · exact hB1.1 d hd, by simpa using hrow2⟩
  obtain ⟨k2, a2, cc2, rfl⟩ : ∃ k2 a2 cc2, v2 = .slice a2 k2 cc2 := by obtain ⟨a, c, h, -⟩ := hr2.slice; exact ⟨_, _, _, h⟩
  obtain ⟨p1, pf, pl, hEn, hCh⟩ := HS.out x2 _ (L ++ M) ((Below.chg0 hb1 _).trans hc2) hr2
  have HEn := Lib.hid hEn
  have HCh := Lib.hid hCh
  clear hEn hCh hr2 hr1 hrow2 hc2 hbl2 hB1 hb1 HS HR e1
  repeat (first | (refine wpOX_F (v := ?_) rfl (by rfl) (fun w' hL => ?_) ?_; rotate_left; (solve | (go_simp; with_reducible rfl) | go_simp); try simp only [Act.put, List.setIfInBounds_toArray, List.set_cons_zero, List.set_cons_succ]) | (refine wpOX_G (Chg.refl _) rfl (by rfl) ?_; try simp only [Act.put, List.setIfInBounds_toArray, List.set_cons_zero, List.set_cons_succ]))
  refine wpOX_end rfl (by rfl) ?_
  go_simp
  simp only [NoPanic]
  exact bodyPost_end (v := .tuple #[]) (results_none rfl _ _ _) rfl ⟨rfl, _, HEn.out, HCh.out⟩

set_option maxHeartbeats 1000000 in
theorem eFlag_any (E : Nat) (v : Value) (L : List Nat) (b : Bool) (w : World) (h : EncAt w E v L) (hl : L.length < 1000000000) :
    Calls Try.prog 32 #[.pointer (some ⟨E, 0, none⟩), .bool b] w (RetEn w E v (L ++ flagL b)) := by
  have HN := Lib.hid (fun n (h1 : -9223372036854775808 ≤ n) (h2 : n ≤ 9223372036854775807) => eNumber_any E v L n w h h1 h2 hl)
  clear h
  unfold flagL
  cases b with
  | true =>
    go_enter Try.func32, Try.ntmps32
    go_wp2_with fail
    refine (HN.out 1 (by omega) (by omega)).mono ?_
    rintro e w1 ⟨rfl, h1⟩
    have H1 := Lib.hid h1
    clear h1
    go_wp2
    exact bodyPost_end (v := .tuple #[]) (results_none rfl _ _ _) rfl ⟨rfl, H1.out⟩
  | false =>
    go_enter Try.func32, Try.ntmps32
    go_wp2_with fail
    refine (HN.out 0 (by omega) (by omega)).mono ?_
    rintro e w1 ⟨rfl, h1⟩
    have H1 := Lib.hid h1
    clear h1
    go_wp2
    exact bodyPost_end (v := .tuple #[]) (results_none rfl _ _ _) rfl ⟨rfl, H1.out⟩
end Go.Proofs.Ytialpfdhdcjpaaa

/- The walk of schema.Write. -/
set_option linter.unusedSimpArgs false
set_option linter.unusedVariables false
set_option maxRecDepth 100000
namespace Go.Proofs.Ytialpfdhdcjpaaa
open Go.RowKit

/-- Bytes and an error. -/
def RetLW (w : World) (X : List Nat × Int) (e : Ending) (w' : World) : Prop := ∃ a cap, e = .returned (.tuple #[.slice a X.1.length cap, .int .i64 X.2]) ∧ X.1.length ≤ cap ∧ Bs w'.heap.size w' a X.1 ∧ Below w.heap.size w w'
noncomputable def writeT (t : Tb) : List Nat × Int := if t.ok = true then (encT t, 0) else ([], 3)

theorem EncAt.new (w : World) : EncAt (w.alloc (.cells #[.slice none 0 0] 71)) w.heap.size (.slice none 0 0) [] := ⟨Blk.new _ _ _, OwnB.nil _ _ _⟩
theorem EncAt.alloc {w : World} {E : Nat} {v : Value} {L : List Nat} (h : EncAt w E v L) (o : Obj) : EncAt (w.alloc o) E v L := ⟨h.blk.alloc o, h.row.1, World.ownsRow.alloc h.row.2 o⟩

/-- A table's box and the encoder that is at work. -/
structure WInv (w1 W : World) (B0 E : Nat) (m : TM) (t : Tb) (v : Value) (L : List Nat) : Prop where
  enc : EncAt W E v L
  box : TBox W B0 m t
  bel : Below E w1 W
  lt : B0 < E
theorem WInv.step {w1 W W' : World} {B0 E : Nat} {m : TM} {t : Tb} {v v' : Value} {L L' : List Nat} (h : WInv w1 W B0 E m t v L) (h1 : EncAt W' E v' L') (hc : Chg (ES E v) W W') : WInv w1 W' B0 E m t v' L' :=
  ⟨h1, h.box.later h.lt (h.enc.below hc), h.bel.trans (h.enc.below hc), h.lt⟩
theorem WInv.alloc {w1 W : World} {B0 E : Nat} {m : TM} {t : Tb} {v : Value} {L : List Nat} (h : WInv w1 W B0 E m t v L) (o : Obj) : WInv w1 (W.alloc o) B0 E m t v L :=
  ⟨h.enc.alloc o, h.box.later h.lt ((Below.refl E W).alloc (Nat.le_of_lt h.enc.lt) o), h.bel.alloc (Nat.le_of_lt h.enc.lt) o, h.lt⟩
theorem WInv.cast {w1 W : World} {B0 E : Nat} {m : TM} {t : Tb} {v : Value} {L L' : List Nat} (h : WInv w1 W B0 E m t v L) (e : L = L') : WInv w1 W B0 E m t v L' := e ▸ h

theorem flat_len {α : Type} (f : α → List Nat) (B : Nat) : ∀ (l : List α), (∀ x ∈ l, (f x).length ≤ B) → (l.flatMap f).length ≤ l.length * B
  | [], _ => by simp
  | x :: r, h => by
    have := flat_len f B r (fun y hy => h y (List.mem_cons_of_mem _ hy))
    have h1 := h x List.mem_cons_self
    rw [List.flatMap_cons, List.length_append, List.length_cons, Nat.add_mul]
    omega
theorem intL_len (n : Int) (h1 : -9223372036854775808 ≤ n) (h2 : n ≤ 9223372036854775807) : (intL n).length ≤ 10 := putL_len10 (zigN_lt n h1 h2)
theorem flagL_len (b : Bool) : (flagL b).length ≤ 10 := by unfold flagL; exact intL_len _ (by cases b <;> simp) (by cases b <;> simp)
theorem textL_len (s : ByteArray) (h : s.size ≤ 1000000) : (textL s).length ≤ 1000010 := by
  have := putL_len10 (show s.size < 18446744073709551616 by omega)
  unfold textL; rw [List.length_append, bytesOf_len]; omega
theorem encC_len (c : Col) (h : c.nm.size ≤ 1000000) (hk : c.kd < 256) : (encC c).length ≤ 1000030 := by
  have h1 := textL_len _ h
  have h2 := intL_len (c.kd : Int) (by omega) (by omega)
  have h3 := flagL_len c.nn
  unfold encC
  rw [List.length_append, List.length_append]; omega

set_option maxHeartbeats 4000000 in
theorem sWrite_any (t : Tb) (m : TM) (w : World) (h : TAt w t m) : Calls Try.prog 11 #[m.v t] w (RetLW w (writeT t)) := by
  have HR := Lib.hid (fun W (hb : Below w.heap.size w W) => sRight_any t m W (h.later hb))
  have hs0 : w.heap.size < (w.alloc (.cells (m.cs t) 25)).heap.size := by simp
  have HX0 : Hid (TBox (w.alloc (.cells (m.cs t) 25)) w.heap.size m t) := TBox.new w m t _
  have HB0 : Hid (Below w.heap.size w (w.alloc (.cells (m.cs t) 25))) := (Below.refl _ w).alloc (Nat.le_refl _) _
  by_cases ht : t.ok = true
  · have hW : writeT t = (encT t, 0) := if_pos ht
    rw [hW]
    have hOk := Tb.ok_iff.1 ht
    have l16 := hOk.2.1.2.1
    have l8 := hOk.2.2.1.2.1
    rw [ht] at HR
    have hf := h.fair
    have hcl := h.hc
    have hkl := h.hk
    have HCol := Lib.hid h.carr
    have HKey := Lib.hid h.karr
    have HFC := Lib.hid hf.cols
    have HFK := Lib.hid hf.key
    have hfr := hf.fr
    have htt := hf.tt
    have hnm := hf.nm
    have hper := hf.per
    have b1 := textL_len _ hnm
    have b2 := textL_len _ hper
    have b3 := intL_len (t.cols.length : Int) (by omega) (by omega)
    have b4 := intL_len (t.key.length : Int) (by omega) (by omega)
    have b5 := intL_len t.fr hfr.1 hfr.2
    have b6 := intL_len t.tt htt.1 htt.2
    have b7 := flagL_len t.apart
    have b8 := flagL_len t.vers
    have B9 : Hid (∀ k, ((t.cols.take k).flatMap encC).length ≤ 20000000) := fun k => by
      have := flat_len encC 1000030 (t.cols.take k) (fun c hc => by have := hf.cols c (List.mem_of_mem_take hc); exact encC_len c this.1 this.2)
      rw [List.length_take] at this
      have h2 : min k t.cols.length * 1000030 ≤ 16 * 1000030 := Nat.mul_le_mul_right _ (by omega)
      omega
    have B10 : Hid (∀ k, ((t.key.take k).flatMap intL).length ≤ 1000) := fun k => by
      have := flat_len intL 10 (t.key.take k) (fun c hc => by have := hf.key c (List.mem_of_mem_take hc); exact intL_len c this.1 this.2)
      rw [List.length_take] at this
      omega
    have HEnc : Hid (encT t = textL t.name ++ intL t.cols.length ++ t.cols.flatMap encC ++ intL t.key.length ++ t.key.flatMap intL ++ textL t.per ++ intL t.fr ++ intL t.tt ++ flagL t.apart ++ flagL t.vers) := by
      show _ = _
      unfold encT; simp only [List.append_assoc]
    obtain ⟨ca, cl, cc, ka, kl, kc⟩ := m
    dsimp only at hcl hkl HCol HKey
    subst hcl hkl
    clear h hf ht hW hOk
    generalize hLT : encT t = LT at *
    clear hLT
    go_enter Try.func11, Try.ntmps11
    go_wp2_with fail
    refine (HR.out _ HB0.out).mono ?_
    rintro e w1 ⟨rfl, hb1⟩
    have hlt1 : w.heap.size < w1.heap.size := Nat.lt_of_lt_of_le hs0 hb1.size
    have HBw : Hid (Below w.heap.size w w1) := HB0.out.trans (hb1.mono (Nat.le_of_lt hs0))
    have HI : Hid (WInv w1 (w1.alloc (.cells #[.slice none 0 0] 71)) w.heap.size w1.heap.size ⟨ca, t.cols.length, cc, ka, t.key.length, kc⟩ t (.slice none 0 0) []) :=
      ⟨EncAt.new w1, (HX0.out.later hs0 hb1).later hlt1 ((Below.refl _ w1).alloc (Nat.le_refl _) _), (Below.refl _ w1).alloc (Nat.le_refl _) _, hlt1⟩
    clear hb1 HX0 HB0 hs0 HR
    obtain ⟨x0, x1, x2, x3, x4, x5, x6, x7⟩ := HI.out.box
    dsimp only at x0 x1 x2 x3 x4 x5 x6 x7
    go_wp2_with fail
    refine (eText_any _ _ _ t.name _ HI.out.enc hnm (by simp)).mono ?_
    rintro e w2 ⟨rfl, v2, hE2, hC2⟩
    have hN := HI.out.step hE2 hC2
    clear hE2 hC2 HI
    have HI := Lib.hid hN
    clear hN
    clear x0 x1 x2 x3 x4 x5 x6 x7
    obtain ⟨x0, x1, x2, x3, x4, x5, x6, x7⟩ := HI.out.box
    dsimp only at x0 x1 x2 x3 x4 x5 x6 x7
    go_wp2_with fail
    refine (eNumber_any _ _ _ (t.cols.length : Int) _ HI.out.enc (by omega) (by omega) (by simp; omega)).mono ?_
    rintro e w3 ⟨rfl, v3, hE3, hC3⟩
    have hN := HI.out.step hE3 hC3
    clear hE3 hC3 HI
    have HI := Lib.hid hN
    clear hN
    clear x0 x1 x2 x3 x4 x5 x6 x7
    obtain ⟨x0, x1, x2, x3, x4, x5, x6, x7⟩ := HI.out.box
    dsimp only at x0 x1 x2 x3 x4 x5 x6 x7
    rw [List.nil_append] at HI
    have hA1 : (textL t.name ++ intL t.cols.length).length ≤ 2000000 := by rw [List.length_append]; omega
    have HE1 : Hid (∀ K, textL t.name ++ intL t.cols.length ++ t.cols.flatMap encC ++ intL t.key.length ++ K = textL t.name ++ intL t.cols.length ++ t.cols.flatMap encC ++ intL t.key.length ++ K) := fun _ => rfl
    obtain ⟨A1, hA⟩ : ∃ A, textL t.name ++ intL t.cols.length = A := ⟨_, rfl⟩
    rw [hA] at HI hA1 HEnc
    clear hA HE1
    have HI0 := HI
    go_wp2_with fail
    go_loopw [22] (fun i wr => ∃ (k : Nat) (v : Value), k ≤ t.cols.length ∧ i = .int .i64 k ∧ Hid (WInv w1 wr w.heap.size w1.heap.size ⟨ca, t.cols.length, cc, ka, t.key.length, kc⟩ t v (A1 ++ (t.cols.take k).flatMap encC))) (fun i _ => t.cols.length - (intOf i).toNat)
    case atStart => exact ⟨0, _, by omega, rfl, by simpa [Hid] using HI.out⟩
    case round =>
      clear x0 x1 x2 x3 x4 x5 x6 x7 HI HI0
      obtain ⟨k, v, hk, rfl, HI⟩ := hrel
      have HBr : Hid (Below w.heap.size w wr) := HBw.out.trans (HI.out.bel.mono (Nat.le_of_lt hlt1))
      by_cases hlt : k < t.cols.length
      · obtain ⟨b, o, rfl, hbN, c0, c1, c2⟩ := colAt HCol.out hlt
        replace c0 := (HBr.out.cell (p := ⟨b, o + k * 3, none⟩) hbN).trans c0
        replace c1 := (HBr.out.cell (p := ⟨b, o + k * 3 + 1, none⟩) hbN).trans c1
        replace c2 := (HBr.out.cell (p := ⟨b, o + k * 3 + 2, none⟩) hbN).trans c2
        have hfx := HFC.out _ (List.getElem_mem hlt)
        have b9 := B9.out k
        have HNext : Hid (A1 ++ (t.cols.take k).flatMap encC ++ textL t.cols[k].nm ++ intL (t.cols[k].kd : Int) ++ flagL t.cols[k].nn = A1 ++ (t.cols.take (k + 1)).flatMap encC) := by
          show _ = _
          rw [List.take_succ_eq_append_getElem hlt, List.flatMap_append]
          simp [encC, List.append_assoc]
        obtain ⟨x, hx⟩ : ∃ x, x = t.cols[k] := ⟨_, rfl⟩
        rw [← hx] at c0 c1 c2 hfx HNext
        clear hx hbN
        obtain ⟨nm, kd, nn⟩ := x
        dsimp only at c0 c1 c2 hfx HNext
        have bn := textL_len nm hfx.1
        have bk := intL_len (kd : Int) (by omega) (by omega)
        have hwk : IntKind.i64.wrap (kd : Int) = (kd : Int) := IntWalk.i64_in _ ⟨by omega, by omega⟩
        have HIa := Lib.hid (HI.out.alloc (.cells #[.string nm, .int .u8 (kd : Int), .bool nn] 68))
        have HBk : Hid (Blk (wr.alloc (.cells #[.string nm, .int .u8 (kd : Int), .bool nn] 68)) wr.heap.size 68 #[.string nm, .int .u8 (kd : Int), .bool nn]) := Blk.new _ _ _
        clear HI
        generalize (t.cols.take k).flatMap encC = M at *
        go_wp2_with fail
        refine (eText_any _ _ _ nm _ HIa.out.enc hfx.1 (by rw [List.length_append]; omega)).mono ?_
        rintro e w11 ⟨rfl, v11, hE, hC⟩
        have hK := HIa.out.enc.keeps hC HBk.out (by decide) (by decide)
        have hN := HIa.out.step hE hC
        clear hE hC HIa HBk
        have HIa := Lib.hid hN
        clear hN
        have HBk := Lib.hid hK
        have d0 := (hK.cell 0).trans rfl
        have d1 := (hK.cell 1).trans rfl
        have d2 := (hK.cell 2).trans rfl
        clear hK
        clear c0 c1 c2
        go_wp2_with fail
        refine (eNumber_any _ _ _ (kd : Int) _ HIa.out.enc (by omega) (by omega) (by simp only [List.length_append]; omega)).mono ?_
        rintro e w12 ⟨rfl, v12, hE, hC⟩
        have hK := HIa.out.enc.keeps hC HBk.out (by decide) (by decide)
        have hN := HIa.out.step hE hC
        clear hE hC HIa HBk
        have HIa := Lib.hid hN
        clear hN
        have HBk := Lib.hid hK
        have d0 := (hK.cell 0).trans rfl
        have d1 := (hK.cell 1).trans rfl
        have d2 := (hK.cell 2).trans rfl
        clear hK
        go_wp2_with fail
        refine (eFlag_any _ _ _ nn _ HIa.out.enc (by simp only [List.length_append]; omega)).mono ?_
        rintro e w13 ⟨rfl, v13, hE, hC⟩
        have hN := HIa.out.step hE hC
        clear hE hC HIa
        have HIa := Lib.hid hN
        clear hN
        go_wp2
        go_roundw
        case rel => exact ⟨k + 1, _, by omega, by go_num, HIa.out.cast HNext.out⟩
        case measure => simp [intOf]; omega
      · have hke : k = t.cols.length := by omega
        subst hke
        rw [List.take_length] at HI
        have b9 := B9.out t.cols.length
        rw [List.take_length] at b9
        have HI0 := HI
        clear HCol HFC B9
        obtain ⟨x0, x1, x2, x3, x4, x5, x6, x7⟩ := HI.out.box
        dsimp only at x0 x1 x2 x3 x4 x5 x6 x7
        go_wp2_with fail
        refine (eNumber_any _ _ _ (t.key.length : Int) _ HI.out.enc (by omega) (by omega) (by rw [List.length_append]; omega)).mono ?_
        rintro e w14 ⟨rfl, v14, hE14, hC14⟩
        have hN := HI.out.step hE14 hC14
        clear hE14 hC14 HI
        have HI := Lib.hid hN
        clear hN
        clear x0 x1 x2 x3 x4 x5 x6 x7
        obtain ⟨x0, x1, x2, x3, x4, x5, x6, x7⟩ := HI.out.box
        dsimp only at x0 x1 x2 x3 x4 x5 x6 x7
        have hA2 : (A1 ++ t.cols.flatMap encC ++ intL t.key.length).length ≤ 30000000 := by simp only [List.length_append]; omega
        generalize A1 ++ t.cols.flatMap encC ++ intL t.key.length = A2 at *
        clear HI0 HBr
        go_wp2_with fail
        go_loopw [44] (fun i wr => ∃ (k : Nat) (v : Value), k ≤ t.key.length ∧ i = .int .i64 k ∧ Hid (WInv w1 wr w.heap.size w1.heap.size ⟨ca, t.cols.length, cc, ka, t.key.length, kc⟩ t v (A2 ++ (t.key.take k).flatMap intL))) (fun i _ => t.key.length - (intOf i).toNat)
        case atStart => exact ⟨0, _, by omega, rfl, by simpa [Hid] using HI.out⟩
        case round =>
          clear x0 x1 x2 x3 x4 x5 x6 x7 HI

          obtain ⟨k, v, hk, rfl, HI⟩ := hrel
          by_cases hlt : k < t.key.length
          · have HBr : Hid (Below w.heap.size w wr) := HBw.out.trans (HI.out.bel.mono (Nat.le_of_lt hlt1))
            obtain ⟨b, o, rfl, hbN, c0⟩ := intAt HKey.out hlt
            replace c0 := (HBr.out.cell (p := ⟨b, o + k, none⟩) hbN).trans c0
            have hfx := HFK.out _ (List.getElem_mem hlt)
            have b10 := B10.out k
            have HNext : Hid (A2 ++ (t.key.take k).flatMap intL ++ intL t.key[k] = A2 ++ (t.key.take (k + 1)).flatMap intL) := by
              show _ = _
              rw [List.take_succ_eq_append_getElem hlt, List.flatMap_append]
              simp [List.append_assoc]
            obtain ⟨x, hx⟩ : ∃ x, x = t.key[k] := ⟨_, rfl⟩
            rw [← hx] at c0 hfx HNext
            clear hx hbN
            generalize (t.key.take k).flatMap intL = M at *
            go_wp2_with fail
            refine (eNumber_any _ _ _ x _ HI.out.enc hfx.1 hfx.2 (by rw [List.length_append]; omega)).mono ?_
            rintro e w15 ⟨rfl, v15, hE15, hC15⟩
            have hN := HI.out.step hE15 hC15
            clear hE15 hC15 HI
            have HI := Lib.hid hN
            clear hN
            go_wp2
            go_roundw
            case rel => exact ⟨k + 1, _, by omega, by go_num, HI.out.cast HNext.out⟩
            case measure => simp [intOf]; omega
          · have hke : k = t.key.length := by omega
            subst hke
            rw [List.take_length] at HI
            have b10 := B10.out t.key.length
            rw [List.take_length] at b10
            have hA3 : (A2 ++ t.key.flatMap intL).length ≤ 40000000 := by rw [List.length_append]; omega
            generalize A2 ++ t.key.flatMap intL = A3 at *
            clear HKey HFK B10
            obtain ⟨x0, x1, x2, x3, x4, x5, x6, x7⟩ := HI.out.box
            dsimp only at x0 x1 x2 x3 x4 x5 x6 x7
            go_wp2_with fail
            refine (eText_any _ _ _ t.per _ HI.out.enc hper (by omega)).mono ?_
            rintro e w16 ⟨rfl, v16, hE16, hC16⟩
            have hN := HI.out.step hE16 hC16
            clear hE16 hC16 HI
            have HI := Lib.hid hN
            clear hN
            clear x0 x1 x2 x3 x4 x5 x6 x7
            obtain ⟨x0, x1, x2, x3, x4, x5, x6, x7⟩ := HI.out.box
            dsimp only at x0 x1 x2 x3 x4 x5 x6 x7
            go_wp2_with fail
            refine (eNumber_any _ _ _ t.fr _ HI.out.enc hfr.1 hfr.2 (by simp only [List.length_append]; omega)).mono ?_
            rintro e w17 ⟨rfl, v17, hE17, hC17⟩
            have hN := HI.out.step hE17 hC17
            clear hE17 hC17 HI
            have HI := Lib.hid hN
            clear hN
            clear x0 x1 x2 x3 x4 x5 x6 x7
            obtain ⟨x0, x1, x2, x3, x4, x5, x6, x7⟩ := HI.out.box
            dsimp only at x0 x1 x2 x3 x4 x5 x6 x7
            go_wp2_with fail
            refine (eNumber_any _ _ _ t.tt _ HI.out.enc htt.1 htt.2 (by simp only [List.length_append]; omega)).mono ?_
            rintro e w18 ⟨rfl, v18, hE18, hC18⟩
            have hN := HI.out.step hE18 hC18
            clear hE18 hC18 HI
            have HI := Lib.hid hN
            clear hN
            clear x0 x1 x2 x3 x4 x5 x6 x7
            obtain ⟨x0, x1, x2, x3, x4, x5, x6, x7⟩ := HI.out.box
            dsimp only at x0 x1 x2 x3 x4 x5 x6 x7
            go_wp2_with fail
            refine (eFlag_any _ _ _ t.apart _ HI.out.enc (by simp only [List.length_append]; omega)).mono ?_
            rintro e w19 ⟨rfl, v19, hE19, hC19⟩
            have hN := HI.out.step hE19 hC19
            clear hE19 hC19 HI
            have HI := Lib.hid hN
            clear hN
            clear x0 x1 x2 x3 x4 x5 x6 x7
            obtain ⟨x0, x1, x2, x3, x4, x5, x6, x7⟩ := HI.out.box
            dsimp only at x0 x1 x2 x3 x4 x5 x6 x7
            go_wp2_with fail
            refine (eFlag_any _ _ _ t.vers _ HI.out.enc (by simp only [List.length_append]; omega)).mono ?_
            rintro e w20 ⟨rfl, v20, hE20, hC20⟩
            have hN := HI.out.step hE20 hC20
            clear hE20 hC20 HI
            have HI := Lib.hid hN
            clear hN
            clear x0 x1 x2 x3 x4 x5 x6 x7
            obtain ⟨x0, x1, x2, x3, x4, x5, x6, x7⟩ := HI.out.box
            dsimp only at x0 x1 x2 x3 x4 x5 x6 x7
            rw [← HEnc.out] at HI
            clear x0 x1 x2 x3 x4 x5 x6 x7
            have hcell := (HI.out.enc.blk.cell 0).trans rfl
            obtain ⟨af, cf, hv, hcap, hBs, -⟩ := HI.out.enc.row.slice
            have HBe : Hid (Below w.heap.size w w20) := HBw.out.trans (HI.out.bel.mono (Nat.le_of_lt hlt1))
            have HBs := Lib.hid hBs
            have HCap := Lib.hid hcap
            clear HI hBs hcap
            subst hv
            go_wp2
            go_ret2
            exact ⟨af, cf, rfl, HCap.out, HBs.out, HBe.out⟩
  · have ht2 : t.ok = false := by simpa using ht
    have hW : writeT t = ([], 3) := if_neg ht
    rw [hW]
    rw [ht2] at HR
    clear h ht hW
    go_enter Try.func11, Try.ntmps11
    go_wp2_with fail
    refine (HR.out _ HB0.out).mono ?_
    rintro e w1 ⟨rfl, hb1⟩
    have HBw : Hid (Below w.heap.size w w1) := HB0.out.trans (hb1.mono (Nat.le_of_lt hs0))
    go_wp2
    go_ret2
    exact ⟨none, 0, rfl, Nat.le_refl _, ⟨by simp, .inl rfl⟩, HBw.out⟩
end Go.Proofs.Ytialpfdhdcjpaaa

/- The walk of schema.WriteIndex. -/
set_option linter.unusedSimpArgs false
set_option linter.unusedVariables false
set_option maxRecDepth 100000
namespace Go.Proofs.Ytialpfdhdcjpaaa
open Go.RowKit

def encX (n s : ByteArray) (c : Int) : List Nat := textL n ++ (textL s ++ intL c)
def okX (n s : ByteArray) (c : Int) : Bool := isNm n && (isNm s && (!decide (c < 0) && !decide (16 ≤ c)))
def writeX (n s : ByteArray) (c : Int) : List Nat × Int := if okX n s c = true then (encX n s c, 0) else ([], 3)
theorem Blk.belS {w w' : World} {g N : Nat} {t : TypeId} {cs : Array Value} (h : Blk w g t cs) (hb : Below N w w') (hg : g < N) : Blk w' g t cs := (hb.block g hg).trans h

set_option maxHeartbeats 4000000 in
theorem sWriteX_any (n s : ByteArray) (c : Int) (w : World) (hn : n.size ≤ 1000000) (hs : s.size ≤ 1000000) (h1 : -9223372036854775808 ≤ c) (h2 : c ≤ 9223372036854775807) :
    Calls Try.prog 24 #[.agg #[.string n, .string s, .int .i64 c]] w (RetLW w (writeX n s c)) := by
  have HB0 : Hid (Below w.heap.size w (w.alloc (.cells #[.string n, .string s, .int .i64 c] 55))) := (Below.refl _ w).alloc (Nat.le_refl _) _
  have HX0 : Hid (Blk (w.alloc (.cells #[.string n, .string s, .int .i64 c] 55)) w.heap.size 55 #[.string n, .string s, .int .i64 c]) := Blk.new _ _ _
  have hs0 : w.heap.size < (w.alloc (.cells #[.string n, .string s, .int .i64 c] 55)).heap.size := by simp
  have HN1 := Lib.hid (fun W => sName_any n W hn)
  have HN2 := Lib.hid (fun W => sName_any s W hs)
  have b1' := textL_len n hn
  have b2' := textL_len s hs
  unfold writeX okX
  obtain ⟨b1, hb1'⟩ : ∃ b, isNm n = b := ⟨_, rfl⟩
  obtain ⟨b2, hb2'⟩ : ∃ b, isNm s = b := ⟨_, rfl⟩
  obtain ⟨c1, q1⟩ : ∃ b, decide (c < 0) = b := ⟨_, rfl⟩
  obtain ⟨c2, q2⟩ : ∃ b, decide (16 ≤ c) = b := ⟨_, rfl⟩
  rw [hb1'] at HN1 ⊢
  rw [hb2'] at HN2 ⊢
  rw [q1, q2]
  have HEnc : Hid (textL n ++ textL s ++ intL c = encX n s c) := by
    show _ = _
    unfold encX; simp only [List.append_assoc]
  generalize encX n s c = LT at *
  clear hb1' hb2'
  obtain ⟨X, hX⟩ : ∃ X, (if (b1 && (b2 && (!c1 && !c2))) = true then (LT, (0 : Int)) else ([], 3)) = X := ⟨_, rfl⟩
  rw [hX]
  have HXe := Lib.hid hX
  clear hX
  go_enter Try.func24, Try.ntmps24
  go_wp2_with fail
  refine (HN1.out _).mono ?_
  rintro e w1 ⟨rfl, hb1⟩
  have hX1 := HX0.out.belS hb1 hs0
  have hs1 := Nat.lt_of_lt_of_le hs0 hb1.size
  have HB1 := Lib.hid (HB0.out.trans (hb1.mono (Nat.le_of_lt hs0)))
  have HX1 := Lib.hid hX1
  have x10 := (hX1.cell 0).trans rfl
  have x11 := (hX1.cell 1).trans rfl
  have x12 := (hX1.cell 2).trans rfl
  clear hb1 hs0 HX0 HB0 hX1
  cases b1 with
  | false =>
    go_wp2
    go_ret2
    rw [← HXe.out, if_neg (by simp)]
    exact ⟨none, 0, rfl, Nat.le_refl _, ⟨by simp, .inl rfl⟩, HB1.out⟩
  | true =>
    go_wp2_with fail
    refine (HN2.out _).mono ?_
    rintro e w2 ⟨rfl, hb2⟩
    have hX2 := HX1.out.belS hb2 hs1
    have hs2 := Nat.lt_of_lt_of_le hs1 hb2.size
    have HB2 := Lib.hid (HB1.out.trans (hb2.mono (Nat.le_of_lt hs1)))
    have HX2 := Lib.hid hX2
    have x20 := (hX2.cell 0).trans rfl
    have x21 := (hX2.cell 1).trans rfl
    have x22 := (hX2.cell 2).trans rfl
    clear hb2 hs1 HX1 HB1 hX2
    clear x10 x11 x12
    cases b2 with
    | false =>
      go_wp2
      go_ret2
      rw [← HXe.out, if_neg (by simp)]
      exact ⟨none, 0, rfl, Nat.le_refl _, ⟨by simp, .inl rfl⟩, HB2.out⟩
    | true =>
      cases c1 with
      | true =>
        go_wp2
        go_ret2
        rw [← HXe.out, if_neg (by simp)]
        exact ⟨none, 0, rfl, Nat.le_refl _, ⟨by simp, .inl rfl⟩, HB2.out⟩
      | false =>
        cases c2 with
        | true =>
          go_wp2
          go_ret2
          rw [← HXe.out, if_neg (by simp)]
          exact ⟨none, 0, rfl, Nat.le_refl _, ⟨by simp, .inl rfl⟩, HB2.out⟩
        | false =>
          have HE : Hid (EncAt (w2.alloc (.cells #[.slice none 0 0] 71)) w2.heap.size (.slice none 0 0) []) := EncAt.new w2
          have HY : Hid (Blk (w2.alloc (.cells #[.slice none 0 0] 71)) w.heap.size 55 #[.string n, .string s, .int .i64 c]) := HX2.out.alloc _
          have HZ : Hid (Below w2.heap.size w2 (w2.alloc (.cells #[.slice none 0 0] 71))) := (Below.refl _ _).alloc (Nat.le_refl _) _
          go_wp2_with fail
          refine (eText_any _ _ _ n _ HE.out hn (by simp)).mono ?_
          rintro e w3 ⟨rfl, v3, hE, hC⟩
          have hY := HY.out.belS (HE.out.below hC) hs2
          have hZ := HZ.out.trans (HE.out.below hC)
          clear HE HY HZ hC
          have HE := Lib.hid hE
          have HY := Lib.hid hY
          have HZ := Lib.hid hZ
          have x30 := (hY.cell 0).trans rfl
          have x31 := (hY.cell 1).trans rfl
          have x32 := (hY.cell 2).trans rfl
          clear x20 x21 x22 hE hY hZ
          go_wp2_with fail
          refine (eText_any _ _ _ s _ HE.out hs (by simp; omega)).mono ?_
          rintro e w4 ⟨rfl, v4, hE, hC⟩
          have hY := HY.out.belS (HE.out.below hC) hs2
          have hZ := HZ.out.trans (HE.out.below hC)
          clear HE HY HZ hC
          have HE := Lib.hid hE
          have HY := Lib.hid hY
          have HZ := Lib.hid hZ
          have x40 := (hY.cell 0).trans rfl
          have x41 := (hY.cell 1).trans rfl
          have x42 := (hY.cell 2).trans rfl
          clear x30 x31 x32 hE hY hZ
          go_wp2_with fail
          refine (eNumber_any _ _ _ c _ HE.out h1 h2 (by simp; omega)).mono ?_
          rintro e w5 ⟨rfl, v5, hE, hC⟩
          have hY := HY.out.belS (HE.out.below hC) hs2
          have hZ := HZ.out.trans (HE.out.below hC)
          clear HE HY HZ hC
          have HE := Lib.hid hE
          have HY := Lib.hid hY
          have HZ := Lib.hid hZ
          have x50 := (hY.cell 0).trans rfl
          have x51 := (hY.cell 1).trans rfl
          have x52 := (hY.cell 2).trans rfl
          clear x40 x41 x42 hE hY hZ
          rw [List.nil_append, HEnc.out] at HE
          have hcell := (HE.out.blk.cell 0).trans rfl
          obtain ⟨af, cf, hv, hcap, hBs, -⟩ := HE.out.row.slice
          have HBe : Hid (Below w.heap.size w w5) := HB2.out.trans (HZ.out.mono (Nat.le_of_lt hs2))
          have HBs := Lib.hid hBs
          have HCap := Lib.hid hcap
          clear HE hBs hcap x50 x51 x52
          subst hv
          go_wp2
          go_ret2
          rw [← HXe.out, if_pos (show (true && (true && (!false && !false))) = true from rfl)]
          exact ⟨af, cf, rfl, HCap.out, HBs.out, HBe.out⟩
end Go.Proofs.Ytialpfdhdcjpaaa

/- A variable as a whole: handed back, stored. -/
set_option linter.unusedSimpArgs false
set_option linter.unusedVariables false
set_option maxRecDepth 100000
namespace Go.Proofs.Ytialpfdhdcjpaaa
open Go.RowKit

/-- What a call hands back: a variable as a whole, and a temporary. -/
theorem results_cell_tmp {P : Program} {fn : Func} {p t : Tmp} {ty : TypeId} (h : fn.results = #[.cell p ty, .tmp t]) (tmps : Array Value) (w : World) {ad : Addr} {v u : Value}
    (hp : tmps.getD p undef = .pointer (some ad)) (ht : tmps.getD t undef = u) (hl : (loadVar ty ad).run P w = .ok v w) : (results fn tmps).run P w = .ok (.tuple #[v, u]) w := by
  have hp' : tmps[p]?.getD undef = .pointer (some ad) := by simpa using hp
  have ht' : tmps[t]?.getD undef = u := by simpa using ht
  simp [results, h, hp', ht', asAddr, hl]

theorem Blk.setRow {w : World} {b : Nat} {T : TypeId} {old new : Array Value} (h : Blk w b T old) : Blk (w.setRow b new) b T new := setRow_heap w b old new T _ h
theorem Chg.setRow {S : List Nat} {a w : World} (h : Chg S a w) {b : Nat} (hb : b ∈ S ∨ a.heap.size ≤ b) (cs : Array Value) : Chg S a (w.setRow b cs) :=
  ⟨h.os, h.tape, h.output, by rw [size_setRow]; exact h.size, fun k hk hn => by
    have hne : k ≠ b := fun e => by
      subst e
      rcases hb with hb | hb
      · exact hn hb
      · omega
    exact (setRow_other w b k cs hne).trans (h.block k hk hn)⟩
end Go.Proofs.Ytialpfdhdcjpaaa
