/- Several texts of one proof, one behind the other. -/
import Derived.Test.YtmfdnphjhbbkiaaRPk5
import Derived.Laws.OwnMore
import Derived.Deep.WholeRow
import Derived.Laws.Rows
import Derived.Laws.CopyRow
set_option linter.unusedSimpArgs false
set_option linter.unusedVariables false

/- The walk of canBeApart. -/
set_option linter.unusedSimpArgs false
set_option linter.unusedVariables false
set_option maxRecDepth 100000
namespace Go.Proofs.Ytmfdnphjhbbkiaa
open Go.RowKit

end Go.Proofs.Ytmfdnphjhbbkiaa

/- The walk of Right. -/
set_option linter.unusedSimpArgs false
set_option linter.unusedVariables false
set_option maxRecDepth 100000
namespace Go.Proofs.Ytmfdnphjhbbkiaa
open Go.RowKit

end Go.Proofs.Ytmfdnphjhbbkiaa

/- 'append(s, t...)' of a row of the call's own and any slice, nil or not. -/
set_option linter.unusedSimpArgs false
set_option linter.unusedVariables false
set_option maxRecDepth 100000
namespace Go.Proofs.Ytmfdnphjhbbkiaa
open Go.RowKit

section
variable {P : Program}

theorem run_appNil (w : World) (base : Nat) (t ty e : TypeId) (i : TypeInfo) (z : Nat) (ht : P.underlying t = some (.slice e)) (hi : P.info? e = some i)
    (v : Value) (n : Nat) (l : List Value) (hown : w.ownsRow base e z v n l) (c : Nat) : (Builtin.append_ #[t, t] ty #[v, .slice none 0 c]).run P w = .ok v w := by
  obtain ⟨_, h⟩ := hown
  rcases h with ⟨rfl, _⟩ | ⟨g, cap, cur, rfl, _, _, hnc, _⟩ <;> simp [Builtin.append_, run_underlying ht, sizeOf, typeInfo, hi, Builtin.lenOf, Builtin.firstCells, storeCells, *]

theorem run_appS (w : World) (base : Nat) (t ty e : TypeId) (i : TypeInfo) (zr : Value) (z bytes : Nat) (ht : P.underlying t = some (.slice e)) (hi : P.info? e = some i) (hz : i.zero = some zr) (hzs : zr.cells.size = z)
    (hsize : i.size = z) (hz0 : 0 < z) (hby : i.bytes = bytes) (hb100 : bytes ≤ 100)
    (v : Value) (n : Nat) (l : List Value) (hown : w.ownsRow base e z v n l) (N : Nat) (A : Option Addr) (m c : Nat) (news : List Value) (hA : Arr N w A news) (hl : news.length = m * z) (h1 : ∀ u ∈ news, u.oneCell' = true)
    (hlen : n + m < 1000000000000) (hbase : base ≤ w.heap.size) :
    ∃ v' w', (Builtin.append_ #[t, t] ty #[v, .slice A m c]).run P w = .ok v' w' ∧ w'.ownsRow base e z v' (n + m) (l ++ news) ∧ w.grownBy w' v.ownBlock := by
  have hby2 : (n + m) * bytes ≤ 140737488355328 := by
    have : (n + m) * bytes ≤ 1000000000000 * 100 := Nat.mul_le_mul (by omega) hb100
    omega
  cases A with
  | none =>
    have hn : news = [] := by
      rcases hA with h | ⟨b, o, h, _⟩
      · exact h
      · cases h
    subst hn
    have hm : m = 0 := by
      rcases Nat.eq_zero_or_pos m with h0 | h0
      · exact h0
      · have := Nat.mul_pos h0 hz0
        simp at hl; omega
    subst hm
    exact ⟨v, w, run_appNil w base t ty e i z ht hi v n l hown c, by simpa using hown, World.grownBy.refl w _⟩
  | some ad =>
    obtain ⟨v', w', h2, h3, h4, _⟩ := run_append_own (P := P) w base t ty e i zr z bytes ht hi hz hsize hby hzs hz0 v n l hown ad m c news hl (fun j u hu => by
      rcases hA with h | ⟨b, o, h, _, hc⟩
      · rw [h] at hu; simp at hu
      · simp only [Option.some.injEq] at h
        subst h
        have e1 : (⟨b, o, none⟩ : Addr).add j = ⟨b, o + j, none⟩ := by unfold Addr.add; split <;> simp_all
        rw [e1]; exact hc j u hu) h1 (by unfold maxLen; omega) hby2 hbase
    exact ⟨v', w', h2, h3, h4⟩

theorem wp_appS {o : Oper} {a : Act} {K : Act → World → Prop} {Q : Exit → Act → World → Prop} (s x : Operand) (t : TypeId)
    (ho : o.op = .call { callee := .builtin .append, args := #[s, x], argTypes := #[t, t] })
    (base : Nat) (e : TypeId) (i : TypeInfo) (zr : Value) (z bytes : Nat) (ht : P.underlying t = some (.slice e)) (hi : P.info? e = some i) (hz : i.zero = some zr) (hzs : zr.cells.size = z)
    (hsize : i.size = z) (hz0 : 0 < z) (hby : i.bytes = bytes) (hb100 : bytes ≤ 100)
    (v : Value) (n : Nat) (l : List Value) (w : World) (hown : w.ownsRow base e z v n l) (hs : a.eval s = v) (N : Nat) (A : Option Addr) (m c : Nat) (news : List Value) (hA : Arr N w A news) (hl : news.length = m * z) (h1 : ∀ u ∈ news, u.oneCell' = true)
    (hx : a.eval x = .slice A m c) (hlen : n + m < 1000000000000) (hbase : base ≤ w.heap.size)
    (h : ∀ v' w', w'.ownsRow base e z v' (n + m) (l ++ news) → Chg v.ownBlock.toList w w' → Below base w w' → K (a.put o.dst v') w') :
    o.wp P a w K Q := by
  obtain ⟨v', w', hrun, h2, h3⟩ := run_appS (P := P) w base t o.type e i zr z bytes ht hi hz hzs hsize hz0 hby hb100 v n l hown N A m c news hA hl h1 hlen hbase
  unfold Oper.wp execOp
  simp only [ho, resolve, invoke, builtin, Sem.run_bind, Sem.run_pure, Result.andThen_ok, List.map_toArray, List.map_cons, List.map_nil, hs, hx, hrun]
  refine h v' w' h2 ⟨h3.os, h3.tape, h3.output, h3.size, fun k hk hn => h3.block k hk (by intro he; apply hn; rw [Option.mem_toList]; exact he.symm)⟩ ?_
  exact (Below.refl base w).grown h3 hbase (fun j hj => (hown.lt j hj).1)

theorem wpList_appS {ops : Array Oper} {rest : List Oper} {o : Oper} {a : Act} {Q : Exit → Act → World → Prop} (hgd : o.guard = none) (s x : Operand) (t : TypeId)
    (ho : o.op = .call { callee := .builtin .append, args := #[s, x], argTypes := #[t, t] })
    (base : Nat) (e : TypeId) (i : TypeInfo) (zr : Value) (z bytes : Nat) (ht : P.underlying t = some (.slice e)) (hi : P.info? e = some i) (hz : i.zero = some zr) (hzs : zr.cells.size = z)
    (hsize : i.size = z) (hz0 : 0 < z) (hby : i.bytes = bytes) (hb100 : bytes ≤ 100)
    (v : Value) (n : Nat) (l : List Value) (w : World) (hown : w.ownsRow base e z v n l) (hs : a.eval s = v) (N : Nat) (A : Option Addr) (m c : Nat) (news : List Value) (hA : Arr N w A news) (hl : news.length = m * z) (h1 : ∀ u ∈ news, u.oneCell' = true)
    (hx : a.eval x = .slice A m c) (hlen : n + m < 1000000000000) (hbase : base ≤ w.heap.size)
    (h : ∀ v' w', w'.ownsRow base e z v' (n + m) (l ++ news) → Chg v.ownBlock.toList w w' → Below base w w' → wpList P ops Q rest (a.put o.dst v') w') :
    wpList P ops Q (o :: rest) a w :=
  wpList_plain hgd fun _ hK => wp_appS s x t ho base e i zr z bytes ht hi hz hzs hsize hz0 hby hb100 v n l w hown hs N A m c news hA hl h1 hx hlen hbase fun v' w' h2 h3 h4 => hK _ _ (h v' w' h2 h3 h4)
end

/-- The cells of bytes. -/
def cellsU (l : List Nat) : List Value := l.map fun (c : Nat) => Value.int .u8 (c : Int)
theorem cellsU_len (l : List Nat) : (cellsU l).length = l.length * 1 := by simp [cellsU]
theorem one_B (l : List Nat) : ∀ u ∈ cellsU l, u.oneCell' = true := by
  intro u hu
  obtain ⟨c, _, rfl⟩ := List.mem_map.1 hu
  rfl
theorem Bs.arr {N : Nat} {w : World} {a : Option Addr} {l : List Nat} (h : Bs N w a l) : Arr N w a (cellsU l) := by
  rcases h.2 with h2 | ⟨b, o, ha, hN, hc⟩
  · exact .inl (by rw [h2]; rfl)
  · refine .inr ⟨b, o, ha, hN, fun i v hi => ?_⟩
    unfold cellsU at hi
    rw [List.getElem?_map] at hi
    cases hl : l[i]? with
    | none => rw [hl] at hi; simp at hi
    | some c => rw [hl] at hi; simp at hi; subst hi; exact hc i c hl
theorem Arr.bs {N : Nat} {w : World} {a : Option Addr} {l : List Nat} (h : Arr N w a (cellsU l)) (hl : ∀ c ∈ l, c < 256) : Bs N w a l := by
  refine ⟨hl, ?_⟩
  rcases h with h2 | ⟨b, o, ha, hN, hc⟩
  · left
    cases l with
    | nil => rfl
    | cons x r => simp [cellsU] at h2
  · exact .inr ⟨b, o, ha, hN, fun i c hi => hc i _ (by unfold cellsU; rw [List.getElem?_map, hi]; rfl)⟩
/-- 'append(s, x)', x just laid in a block of its own: one operation. -/
theorem wp_appC {P : Program} {o : Oper} {a : Act} {K : Act → World → Prop} {Q : Exit → Act → World → Prop} (s x : Operand) (t : TypeId)
    (ho : o.op = .call { callee := .builtin .append, args := #[s, x], argTypes := #[t, t] })
    (base : Nat) (e : TypeId) (i : TypeInfo) (zr : Value) (z bytes : Nat) (ht : P.underlying t = some (.slice e)) (hi : P.info? e = some i) (hz : i.zero = some zr) (hzs : zr.cells.size = z)
    (hsize : i.size = z) (hz0 : 0 < z) (hby : i.bytes = bytes) (hb100 : bytes ≤ 100)
    (v : Value) (n : Nat) (l news : List Value) (w : World) (hown : w.ownsRow base e z v n l) (hs : a.eval s = v) (cs : Array Value) (hcs : cs = news.toArray) (hl : news.length = z) (h1 : ∀ u ∈ news, u.oneCell' = true)
    (hx : a.eval x = .slice (some ⟨w.heap.size, 0, none⟩) 1 1) (hlen : n < 1000000000000) (hbase : base ≤ w.heap.size)
    (h : ∀ v' w', w'.ownsRow base e z v' (n + 1) (l ++ news) → Chg v.ownBlock.toList (w.alloc (.cells cs e)) w' → w.heap.size < w'.heap.size → K (a.put o.dst v') w') :
    o.wp P a (w.alloc (.cells cs e)) K Q := by
  subst hcs
  refine wp_append_own (w.alloc (.cells news.toArray e)) s x t ho base e i zr z bytes ht hi hz hsize hby hzs hz0 v n _ hs (World.ownsRow.alloc hown _) ⟨w.heap.size, 0, none⟩ 1 1 news hx (by rw [hl]; omega) ?_ h1 ?_ ?_ ?_ ?_
  · intro j u hj
    have e0 : (⟨w.heap.size, 0, none⟩ : Addr).add j = ⟨w.heap.size, j, none⟩ := by
      unfold Addr.add; split <;> simp_all
    rw [e0, World.cell?_alloc_at _ _ _ _ rfl]
    simpa using hj
  · unfold maxLen; omega
  · have : (n + 1) * bytes ≤ 1000000000000 * 100 := Nat.mul_le_mul (by omega) hb100
    omega
  · simp; omega
  · intro v' w' hown' hgrow _
    have hsz := hgrow.size
    refine h v' w' hown' ⟨hgrow.os, hgrow.tape, hgrow.output, hsz, fun k hk hn => ?_⟩ (by simp at hsz; omega)
    exact hgrow.block k hk (by intro he; apply hn; rw [Option.mem_toList]; exact he.symm)
/-- The same in a list of operations. -/
theorem wpList_appC {P : Program} {ops : Array Oper} {rest : List Oper} {o : Oper} {a : Act} {Q : Exit → Act → World → Prop} (hgd : o.guard = none) (s x : Operand) (t : TypeId)
    (ho : o.op = .call { callee := .builtin .append, args := #[s, x], argTypes := #[t, t] })
    (base : Nat) (e : TypeId) (i : TypeInfo) (zr : Value) (z bytes : Nat) (ht : P.underlying t = some (.slice e)) (hi : P.info? e = some i) (hz : i.zero = some zr) (hzs : zr.cells.size = z)
    (hsize : i.size = z) (hz0 : 0 < z) (hby : i.bytes = bytes) (hb100 : bytes ≤ 100)
    (v : Value) (n : Nat) (l news : List Value) (w : World) (hown : w.ownsRow base e z v n l) (hs : a.eval s = v) (cs : Array Value) (hcs : cs = news.toArray) (hl : news.length = z) (h1 : ∀ u ∈ news, u.oneCell' = true)
    (hx : a.eval x = .slice (some ⟨w.heap.size, 0, none⟩) 1 1) (hlen : n < 1000000000000) (hbase : base ≤ w.heap.size)
    (h : ∀ v' w', w'.ownsRow base e z v' (n + 1) (l ++ news) → Chg v.ownBlock.toList (w.alloc (.cells cs e)) w' → w.heap.size < w'.heap.size → wpList P ops Q rest (a.put o.dst v') w') :
    wpList P ops Q (o :: rest) a (w.alloc (.cells cs e)) :=
  wpList_plain hgd fun _ hK => wp_appC s x t ho base e i zr z bytes ht hi hz hzs hsize hz0 hby hb100 v n l news w hown hs cs hcs hl h1 hx hlen hbase fun v' w' h2 h3 h4 => hK _ _ (h v' w' h2 h3 h4)
end Go.Proofs.Ytmfdnphjhbbkiaa

/- Rows of the call's own: where they lie, what leaves them as they are. -/
set_option linter.unusedSimpArgs false
set_option linter.unusedVariables false
set_option maxRecDepth 100000
namespace Go.Proofs.Ytmfdnphjhbbkiaa
open Go.RowKit

theorem own_lt {w : World} {base : Nat} {e : TypeId} {size n : Nat} {v : Value} {xs : List Value} (h : w.ownsRow base e size v n xs) {g : Nat} (hg : v.ownBlock = some g) : g < w.heap.size := by
  rcases h.2 with ⟨rfl, _⟩ | ⟨g', cap, cur, rfl, _, hh, _⟩
  · simp [Value.ownBlock] at hg
  · have : g' = g := by simpa [Value.ownBlock] using hg
    subst this
    exact Blk.lt (t := e) hh
theorem own_keep {w w' : World} {base : Nat} {e : TypeId} {size n : Nat} {v : Value} {xs : List Value} (h : w.ownsRow base e size v n xs) (hk : ∀ g, v.ownBlock = some g → w'.heap[g]? = w.heap[g]?) : w'.ownsRow base e size v n xs := by
  refine ⟨h.1, ?_⟩
  rcases h.2 with h2 | ⟨g, cap, cur, hv, hg, hh, r⟩
  · exact .inl h2
  · exact .inr ⟨g, cap, cur, hv, hg, by rw [hk g (by rw [hv]; rfl)]; exact hh, r⟩
theorem own_chg {w w' : World} {base : Nat} {e : TypeId} {size n : Nat} {v : Value} {xs : List Value} {S : List Nat} (h : w.ownsRow base e size v n xs) (hc : Chg S w w') (hn : ∀ g, v.ownBlock = some g → g ∉ S) : w'.ownsRow base e size v n xs :=
  own_keep h fun g hg => hc.block g (own_lt h hg) (hn g hg)
theorem own_ne {w : World} {base : Nat} {e : TypeId} {size n : Nat} {v : Value} {xs : List Value} (h : w.ownsRow base e size v n xs) {g : Nat} {t : TypeId} {cs : Array Value} (hb : Blk w g t cs) (hne : e ≠ t) : v.ownBlock ≠ some g := by
  rcases h.2 with ⟨rfl, _⟩ | ⟨g', cap, cur, rfl, _, hh, _⟩
  · simp [Value.ownBlock]
  · intro he
    have : g' = g := by simpa [Value.ownBlock] using he
    subst this
    exact Blk.ne_ (t := e) hh hb hne rfl
end Go.Proofs.Ytmfdnphjhbbkiaa

/- The walks of the encoder's methods. -/
set_option linter.unusedSimpArgs false
set_option linter.unusedVariables false
set_option maxRecDepth 100000
namespace Go.Proofs.Ytmfdnphjhbbkiaa
open Go.RowKit

def ES (E : Nat) (v : Value) : List Nat := E :: v.ownBlock.toList
theorem info_u8E : (Try.prog.info? 5).map (fun i => (i.zero, i.size, i.bytes)) = some (some (.int .u8 0), 1, 1) := by kernel_rfl

theorem Bs.arrE {N : Nat} {w : World} {a : Option Addr} {l : List Nat} (h : Bs N w a l) : Arr N w a (l.map fun (c : Nat) => Value.int .u8 (c : Int)) := by
  rcases h.2 with h2 | ⟨b, o, ha, hN, hc⟩
  · exact .inl (by rw [h2]; rfl)
  · refine .inr ⟨b, o, ha, hN, fun i v hi => ?_⟩
    rw [List.getElem?_map] at hi
    cases hl : l[i]? with
    | none => rw [hl] at hi; simp at hi
    | some c => rw [hl] at hi; simp at hi; subst hi; exact hc i c hl

end Go.Proofs.Ytmfdnphjhbbkiaa

/- The walk of schema.Write. -/
set_option linter.unusedSimpArgs false
set_option linter.unusedVariables false
set_option maxRecDepth 100000
namespace Go.Proofs.Ytmfdnphjhbbkiaa
open Go.RowKit

/-- Bytes and an error. -/
def RetLW (w : World) (X : List Nat × Int) (e : Ending) (w' : World) : Prop := ∃ a cap, e = .returned (.tuple #[.slice a X.1.length cap, .int .i64 X.2]) ∧ X.1.length ≤ cap ∧ Bs w'.heap.size w' a X.1 ∧ Below w.heap.size w w'
noncomputable def writeT (t : Tb) : List Nat × Int := if t.ok = true then (encT t, 0) else ([], 3)

theorem flat_len {α : Type} (f : α → List Nat) (B : Nat) : ∀ (l : List α), (∀ x ∈ l, (f x).length ≤ B) → (l.flatMap f).length ≤ l.length * B
  | [], _ => by simp
  | x :: r, h => by
    have := flat_len f B r (fun y hy => h y (List.mem_cons_of_mem _ hy))
    have h1 := h x List.mem_cons_self
    rw [List.flatMap_cons, List.length_append, List.length_cons, Nat.add_mul]
    omega
theorem intL_len (n : Int) (h1 : -9223372036854775808 ≤ n) (h2 : n ≤ 9223372036854775807) : (intL n).length ≤ 10 := putL_len10 (zigN_lt n h1 h2)
theorem flagL_len (b : Bool) : (flagL b).length ≤ 10 := by unfold flagL; exact intL_len _ (by cases b <;> simp) (by cases b <;> simp)
theorem textL_len (s : ByteArray) (h : s.size ≤ 1000000) : (textL s).length ≤ 1000010 := by
  have := putL_len10 (show s.size < 18446744073709551616 by omega)
  unfold textL; rw [List.length_append, bytesOf_len]; omega
theorem encC_len (c : Col) (h : c.nm.size ≤ 1000000) (hk : c.kd < 256) : (encC c).length ≤ 1000030 := by
  have h1 := textL_len _ h
  have h2 := intL_len (c.kd : Int) (by omega) (by omega)
  have h3 := flagL_len c.nn
  unfold encC
  rw [List.length_append, List.length_append]; omega

end Go.Proofs.Ytmfdnphjhbbkiaa

/- The walk of schema.WriteIndex. -/
set_option linter.unusedSimpArgs false
set_option linter.unusedVariables false
set_option maxRecDepth 100000
namespace Go.Proofs.Ytmfdnphjhbbkiaa
open Go.RowKit

def encX (n s : ByteArray) (c : Int) : List Nat := textL n ++ (textL s ++ intL c)
def okX (n s : ByteArray) (c : Int) : Bool := isNm n && (isNm s && (!decide (c < 0) && !decide (16 ≤ c)))
def writeX (n s : ByteArray) (c : Int) : List Nat × Int := if okX n s c = true then (encX n s c, 0) else ([], 3)
theorem Blk.belS {w w' : World} {g N : Nat} {t : TypeId} {cs : Array Value} (h : Blk w g t cs) (hb : Below N w w') (hg : g < N) : Blk w' g t cs := (hb.block g hg).trans h

end Go.Proofs.Ytmfdnphjhbbkiaa

/- A variable as a whole: handed back, stored. -/
set_option linter.unusedSimpArgs false
set_option linter.unusedVariables false
set_option maxRecDepth 100000
namespace Go.Proofs.Ytmfdnphjhbbkiaa
open Go.RowKit

/-- What a call hands back: a variable as a whole, and a temporary. -/
theorem results_cell_tmp {P : Program} {fn : Func} {p t : Tmp} {ty : TypeId} (h : fn.results = #[.cell p ty, .tmp t]) (tmps : Array Value) (w : World) {ad : Addr} {v u : Value}
    (hp : tmps.getD p undef = .pointer (some ad)) (ht : tmps.getD t undef = u) (hl : (loadVar ty ad).run P w = .ok v w) : (results fn tmps).run P w = .ok (.tuple #[v, u]) w := by
  have hp' : tmps[p]?.getD undef = .pointer (some ad) := by simpa using hp
  have ht' : tmps[t]?.getD undef = u := by simpa using ht
  simp [results, h, hp', ht', asAddr, hl]

theorem Blk.setRow {w : World} {b : Nat} {T : TypeId} {old new : Array Value} (h : Blk w b T old) : Blk (w.setRow b new) b T new := setRow_heap w b old new T _ h
theorem Chg.setRow {S : List Nat} {a w : World} (h : Chg S a w) {b : Nat} (hb : b ∈ S ∨ a.heap.size ≤ b) (cs : Array Value) : Chg S a (w.setRow b cs) :=
  ⟨h.os, h.tape, h.output, by rw [size_setRow]; exact h.size, fun k hk hn => by
    have hne : k ≠ b := fun e => by
      subst e
      rcases hb with hb | hb
      · exact hn hb
      · omega
    exact (setRow_other w b k cs hne).trans (h.block k hk hn)⟩
end Go.Proofs.Ytmfdnphjhbbkiaa
