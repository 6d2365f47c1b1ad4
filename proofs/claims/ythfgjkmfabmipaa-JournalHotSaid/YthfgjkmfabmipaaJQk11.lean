/- Several texts of one proof, one behind the other. -/
import Derived.Test.YthfgjkmfabmipaaJQk10
import Derived.Laws.OwnMore
import Derived.Lib.BufferWrite
import Derived.Deep.Cut
set_option linter.unusedSimpArgs false
set_option linter.unusedVariables false

/- 'append(s, t...)' of a row of the call's own and any slice, nil or not. -/
set_option linter.unusedSimpArgs false
set_option linter.unusedVariables false
set_option maxRecDepth 100000
namespace Go.Proofs.Ythfgjkmfabmipaa
open Go.RowKit

section
variable {P : Program}

theorem run_appNil (w : World) (base : Nat) (t ty e : TypeId) (i : TypeInfo) (z : Nat) (ht : P.underlying t = some (.slice e)) (hi : P.info? e = some i)
    (v : Value) (n : Nat) (l : List Value) (hown : w.ownsRow base e z v n l) (c : Nat) : (Builtin.append_ #[t, t] ty #[v, .slice none 0 c]).run P w = .ok v w := by
  obtain ⟨_, h⟩ := hown
  rcases h with ⟨rfl, _⟩ | ⟨g, cap, cur, rfl, _, _, hnc, _⟩ <;> simp [Builtin.append_, run_underlying ht, sizeOf, typeInfo, hi, Builtin.lenOf, Builtin.firstCells, storeCells, *]

theorem run_appS (w : World) (base : Nat) (t ty e : TypeId) (i : TypeInfo) (zr : Value) (z bytes : Nat) (ht : P.underlying t = some (.slice e)) (hi : P.info? e = some i) (hz : i.zero = some zr) (hzs : zr.cells.size = z)
    (hsize : i.size = z) (hz0 : 0 < z) (hby : i.bytes = bytes) (hb100 : bytes ≤ 100)
    (v : Value) (n : Nat) (l : List Value) (hown : w.ownsRow base e z v n l) (N : Nat) (A : Option Addr) (m c : Nat) (news : List Value) (hA : Arr N w A news) (hl : news.length = m * z) (h1 : ∀ u ∈ news, u.oneCell' = true)
    (hlen : n + m < 1000000000000) (hbase : base ≤ w.heap.size) :
    ∃ v' w', (Builtin.append_ #[t, t] ty #[v, .slice A m c]).run P w = .ok v' w' ∧ w'.ownsRow base e z v' (n + m) (l ++ news) ∧ w.grownBy w' v.ownBlock := by
  have hby2 : (n + m) * bytes ≤ 140737488355328 := by
    have : (n + m) * bytes ≤ 1000000000000 * 100 := Nat.mul_le_mul (by omega) hb100
    omega
  cases A with
  | none =>
    have hn : news = [] := by
      rcases hA with h | ⟨b, o, h, _⟩
      · exact h
      · cases h
    subst hn
    have hm : m = 0 := by
      rcases Nat.eq_zero_or_pos m with h0 | h0
      · exact h0
      · have := Nat.mul_pos h0 hz0
        simp at hl; omega
    subst hm
    exact ⟨v, w, run_appNil w base t ty e i z ht hi v n l hown c, by simpa using hown, World.grownBy.refl w _⟩
  | some ad =>
    obtain ⟨v', w', h2, h3, h4, _⟩ := run_append_own (P := P) w base t ty e i zr z bytes ht hi hz hsize hby hzs hz0 v n l hown ad m c news hl (fun j u hu => by
      rcases hA with h | ⟨b, o, h, _, hc⟩
      · rw [h] at hu; simp at hu
      · simp only [Option.some.injEq] at h
        subst h
        have e1 : (⟨b, o, none⟩ : Addr).add j = ⟨b, o + j, none⟩ := by unfold Addr.add; split <;> simp_all
        rw [e1]; exact hc j u hu) h1 (by unfold maxLen; omega) hby2 hbase
    exact ⟨v', w', h2, h3, h4⟩

theorem wp_appS {o : Oper} {a : Act} {K : Act → World → Prop} {Q : Exit → Act → World → Prop} (s x : Operand) (t : TypeId)
    (ho : o.op = .call { callee := .builtin .append, args := #[s, x], argTypes := #[t, t] })
    (base : Nat) (e : TypeId) (i : TypeInfo) (zr : Value) (z bytes : Nat) (ht : P.underlying t = some (.slice e)) (hi : P.info? e = some i) (hz : i.zero = some zr) (hzs : zr.cells.size = z)
    (hsize : i.size = z) (hz0 : 0 < z) (hby : i.bytes = bytes) (hb100 : bytes ≤ 100)
    (v : Value) (n : Nat) (l : List Value) (w : World) (hown : w.ownsRow base e z v n l) (hs : a.eval s = v) (N : Nat) (A : Option Addr) (m c : Nat) (news : List Value) (hA : Arr N w A news) (hl : news.length = m * z) (h1 : ∀ u ∈ news, u.oneCell' = true)
    (hx : a.eval x = .slice A m c) (hlen : n + m < 1000000000000) (hbase : base ≤ w.heap.size)
    (h : ∀ v' w', w'.ownsRow base e z v' (n + m) (l ++ news) → Chg v.ownBlock.toList w w' → Below base w w' → K (a.put o.dst v') w') :
    o.wp P a w K Q := by
  obtain ⟨v', w', hrun, h2, h3⟩ := run_appS (P := P) w base t o.type e i zr z bytes ht hi hz hzs hsize hz0 hby hb100 v n l hown N A m c news hA hl h1 hlen hbase
  unfold Oper.wp execOp
  simp only [ho, resolve, invoke, builtin, Sem.run_bind, Sem.run_pure, Result.andThen_ok, List.map_toArray, List.map_cons, List.map_nil, hs, hx, hrun]
  refine h v' w' h2 ⟨h3.os, h3.tape, h3.output, h3.size, fun k hk hn => h3.block k hk (by intro he; apply hn; rw [Option.mem_toList]; exact he.symm)⟩ ?_
  exact (Below.refl base w).grown h3 hbase (fun j hj => (hown.lt j hj).1)

theorem wpList_appS {ops : Array Oper} {rest : List Oper} {o : Oper} {a : Act} {Q : Exit → Act → World → Prop} (hgd : o.guard = none) (s x : Operand) (t : TypeId)
    (ho : o.op = .call { callee := .builtin .append, args := #[s, x], argTypes := #[t, t] })
    (base : Nat) (e : TypeId) (i : TypeInfo) (zr : Value) (z bytes : Nat) (ht : P.underlying t = some (.slice e)) (hi : P.info? e = some i) (hz : i.zero = some zr) (hzs : zr.cells.size = z)
    (hsize : i.size = z) (hz0 : 0 < z) (hby : i.bytes = bytes) (hb100 : bytes ≤ 100)
    (v : Value) (n : Nat) (l : List Value) (w : World) (hown : w.ownsRow base e z v n l) (hs : a.eval s = v) (N : Nat) (A : Option Addr) (m c : Nat) (news : List Value) (hA : Arr N w A news) (hl : news.length = m * z) (h1 : ∀ u ∈ news, u.oneCell' = true)
    (hx : a.eval x = .slice A m c) (hlen : n + m < 1000000000000) (hbase : base ≤ w.heap.size)
    (h : ∀ v' w', w'.ownsRow base e z v' (n + m) (l ++ news) → Chg v.ownBlock.toList w w' → Below base w w' → wpList P ops Q rest (a.put o.dst v') w') :
    wpList P ops Q (o :: rest) a w :=
  wpList_plain hgd fun _ hK => wp_appS s x t ho base e i zr z bytes ht hi hz hzs hsize hz0 hby hb100 v n l w hown hs N A m c news hA hl h1 hx hlen hbase fun v' w' h2 h3 h4 => hK _ _ (h v' w' h2 h3 h4)
end

/-- The cells of bytes. -/
def cellsU (l : List Nat) : List Value := l.map fun (c : Nat) => Value.int .u8 (c : Int)
theorem cellsU_len (l : List Nat) : (cellsU l).length = l.length * 1 := by simp [cellsU]
theorem one_B (l : List Nat) : ∀ u ∈ cellsU l, u.oneCell' = true := by
  intro u hu
  obtain ⟨c, _, rfl⟩ := List.mem_map.1 hu
  rfl
theorem Bs.arr {N : Nat} {w : World} {a : Option Addr} {l : List Nat} (h : Bs N w a l) : Arr N w a (cellsU l) := by
  rcases h.2 with h2 | ⟨b, o, ha, hN, hc⟩
  · exact .inl (by rw [h2]; rfl)
  · refine .inr ⟨b, o, ha, hN, fun i v hi => ?_⟩
    unfold cellsU at hi
    rw [List.getElem?_map] at hi
    cases hl : l[i]? with
    | none => rw [hl] at hi; simp at hi
    | some c => rw [hl] at hi; simp at hi; subst hi; exact hc i c hl
theorem Arr.bs {N : Nat} {w : World} {a : Option Addr} {l : List Nat} (h : Arr N w a (cellsU l)) (hl : ∀ c ∈ l, c < 256) : Bs N w a l := by
  refine ⟨hl, ?_⟩
  rcases h with h2 | ⟨b, o, ha, hN, hc⟩
  · left
    cases l with
    | nil => rfl
    | cons x r => simp [cellsU] at h2
  · exact .inr ⟨b, o, ha, hN, fun i c hi => hc i _ (by unfold cellsU; rw [List.getElem?_map, hi]; rfl)⟩
/-- 'append(s, x)', x just laid in a block of its own: one operation. -/
theorem wp_appC {P : Program} {o : Oper} {a : Act} {K : Act → World → Prop} {Q : Exit → Act → World → Prop} (s x : Operand) (t : TypeId)
    (ho : o.op = .call { callee := .builtin .append, args := #[s, x], argTypes := #[t, t] })
    (base : Nat) (e : TypeId) (i : TypeInfo) (zr : Value) (z bytes : Nat) (ht : P.underlying t = some (.slice e)) (hi : P.info? e = some i) (hz : i.zero = some zr) (hzs : zr.cells.size = z)
    (hsize : i.size = z) (hz0 : 0 < z) (hby : i.bytes = bytes) (hb100 : bytes ≤ 100)
    (v : Value) (n : Nat) (l news : List Value) (w : World) (hown : w.ownsRow base e z v n l) (hs : a.eval s = v) (cs : Array Value) (hcs : cs = news.toArray) (hl : news.length = z) (h1 : ∀ u ∈ news, u.oneCell' = true)
    (hx : a.eval x = .slice (some ⟨w.heap.size, 0, none⟩) 1 1) (hlen : n < 1000000000000) (hbase : base ≤ w.heap.size)
    (h : ∀ v' w', w'.ownsRow base e z v' (n + 1) (l ++ news) → Chg v.ownBlock.toList (w.alloc (.cells cs e)) w' → w.heap.size < w'.heap.size → K (a.put o.dst v') w') :
    o.wp P a (w.alloc (.cells cs e)) K Q := by
  subst hcs
  refine wp_append_own (w.alloc (.cells news.toArray e)) s x t ho base e i zr z bytes ht hi hz hsize hby hzs hz0 v n _ hs (World.ownsRow.alloc hown _) ⟨w.heap.size, 0, none⟩ 1 1 news hx (by rw [hl]; omega) ?_ h1 ?_ ?_ ?_ ?_
  · intro j u hj
    have e0 : (⟨w.heap.size, 0, none⟩ : Addr).add j = ⟨w.heap.size, j, none⟩ := by
      unfold Addr.add; split <;> simp_all
    rw [e0, World.cell?_alloc_at _ _ _ _ rfl]
    simpa using hj
  · unfold maxLen; omega
  · have : (n + 1) * bytes ≤ 1000000000000 * 100 := Nat.mul_le_mul (by omega) hb100
    omega
  · simp; omega
  · intro v' w' hown' hgrow _
    have hsz := hgrow.size
    refine h v' w' hown' ⟨hgrow.os, hgrow.tape, hgrow.output, hsz, fun k hk hn => ?_⟩ (by simp at hsz; omega)
    exact hgrow.block k hk (by intro he; apply hn; rw [Option.mem_toList]; exact he.symm)
/-- The same in a list of operations. -/
theorem wpList_appC {P : Program} {ops : Array Oper} {rest : List Oper} {o : Oper} {a : Act} {Q : Exit → Act → World → Prop} (hgd : o.guard = none) (s x : Operand) (t : TypeId)
    (ho : o.op = .call { callee := .builtin .append, args := #[s, x], argTypes := #[t, t] })
    (base : Nat) (e : TypeId) (i : TypeInfo) (zr : Value) (z bytes : Nat) (ht : P.underlying t = some (.slice e)) (hi : P.info? e = some i) (hz : i.zero = some zr) (hzs : zr.cells.size = z)
    (hsize : i.size = z) (hz0 : 0 < z) (hby : i.bytes = bytes) (hb100 : bytes ≤ 100)
    (v : Value) (n : Nat) (l news : List Value) (w : World) (hown : w.ownsRow base e z v n l) (hs : a.eval s = v) (cs : Array Value) (hcs : cs = news.toArray) (hl : news.length = z) (h1 : ∀ u ∈ news, u.oneCell' = true)
    (hx : a.eval x = .slice (some ⟨w.heap.size, 0, none⟩) 1 1) (hlen : n < 1000000000000) (hbase : base ≤ w.heap.size)
    (h : ∀ v' w', w'.ownsRow base e z v' (n + 1) (l ++ news) → Chg v.ownBlock.toList (w.alloc (.cells cs e)) w' → w.heap.size < w'.heap.size → wpList P ops Q rest (a.put o.dst v') w') :
    wpList P ops Q (o :: rest) a (w.alloc (.cells cs e)) :=
  wpList_plain hgd fun _ hK => wp_appC s x t ho base e i zr z bytes ht hi hz hzs hsize hz0 hby hb100 v n l news w hown hs cs hcs hl h1 hx hlen hbase fun v' w' h2 h3 h4 => hK _ _ (h v' w' h2 h3 h4)
end Go.Proofs.Ythfgjkmfabmipaa

/- Journal: bytes of heads and titles; isCount, isPage, same, Get. -/
set_option linter.unusedSimpArgs false
set_option linter.unusedVariables false
set_option maxRecDepth 100000
namespace Go.Proofs.Ythfgjkmfabmipaa
open Go.RowKit

def zs (n : Nat) : List Nat := List.replicate n 0
theorem zs_len (n : Nat) : (zs n).length = n := by simp [zs]
theorem zs_lt (n : Nat) : ∀ c ∈ zs n, c < 256 := by intro c hc; rw [List.eq_of_mem_replicate hc]; omega
/-- A row of which a part is written anew. -/
def ovr (L : List Nat) (at_ : Nat) (l : List Nat) : List Nat := L.take at_ ++ (l ++ L.drop (at_ + l.length))
theorem ovr_len {L : List Nat} {at_ : Nat} {l : List Nat} (h : at_ + l.length ≤ L.length) : (ovr L at_ l).length = L.length := by
  unfold ovr; simp only [List.length_append, List.length_take, List.length_drop]; omega
theorem ovr_lt {L : List Nat} {at_ : Nat} {l : List Nat} (h : ∀ c ∈ L, c < 256) (h2 : ∀ c ∈ l, c < 256) : ∀ c ∈ ovr L at_ l, c < 256 := by
  intro c hc
  unfold ovr at hc
  rcases List.mem_append.1 hc with hc | hc
  · exact h c (List.mem_of_mem_take hc)
  · rcases List.mem_append.1 hc with hc | hc
    · exact h2 c hc
    · exact h c (List.mem_of_mem_drop hc)
def cellsA (L : List Nat) : Array Value := (cellsU L).toArray
theorem cellsA_size (L : List Nat) : (cellsA L).size = L.length := by simp [cellsA, cellsU]
theorem cellsA_at (L : List Nat) (i : Nat) (h : i < L.length) : ∃ d : Int, (cellsA L)[i]? = some (.int .u8 d) := ⟨(L[i] : Int), by simp [cellsA, cellsU, List.getElem?_eq_getElem h]⟩
theorem putB_A (L : List Nat) (at_ : Nat) (l : List Nat) : putB (cellsA L) at_ l = cellsA (ovr L at_ l) := by
  unfold putB cellsA ovr cellsU byteV
  simp [List.map_append, List.map_take, List.map_drop]
theorem Blk.bsA {w : World} {g : Nat} {T : TypeId} {l : List Nat} (h : Blk w g T (cellsA l)) (hl : ∀ c ∈ l, c < 256) : Bs w.heap.size w (some ⟨g, 0, none⟩) l := Blk.bs h hl
theorem makeZ (m : Nat) (hm : m ≤ 1000000) (V : World) : (Instr.makeSlice 30 (.int .i64 (m : Int)) (.int .i64 (m : Int))).run Try.prog V = .ok (.slice (some ⟨V.heap.size, 0, none⟩) m m) (V.alloc (.cells (cellsA (zs m)) 5)) := by
  have := run_make_row' (P := Try.prog) 30 5 (.int .u8 0) 1 Try.underlying30 (by kernel_rfl) rfl .i64 .i64 m (by omega) (by omega) V
  rw [fillA_zero m 0] at this
  have e : fillA m 0 0 = cellsA (zs m) := by simp [fillA, cellsA, cellsU, zs]
  rw [e] at this
  simpa using this

/-- 'b[k:m]' of a row of n bytes, k below its end. -/
theorem cutRow (g n k m : Nat) (hn : n ≤ 1000000) (hk : k < n) (hkm : k ≤ m) (hm : m ≤ n) (W : World) :
    (Instr.slice 30 (.slice (some ⟨g, 0, none⟩) n n) (some (.int .i64 (k : Int))) (some (.int .i64 (m : Int))) none).run Try.prog W = .ok (.slice (some ⟨g, k, none⟩) (m - k) (n - k)) W := by
  have hu := Try.underlying30
  have ht' : Try.prog.underlying 30 = some (.slice (Try.prog.elem 30)) := by simp [Program.elem, hu]
  have hee : Try.prog.elem 30 = 5 := by simp [Program.elem, hu]
  rw [run_slice_lh (P := Try.prog) W 30 (some ⟨g, 0, none⟩) n n ht' .i64 .i64 (k : Int) (m : Int) (by omega) (by omega) (by omega), hee, Try.sizeOf5]
  simp only [Result.andThen, sliced, Int.toNat_natCast]
  rw [if_neg (by omega)]
  simp [Addr.add]
  omega
/-- 'b[:m]'. -/
theorem cutFront (g n m : Nat) (hn : n ≤ 1000000) (h0 : 0 < n) (hm : m ≤ n) (W : World) :
    (Instr.slice 30 (.slice (some ⟨g, 0, none⟩) n n) none (some (.int .i64 (m : Int))) none).run Try.prog W = .ok (.slice (some ⟨g, 0, none⟩) m n) W := by
  have hu := Try.underlying30
  have ht' : Try.prog.underlying 30 = some (.slice (Try.prog.elem 30)) := by simp [Program.elem, hu]
  have hee : Try.prog.elem 30 = 5 := by simp [Program.elem, hu]
  rw [run_slice_h (P := Try.prog) W 30 (some ⟨g, 0, none⟩) n n ht' .i64 (m : Int) (by omega) (by omega), hee, Try.sizeOf5]
  simp only [Result.andThen, sliced, Int.toNat_natCast]
  rw [if_neg (by omega)]
  simp [Addr.add]

/-- May it be a number of entries or pages; of a page? -/
def cntB (n : Int) : Bool := decide (0 ≤ n) && decide (n ≤ 4096)
def pgB (n : Int) : Bool := decide (0 ≤ n) && decide (n < 4096)
set_option maxHeartbeats 1000000 in
theorem isCount_any (n : Int) (w : World) : Calls Try.prog 42 #[.int .i64 n] w fun e w' => e = .returned (.bool (cntB n)) ∧ w' = w := by
  unfold cntB
  by_cases h : 0 ≤ n
  · have q : decide (0 ≤ n) = true := by simpa using h
    go_enter Try.func42, Try.ntmps42
    go_wp2
    go_ret
    exact ⟨by simp [h], rfl⟩
  · have q : decide (0 ≤ n) = false := by simpa using h
    go_enter Try.func42, Try.ntmps42
    go_wp2
    go_ret
    exact ⟨by simp [h], rfl⟩
set_option maxHeartbeats 1000000 in
theorem isPage_any (n : Int) (w : World) : Calls Try.prog 50 #[.int .i64 n] w fun e w' => e = .returned (.bool (pgB n)) ∧ w' = w := by
  unfold pgB
  by_cases h : 0 ≤ n
  · have q : decide (0 ≤ n) = true := by simpa using h
    go_enter Try.func50, Try.ntmps50
    go_wp2
    go_ret
    exact ⟨by simp [h], rfl⟩
  · have q : decide (0 ≤ n) = false := by simpa using h
    go_enter Try.func50, Try.ntmps50
    go_wp2
    go_ret
    exact ⟨by simp [h], rfl⟩

set_option maxHeartbeats 2000000 in
theorem getB_any (l : List Nat) (a : Option Addr) (n cap N : Nat) (w : World) (hB : Bs N w a l) (hn : n = l.length) (hs : n ≤ 6) :
    Calls Try.prog 46 #[.slice a n cap] w fun e w' => e = .returned (.int .i64 ((valL l : Nat) : Int)) ∧ w' = w := by
  have HB := Lib.hid hB
  have HL := Lib.hid hn
  have HV := Lib.hid (fun k => valL_lt (l.take k) (fun c hc => hB.1 c (List.mem_of_mem_take hc)))
  have HT := Lib.hid (fun k c => valL_take l k c)
  clear hB hn
  go_enter Try.func46, Try.ntmps46
  go_wp2
  go_loop [3, 7] (fun v i => ∃ k V : Nat, k ≤ n ∧ i = .int .i64 k ∧ v = .int .i64 (V : Int) ∧ Hid (V = valL (l.take k))) (fun _ i => n - (intOf i).toNat)
  case atStart => exact ⟨0, 0, by omega, rfl, rfl, rfl⟩
  case round =>
    obtain ⟨k, V, hk, rfl, rfl, HVk⟩ := hrel
    by_cases hlt : k < n
    · have hV : V < 281474976710656 := by
        have h1 := HV.out k
        rw [← HVk.out, List.length_take] at h1
        have h2 : (256 : Nat) ^ min k l.length ≤ 256 ^ 6 := Nat.pow_le_pow_right (by omega) (by omega)
        omega
      have hkl : k < l.length := by have := HL.out; omega
      have hne : l ≠ [] := by intro h0; rw [h0] at hkl; simp at hkl
      obtain ⟨b, o, rfl, hbN, hc⟩ := HB.out.2.resolve_left hne
      have hck := hc k _ (List.getElem?_eq_getElem hkl)
      have hcl := HB.out.1 _ (List.getElem_mem hkl)
      have HS : Hid (256 * V + l[k] = valL (l.take (k + 1))) := by
        show _ = _
        rw [HT.out k _ (List.getElem?_eq_getElem hkl), ← HVk.out]
      have HO := Lib.hid (orI V l[k] hV hcl)
      generalize l[k]'hkl = c at *
      clear hc
      go_wp2
      go_round
      case rel => exact ⟨k + 1, 256 * V + c, by omega, by go_num, by rw [HO.out], HS⟩
      case measure => simp [intOf]; omega
    · have HE : Hid (V = valL l) := by show _ = _; rw [HVk.out, List.take_of_length_le (by have := HL.out; omega)]
      go_wp2
      go_ret
      exact ⟨by rw [HE.out]; rfl, rfl⟩

/-- '[128]byte(b)': the address of the first byte. -/
theorem arrAt128 (b o cap : Nat) (W : World) : (Instr.arrayAt 107 (.slice (some ⟨b, o, none⟩) 128 cap)).run Try.prog W = .ok (.pointer (some ⟨b, o, none⟩)) W := by
  simp [Instr.arrayAt, run_underlying Try.underlying107]

/-- Bytes as an array in memory. -/
theorem Bs.arr128 {N : Nat} {w : World} {b o : Nat} {l : List Nat} (h : Bs N w (some ⟨b, o, none⟩) l) (hl : l.length = 128) :
    (loadVar 107 ⟨b, o, none⟩).run Try.prog w = .ok (arrN .u8 l) w := by
  have hne : l ≠ [] := by intro h0; rw [h0] at hl; cases hl
  obtain ⟨b', o', he, -, hc⟩ := h.2.resolve_left hne
  injection he with he; injection he with e1 e2; subst e1 e2
  have hr : w.rangeAt b o (l.map fun (c : Nat) => Value.int .u8 (c : Int)) := by
    intro j v hv
    rw [List.getElem?_map] at hv
    cases hj : l[j]? with
    | none => rw [hj] at hv; cases hv
    | some c => rw [hj] at hv; injection hv with hv; rw [← hv]; exact hc j c hj
  have hs : (Try.prog.info? 107).map (·.size) = some (l.map fun (c : Nat) => Value.int .u8 (c : Int)).length := by
    rw [List.length_map, hl]; kernel_rfl
  exact run_loadVar_mid w b o 107 _ _ hr Try.underlying107 rfl hs

set_option maxHeartbeats 2000000 in
theorem jsame_any (l m : List Nat) (a a' : Option Addr) (cap cap' N M : Nat) (w : World) (hB : Bs N w a l) (hl : l.length = 128) (hN : N ≤ w.heap.size) (hB' : Bs M w a' m) (hm : m.length = 128) (hM : M ≤ w.heap.size) :
    Calls Try.prog 47 #[.slice a 128 cap, .slice a' 128 cap'] w fun e w' => e = .returned (.bool (decide (l = m))) ∧ w' = w.drew := by
  have hne : l ≠ [] := by intro h0; rw [h0] at hl; cases hl
  have hne' : m ≠ [] := by intro h0; rw [h0] at hm; cases hm
  obtain ⟨b, o, rfl, hb, -⟩ := hB.2.resolve_left hne
  obtain ⟨b', o', rfl, hb', -⟩ := hB'.2.resolve_left hne'
  have HE1 : Hid (∀ W, Chg [] w.drew W → (loadVar 107 ⟨b, o, none⟩).run Try.prog W = .ok (arrN .u8 l) W) := fun W hW => ((hB.mono hN).below ((Chg.undrew hW).below (Nat.le_refl _) (by simp))).arr128 hl
  have HE2 : Hid (∀ W, Chg [] w.drew W → (loadVar 107 ⟨b', o', none⟩).run Try.prog W = .ok (arrN .u8 m) W) := fun W hW => ((hB'.mono hM).below ((Chg.undrew hW).below (Nat.le_refl _) (by simp))).arr128 hm
  have hq : ∀ W, (binOp .eql 107 (arrN .u8 l) (arrN .u8 m)).run Try.prog W = .ok (.bool (l == m)) W := fun W => by
    have h2 : (Op.equal 107 (arrN .u8 l) (arrN .u8 m)).run Try.prog W = .ok (l == m) W := run_equal_arrN Try.underlying107 Try.underlying5 (by kernel_rfl) l m hl hm W
    unfold arrN at h2 ⊢
    simp only [binOp]
    simp [h2]
  have hgt : Try.prog.eqGuardType Try.prog.depth 107 = false := by kernel_rfl
  have heg : ∀ W, (eqGuard BinOp.eql 107 (.tmp 7) (.tmp 10) (arrN .u8 l) (arrN .u8 m)).run Try.prog W = .ok () W := fun W => by
    unfold arrN
    simp [eqGuard, hgt, go_sem]
  clear hgt
  have HQ : Hid ((l == m) = decide (l = m)) := by
    show _ = _
    rw [Bool.eq_iff_iff, beq_iff_eq, decide_eq_true_iff]
  clear hB hB' hne hne' hl hm hb hb' hN hM
  generalize decide (l = m) = D at *
  generalize (l == m) = E at *
  obtain rfl := HQ.out
  clear HQ
  generalize arrN .u8 l = A1 at *
  generalize arrN .u8 m = A2 at *
  have ha1 := arrAt128 b o cap
  have ha2 := arrAt128 b' o' cap'
  go_enter Try.func47, Try.ntmps47
  go_wp2_with fail
  refine wp_region_ordS [] [(0, true), (1, true), (2, true), (3, true), (4, true), (5, true), (6, true), (7, true)] (by kernel_rfl) (by kernel_rfl) (by kernel_rfl) (by kernel_rfl) ?_
  repeat (first | ((refine wpO_F rfl (by rfl) (fun w' hL => exec_load rfl rfl (HE1.out w' hL)) ?_); try simp only [Act.put, List.setIfInBounds_toArray, List.set_cons_zero, List.set_cons_succ]) | ((refine wpO_F rfl (by rfl) (fun w' hL => exec_load rfl rfl (HE2.out w' hL)) ?_); try simp only [Act.put, List.setIfInBounds_toArray, List.set_cons_zero, List.set_cons_succ]) | (refine wpO_F (v := ?_) rfl (by rfl) (fun w' hL => ?_) ?_; rotate_left; (solve | (go_simp; with_reducible rfl) | go_simp); try simp only [Act.put, List.setIfInBounds_toArray, List.set_cons_zero, List.set_cons_succ]) | (refine wpO_G' (Chg.refl _) rfl (by rfl) ?_; try simp only [Act.put, List.setIfInBounds_toArray, List.set_cons_zero, List.set_cons_succ]))
  refine wpO_nil ?_
  go_wp2
  go_ret
  exact ⟨rfl, rfl⟩
end Go.Proofs.Ythfgjkmfabmipaa

/- The walks of the writer's number and text. -/
set_option linter.unusedSimpArgs false
set_option linter.unusedVariables false
set_option maxRecDepth 100000
namespace Go.Proofs.Ythfgjkmfabmipaa
open Go.RowKit

/-- The cells of a page of which the bytes L are written. -/
def pageA (L : List Nat) : Array Value := putB (Array.replicate 512 (byteV 0)) 0 L

theorem pageA_size {L : List Nat} (h : L.length ≤ 512) : (pageA L).size = 512 := by
  unfold pageA
  rw [putB_size _ _ _ (by rw [Array.size_replicate]; omega), Array.size_replicate]

theorem pageA_list (L : List Nat) : (pageA L).toList = L.map byteV ++ List.replicate (512 - L.length) (byteV 0) := by
  unfold pageA putB
  rw [List.toList_toArray, Array.toList_replicate, List.take_zero, List.nil_append, List.drop_replicate, Nat.zero_add]

theorem pageA_more (L M : List Nat) (h : (L ++ M).length ≤ 512) : putB (pageA L) L.length M = pageA (L ++ M) := by
  apply Array.toList_inj.1
  rw [List.length_append] at h
  rw [pageA_list]
  unfold putB
  rw [pageA_list]
  rw [List.toList_toArray, List.take_append, List.drop_append, List.length_map, List.map_append, List.length_append]
  rw [List.take_of_length_le (by rw [List.length_map]; omega), List.drop_of_length_le (by rw [List.length_map]; omega), Nat.sub_self, List.take_zero, List.append_nil, List.nil_append, List.drop_replicate, List.append_assoc]
  congr 3
  omega

theorem pageA_byte (L : List Nat) (i : Nat) (h : L.length ≤ 512) (hi : i < 512) : ∃ d : Int, (pageA L)[i]? = some (.int .u8 d) := by
  have e : (pageA L)[i]? = (pageA L).toList[i]? := (Array.getElem?_toList ..).symm
  rw [e, pageA_list]
  by_cases h1 : i < L.length
  · rw [List.getElem?_append_left (by simpa using h1), List.getElem?_map, List.getElem?_eq_getElem h1]
    exact ⟨_, rfl⟩
  · rw [List.getElem?_append_right (by simpa using h1), List.getElem?_replicate, if_pos (by simp; omega)]
    exact ⟨_, rfl⟩

/-- 'b[k:m]' of a page, k below its end. -/
theorem cutPage (g k m : Nat) (hk : k < 512) (hkm : k ≤ m) (hm : m ≤ 512) (W : World) :
    (Instr.slice 30 (.slice (some ⟨g, 0, none⟩) 512 512) (some (.int .i64 (k : Int))) (some (.int .i64 (m : Int))) none).run Try.prog W = .ok (.slice (some ⟨g, k, none⟩) (m - k) (512 - k)) W := by
  have hu := Try.underlying30
  have ht' : Try.prog.underlying 30 = some (.slice (Try.prog.elem 30)) := by simp [Program.elem, hu]
  have hee : Try.prog.elem 30 = 5 := by simp [Program.elem, hu]
  rw [run_slice_lh (P := Try.prog) W 30 (some ⟨g, 0, none⟩) 512 512 ht' .i64 .i64 (k : Int) (m : Int) (by omega) (by omega) (by omega), hee, Try.sizeOf5]
  simp only [Result.andThen, sliced, Int.toNat_natCast]
  rw [if_neg (by omega)]
  simp [Addr.add]
  omega

theorem exec_copyS {P : Program} {o : Oper} {a : Act} {w w' : World} {d s : Operand} {dT sT : TypeId} (ho : o.op = .call { callee := .builtin .copy, args := #[d, s], argTypes := #[dT, sT] }) {vd vs v : Value} (hd : a.eval d = vd) (hs : a.eval s = vs)
    (h : (Builtin.copy_ #[dT, sT] o.type #[vd, vs]).run P w = .ok v w') : (execOp a.eval o).run P w = .ok (.value v) w' := by
  unfold execOp
  simp only [ho]
  simp [resolve, invoke, builtin, hd, hs, h, Sem.run_bind, Result.andThen]

/-- 'b[k:]' of a page, and 'copy' of a string into it. -/
theorem copyPage (g : Nat) (L : List Nat) (s : ByteArray) (h : L.length + s.size ≤ 512) : ∃ a, (∀ W, (Instr.slice 30 (.slice (some ⟨g, 0, none⟩) 512 512) (some (.int .i64 (L.length : Int))) none none).run Try.prog W = .ok (.slice a (512 - L.length) (512 - L.length)) W) ∧
    ∀ (w : World) (ty : TypeId), Blk w g 5 (pageA L) → ∃ w', (Builtin.copy_ #[30, 9] ty #[.slice a (512 - L.length) (512 - L.length), .string s]).run Try.prog w = .ok (.int .i64 (s.size : Int)) w' ∧ Blk w' g 5 (pageA (L ++ bytesOf s)) ∧ Chg [g] w w' := by
  have hu := Try.underlying30
  have ht' : Try.prog.underlying 30 = some (.slice (Try.prog.elem 30)) := by simp [Program.elem, hu]
  have hee : Try.prog.elem 30 = 5 := by simp [Program.elem, hu]
  have hlb : (L ++ bytesOf s).length ≤ 512 := by rw [List.length_append, bytesOf_len]; exact h
  have hrun : ∀ W, (Instr.slice 30 (.slice (some ⟨g, 0, none⟩) 512 512) (some (.int .i64 (L.length : Int))) none none).run Try.prog W = .ok (.slice (if L.length = 512 then some ⟨g, 0, none⟩ else some ⟨g, L.length, none⟩) (512 - L.length) (512 - L.length)) W := by
    intro W
    rw [run_slice_l (P := Try.prog) W 30 (some ⟨g, 0, none⟩) 512 512 ht' .i64 (L.length : Int) (by omega) (by omega), hee, Try.sizeOf5]
    simp only [Result.andThen, sliced, Int.toNat_natCast]
    by_cases h1 : L.length = 512
    · rw [if_pos h1.symm, if_pos h1]
    · rw [if_neg (by omega), if_neg h1]
      generalize L.length = k
      simp [Addr.add]
      omega
  by_cases h1 : L.length = 512
  · rw [if_pos h1] at hrun
    refine ⟨_, hrun, fun w ty hB => ⟨w, ?_, ?_, Chg.refl _ _⟩⟩
    · have h0 : s.size = 0 := by omega
      have := Lib.run_copy_empty_string (P := Try.prog) w 30 9 ty 5 (some ⟨g, 0, none⟩) (512 - L.length) (512 - L.length) s hu (by kernel_rfl) h0
      rw [this, h0]
      rfl
    · have h0 : bytesOf s = [] := List.length_eq_zero_iff.1 (by rw [bytesOf_len]; omega)
      rw [h0, List.append_nil]; exact hB
  · rw [if_neg h1] at hrun
    refine ⟨_, hrun, fun w ty hB => ⟨_, Lib.run_copy_row_string (P := Try.prog) w 30 9 ty 5 g L.length (512 - L.length) (512 - L.length) s (pageA L) 5 hu (by kernel_rfl) hB (by omega) (by rw [pageA_size (by omega)]; exact h), ?_, ?_⟩⟩
    · have := setRow_heap w g (pageA L) ((pageA L).toList.take L.length ++ Lib.byteCells s.data.toList ++ (pageA L).toList.drop (L.length + s.size)).toArray _ _ hB
      have e : ((pageA L).toList.take L.length ++ Lib.byteCells s.data.toList ++ (pageA L).toList.drop (L.length + s.size)).toArray = pageA (L ++ bytesOf s) := by
        rw [← pageA_more L (bytesOf s) hlb]
        unfold putB
        rw [bytesOf_len, List.append_assoc]
        rw [show (bytesOf s).map byteV = Lib.byteCells s.data.toList from by
          unfold Lib.byteCells bytesOf
          rw [List.map_map]
          rfl]
      rw [e] at this ⊢
      exact this
    · refine ⟨rfl, rfl, rfl, by simp [World.setRow], fun k _ hn => ?_⟩
      simp only [List.mem_singleton] at hn
      simp only [World.setRow, Array.getElem?_modify]
      rw [if_neg (by omega)]

end Go.Proofs.Ythfgjkmfabmipaa

/- Journal: cut, title, readTitle, Head, ReadHead, isDisk. -/
set_option linter.unusedSimpArgs false
set_option linter.unusedVariables false
set_option maxRecDepth 100000
namespace Go.Proofs.Ythfgjkmfabmipaa
open Go.RowKit

def titleL (p : Nat) : List Nat := ovr (zs 128) 0 (beL 4 p)
def headL (c p : Nat) : List Nat := ovr (ovr (ovr (zs 128) 0 [72, 83, 74, 49]) 4 (beL 4 c)) 8 (beL 4 p)
theorem titleL_len (p : Nat) : (titleL p).length = 128 := by unfold titleL; rw [ovr_len (by rw [beL_len, zs_len]; omega), zs_len]
theorem titleL_lt (p : Nat) : ∀ c ∈ titleL p, c < 256 := ovr_lt (zs_lt _) (beL_lt _ _)
theorem head1_len : (ovr (zs 128) 0 [72, 83, 74, 49]).length = 128 := by rw [ovr_len (by rw [zs_len]; simp), zs_len]
theorem head2_len (c : Nat) : (ovr (ovr (zs 128) 0 [72, 83, 74, 49]) 4 (beL 4 c)).length = 128 := by rw [ovr_len (by rw [beL_len, head1_len]; omega), head1_len]
theorem headL_len (c p : Nat) : (headL c p).length = 128 := by unfold headL; rw [ovr_len (by rw [beL_len, head2_len]; omega), head2_len]
theorem headL_lt (c p : Nat) : ∀ x ∈ headL c p, x < 256 := ovr_lt (ovr_lt (ovr_lt (zs_lt _) (by intro x hx; simp at hx; omega)) (beL_lt _ _)) (beL_lt _ _)

/-- A call hands back a sector that it made. -/
def RetSec' (w : World) (l : List Nat) (e : Ending) (w' : World) : Prop :=
  ∃ g, e = .returned (.slice (some ⟨g, 0, none⟩) 128 128) ∧ w.heap.size ≤ g ∧ Below w.heap.size w w' ∧ Blk w' g 5 (cellsA l)

theorem make128 (V : World) : (Instr.makeSlice 30 (.int .i64 128) (.int .i64 128)).run Try.prog V = .ok (.slice (some ⟨V.heap.size, 0, none⟩) 128 128) (V.alloc (.cells (cellsA (zs 128)) 5)) := by
  simpa using makeZ 128 (by omega) V
theorem cut04 (g : Nat) (W : World) : (Instr.slice 30 (.slice (some ⟨g, 0, none⟩) 128 128) none (some (.int .i64 4)) none).run Try.prog W = .ok (.slice (some ⟨g, 0, none⟩) 4 128) W := by
  simpa using cutFront g 128 4 (by omega) (by omega) (by omega) W
theorem cut48 (g : Nat) (W : World) : (Instr.slice 30 (.slice (some ⟨g, 0, none⟩) 128 128) (some (.int .i64 4)) (some (.int .i64 8)) none).run Try.prog W = .ok (.slice (some ⟨g, 4, none⟩) 4 124) W := by
  simpa using cutRow g 128 4 8 (by omega) (by omega) (by omega) (by omega) W
theorem cut812 (g : Nat) (W : World) : (Instr.slice 30 (.slice (some ⟨g, 0, none⟩) 128 128) (some (.int .i64 8)) (some (.int .i64 12)) none).run Try.prog W = .ok (.slice (some ⟨g, 8, none⟩) 4 120) W := by
  simpa using cutRow g 128 8 12 (by omega) (by omega) (by omega) (by omega) W

set_option maxRecDepth 100000 in
set_option maxHeartbeats 2000000 in
theorem title_any (p : Nat) (hp : p < 9223372036854775808) (w : World) : Calls Try.prog 79 #[.int .i64 (p : Int)] w (RetSec' w (titleL p)) := by
  obtain ⟨w0, hw0⟩ : ∃ w0, w.alloc (.cells (cellsA (zs 128)) 5) = w0 := ⟨_, rfl⟩
  have hB0 : Blk w0 w.heap.size 5 (cellsA (zs 128)) := by rw [← hw0]; exact Blk.new _ _ _
  have hb0 : Below w.heap.size w w0 := by rw [← hw0]; exact (Below.refl _ _).alloc (Nat.le_refl _) _
  have HP := Lib.hid (Put_any w.heap.size 0 4 128 p 5 (cellsA (zs 128)) w0 hB0 (by rw [cellsA_size, zs_len]; omega) (fun i _ h => cellsA_at _ i (by rw [zs_len]; omega)) (by omega) hp)
  have hmk : (Instr.makeSlice 30 (.int .i64 128) (.int .i64 128)).run Try.prog w = .ok (.slice (some ⟨w.heap.size, 0, none⟩) 128 128) w0 := by rw [make128 w, hw0]
  have hc := cut04 w.heap.size
  have HB := Lib.hid hb0
  clear hB0 hb0 hw0
  go_enter Try.func79, Try.ntmps79
  go_wp2_with fail
  refine HP.out.mono ?_
  rintro e w1 ⟨rfl, hB1, hc1⟩
  rw [putB_A] at hB1
  have HB1 := Lib.hid hB1
  have HBe := Lib.hid (HB.out.trans (hc1.below HB.out.size (by simp)))
  clear hB1 hc1 HP
  go_wp2
  go_ret
  exact ⟨w.heap.size, rfl, Nat.le_refl _, HBe.out, HB1.out⟩

/-- A page's number and whether a sector is its title. -/
def readTitleL (l : List Nat) : Nat × Bool := if valL (l.take 4) < 4096 ∧ l = titleL (valL (l.take 4)) then (valL (l.take 4), true) else (0, false)

theorem Bs.front {N : Nat} {w : World} {b o : Nat} {l : List Nat} (h : Bs N w (some ⟨b, o, none⟩) l) (m : Nat) : Bs N w (some ⟨b, o, none⟩) (l.take m) := by
  refine ⟨fun c hc => h.1 c (List.mem_of_mem_take hc), ?_⟩
  rcases h.2 with h2 | ⟨b', o', he, hN, hc⟩
  · exact .inl (by rw [h2]; simp)
  · exact .inr ⟨b', o', he, hN, fun i c hi => hc i c (by rw [List.getElem?_take] at hi; split at hi; exact hi; cases hi)⟩
theorem Bs.from_ {N : Nat} {w : World} {b o : Nat} {l : List Nat} (h : Bs N w (some ⟨b, o, none⟩) l) (k : Nat) : Bs N w (some ⟨b, o + k, none⟩) (l.drop k) := by
  refine ⟨fun c hc => h.1 c (List.mem_of_mem_drop hc), ?_⟩
  rcases h.2 with h2 | ⟨b', o', he, hN, hc⟩
  · exact .inl (by rw [h2]; simp)
  · injection he with he; injection he with e1 e2; subst e1 e2
    exact .inr ⟨b, o + k, rfl, hN, fun i c hi => by rw [Nat.add_assoc]; exact hc (k + i) c (by rw [List.getElem?_drop] at hi; exact hi)⟩

set_option maxRecDepth 100000 in
set_option maxHeartbeats 4000000 in
theorem readTitle_any (l : List Nat) (g N : Nat) (w : World) (hB : Bs N w (some ⟨g, 0, none⟩) l) (hN : N ≤ w.heap.size) (hl : l.length = 128) :
    Calls Try.prog 77 #[.slice (some ⟨g, 0, none⟩) 128 128] w fun e w' => e = .returned (.tuple #[.int .i64 ((readTitleL l).1 : Int), .bool (readTitleL l).2]) ∧ Below w.heap.size w w' := by
  have hv : valL (l.take 4) < 4294967296 := by
    have := valL_lt (l.take 4) (fun c hc => hB.1 c (List.mem_of_mem_take hc))
    rw [List.length_take, hl] at this
    simpa using this
  have HG := Lib.hid (getB_any (l.take 4) (some ⟨g, 0, none⟩) 4 128 N w (hB.front 4) (by rw [List.length_take, hl]; rfl) (by omega))
  have hR : readTitleL l = if valL (l.take 4) < 4096 ∧ l = titleL (valL (l.take 4)) then (valL (l.take 4), true) else (0, false) := rfl
  generalize valL (l.take 4) = v at *
  have hc := cut04 g
  have HPg := Lib.hid (fun W => isPage_any (v : Int) W)
  have HTt := Lib.hid (fun W => title_any v (by omega) W)
  by_cases hvp : v < 4096
  · have hp : pgB (v : Int) = true := by unfold pgB; simp; omega
    rw [hp] at HPg
    have HSm := Lib.hid (fun g' W (hb : Below w.heap.size w W) (h2 : Blk W g' 5 (cellsA (titleL v))) => jsame_any l (titleL v) (some ⟨g, 0, none⟩) (some ⟨g', 0, none⟩) 128 128 w.heap.size W.heap.size W ((hB.mono hN).below hb) hl hb.size (h2.bsA (titleL_lt v)) (titleL_len v) (Nat.le_refl _))
    obtain ⟨D, hD⟩ : ∃ D, decide (l = titleL v) = D := ⟨_, rfl⟩
    rw [hD] at HSm
    have HRD : Hid (readTitleL l = if D then (v, true) else (0, false)) := by
      show _ = _
      rw [hR, ← hD]
      by_cases h : l = titleL v <;> simp [h, hvp]
    clear hB hN hl hv hR hp hD
    go_enter Try.func77, Try.ntmps77
    go_wp2_with fail
    refine HG.out.mono ?_
    rintro e w1 ⟨rfl, rfl⟩
    clear HG
    go_wp2_with fail
    refine (HPg.out _).mono ?_
    rintro e w2 ⟨rfl, rfl⟩
    go_wp2_with fail
    refine (HTt.out _).mono ?_
    rintro e w3 ⟨g', rfl, hg', hb3, hB3⟩
    have HB3 := Lib.hid hb3
    have HS3 := Lib.hid (HSm.out g' w3 hb3 hB3)
    clear hg' hb3 hB3 HSm HTt HPg
    go_wp2_with fail
    refine HS3.out.mono ?_
    rintro e w4 ⟨rfl, rfl⟩
    clear HS3
    cases D with
    | true =>
      go_wp2
      go_ret2
      exact ⟨by rw [HRD.out]; rfl, HB3.out.drew⟩
    | false =>
      go_wp2
      go_ret2
      exact ⟨by rw [HRD.out]; rfl, HB3.out.drew⟩
  · have hp : pgB (v : Int) = false := by unfold pgB; simp; omega
    rw [hp] at HPg
    have HRD : Hid (readTitleL l = (0, false)) := by show _ = _; rw [hR, if_neg (fun h => hvp h.1)]
    clear hB hN hl hv hR hp HTt
    go_enter Try.func77, Try.ntmps77
    go_wp2_with fail
    refine HG.out.mono ?_
    rintro e w1 ⟨rfl, rfl⟩
    clear HG
    go_wp2_with fail
    refine (HPg.out _).mono ?_
    rintro e w2 ⟨rfl, rfl⟩
    go_wp2
    go_ret2
    exact ⟨by rw [HRD.out]; rfl, Below.refl _ _⟩

/-- What Head hands back. -/
def RetHd (w : World) (c p : Int) (e : Ending) (w' : World) : Prop :=
  Below w.heap.size w w' ∧ (((cntB c && cntB p) = false ∧ e = .returned (.tuple #[.slice none 0 0, .int .i64 1])) ∨
    ∃ g, (cntB c && cntB p) = true ∧ e = .returned (.tuple #[.slice (some ⟨g, 0, none⟩) 128 128, .int .i64 0]) ∧ w.heap.size ≤ g ∧ Blk w' g 5 (cellsA (headL c.toNat p.toNat)))
theorem copyMagic (w : World) (g : Nat) (hB : Blk w g 5 (cellsA (zs 128))) : ∃ w1, (∀ ty, (Builtin.copy_ #[30, 9] ty #[.slice (some ⟨g, 0, none⟩) 128 128, .string ⟨#[72, 83, 74, 49]⟩]).run Try.prog w = .ok (.int .i64 4) w1) ∧ Blk w1 g 5 (cellsA (ovr (zs 128) 0 [72, 83, 74, 49])) ∧ Chg [g] w w1 := by
  have hu := Try.underlying30
  have hsz : (cellsA (zs 128)).size = 128 := by rw [cellsA_size, zs_len]
  refine ⟨_, fun ty => Lib.run_copy_row_string (P := Try.prog) w 30 9 ty 5 g 0 128 128 ⟨#[72, 83, 74, 49]⟩ (cellsA (zs 128)) 5 hu (by kernel_rfl) hB (by decide) (by rw [hsz]; decide), ?_, ?_⟩
  · have := setRow_heap w g (cellsA (zs 128)) ((cellsA (zs 128)).toList.take 0 ++ Lib.byteCells [72, 83, 74, 49] ++ (cellsA (zs 128)).toList.drop (0 + 4)).toArray _ _ hB
    have e : ((cellsA (zs 128)).toList.take 0 ++ Lib.byteCells [72, 83, 74, 49] ++ (cellsA (zs 128)).toList.drop (0 + 4)).toArray = cellsA (ovr (zs 128) 0 [72, 83, 74, 49]) := by
      rw [← putB_A]
      unfold putB
      rw [List.append_assoc]
      rfl
    rw [e] at this
    exact this
  · refine ⟨rfl, rfl, rfl, by simp [World.setRow], fun k _ hn => ?_⟩
    simp only [List.mem_singleton] at hn
    exact setRow_other w g k _ hn

set_option maxRecDepth 100000 in
set_option maxHeartbeats 4000000 in
theorem head_any (c p : Int) (w : World) : Calls Try.prog 15 #[.int .i64 c, .int .i64 p] w (RetHd w c p) := by
  have HC := Lib.hid (fun W => isCount_any c W)
  have HP := Lib.hid (fun W => isCount_any p W)
  by_cases hc : cntB c = true
  · rw [hc] at HC
    by_cases hp : cntB p = true
    · rw [hp] at HP
      obtain ⟨c', rfl⟩ : ∃ n : Nat, c = n := ⟨c.toNat, by unfold cntB at hc; simp at hc; omega⟩
      obtain ⟨p', rfl⟩ : ∃ n : Nat, p = n := ⟨p.toNat, by unfold cntB at hp; simp at hp; omega⟩
      have hc4 : c' ≤ 4096 := by unfold cntB at hc; simp at hc; omega
      have hp4 : p' ≤ 4096 := by unfold cntB at hp; simp at hp; omega
      have hres : (cntB (c' : Int) && cntB (p' : Int)) = true := by rw [hc, hp]; rfl
      have HRes := Lib.hid hres
      obtain ⟨w0, hw0⟩ : ∃ w0, w.alloc (.cells (cellsA (zs 128)) 5) = w0 := ⟨_, rfl⟩
      have hB0 : Blk w0 w.heap.size 5 (cellsA (zs 128)) := by rw [← hw0]; exact Blk.new _ _ _
      have hb0 : Below w.heap.size w w0 := by rw [← hw0]; exact (Below.refl _ _).alloc (Nat.le_refl _) _
      obtain ⟨w1, hcp, hB1, hc1⟩ := copyMagic w0 _ hB0
      have HCp := Lib.hid hcp
      have HP1 := Lib.hid (Put_any w.heap.size 4 4 124 c' 5 _ w1 hB1 (by rw [cellsA_size, head1_len]; omega) (fun i _ h => cellsA_at _ i (by rw [head1_len]; omega)) (by omega) (by omega))
      have HP2 := Lib.hid (fun W (h : Blk W w.heap.size 5 (cellsA (ovr (ovr (zs 128) 0 [72, 83, 74, 49]) 4 (beL 4 c')))) => Put_any w.heap.size 8 4 120 p' 5 _ W h (by rw [cellsA_size, head2_len]; omega) (fun i _ h => cellsA_at _ i (by rw [head2_len]; omega)) (by omega) (by omega))
      have hmk : (Instr.makeSlice 30 (.int .i64 128) (.int .i64 128)).run Try.prog w = .ok (.slice (some ⟨w.heap.size, 0, none⟩) 128 128) w0 := by rw [make128 w, hw0]
      have hs1 := cut48 w.heap.size
      have hs2 := cut812 w.heap.size
      have HB := Lib.hid (hb0.trans (hc1.below hb0.size (by simp)))
      clear hB0 hb0 hw0 hB1 hc1 hc hp hres hcp
      go_enter Try.func15, Try.ntmps15
      go_wp2_with fail
      refine (HC.out _).mono ?_
      rintro e wx ⟨rfl, rfl⟩
      go_wp2_with fail
      refine (HP.out _).mono ?_
      rintro e wy ⟨rfl, rfl⟩
      go_wp2_with (first | (guard_target =~ wpList _ _ _ (Oper.mk _ (Op.call _) _ _ _ _ :: _) _ _; refine wpList_val rfl (exec_copyS rfl rfl rfl (HCp.out _)) ?_))
      refine HP1.out.mono ?_
      rintro e w2 ⟨rfl, hB2, hc2⟩
      rw [putB_A] at hB2
      have HB2 := Lib.hid (HB.out.trans (hc2.below HB.out.size (by simp)))
      have HQ := Lib.hid (HP2.out w2 hB2)
      clear hB2 hc2 HP1 HP2 hs1
      go_wp2_with fail
      refine HQ.out.mono ?_
      rintro e w3 ⟨rfl, hB3, hc3⟩
      rw [putB_A] at hB3
      have HB3 := Lib.hid (HB2.out.trans (hc3.below HB2.out.size (by simp)))
      have HK3 := Lib.hid hB3
      clear hB3 hc3 HQ hs2
      go_wp2
      go_ret2
      exact ⟨HB3.out, .inr ⟨_, HRes.out, rfl, Nat.le_refl _, HK3.out⟩⟩
    · have hp2 : cntB p = false := by simpa using hp
      rw [hp2] at HP
      have HRes : Hid ((cntB c && cntB p) = false) := by show _ = _; rw [hp2]; simp
      clear hc hp hp2
      go_enter Try.func15, Try.ntmps15
      go_wp2_with fail
      refine (HC.out _).mono ?_
      rintro e wx ⟨rfl, rfl⟩
      go_wp2_with fail
      refine (HP.out _).mono ?_
      rintro e wy ⟨rfl, rfl⟩
      go_wp2
      go_ret2
      exact ⟨Below.refl _ _, .inl ⟨HRes.out, rfl⟩⟩
  · have hc2 : cntB c = false := by simpa using hc
    rw [hc2] at HC
    have HRes : Hid ((cntB c && cntB p) = false) := by show _ = _; rw [hc2]; simp
    clear hc hc2
    go_enter Try.func15, Try.ntmps15
    go_wp2_with fail
    refine (HC.out _).mono ?_
    rintro e wx ⟨rfl, rfl⟩
    go_wp2
    go_ret2
    exact ⟨Below.refl _ _, .inl ⟨HRes.out, rfl⟩⟩
end Go.Proofs.Ythfgjkmfabmipaa

/- Journal: several writes one behind the other; cut, isDisk, entryAt, writeSectors, writeHead, WritePage. -/
set_option linter.unusedSimpArgs false
set_option linter.unusedVariables false
set_option maxRecDepth 100000
namespace Go.Proofs.Ythfgjkmfabmipaa
open Go.RowKit

/-- Room for n calls more. -/
def DS.room (d : DS) (n : Nat) : Prop := d.calls + n < 1000000000 ∧ d.pend.length + n < 1000000000
theorem DS.room.mono {d : DS} {n m : Nat} (h : d.room n) (hm : m ≤ n) : d.room m := ⟨by have := h.1; omega, by have := h.2; omega⟩
theorem change_room {d : DS} {n : Nat} (h : d.room (n + 1)) : d.change.1.calls + n < 1000000000 ∧ d.change.1.pend = d.pend := by
  obtain ⟨h1, h2⟩ := h
  unfold DS.change
  split
  · exact ⟨by simp only; omega, rfl⟩
  · exact ⟨by simp only; omega, rfl⟩
theorem write_room {d : DS} {n : Nat} (f s : Int) (b : List Nat) (h : d.room (n + 1)) : (d.write f s b).2.room n := by
  have hm : d.room n := h.mono (by omega)
  unfold DS.write
  split
  · exact hm
  · split
    · exact hm
    · split
      · exact hm
      · have hc := change_room h
        split
        · rename_i d' he
          rw [he] at hc
          exact ⟨hc.1, by show d'.pend.length + n < _; rw [hc.2]; exact hm.2⟩
        · rename_i d' he
          rw [he] at hc
          refine ⟨hc.1, ?_⟩
          show (d'.pend ++ [_]).length + n < _
          rw [List.length_append, hc.2, List.length_singleton]
          have := h.2; omega
theorem sync_room {d : DS} {n : Nat} (f : Int) (h : d.room (n + 1)) : (d.sync f).2.room n := by
  have hm : d.room n := h.mono (by omega)
  unfold DS.sync
  split
  · exact hm
  · split
    · exact hm
    · have hc := change_room h
      split
      · rename_i d' he
        rw [he] at hc
        exact ⟨hc.1, by show d'.pend.length + n < _; rw [hc.2]; exact hm.2⟩
      · rename_i d' he
        rw [he] at hc
        refine ⟨hc.1, ?_⟩
        show (d'.pend.filter _).length + n < _
        have := List.length_filter_le (fun x : Wr => x.f != f.toNat) d'.pend
        rw [hc.2] at this ⊢
        have := hm.2; omega

/-- A call behind one that went well. -/
def thenD (r : Nat × DS) (k : DS → Nat × DS) : Nat × DS := if r.1 = 0 then k r.2 else r
theorem thenD_ok {r : Nat × DS} {k : DS → Nat × DS} (h : r.1 = 0) : thenD r k = k r.2 := if_pos h
theorem thenD_bad {r : Nat × DS} {k : DS → Nat × DS} (h : r.1 ≠ 0) : thenD r k = r := if_neg h
/-- Sectors written one behind the other. -/
def DS.writes (d : DS) (f : Int) (at_ : Nat) : List (List Nat) → Nat × DS
  | [] => (0, d)
  | b :: r => thenD (d.write f at_ b) fun d' => d'.writes f (at_ + 1) r
theorem writes_app (f : Int) (M : List (List Nat)) : ∀ (L : List (List Nat)) (d : DS) (at_ : Nat), d.writes f at_ (L ++ M) = thenD (d.writes f at_ L) fun d' => d'.writes f (at_ + L.length) M
  | [], d, at_ => by simp [DS.writes, thenD]
  | b :: r, d, at_ => by
    simp only [List.cons_append, DS.writes]
    by_cases h : (d.write f at_ b).1 = 0
    · rw [thenD_ok h, thenD_ok h, writes_app f M r, List.length_cons]
      congr 1
      funext d'
      congr 1
      omega
    · rw [thenD_bad h, thenD_bad h, thenD_bad h]
theorem writes_room (f : Int) : ∀ (L : List (List Nat)) (d : DS) (at_ n : Nat), d.room (L.length + n) → (d.writes f at_ L).2.room n
  | [], d, at_, n, h => by simpa [DS.writes] using h
  | b :: r, d, at_, n, h => by
    simp only [DS.writes]
    have h1 : (d.write f at_ b).2.room (r.length + n) := write_room f at_ b (by rw [List.length_cons] at h; exact h.mono (by omega))
    by_cases h0 : (d.write f at_ b).1 = 0
    · rw [thenD_ok h0]; exact writes_room f r _ _ n h1
    · rw [thenD_bad h0]; exact h1.mono (by omega)
theorem writes_stop {d d' : DS} {f : Int} {at_ e k : Nat} {L : List (List Nat)} (h : d.writes f at_ (L.take k) = (e, d')) (he : e ≠ 0) : d.writes f at_ L = (e, d') := by
  rw [← List.take_append_drop k L, writes_app, h, thenD_bad he]

/-- Sector k of a page, and the four. -/
def sec (l : List Nat) (k : Nat) : List Nat := (l.drop (128 * k)).take 128
def secs (l : List Nat) : List (List Nat) := [sec l 0, sec l 1, sec l 2, sec l 3]
theorem secs_get (l : List Nat) (k : Nat) (h : k < 4) : (secs l)[k]? = some (sec l k) := by
  match k, h with
  | 0, _ => rfl
  | 1, _ => rfl
  | 2, _ => rfl
  | 3, _ => rfl
theorem secs_take (l : List Nat) (k : Nat) (h : k < 4) : (secs l).take (k + 1) = (secs l).take k ++ [sec l k] := by
  rw [List.take_add_one, secs_get l k h]; rfl
theorem sec_len (l : List Nat) (k : Nat) (hl : l.length = 512) (h : k < 4) : (sec l k).length = 128 := by unfold sec; rw [List.length_take, List.length_drop]; omega
theorem Bs.sec {N : Nat} {w : World} {b o : Nat} {l : List Nat} (h : Bs N w (some ⟨b, o, none⟩) l) (k : Nat) : Bs N w (some ⟨b, o + 128 * k, none⟩) (sec l k) := (h.from_ (128 * k)).front 128
theorem Bs.chgS {N : Nat} {w w' : World} {b o : Nat} {l : List Nat} {S : List Nat} (h : Bs N w (some ⟨b, o, none⟩) l) (hN : N ≤ w.heap.size) (hc : Chg S w w') (hn : b ∉ S) : Bs N w' (some ⟨b, o, none⟩) l := by
  refine ⟨h.1, ?_⟩
  rcases h.2 with h2 | ⟨b', o', ha, hb, hcell⟩
  · exact .inl h2
  · injection ha with ha; injection ha with e1 e2; subst e1 e2
    exact .inr ⟨b, o, rfl, hb, fun i c hi => (hc.cell (b := b) (by omega) hn).trans (hcell i c hi)⟩
theorem Bs.blk_lt {N : Nat} {w : World} {b o : Nat} {l : List Nat} (h : Bs N w (some ⟨b, o, none⟩) l) (hl : l ≠ []) : b < N := by
  obtain ⟨b', o', ha, hb, -⟩ := h.2.resolve_left hl
  injection ha with ha; injection ha with e1 e2; subst e1; exact hb

set_option maxHeartbeats 2000000 in
theorem cut_any (b o cap k : Nat) (hk : k < 4) (hc : 512 ≤ cap) (hcm : cap ≤ 9223372036854775807) (w : World) :
    Calls Try.prog 75 #[.slice (some ⟨b, o, none⟩) 512 cap, .int .i64 (k : Int)] w fun e w' => e = .returned (.slice (some ⟨b, o + 128 * k, none⟩) 128 128) ∧ w' = w := by
  have hu := Try.underlying30
  have ht' : Try.prog.underlying 30 = some (.slice (Try.prog.elem 30)) := by simp [Program.elem, hu]
  have hee : Try.prog.elem 30 = 5 := by simp [Program.elem, hu]
  have hs : ∀ W, (Instr.slice 30 (.slice (some ⟨b, o, none⟩) 512 cap) (some (.int .i64 ((k : Int) * 128))) (some (.int .i64 (((k : Int) + 1) * 128))) (some (.int .i64 (((k : Int) + 1) * 128)))).run Try.prog W = .ok (.slice (some ⟨b, o + 128 * k, none⟩) 128 128) W := by
    intro W
    rw [run_slice_lhm (P := Try.prog) W 30 (some ⟨b, o, none⟩) 512 cap ht' .i64 .i64 .i64 ((k : Int) * 128) (((k : Int) + 1) * 128) (((k : Int) + 1) * 128) (by omega) (by omega) (by omega) (by omega), hee, Try.sizeOf5]
    simp only [Result.andThen, sliced]
    have e1 : ((k : Int) * 128).toNat = k * 128 := by omega
    have e2 : (((k : Int) + 1) * 128).toNat = (k + 1) * 128 := by omega
    rw [e1, e2, if_neg (by omega)]
    have e3 : (k + 1) * 128 - k * 128 = 128 := by omega
    rw [e3]
    simp [Addr.add]
    by_cases hk0 : k = 0
    · subst hk0; rfl
    · rw [if_neg (by omega), Nat.mul_comm]
  have hw1 : IntKind.i64.wrap ((k : Int) * 128) = (k : Int) * 128 := IntWalk.i64_in _ ⟨by omega, by omega⟩
  have hw2 : IntKind.i64.wrap (((k : Int) + 1) * 128) = ((k : Int) + 1) * 128 := IntWalk.i64_in _ ⟨by omega, by omega⟩
  have hw3 : IntKind.i64.wrap ((k : Int) + 1) = (k : Int) + 1 := IntWalk.i64_in _ ⟨by omega, by omega⟩
  clear ht' hee hu
  go_enter Try.func75, Try.ntmps75
  go_wp2
  go_ret
  exact ⟨rfl, rfl⟩

theorem entryAt_any (i : Nat) (hi : i ≤ 100000) (w : World) : Calls Try.prog 76 #[.int .i64 (i : Int)] w fun e w' => e = .returned (.int .i64 ((1 + 5 * i : Nat) : Int)) ∧ w' = w := by
  go_enter Try.func76, Try.ntmps76
  go_wp2
  go_ret
  exact ⟨by go_num, rfl⟩

set_option maxHeartbeats 1000000 in
theorem isDisk_yes {w : World} {B : Nat} {S : List Nat} {d : DS} (h : IsDisk w B S d) : Calls Try.prog 49 #[.pointer (some ⟨B, 0, none⟩)] w fun e w' => e = .returned (.bool true) ∧ Below w.heap.size w w' := by
  have hr := DRead h (-1) 0
  rw [show d.read (-1) 0 = .error 1 from if_pos (.inl (.inl (by omega)))] at hr
  have HR := Lib.hid hr
  clear h hr
  go_enter Try.func49, Try.ntmps49
  go_wp2_with fail
  refine HR.out.mono ?_
  rintro e w1 ⟨hb, ⟨n, hn, rfl⟩ | ⟨b, g, hx, -⟩⟩
  · injection hn with hn
    subst hn
    have HB := Lib.hid hb
    clear hb HR
    go_wp2
    go_ret
    exact ⟨rfl, HB.out⟩
  · cases hx
theorem isDisk_no {w : World} {v : Value} (h : NoDisk w v) : Calls Try.prog 49 #[v] w fun e w' => e = .returned (.bool false) ∧ w' = w := by
  have HR := Lib.hid (Read_no h (-1) 0)
  clear h
  go_enter Try.func49, Try.ntmps49
  go_wp2_with fail
  refine HR.out.mono ?_
  rintro e w1 ⟨rfl, rfl⟩
  go_wp2
  go_ret
  exact ⟨rfl, rfl⟩

/-- A disk on its way: what it grew out of. -/
structure Way (w W : World) (B : Nat) (S S' : List Nat) (d : DS) : Prop where
  disk : IsDisk W B S' d
  chg : Chg S w W
  frsh : Frsh w S S'
theorem Way.new {w : World} {B : Nat} {S : List Nat} {d : DS} (h : IsDisk w B S d) : Way w w B S S d := ⟨h, Chg.refl _ _, Frsh.refl _ _⟩
theorem Way.step {w W W' : World} {B : Nat} {S S' S2 : List Nat} {d d' : DS} (h : Way w W B S S' d) (hd : IsDisk W' B S2 d') (hc : Chg S' W W') (hf : Frsh W S' S2) : Way w W' B S S2 d' :=
  ⟨hd, h.chg.trans' h.frsh hc, h.frsh.trans h.chg.size hf⟩
theorem Way.below {w W W' : World} {B : Nat} {S S' : List Nat} {d : DS} (h : Way w W B S S' d) (hb : Below W.heap.size W W') : Way w W' B S S' d :=
  ⟨h.disk.chg (T := []) (Below.chg0 hb []) (by simp), h.chg.trans' (S1 := S) (Frsh.refl _ _) ((Below.chg0 hb []).sub (by simp)), h.frsh⟩
theorem Way.ret {w W : World} {B : Nat} {S S' : List Nat} {d : DS} {r : Nat} (h : Way w W B S S' d) : RetI w B S (r, d) (.returned (.int .i64 (r : Int))) W := ⟨rfl, S', h.disk, h.chg, h.frsh⟩
theorem Way.far {w W : World} {B : Nat} {S S' : List Nat} {d : DS} (h : Way w W B S S' d) {b : Nat} (hb : b < w.heap.size) (hn : b ∉ S) : b ∉ S' := fun hm => by
  rcases h.frsh b hm with h1 | h1
  · exact hn h1
  · omega
theorem Way.bs {w W : World} {B : Nat} {S S' : List Nat} {d : DS} (h : Way w W B S S' d) {b o N : Nat} {l : List Nat} (hB : Bs N w (some ⟨b, o, none⟩) l) (hN : N ≤ w.heap.size) (hn : b ∉ S) : Bs N W (some ⟨b, o, none⟩) l := hB.chgS hN h.chg hn

set_option maxHeartbeats 4000000 in
theorem writeSectors_any {w : World} {B : Nat} {S : List Nat} {d : DS} (h : IsDisk w B S d) (f : Int) (at_ : Nat) (l : List Nat) (b o cap : Nat) (hB : Bs w.heap.size w (some ⟨b, o, none⟩) l) (hl : l.length = 512) (hc : 512 ≤ cap) (hcm : cap ≤ 9223372036854775807) (hS : b ∉ S) (hat : at_ ≤ 1000000) (hr : d.room 4) :
    Calls Try.prog 60 #[.pointer (some ⟨B, 0, none⟩), .int .i64 f, .int .i64 (at_ : Int), .slice (some ⟨b, o, none⟩) 512 cap] w (RetI w B S (d.writes f at_ (secs l))) := by
  have HB := Lib.hid hB
  have HW0 := Lib.hid (Way.new h)
  have HR := Lib.hid hr
  have HL := Lib.hid hl
  have HS := Lib.hid hS
  have HCt := Lib.hid (fun k (hk : k < 4) W => cut_any b o cap k hk hc hcm W)
  clear h hB hr hl hS hc hcm
  go_enter Try.func60, Try.ntmps60
  go_wp2
  go_loopw [11] (fun i wr => ∃ (k : Nat) (dk : DS) (S' : List Nat), k ≤ 4 ∧ i = .int .i64 (k : Int) ∧ Hid (d.writes f at_ ((secs l).take k) = (0, dk)) ∧ Hid (Way w wr B S S' dk) ∧ Hid (dk.room (4 - k))) (fun i _ => 4 - (intOf i).toNat)
  case atStart => exact ⟨0, d, S, by omega, rfl, rfl, HW0, HR⟩
  case round =>
    clear HW0 HR
    obtain ⟨k, dk, S', hk, rfl, HD, HW, HR⟩ := hrel
    by_cases hlt : k < 4
    · have HRk : Hid (dk.room (4 - (k + 1) + 1)) := HR.out.mono (by omega)
      have HWr := Lib.hid (DWrite HW.out.disk f ((at_ + k : Nat) : Int) (sec l k) (some ⟨b, o + 128 * k, none⟩) 128 128 w.heap.size ((HW.out.bs HB.out (Nat.le_refl _) HS.out).sec k) HW.out.chg.size (sec_len l k HL.out hlt).symm (by omega) (by have := HRk.out.1; omega) (by have := HRk.out.2; omega))
      have HRn := Lib.hid (write_room f ((at_ + k : Nat) : Int) (sec l k) HRk.out)
      have HNx : Hid (d.writes f at_ ((secs l).take (k + 1)) = dk.write f ((at_ + k : Nat) : Int) (sec l k)) := by
        show _ = _
        rw [secs_take l k hlt, writes_app, HD.out, thenD_ok rfl]
        have e : ((secs l).take k).length = k := by rw [List.length_take]; simp [secs]; omega
        rw [e]
        show thenD (dk.write f ((at_ + k : Nat) : Int) (sec l k)) (fun d' => (0, d')) = _
        by_cases h0 : (dk.write f ((at_ + k : Nat) : Int) (sec l k)).1 = 0
        · rw [thenD_ok h0, ← h0]
        · rw [thenD_bad h0]
      obtain ⟨⟨e, d2⟩, he⟩ : ∃ r, dk.write f ((at_ + k : Nat) : Int) (sec l k) = r := ⟨_, rfl⟩
      rw [he] at HWr HRn HNx
      have HC := Lib.hid (fun W => HCt.out k hlt W)
      have hw1 : IntKind.i64.wrap ((at_ : Int) + (k : Int)) = ((at_ + k : Nat) : Int) := by rw [show ((at_ + k : Nat) : Int) = (at_ : Int) + (k : Int) by omega]; exact IntWalk.i64_in _ ⟨by omega, by omega⟩
      clear he HRk
      go_wp2_with fail
      refine (HC.out _).mono ?_
      rintro e' w1 ⟨rfl, rfl⟩
      go_wp2_with fail
      refine HWr.out.mono ?_
      rintro e' w2 ⟨rfl, S2, hD2, hc2, hf2⟩
      have HW2 := Lib.hid (HW.out.step hD2 hc2 hf2)
      clear hD2 hc2 hf2 HWr HW HC
      by_cases h0 : e = 0
      · subst h0
        clear hw1
        go_wp2
        go_roundw
        case rel => exact ⟨k + 1, d2, S2, by omega, by go_num, HNx, HW2, HRn⟩
        case measure => simp [intOf]; omega
      · have q1 : ((e : Int) != 0) = true := by simp; omega
        have HE := Lib.hid (writes_stop HNx.out h0)
        clear hw1 HNx
        go_wp2
        (try rw [Exit.noGoto_ret])
        go_ret
        rw [HE.out]
        exact HW2.out.ret
    · have hk4 : k = 4 := by omega
      subst hk4
      have HE : Hid (d.writes f at_ (secs l) = (0, dk)) := HD.out
      go_wp2
      (try rw [Exit.noGoto_ret])
      go_ret
      rw [HE.out]
      exact HW.out.ret (r := 0)
end Go.Proofs.Ythfgjkmfabmipaa

/- Journal: entries in memory; isWrong, ContainsFunc; writeHead, WritePage, writeEntry, Clear. -/
set_option linter.unusedSimpArgs false
set_option linter.unusedVariables false
set_option maxRecDepth 100000
namespace Go.Proofs.Ythfgjkmfabmipaa
open Go.RowKit

/-- An entry: its page, and where its image lies. -/
structure En where
  p : Int
  a : Option Addr
  n : Nat
  c : Nat
  l : List Nat
def En.vals (e : En) : List Value := [.int .i64 e.p, .slice e.a e.n e.c]
def cellsE (L : List En) : List Value := cellsOf En.vals L
theorem cellsE_len (L : List En) : (cellsE L).length = L.length * 2 := cellsOf_len En.vals 2 (fun _ => rfl) L
def En.ok (e : En) : Bool := pgB e.p && decide (e.n = 512)
theorem enAt {N : Nat} {w : World} {a : Option Addr} {l : List En} (h : Arr N w a (cellsE l)) {k : Nat} (hk : k < l.length) : ∃ b o, a = some ⟨b, o, none⟩ ∧ b < N ∧
    w.cell? ⟨b, o + k * 2, none⟩ = some (.int .i64 l[k].p) ∧ w.cell? ⟨b, o + k * 2 + 1, none⟩ = some (.slice l[k].a l[k].n l[k].c) := by
  obtain ⟨b, o, ha, hb, hc⟩ := h.at_ (by intro h0; have := cellsE_len l; rw [h0] at this; simp at this; omega)
  have g := fun (j : Nat) (v : Value) (hv : (En.vals l[k])[j]? = some v) => hc _ _ (cellsOf_get En.vals 2 (fun _ => rfl) l k j l[k] v (List.getElem?_eq_getElem hk) hv)
  exact ⟨b, o, ha, hb, by simpa using g 0 _ rfl, by rw [Nat.add_assoc]; exact g 1 _ rfl⟩
/-- An image that lies outside of the disk. -/
structure EnIn (w : World) (S : List Nat) (e : En) : Prop where
  bs : Bs w.heap.size w e.a e.l
  len : e.n = e.l.length
  cap : e.n ≤ e.c
  max : e.c ≤ 9223372036854775807
  far : ∀ g, e.a = some g → g.block ∉ S ∧ g.block < w.heap.size

set_option maxHeartbeats 1000000 in
theorem jwrong_any (e : En) (w : World) : Calls Try.prog 56 #[.agg #[.int .i64 e.p, .slice e.a e.n e.c]] w fun e' w' => e' = .returned (.bool (!e.ok)) ∧ Below w.heap.size w w' := by
  obtain ⟨p, a, n, c, l⟩ := e
  have HP := Lib.hid (fun W => isPage_any p W)
  have HB : Hid (Below w.heap.size w (w.alloc (.cells #[.int .i64 p, .slice a n c] 63))) := (Below.refl _ w).alloc (Nat.le_refl _) _
  unfold En.ok
  dsimp only
  generalize pgB p = P at *
  cases P with
  | false =>
    go_enter Try.func56, Try.ntmps56
    go_wp2_with fail
    refine (HP.out _).mono ?_
    rintro e w1 ⟨rfl, rfl⟩
    go_wp2
    go_ret
    exact ⟨rfl, HB.out⟩
  | true =>
    by_cases hn : n = 512
    · subst hn
      go_enter Try.func56, Try.ntmps56
      go_wp2_with fail
      refine (HP.out _).mono ?_
      rintro e w1 ⟨rfl, rfl⟩
      go_wp2
      go_ret
      exact ⟨rfl, HB.out⟩
    · have q : ((n : Int) != 512) = true := by simp; omega
      rw [show decide (n = 512) = false by simpa using hn]
      clear hn
      go_enter Try.func56, Try.ntmps56
      go_wp2_with fail
      refine (HP.out _).mono ?_
      rintro e w1 ⟨rfl, rfl⟩
      go_wp2
      go_ret
      exact ⟨rfl, HB.out⟩

theorem allT {α : Type} (p : α → Bool) (l : List α) (k : Nat) (h : k < l.length) : (l.take (k + 1)).all p = ((l.take k).all p && p l[k]) := by
  rw [List.take_succ_eq_append_getElem h, List.all_append]; simp only [List.all_cons, List.all_nil, Bool.and_true]
theorem allF {α : Type} (p : α → Bool) (l : List α) (k : Nat) (h : k < l.length) (hk : p l[k] = false) : l.all p = false := by
  rw [List.all_eq_false]
  exact ⟨l[k], List.getElem_mem h, by simp [hk]⟩
def RetFj (w : World) (all : Bool) (e : Ending) (w' : World) : Prop := ∃ r : Int, e = .returned (.int .i64 r) ∧ (decide (0 ≤ r) = !all) ∧ -1 ≤ r ∧ Below w.heap.size w w'

set_option maxHeartbeats 1000000 in
theorem indexE_any (l : List En) (a : Option Addr) (len cap : Nat) (w : World) (hV : Arr w.heap.size w a (cellsE l)) (hlen : len = l.length) (hmax : len ≤ 140737488355328) :
    Calls Try.prog 78 #[.slice a len cap, .func (.func 56) #[] #[]] w (RetFj w (l.all En.ok)) := by
  have HV := Lib.hid hV
  have HL := Lib.hid hlen
  clear hV hlen
  go_enter Try.func78, Try.ntmps78
  go_wp2
  go_loopw [8] (fun i wr => ∃ k : Nat, k ≤ len ∧ i = .int .i64 k ∧ Hid ((l.take k).all En.ok = true) ∧ Below w.heap.size w wr) (fun i _ => len - (intOf i).toNat)
  case atStart => exact ⟨0, by omega, rfl, by simp [Hid], Below.refl _ _⟩
  case round =>
    obtain ⟨k, hk, rfl, HI, hb⟩ := hrel
    have hsz := hb.size
    by_cases hlt : k < len
    · have hkl : k < l.length := by have := HL.out; omega
      obtain ⟨b, o, rfl, hbN, c0, c1⟩ := enAt (HV.out.below hb) hkl
      obtain ⟨y, hy⟩ : ∃ y, y = l[k] := ⟨_, rfl⟩
      have HA := Lib.hid (allT En.ok l k hkl)
      have HF := Lib.hid (allF En.ok l k hkl)
      rw [← hy] at c0 c1 HA HF
      clear hy
      have HN := Lib.hid (fun W => jwrong_any y W)
      obtain ⟨r, hr⟩ : ∃ r, y.ok = r := ⟨_, rfl⟩
      rw [hr] at HN HA HF
      clear hr
      go_wp2_with fail
      refine (HN.out _).mono ?_
      rintro e w1 ⟨rfl, hb1⟩
      clear HN
      cases r with
      | true =>
        go_wp2
        go_roundw
        case rel => exact ⟨k + 1, by omega, by go_num, by rw [HA.out, HI.out]; rfl, hb.trans (Below.mono hb1 hsz)⟩
        case measure => simp [intOf]; omega
      | false =>
        go_wp2
        go_ret
        exact ⟨k, rfl, by rw [HF.out (by trivial)]; simp, by omega, hb.trans (Below.mono hb1 hsz)⟩
    · go_wp2
      go_ret
      have hk2 : l.take k = l := List.take_of_length_le (by have := HL.out; omega)
      have := HI.out
      rw [hk2] at this
      exact ⟨-1, rfl, by rw [this]; rfl, by omega, hb⟩
theorem containsE_any (l : List En) (a : Option Addr) (len cap : Nat) (w : World) (hV : Arr w.heap.size w a (cellsE l)) (hlen : len = l.length) (hmax : len ≤ 140737488355328) :
    Calls Try.prog 55 #[.slice a len cap, .func (.func 56) #[] #[]] w fun e w' => e = .returned (.bool (!(l.all En.ok))) ∧ Below w.heap.size w w' := by
  have HC := Lib.hid (indexE_any l a len cap w hV hlen hmax)
  clear hV hlen
  go_enter Try.func55, Try.ntmps55
  go_wp2_with fail
  refine HC.out.mono ?_
  rintro e w1 ⟨r, rfl, hr, hr1, hb⟩
  clear HC
  have HR := Lib.hid hr
  clear hr
  go_wp2
  go_ret
  refine ⟨?_, hb⟩
  rw [← HR.out]
  try rfl
  try simp

theorem Blk.keep {w w' : World} {g : Nat} {T : TypeId} {cs : Array Value} (h : Blk w g T cs) (hb : Below w.heap.size w w') : Blk w' g T cs := (hb.block _ h.lt).trans h
theorem Way.back {w w0 W : World} {B : Nat} {S S' : List Nat} {d : DS} (h : Way w0 W B S S' d) (hb : Below w.heap.size w w0) : Way w W B S S' d :=
  ⟨h.disk, ((Below.chg0 hb S)).trans h.chg, fun k hk => by
    rcases h.frsh k hk with h1 | h1
    · exact .inl h1
    · exact .inr (Nat.le_trans hb.size h1)⟩

/-- The head is written, for sure. -/
def DS.hseal (d : DS) (b : List Nat) : Nat × DS := thenD (d.write 1 0 b) fun d' => d'.sync 1
theorem seal_room {d : DS} {n : Nat} (b : List Nat) (h : d.room (n + 2)) : (d.hseal b).2.room n := by
  unfold DS.hseal
  have h1 := write_room 1 0 b (n := n + 1) h
  by_cases h0 : (d.write 1 0 b).1 = 0
  · rw [thenD_ok h0]; exact sync_room 1 h1
  · rw [thenD_bad h0]; exact h1.mono (by omega)

set_option maxHeartbeats 2000000 in
theorem writeHead_any {w : World} {B : Nat} {S : List Nat} {d : DS} (h : IsDisk w B S d) (l : List Nat) (a : Option Addr) (cap : Nat) (hB : Bs w.heap.size w a l) (hl : l.length = 128) (hr : d.room 2) :
    Calls Try.prog 58 #[.pointer (some ⟨B, 0, none⟩), .slice a 128 cap] w (RetI w B S (d.hseal l)) := by
  have HWr := Lib.hid (DWrite h 1 0 l a 128 cap w.heap.size hB (Nat.le_refl _) hl.symm (by omega) (by have := hr.1; omega) (by have := hr.2; omega))
  have HR1 := Lib.hid (write_room 1 0 l (n := 1) hr)
  have HW0 := Lib.hid (Way.new h)
  have HSl : Hid (d.hseal l = thenD (d.write 1 0 l) fun d' => d'.sync 1) := rfl
  obtain ⟨⟨e1, d1⟩, he1⟩ : ∃ r, d.write 1 0 l = r := ⟨_, rfl⟩
  rw [he1] at HWr HR1 HSl
  clear h hB hl hr he1
  go_enter Try.func58, Try.ntmps58
  go_wp2_with fail
  refine HWr.out.mono ?_
  rintro e w1 ⟨rfl, S1, hD1, hc1, hf1⟩
  have HW1 := Lib.hid (HW0.out.step hD1 hc1 hf1)
  clear hD1 hc1 hf1 HWr HW0
  by_cases h0 : e1 = 0
  · subst h0
    have HSy := Lib.hid (DSync HW1.out.disk 1 (by have := (show d1.room 1 from HR1.out).1; show d1.calls < _; omega))
    have HE : Hid (d.hseal l = d1.sync 1) := HSl.out
    obtain ⟨⟨e2, d2⟩, he2⟩ : ∃ r, d1.sync 1 = r := ⟨_, rfl⟩
    rw [he2] at HSy HE
    clear he2 HSl
    go_wp2_with fail
    refine HSy.out.mono ?_
    rintro e w2 ⟨rfl, S2, hD2, hc2, hf2⟩
    have HW2 := Lib.hid (HW1.out.step hD2 hc2 hf2)
    clear hD2 hc2 hf2
    go_wp2
    go_ret
    rw [HE.out]
    exact HW2.out.ret
  · have q1 : ((e1 : Int) != 0) = true := by simp; omega
    have HE : Hid (d.hseal l = (e1, d1)) := by show _ = _; rw [HSl.out, thenD_bad h0]
    clear h0
    go_wp2
    go_ret
    rw [HE.out]
    exact HW1.out.ret

/-- A page is written. -/
def DS.writePage (d : DS) (p : Int) (l : List Nat) : Nat × DS := if pgB p = true ∧ l.length = 512 then d.writes 0 (4 * p.toNat) (secs l) else (1, d)
set_option maxHeartbeats 2000000 in
theorem WritePage_any {w : World} {B : Nat} {S : List Nat} {d : DS} (h : IsDisk w B S d) (p : Int) (l : List Nat) (a : Option Addr) (n cap : Nat) (hB : Bs w.heap.size w a l) (hn : n = l.length) (hc : n ≤ cap) (hcm : cap ≤ 9223372036854775807) (hS : ∀ g, a = some g → g.block ∉ S) (hr : d.room 4) :
    Calls Try.prog 24 #[.pointer (some ⟨B, 0, none⟩), .int .i64 p, .slice a n cap] w (RetI w B S (d.writePage p l)) := by
  have HDk := Lib.hid (isDisk_yes h)
  have HP := Lib.hid (fun W => isPage_any p W)
  have HW0 := Lib.hid (Way.new h)
  by_cases hp : pgB p = true
  · rw [hp] at HP
    by_cases h5 : n = 512
    · subst h5
      obtain ⟨m, rfl⟩ : ∃ m : Nat, p = m := ⟨p.toNat, by unfold pgB at hp; simp at hp; omega⟩
      have hm : m < 4096 := by unfold pgB at hp; simp at hp; omega
      have hne : l ≠ [] := by intro h0; rw [h0] at hn; cases hn
      obtain ⟨b, o, rfl, hbN, -⟩ := hB.2.resolve_left hne
      have hbS := hS _ rfl
      have HWs := Lib.hid (fun W (hW : Way w W B S S d) (hb : Below w.heap.size w W) => writeSectors_any hW.disk 0 (4 * m) l b o cap ((hB.below hb).mono hb.size) hn.symm hc hcm hbS (by omega) hr)
      have HRes : Hid (d.writePage (m : Int) l = d.writes 0 (4 * m) (secs l)) := by show _ = _; unfold DS.writePage; rw [if_pos ⟨hp, hn.symm⟩, Int.toNat_natCast]
      obtain ⟨⟨e1, d1⟩, he1⟩ : ∃ r, d.writes 0 (4 * m) (secs l) = r := ⟨_, rfl⟩
      rw [he1] at HWs HRes
      clear h hB hn hc hcm hS hr hp hne hbN hbS he1
      go_enter Try.func24, Try.ntmps24
      go_wp2_with fail
      refine HDk.out.mono ?_
      rintro e w1 ⟨rfl, hb1⟩
      have HW1 := Lib.hid (HW0.out.below hb1)
      have HB1 := Lib.hid hb1
      clear hb1 HDk
      go_wp2_with fail
      refine (HP.out _).mono ?_
      rintro e w2 ⟨rfl, rfl⟩
      go_wp2_with fail
      refine (HWs.out _ HW1.out HB1.out).mono ?_
      rintro e w3 ⟨rfl, S3, hD3, hc3, hf3⟩
      have HW3 := Lib.hid (HW1.out.step hD3 hc3 hf3)
      clear hD3 hc3 hf3
      go_wp2
      go_ret
      rw [HRes.out]
      exact HW3.out.ret
    · have q : ((n : Int) != 512) = true := by simp; omega
      have HRes : Hid (d.writePage p l = (1, d)) := if_neg (fun hh => h5 (by rw [hn]; exact hh.2))
      clear h hB hn hc hcm hS hr hp h5
      go_enter Try.func24, Try.ntmps24
      go_wp2_with fail
      refine HDk.out.mono ?_
      rintro e w1 ⟨rfl, hb1⟩
      have HW1 := Lib.hid (HW0.out.below hb1)
      clear hb1 HDk
      go_wp2_with fail
      refine (HP.out _).mono ?_
      rintro e w2 ⟨rfl, rfl⟩
      go_wp2
      go_ret
      rw [HRes.out]
      exact HW1.out.ret (r := 1)
  · have hp2 : pgB p = false := by simpa using hp
    rw [hp2] at HP
    have HRes : Hid (d.writePage p l = (1, d)) := if_neg (fun hh => hp hh.1)
    clear h hB hn hc hcm hS hr hp hp2
    go_enter Try.func24, Try.ntmps24
    go_wp2_with fail
    refine HDk.out.mono ?_
    rintro e w1 ⟨rfl, hb1⟩
    have HW1 := Lib.hid (HW0.out.below hb1)
    clear hb1 HDk
    go_wp2_with fail
    refine (HP.out _).mono ?_
    rintro e w2 ⟨rfl, rfl⟩
    go_wp2
    go_ret
    rw [HRes.out]
    exact HW1.out.ret (r := 1)

/-- The sectors of an entry. -/
def En.secs (e : En) : List (List Nat) := titleL e.p.toNat :: Go.Proofs.Ythfgjkmfabmipaa.secs e.l
set_option maxHeartbeats 4000000 in
theorem writeEntry_any {w : World} {B : Nat} {S : List Nat} {d : DS} (h : IsDisk w B S d) (i : Nat) (hi : i ≤ 100000) (e : En) (hE : EnIn w S e) (hok : e.ok = true) (hr : d.room 5) :
    Calls Try.prog 57 #[.pointer (some ⟨B, 0, none⟩), .int .i64 (i : Int), .agg #[.int .i64 e.p, .slice e.a e.n e.c]] w (RetI w B S (d.writes 1 (1 + 5 * i) e.secs)) := by
  have HSc : Hid (d.writes 1 (1 + 5 * i) e.secs = thenD (d.write 1 ((1 + 5 * i : Nat) : Int) (titleL e.p.toNat)) fun d' => d'.writes 1 (1 + 5 * i + 1) (secs e.l)) := rfl
  obtain ⟨p, a, n, c, l⟩ := e
  obtain ⟨hB, hn, hcap, hmax, hfar⟩ := hE
  unfold En.ok at hok
  simp only [Bool.and_eq_true, decide_eq_true_eq] at hok
  obtain ⟨hp, rfl⟩ := hok
  dsimp only at hB hn hcap hmax hfar hp HSc ⊢
  obtain ⟨m, rfl⟩ : ∃ m : Nat, p = m := ⟨p.toNat, by unfold pgB at hp; simp at hp; omega⟩
  have hm : m < 4096 := by unfold pgB at hp; simp at hp; omega
  rw [Int.toNat_natCast] at HSc
  have hne : l ≠ [] := by intro h0; rw [h0] at hn; cases hn
  obtain ⟨b, o, rfl, hbN, -⟩ := hB.2.resolve_left hne
  obtain ⟨hbS, hbl⟩ := hfar _ rfl
  dsimp only at hbS hbl
  obtain ⟨w0, hw0⟩ : ∃ w0, w.alloc (.cells #[.int .i64 (m : Int), .slice (some ⟨b, o, none⟩) 512 c] 63) = w0 := ⟨_, rfl⟩
  have hX : Blk w0 w.heap.size 63 #[.int .i64 (m : Int), .slice (some ⟨b, o, none⟩) 512 c] := by rw [← hw0]; exact Blk.new _ _ _
  have hb0 : Below w.heap.size w w0 := by rw [← hw0]; exact (Below.refl _ _).alloc (Nat.le_refl _) _
  have HX := Lib.hid hX
  have HXS : Hid (w.heap.size ∉ S) := fun hmem => by have := h.lt _ hmem; omega
  have HW0 := Lib.hid (Way.new (h.chg (T := []) (Below.chg0 hb0 []) (by simp)))
  have HBs := Lib.hid ((hB.below hb0).mono hb0.size)
  have HBS := Lib.hid hbS
  have HN := Lib.hid hn
  have HEa := Lib.hid (fun W => entryAt_any i hi W)
  have HTt := Lib.hid (fun W => title_any m (by omega) W)
  have HRm := Lib.hid hr
  have HW00 := Lib.hid hw0
  have HB0 := Lib.hid hb0
  have HCap := Lib.hid hcap
  have HL : Hid (l.length = 512) := hn.symm
  have hblt0 : b < w0.heap.size := Nat.lt_of_lt_of_le hbl hb0.size
  clear h hB hn hp hfar hne hbN hr hX hb0 hw0 hcap hbS
  go_enter Try.func57, Try.ntmps57
  go_upto_region 1 with (fail)
  rw [HW00.out]
  have e0 : ∀ W, Chg S w0.drew W → W.cell? ⟨w.heap.size, 0, none⟩ = some (.int .i64 (m : Int)) := fun W hW => ((Chg.undrew hW).cell (b := w.heap.size) HX.out.lt HXS.out).trans ((HX.out.cell 0).trans rfl)
  refine wp_region_ordS S [(0, true), (1, true), (3, true), (4, true), (2, false), (5, false), (6, false), (7, true)] (by kernel_rfl) (by kernel_rfl) (by kernel_rfl) (by kernel_rfl) ?_
  repeat (first | (refine wpO_F (v := ?_) rfl (by rfl) (fun w' hL => ?_) ?_; rotate_left; (solve | (go_simp; with_reducible rfl) | go_simp); try simp only [Act.put, List.setIfInBounds_toArray, List.set_cons_zero, List.set_cons_succ]) | (refine wpO_G' (Chg.refl _) rfl (by rfl) ?_; try simp only [Act.put, List.setIfInBounds_toArray, List.set_cons_zero, List.set_cons_succ]))
  refine wpO_C rfl (by rfl) ?_
  go_simp
  refine (HEa.out _).mono ?_
  rintro e w1 ⟨rfl, rfl⟩
  refine ⟨Chg.refl _ _, ?_⟩
  try simp only [Act.put, List.setIfInBounds_toArray, List.set_cons_zero, List.set_cons_succ]
  repeat (first | (refine wpO_F (v := ?_) rfl (by rfl) (fun w' hL => ?_) ?_; rotate_left; (solve | (go_simp; with_reducible rfl) | go_simp); try simp only [Act.put, List.setIfInBounds_toArray, List.set_cons_zero, List.set_cons_succ]) | (refine wpO_G' (Chg.refl _) rfl (by rfl) ?_; try simp only [Act.put, List.setIfInBounds_toArray, List.set_cons_zero, List.set_cons_succ]))
  refine wpO_C rfl (by rfl) ?_
  go_simp
  refine (HTt.out _).mono ?_
  rintro e w2 ⟨g, rfl, hg, hb2, hK2⟩
  refine ⟨Below.chg0 hb2 S, ?_⟩
  try simp only [Act.put, List.setIfInBounds_toArray, List.set_cons_zero, List.set_cons_succ]
  have hb2' : Below w0.heap.size w0 w2 := Below.trans ((Below.refl _ _).drew) hb2
  have HW2 := Lib.hid (HW0.out.below hb2')
  have HWr := Lib.hid (DWrite HW2.out.disk 1 ((1 + 5 * i : Nat) : Int) (titleL m) (some ⟨g, 0, none⟩) 128 128 w2.heap.size (hK2.bsA (titleL_lt m)) (Nat.le_refl _) (titleL_len m).symm (by omega) (by have := HRm.out.1; omega) (by have := HRm.out.2; omega))
  have HR1 := Lib.hid (write_room 1 ((1 + 5 * i : Nat) : Int) (titleL m) (n := 4) HRm.out)
  have HX2 := Lib.hid (HX.out.keep hb2')
  obtain ⟨⟨e1, d1⟩, he1⟩ : ∃ r, d.write 1 ((1 + 5 * i : Nat) : Int) (titleL m) = r := ⟨_, rfl⟩
  rw [he1] at HWr HR1 HSc
  have HXl := Lib.hid HX.out.lt
  clear e0 hg hb2 hK2 hb2' he1 HX HW0
  repeat (first | (refine wpO_F (v := ?_) rfl (by rfl) (fun w' hL => ?_) ?_; rotate_left; (solve | (go_simp; with_reducible rfl) | go_simp); try simp only [Act.put, List.setIfInBounds_toArray, List.set_cons_zero, List.set_cons_succ]) | (refine wpO_G' (Chg.refl _) rfl (by rfl) ?_; try simp only [Act.put, List.setIfInBounds_toArray, List.set_cons_zero, List.set_cons_succ]))
  refine wpO_C rfl (by rfl) ?_
  go_simp
  refine (HWr.out).mono ?_
  rintro e w3 ⟨rfl, S3, hD3, hc3, hf3⟩
  refine ⟨hc3, ?_⟩
  try simp only [Act.put, List.setIfInBounds_toArray, List.set_cons_zero, List.set_cons_succ]
  have HX3 := Lib.hid (HX2.out.chg hc3 HXS.out)
  have HW3 := Lib.hid (HW2.out.step hD3 hc3 hf3)
  clear hD3 hc3 hf3 HWr HX2 HW2
  repeat (first | (refine wpO_F (v := ?_) rfl (by rfl) (fun w' hL => ?_) ?_; rotate_left; (solve | (go_simp; with_reducible rfl) | go_simp); try simp only [Act.put, List.setIfInBounds_toArray, List.set_cons_zero, List.set_cons_succ]) | (refine wpO_G' (Chg.refl _) rfl (by rfl) ?_; try simp only [Act.put, List.setIfInBounds_toArray, List.set_cons_zero, List.set_cons_succ]))
  refine wpO_nil ?_
  by_cases h0 : e1 = 0
  · subst h0
    have HXS3 : Hid (w.heap.size ∉ S3) := HW3.out.far HXl.out HXS.out
    have HBS3 : Hid (b ∉ S3) := HW3.out.far hblt0 HBS.out
    have HRes : Hid (d.writes 1 (1 + 5 * i) (En.secs ⟨(m : Int), some ⟨b, o, none⟩, 512, c, l⟩) = d1.writes 1 (1 + 5 * i + 1) (secs l)) := HSc.out
    have HWs := Lib.hid (fun W (hD : IsDisk W B S3 d1) (hB : Bs W.heap.size W (some ⟨b, o, none⟩) l) => writeSectors_any hD 1 (1 + 5 * i + 1) l b o c hB HL.out HCap.out hmax HBS3.out (by omega) HR1.out)
    have HDr : Hid (IsDisk w3.drew B S3 d1 ∧ Bs w3.drew.heap.size w3.drew (some ⟨b, o, none⟩) l) := ⟨HW3.out.disk.drew, ((HW3.out.bs HBs.out (Nat.le_refl _) HBS.out).mono HW3.out.chg.size).below (N := w3.heap.size) (Below.refl _ _).drew⟩
    obtain ⟨⟨e2, d2⟩, he2⟩ : ∃ r, d1.writes 1 (1 + 5 * i + 1) (secs l) = r := ⟨_, rfl⟩
    rw [he2] at HWs HRes
    have e1' : ∀ W, Chg S3 w3.drew W → W.cell? ⟨w.heap.size, 1, none⟩ = some (.slice (some ⟨b, o, none⟩) 512 c) := fun W hW => ((Chg.undrew hW).cell (b := w.heap.size) HX3.out.lt HXS3.out).trans ((HX3.out.cell 1).trans rfl)
    have hw1 : IntKind.i64.wrap (((1 + 5 * i : Nat) : Int) + 1) = ((1 + 5 * i + 1 : Nat) : Int) := by rw [show ((1 + 5 * i + 1 : Nat) : Int) = ((1 + 5 * i : Nat) : Int) + 1 by omega]; exact IntWalk.i64_in _ ⟨by omega, by omega⟩
    generalize 1 + 5 * i + 1 = at2 at *
    generalize 1 + 5 * i = at1 at *
    clear he2 HSc
    go_wp2_with fail
    refine wp_region_ordS S3 [(0, true), (1, true), (4, true), (5, true), (2, false), (3, true), (6, false), (7, true)] (by kernel_rfl) (by kernel_rfl) (by kernel_rfl) (by kernel_rfl) ?_
    repeat (first | (refine wpO_F (v := ?_) rfl (by rfl) (fun w' hL => ?_) ?_; rotate_left; (solve | (go_simp; with_reducible rfl) | go_simp); try simp only [Act.put, List.setIfInBounds_toArray, List.set_cons_zero, List.set_cons_succ]) | (refine wpO_G' (Chg.refl _) rfl (by rfl) ?_; try simp only [Act.put, List.setIfInBounds_toArray, List.set_cons_zero, List.set_cons_succ]))
    refine wpO_C rfl (by rfl) ?_
    go_simp
    refine (HEa.out _).mono ?_
    rintro e w4 ⟨rfl, rfl⟩
    refine ⟨Chg.refl _ _, ?_⟩
    try simp only [Act.put, List.setIfInBounds_toArray, List.set_cons_zero, List.set_cons_succ]
    repeat (first | (refine wpO_F (v := ?_) rfl (by rfl) (fun w' hL => ?_) ?_; rotate_left; (solve | (go_simp; with_reducible rfl) | go_simp); try simp only [Act.put, List.setIfInBounds_toArray, List.set_cons_zero, List.set_cons_succ]) | (refine wpO_G' (Chg.refl _) rfl (by rfl) ?_; try simp only [Act.put, List.setIfInBounds_toArray, List.set_cons_zero, List.set_cons_succ]))
    clear e1' hw1
    refine wpO_C rfl (by rfl) ?_
    go_simp
    refine (HWs.out _ HDr.out.1 HDr.out.2).mono ?_
    rintro e w5 ⟨rfl, S5, hD5, hc5, hf5⟩
    refine ⟨hc5, ?_⟩
    try simp only [Act.put, List.setIfInBounds_toArray, List.set_cons_zero, List.set_cons_succ]
    have HW5 := Lib.hid ((HW3.out.step (HW3.out.disk.drew) (Chg.refl _ _).drew (Frsh.refl _ _)).step hD5 hc5 hf5)
    clear hD5 hc5 hf5 HWs
    repeat (first | (refine wpO_F (v := ?_) rfl (by rfl) (fun w' hL => ?_) ?_; rotate_left; (solve | (go_simp; with_reducible rfl) | go_simp); try simp only [Act.put, List.setIfInBounds_toArray, List.set_cons_zero, List.set_cons_succ]) | (refine wpO_G' (Chg.refl _) rfl (by rfl) ?_; try simp only [Act.put, List.setIfInBounds_toArray, List.set_cons_zero, List.set_cons_succ]))
    refine wpO_nil ?_
    go_wp2
    go_ret
    rw [HRes.out]
    exact (HW5.out.back HB0.out).ret
  · have q1 : ((e1 : Int) != 0) = true := by simp; omega
    have HRes : Hid (d.writes 1 (1 + 5 * i) (En.secs ⟨(m : Int), some ⟨b, o, none⟩, 512, c, l⟩) = (e1, d1)) := by show _ = _; rw [HSc.out, thenD_bad h0]
    clear h0
    go_wp2
    go_ret
    rw [HRes.out]
    exact (HW3.out.back HB0.out).ret
end Go.Proofs.Ythfgjkmfabmipaa
