/- Several texts of one proof, one behind the other. -/
import Derived.Test.YtlcphgomhhejbaaNPk1
import Derived.Laws.OwnMore
import Derived.Laws.BitsAllLaws
import Derived.WalkKit
set_option linter.unusedSimpArgs false
set_option linter.unusedVariables false

/- 'append(s, t...)' of a row of the call's own and any slice, nil or not. -/
namespace Go.Proofs.Ytlcphgomhhejbaa
open Go.RowKit

section
variable {P : Program}

theorem run_appNil (w : World) (base : Nat) (t ty e : TypeId) (i : TypeInfo) (z : Nat) (ht : P.underlying t = some (.slice e)) (hi : P.info? e = some i)
    (v : Value) (n : Nat) (l : List Value) (hown : w.ownsRow base e z v n l) (c : Nat) : (Builtin.append_ #[t, t] ty #[v, .slice none 0 c]).run P w = .ok v w := by
  obtain ⟨_, h⟩ := hown
  rcases h with ⟨rfl, _⟩ | ⟨g, cap, cur, rfl, _, _, hnc, _⟩ <;> simp [Builtin.append_, run_underlying ht, sizeOf, typeInfo, hi, Builtin.lenOf, Builtin.firstCells, storeCells, *]

theorem run_appS (w : World) (base : Nat) (t ty e : TypeId) (i : TypeInfo) (zr : Value) (z bytes : Nat) (ht : P.underlying t = some (.slice e)) (hi : P.info? e = some i) (hz : i.zero = some zr) (hzs : zr.cells.size = z)
    (hsize : i.size = z) (hz0 : 0 < z) (hby : i.bytes = bytes) (hb100 : bytes ≤ 100)
    (v : Value) (n : Nat) (l : List Value) (hown : w.ownsRow base e z v n l) (N : Nat) (A : Option Addr) (m c : Nat) (news : List Value) (hA : Arr N w A news) (hl : news.length = m * z) (h1 : ∀ u ∈ news, u.oneCell' = true)
    (hlen : n + m < 1000000000000) (hbase : base ≤ w.heap.size) :
    ∃ v' w', (Builtin.append_ #[t, t] ty #[v, .slice A m c]).run P w = .ok v' w' ∧ w'.ownsRow base e z v' (n + m) (l ++ news) ∧ w.grownBy w' v.ownBlock := by
  have hby2 : (n + m) * bytes ≤ 140737488355328 := by
    have : (n + m) * bytes ≤ 1000000000000 * 100 := Nat.mul_le_mul (by omega) hb100
    omega
  cases A with
  | none =>
    have hn : news = [] := by
      rcases hA with h | ⟨b, o, h, _⟩
      · exact h
      · cases h
    subst hn
    have hm : m = 0 := by
      rcases Nat.eq_zero_or_pos m with h0 | h0
      · exact h0
      · have := Nat.mul_pos h0 hz0
        simp at hl; omega
    subst hm
    exact ⟨v, w, run_appNil w base t ty e i z ht hi v n l hown c, by simpa using hown, World.grownBy.refl w _⟩
  | some ad =>
    obtain ⟨v', w', h2, h3, h4, _⟩ := run_append_own (P := P) w base t ty e i zr z bytes ht hi hz hsize hby hzs hz0 v n l hown ad m c news hl (fun j u hu => by
      rcases hA with h | ⟨b, o, h, _, hc⟩
      · rw [h] at hu; simp at hu
      · simp only [Option.some.injEq] at h
        subst h
        have e1 : (⟨b, o, none⟩ : Addr).add j = ⟨b, o + j, none⟩ := by unfold Addr.add; split <;> simp_all
        rw [e1]; exact hc j u hu) h1 (by unfold maxLen; omega) hby2 hbase
    exact ⟨v', w', h2, h3, h4⟩

theorem wp_appS {o : Oper} {a : Act} {K : Act → World → Prop} {Q : Exit → Act → World → Prop} (s x : Operand) (t : TypeId)
    (ho : o.op = .call { callee := .builtin .append, args := #[s, x], argTypes := #[t, t] })
    (base : Nat) (e : TypeId) (i : TypeInfo) (zr : Value) (z bytes : Nat) (ht : P.underlying t = some (.slice e)) (hi : P.info? e = some i) (hz : i.zero = some zr) (hzs : zr.cells.size = z)
    (hsize : i.size = z) (hz0 : 0 < z) (hby : i.bytes = bytes) (hb100 : bytes ≤ 100)
    (v : Value) (n : Nat) (l : List Value) (w : World) (hown : w.ownsRow base e z v n l) (hs : a.eval s = v) (N : Nat) (A : Option Addr) (m c : Nat) (news : List Value) (hA : Arr N w A news) (hl : news.length = m * z) (h1 : ∀ u ∈ news, u.oneCell' = true)
    (hx : a.eval x = .slice A m c) (hlen : n + m < 1000000000000) (hbase : base ≤ w.heap.size)
    (h : ∀ v' w', w'.ownsRow base e z v' (n + m) (l ++ news) → Chg v.ownBlock.toList w w' → Below base w w' → K (a.put o.dst v') w') :
    o.wp P a w K Q := by
  obtain ⟨v', w', hrun, h2, h3⟩ := run_appS (P := P) w base t o.type e i zr z bytes ht hi hz hzs hsize hz0 hby hb100 v n l hown N A m c news hA hl h1 hlen hbase
  unfold Oper.wp execOp
  simp only [ho, resolve, invoke, builtin, Sem.run_bind, Sem.run_pure, Result.andThen_ok, List.map_toArray, List.map_cons, List.map_nil, hs, hx, hrun]
  refine h v' w' h2 ⟨h3.os, h3.tape, h3.output, h3.size, fun k hk hn => h3.block k hk (by intro he; apply hn; rw [Option.mem_toList]; exact he.symm)⟩ ?_
  exact (Below.refl base w).grown h3 hbase (fun j hj => (hown.lt j hj).1)

theorem wpList_appS {ops : Array Oper} {rest : List Oper} {o : Oper} {a : Act} {Q : Exit → Act → World → Prop} (hgd : o.guard = none) (s x : Operand) (t : TypeId)
    (ho : o.op = .call { callee := .builtin .append, args := #[s, x], argTypes := #[t, t] })
    (base : Nat) (e : TypeId) (i : TypeInfo) (zr : Value) (z bytes : Nat) (ht : P.underlying t = some (.slice e)) (hi : P.info? e = some i) (hz : i.zero = some zr) (hzs : zr.cells.size = z)
    (hsize : i.size = z) (hz0 : 0 < z) (hby : i.bytes = bytes) (hb100 : bytes ≤ 100)
    (v : Value) (n : Nat) (l : List Value) (w : World) (hown : w.ownsRow base e z v n l) (hs : a.eval s = v) (N : Nat) (A : Option Addr) (m c : Nat) (news : List Value) (hA : Arr N w A news) (hl : news.length = m * z) (h1 : ∀ u ∈ news, u.oneCell' = true)
    (hx : a.eval x = .slice A m c) (hlen : n + m < 1000000000000) (hbase : base ≤ w.heap.size)
    (h : ∀ v' w', w'.ownsRow base e z v' (n + m) (l ++ news) → Chg v.ownBlock.toList w w' → Below base w w' → wpList P ops Q rest (a.put o.dst v') w') :
    wpList P ops Q (o :: rest) a w :=
  wpList_plain hgd fun _ hK => wp_appS s x t ho base e i zr z bytes ht hi hz hzs hsize hz0 hby hb100 v n l w hown hs N A m c news hA hl h1 hx hlen hbase fun v' w' h2 h3 h4 => hK _ _ (h v' w' h2 h3 h4)
end

/-- The cells of bytes. -/
def cellsU (l : List Nat) : List Value := l.map fun (c : Nat) => Value.int .u8 (c : Int)
theorem cellsU_len (l : List Nat) : (cellsU l).length = l.length * 1 := by simp [cellsU]
theorem one_B (l : List Nat) : ∀ u ∈ cellsU l, u.oneCell' = true := by
  intro u hu
  obtain ⟨c, _, rfl⟩ := List.mem_map.1 hu
  rfl
theorem Bs.arr {N : Nat} {w : World} {a : Option Addr} {l : List Nat} (h : Bs N w a l) : Arr N w a (cellsU l) := by
  rcases h.2 with h2 | ⟨b, o, ha, hN, hc⟩
  · exact .inl (by rw [h2]; rfl)
  · refine .inr ⟨b, o, ha, hN, fun i v hi => ?_⟩
    unfold cellsU at hi
    rw [List.getElem?_map] at hi
    cases hl : l[i]? with
    | none => rw [hl] at hi; simp at hi
    | some c => rw [hl] at hi; simp at hi; subst hi; exact hc i c hl
theorem Arr.bs {N : Nat} {w : World} {a : Option Addr} {l : List Nat} (h : Arr N w a (cellsU l)) (hl : ∀ c ∈ l, c < 256) : Bs N w a l := by
  refine ⟨hl, ?_⟩
  rcases h with h2 | ⟨b, o, ha, hN, hc⟩
  · left
    cases l with
    | nil => rfl
    | cons x r => simp [cellsU] at h2
  · exact .inr ⟨b, o, ha, hN, fun i c hi => hc i _ (by unfold cellsU; rw [List.getElem?_map, hi]; rfl)⟩
end Go.Proofs.Ytlcphgomhhejbaa

/- Plain mathematics of layer 1: the bytes of an integer, and what bytes are an integer's. -/
namespace Go.Proofs.Ytlcphgomhhejbaa

/-- The bytes of v: seven bits a byte, the least first; all but the last have the eighth bit. -/
def putL (v : Nat) : List Nat := if v < 128 then [v] else (v % 128 + 128) :: putL (v / 128)
termination_by v

theorem putL_small {v : Nat} (h : v < 128) : putL v = [v] := by rw [putL, if_pos h]
theorem putL_step {v : Nat} (h : ¬ v < 128) : putL v = (v % 128 + 128) :: putL (v / 128) := by rw [putL, if_neg h]

theorem putL_byte : ∀ (v : Nat), ∀ c ∈ putL v, c < 256 := by
  intro v
  induction v using putL.induct with
  | case1 v h => rw [putL_small h]; intro c hc; simp at hc; omega
  | case2 v h ih =>
    rw [putL_step h]; intro c hc
    simp at hc
    rcases hc with hc | hc
    · omega
    · exact ih c hc

theorem putL_pos (v : Nat) : 1 ≤ (putL v).length := by
  rw [putL]; split <;> simp

/-- Of a number below 128^n at most n bytes. -/
theorem putL_len : ∀ (n v : Nat), v < 128 ^ (n + 1) → (putL v).length ≤ n + 1
  | 0, v, h => by rw [putL_small (by simpa using h)]; simp
  | n + 1, v, h => by
    by_cases hv : v < 128
    · rw [putL_small hv]; simp
    · rw [putL_step hv]
      have : v / 128 < 128 ^ (n + 1) := by
        rw [Nat.div_lt_iff_lt_mul (by omega)]
        rw [Nat.pow_succ] at h; exact h
      have := putL_len n (v / 128) this
      simp; omega

theorem putL_len10 {v : Nat} (h : v < 18446744073709551616) : (putL v).length ≤ 10 :=
  putL_len 9 v (Nat.lt_trans h (by decide))

theorem putL_mono : ∀ (a b : Nat), a ≤ b → (putL a).length ≤ (putL b).length := by
  intro a
  induction a using putL.induct with
  | case1 a h => intro b _; rw [putL_small h]; exact putL_pos b
  | case2 a h ih =>
    intro b hab
    rw [putL_step h, putL_step (by omega : ¬ b < 128)]
    have := ih (b / 128) (Nat.div_le_div_right hab)
    simp; omega

/-- What stands at a list of bytes: the integer, how many bytes it has, and the error (0: none; 3: ErrForm; 10: ErrShort). i: how many bytes have gone by; v: what they make. -/
def getS : List Nat → Nat → Nat → Nat × Nat × Nat
  | [], _, _ => (0, 0, 10)
  | c :: r, i, v =>
    if i = 9 ∧ 1 < c then (0, 0, 3)
    else if 0 < i ∧ c = 0 then (0, 0, 3)
    else if c < 128 then (v + c * 128 ^ i, i + 1, 0)
    else getS r (i + 1) (v + (c - 128) * 128 ^ i)

/-- The answer of Get at index 'at'. -/
def getR (l : List Nat) (at_ : Int) : Nat × Int × Nat :=
  if at_ < 0 ∨ (l.length : Int) < at_ then (0, 0, 1)
  else
    let r := getS (l.drop at_.toNat) 0 0
    if r.2.2 = 0 then (r.1, at_ + r.2.1, 0) else (0, 0, r.2.2)

theorem pow7 (i : Nat) : 2 ^ (7 * i) = 128 ^ i := by rw [Nat.pow_mul]

/-- 'c & 127' of a byte. -/
theorem and127 (c : Nat) (h : c < 256) : bits .and .u8 (c : Int) 127 = ((c % 128 : Nat) : Int) := by
  have := u8_and_nat c 127 h (by omega)
  rw [nat_mask7] at this; exact this

/-- 'byte(v) | 128'. -/
theorem or128 (v : Nat) : bits .or .u8 ((v : Int) % 256) 128 = (((v % 128 + 128 : Nat)) : Int) := by
  have h := u8_or_nat (v % 256) 128 (Nat.mod_lt _ (by omega)) (by omega)
  have e : v % 256 ||| 128 = v % 128 + 128 := by
    by_cases hb : v % 256 < 128
    · rw [Nat.or_comm, nat_join 7 128 (v % 256) (by decide) (by omega)]; omega
    · have e1 : v % 256 = 128 + v % 128 := by omega
      have e2 : 128 + v % 128 = 128 ||| (v % 128) := (nat_join 7 128 (v % 128) (by decide) (by omega)).symm
      rw [e1, e2]
      rw [Nat.or_comm, ← Nat.or_assoc, Nat.or_self, ← e2]; omega
  rw [e] at h
  rw [← h]; congr 1

/-- 'v | x << (7 * i)' where v lies below the shift. -/
theorem orShift (v x i : Nat) (hv : v < 128 ^ i) (hs : v + x * 128 ^ i < 18446744073709551616) : bits .or .u64 (v : Int) ((x * 128 ^ i : Nat) : Int) = ((v + x * 128 ^ i : Nat) : Int) := by
  have h := u64_or_nat v (x * 128 ^ i) (by omega) (by omega)
  rw [h, Nat.or_comm, nat_join (7 * i) (x * 128 ^ i) v (by rw [pow7]; exact Nat.mul_mod_left x (128 ^ i)) (by rw [pow7]; exact hv)]
  congr 1; omega

/-- 'x << (7 * i)' of a uint64, by a number of its own; and 'v | x << (7 * i)'. -/
theorem shiftOr (c k V : Nat) (hk : k ≤ 9) (hV : V < 128 ^ k) : ∃ X Y : Nat, IntKind.u64.wrap ((c : Int) % 128 * 2 ^ (7 * k)) = (X : Int) ∧
    bits .or .u64 (V : Int) (X : Int) = (Y : Int) ∧ Y < 18446744073709551616 ∧ (c % 128 * 128 ^ k + V < 18446744073709551616 → Y = V + c % 128 * 128 ^ k) := by
  have hp : 128 ^ k ≤ 128 ^ 9 := Nat.pow_le_pow_right (by omega) hk
  have hVs : V < 18446744073709551616 := by
    have : (128 : Nat) ^ 9 = 9223372036854775808 := by decide
    omega
  have hXlt : c % 128 * 128 ^ k % 18446744073709551616 < 18446744073709551616 := Nat.mod_lt _ (by omega)
  have hor : bits .or .u64 (V : Int) ((c % 128 * 128 ^ k % 18446744073709551616 : Nat) : Int) = _ := u64_or_nat V _ hVs hXlt
  refine ⟨c % 128 * 128 ^ k % 18446744073709551616, _, ?_, hor, ?_, ?_⟩
  · rw [IntKind.wrap_u64, show ((2 : Int) ^ (7 * k)) = ((2 ^ (7 * k) : Nat) : Int) from by simp, pow7]
    have e2 : ((c : Int) % 128) * ((128 ^ k : Nat) : Int) = ((c % 128 * 128 ^ k : Nat) : Int) := by rw [Int.natCast_mul]; rfl
    rw [e2]; omega
  · exact Nat.or_lt_two_pow (n := 64) hVs hXlt
  · intro hs
    have e : c % 128 * 128 ^ k % 18446744073709551616 = c % 128 * 128 ^ k := Nat.mod_eq_of_lt (by omega)
    rw [e, Nat.or_comm, nat_join (7 * k) (c % 128 * 128 ^ k) V (by rw [pow7]; exact Nat.mul_mod_left _ (128 ^ k)) (by rw [pow7]; exact hV)]
    omega

theorem grow7 (c k V : Nat) (hV : V < 128 ^ k) : c % 128 * 128 ^ k + V < 128 ^ (k + 1) := by
  have h : c % 128 ≤ 127 := by omega
  have := Nat.mul_le_mul_right (128 ^ k) h
  rw [Nat.pow_succ]; omega

theorem fits7 (c k V : Nat) (hV : V < 128 ^ k) (hk : k < 9 ∨ (k = 9 ∧ c ≤ 1)) : c % 128 * 128 ^ k + V < 18446744073709551616 := by
  rcases hk with hk | ⟨rfl, hc⟩
  · have h1 := grow7 c k V hV
    have h2 : 128 ^ (k + 1) ≤ 128 ^ 9 := Nat.pow_le_pow_right (by omega) (by omega)
    have : (128 : Nat) ^ 9 = 9223372036854775808 := by decide
    omega
  · have h : c % 128 ≤ 1 := by omega
    have := Nat.mul_le_mul_right (128 ^ 9) h
    have : (128 : Nat) ^ 9 = 9223372036854775808 := by decide
    omega

/-! The same number, read from the last byte to the first. -/
def horner : List Nat → Nat
  | [] => 0
  | c :: r => c % 128 + 128 * horner r

theorem horner_snoc : ∀ (l : List Nat) (c : Nat), horner (l ++ [c]) = horner l + c % 128 * 128 ^ l.length
  | [], c => by simp [horner]
  | d :: r, c => by
    have := horner_snoc r c
    simp only [List.cons_append, horner, this, List.length_cons, Nat.pow_succ]
    have e : 128 * (c % 128 * 128 ^ r.length) = c % 128 * (128 ^ r.length * 128) := by
      rw [← Nat.mul_assoc, Nat.mul_comm 128 (c % 128), Nat.mul_assoc, Nat.mul_comm 128]
    omega

theorem horner_lt : ∀ (l : List Nat), horner l < 128 ^ l.length
  | [] => by simp [horner]
  | d :: r => by
    have := horner_lt r
    simp only [horner, List.length_cons, Nat.pow_succ]; omega

theorem horner_drop : ∀ (l : List Nat) (j : Nat), horner (l.drop j) ≤ horner l
  | [], j => by simp
  | d :: r, 0 => by simp
  | d :: r, j + 1 => by
    have := horner_drop r j
    simp only [List.drop_succ_cons, horner]; omega

theorem horner_step (l : List Nat) (j : Nat) (h : j < l.length) : horner (l.drop j) = l[j] % 128 + 128 * horner (l.drop (j + 1)) := by
  rw [List.drop_eq_getElem_cons h]; rfl

theorem take_succ_n (l : List Nat) (k : Nat) (h : k < l.length) : l.take (k + 1) = l.take k ++ [l[k]] := by
  rw [List.take_add_one, List.getElem?_eq_getElem h]; rfl

/-- The first k bytes have the eighth bit: Get goes past them. -/
theorem getS_skip (D : List Nat) : ∀ (k : Nat), k ≤ 9 → (hk : k ≤ D.length) → (∀ i (h : i < k), 127 < D[i]'(by omega)) → (∀ c ∈ D, c < 256) → getS D 0 0 = getS (D.drop k) k (horner (D.take k))
  | 0, _, _, _, _ => by simp [horner]
  | k + 1, h9, hk, hb, h256 => by
    have ih := getS_skip D k (by omega) (by omega) (fun i h => hb i (by omega)) h256
    have hkl : k < D.length := by omega
    have hd := hb k (by omega)
    have h2 := h256 D[k] (List.getElem_mem hkl)
    rw [ih, List.drop_eq_getElem_cons hkl, getS, if_neg (by omega), if_neg (by omega), if_neg (by omega), take_succ_n D k hkl, horner_snoc]
    rw [show D[k] - 128 = D[k] % 128 by omega, List.length_take_of_le (by omega)]

theorem getS_big (D : List Nat) (hk : 9 < D.length) (hb : ∀ i (h : i < 9), 127 < D[i]'(by omega)) (h256 : ∀ c ∈ D, c < 256) (h1 : 1 < D[9]) : getS D 0 0 = (0, 0, 3) := by
  rw [getS_skip D 9 (by omega) (by omega) hb h256, List.drop_eq_getElem_cons hk, getS, if_pos ⟨rfl, h1⟩]

theorem getS_short (D : List Nat) (h9 : D.length ≤ 9) (hb : ∀ i (h : i < D.length), 127 < D[i]) (h256 : ∀ c ∈ D, c < 256) : getS D 0 0 = (0, 0, 10) := by
  rw [getS_skip D D.length h9 (by omega) hb h256, List.drop_of_length_le (by omega)]; rfl

theorem getS_zero (D : List Nat) (k : Nat) (h9 : k ≤ 9) (hk : k < D.length) (h0 : 0 < k) (hb : ∀ i (h : i < k), 127 < D[i]'(by omega)) (h256 : ∀ c ∈ D, c < 256) (h1 : D[k] = 0) : getS D 0 0 = (0, 0, 3) := by
  rw [getS_skip D k h9 (by omega) hb h256, List.drop_eq_getElem_cons hk, getS, if_neg (by omega), if_pos ⟨h0, h1⟩]

theorem getS_good (D : List Nat) (k : Nat) (h9 : k ≤ 9) (hk : k < D.length) (hb : ∀ i (h : i < k), 127 < D[i]'(by omega)) (h256 : ∀ c ∈ D, c < 256) (h1 : D[k] ≤ 127) (h2 : 0 < k → D[k] ≠ 0) (h3 : k = 9 → D[k] ≤ 1) :
    getS D 0 0 = (horner (D.take (k + 1)), k + 1, 0) := by
  rw [getS_skip D k h9 (by omega) hb h256, List.drop_eq_getElem_cons hk, getS, if_neg (fun h => by have := h3 h.1; omega), if_neg (fun h => h2 h.1 h.2), if_pos (by omega), take_succ_n D k hk, horner_snoc,
    List.length_take_of_le (by omega), show D[k] % 128 = D[k] by omega]

theorem horner_fits (D : List Nat) (k : Nat) (h9 : k ≤ 9) (hk : k < D.length) (h3 : k = 9 → D[k] ≤ 1) : horner (D.take (k + 1)) < 18446744073709551616 := by
  rw [take_succ_n D k hk, horner_snoc, List.length_take_of_le (by omega)]
  have h := horner_lt (D.take k)
  rw [List.length_take_of_le (by omega)] at h
  have := fits7 D[k] k _ h (by
    by_cases e : k = 9
    · exact .inr ⟨e, h3 e⟩
    · exact .inl (by omega))
  omega

/-! Zigzags. -/
def zigN (n : Int) : Nat := if n < 0 then (-2 * n - 1).toNat else (2 * n).toNat
def zagZ (v : Nat) : Int := if v % 2 = 0 then ((v / 2 : Nat) : Int) else -((v / 2 : Nat) : Int) - 1

theorem zag_zig (n : Int) : zagZ (zigN n) = n := by
  unfold zagZ zigN
  by_cases h : n < 0
  · rw [if_pos h, if_neg (by omega)]; omega
  · rw [if_neg h, if_pos (by omega)]; omega

theorem zig_zag (v : Nat) : zigN (zagZ v) = v := by
  unfold zagZ zigN
  by_cases h : v % 2 = 0
  · rw [if_pos h, if_neg (by omega)]; omega
  · rw [if_neg h, if_pos (by omega)]; omega

theorem zigN_lt (n : Int) (h1 : -9223372036854775808 ≤ n) (h2 : n ≤ 9223372036854775807) : zigN n < 18446744073709551616 := by
  unfold zigN; split <;> omega

theorem zagZ_bd (v : Nat) (h : v < 18446744073709551616) : -9223372036854775808 ≤ zagZ v ∧ zagZ v ≤ 9223372036854775807 := by
  unfold zagZ; split <;> omega

/-- '^n' of an int64. -/
theorem xor_neg1 (n : Int) (h1 : -9223372036854775808 ≤ n) (h2 : n ≤ 9223372036854775807) : bits .xor .i64 (-1) n = -n - 1 := by
  have hb : (BitVec.ofInt 64 n).toNat = (n % 18446744073709551616).toNat := by rw [BitVec.toNat_ofInt]; rfl
  show IntKind.i64.wrap ((BitVec.ofInt 64 (-1) ^^^ BitVec.ofInt 64 n).toNat : Int) = -n - 1
  rw [show BitVec.ofInt 64 (-1) = BitVec.allOnes 64 from by decide, BitVec.allOnes_xor, BitVec.toNat_not, hb, IntKind.wrap_i64]
  omega

theorem or_one (v : Nat) (h : 2 * v + 1 < 18446744073709551616) : bits .or .u64 (((2 * v : Nat)) : Int) 1 = ((2 * v + 1 : Nat) : Int) := by
  have := u64_or_nat (2 * v) 1 (by omega) (by omega)
  rw [nat_join 1 (2 * v) 1 (by omega) (by omega)] at this
  exact this

end Go.Proofs.Ytlcphgomhhejbaa

/- The walks of layer 1's functions: what each call of varint and of hindsightref01 returns. -/
namespace Go.Proofs.Ytlcphgomhhejbaa
open Go.RowKit

theorem Try.info5 : (Try.prog.info? 5).map (fun i => (i.zero, i.size, i.bytes)) = some (some (.int .u8 0), 1, 1) := by kernel_rfl

end Go.Proofs.Ytlcphgomhhejbaa

/- The walks of Get: varint's and hindsightref01's. -/
namespace Go.Proofs.Ytlcphgomhhejbaa
open Go.RowKit

theorem Try.sizeOf5 : ∀ w, (Go.sizeOf 5).run Try.prog w = .ok 1 w := by
  obtain ⟨i0, hi, hz0, hz1, hz2⟩ := info_parts Try.info5
  intro w
  have h := run_sizeOf (P := Try.prog) w hi
  have e : Try.prog.cellsOf 5 = 1 := by kernel_rfl
  rw [e] at h; exact h

end Go.Proofs.Ytlcphgomhhejbaa
