/- Several texts of one proof, one behind the other. -/
import Derived.Test.YtapbhhehnbfdfaaWPk9
set_option linter.unusedSimpArgs false
set_option linter.unusedVariables false

/- The walk of the law VarintTexts. -/
set_option linter.unusedSimpArgs false
set_option linter.unusedVariables false
set_option maxRecDepth 100000
namespace Go.Proofs.Ytapbhhehnbfdfaa
open Go.RowKit

end Go.Proofs.Ytapbhhehnbfdfaa

/- Plain mathematics of VarintBack: integers and texts go there and back. -/
set_option linter.unusedSimpArgs false
set_option linter.unusedVariables false
set_option maxRecDepth 100000
namespace Go.Proofs.Ytapbhhehnbfdfaa
open Go.RowKit

theorem getS_put (B : List Nat) : ∀ (x i v : Nat), i ≤ 9 → (i = 0 ∨ 0 < x) → x * 128 ^ i < 18446744073709551616 → getS (putL x ++ B) i v = (v + x * 128 ^ i, i + (putL x).length, 0) := by
  intro x
  induction x using putL.induct with
  | case1 x h =>
    intro i v hi hx hs
    rw [putL_small h]
    have h9 : i = 9 → x ≤ 1 := by
      rintro rfl
      have : (128 : Nat) ^ 9 = 9223372036854775808 := by decide
      omega
    simp only [List.cons_append, List.nil_append, getS]
    rw [if_neg (by omega), if_neg (by omega), if_pos h]
    simp
  | case2 x h ih =>
    intro i v hi hx hs
    rw [putL_step h]
    have h9 : i ≠ 9 := by
      rintro rfl
      have : (128 : Nat) ^ 9 = 9223372036854775808 := by decide
      omega
    simp only [List.cons_append, getS]
    rw [if_neg (by omega), if_neg (by omega), if_neg (by omega)]
    have e1 : x / 128 * 128 ^ (i + 1) + x % 128 * 128 ^ i = x * 128 ^ i := by
      have := Nat.div_add_mod x 128
      rw [Nat.pow_succ, Nat.mul_comm (128 ^ i) 128, ← Nat.mul_assoc, ← Nat.add_mul, Nat.mul_comm (x / 128) 128, this]
    rw [ih (i + 1) (v + (x % 128 + 128 - 128) * 128 ^ i) (by omega) (.inr (by omega)) (by omega)]
    simp only [Nat.add_sub_cancel, List.length_cons, Prod.mk.injEq, and_true]
    omega

/-- The bytes of an integer, wherever they stand. -/
theorem getR_put (A B : List Nat) (x : Nat) (hx : x < 18446744073709551616) : getR (A ++ (putL x ++ B)) (A.length : Nat) = (x, (A.length : Int) + (putL x).length, 0) := by
  unfold getR
  rw [if_neg (by simp; omega)]
  have := getS_put B x 0 0 (by omega) (.inl rfl) (by simpa using hx)
  simp [this]

theorem textR_put (A : List Nat) (s : ByteArray) (hs : s.size < 18446744073709551616) : textR (A ++ textL s) (A.length : Nat) = (s, (((A ++ textL s).length : Nat) : Int), 0) := by
  unfold textR textL
  rw [getR_put A (bytesOf s) s.size hs]
  simp only [ne_eq, not_true_eq_false, if_false]
  rw [if_neg (by simp [bytesOf_len]; omega)]
  have e : ((A.length : Int) + (putL s.size).length).toNat = A.length + (putL s.size).length := by omega
  have e2 : List.drop (A.length + (putL s.size).length) (A ++ (putL s.size ++ bytesOf s)) = bytesOf s := by
    rw [← List.append_assoc, ← List.length_append, List.drop_left]
  rw [e, e2]
  rw [List.take_of_length_le (by rw [bytesOf_len]; omega), strN_bytesOf]
  simp [bytesOf_len]
  omega

/-- In one way alone. -/
theorem getS_only : ∀ (D : List Nat) (i v0 v n : Nat), (∀ c ∈ D, c < 256) → i ≤ 9 → getS D i v0 = (v, n, 0) →
    ∃ x, v = v0 + x * 128 ^ i ∧ n = i + (putL x).length ∧ (putL x).length ≤ D.length ∧ D.take (putL x).length = putL x ∧ (0 < i → x ≠ 0)
  | [], i, v0, v, n, _, _, h => by simp [getS] at h
  | c :: r, i, v0, v, n, hD, hi, h => by
    unfold getS at h
    split at h
    · simp at h
    · split at h
      · simp at h
      · split at h
        · rename_i h1 h2 h3
          simp only [Prod.mk.injEq, and_true] at h
          refine ⟨c, h.1.symm, ?_, ?_, ?_, ?_⟩
          · rw [putL_small h3]; simp; omega
          · rw [putL_small h3]; simp
          · rw [putL_small h3]; simp
          · omega
        · rename_i h1 h2 h3
          have hc := hD c (by simp)
          obtain ⟨x, e1, e2, e3, e4, e5⟩ := getS_only r (i + 1) (v0 + (c - 128) * 128 ^ i) v n (fun d hd => hD d (by simp [hd])) (by omega) h
          have hx := e5 (by omega)
          have hp : putL (c - 128 + 128 * x) = c :: putL x := by
            rw [putL_step (by omega)]
            congr 1
            · omega
            · congr 1; omega
          refine ⟨c - 128 + 128 * x, ?_, ?_, ?_, ?_, ?_⟩
          · rw [e1, Nat.add_mul, Nat.pow_succ, Nat.mul_comm (128 ^ i) 128, ← Nat.mul_assoc, Nat.mul_comm x 128]; omega
          · rw [hp, e2]; simp; omega
          · rw [hp]; simp; omega
          · rw [hp]; simp [e4]
          · omega

theorem getR_only (l : List Nat) (h256 : ∀ c ∈ l, c < 256) (at_ : Int) (v : Nat) (n : Int) (h : getR l at_ = (v, n, 0)) :
    0 ≤ at_ ∧ ∃ m : Nat, n = m ∧ at_ < n ∧ m ≤ l.length ∧ putL v = (l.drop at_.toNat).take (m - at_.toNat) := by
  unfold getR at h
  split at h
  · simp at h
  · rename_i h1
    obtain ⟨G, hG⟩ : ∃ G, getS (l.drop at_.toNat) 0 0 = G := ⟨_, rfl⟩
    obtain ⟨gv, gn, ge⟩ := G
    rw [hG] at h
    simp only [] at h
    split at h
    · rename_i h2
      subst h2
      obtain ⟨x, e1, e2, e3, e4, _⟩ := getS_only (l.drop at_.toNat) 0 0 gv gn (fun c hc => h256 c (List.mem_of_mem_drop hc)) (by omega) hG
      simp only [Prod.mk.injEq, and_true] at h
      have hx : x = v := by rw [← h.1, e1]; simp
      subst hx
      rw [List.length_drop] at e3
      have hp := putL_pos x
      refine ⟨by omega, (at_ + (gn : Int)).toNat, by omega, by omega, by omega, ?_⟩
      rw [show (at_ + (gn : Int)).toNat - at_.toNat = (putL x).length by omega]
      exact e4.symm
    · rename_i h2
      simp only [Prod.mk.injEq] at h
      exact absurd h.2.2 h2

/-- The bytes of all the integers of a list. -/
def allL (l : List Nat) : List Nat := l.flatMap putL
theorem allL_snoc (l : List Nat) (k : Nat) (h : k < l.length) : allL (l.take (k + 1)) = allL (l.take k) ++ putL l[k] := by
  unfold allL; rw [take_succ_n l k h, List.flatMap_append]; simp [List.flatMap_cons]
theorem allL_split (l : List Nat) (k : Nat) (h : k < l.length) : allL l = allL (l.take k) ++ (putL l[k] ++ allL (l.drop (k + 1))) := by
  unfold allL
  conv => lhs; rw [← List.take_append_drop k l, List.drop_eq_getElem_cons h]
  rw [List.flatMap_append, List.flatMap_cons]
theorem allL_len (l : List Nat) (hl : ∀ c ∈ l, c < 18446744073709551616) : (allL l).length ≤ 10 * l.length := by
  induction l with
  | nil => simp [allL]
  | cons c r ih =>
    have := ih (fun d hd => hl d (by simp [hd]))
    have := putL_len10 (hl c (by simp))
    simp [allL] at *
    omega
theorem allL_lt (l : List Nat) : ∀ c ∈ allL l, c < 256 := by
  intro c hc
  obtain ⟨d, _, hd⟩ := List.mem_flatMap.1 hc
  exact putL_byte d c hd
end Go.Proofs.Ytapbhhehnbfdfaa

/- Plain mathematics of layer 3: the bytes of a row, and the row of bytes. -/
set_option linter.unusedSimpArgs false
set_option linter.unusedVariables false
set_option maxRecDepth 100000
namespace Go.Proofs.Ytapbhhehnbfdfaa
open Go.RowKit

theorem getS_bound : ∀ (D : List Nat) (i v0 v n : Nat), (∀ c ∈ D, c < 256) → i ≤ 9 → v0 < 128 ^ i → getS D i v0 = (v, n, 0) → v < 18446744073709551616
  | [], i, v0, v, n, _, _, _, h => by simp [getS] at h
  | c :: r, i, v0, v, n, hD, hi, hv, h => by
    have hc := hD c (by simp)
    unfold getS at h
    split at h
    · simp at h
    · split at h
      · simp at h
      · split at h
        · rename_i h1 h2 h3
          simp only [Prod.mk.injEq, and_true] at h
          have := fits7 c i v0 hv (by omega)
          rw [Nat.mod_eq_of_lt h3] at this
          omega
        · rename_i h1 h2 h3
          have h9 : i ≠ 9 := by omega
          have hg := grow7 c i v0 hv
          rw [show c % 128 = c - 128 by omega] at hg
          exact getS_bound r (i + 1) _ v n (fun d hd => hD d (by simp [hd])) (by omega) (by omega) h
/-- The bytes of a value. -/
def encV (x : Vl) : List Nat := if x.k = 0 then [0] else if x.k = 1 then 1 :: putL (zigN x.n) else x.k :: textL x.s

/-- The bytes of values. -/
def encL (l : List Vl) : List Nat := l.flatMap encV

/-- The value that begins at an index, and the index behind it. -/
def decV (l : List Nat) (p : Nat) : Option (Vl × Nat) :=
  match l[p]? with
  | none => none
  | some k =>
    if k = 0 then some (⟨0, 0, ⟨#[]⟩⟩, p + 1)
    else if k = 1 then (if (getR l ((p + 1 : Nat) : Int)).2.2 = 0 then some (⟨1, zagZ (getR l ((p + 1 : Nat) : Int)).1, ⟨#[]⟩⟩, (getR l ((p + 1 : Nat) : Int)).2.1.toNat) else none)
    else if k = 2 ∨ k = 3 then (if (textR l ((p + 1 : Nat) : Int)).2.2 = 0 then some (⟨k, 0, (textR l ((p + 1 : Nat) : Int)).1⟩, (textR l ((p + 1 : Nat) : Int)).2.1.toNat) else none)
    else none

/-- The value's text is short enough for a machine, its integer an int64. -/
def Vl.fair (x : Vl) : Prop := x.k < 256 ∧ (-9223372036854775808 ≤ x.n ∧ x.n ≤ 9223372036854775807) ∧ x.s.size < 18446744073709551616

theorem textR_at (A B : List Nat) (s : ByteArray) (hs : s.size < 18446744073709551616) : textR (A ++ (textL s ++ B)) (A.length : Nat) = (s, (A.length : Int) + (textL s).length, 0) := by
  unfold textR textL
  rw [List.append_assoc, getR_put A (bytesOf s ++ B) s.size hs]
  simp only [ne_eq, not_true_eq_false, if_false]
  rw [if_neg (by simp [bytesOf_len]; omega)]
  have e : ((A.length : Int) + (putL s.size).length).toNat = A.length + (putL s.size).length := by omega
  have e2 : List.drop (A.length + (putL s.size).length) (A ++ (putL s.size ++ (bytesOf s ++ B))) = bytesOf s ++ B := by
    rw [← List.append_assoc, ← List.length_append, List.drop_left]
  rw [e, e2, List.take_left' (bytesOf_len s), strN_bytesOf]
  simp [bytesOf_len]; omega

theorem right_kind {x : Vl} (h : x.right = true) : (x = ⟨0, 0, ⟨#[]⟩⟩) ∨ (x = ⟨1, x.n, ⟨#[]⟩⟩) ∨ ((x.k = 2 ∨ x.k = 3) ∧ x = ⟨x.k, 0, x.s⟩) := by
  obtain ⟨k, n, s⟩ := x
  unfold Vl.right at h
  by_cases h0 : k = 0
  · subst h0
    have := right_null (n := n) (s := s) (by unfold Vl.right; exact h)
    rw [this.1, this.2]; exact .inl rfl
  · by_cases h1 : k = 1
    · subst h1
      have := right_num (n := n) (s := s) (by unfold Vl.right; exact h)
      rw [this]; exact .inr (.inl rfl)
    · simp only [if_neg h0, if_neg h1] at h
      by_cases h2 : k = 2 ∨ k = 3
      · simp only [if_pos h2, decide_eq_true_eq] at h
        subst h
        exact .inr (.inr ⟨h2, rfl⟩)
      · simp only [if_neg h2] at h; cases h

theorem decV_enc (A B : List Nat) (x : Vl) (hr : x.right = true) (hf : x.fair) : decV (A ++ (encV x ++ B)) A.length = some (x, A.length + (encV x).length) := by
  rcases right_kind hr with h | h | ⟨hk, h⟩
  · rw [h]; unfold decV encV; simp
  · obtain ⟨k, n, s⟩ := x
    simp only [Vl.mk.injEq] at h
    obtain ⟨rfl, -, rfl⟩ := h
    have hg := getR_put (A ++ [1]) B (zigN n) (zigN_lt n hf.2.1.1 hf.2.1.2)
    unfold decV encV
    simp only [List.append_assoc, List.cons_append, List.nil_append, List.length_append, List.length_cons, List.length_nil] at hg
    simp only [List.getElem?_append_right (Nat.le_refl _), Nat.sub_self, List.cons_append, List.getElem?_cons_zero, if_neg (show ¬ 1 = 0 by omega), if_true]
    rw [Nat.zero_add] at hg
    rw [hg]
    simp only [if_true, zag_zig, Option.some.injEq, Prod.mk.injEq, true_and, List.length_cons]
    omega
  · obtain ⟨k, n, s⟩ := x
    simp only [Vl.mk.injEq] at h
    obtain ⟨-, rfl, -⟩ := h
    simp only at hk
    have hg := textR_at (A ++ [k]) B s hf.2.2
    unfold decV encV
    simp only [List.append_assoc, List.cons_append, List.nil_append, List.length_append, List.length_cons, List.length_nil] at hg
    rw [Nat.zero_add] at hg
    simp only [List.getElem?_append_right (Nat.le_refl _), Nat.sub_self, if_neg (show ¬ k = 0 by omega), if_neg (show ¬ k = 1 by omega), List.cons_append, List.getElem?_cons_zero, if_pos hk]
    rw [hg]
    simp only [if_true, Option.some.injEq, Prod.mk.injEq, true_and, List.length_cons]
    omega

theorem textR_only (l : List Nat) (h256 : ∀ c ∈ l, c < 256) (p : Nat) (s : ByteArray) (n : Int) (h : textR l (p : Nat) = (s, n, 0)) :
    ∃ m : Nat, n = m ∧ p < m ∧ m ≤ l.length ∧ s.size ≤ l.length ∧ textL s = (l.drop p).take (m - p) := by
  unfold textR at h
  obtain ⟨G, hG⟩ : ∃ G, getR l (p : Nat) = G := ⟨_, rfl⟩
  obtain ⟨v, gn, ge⟩ := G
  simp only [hG] at h
  by_cases h0 : ge ≠ 0
  · rw [if_pos h0] at h
    simp only [Prod.mk.injEq] at h
    exact absurd h.2.2 h0
  · rw [if_neg h0] at h
    by_cases h1 : (l.length : Int) - gn < (v : Int)
    · rw [if_pos h1] at h
      simp at h
    · rw [if_neg h1] at h
      simp only [Prod.mk.injEq, and_true] at h
      have h0' : ge = 0 := by omega
      subst h0'
      obtain ⟨_, m, rfl, h3, h4, h5⟩ := getR_only l h256 p v gn hG
      have hs : s.size = v := by
        rw [← h.1, strN_size, List.length_take, List.length_drop]; omega
      have hb : bytesOf s = (l.drop m).take v := by
        rw [← h.1]
        unfold bytesOf strN
        simp only [List.map_map, Int.toNat_natCast]
        conv => rhs; rw [← List.map_id ((l.drop m).take v)]
        apply List.map_congr_left
        intro c hc
        have := h256 c (List.mem_of_mem_drop (List.mem_of_mem_take hc))
        simp [Nat.mod_eq_of_lt this]
      refine ⟨m + v, by omega, by omega, by omega, by omega, ?_⟩
      unfold textL
      rw [hs, hb, h5]
      rw [Int.toNat_natCast]
      have e : l.drop m = (l.drop p).drop (m - p) := by rw [List.drop_drop]; congr 1; omega
      rw [e, ← List.take_add]
      congr 1; omega

theorem enc_decV (l : List Nat) (h256 : ∀ c ∈ l, c < 256) (hl : l.length < 18446744073709551616) (p : Nat) (x : Vl) (n : Nat) (h : decV l p = some (x, n)) :
    x.right = true ∧ x.fair ∧ x.s.size ≤ l.length ∧ p < n ∧ n ≤ l.length ∧ encV x = (l.drop p).take (n - p) := by
  unfold decV at h
  cases hk : l[p]? with
  | none => rw [hk] at h; cases h
  | some k =>
    rw [hk] at h
    simp only [] at h
    have hp : p < l.length := by
      by_cases hp : p < l.length
      · exact hp
      · rw [List.getElem?_eq_none (by omega)] at hk; cases hk
    have hd : l.drop p = k :: l.drop (p + 1) := by
      rw [List.drop_eq_getElem_cons hp]
      rw [List.getElem?_eq_getElem hp] at hk
      simp only [Option.some.injEq] at hk
      rw [hk]
    by_cases h0 : k = 0
    · rw [if_pos h0] at h
      simp only [Option.some.injEq, Prod.mk.injEq] at h
      obtain ⟨rfl, rfl⟩ := h
      refine ⟨rfl, ⟨by simp, by simp, by decide⟩, by simp [ByteArray.size], by omega, by omega, ?_⟩
      rw [hd, h0, show p + 1 - p = 1 by omega]; rfl
    · rw [if_neg h0] at h
      by_cases h1 : k = 1
      · rw [if_pos h1] at h
        by_cases he : (getR l ((p + 1 : Nat) : Int)).2.2 = 0
        · rw [if_pos he] at h
          obtain ⟨G, hG⟩ : ∃ G, getR l ((p + 1 : Nat) : Int) = G := ⟨_, rfl⟩
          obtain ⟨v, gn, ge⟩ := G
          rw [hG] at h he
          simp only at he
          subst he
          simp only [Option.some.injEq, Prod.mk.injEq] at h
          obtain ⟨rfl, rfl⟩ := h
          obtain ⟨_, m, rfl, h3, h4, h5⟩ := getR_only l h256 _ v gn hG
          have hv : v < 18446744073709551616 := by
            unfold getR at hG
            rw [if_neg (by omega)] at hG
            simp only [Int.toNat_natCast] at hG
            obtain ⟨S, hS⟩ : ∃ S, getS (l.drop (p + 1)) 0 0 = S := ⟨_, rfl⟩
            obtain ⟨sv, sn, se⟩ := S
            rw [hS] at hG
            simp only [] at hG
            by_cases hse : se = 0
            · rw [if_pos hse] at hG
              subst hse
              have hb := getS_bound (l.drop (p + 1)) 0 0 sv sn (fun c hc => h256 c (List.mem_of_mem_drop hc)) (by omega) (by simp) hS
              simp only [Prod.mk.injEq, and_true] at hG
              omega
            · rw [if_neg hse] at hG
              simp only [Prod.mk.injEq] at hG
              omega
          have hb := zagZ_bd v hv
          refine ⟨rfl, ⟨by simp, hb, by simp [ByteArray.size]⟩, by simp [ByteArray.size], by simp only [Int.toNat_natCast]; omega, by simp only [Int.toNat_natCast]; omega, ?_⟩
          unfold encV
          simp only [if_neg (show ¬ 1 = 0 by omega), if_true, zig_zag]
          rw [hd, h5, h1]
          simp only [Int.toNat_natCast]
          rw [show m - p = (m - (p + 1)) + 1 by omega, List.take_succ_cons]
        · rw [if_neg he] at h; cases h
      · rw [if_neg h1] at h
        by_cases h2 : k = 2 ∨ k = 3
        · rw [if_pos h2] at h
          by_cases he : (textR l ((p + 1 : Nat) : Int)).2.2 = 0
          · rw [if_pos he] at h
            obtain ⟨G, hG⟩ : ∃ G, textR l ((p + 1 : Nat) : Int) = G := ⟨_, rfl⟩
            obtain ⟨v, gn, ge⟩ := G
            rw [hG] at h he
            simp only at he
            subst he
            simp only [Option.some.injEq, Prod.mk.injEq] at h
            obtain ⟨rfl, rfl⟩ := h
            obtain ⟨m, rfl, h3, h4, h5, h6⟩ := textR_only l h256 _ v gn hG
            refine ⟨?_, ⟨by simp only; omega, by simp, by simp only; omega⟩, h5, by simp only [Int.toNat_natCast]; omega, by simp only [Int.toNat_natCast]; omega, ?_⟩
            · unfold Vl.right
              simp only [if_neg h0, if_neg h1, if_pos h2]; rfl
            · unfold encV
              simp only [if_neg h0, if_neg h1]
              rw [hd, h6]
              simp only [Int.toNat_natCast]
              rw [show m - p = (m - (p + 1)) + 1 by omega, List.take_succ_cons]
          · rw [if_neg he] at h; cases h
        · rw [if_neg h2] at h; cases h

/-- The first i values from index p on. -/
def readN (l : List Nat) (p : Nat) : Nat → Option (List Vl × Nat)
  | 0 => some ([], p)
  | i + 1 => match readN l p i with
    | none => none
    | some (acc, q) => match decV l q with
      | none => none
      | some (x, n) => some (acc ++ [x], n)

theorem readN_none {l : List Nat} {p i : Nat} (h : readN l p i = none) : ∀ j, i ≤ j → readN l p j = none := by
  intro j hj
  induction j with
  | zero => rw [show i = 0 by omega] at h; exact h
  | succ j ih =>
    by_cases e : i = j + 1
    · rw [← e]; exact h
    · rw [readN, ih (by omega)]

theorem encL_snoc (l : List Vl) (x : Vl) : encL (l ++ [x]) = encL l ++ encV x := by simp [encL]

theorem encL_take (l : List Vl) (i : Nat) (h : i < l.length) : encL (l.take (i + 1)) = encL (l.take i) ++ encV l[i] := by
  rw [List.take_succ_eq_append_getElem h, encL_snoc]

theorem encL_split (l : List Vl) (i : Nat) (h : i < l.length) : encL l = encL (l.take i) ++ (encV l[i] ++ encL (l.drop (i + 1))) := by
  unfold encL
  conv => lhs; rw [← List.take_append_drop i l, List.drop_eq_getElem_cons h]
  rw [List.flatMap_append, List.flatMap_cons]

theorem readN_enc (A B : List Nat) (l : List Vl) (hr : ∀ x ∈ l, x.right = true) (hf : ∀ x ∈ l, x.fair) : ∀ i, i ≤ l.length → readN (A ++ (encL l ++ B)) A.length i = some (l.take i, A.length + (encL (l.take i)).length) := by
  intro i
  induction i with
  | zero => intro _; simp [readN, encL]
  | succ i ih =>
    intro hi
    have hi' : i < l.length := by omega
    rw [readN, ih (by omega)]
    simp only []
    have h := decV_enc (A ++ encL (l.take i)) (encL (l.drop (i + 1)) ++ B) l[i] (hr _ (List.getElem_mem hi')) (hf _ (List.getElem_mem hi'))
    have e : (A ++ encL (l.take i)) ++ (encV l[i] ++ (encL (l.drop (i + 1)) ++ B)) = A ++ (encL l ++ B) := by
      rw [encL_split l i hi']; simp
    rw [e, List.length_append] at h
    rw [h]
    simp only [Option.some.injEq, Prod.mk.injEq]
    rw [encL_take l i hi', List.length_append, List.take_succ_eq_append_getElem hi']
    exact ⟨rfl, by omega⟩

theorem take_more (l : List Nat) (p q n : Nat) (h1 : p ≤ q) (h2 : q ≤ n) : (l.drop p).take (q - p) ++ (l.drop q).take (n - q) = (l.drop p).take (n - p) := by
  have e : l.drop q = (l.drop p).drop (q - p) := by rw [List.drop_drop]; congr 1; omega
  rw [e, ← List.take_add]
  congr 1; omega

theorem enc_readN (l : List Nat) (h256 : ∀ c ∈ l, c < 256) (hl : l.length < 18446744073709551616) (p : Nat) (hp : p ≤ l.length) : ∀ (i : Nat) (acc : List Vl) (q : Nat), readN l p i = some (acc, q) →
    acc.length = i ∧ (∀ x ∈ acc, x.right = true) ∧ (∀ x ∈ acc, x.fair) ∧ (∀ x ∈ acc, x.s.size ≤ l.length) ∧ p + i ≤ q ∧ q ≤ l.length ∧ encL acc = (l.drop p).take (q - p) := by
  intro i
  induction i with
  | zero =>
    intro acc q h
    simp only [readN, Option.some.injEq, Prod.mk.injEq] at h
    obtain ⟨rfl, rfl⟩ := h
    exact ⟨rfl, by simp, by simp, by simp, by omega, hp, by simp [encL]⟩
  | succ i ih =>
    intro acc q h
    rw [readN] at h
    cases hR : readN l p i with
    | none => rw [hR] at h; cases h
    | some R =>
      obtain ⟨acc0, q0⟩ := R
      rw [hR] at h
      simp only [] at h
      obtain ⟨a1, a2, a3, a4, a5, a6, a7⟩ := ih acc0 q0 hR
      cases hD : decV l q0 with
      | none => rw [hD] at h; cases h
      | some D =>
        obtain ⟨x, n⟩ := D
        rw [hD] at h
        simp only [Option.some.injEq, Prod.mk.injEq] at h
        obtain ⟨rfl, rfl⟩ := h
        obtain ⟨b1, b2, b3, b4, b5, b6⟩ := enc_decV l h256 hl q0 x n hD
        refine ⟨by simp [a1], ?_, ?_, ?_, by omega, b5, ?_⟩
        · intro y hy; rcases List.mem_append.1 hy with hy | hy
          · exact a2 y hy
          · rw [List.mem_singleton.1 hy]; exact b1
        · intro y hy; rcases List.mem_append.1 hy with hy | hy
          · exact a3 y hy
          · rw [List.mem_singleton.1 hy]; exact b2
        · intro y hy; rcases List.mem_append.1 hy with hy | hy
          · exact a4 y hy
          · rw [List.mem_singleton.1 hy]; exact b3
        · rw [encL_snoc, a7, b6]
          exact take_more l p q0 n (by omega) (by omega)

/-- May be a row? -/
def rowOk (l : List Vl) : Bool := decide (l.length ≤ 16) && l.all Vl.right

/-- What is written of a row: its bytes, the error. -/
def writeV (l : List Vl) : List Nat × Int :=
  if rowOk l = false then ([], 3) else if 8192 < 1 + (encL l).length then ([], 2) else (l.length :: encL l, 0)

/-- What is read of bytes: the row, the error. -/
def readV (l : List Nat) : List Vl × Int :=
  if 8192 < l.length then ([], 2)
  else if (getR l 0).2.2 ≠ 0 ∨ 16 < (getR l 0).1 then ([], 3)
  else match readN l (getR l 0).2.1.toNat (getR l 0).1 with
    | none => ([], 3)
    | some (acc, q) => if q ≠ l.length then ([], 3) else (acc, 0)

theorem rowOk_iff (l : List Vl) : rowOk l = true ↔ l.length ≤ 16 ∧ ∀ x ∈ l, x.right = true := by
  simp [rowOk]

theorem encV_lt (x : Vl) (hk : x.k < 256) : ∀ c ∈ encV x, c < 256 := by
  intro c hc
  unfold encV at hc
  split at hc
  · simp at hc; omega
  · split at hc
    · rcases List.mem_cons.1 hc with rfl | hc
      · omega
      · exact putL_byte _ c hc
    · rcases List.mem_cons.1 hc with rfl | hc
      · exact hk
      · rcases List.mem_append.1 hc with hc | hc
        · exact putL_byte _ c hc
        · exact bytesOf_lt _ c hc

theorem encL_lt (l : List Vl) (hk : ∀ x ∈ l, x.k < 256) : ∀ c ∈ encL l, c < 256 := by
  intro c hc
  obtain ⟨x, hx, hc⟩ := List.mem_flatMap.1 hc
  exact encV_lt x (hk x hx) c hc

/-- The first byte says how many values there are. -/
theorem first_byte (l : List Nat) (h256 : ∀ c ∈ l, c < 256) : (l = [] ∧ (getR l 0).2.2 ≠ 0) ∨
    (∃ c r, l = c :: r ∧ c ≤ 16 ∧ getR l 0 = (c, 1, 0)) ∨ (∃ c r, l = c :: r ∧ 16 < c ∧ ((getR l 0).2.2 ≠ 0 ∨ 16 < (getR l 0).1)) := by
  cases l with
  | nil => left; exact ⟨rfl, by decide⟩
  | cons c r =>
    right
    have hc := h256 c (by simp)
    by_cases h : c < 128
    · have hg : getR (c :: r) 0 = (c, 1, 0) := by
        unfold getR
        rw [if_neg (by simp; omega)]
        simp [getS, h]
      by_cases h16 : c ≤ 16
      · exact .inl ⟨c, r, rfl, h16, hg⟩
      · exact .inr ⟨c, r, rfl, by omega, .inr (by rw [hg]; simp only; omega)⟩
    · refine .inr ⟨c, r, rfl, by omega, ?_⟩
      obtain ⟨G, hG⟩ : ∃ G, getR (c :: r) 0 = G := ⟨_, rfl⟩
      obtain ⟨v, n, e⟩ := G
      by_cases he : e = 0
      · subst he
        obtain ⟨_, m, rfl, h3, h4, h5⟩ := getR_only (c :: r) h256 0 v n hG
        rw [hG]
        right
        by_cases hv : v < 128
        · rw [putL_small hv] at h5
          simp only [Int.toNat_zero, List.drop_zero, Nat.sub_zero] at h5
          obtain ⟨m', rfl⟩ : ∃ m', m = m' + 1 := ⟨m - 1, by omega⟩
          rw [List.take_succ_cons] at h5
          simp only [List.cons.injEq] at h5
          omega
        · simp only; omega
      · left; rw [hG]; exact he
end Go.Proofs.Ytapbhhehnbfdfaa

/- The mathematics of tables: what they are, which may be, their bytes, what is read. -/
set_option linter.unusedSimpArgs false
set_option linter.unusedVariables false
set_option maxRecDepth 100000
namespace Go.Proofs.Ytapbhhehnbfdfaa
open Go.RowKit

/-- A column. -/
structure Col where
  nm : ByteArray
  kd : Nat
  nn : Bool
  deriving DecidableEq

/-- A table. -/
structure Tb where
  name : ByteArray
  cols : List Col
  key : List Int
  per : ByteArray
  fr : Int
  tt : Int
  apart : Bool
  vers : Bool
  deriving DecidableEq

def cellsO (l : List Col) : List Value := cellsOf (fun c => [.string c.nm, .int .u8 (c.kd : Int), .bool c.nn]) l
theorem cellsO_len (l : List Col) : (cellsO l).length = l.length * 3 := cellsOf_len _ 3 (fun _ => rfl) l

/-- The cells of the k-th column. -/
theorem colAt {N : Nat} {w : World} {a : Option Addr} {l : List Col} (h : Arr N w a (cellsO l)) {k : Nat} (hk : k < l.length) : ∃ b o, a = some ⟨b, o, none⟩ ∧ b < N ∧
    w.cell? ⟨b, o + k * 3, none⟩ = some (.string l[k].nm) ∧ w.cell? ⟨b, o + k * 3 + 1, none⟩ = some (.int .u8 (l[k].kd : Int)) ∧ w.cell? ⟨b, o + k * 3 + 2, none⟩ = some (.bool l[k].nn) := by
  obtain ⟨b, o, ha, hb, hc⟩ := h.at_ (by intro h0; have := cellsO_len l; rw [h0] at this; simp at this; omega)
  have g := fun (j : Nat) (v : Value) (hv : ((fun c : Col => [.string c.nm, .int .u8 (c.kd : Int), .bool c.nn]) l[k])[j]? = some v) => hc _ _ (cellsOf_get (fun c : Col => [.string c.nm, .int .u8 (c.kd : Int), .bool c.nn]) 3 (fun _ => rfl) l k j l[k] v (List.getElem?_eq_getElem hk) hv)
  exact ⟨b, o, ha, hb, by simpa using g 0 _ rfl, by simpa [Nat.add_assoc] using g 1 _ rfl, by simpa [Nat.add_assoc] using g 2 _ rfl⟩

/-- A name in canonical form. -/
def isNm (s : ByteArray) : Bool := decide (nameV s = (s, 0))

def sysF : ByteArray := ⟨#[115, 121, 115, 95, 102, 114, 111, 109]⟩
def sysT : ByteArray := ⟨#[115, 121, 115, 95, 116, 111]⟩

/-- Where a column of that name is first. -/
def findC (l : List Col) (s : ByteArray) : Int := match l.findIdx? (fun c => decide (c.nm = s)) with | some i => (i : Int) | none => -1
theorem findC_hit {l : List Col} {s : ByteArray} {k : Nat} (hk : k < l.length) (h : l[k].nm = s) (hno : ∀ c ∈ l.take k, c.nm ≠ s) : findC l s = k := by
  unfold findC
  have : l.findIdx? (fun c => decide (c.nm = s)) = some k := by
    rw [List.findIdx?_eq_some_iff_getElem]
    refine ⟨hk, by simpa using h, fun j hj => ?_⟩
    have hm : l[j] ∈ l.take k := by
      rw [List.mem_take_iff_getElem]
      exact ⟨j, by omega, rfl⟩
    simpa using hno _ hm
  rw [this]
theorem findC_none {l : List Col} {s : ByteArray} (hno : ∀ c ∈ l, c.nm ≠ s) : findC l s = -1 := by
  unfold findC
  have : l.findIdx? (fun c => decide (c.nm = s)) = none := by
    rw [List.findIdx?_eq_none_iff]
    intro x hx
    simpa using hno x hx
  rw [this]
theorem findC_cases (l : List Col) (s : ByteArray) : (findC l s = -1 ∧ ∀ c ∈ l, c.nm ≠ s) ∨ ∃ k : Nat, ∃ h : k < l.length, findC l s = k ∧ l[k].nm = s ∧ ∀ c ∈ l.take k, c.nm ≠ s := by
  unfold findC
  cases hf : l.findIdx? (fun c => decide (c.nm = s)) with
  | none =>
    rw [List.findIdx?_eq_none_iff] at hf
    exact .inl ⟨rfl, fun c hc => by simpa using hf c hc⟩
  | some k =>
    rw [List.findIdx?_eq_some_iff_getElem] at hf
    obtain ⟨hk, h1, h2⟩ := hf
    refine .inr ⟨k, hk, rfl, by simpa using h1, fun c hc => ?_⟩
    rw [List.mem_take_iff_getElem] at hc
    obtain ⟨j, hj, rfl⟩ := hc
    simpa using h2 j (by omega)

/-- There is a column that is not nothing; .. and that is a number. -/
def SoundAt (l : List Col) (i : Int) : Prop := 0 ≤ i ∧ ∃ c, l[i.toNat]? = some c ∧ c.nn = true
def EdgeAt (l : List Col) (i : Int) : Prop := 0 ≤ i ∧ ∃ c, l[i.toNat]? = some c ∧ c.nn = true ∧ c.kd = 1

def Col.ok (c : Col) : Bool := isNm c.nm && !decide (c.nm = sysF) && !decide (c.nm = sysT) && decide (1 ≤ c.kd) && decide (c.kd ≤ 3)
def ColsOk (l : List Col) : Prop := 1 ≤ l.length ∧ l.length ≤ 16 ∧ (∀ c ∈ l, c.ok = true) ∧ (l.map Col.nm).Nodup
def KeyOk (l : List Col) (ks : List Int) : Prop := 1 ≤ ks.length ∧ ks.length ≤ 8 ∧ ∀ (i : Nat) k, ks[i]? = some k → SoundAt l k ∧ k ∉ ks.take i
def PerOk (t : Tb) : Prop := if t.per.size = 0 then t.fr = -1 ∧ t.tt = -1 else isNm t.per = true ∧ findC t.cols t.per = -1 ∧ t.fr ≠ t.tt ∧ EdgeAt t.cols t.fr ∧ EdgeAt t.cols t.tt
def ApOk (t : Tb) : Prop := t.apart = true → t.per.size ≠ 0 ∧ t.fr ∉ t.key ∧ t.tt ∉ t.key
/-- A table that may be. -/
def Tb.Ok (t : Tb) : Prop := isNm t.name = true ∧ ColsOk t.cols ∧ KeyOk t.cols t.key ∧ PerOk t ∧ ApOk t
open Classical in
noncomputable def Tb.ok (t : Tb) : Bool := decide t.Ok
theorem Tb.ok_iff {t : Tb} : t.ok = true ↔ t.Ok := by unfold Tb.ok; simp

/-- What the walks ask of a table: the program's types. -/
structure Tb.Fair (t : Tb) : Prop where
  cl : t.cols.length ≤ 1000000
  kl : t.key.length ≤ 1000000
  nm : t.name.size ≤ 1000000
  per : t.per.size ≤ 1000000
  fr : -9223372036854775808 ≤ t.fr ∧ t.fr ≤ 9223372036854775807
  tt : -9223372036854775808 ≤ t.tt ∧ t.tt ≤ 9223372036854775807
  cols : ∀ c ∈ t.cols, c.nm.size ≤ 1000000 ∧ c.kd < 256
  key : ∀ k ∈ t.key, -9223372036854775808 ≤ k ∧ k ≤ 9223372036854775807

/-- The bytes. -/
def intL (n : Int) : List Nat := putL (zigN n)
def flagL (b : Bool) : List Nat := intL (if b then 1 else 0)
def encC (c : Col) : List Nat := textL c.nm ++ (intL (c.kd : Int) ++ flagL c.nn)
def encT (t : Tb) : List Nat := textL t.name ++ (intL (t.cols.length : Int) ++ (t.cols.flatMap encC ++ (intL (t.key.length : Int) ++ (t.key.flatMap intL ++ (textL t.per ++ (intL t.fr ++ (intL t.tt ++ (flagL t.apart ++ flagL t.vers))))))))

/-- What is read: an integer, a text, a flag, a count; and the place behind. -/
def sdI (l : List Nat) (p : Nat) : Int × Nat := if (getR l (p : Int)).2.2 = 0 then (zagZ (getR l (p : Int)).1, (getR l (p : Int)).2.1.toNat) else (0, p)
def sdS (l : List Nat) (p : Nat) : ByteArray × Nat := if (textR l (p : Int)).2.2 = 0 then ((textR l (p : Int)).1, (textR l (p : Int)).2.1.toNat) else (⟨#[]⟩, p)
def sdF (l : List Nat) (p : Nat) : Bool × Nat := (decide ((sdI l p).1 = 1), (sdI l p).2)
def sdN (l : List Nat) (p : Nat) (most : Int) : Nat × Nat := (if (sdI l p).1 < 0 ∨ most < (sdI l p).1 then 0 else (sdI l p).1.toNat, (sdI l p).2)
def sdC (l : List Nat) (p : Nat) : Col × Nat := (⟨(sdS l p).1, (IntKind.u8.wrap (sdI l (sdS l p).2).1).toNat, (sdF l (sdI l (sdS l p).2).2).1⟩, (sdF l (sdI l (sdS l p).2).2).2)
def sdCs (l : List Nat) (p : Nat) : Nat → List Col × Nat
  | 0 => ([], p)
  | k + 1 => ((sdCs l p k).1 ++ [(sdC l (sdCs l p k).2).1], (sdC l (sdCs l p k).2).2)
def sdKs (l : List Nat) (p : Nat) : Nat → List Int × Nat
  | 0 => ([], p)
  | k + 1 => ((sdKs l p k).1 ++ [(sdI l (sdKs l p k).2).1], (sdI l (sdKs l p k).2).2)
/-- The places in a table's bytes. -/
def dp1 (l : List Nat) : Nat := (sdS l 0).2
def dn2 (l : List Nat) : Nat × Nat := sdN l (dp1 l) 16
def dc3 (l : List Nat) : List Col × Nat := sdCs l (dn2 l).2 (dn2 l).1
def dn4 (l : List Nat) : Nat × Nat := sdN l (dc3 l).2 8
def dk5 (l : List Nat) : List Int × Nat := sdKs l (dn4 l).2 (dn4 l).1
def ds6 (l : List Nat) : ByteArray × Nat := sdS l (dk5 l).2
def di7 (l : List Nat) : Int × Nat := sdI l (ds6 l).2
def di8 (l : List Nat) : Int × Nat := sdI l (di7 l).2
def df9 (l : List Nat) : Bool × Nat := sdF l (di8 l).2
def dfA (l : List Nat) : Bool × Nat := sdF l (df9 l).2
def decT (l : List Nat) : Tb := ⟨(sdS l 0).1, (dc3 l).1, (dk5 l).1, (ds6 l).1, (di7 l).1, (di8 l).1, (df9 l).1, (dfA l).1⟩

theorem sdI_at (A B : List Nat) (n : Int) (h1 : -9223372036854775808 ≤ n) (h2 : n ≤ 9223372036854775807) : sdI (A ++ (intL n ++ B)) A.length = (n, (A ++ intL n).length) := by
  unfold sdI intL
  rw [getR_put A B (zigN n) (zigN_lt n h1 h2), if_pos rfl, zag_zig, List.length_append]
  simp only [Prod.mk.injEq, true_and]
  omega
theorem sdS_at (A B : List Nat) (s : ByteArray) (h : s.size ≤ 1000000) : sdS (A ++ (textL s ++ B)) A.length = (s, (A ++ textL s).length) := by
  unfold sdS
  rw [textR_at A B s (by omega), if_pos rfl, List.length_append]
  simp only [Prod.mk.injEq, true_and]
  omega
theorem sdF_at (A B : List Nat) (b : Bool) : sdF (A ++ (flagL b ++ B)) A.length = (b, (A ++ flagL b).length) := by
  unfold sdF flagL
  rw [sdI_at A B _ (by cases b <;> simp) (by cases b <;> simp)]
  cases b <;> simp
theorem sdN_at (A B : List Nat) (n : Nat) (most : Int) (h : (n : Int) ≤ most) (h2 : most ≤ 1000) : sdN (A ++ (intL (n : Int) ++ B)) A.length most = (n, (A ++ intL (n : Int)).length) := by
  unfold sdN
  rw [sdI_at A B _ (by omega) (by omega)]
  rw [if_neg (by dsimp only; omega)]
  simp
theorem sdC_at (A B : List Nat) (c : Col) (h : c.nm.size ≤ 1000000) (hk : c.kd < 256) : sdC (A ++ (encC c ++ B)) A.length = (c, (A ++ encC c).length) := by
  have e1 : sdS (A ++ (encC c ++ B)) A.length = (c.nm, (A ++ textL c.nm).length) := by
    unfold encC
    rw [List.append_assoc]
    exact sdS_at A _ c.nm h
  have e2 : sdI (A ++ (encC c ++ B)) (A ++ textL c.nm).length = ((c.kd : Int), (A ++ textL c.nm ++ intL c.kd).length) := by
    have := sdI_at (A ++ textL c.nm) (flagL c.nn ++ B) (c.kd : Int) (by omega) (by omega)
    unfold encC
    simpa only [List.append_assoc] using this
  have e3 : sdF (A ++ (encC c ++ B)) (A ++ textL c.nm ++ intL c.kd).length = (c.nn, (A ++ textL c.nm ++ intL c.kd ++ flagL c.nn).length) := by
    have := sdF_at (A ++ textL c.nm ++ intL c.kd) B c.nn
    unfold encC
    simpa only [List.append_assoc] using this
  unfold sdC
  rw [e1]
  dsimp only
  rw [e2]
  dsimp only
  rw [e3]
  have hw : (IntKind.u8.wrap (c.kd : Int)).toNat = c.kd := by
    rw [show IntKind.u8.wrap (c.kd : Int) = (c.kd : Int) by unfold IntKind.wrap; simp [IntKind.signed, IntKind.bits]; omega]
    omega
  dsimp only
  rw [hw]
  unfold encC
  simp [List.append_assoc]
theorem sdCs_at (A B : List Nat) (l : List Col) (h : ∀ c ∈ l, c.nm.size ≤ 1000000 ∧ c.kd < 256) : ∀ k, k ≤ l.length → sdCs (A ++ (l.flatMap encC ++ B)) A.length k = (l.take k, (A ++ (l.take k).flatMap encC).length)
  | 0, _ => by simp [sdCs]
  | k + 1, hk => by
    have ih := sdCs_at A B l h k (by omega)
    have hlk : k < l.length := by omega
    have hsplit : l.flatMap encC = (l.take k).flatMap encC ++ (encC l[k] ++ (l.drop (k + 1)).flatMap encC) := by
      conv => lhs; rw [← List.take_append_drop k l, List.flatMap_append, List.drop_eq_getElem_cons hlk, List.flatMap_cons]
    have hc := h l[k] (List.getElem_mem hlk)
    have e := sdC_at (A ++ (l.take k).flatMap encC) ((l.drop (k + 1)).flatMap encC ++ B) l[k] hc.1 hc.2
    have e' : A ++ (l.flatMap encC ++ B) = (A ++ (l.take k).flatMap encC) ++ (encC l[k] ++ ((l.drop (k + 1)).flatMap encC ++ B)) := by
      rw [hsplit]; simp only [List.append_assoc]
    unfold sdCs
    rw [ih]
    dsimp only
    rw [e', e]
    rw [List.take_succ_eq_append_getElem hlk, List.flatMap_append]
    simp [List.append_assoc]
theorem sdKs_at (A B : List Nat) (l : List Int) (h : ∀ c ∈ l, -9223372036854775808 ≤ c ∧ c ≤ 9223372036854775807) : ∀ k, k ≤ l.length → sdKs (A ++ (l.flatMap intL ++ B)) A.length k = (l.take k, (A ++ (l.take k).flatMap intL).length)
  | 0, _ => by simp [sdKs]
  | k + 1, hk => by
    have ih := sdKs_at A B l h k (by omega)
    have hlk : k < l.length := by omega
    have hsplit : l.flatMap intL = (l.take k).flatMap intL ++ (intL l[k] ++ (l.drop (k + 1)).flatMap intL) := by
      conv => lhs; rw [← List.take_append_drop k l, List.flatMap_append, List.drop_eq_getElem_cons hlk, List.flatMap_cons]
    have hc := h l[k] (List.getElem_mem hlk)
    have e := sdI_at (A ++ (l.take k).flatMap intL) ((l.drop (k + 1)).flatMap intL ++ B) l[k] hc.1 hc.2
    have e' : A ++ (l.flatMap intL ++ B) = (A ++ (l.take k).flatMap intL) ++ (intL l[k] ++ ((l.drop (k + 1)).flatMap intL ++ B)) := by
      rw [hsplit]; simp only [List.append_assoc]
    unfold sdKs
    rw [ih]
    dsimp only
    rw [e', e]
    rw [List.take_succ_eq_append_getElem hlk, List.flatMap_append]
    simp [List.append_assoc]

/-- What was written is read. -/
theorem decT_enc (t : Tb) (h : t.Fair) (ho : t.Ok) : decT (encT t) = t := by
  obtain ⟨-, hco, hke, -, -⟩ := ho
  have l16 := hco.2.1
  have l8 := hke.2.1
  generalize hE : encT t = E
  have hE0 := hE
  unfold encT at hE
  have s1 : sdS E 0 = (t.name, (textL t.name).length) := by
    rw [← hE]; exact sdS_at [] _ t.name h.nm
  have s2 : dn2 E = (t.cols.length, (textL t.name ++ intL t.cols.length).length) := by
    unfold dn2 dp1
    rw [s1]
    dsimp only
    rw [← hE]; exact sdN_at (textL t.name) _ t.cols.length 16 (by omega) (by omega)
  have s3 : dc3 E = (t.cols, (textL t.name ++ intL t.cols.length ++ t.cols.flatMap encC).length) := by
    unfold dc3
    rw [s2]
    dsimp only
    have := sdCs_at (textL t.name ++ intL t.cols.length) (intL (t.key.length : Int) ++ (t.key.flatMap intL ++ (textL t.per ++ (intL t.fr ++ (intL t.tt ++ (flagL t.apart ++ flagL t.vers)))))) t.cols h.cols t.cols.length (Nat.le_refl _)
    rw [List.take_length] at this
    rw [← hE]
    simpa only [List.append_assoc] using this
  have s4 : dn4 E = (t.key.length, (textL t.name ++ intL t.cols.length ++ t.cols.flatMap encC ++ intL t.key.length).length) := by
    unfold dn4
    rw [s3]
    dsimp only
    have := sdN_at (textL t.name ++ intL t.cols.length ++ t.cols.flatMap encC) (t.key.flatMap intL ++ (textL t.per ++ (intL t.fr ++ (intL t.tt ++ (flagL t.apart ++ flagL t.vers))))) t.key.length 8 (by omega) (by omega)
    rw [← hE]
    simpa only [List.append_assoc] using this
  have s5 : dk5 E = (t.key, (textL t.name ++ intL t.cols.length ++ t.cols.flatMap encC ++ intL t.key.length ++ t.key.flatMap intL).length) := by
    unfold dk5
    rw [s4]
    dsimp only
    have := sdKs_at (textL t.name ++ intL t.cols.length ++ t.cols.flatMap encC ++ intL t.key.length) (textL t.per ++ (intL t.fr ++ (intL t.tt ++ (flagL t.apart ++ flagL t.vers)))) t.key h.key t.key.length (Nat.le_refl _)
    rw [List.take_length] at this
    rw [← hE]
    simpa only [List.append_assoc] using this
  generalize hP5 : textL t.name ++ intL t.cols.length ++ t.cols.flatMap encC ++ intL t.key.length ++ t.key.flatMap intL = P5 at s5
  have hE5 : E = P5 ++ (textL t.per ++ (intL t.fr ++ (intL t.tt ++ (flagL t.apart ++ flagL t.vers)))) := by
    rw [← hE, ← hP5]; simp only [List.append_assoc]
  have s6 : ds6 E = (t.per, (P5 ++ textL t.per).length) := by
    unfold ds6
    rw [s5]
    dsimp only
    rw [hE5]; exact sdS_at P5 _ t.per h.per
  have s7 : di7 E = (t.fr, (P5 ++ textL t.per ++ intL t.fr).length) := by
    unfold di7
    rw [s6]
    dsimp only
    have := sdI_at (P5 ++ textL t.per) (intL t.tt ++ (flagL t.apart ++ flagL t.vers)) t.fr h.fr.1 h.fr.2
    rw [hE5]
    simpa only [List.append_assoc] using this
  have s8 : di8 E = (t.tt, (P5 ++ textL t.per ++ intL t.fr ++ intL t.tt).length) := by
    unfold di8
    rw [s7]
    dsimp only
    have := sdI_at (P5 ++ textL t.per ++ intL t.fr) (flagL t.apart ++ flagL t.vers) t.tt h.tt.1 h.tt.2
    rw [hE5]
    simpa only [List.append_assoc] using this
  have s9 : df9 E = (t.apart, (P5 ++ textL t.per ++ intL t.fr ++ intL t.tt ++ flagL t.apart).length) := by
    unfold df9
    rw [s8]
    dsimp only
    have := sdF_at (P5 ++ textL t.per ++ intL t.fr ++ intL t.tt) (flagL t.vers) t.apart
    rw [hE5]
    simpa only [List.append_assoc] using this
  have sA : dfA E = (t.vers, (P5 ++ textL t.per ++ intL t.fr ++ intL t.tt ++ flagL t.apart ++ flagL t.vers).length) := by
    unfold dfA
    rw [s9]
    dsimp only
    have := sdF_at (P5 ++ textL t.per ++ intL t.fr ++ intL t.tt ++ flagL t.apart) [] t.vers
    rw [hE5]
    simpa only [List.append_assoc, List.append_nil] using this
  unfold decT
  rw [s1, s3, s5, s6, s7, s8, s9, sA]

theorem sdI_bd (l : List Nat) (h : ∀ c ∈ l, c < 256) (p : Nat) (hp : (p : Int) ≤ 9223372036854775807) : (-9223372036854775808 ≤ (sdI l p).1 ∧ (sdI l p).1 ≤ 9223372036854775807) ∧ ((sdI l p).2 ≤ p ∨ (sdI l p).2 ≤ l.length) := by
  have hb := getR_lt l h (p : Int) hp
  unfold sdI
  split
  · exact ⟨zagZ_bd _ hb.1, .inr (by dsimp only; omega)⟩
  · exact ⟨by dsimp only; omega, .inl (Nat.le_refl _)⟩
theorem sdS_bd (l : List Nat) (h : ∀ c ∈ l, c < 256) (p : Nat) (hp : (p : Int) ≤ 9223372036854775807) : (sdS l p).1.size ≤ l.length ∧ ((sdS l p).2 ≤ p ∨ (sdS l p).2 ≤ l.length) := by
  have hb := getR_lt l h (p : Int) hp
  unfold sdS
  split
  · unfold textR
    dsimp only
    split
    · exact ⟨by simp, .inl (by simp)⟩
    · split
      · exact ⟨by simp, .inl (by simp)⟩
      · refine ⟨?_, .inr (by dsimp only; omega)⟩
        rw [strN_size, List.length_take, List.length_drop]
        omega
  · exact ⟨Nat.zero_le _, .inl (Nat.le_refl _)⟩
attribute [irreducible] sdI sdS
end Go.Proofs.Ytapbhhehnbfdfaa

/- The walk of the reference's Name. -/
set_option linter.unusedSimpArgs false
set_option linter.unusedVariables false
set_option maxRecDepth 100000
namespace Go.Proofs.Ytapbhhehnbfdfaa
set_option linter.unusedSimpArgs false
open Go.RowKit

theorem byteN_getD (s : ByteArray) (i : Nat) (h : i < s.size) : (s[i]'h).toNat = byteN s i := (byteN_at s i h).symm

set_option maxHeartbeats 1000000 in
theorem rName_any (s : ByteArray) (w : World) (hs : s.size ≤ 140737488351232) :
    Calls Try.prog 54 #[.string s] w fun e w' => e = .returned (.tuple #[.string (nameV s).1, .int .i64 (nameV s).2]) ∧ Below w.heap.size w w' := by
  by_cases hl : 20 < s.size
  · have HN : Hid (nameV s = (⟨#[]⟩, 2)) := by unfold nameV; rw [if_pos hl]; rfl
    go_enter Try.func54, Try.ntmps54
    go_wp2
    go_ret2
    exact ⟨by rw [HN.out]; rfl, Below.refl _ _⟩
  · have ql : decide ((20 : Int) < (s.size : Int)) = false := by simp; omega
    have HF := Lib.hid (fun W => rFold_any s W (by omega))
    have hN : nameV s = if nameB s = false then (⟨#[]⟩, 3) else (foldS s, 0) := by unfold nameV; rw [if_neg hl]
    obtain ⟨f, hf⟩ : ∃ f, foldS s = f := ⟨_, rfl⟩
    rw [hf] at HF hN
    have HN := Lib.hid hN
    clear hN hf
    go_enter Try.func54, Try.ntmps54
    go_wp2
    go_loopw [4] (fun i wr => ∃ k : Nat, k ≤ s.size ∧ i = .int .i64 k ∧ Hid (∀ i, i < k → okN i (byteN s i) = true) ∧ w = wr) (fun i _ => s.size - (intOf i).toNat)
    case atStart => exact ⟨0, by omega, rfl, by simp [Hid], rfl⟩
    case round =>
      obtain ⟨k, hk, rfl, HI, rfl⟩ := hrel
      by_cases hlt : k < s.size
      · have HB := Lib.hid (byteN_at s k hlt)
        obtain ⟨c, hc⟩ : ∃ c, (s[k]'hlt).toNat = c := ⟨_, rfl⟩
        have HCl := Lib.hid (fun W => rClass_any ((s[k]'hlt).toNat : Int) W)
        obtain ⟨z, hz⟩ : ∃ z, classZ ((s[k]'hlt).toNat : Int) = z := ⟨_, rfl⟩
        rw [hz] at HCl
        rw [hc] at HB
        have hok : okN k c = (z == 2 || (z == 3 && k != 0)) := by unfold okN; rw [← hc, hz]
        have HOk := Lib.hid hok
        have hc256 := (s[k]'hlt).toNat_lt
        clear hc hz hok
        go_wp2_with fail
        refine (HCl.out _).mono ?_
        rintro e w1 ⟨rfl, rfl⟩
        clear HCl
        by_cases hgo : z = 2 ∨ (z = 3 ∧ k ≠ 0)
        · have HI2 : Hid (∀ i, i < k + 1 → okN i (byteN s i) = true) := by
            intro i hi
            by_cases h : i = k
            · subst h
              rw [HB.out, HOk.out]
              rcases hgo with h | ⟨h, h'⟩ <;> simp [h]
              exact h'
            · exact HI.out i (by omega)
          clear HI HOk HB
          by_cases h2 : z = 2
          · subst h2
            by_cases hk0 : k = 0
            · subst hk0
              go_wp2
              go_roundw
              case rel => exact ⟨1, by omega, by go_num, HI2, trivial⟩
              case measure => simp [intOf]; omega
            · have q0 : ((k : Int) == 0) = false := by simp; omega
              clear hgo
              go_wp2
              go_roundw
              case rel => exact ⟨k + 1, by omega, by go_num, HI2, trivial⟩
              case measure => simp [intOf]; omega
          · obtain ⟨rfl, h0⟩ : z = 3 ∧ k ≠ 0 := by
              rcases hgo with h | h
              · exact absurd h h2
              · exact h
            have q0 : ((k : Int) == 0) = false := by simp; omega
            clear hgo h2
            go_wp2
            go_roundw
            case rel => exact ⟨k + 1, by omega, by go_num, HI2, trivial⟩
            case measure => simp [intOf]; omega
        · have HNB : Hid (nameB s = false) := nameB_false hlt (by
            rw [HB.out, HOk.out]
            rw [Bool.eq_false_iff]
            intro h
            simp only [Bool.or_eq_true, Bool.and_eq_true, beq_iff_eq, bne_iff_ne, ne_eq] at h
            exact hgo h)
          have HN2 : Hid (nameV s = (⟨#[]⟩, 3)) := by rw [HN.out, HNB.out]; rfl
          have hways : (z ≠ 2 ∧ z ≠ 3) ∨ (z = 3 ∧ k = 0) := by omega
          clear HI HOk HB hgo HNB HN
          rcases hways with ⟨h2, h3⟩ | ⟨rfl, rfl⟩
          · have q2 : (z != 2) = true := by simp [h2]
            have q3 : (z != 3) = true := by simp [h3]
            have q4 : (z == 3) = false := by simp [h3]
            go_wp2
            go_ret2
            exact ⟨by rw [HN2.out]; rfl, Below.refl _ _⟩
          · go_wp2
            go_ret2
            exact ⟨by rw [HN2.out]; rfl, Below.refl _ _⟩
      · by_cases h0 : s.size = 0
        · have HN2 : Hid (nameV s = (⟨#[]⟩, 3)) := by rw [HN.out]; unfold nameB; simp [h0, Hid]
          have q0 : ((s.size : Int) == 0) = true := by rw [h0]; rfl
          clear HI HN
          go_wp2
          go_ret2
          exact ⟨by rw [HN2.out]; rfl, Below.refl _ _⟩
        · have HNB : Hid (nameB s = true) := nameB_true.2 ⟨by omega, fun i hi => HI.out i (by omega)⟩
          have HN2 : Hid (nameV s = (f, 0)) := by rw [HN.out, HNB.out]; rfl
          have q0 : ((s.size : Int) == 0) = false := by rw [Bool.eq_false_iff]; intro h; rw [beq_iff_eq] at h; omega
          clear HI HN HNB
          go_wp2_with fail
          refine (HF.out _).mono ?_
          rintro e w2 ⟨rfl, b2⟩
          go_wp2
          go_ret2
          exact ⟨by rw [HN2.out]; rfl, b2⟩
end Go.Proofs.Ytapbhhehnbfdfaa
