/- Several texts of one proof, one behind the other. -/
import Derived.Test.YtbnddpicpomakaaGreatDoorMPk8
import Derived.Deep.Slices
import Derived.Deep.Fields
import Derived.ChangeSame
set_option linter.unusedSimpArgs false
set_option linter.unusedVariables false

/- The walk of the law VarintTexts. -/
set_option linter.unusedSimpArgs false
set_option linter.unusedVariables false
set_option maxRecDepth 100000
namespace Go.Proofs.YtbnddpicpomakaaGreatDoor
open Go.RowKit

end Go.Proofs.YtbnddpicpomakaaGreatDoor

/- Plain mathematics of VarintBack: integers and texts go there and back. -/
set_option linter.unusedSimpArgs false
set_option linter.unusedVariables false
set_option maxRecDepth 100000
namespace Go.Proofs.YtbnddpicpomakaaGreatDoor
open Go.RowKit

theorem getS_put (B : List Nat) : ∀ (x i v : Nat), i ≤ 9 → (i = 0 ∨ 0 < x) → x * 128 ^ i < 18446744073709551616 → getS (putL x ++ B) i v = (v + x * 128 ^ i, i + (putL x).length, 0) := by
  intro x
  induction x using putL.induct with
  | case1 x h =>
    intro i v hi hx hs
    rw [putL_small h]
    have h9 : i = 9 → x ≤ 1 := by
      rintro rfl
      have : (128 : Nat) ^ 9 = 9223372036854775808 := by decide
      omega
    simp only [List.cons_append, List.nil_append, getS]
    rw [if_neg (by omega), if_neg (by omega), if_pos h]
    simp
  | case2 x h ih =>
    intro i v hi hx hs
    rw [putL_step h]
    have h9 : i ≠ 9 := by
      rintro rfl
      have : (128 : Nat) ^ 9 = 9223372036854775808 := by decide
      omega
    simp only [List.cons_append, getS]
    rw [if_neg (by omega), if_neg (by omega), if_neg (by omega)]
    have e1 : x / 128 * 128 ^ (i + 1) + x % 128 * 128 ^ i = x * 128 ^ i := by
      have := Nat.div_add_mod x 128
      rw [Nat.pow_succ, Nat.mul_comm (128 ^ i) 128, ← Nat.mul_assoc, ← Nat.add_mul, Nat.mul_comm (x / 128) 128, this]
    rw [ih (i + 1) (v + (x % 128 + 128 - 128) * 128 ^ i) (by omega) (.inr (by omega)) (by omega)]
    simp only [Nat.add_sub_cancel, List.length_cons, Prod.mk.injEq, and_true]
    omega

/-- The bytes of an integer, wherever they stand. -/
theorem getR_put (A B : List Nat) (x : Nat) (hx : x < 18446744073709551616) : getR (A ++ (putL x ++ B)) (A.length : Nat) = (x, (A.length : Int) + (putL x).length, 0) := by
  unfold getR
  rw [if_neg (by simp; omega)]
  have := getS_put B x 0 0 (by omega) (.inl rfl) (by simpa using hx)
  simp [this]

theorem textR_put (A : List Nat) (s : ByteArray) (hs : s.size < 18446744073709551616) : textR (A ++ textL s) (A.length : Nat) = (s, (((A ++ textL s).length : Nat) : Int), 0) := by
  unfold textR textL
  rw [getR_put A (bytesOf s) s.size hs]
  simp only [ne_eq, not_true_eq_false, if_false]
  rw [if_neg (by simp [bytesOf_len]; omega)]
  have e : ((A.length : Int) + (putL s.size).length).toNat = A.length + (putL s.size).length := by omega
  have e2 : List.drop (A.length + (putL s.size).length) (A ++ (putL s.size ++ bytesOf s)) = bytesOf s := by
    rw [← List.append_assoc, ← List.length_append, List.drop_left]
  rw [e, e2]
  rw [List.take_of_length_le (by rw [bytesOf_len]; omega), strN_bytesOf]
  simp [bytesOf_len]
  omega

/-- In one way alone. -/
theorem getS_only : ∀ (D : List Nat) (i v0 v n : Nat), (∀ c ∈ D, c < 256) → i ≤ 9 → getS D i v0 = (v, n, 0) →
    ∃ x, v = v0 + x * 128 ^ i ∧ n = i + (putL x).length ∧ (putL x).length ≤ D.length ∧ D.take (putL x).length = putL x ∧ (0 < i → x ≠ 0)
  | [], i, v0, v, n, _, _, h => by simp [getS] at h
  | c :: r, i, v0, v, n, hD, hi, h => by
    unfold getS at h
    split at h
    · simp at h
    · split at h
      · simp at h
      · split at h
        · rename_i h1 h2 h3
          simp only [Prod.mk.injEq, and_true] at h
          refine ⟨c, h.1.symm, ?_, ?_, ?_, ?_⟩
          · rw [putL_small h3]; simp; omega
          · rw [putL_small h3]; simp
          · rw [putL_small h3]; simp
          · omega
        · rename_i h1 h2 h3
          have hc := hD c (by simp)
          obtain ⟨x, e1, e2, e3, e4, e5⟩ := getS_only r (i + 1) (v0 + (c - 128) * 128 ^ i) v n (fun d hd => hD d (by simp [hd])) (by omega) h
          have hx := e5 (by omega)
          have hp : putL (c - 128 + 128 * x) = c :: putL x := by
            rw [putL_step (by omega)]
            congr 1
            · omega
            · congr 1; omega
          refine ⟨c - 128 + 128 * x, ?_, ?_, ?_, ?_, ?_⟩
          · rw [e1, Nat.add_mul, Nat.pow_succ, Nat.mul_comm (128 ^ i) 128, ← Nat.mul_assoc, Nat.mul_comm x 128]; omega
          · rw [hp, e2]; simp; omega
          · rw [hp]; simp; omega
          · rw [hp]; simp [e4]
          · omega

theorem getR_only (l : List Nat) (h256 : ∀ c ∈ l, c < 256) (at_ : Int) (v : Nat) (n : Int) (h : getR l at_ = (v, n, 0)) :
    0 ≤ at_ ∧ ∃ m : Nat, n = m ∧ at_ < n ∧ m ≤ l.length ∧ putL v = (l.drop at_.toNat).take (m - at_.toNat) := by
  unfold getR at h
  split at h
  · simp at h
  · rename_i h1
    obtain ⟨G, hG⟩ : ∃ G, getS (l.drop at_.toNat) 0 0 = G := ⟨_, rfl⟩
    obtain ⟨gv, gn, ge⟩ := G
    rw [hG] at h
    simp only [] at h
    split at h
    · rename_i h2
      subst h2
      obtain ⟨x, e1, e2, e3, e4, _⟩ := getS_only (l.drop at_.toNat) 0 0 gv gn (fun c hc => h256 c (List.mem_of_mem_drop hc)) (by omega) hG
      simp only [Prod.mk.injEq, and_true] at h
      have hx : x = v := by rw [← h.1, e1]; simp
      subst hx
      rw [List.length_drop] at e3
      have hp := putL_pos x
      refine ⟨by omega, (at_ + (gn : Int)).toNat, by omega, by omega, by omega, ?_⟩
      rw [show (at_ + (gn : Int)).toNat - at_.toNat = (putL x).length by omega]
      exact e4.symm
    · rename_i h2
      simp only [Prod.mk.injEq] at h
      exact absurd h.2.2 h2

/-- The bytes of all the integers of a list. -/
def allL (l : List Nat) : List Nat := l.flatMap putL
theorem allL_snoc (l : List Nat) (k : Nat) (h : k < l.length) : allL (l.take (k + 1)) = allL (l.take k) ++ putL l[k] := by
  unfold allL; rw [take_succ_n l k h, List.flatMap_append]; simp [List.flatMap_cons]
theorem allL_split (l : List Nat) (k : Nat) (h : k < l.length) : allL l = allL (l.take k) ++ (putL l[k] ++ allL (l.drop (k + 1))) := by
  unfold allL
  conv => lhs; rw [← List.take_append_drop k l, List.drop_eq_getElem_cons h]
  rw [List.flatMap_append, List.flatMap_cons]
theorem allL_len (l : List Nat) (hl : ∀ c ∈ l, c < 18446744073709551616) : (allL l).length ≤ 10 * l.length := by
  induction l with
  | nil => simp [allL]
  | cons c r ih =>
    have := ih (fun d hd => hl d (by simp [hd]))
    have := putL_len10 (hl c (by simp))
    simp [allL] at *
    omega
theorem allL_lt (l : List Nat) : ∀ c ∈ allL l, c < 256 := by
  intro c hc
  obtain ⟨d, _, hd⟩ := List.mem_flatMap.1 hc
  exact putL_byte d c hd
end Go.Proofs.YtbnddpicpomakaaGreatDoor

/- Plain mathematics of layer 3: the bytes of a row, and the row of bytes. -/
set_option linter.unusedSimpArgs false
set_option linter.unusedVariables false
set_option maxRecDepth 100000
namespace Go.Proofs.YtbnddpicpomakaaGreatDoor
open Go.RowKit

theorem getS_bound : ∀ (D : List Nat) (i v0 v n : Nat), (∀ c ∈ D, c < 256) → i ≤ 9 → v0 < 128 ^ i → getS D i v0 = (v, n, 0) → v < 18446744073709551616
  | [], i, v0, v, n, _, _, _, h => by simp [getS] at h
  | c :: r, i, v0, v, n, hD, hi, hv, h => by
    have hc := hD c (by simp)
    unfold getS at h
    split at h
    · simp at h
    · split at h
      · simp at h
      · split at h
        · rename_i h1 h2 h3
          simp only [Prod.mk.injEq, and_true] at h
          have := fits7 c i v0 hv (by omega)
          rw [Nat.mod_eq_of_lt h3] at this
          omega
        · rename_i h1 h2 h3
          have h9 : i ≠ 9 := by omega
          have hg := grow7 c i v0 hv
          rw [show c % 128 = c - 128 by omega] at hg
          exact getS_bound r (i + 1) _ v n (fun d hd => hD d (by simp [hd])) (by omega) (by omega) h
/-- The bytes of a value. -/
def encV (x : Vl) : List Nat := if x.k = 0 then [0] else if x.k = 1 then 1 :: putL (zigN x.n) else x.k :: textL x.s

/-- The bytes of values. -/
def encL (l : List Vl) : List Nat := l.flatMap encV

/-- The value that begins at an index, and the index behind it. -/
def decV (l : List Nat) (p : Nat) : Option (Vl × Nat) :=
  match l[p]? with
  | none => none
  | some k =>
    if k = 0 then some (⟨0, 0, ⟨#[]⟩⟩, p + 1)
    else if k = 1 then (if (getR l ((p + 1 : Nat) : Int)).2.2 = 0 then some (⟨1, zagZ (getR l ((p + 1 : Nat) : Int)).1, ⟨#[]⟩⟩, (getR l ((p + 1 : Nat) : Int)).2.1.toNat) else none)
    else if k = 2 ∨ k = 3 then (if (textR l ((p + 1 : Nat) : Int)).2.2 = 0 then some (⟨k, 0, (textR l ((p + 1 : Nat) : Int)).1⟩, (textR l ((p + 1 : Nat) : Int)).2.1.toNat) else none)
    else none

/-- The value's text is short enough for a machine, its integer an int64. -/
def Vl.fair (x : Vl) : Prop := x.k < 256 ∧ (-9223372036854775808 ≤ x.n ∧ x.n ≤ 9223372036854775807) ∧ x.s.size < 18446744073709551616

theorem textR_at (A B : List Nat) (s : ByteArray) (hs : s.size < 18446744073709551616) : textR (A ++ (textL s ++ B)) (A.length : Nat) = (s, (A.length : Int) + (textL s).length, 0) := by
  unfold textR textL
  rw [List.append_assoc, getR_put A (bytesOf s ++ B) s.size hs]
  simp only [ne_eq, not_true_eq_false, if_false]
  rw [if_neg (by simp [bytesOf_len]; omega)]
  have e : ((A.length : Int) + (putL s.size).length).toNat = A.length + (putL s.size).length := by omega
  have e2 : List.drop (A.length + (putL s.size).length) (A ++ (putL s.size ++ (bytesOf s ++ B))) = bytesOf s ++ B := by
    rw [← List.append_assoc, ← List.length_append, List.drop_left]
  rw [e, e2, List.take_left' (bytesOf_len s), strN_bytesOf]
  simp [bytesOf_len]; omega

theorem right_kind {x : Vl} (h : x.right = true) : (x = ⟨0, 0, ⟨#[]⟩⟩) ∨ (x = ⟨1, x.n, ⟨#[]⟩⟩) ∨ ((x.k = 2 ∨ x.k = 3) ∧ x = ⟨x.k, 0, x.s⟩) := by
  obtain ⟨k, n, s⟩ := x
  unfold Vl.right at h
  by_cases h0 : k = 0
  · subst h0
    have := right_null (n := n) (s := s) (by unfold Vl.right; exact h)
    rw [this.1, this.2]; exact .inl rfl
  · by_cases h1 : k = 1
    · subst h1
      have := right_num (n := n) (s := s) (by unfold Vl.right; exact h)
      rw [this]; exact .inr (.inl rfl)
    · simp only [if_neg h0, if_neg h1] at h
      by_cases h2 : k = 2 ∨ k = 3
      · simp only [if_pos h2, decide_eq_true_eq] at h
        subst h
        exact .inr (.inr ⟨h2, rfl⟩)
      · simp only [if_neg h2] at h; cases h

theorem decV_enc (A B : List Nat) (x : Vl) (hr : x.right = true) (hf : x.fair) : decV (A ++ (encV x ++ B)) A.length = some (x, A.length + (encV x).length) := by
  rcases right_kind hr with h | h | ⟨hk, h⟩
  · rw [h]; unfold decV encV; simp
  · obtain ⟨k, n, s⟩ := x
    simp only [Vl.mk.injEq] at h
    obtain ⟨rfl, -, rfl⟩ := h
    have hg := getR_put (A ++ [1]) B (zigN n) (zigN_lt n hf.2.1.1 hf.2.1.2)
    unfold decV encV
    simp only [List.append_assoc, List.cons_append, List.nil_append, List.length_append, List.length_cons, List.length_nil] at hg
    simp only [List.getElem?_append_right (Nat.le_refl _), Nat.sub_self, List.cons_append, List.getElem?_cons_zero, if_neg (show ¬ 1 = 0 by omega), if_true]
    rw [Nat.zero_add] at hg
    rw [hg]
    simp only [if_true, zag_zig, Option.some.injEq, Prod.mk.injEq, true_and, List.length_cons]
    omega
  · obtain ⟨k, n, s⟩ := x
    simp only [Vl.mk.injEq] at h
    obtain ⟨-, rfl, -⟩ := h
    simp only at hk
    have hg := textR_at (A ++ [k]) B s hf.2.2
    unfold decV encV
    simp only [List.append_assoc, List.cons_append, List.nil_append, List.length_append, List.length_cons, List.length_nil] at hg
    rw [Nat.zero_add] at hg
    simp only [List.getElem?_append_right (Nat.le_refl _), Nat.sub_self, if_neg (show ¬ k = 0 by omega), if_neg (show ¬ k = 1 by omega), List.cons_append, List.getElem?_cons_zero, if_pos hk]
    rw [hg]
    simp only [if_true, Option.some.injEq, Prod.mk.injEq, true_and, List.length_cons]
    omega

theorem textR_only (l : List Nat) (h256 : ∀ c ∈ l, c < 256) (p : Nat) (s : ByteArray) (n : Int) (h : textR l (p : Nat) = (s, n, 0)) :
    ∃ m : Nat, n = m ∧ p < m ∧ m ≤ l.length ∧ s.size ≤ l.length ∧ textL s = (l.drop p).take (m - p) := by
  unfold textR at h
  obtain ⟨G, hG⟩ : ∃ G, getR l (p : Nat) = G := ⟨_, rfl⟩
  obtain ⟨v, gn, ge⟩ := G
  simp only [hG] at h
  by_cases h0 : ge ≠ 0
  · rw [if_pos h0] at h
    simp only [Prod.mk.injEq] at h
    exact absurd h.2.2 h0
  · rw [if_neg h0] at h
    by_cases h1 : (l.length : Int) - gn < (v : Int)
    · rw [if_pos h1] at h
      simp at h
    · rw [if_neg h1] at h
      simp only [Prod.mk.injEq, and_true] at h
      have h0' : ge = 0 := by omega
      subst h0'
      obtain ⟨_, m, rfl, h3, h4, h5⟩ := getR_only l h256 p v gn hG
      have hs : s.size = v := by
        rw [← h.1, strN_size, List.length_take, List.length_drop]; omega
      have hb : bytesOf s = (l.drop m).take v := by
        rw [← h.1]
        unfold bytesOf strN
        simp only [List.map_map, Int.toNat_natCast]
        conv => rhs; rw [← List.map_id ((l.drop m).take v)]
        apply List.map_congr_left
        intro c hc
        have := h256 c (List.mem_of_mem_drop (List.mem_of_mem_take hc))
        simp [Nat.mod_eq_of_lt this]
      refine ⟨m + v, by omega, by omega, by omega, by omega, ?_⟩
      unfold textL
      rw [hs, hb, h5]
      rw [Int.toNat_natCast]
      have e : l.drop m = (l.drop p).drop (m - p) := by rw [List.drop_drop]; congr 1; omega
      rw [e, ← List.take_add]
      congr 1; omega

theorem enc_decV (l : List Nat) (h256 : ∀ c ∈ l, c < 256) (hl : l.length < 18446744073709551616) (p : Nat) (x : Vl) (n : Nat) (h : decV l p = some (x, n)) :
    x.right = true ∧ x.fair ∧ x.s.size ≤ l.length ∧ p < n ∧ n ≤ l.length ∧ encV x = (l.drop p).take (n - p) := by
  unfold decV at h
  cases hk : l[p]? with
  | none => rw [hk] at h; cases h
  | some k =>
    rw [hk] at h
    simp only [] at h
    have hp : p < l.length := by
      by_cases hp : p < l.length
      · exact hp
      · rw [List.getElem?_eq_none (by omega)] at hk; cases hk
    have hd : l.drop p = k :: l.drop (p + 1) := by
      rw [List.drop_eq_getElem_cons hp]
      rw [List.getElem?_eq_getElem hp] at hk
      simp only [Option.some.injEq] at hk
      rw [hk]
    by_cases h0 : k = 0
    · rw [if_pos h0] at h
      simp only [Option.some.injEq, Prod.mk.injEq] at h
      obtain ⟨rfl, rfl⟩ := h
      refine ⟨rfl, ⟨by simp, by simp, by decide⟩, by simp [ByteArray.size], by omega, by omega, ?_⟩
      rw [hd, h0, show p + 1 - p = 1 by omega]; rfl
    · rw [if_neg h0] at h
      by_cases h1 : k = 1
      · rw [if_pos h1] at h
        by_cases he : (getR l ((p + 1 : Nat) : Int)).2.2 = 0
        · rw [if_pos he] at h
          obtain ⟨G, hG⟩ : ∃ G, getR l ((p + 1 : Nat) : Int) = G := ⟨_, rfl⟩
          obtain ⟨v, gn, ge⟩ := G
          rw [hG] at h he
          simp only at he
          subst he
          simp only [Option.some.injEq, Prod.mk.injEq] at h
          obtain ⟨rfl, rfl⟩ := h
          obtain ⟨_, m, rfl, h3, h4, h5⟩ := getR_only l h256 _ v gn hG
          have hv : v < 18446744073709551616 := by
            unfold getR at hG
            rw [if_neg (by omega)] at hG
            simp only [Int.toNat_natCast] at hG
            obtain ⟨S, hS⟩ : ∃ S, getS (l.drop (p + 1)) 0 0 = S := ⟨_, rfl⟩
            obtain ⟨sv, sn, se⟩ := S
            rw [hS] at hG
            simp only [] at hG
            by_cases hse : se = 0
            · rw [if_pos hse] at hG
              subst hse
              have hb := getS_bound (l.drop (p + 1)) 0 0 sv sn (fun c hc => h256 c (List.mem_of_mem_drop hc)) (by omega) (by simp) hS
              simp only [Prod.mk.injEq, and_true] at hG
              omega
            · rw [if_neg hse] at hG
              simp only [Prod.mk.injEq] at hG
              omega
          have hb := zagZ_bd v hv
          refine ⟨rfl, ⟨by simp, hb, by simp [ByteArray.size]⟩, by simp [ByteArray.size], by simp only [Int.toNat_natCast]; omega, by simp only [Int.toNat_natCast]; omega, ?_⟩
          unfold encV
          simp only [if_neg (show ¬ 1 = 0 by omega), if_true, zig_zag]
          rw [hd, h5, h1]
          simp only [Int.toNat_natCast]
          rw [show m - p = (m - (p + 1)) + 1 by omega, List.take_succ_cons]
        · rw [if_neg he] at h; cases h
      · rw [if_neg h1] at h
        by_cases h2 : k = 2 ∨ k = 3
        · rw [if_pos h2] at h
          by_cases he : (textR l ((p + 1 : Nat) : Int)).2.2 = 0
          · rw [if_pos he] at h
            obtain ⟨G, hG⟩ : ∃ G, textR l ((p + 1 : Nat) : Int) = G := ⟨_, rfl⟩
            obtain ⟨v, gn, ge⟩ := G
            rw [hG] at h he
            simp only at he
            subst he
            simp only [Option.some.injEq, Prod.mk.injEq] at h
            obtain ⟨rfl, rfl⟩ := h
            obtain ⟨m, rfl, h3, h4, h5, h6⟩ := textR_only l h256 _ v gn hG
            refine ⟨?_, ⟨by simp only; omega, by simp, by simp only; omega⟩, h5, by simp only [Int.toNat_natCast]; omega, by simp only [Int.toNat_natCast]; omega, ?_⟩
            · unfold Vl.right
              simp only [if_neg h0, if_neg h1, if_pos h2]; rfl
            · unfold encV
              simp only [if_neg h0, if_neg h1]
              rw [hd, h6]
              simp only [Int.toNat_natCast]
              rw [show m - p = (m - (p + 1)) + 1 by omega, List.take_succ_cons]
          · rw [if_neg he] at h; cases h
        · rw [if_neg h2] at h; cases h

/-- The first i values from index p on. -/
def readN (l : List Nat) (p : Nat) : Nat → Option (List Vl × Nat)
  | 0 => some ([], p)
  | i + 1 => match readN l p i with
    | none => none
    | some (acc, q) => match decV l q with
      | none => none
      | some (x, n) => some (acc ++ [x], n)

theorem readN_none {l : List Nat} {p i : Nat} (h : readN l p i = none) : ∀ j, i ≤ j → readN l p j = none := by
  intro j hj
  induction j with
  | zero => rw [show i = 0 by omega] at h; exact h
  | succ j ih =>
    by_cases e : i = j + 1
    · rw [← e]; exact h
    · rw [readN, ih (by omega)]

theorem encL_snoc (l : List Vl) (x : Vl) : encL (l ++ [x]) = encL l ++ encV x := by simp [encL]

theorem encL_take (l : List Vl) (i : Nat) (h : i < l.length) : encL (l.take (i + 1)) = encL (l.take i) ++ encV l[i] := by
  rw [List.take_succ_eq_append_getElem h, encL_snoc]

theorem encL_split (l : List Vl) (i : Nat) (h : i < l.length) : encL l = encL (l.take i) ++ (encV l[i] ++ encL (l.drop (i + 1))) := by
  unfold encL
  conv => lhs; rw [← List.take_append_drop i l, List.drop_eq_getElem_cons h]
  rw [List.flatMap_append, List.flatMap_cons]

theorem readN_enc (A B : List Nat) (l : List Vl) (hr : ∀ x ∈ l, x.right = true) (hf : ∀ x ∈ l, x.fair) : ∀ i, i ≤ l.length → readN (A ++ (encL l ++ B)) A.length i = some (l.take i, A.length + (encL (l.take i)).length) := by
  intro i
  induction i with
  | zero => intro _; simp [readN, encL]
  | succ i ih =>
    intro hi
    have hi' : i < l.length := by omega
    rw [readN, ih (by omega)]
    simp only []
    have h := decV_enc (A ++ encL (l.take i)) (encL (l.drop (i + 1)) ++ B) l[i] (hr _ (List.getElem_mem hi')) (hf _ (List.getElem_mem hi'))
    have e : (A ++ encL (l.take i)) ++ (encV l[i] ++ (encL (l.drop (i + 1)) ++ B)) = A ++ (encL l ++ B) := by
      rw [encL_split l i hi']; simp
    rw [e, List.length_append] at h
    rw [h]
    simp only [Option.some.injEq, Prod.mk.injEq]
    rw [encL_take l i hi', List.length_append, List.take_succ_eq_append_getElem hi']
    exact ⟨rfl, by omega⟩

theorem take_more (l : List Nat) (p q n : Nat) (h1 : p ≤ q) (h2 : q ≤ n) : (l.drop p).take (q - p) ++ (l.drop q).take (n - q) = (l.drop p).take (n - p) := by
  have e : l.drop q = (l.drop p).drop (q - p) := by rw [List.drop_drop]; congr 1; omega
  rw [e, ← List.take_add]
  congr 1; omega

theorem enc_readN (l : List Nat) (h256 : ∀ c ∈ l, c < 256) (hl : l.length < 18446744073709551616) (p : Nat) (hp : p ≤ l.length) : ∀ (i : Nat) (acc : List Vl) (q : Nat), readN l p i = some (acc, q) →
    acc.length = i ∧ (∀ x ∈ acc, x.right = true) ∧ (∀ x ∈ acc, x.fair) ∧ (∀ x ∈ acc, x.s.size ≤ l.length) ∧ p + i ≤ q ∧ q ≤ l.length ∧ encL acc = (l.drop p).take (q - p) := by
  intro i
  induction i with
  | zero =>
    intro acc q h
    simp only [readN, Option.some.injEq, Prod.mk.injEq] at h
    obtain ⟨rfl, rfl⟩ := h
    exact ⟨rfl, by simp, by simp, by simp, by omega, hp, by simp [encL]⟩
  | succ i ih =>
    intro acc q h
    rw [readN] at h
    cases hR : readN l p i with
    | none => rw [hR] at h; cases h
    | some R =>
      obtain ⟨acc0, q0⟩ := R
      rw [hR] at h
      simp only [] at h
      obtain ⟨a1, a2, a3, a4, a5, a6, a7⟩ := ih acc0 q0 hR
      cases hD : decV l q0 with
      | none => rw [hD] at h; cases h
      | some D =>
        obtain ⟨x, n⟩ := D
        rw [hD] at h
        simp only [Option.some.injEq, Prod.mk.injEq] at h
        obtain ⟨rfl, rfl⟩ := h
        obtain ⟨b1, b2, b3, b4, b5, b6⟩ := enc_decV l h256 hl q0 x n hD
        refine ⟨by simp [a1], ?_, ?_, ?_, by omega, b5, ?_⟩
        · intro y hy; rcases List.mem_append.1 hy with hy | hy
          · exact a2 y hy
          · rw [List.mem_singleton.1 hy]; exact b1
        · intro y hy; rcases List.mem_append.1 hy with hy | hy
          · exact a3 y hy
          · rw [List.mem_singleton.1 hy]; exact b2
        · intro y hy; rcases List.mem_append.1 hy with hy | hy
          · exact a4 y hy
          · rw [List.mem_singleton.1 hy]; exact b3
        · rw [encL_snoc, a7, b6]
          exact take_more l p q0 n (by omega) (by omega)

/-- May be a row? -/
def rowOk (l : List Vl) : Bool := decide (l.length ≤ 16) && l.all Vl.right

/-- What is written of a row: its bytes, the error. -/
def writeV (l : List Vl) : List Nat × Int :=
  if rowOk l = false then ([], 3) else if 8192 < 1 + (encL l).length then ([], 2) else (l.length :: encL l, 0)

/-- What is read of bytes: the row, the error. -/
def readV (l : List Nat) : List Vl × Int :=
  if 8192 < l.length then ([], 2)
  else if (getR l 0).2.2 ≠ 0 ∨ 16 < (getR l 0).1 then ([], 3)
  else match readN l (getR l 0).2.1.toNat (getR l 0).1 with
    | none => ([], 3)
    | some (acc, q) => if q ≠ l.length then ([], 3) else (acc, 0)

theorem rowOk_iff (l : List Vl) : rowOk l = true ↔ l.length ≤ 16 ∧ ∀ x ∈ l, x.right = true := by
  simp [rowOk]

theorem encV_lt (x : Vl) (hk : x.k < 256) : ∀ c ∈ encV x, c < 256 := by
  intro c hc
  unfold encV at hc
  split at hc
  · simp at hc; omega
  · split at hc
    · rcases List.mem_cons.1 hc with rfl | hc
      · omega
      · exact putL_byte _ c hc
    · rcases List.mem_cons.1 hc with rfl | hc
      · exact hk
      · rcases List.mem_append.1 hc with hc | hc
        · exact putL_byte _ c hc
        · exact bytesOf_lt _ c hc

theorem encL_lt (l : List Vl) (hk : ∀ x ∈ l, x.k < 256) : ∀ c ∈ encL l, c < 256 := by
  intro c hc
  obtain ⟨x, hx, hc⟩ := List.mem_flatMap.1 hc
  exact encV_lt x (hk x hx) c hc

/-- The first byte says how many values there are. -/
theorem first_byte (l : List Nat) (h256 : ∀ c ∈ l, c < 256) : (l = [] ∧ (getR l 0).2.2 ≠ 0) ∨
    (∃ c r, l = c :: r ∧ c ≤ 16 ∧ getR l 0 = (c, 1, 0)) ∨ (∃ c r, l = c :: r ∧ 16 < c ∧ ((getR l 0).2.2 ≠ 0 ∨ 16 < (getR l 0).1)) := by
  cases l with
  | nil => left; exact ⟨rfl, by decide⟩
  | cons c r =>
    right
    have hc := h256 c (by simp)
    by_cases h : c < 128
    · have hg : getR (c :: r) 0 = (c, 1, 0) := by
        unfold getR
        rw [if_neg (by simp; omega)]
        simp [getS, h]
      by_cases h16 : c ≤ 16
      · exact .inl ⟨c, r, rfl, h16, hg⟩
      · exact .inr ⟨c, r, rfl, by omega, .inr (by rw [hg]; simp only; omega)⟩
    · refine .inr ⟨c, r, rfl, by omega, ?_⟩
      obtain ⟨G, hG⟩ : ∃ G, getR (c :: r) 0 = G := ⟨_, rfl⟩
      obtain ⟨v, n, e⟩ := G
      by_cases he : e = 0
      · subst he
        obtain ⟨_, m, rfl, h3, h4, h5⟩ := getR_only (c :: r) h256 0 v n hG
        rw [hG]
        right
        by_cases hv : v < 128
        · rw [putL_small hv] at h5
          simp only [Int.toNat_zero, List.drop_zero, Nat.sub_zero] at h5
          obtain ⟨m', rfl⟩ : ∃ m', m = m' + 1 := ⟨m - 1, by omega⟩
          rw [List.take_succ_cons] at h5
          simp only [List.cons.injEq] at h5
          omega
        · simp only; omega
      · left; rw [hG]; exact he
end Go.Proofs.YtbnddpicpomakaaGreatDoor

/- Plain mathematics of layer 4: the bytes of a key, and the tuple of bytes. -/
set_option linter.unusedSimpArgs false
set_option linter.unusedVariables false
set_option maxRecDepth 100000
namespace Go.Proofs.YtbnddpicpomakaaGreatDoor
open Go.RowKit


/-- An integer, moved so that none is negative. -/
def up64 (n : Int) : Nat := (n + 9223372036854775808).toNat

/-- Eight bytes, the greatest first. -/
def whole8 (m : Nat) : List Nat := [m / 72057594037927936 % 256, m / 281474976710656 % 256, m / 1099511627776 % 256, m / 4294967296 % 256, m / 16777216 % 256, m / 65536 % 256, m / 256 % 256, m % 256]

/-- The number that bytes are, the greatest first. -/
def unB (l : List Nat) : Nat := l.foldl (fun n c => n * 256 + c) 0

/-- A string's bytes, each 0 marked. -/
def escL (l : List Nat) : List Nat := l.flatMap fun c => if c = 0 then [0, 255] else [c]

/-- The part of a key for a value. -/
def encK (x : Vl) : List Nat := if x.k = 0 then [16] else if x.k = 1 then 17 :: whole8 (up64 x.n) else (16 + x.k) :: (escL (bytesOf x.s) ++ [0, 1])
def keyL (l : List Vl) : List Nat := l.flatMap encK

def writeK (l : List Vl) : List Nat × Int := if rowOk l = false then ([], 3) else if 100 < (keyL l).length then ([], 2) else (keyL l, 0)

/-- The string whose marked form bytes begin with, and how many bytes that form has. -/
def unesc : List Nat → Option (List Nat × Nat)
  | [] => none
  | [_] => none
  | c :: d :: r => if c = 0 then (if d = 1 then some ([], 2) else if d = 255 then (unesc r).map (fun p => (0 :: p.1, p.2 + 2)) else none) else (unesc (d :: r)).map (fun p => (c :: p.1, p.2 + 1))

/-- The value that a key begins with, and how many bytes it has. -/
def decK : List Nat → Option (Vl × Nat)
  | [] => none
  | k :: r =>
    if k = 16 then some (⟨0, 0, ⟨#[]⟩⟩, 1)
    else if k = 17 then (if 8 ≤ r.length then some (⟨1, (unB (r.take 8) : Int) - 9223372036854775808, ⟨#[]⟩⟩, 9) else none)
    else if k = 18 ∨ k = 19 then (match unesc r with | none => none | some (s, n) => some (⟨k - 16, 0, strN s⟩, 1 + n))
    else none

/-- The tuple of a key; fuel: no less than its bytes. -/
def tupF : Nat → List Vl → List Nat → Option (List Vl)
  | 0, acc, b => if b = [] then some acc else none
  | f + 1, acc, b => if b = [] then some acc else match decK b with
    | none => none
    | some (x, n) => if acc.length = 16 then none else tupF f (acc ++ [x]) (b.drop n)

def tupK (b : List Nat) : Option (List Vl) := tupF b.length [] b

def readK (b : List Nat) : List Vl × Int := if 100 < b.length then ([], 2) else match tupK b with | none => ([], 3) | some l => (l, 0)

theorem unesc_cons {c : Nat} (h : c ≠ 0) (r : List Nat) : unesc (c :: r) = (unesc r).map (fun p => (c :: p.1, p.2 + 1)) := by
  cases r with
  | nil => rfl
  | cons d r => rw [unesc, if_neg h]

theorem unesc_zero (d : Nat) (r : List Nat) : unesc (0 :: d :: r) = if d = 1 then some ([], 2) else if d = 255 then (unesc r).map (fun p => (0 :: p.1, p.2 + 2)) else none := by
  rw [unesc, if_pos rfl]

theorem escL_cons0 (l : List Nat) : escL (0 :: l) = 0 :: 255 :: escL l := rfl
theorem escL_cons {c : Nat} (h : c ≠ 0) (l : List Nat) : escL (c :: l) = c :: escL l := by
  unfold escL; rw [List.flatMap_cons, if_neg h]; rfl

theorem unesc_esc (B : List Nat) : ∀ (l : List Nat), unesc (escL l ++ (0 :: 1 :: B)) = some (l, (escL l).length + 2)
  | [] => by rw [show escL [] = [] from rfl, List.nil_append, unesc_zero, if_pos rfl]; try rfl
  | c :: l => by
    have ih := unesc_esc B l
    by_cases h : c = 0
    · subst h
      rw [escL_cons0, List.cons_append, List.cons_append, unesc_zero, if_neg (by omega), if_pos rfl, ih]
      simp
    · rw [escL_cons h, List.cons_append, unesc_cons h, ih]
      simp

theorem esc_unesc : ∀ (n : Nat) (b : List Nat), b.length ≤ n → ∀ (s : List Nat) (m : Nat), unesc b = some (s, m) → m ≤ b.length ∧ 2 ≤ m ∧ escL s ++ [0, 1] = b.take m ∧ (∀ c ∈ s, c ∈ b)
  | 0, b, hn, s, m, h => by
    have : b = [] := List.length_eq_zero_iff.1 (by omega)
    subst this; simp [unesc] at h
  | n + 1, [], hn, s, m, h => by simp [unesc] at h
  | n + 1, c :: r, hn, s, m, h => by
    by_cases hc : c = 0
    · subst hc
      cases r with
      | nil => simp [unesc] at h
      | cons d r =>
        rw [unesc_zero] at h
        by_cases h1 : d = 1
        · rw [if_pos h1] at h
          simp only [Option.some.injEq, Prod.mk.injEq] at h
          obtain ⟨rfl, rfl⟩ := h
          subst h1
          refine ⟨by simp, by omega, ?_, by simp⟩
          simp [escL]
        · rw [if_neg h1] at h
          by_cases h2 : d = 255
          · rw [if_pos h2] at h
            subst h2
            cases hu : unesc r with
            | none => rw [hu] at h; simp at h
            | some p =>
              obtain ⟨s', m'⟩ := p
              rw [hu] at h
              simp only [Option.map_some, Option.some.injEq, Prod.mk.injEq] at h
              obtain ⟨rfl, rfl⟩ := h
              obtain ⟨i1, i2, i3, i4⟩ := esc_unesc n r (by simp at hn; omega) s' m' hu
              refine ⟨by simp; omega, by omega, ?_, ?_⟩
              · rw [escL_cons0, show m' + 2 = m' + 1 + 1 by omega, List.take_succ_cons, List.take_succ_cons, ← i3]; rfl
              · intro x hx
                rcases List.mem_cons.1 hx with rfl | hx
                · simp
                · simp [i4 x hx]
          · rw [if_neg h2] at h; cases h
    · rw [unesc_cons hc] at h
      cases hu : unesc r with
      | none => rw [hu] at h; simp at h
      | some p =>
        obtain ⟨s', m'⟩ := p
        rw [hu] at h
        simp only [Option.map_some, Option.some.injEq, Prod.mk.injEq] at h
        obtain ⟨rfl, rfl⟩ := h
        obtain ⟨i1, i2, i3, i4⟩ := esc_unesc n r (by simp at hn; omega) s' m' hu
        refine ⟨by simp; omega, by omega, ?_, ?_⟩
        · rw [escL_cons hc, List.take_succ_cons, ← i3]; rfl
        · intro x hx
          rcases List.mem_cons.1 hx with rfl | hx
          · simp
          · simp [i4 x hx]

theorem unB_whole8 (m : Nat) (h : m < 18446744073709551616) : unB (whole8 m) = m := by
  simp only [unB, whole8, List.foldl_cons, List.foldl_nil]
  omega

theorem whole8_lt (m : Nat) : ∀ c ∈ whole8 m, c < 256 := by
  intro c hc
  simp only [whole8, List.mem_cons, List.not_mem_nil, or_false] at hc
  omega

theorem whole8_unB (l : List Nat) (h8 : l.length = 8) (h : ∀ c ∈ l, c < 256) : whole8 (unB l) = l ∧ unB l < 18446744073709551616 := by
  match l, h8 with
  | [a, b, c, d, e, f, g, i], _ =>
    have ha := h a (by simp)
    have hb := h b (by simp)
    have hc := h c (by simp)
    have hd := h d (by simp)
    have he := h e (by simp)
    have hf := h f (by simp)
    have hg := h g (by simp)
    have hi := h i (by simp)
    simp only [unB, whole8, List.foldl_cons, List.foldl_nil, List.cons.injEq, and_true]
    omega

theorem encK_pos (x : Vl) : 0 < (encK x).length := by
  unfold encK; split
  · simp
  · split <;> simp

theorem encK_lt (x : Vl) (hk : x.k < 240) : ∀ c ∈ encK x, c < 256 := by
  intro c hc
  unfold encK at hc
  split at hc
  · simp at hc; omega
  · split at hc
    · rcases List.mem_cons.1 hc with rfl | hc
      · omega
      · exact whole8_lt _ c hc
    · rcases List.mem_cons.1 hc with rfl | hc
      · omega
      · rcases List.mem_append.1 hc with hc | hc
        · obtain ⟨d, hd, hc⟩ := List.mem_flatMap.1 hc
          have := bytesOf_lt _ d hd
          split at hc
          · simp at hc; omega
          · simp at hc; omega
        · simp at hc; omega

theorem decK_enc (B : List Nat) (x : Vl) (hr : x.right = true) (hf : x.fair) : decK (encK x ++ B) = some (x, (encK x).length) := by
  rcases right_kind hr with h | h | ⟨hk, h⟩
  · rw [h]; rfl
  · obtain ⟨k, n, s⟩ := x
    simp only [Vl.mk.injEq] at h
    obtain ⟨rfl, -, rfl⟩ := h
    have h1 := hf.2.1.1
    have h2 := hf.2.1.2
    simp only at h1 h2
    have hm : up64 n < 18446744073709551616 := by unfold up64; omega
    have e : encK ⟨1, n, ⟨#[]⟩⟩ = 17 :: whole8 (up64 n) := rfl
    rw [e, List.cons_append, decK, if_neg (by omega), if_pos rfl, if_pos (by simp [whole8])]
    have e8 : (whole8 (up64 n)).length = 8 := rfl
    rw [List.take_left' e8, unB_whole8 _ hm]
    simp only [List.length_cons, e8, Option.some.injEq, Prod.mk.injEq, Vl.mk.injEq, and_true, true_and]
    unfold up64; omega
  · obtain ⟨k, n, s⟩ := x
    simp only [Vl.mk.injEq] at h
    obtain ⟨-, rfl, -⟩ := h
    simp only at hk
    have e : encK ⟨k, 0, s⟩ = (16 + k) :: (escL (bytesOf s) ++ [0, 1]) := by unfold encK; rw [if_neg (by simp only; omega), if_neg (by simp only; omega)]
    rw [e, List.cons_append, decK, if_neg (by omega), if_neg (by omega), if_pos (by omega)]
    have e2 : escL (bytesOf s) ++ [0, 1] ++ B = escL (bytesOf s) ++ (0 :: 1 :: B) := by simp
    rw [e2, unesc_esc]
    simp only [strN_bytesOf, List.length_cons, List.length_append, List.length_nil, Option.some.injEq, Prod.mk.injEq, Vl.mk.injEq, and_true]
    omega

theorem bytesOf_strN (l : List Nat) (h : ∀ c ∈ l, c < 256) : bytesOf (strN l) = l := by
  unfold bytesOf strN
  simp only [List.map_map]
  conv => rhs; rw [← List.map_id l]
  apply List.map_congr_left
  intro c hc
  simp [Nat.mod_eq_of_lt (h c hc)]

theorem enc_decK (b : List Nat) (h256 : ∀ c ∈ b, c < 256) (hl : b.length < 18446744073709551616) (x : Vl) (n : Nat) (h : decK b = some (x, n)) :
    x.right = true ∧ x.fair ∧ 0 < n ∧ n ≤ b.length ∧ encK x = b.take n ∧ x.s.size ≤ b.length := by
  cases b with
  | nil => simp [decK] at h
  | cons k r =>
    rw [decK] at h
    by_cases h16 : k = 16
    · rw [if_pos h16] at h
      simp only [Option.some.injEq, Prod.mk.injEq] at h
      obtain ⟨rfl, rfl⟩ := h
      subst h16
      exact ⟨rfl, ⟨by simp, by simp, by simp [ByteArray.size]⟩, by omega, by simp, by simp [encK], by simp [ByteArray.size]⟩
    · rw [if_neg h16] at h
      by_cases h17 : k = 17
      · rw [if_pos h17] at h
        by_cases h8 : 8 ≤ r.length
        · rw [if_pos h8] at h
          simp only [Option.some.injEq, Prod.mk.injEq] at h
          obtain ⟨rfl, rfl⟩ := h
          obtain ⟨w1, w2⟩ := whole8_unB (r.take 8) (by rw [List.length_take]; omega) (fun c hc => h256 c (by simp [List.mem_of_mem_take hc]))
          refine ⟨rfl, ⟨by simp, ⟨by simp only; omega, by simp only; omega⟩, by simp [ByteArray.size]⟩, by omega, by simp; omega, ?_, by simp [ByteArray.size]⟩
          unfold encK
          rw [if_neg (by simp), if_pos rfl, List.take_succ_cons, h17]
          have : up64 ((unB (r.take 8) : Int) - 9223372036854775808) = unB (r.take 8) := by unfold up64; omega
          rw [this, w1]
        · rw [if_neg h8] at h; cases h
      · rw [if_neg h17] at h
        by_cases h18 : k = 18 ∨ k = 19
        · rw [if_pos h18] at h
          cases hu : unesc r with
          | none => rw [hu] at h; cases h
          | some p =>
            obtain ⟨s, m⟩ := p
            rw [hu] at h
            simp only [Option.some.injEq, Prod.mk.injEq] at h
            obtain ⟨rfl, rfl⟩ := h
            obtain ⟨i1, i2, i3, i4⟩ := esc_unesc r.length r (Nat.le_refl _) s m hu
            have hs256 : ∀ c ∈ s, c < 256 := fun c hc => h256 c (by simp [i4 c hc])
            have hsl : s.length ≤ r.length := by
              have e := congrArg List.length i3
              rw [List.length_append, List.length_take] at e
              have hesc : s.length ≤ (escL s).length := by
                clear e i3 i4 hu hs256
                induction s with
                | nil => simp
                | cons c s ih =>
                  by_cases hc : c = 0
                  · subst hc; rw [escL_cons0]; simp; omega
                  · rw [escL_cons hc]; simp; omega
              simp only [List.length_cons, List.length_nil] at e
              omega
            refine ⟨?_, ⟨by simp only; omega, by simp, by rw [strN_size]; simp at hl; omega⟩, by omega, by simp; omega, ?_, by rw [strN_size]; simp; omega⟩
            · unfold Vl.right
              rw [if_neg (by simp only; omega), if_neg (by simp only; omega), if_pos (by simp only; omega)]; rfl
            · have e0 : ¬ (k - 16 = 0) := by omega
              have e1 : ¬ (k - 16 = 1) := by omega
              unfold encK
              simp only [if_neg e0, if_neg e1]
              rw [bytesOf_strN s hs256, show 1 + m = m + 1 by omega, List.take_succ_cons, i3]
              congr 1; omega
        · rw [if_neg h18] at h; cases h

theorem keyL_cons (x : Vl) (l : List Vl) : keyL (x :: l) = encK x ++ keyL l := rfl
theorem keyL_snoc (l : List Vl) (x : Vl) : keyL (l ++ [x]) = keyL l ++ encK x := by simp [keyL]
theorem keyL_take (l : List Vl) (i : Nat) (h : i < l.length) : keyL (l.take (i + 1)) = keyL (l.take i) ++ encK l[i] := by
  rw [List.take_succ_eq_append_getElem h, keyL_snoc]

theorem tup_enc : ∀ (l : List Vl) (acc : List Vl) (f : Nat), (∀ x ∈ l, x.right = true) → (∀ x ∈ l, x.fair) → acc.length + l.length ≤ 16 → (keyL l).length ≤ f → tupF f acc (keyL l) = some (acc ++ l)
  | [], acc, f, _, _, _, _ => by
    cases f with
    | zero => simp [tupF, keyL]
    | succ f => simp [tupF, keyL]
  | x :: l, acc, f, hr, hf, h16, hlen => by
    have hp := encK_pos x
    rw [keyL_cons] at hlen ⊢
    rw [List.length_append] at hlen
    have hne : encK x ++ keyL l ≠ [] := by intro h; have := congrArg List.length h; rw [List.length_append] at this; simp only [List.length_nil] at this; omega
    cases f with
    | zero => omega
    | succ f =>
      rw [tupF, if_neg hne, decK_enc (keyL l) x (hr x (by simp)) (hf x (by simp))]
      simp only []
      rw [if_neg (by simp at h16; omega), List.drop_left]
      rw [tup_enc l (acc ++ [x]) f (fun y hy => hr y (by simp [hy])) (fun y hy => hf y (by simp [hy])) (by simp at h16 ⊢; omega) (by omega)]
      simp

theorem enc_tup : ∀ (f : Nat) (acc : List Vl) (b : List Nat), (∀ c ∈ b, c < 256) → b.length ≤ f → b.length < 18446744073709551616 → acc.length ≤ 16 → ∀ L, tupF f acc b = some L →
    ∃ M, L = acc ++ M ∧ keyL M = b ∧ (∀ x ∈ M, x.right = true) ∧ (∀ x ∈ M, x.fair) ∧ L.length ≤ 16 ∧ (∀ x ∈ M, x.s.size ≤ b.length)
  | 0, acc, b, _, _, _, ha, L, h => by
    rw [tupF] at h
    by_cases hb : b = []
    · rw [if_pos hb] at h
      simp only [Option.some.injEq] at h
      subst h hb
      exact ⟨[], by simp, rfl, by simp, by simp, ha, by simp⟩
    · rw [if_neg hb] at h; cases h
  | f + 1, acc, b, h256, hlen, hl, ha, L, h => by
    rw [tupF] at h
    by_cases hb : b = []
    · rw [if_pos hb] at h
      simp only [Option.some.injEq] at h
      subst h hb
      exact ⟨[], by simp, rfl, by simp, by simp, ha, by simp⟩
    · rw [if_neg hb] at h
      cases hd : decK b with
      | none => rw [hd] at h; cases h
      | some p =>
        obtain ⟨x, n⟩ := p
        rw [hd] at h
        simp only [] at h
        by_cases h16 : acc.length = 16
        · rw [if_pos h16] at h; cases h
        · rw [if_neg h16] at h
          obtain ⟨d1, d2, d3, d4, d5, d6⟩ := enc_decK b h256 hl x n hd
          obtain ⟨M, e1, e2, e3, e4, e5, e6⟩ := enc_tup f (acc ++ [x]) (b.drop n) (fun c hc => h256 c (List.mem_of_mem_drop hc)) (by rw [List.length_drop]; omega) (by rw [List.length_drop]; omega) (by simp; omega) L h
          refine ⟨x :: M, by simp [e1], by rw [keyL_cons, e2, d5, List.take_append_drop], ?_, ?_, e5, ?_⟩
          · intro y hy; rcases List.mem_cons.1 hy with rfl | hy
            · exact d1
            · exact e3 y hy
          · intro y hy; rcases List.mem_cons.1 hy with rfl | hy
            · exact d2
            · exact e4 y hy
          · intro y hy; rcases List.mem_cons.1 hy with rfl | hy
            · exact d6
            · have := e6 y hy; rw [List.length_drop] at this; omega
end Go.Proofs.YtbnddpicpomakaaGreatDoor

/- Slices of values of SQL: what came in, and rows of the call's own. -/
set_option linter.unusedSimpArgs false
set_option linter.unusedVariables false
set_option maxRecDepth 100000
namespace Go.Proofs.YtbnddpicpomakaaGreatDoor
open Go.RowKit

/-- The address leads to the values l, in blocks below number N. -/
def Vs (N : Nat) (w : World) (a : Option Addr) (l : List Vl) : Prop :=
  l = [] ∨ ∃ b o, a = some ⟨b, o, none⟩ ∧ b < N ∧ ∀ (i : Nat) (x : Vl), l[i]? = some x →
    w.cell? ⟨b, o + i * 3, none⟩ = some (.int .u8 x.k) ∧ w.cell? ⟨b, o + i * 3 + 1, none⟩ = some (.int .i64 x.n) ∧ w.cell? ⟨b, o + i * 3 + 2, none⟩ = some (.string x.s)

theorem Vs.below {N : Nat} {w w' : World} {a : Option Addr} {l : List Vl} (h : Vs N w a l) (hb : Below N w w') : Vs N w' a l := by
  rcases h with h | ⟨b, o, ha, hN, hc⟩
  · exact .inl h
  · exact .inr ⟨b, o, ha, hN, fun i x hi => ⟨(hb.cell (p := ⟨b, _, none⟩) hN).trans (hc i x hi).1, (hb.cell (p := ⟨b, _, none⟩) hN).trans (hc i x hi).2.1, (hb.cell (p := ⟨b, _, none⟩) hN).trans (hc i x hi).2.2⟩⟩

theorem Vs.mono {N M : Nat} {w : World} {a : Option Addr} {l : List Vl} (h : Vs N w a l) (hM : N ≤ M) : Vs M w a l := by
  rcases h with h | ⟨b, o, ha, hN, hc⟩
  · exact .inl h
  · exact .inr ⟨b, o, ha, by omega, hc⟩

/-- The k-th value of such a slice, in a world. -/
def CellV (w : World) (b o : Nat) (x : Vl) : Prop :=
  w.cell? ⟨b, o, none⟩ = some (.int .u8 x.k) ∧ w.cell? ⟨b, o + 1, none⟩ = some (.int .i64 x.n) ∧ w.cell? ⟨b, o + 2, none⟩ = some (.string x.s)

theorem Vs.at_ {N : Nat} {w : World} {a : Option Addr} {l : List Vl} (h : Vs N w a l) {k : Nat} (hk : k < l.length) : ∃ b o, a = some ⟨b, o, none⟩ ∧ b < N ∧ CellV w b (o + k * 3) l[k] := by
  rcases h with h | ⟨b, o, ha, hN, hc⟩
  · subst h; simp at hk
  · exact ⟨b, o, ha, hN, hc k l[k] (List.getElem?_eq_getElem hk)⟩

theorem CellV.below {w w' : World} {b o N : Nat} {x : Vl} (h : CellV w b o x) (hb : Below N w w') (hN : b < N) : CellV w' b o x :=
  ⟨(hb.cell (p := ⟨b, _, none⟩) hN).trans h.1, (hb.cell (p := ⟨b, _, none⟩) hN).trans h.2.1, (hb.cell (p := ⟨b, _, none⟩) hN).trans h.2.2⟩

/-- The cells of values. -/
def cellsV (l : List Vl) : List Value := l.flatMap fun x => [.int .u8 x.k, .int .i64 x.n, .string x.s]

theorem cellsV_len (l : List Vl) : (cellsV l).length = l.length * 3 := by
  induction l with
  | nil => rfl
  | cons x r ih => simp only [cellsV, List.flatMap_cons, List.length_append, List.length_cons, List.length_nil] at *; omega

theorem cellsV_get : ∀ (l : List Vl) (i : Nat) (x : Vl), l[i]? = some x → (cellsV l)[i * 3]? = some (.int .u8 x.k) ∧ (cellsV l)[i * 3 + 1]? = some (.int .i64 x.n) ∧ (cellsV l)[i * 3 + 2]? = some (.string x.s)
  | [], i, x, h => by simp at h
  | y :: r, 0, x, h => by
    simp at h; subst h
    simp [cellsV]
  | y :: r, i + 1, x, h => by
    have := cellsV_get r i x (by simpa using h)
    have e : ∀ j, (cellsV (y :: r))[(i + 1) * 3 + j]? = (cellsV r)[i * 3 + j]? := by
      intro j
      show ([Value.int .u8 y.k, Value.int .i64 y.n, Value.string y.s] ++ cellsV r)[(i + 1) * 3 + j]? = _
      rw [List.getElem?_append_right (by simp; omega)]
      congr 1
      simp; omega
    exact ⟨(e 0).trans this.1, (e 1).trans this.2.1, (e 2).trans this.2.2⟩

/-- A row of values of the call's own. -/
def OwnV (w : World) (base : Nat) (T : TypeId) (v : Value) (l : List Vl) : Prop := w.ownsRow base T 3 v l.length (cellsV l)

theorem OwnV.nil (w : World) (base : Nat) (T : TypeId) : OwnV w base T (.slice none 0 0) [] := World.ownsRow_nil _ _ _ _

theorem OwnV.slice {w : World} {base : Nat} {T : TypeId} {v : Value} {l : List Vl} (h : OwnV w base T v l) : ∃ a cap, v = .slice a l.length cap ∧ l.length ≤ cap ∧ Vs w.heap.size w a l := by
  obtain ⟨h1, h2⟩ := h
  rcases h2 with ⟨hv, hn⟩ | ⟨g, cap, cur, hv, hg, hh, hnc, hcm, hcs, hcur⟩
  · have : l = [] := List.length_eq_zero_iff.1 hn
    subst this
    exact ⟨none, 0, by simpa using hv, by simp, .inl rfl⟩
  · refine ⟨some ⟨g, 0, none⟩, cap, hv, hnc, .inr ⟨g, 0, rfl, ?_, ?_⟩⟩
    · by_cases hlt : g < w.heap.size
      · exact hlt
      · rw [Array.getElem?_eq_none (by omega)] at hh; simp at hh
    · intro i x hi
      have hil : i < l.length := by
        by_cases hlt : i < l.length
        · exact hlt
        · rw [List.getElem?_eq_none (by omega)] at hi; simp at hi
      have key : ∀ j u, j < l.length * 3 → (cellsV l)[j]? = some u → w.cell? ⟨g, 0 + j, none⟩ = some u := by
        intro j u hj hu
        rw [← hcur, List.getElem?_take_of_lt (by omega)] at hu
        simp only [World.cell?, hh, Nat.zero_add]
        simpa using hu
      have hx := cellsV_get l i x hi
      refine ⟨?_, ?_, ?_⟩
      · exact key _ _ (by omega) hx.1
      · have := key _ _ (by omega) hx.2.1; rw [← Nat.add_assoc] at this; exact this
      · have := key _ _ (by omega) hx.2.2; rw [← Nat.add_assoc] at this; exact this

theorem OwnV.below {w w' : World} {base N : Nat} {T : TypeId} {v : Value} {l : List Vl} (h : OwnV w base T v l) (hN : w.heap.size ≤ N) (hb : Below N w w') : OwnV w' base T v l := by
  obtain ⟨h1, h2⟩ := h
  refine ⟨h1, ?_⟩
  rcases h2 with h2 | ⟨g, cap, cur, hv, hg, hh, r⟩
  · exact .inl h2
  · refine .inr ⟨g, cap, cur, hv, hg, ?_, r⟩
    rw [hb.block g (by
      by_cases hlt : g < w.heap.size
      · omega
      · rw [Array.getElem?_eq_none (by omega)] at hh; simp at hh)]
    exact hh

/-- 'append(l, x)': x has just been laid in a block of its own. -/
theorem wpList_appV1 {P : Program} {ops : Array Oper} {rest : List Oper} {o : Oper} {a : Act} {Q : Exit → Act → World → Prop} (hgd : o.guard = none) (s x : Operand) (t : TypeId)
    (ho : o.op = .call { callee := .builtin .append, args := #[s, x], argTypes := #[t, t] })
    (base : Nat) (e : TypeId) (i : TypeInfo) (z : Value) (bytes : Nat) (ht : P.underlying t = some (.slice e)) (hi : P.info? e = some i) (hz : i.zero = some z) (hzs : z.cells.size = 3)
    (hsize : i.size = 3) (hby : i.bytes = bytes) (hb100 : bytes ≤ 100)
    (v : Value) (l : List Vl) (w : World) (hown : OwnV w base e v l) (hs : a.eval s = v) (k n : Int) (t1 : ByteArray) (y : Vl) (hk : k = (y.k : Int)) (hn : n = y.n) (ht1 : t1 = y.s)
    (hx : a.eval x = .slice (some ⟨w.heap.size, 0, none⟩) 1 1) (hlen : l.length < 1000000000000) (hbase : base ≤ w.heap.size)
    (h : ∀ v' w', OwnV w' base e v' (l ++ [y]) → Below base w w' → w.heap.size < w'.heap.size → wpList P ops Q rest (a.put o.dst v') w') :
    wpList P ops Q (o :: rest) a (w.alloc (.cells #[.int .u8 k, .int .i64 n, .string t1] e)) := by
  subst hk hn ht1
  refine wpList_append_own (w.alloc (.cells #[.int .u8 (y.k : Int), .int .i64 y.n, .string y.s] e)) hgd s x t ho base e i z 3 bytes ht hi hz hsize hby hzs (by omega) v l.length _ hs (World.ownsRow.alloc hown _) ⟨w.heap.size, 0, none⟩ 1 1 [.int .u8 (y.k : Int), .int .i64 y.n, .string y.s] hx rfl ?_ ?_ ?_ ?_ ?_ ?_
  · intro j u hj
    match j, hj with
    | 0, hj => simp at hj; subst hj; simp [Addr.add]
    | 1, hj => simp at hj; subst hj; simp [Addr.add]
    | 2, hj => simp at hj; subst hj; simp [Addr.add]
  · intro u hu; simp at hu; rcases hu with rfl | rfl | rfl <;> rfl
  · unfold maxLen; omega
  · have : (l.length + 1) * bytes ≤ 1000000000000 * 100 := Nat.mul_le_mul (by omega) hb100
    omega
  · simp; omega
  · intro v' w' hown' hgrow _
    refine h v' w' ?_ ?_ ?_
    · unfold OwnV
      have e2 : cellsV (l ++ [y]) = cellsV l ++ [.int .u8 (y.k : Int), .int .i64 y.n, .string y.s] := by simp [cellsV]
      rw [e2]
      simpa using hown'
    · exact ((Below.refl base w).alloc hbase _).grown hgrow (by simp; omega) (fun j hj => (World.ownsRow.lt hown j hj).1)
    · have := hgrow.size; simp at this; omega

/-- A row of one byte that has just been made. -/
theorem OwnB.new (w : World) (base : Nat) (T : TypeId) (c : Nat) (n : Int) (g : Nat) (hn : n = (c : Int)) (hc : c < 256) (hb : base ≤ w.heap.size) (hg : g = w.heap.size) : OwnB (w.alloc (.cells #[.int .u8 n] T)) base T (.slice (some ⟨g, 0, none⟩) 1 1) [c] := by
  subst hn hg
  refine ⟨by simpa using hc, by simp, .inr ⟨w.heap.size, 1, #[.int .u8 (c : Int)], by simp, hb, heap_alloc_new _ _, by simp, by unfold maxLen; omega, by simp, by simp⟩⟩

/-- A call hands back bytes and an error. -/
def RetBE (w : World) (r : List Nat × Int) (e : Ending) (w' : World) : Prop :=
  ∃ a cap, e = .returned (.tuple #[.slice a r.1.length cap, .int .i64 r.2]) ∧ r.1.length ≤ cap ∧ Bs w'.heap.size w' a r.1 ∧ Below w.heap.size w w'

/-- A call hands back values and an error. -/
def RetVE (w : World) (r : List Vl × Int) (e : Ending) (w' : World) : Prop :=
  ∃ a cap, e = .returned (.tuple #[.slice a r.1.length cap, .int .i64 r.2]) ∧ r.1.length ≤ cap ∧ Vs w'.heap.size w' a r.1 ∧ Below w.heap.size w w'
end Go.Proofs.YtbnddpicpomakaaGreatDoor

/- The walk of hindsightlaw03.Great. -/
set_option linter.unusedSimpArgs false
set_option linter.unusedVariables false
set_option maxRecDepth 100000
namespace Go.Proofs.YtbnddpicpomakaaGreatDoor
open Go.RowKit

/-- The sizes of the texts together. -/
def sumS (l : List Vl) : Nat := (l.map fun x => x.s.size).sum
theorem sumS_take (l : List Vl) (k : Nat) (h : k < l.length) : sumS (l.take (k + 1)) = sumS (l.take k) + l[k].s.size := by
  unfold sumS; rw [List.take_succ_eq_append_getElem h, List.map_append, List.sum_append]; simp only [List.map_cons, List.map_nil, List.sum_cons, List.sum_nil]; omega

/-- A row that a statement isn't too much for. -/
def Small (l : List Vl) : Prop := l.length ≤ 40 ∧ (∀ x ∈ l, x.s.size ≤ 9000) ∧ sumS l ≤ 30000

def RetG (w : World) (l : List Vl) (e : Ending) (w' : World) : Prop := ∃ g : Bool, e = .returned (.bool g) ∧ (g = false → Small l) ∧ w = w'

end Go.Proofs.YtbnddpicpomakaaGreatDoor

/- The walks of record.isRow and what it calls. -/
set_option linter.unusedSimpArgs false
set_option linter.unusedVariables false
set_option maxRecDepth 100000
namespace Go.Proofs.YtbnddpicpomakaaGreatDoor
open Go.RowKit

/-- Where the first one is that isn't valid: -1 if there is none. -/
def RetIx (w : World) (l : List Vl) (e : Ending) (w' : World) : Prop := ∃ r : Int, e = .returned (.int .i64 r) ∧ (decide (0 ≤ r) = !(l.all Vl.right)) ∧ -1 ≤ r ∧ Below w.heap.size w w'

theorem all_take (l : List Vl) (k : Nat) (h : k < l.length) : (l.take (k + 1)).all Vl.right = ((l.take k).all Vl.right && l[k].right) := by
  rw [List.take_succ_eq_append_getElem h, List.all_append]; simp only [List.all_cons, List.all_nil, Bool.and_true]

theorem all_false (l : List Vl) (k : Nat) (h : k < l.length) (hk : l[k].right = false) : l.all Vl.right = false := by
  rw [List.all_eq_false]
  exact ⟨l[k], List.getElem_mem h, by simp [hk]⟩

end Go.Proofs.YtbnddpicpomakaaGreatDoor

/- The walks of key.isTuple and what it calls. -/
set_option linter.unusedSimpArgs false
set_option linter.unusedVariables false
set_option maxRecDepth 100000
namespace Go.Proofs.YtbnddpicpomakaaGreatDoor
open Go.RowKit

end Go.Proofs.YtbnddpicpomakaaGreatDoor
