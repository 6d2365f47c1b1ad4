/- Plain mathematics of VarintBack: integers and texts go there and back. -/
import Derived.Test.YtfldjmjnjeemeaaVText2
namespace Go.Proofs.Ytfldjmjnjeemeaa
open Go.RowKit

theorem getS_put (B : List Nat) : ∀ (x i v : Nat), i ≤ 9 → (i = 0 ∨ 0 < x) → x * 128 ^ i < 18446744073709551616 → getS (putL x ++ B) i v = (v + x * 128 ^ i, i + (putL x).length, 0) := by
  intro x
  induction x using putL.induct with
  | case1 x h =>
    intro i v hi hx hs
    rw [putL_small h]
    have h9 : i = 9 → x ≤ 1 := by
      rintro rfl
      have : (128 : Nat) ^ 9 = 9223372036854775808 := by decide
      omega
    simp only [List.cons_append, List.nil_append, getS]
    rw [if_neg (by omega), if_neg (by omega), if_pos h]
    simp
  | case2 x h ih =>
    intro i v hi hx hs
    rw [putL_step h]
    have h9 : i ≠ 9 := by
      rintro rfl
      have : (128 : Nat) ^ 9 = 9223372036854775808 := by decide
      omega
    simp only [List.cons_append, getS]
    rw [if_neg (by omega), if_neg (by omega), if_neg (by omega)]
    have e1 : x / 128 * 128 ^ (i + 1) + x % 128 * 128 ^ i = x * 128 ^ i := by
      have := Nat.div_add_mod x 128
      rw [Nat.pow_succ, Nat.mul_comm (128 ^ i) 128, ← Nat.mul_assoc, ← Nat.add_mul, Nat.mul_comm (x / 128) 128, this]
    rw [ih (i + 1) (v + (x % 128 + 128 - 128) * 128 ^ i) (by omega) (.inr (by omega)) (by omega)]
    simp only [Nat.add_sub_cancel, List.length_cons, Prod.mk.injEq, and_true]
    omega

/-- The bytes of an integer, wherever they stand. -/
theorem getR_put (A B : List Nat) (x : Nat) (hx : x < 18446744073709551616) : getR (A ++ (putL x ++ B)) (A.length : Nat) = (x, (A.length : Int) + (putL x).length, 0) := by
  unfold getR
  rw [if_neg (by simp; omega)]
  have := getS_put B x 0 0 (by omega) (.inl rfl) (by simpa using hx)
  simp [this]

theorem textR_put (A : List Nat) (s : ByteArray) (hs : s.size < 18446744073709551616) : textR (A ++ textL s) (A.length : Nat) = (s, (((A ++ textL s).length : Nat) : Int), 0) := by
  unfold textR textL
  rw [getR_put A (bytesOf s) s.size hs]
  simp only [ne_eq, not_true_eq_false, if_false]
  rw [if_neg (by simp [bytesOf_len]; omega)]
  have e : ((A.length : Int) + (putL s.size).length).toNat = A.length + (putL s.size).length := by omega
  have e2 : List.drop (A.length + (putL s.size).length) (A ++ (putL s.size ++ bytesOf s)) = bytesOf s := by
    rw [← List.append_assoc, ← List.length_append, List.drop_left]
  rw [e, e2]
  rw [List.take_of_length_le (by rw [bytesOf_len]; omega), strN_bytesOf]
  simp [bytesOf_len]
  omega

/-- In one way alone. -/
theorem getS_only : ∀ (D : List Nat) (i v0 v n : Nat), (∀ c ∈ D, c < 256) → i ≤ 9 → getS D i v0 = (v, n, 0) →
    ∃ x, v = v0 + x * 128 ^ i ∧ n = i + (putL x).length ∧ (putL x).length ≤ D.length ∧ D.take (putL x).length = putL x ∧ (0 < i → x ≠ 0)
  | [], i, v0, v, n, _, _, h => by simp [getS] at h
  | c :: r, i, v0, v, n, hD, hi, h => by
    unfold getS at h
    split at h
    · simp at h
    · split at h
      · simp at h
      · split at h
        · rename_i h1 h2 h3
          simp only [Prod.mk.injEq, and_true] at h
          refine ⟨c, h.1.symm, ?_, ?_, ?_, ?_⟩
          · rw [putL_small h3]; simp; omega
          · rw [putL_small h3]; simp
          · rw [putL_small h3]; simp
          · omega
        · rename_i h1 h2 h3
          have hc := hD c (by simp)
          obtain ⟨x, e1, e2, e3, e4, e5⟩ := getS_only r (i + 1) (v0 + (c - 128) * 128 ^ i) v n (fun d hd => hD d (by simp [hd])) (by omega) h
          have hx := e5 (by omega)
          have hp : putL (c - 128 + 128 * x) = c :: putL x := by
            rw [putL_step (by omega)]
            congr 1
            · omega
            · congr 1; omega
          refine ⟨c - 128 + 128 * x, ?_, ?_, ?_, ?_, ?_⟩
          · rw [e1, Nat.add_mul, Nat.pow_succ, Nat.mul_comm (128 ^ i) 128, ← Nat.mul_assoc, Nat.mul_comm x 128]; omega
          · rw [hp, e2]; simp; omega
          · rw [hp]; simp; omega
          · rw [hp]; simp [e4]
          · omega

theorem getR_only (l : List Nat) (h256 : ∀ c ∈ l, c < 256) (at_ : Int) (v : Nat) (n : Int) (h : getR l at_ = (v, n, 0)) :
    0 ≤ at_ ∧ ∃ m : Nat, n = m ∧ at_ < n ∧ m ≤ l.length ∧ putL v = (l.drop at_.toNat).take (m - at_.toNat) := by
  unfold getR at h
  split at h
  · simp at h
  · rename_i h1
    obtain ⟨G, hG⟩ : ∃ G, getS (l.drop at_.toNat) 0 0 = G := ⟨_, rfl⟩
    obtain ⟨gv, gn, ge⟩ := G
    rw [hG] at h
    simp only [] at h
    split at h
    · rename_i h2
      subst h2
      obtain ⟨x, e1, e2, e3, e4, _⟩ := getS_only (l.drop at_.toNat) 0 0 gv gn (fun c hc => h256 c (List.mem_of_mem_drop hc)) (by omega) hG
      simp only [Prod.mk.injEq, and_true] at h
      have hx : x = v := by rw [← h.1, e1]; simp
      subst hx
      rw [List.length_drop] at e3
      have hp := putL_pos x
      refine ⟨by omega, (at_ + (gn : Int)).toNat, by omega, by omega, by omega, ?_⟩
      rw [show (at_ + (gn : Int)).toNat - at_.toNat = (putL x).length by omega]
      exact e4.symm
    · rename_i h2
      simp only [Prod.mk.injEq] at h
      exact absurd h.2.2 h2

/-- The bytes of all the integers of a list. -/
def allL (l : List Nat) : List Nat := l.flatMap putL
theorem allL_snoc (l : List Nat) (k : Nat) (h : k < l.length) : allL (l.take (k + 1)) = allL (l.take k) ++ putL l[k] := by
  unfold allL; rw [take_succ_n l k h, List.flatMap_append]; simp [List.flatMap_cons]
theorem allL_split (l : List Nat) (k : Nat) (h : k < l.length) : allL l = allL (l.take k) ++ (putL l[k] ++ allL (l.drop (k + 1))) := by
  unfold allL
  conv => lhs; rw [← List.take_append_drop k l, List.drop_eq_getElem_cons h]
  rw [List.flatMap_append, List.flatMap_cons]
theorem allL_len (l : List Nat) (hl : ∀ c ∈ l, c < 18446744073709551616) : (allL l).length ≤ 10 * l.length := by
  induction l with
  | nil => simp [allL]
  | cons c r ih =>
    have := ih (fun d hd => hl d (by simp [hd]))
    have := putL_len10 (hl c (by simp))
    simp [allL] at *
    omega
theorem allL_lt (l : List Nat) : ∀ c ∈ allL l, c < 256 := by
  intro c hc
  obtain ⟨d, _, hd⟩ := List.mem_flatMap.1 hc
  exact putL_byte d c hd
end Go.Proofs.Ytfldjmjnjeemeaa
