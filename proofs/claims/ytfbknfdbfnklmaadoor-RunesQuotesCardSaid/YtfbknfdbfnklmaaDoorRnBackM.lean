/- The mathematics of the law RunesBack: a number's digits. -/
import Derived.Test.YtfbknfdbfnklmaaDoorRnNum
import Derived.Test.YtfbknfdbfnklmaaDoorUConv
namespace Go.Proofs.YtfbknfdbfnklmaaDoor
set_option linter.unusedSimpArgs false
open Go.RowKit

theorem valF_snoc (a : Nat) (l : List Nat) (c : Nat) : valF a (l ++ [c]) = valF a l * 10 + (c - 48) := by
  unfold valF; rw [List.foldl_append]; rfl

theorem dec_facts (u : Nat) : (∀ c ∈ Lib.decDigits u, 48 ≤ c.toNat ∧ c.toNat ≤ 57) ∧ valF 0 ((Lib.decDigits u).map UInt8.toNat) = u ∧ 0 < (Lib.decDigits u).length ∧ (∀ k, u < 10 ^ (k + 1) → (Lib.decDigits u).length ≤ k + 1) := by
  induction u using Nat.strongRecOn with
  | _ u ih =>
    by_cases h : u < 10
    · have e : Lib.decDigits u = [UInt8.ofNat (48 + u)] := by rw [Lib.decDigits, dif_pos h]
      have h2 : (UInt8.ofNat (48 + u)).toNat = 48 + u := by simp; omega
      rw [e]
      refine ⟨?_, ?_, by simp, fun k _ => by simp⟩
      · intro c hc
        rw [List.mem_singleton] at hc
        subst hc
        omega
      · show valF 0 [(UInt8.ofNat (48 + u)).toNat] = u
        rw [h2]; simp [valF]
    · have e : Lib.decDigits u = Lib.decDigits (u / 10) ++ [UInt8.ofNat (48 + u % 10)] := by rw [Lib.decDigits, dif_neg h]
      have h2 : (UInt8.ofNat (48 + u % 10)).toNat = 48 + u % 10 := by simp; omega
      obtain ⟨i1, i2, i3, i4⟩ := ih (u / 10) (by omega)
      rw [e]
      refine ⟨?_, ?_, by simp, ?_⟩
      · intro c hc
        rcases List.mem_append.1 hc with hc | hc
        · exact i1 c hc
        · rw [List.mem_singleton] at hc
          subst hc
          omega
      · rw [List.map_append, List.map_singleton, valF_snoc, i2, h2]
        omega
      · intro k hk
        rw [List.length_append, List.length_singleton]
        cases k with
        | zero => omega
        | succ k =>
          have := i4 k (by rw [Nat.pow_succ] at hk; omega)
          omega

theorem bytesU_baL (l : List UInt8) : bytesU (baL l) = l.map UInt8.toNat := rfl

theorem num_digits (n : Int) (h0 : 0 ≤ n) (h1 : n ≤ 9223372036854775807) : numV (baL (Lib.itoa n)) = (n, 0) ∧ (baL (Lib.itoa n)).size ≤ 19 := by
  obtain ⟨u, rfl⟩ := Int.eq_ofNat_of_zero_le h0
  have e : Lib.itoa (u : Int) = Lib.decDigits u := by unfold Lib.itoa; rw [if_neg (by omega)]; simp
  obtain ⟨i1, i2, i3, i4⟩ := dec_facts u
  rw [e]
  have hd : digitsB (baL (Lib.decDigits u)) = true := by
    rw [digitsB_true, baL_size]
    refine ⟨i3, fun i hi => ?_⟩
    unfold byteN
    rw [bytesU_baL, List.getD_eq_getElem?_getD, List.getElem?_map, List.getElem?_eq_getElem hi]
    exact i1 _ (List.getElem_mem hi)
  refine ⟨?_, ?_⟩
  · unfold numV
    rw [if_neg (by rw [hd]; simp), show valL (bytesU (baL (Lib.decDigits u))) = u from i2, if_neg (by omega)]
  · rw [baL_size]
    exact i4 18 (by have : (10 : Nat) ^ (18 + 1) = 10000000000000000000 := by decide
                    omega)

theorem unq_quote (s : ByteArray) : unquoteS (quoteS s) = (s, 0) := by
  unfold unquoteS quoteS
  rw [baL_list, unquote_quote]
  simp [baL]

theorem quote_size (s : ByteArray) : (quoteS s).size ≤ 2 * s.size + 2 := by
  unfold quoteS
  rw [baL_size]
  unfold quoteL
  have := (dblL_len s.data.toList).2
  have e : s.data.toList.length = s.size := by simp
  simp only [List.length_append, List.length_cons, List.length_nil]
  omega

theorem strP_back {s : ByteArray} {p : List Nat} (h : decS (bytesU s) = some p) : strP p = s ∧ ∀ v ∈ p, okP v = true := by
  obtain ⟨h1, h2⟩ := (decS_iff (bytesU_lt s) p).1 h
  refine ⟨?_, h1⟩
  unfold strP
  rw [h2]
  apply ByteArray.ext
  unfold bytesU
  have hid : (UInt8.ofNat ∘ UInt8.toNat) = id := by funext c; simp
  rw [List.map_map, hid, List.map_id]

theorem split_strP {p : List Nat} (h : ∀ v ∈ p, okP v = true) : decS (bytesU (strP p)) = some p ∧ (strP p).size ≤ 4 * p.length := by
  rw [bytesU_strP h]
  exact ⟨decS_encS h, by rw [strP_size]; exact (encS_len p).2⟩
end Go.Proofs.YtfbknfdbfnklmaaDoor
