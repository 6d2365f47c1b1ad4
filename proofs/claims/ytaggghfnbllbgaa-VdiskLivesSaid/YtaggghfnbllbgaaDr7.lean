/- The reference's disk: digit. -/
import Derived.Test.YtaggghfnbllbgaaDr4
namespace Go.Proofs.Ytaggghfnbllbgaa
set_option linter.unusedSimpArgs false
open Go.RowKit

theorem div_pow (c k : Nat) : c / 2 ^ (k + 1) = c / 2 ^ k / 2 := by rw [Nat.pow_succ, Nat.div_div_eq_div_mul]

set_option maxRecDepth 100000 in
set_option maxHeartbeats 4000000 in
theorem Rdigit (a : Option Addr) (n cap : Nat) (l : List Nat) (i N : Nat) (w : World) (hB : Bs N w a l) (hn : n = l.length) (hi : i ≤ 1000000000) (hnm : n ≤ 1000000000000) :
    Calls Try.prog 81 #[.slice a n cap, .int .i64 (i : Int)] w fun e w' => e = .returned (.bool (bitOf l i)) ∧ w' = w := by
  have hdiv : ((i : Int) / 8) = ((i / 8 : Nat) : Int) := by omega
  have htd : (i : Int).tdiv 8 = ((i / 8 : Nat) : Int) := by rw [Int.tdiv_eq_ediv_of_nonneg (by omega)]; omega
  have htm : (i : Int).tmod 8 = ((i % 8 : Nat) : Int) := by rw [Int.tmod_eq_emod_of_nonneg (by omega)]; omega
  by_cases hlt : i / 8 < n
  · obtain ⟨c, hc⟩ : ∃ c, l[i / 8]? = some c := ⟨_, List.getElem?_eq_getElem (by omega)⟩
    have hc256 := hB.lt hc
    obtain ⟨b, o, rfl, _, hcell⟩ : ∃ b o, a = some ⟨b, o, none⟩ ∧ b < N ∧ ∀ (i c : Nat), l[i]? = some c → w.cell? ⟨b, o + i, none⟩ = some (.int .u8 (c : Int)) := by
      rcases hB.2 with h0 | h
      · rw [h0] at hc; simp at hc
      · exact h
    have e1 := hcell _ _ hc
    have HBit : Hid (bitOf l i = (c / 2 ^ (i % 8) % 2 == 1)) := by
      show bitOf l i = _
      unfold bitOf
      rw [List.getD_eq_getElem?_getD, hc]; rfl
    obtain ⟨m, hm⟩ : ∃ m, i % 8 = m := ⟨_, rfl⟩
    have hm8 : m < 8 := by omega
    rw [hm] at htm HBit
    obtain ⟨q, hq⟩ : ∃ q, i / 8 = q := ⟨_, rfl⟩
    rw [hq] at htd e1 hlt hdiv
    have q1 : decide ((n : Int) ≤ (q : Int)) = false := by rw [decide_eq_false_iff_not]; omega
    have q1' : decide (n ≤ q) = false := by rw [decide_eq_false_iff_not]; omega
    have hqn : (q : Int) < (n : Int) := by omega
    clear hm hq hc hcell hB hn
    go_enter Try.func81, Try.ntmps81
    go_wp2
    go_loopw [5, 6] (fun cv kv wr => ∃ k c' : Nat, k ≤ m ∧ kv = .int .i64 k ∧ cv = .int .u8 c' ∧ c' < 256 ∧ Hid (c' = c / 2 ^ k) ∧ wr = w) (fun _ kv _ => m - (intOf kv).toNat)
    case atStart => exact ⟨0, c, by omega, rfl, rfl, hc256, by show c = c / 2 ^ 0; simp, rfl⟩
    case round =>
      obtain ⟨k, c', hk, rfl, rfl, hc', HC, rfl⟩ := hrel
      by_cases hkm : k < m
      · have q2 : decide ((k : Int) < (m : Int)) = true := by rw [decide_eq_true_eq]; omega
        have HC2 : Hid (c' / 2 = c / 2 ^ (k + 1)) := by show c' / 2 = _; rw [div_pow, ← HC.out]
        have ht2 : (c' : Int).tdiv 2 = ((c' / 2 : Nat) : Int) := by rw [Int.tdiv_eq_ediv_of_nonneg (by omega)]; omega
        clear HC
        go_wp2
        go_roundw
        case rel => exact ⟨k + 1, c' / 2, by omega, by go_num, by first | rfl | go_num, by omega, HC2.out, by trivial⟩
        case measure => first | (simp [intOf]; done) | (simp [intOf]; omega)
      · obtain rfl : k = m := by omega
        have q2 : decide ((k : Int) < (k : Int)) = false := by rw [decide_eq_false_iff_not]; omega
        have ht2 : (c' : Int).tmod 2 = ((c' % 2 : Nat) : Int) := by rw [Int.tmod_eq_emod_of_nonneg (by omega)]; omega
        obtain ⟨bb, hbb⟩ : ∃ bb, (c' % 2 == 1) = bb := ⟨_, rfl⟩
        have q3 : (((c' % 2 : Nat) : Int) == 1) = bb := by
          rw [← hbb, Bool.eq_iff_iff]; simp only [beq_iff_eq]; omega
        have q4 : ((c' : Int) % 2 == 1) = bb := by
          rw [← hbb, Bool.eq_iff_iff]; simp only [beq_iff_eq]; omega
        have HBB : Hid (bitOf l i = bb) := by
          show bitOf l i = bb
          rw [HBit.out, ← HC.out, hbb]
        clear HC hbb HBit
        go_wp2
        go_ret
        exact ⟨by rw [HBB.out]; rfl, rfl⟩
  · have HBit : Hid (bitOf l i = false) := by
      show bitOf l i = false
      unfold bitOf
      rw [List.getD_eq_getElem?_getD, List.getElem?_eq_none (by omega)]
      simp
    obtain ⟨q, hq⟩ : ∃ q, i / 8 = q := ⟨_, rfl⟩
    rw [hq] at htd hlt hdiv
    have q1 : decide ((n : Int) ≤ (q : Int)) = true := by rw [decide_eq_true_eq]; omega
    have q1' : decide (n ≤ q) = true := by rw [decide_eq_true_eq]; omega
    clear hB hn
    go_enter Try.func81, Try.ntmps81
    go_wp2
    go_ret
    exact ⟨by rw [HBit.out]; rfl, rfl⟩
end Go.Proofs.Ytaggghfnbllbgaa
