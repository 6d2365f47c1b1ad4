/- keeps. -/
import Derived.Test.YtaggghfnbllbgaaDk3
namespace Go.Proofs.Ytaggghfnbllbgaa
set_option linter.unusedSimpArgs false
open Go.RowKit

theorem keeps_any (a : Option Addr) (n cap : Nat) (l : List Nat) (i N : Nat) (w : World) (hB : Bs N w a l) (hn : n = l.length) (hi : i ≤ 1000000000) (hnm : n ≤ 1000000000000) :
    Calls Try.prog 54 #[.slice a n cap, .int .i64 (i : Int)] w fun e w' => e = .returned (.bool (bitOf l i)) ∧ w' = w := by
  have HN := Lib.hid hn
  by_cases h : i / 8 < n
  · obtain ⟨c, hc⟩ : ∃ c, l[i / 8]? = some c := ⟨_, List.getElem?_eq_getElem (by omega)⟩
    have hc2 := hB.lt hc
    rcases hB.2 with h0 | ⟨b, o, rfl, hbN, hcell⟩
    · subst h0; simp at hc
    · have hcl := hcell _ _ hc
      have HB : Hid (bitOf l i = (c / 2 ^ (i % 8) % 2 == 1)) := by
        show bitOf l i = _
        unfold bitOf
        rw [List.getD_eq_getElem?_getD, hc]; rfl
      have q1 : decide (i / 8 < n) = true := by simpa using h
      clear hB hcell hn hc
      go_enter Try.func54, Try.ntmps54
      go_wp2
      go_ret
      refine ⟨?_, rfl⟩
      show Ending.returned (Value.bool (bits .and .u8 ((c : Int) / 2 ^ (i % 8)) 1 == 1)) = _
      have e : ((c : Int) / 2 ^ (i % 8)) = ((c / 2 ^ (i % 8) : Nat) : Int) := by push_cast; rfl
      have hlt : c / 2 ^ (i % 8) < 256 := Nat.lt_of_le_of_lt (Nat.div_le_self _ _) hc2
      have ha : bits .and .u8 ((c / 2 ^ (i % 8) : Nat) : Int) 1 = ((c / 2 ^ (i % 8) % 2 : Nat) : Int) := by
        have := u8_and_nat (c / 2 ^ (i % 8)) 1 hlt (by omega)
        rw [Nat.and_one_is_mod] at this
        exact this
      rw [HB.out, e, ha]
      congr 2
      rw [Bool.eq_iff_iff]
      simp only [beq_iff_eq]
      omega
  · have q1 : decide (i / 8 < n) = false := by simpa using h
    have q2 : ¬ ((i : Int) / 8 < (n : Int)) := by omega
    have HB : Hid (bitOf l i = false) := by
      show bitOf l i = false
      unfold bitOf
      rw [List.getD_eq_getElem?_getD, List.getElem?_eq_none (by omega)]
      simp
    clear hB hn
    go_enter Try.func54, Try.ntmps54
    go_wp2
    go_ret
    exact ⟨by rw [HB.out]; rfl, rfl⟩
end Go.Proofs.Ytaggghfnbllbgaa
