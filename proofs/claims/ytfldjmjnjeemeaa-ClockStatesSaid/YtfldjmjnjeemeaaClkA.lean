/- Clock: the fixed calls of the laws. -/
import Derived.Test.YtfldjmjnjeemeaaClk5
namespace Go.Proofs.Ytfldjmjnjeemeaa
open Go.RowKit

theorem ret_boolC {a b : Bool} (h : a = b) : Ending.returned (.bool a) = .returned (.bool b) := by rw [h]
set_option maxRecDepth 100000 in
set_option maxHeartbeats 2000000 in
theorem alive13 (w : World) : Calls Try.prog 17 #[] w fun e w' => e = .returned (.bool true) ∧ Below w.heap.size w w' := by
  have N1 : ∀ W, Calls Try.prog 11 #[.int .i64 7, .int .i64 3] W fun e w' => e = .returned (.tuple #[.int .i64 8, .int .i64 0]) ∧ W = w' := fun W => by
    have := CNext_any 7 3 W ⟨by omega, by omega⟩ ⟨by omega, by omega⟩
    rw [show nxt 7 3 = (8, 0) by simp [nxt]] at this; exact this
  have N2 : ∀ W, Calls Try.prog 11 #[.int .i64 7, .int .i64 9] W fun e w' => e = .returned (.tuple #[.int .i64 9, .int .i64 0]) ∧ W = w' := fun W => by
    have := CNext_any 7 9 W ⟨by omega, by omega⟩ ⟨by omega, by omega⟩
    rw [show nxt 7 9 = (9, 0) by simp [nxt]] at this; exact this
  have N3 : ∀ W, Calls Try.prog 11 #[.int .i64 9223372036854775806, .int .i64 3] W fun e w' => e = .returned (.tuple #[.int .i64 0, .int .i64 44]) ∧ W = w' := fun W => by
    have := CNext_any 9223372036854775806 3 W ⟨by omega, by omega⟩ ⟨by omega, by omega⟩
    rw [show nxt 9223372036854775806 3 = (0, 44) by simp [nxt]] at this; exact this
  have N4 : ∀ W, Calls Try.prog 11 #[.int .i64 1, .int .i64 9223372036854775807] W fun e w' => e = .returned (.tuple #[.int .i64 0, .int .i64 44]) ∧ W = w' := fun W => by
    have := CNext_any 1 9223372036854775807 W ⟨by omega, by omega⟩ ⟨by omega, by omega⟩
    rw [show nxt 1 9223372036854775807 = (0, 44) by simp [nxt]] at this; exact this
  have R1 : ∀ W, Calls Try.prog 15 #[.agg (byL z64)] W fun e w' => e = .returned (.tuple #[.agg #[.int .i64 (-9223372036854775808), .int .i64 0], .int .i64 0]) ∧ Below W.heap.size W w' := fun W => by
    have := CRead_zero W
    unfold RetRd at this
    rw [rdS_zero] at this; exact this
  have H1 := Lib.hid N1
  have H2 := Lib.hid N2
  have H3 := Lib.hid N3
  have H4 := Lib.hid N4
  have HR := Lib.hid R1
  have HBd := Lib.hid build64
  clear N1 N2 N3 N4 R1
  go_enter Try.func17, Try.ntmps17
  go_wp2_with fail
  refine (H1.out _).mono ?_; rintro e w1 ⟨rfl, rfl⟩
  go_wp2_with fail
  refine (H2.out _).mono ?_; rintro e w1 ⟨rfl, rfl⟩
  go_wp2_with fail
  refine (H3.out _).mono ?_; rintro e w1 ⟨rfl, rfl⟩
  go_wp2_with fail
  refine (H4.out _).mono ?_; rintro e w1 ⟨rfl, rfl⟩
  go_wp2_with (first | (guard_target =~ wpList _ _ _ (Oper.mk _ (Op.build 24 _) _ _ _ _ :: _) _ _; refine wpList_val rfl (exec_build0 rfl (HBd.out _)) ?_))
  refine (HR.out _).mono ?_; rintro e w1 ⟨rfl, hb1⟩
  go_wp2_with fail
  refine (CNew_any _ _).mono ?_; rintro e w2 ⟨rfl, hc2, hb2, hs2⟩
  have hw2 := Lib.hid ((hb1.alloc hb1.size _).trans (hb2.mono (by have := hb1.size; simp; omega)))
  have b0 := (Blk.new w1 23 #[.int .i64 (-9223372036854775808), .int .i64 0]).chg (Below.chg0 hb2 []) (by simp)
  have c0 : w2.cell? ⟨w1.heap.size, 0, none⟩ = some (.int .i64 (-9223372036854775808)) := b0.cell 0
  have HC2 := Lib.hid hc2
  clear hc2 hb2 hs2 hb1 b0
  go_wp2_with fail
  have hC := HC2.out
  simp only [World.size_alloc] at hC
  refine (CKeep_no _ 5 5 _ hC (by omega)).mono ?_; rintro e w3 ⟨rfl, rfl⟩
  have HC3 := Lib.hid hC
  clear hC
  go_wp2_with fail
  refine (CLast_any _ 5 _ HC3.out).mono ?_; rintro e w3 ⟨rfl, rfl⟩
  go_wp2
  go_ret
  exact ⟨rfl, hw2.out⟩
end Go.Proofs.Ytfldjmjnjeemeaa
