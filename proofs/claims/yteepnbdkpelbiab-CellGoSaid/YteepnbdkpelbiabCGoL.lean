/- The law CellGo. -/
import Derived.Test.YteepnbdkpelbiabCGo
namespace Go.Proofs.Yteepnbdkpelbiab
open Go.RowKit

theorem go_great (k : Nat) (n m : Int) (s : ByteArray) (w : World) (g1 : (decide (1000 < s.size) || decide (1000 < s.size)) = true) :
    Calls Try.prog 4 #[.agg #[.int .u8 k, .int .i64 n, .string s], .int .i64 m] w fun e w' => e = .returned (.bool true) ∧ Below w.heap.size w w' := by
  go_enter Try.func4, Try.ntmps4
  go_wp2_with fail
  refine (great_any k k n n s s _).mono ?_
  rw [g1]
  rintro e w1 ⟨rfl, hb⟩
  obtain ⟨S3, hz⟩ := slots1 _ _ _ _ _ _ hb
  have hw : Below w.heap.size w w1 := Below.trans ((Below.refl _ _).alloc (Nat.le_refl _) _) (Below.mono hb (by simp <;> omega))
  clear hb
  go_wp2_with fail
  refine (alive2_any _).mono ?_
  rintro e w9 ⟨rfl, hb⟩
  go_wp2
  go_ret
  exact ⟨rfl, hw.trans (Below.mono hb (by omega))⟩

set_option maxHeartbeats 4000000 in
theorem go_main (k yk : Nat) (n yn m i E : Int) (s ys : ByteArray) (r nb : Bool) (w : World) (g1 : (decide (1000 < s.size) || decide (1000 < s.size)) = false) (hr : Vl.right ⟨k, n, s⟩ = r)
    (HTo : Hid (∀ W, Calls Try.prog 18 #[.agg #[.int .u8 k, .int .i64 n, .string s]] W fun e w' => ∃ X, e = .returned (.tuple #[X, .int .i64 E]) ∧ Below W.heap.size W w' ∧
      Hid (∀ W2, Later w' W2 → Calls Try.prog 19 #[X] W2 fun e w3 => e = .returned (.tuple #[.agg #[.int .u8 yk, .int .i64 yn, .string ys], .bool true]) ∧ Below W2.heap.size W2 w3) ∧
      Hid (∀ W2, Calls Try.prog 20 #[X] W2 fun e w3 => e = .returned (.tuple #[.int .i64 i, .bool nb]) ∧ W2 = w3)))
    (hc : (r = false ∧ E = 3 ∧ yk = 0 ∧ yn = 0 ∧ ys = ⟨#[]⟩) ∨ (r = true ∧ E = 0 ∧ yk = k ∧ yn = n ∧ ys = s ∧ k = 1 ∧ nb = true ∧ i = n) ∨ (r = true ∧ E = 0 ∧ yk = k ∧ yn = n ∧ ys = s ∧ ((k : Int) == 1) = false ∧ nb = false)) :
    Calls Try.prog 4 #[.agg #[.int .u8 k, .int .i64 n, .string s], .int .i64 m] w fun e w' => e = .returned (.bool true) ∧ Below w.heap.size w w' := by
  rcases hc with ⟨rfl, rfl, rfl, rfl, rfl⟩ | ⟨rfl, rfl, rfl, rfl, rfl, rfl, rfl, rfl⟩ | ⟨rfl, rfl, rfl, rfl, rfl, hk, rfl⟩
  all_goals
    go_enter Try.func4, Try.ntmps4
    go_wp2_with fail
    refine (great_any _ _ _ _ _ _ _).mono ?_
    rw [g1]
    rintro e w1 ⟨rfl, hb⟩
    obtain ⟨S3, hz⟩ := slots1 _ _ _ _ _ _ hb
    have hw : Below w.heap.size w w1 := Below.trans ((Below.refl _ _).alloc (Nat.le_refl _) _) (Below.mono hb (by simp <;> omega))
    clear hb
    obtain ⟨p0, p1, p2, p3, p4, p5⟩ := id S3
    go_wp2_with fail
    clear p0 p1 p2 p3 p4 p5
    refine (HTo.out _).mono ?_
    rintro e w2 ⟨X, rfl, hb, HF, HNb⟩
    replace S3 := S3.on hb
    replace hw := hw.trans (Below.mono hb (by omega))
    clear hb hz HTo
    replace hw : Later w w2 := hw
    obtain ⟨p0, p1, p2, p3, p4, p5⟩ := id S3
    go_wp2_with fail
    clear p0 p1 p2 p3 p4 p5
    refine (rright_any _ _ _ _).mono ?_
    rw [hr]
    rintro e w3 ⟨rfl, hb⟩
    have hL : Later w2 w3 := hb
    replace S3 := S3.on hb
    replace hw := hw.trans hb
    clear hb
    go_wp2_with fail
    refine (HF.out _ hL).mono ?_
    rintro e w4 ⟨rfl, hb⟩
    replace S3 := S3.on hb
    replace hw := hw.trans hb
    clear hb HF hL
    go_wp2_with fail
    refine (HNb.out _).mono ?_
    rintro e w5 ⟨rfl, rfl⟩
    clear HNb
    go_wp2_with fail
    refine (from_int32 _ _).mono ?_
    rintro e w6 ⟨rfl, hb⟩
    obtain ⟨SY, hb⟩ := slotN _ _ _ _ _ _ hb
    replace S3 := S3.on hb
    replace hw := hw.trans hb
    clear hb
    go_wp2_with fail
    refine (number_text _ _).mono ?_
    rintro e w7 ⟨rfl, rfl⟩
    go_wp2_with fail
    refine (alive2_any _).mono ?_
    rintro e w8 ⟨rfl, hb⟩
    replace hb := (slotN _ _ _ _ _ _ hb).2
    replace S3 := S3.on hb
    replace SY := SY.on hb
    replace hw := hw.trans hb
    clear hb
  · obtain ⟨p0, p1, p2, p3, p4, p5⟩ := SY
    go_wp2
    go_ret
    exact ⟨rfl, hw⟩
  all_goals
    obtain ⟨p0, p1, p2, p3, p4, p5⟩ := SY
    obtain ⟨q0, q1, q2, q3, q4, q5⟩ := S3
    go_wp2_with fail
    refine (mustNumber_any _ _).mono ?_
    rintro e w9 ⟨rfl, rfl⟩
    go_wp2
    go_ret
    exact ⟨rfl, hw⟩

theorem Go_any (k : Nat) (n m : Int) (s : ByteArray) (w : World) : Calls Try.prog 4 #[.agg #[.int .u8 k, .int .i64 n, .string s], .int .i64 m] w fun e w' => e = .returned (.bool true) ∧ Below w.heap.size w w' := by
  cases g1 : (decide (1000 < s.size) || decide (1000 < s.size)) with
  | true => exact go_great _ _ _ _ w g1
  | false =>
    cases h : Vl.right ⟨k, n, s⟩ with
    | false =>
      refine go_main k 0 n 0 m 0 3 s ⟨#[]⟩ false false w g1 h (fun W => ?_) (.inl ⟨rfl, rfl, rfl, rfl, rfl⟩)
      refine (to_bad k n s W h).mono ?_
      rintro e w' ⟨rfl, hb⟩
      exact ⟨_, rfl, hb, fun W2 _ => from_nil W2, fun W2 => number_nil W2⟩
    | true =>
      rcases kinds k with rfl | rfl | rfl | rfl | hk
      · obtain ⟨rfl, rfl⟩ := right_null h
        refine go_main 0 0 0 0 m 0 0 ⟨#[]⟩ ⟨#[]⟩ true false w g1 h (fun W => ?_) (.inr (.inr ⟨rfl, rfl, rfl, rfl, rfl, rfl, rfl⟩))
        refine (to_null W).mono ?_
        rintro e w' ⟨rfl, hb⟩
        exact ⟨_, rfl, hb, fun W2 _ => from_nil W2, fun W2 => number_nil W2⟩
      · have hs := right_num h
        subst hs
        refine go_main 1 1 n n m n 0 ⟨#[]⟩ ⟨#[]⟩ true true w g1 h (fun W => ?_) (.inr (.inl ⟨rfl, rfl, rfl, rfl, rfl, rfl, rfl, rfl⟩))
        refine (to_int n W).mono ?_
        rintro e w' ⟨rfl, hb⟩
        exact ⟨_, rfl, hb, fun W2 _ => from_int n W2, fun W2 => number_int n W2⟩
      · have hn : n = 0 := by simp [Vl.right] at h; exact h
        subst hn
        refine go_main 2 2 0 0 m 0 0 s s true false w g1 h (fun W => ?_) (.inr (.inr ⟨rfl, rfl, rfl, rfl, rfl, rfl, rfl⟩))
        refine (to_text 0 s W h).mono ?_
        rintro e w' ⟨rfl, hb⟩
        exact ⟨_, rfl, hb, fun W2 _ => from_text s W2, fun W2 => number_text s W2⟩
      · have hn : n = 0 := by simp [Vl.right] at h; exact h
        subst hn
        refine go_main 3 3 0 0 m 0 0 s s true false w g1 h (fun W => ?_) (.inr (.inr ⟨rfl, rfl, rfl, rfl, rfl, rfl, rfl⟩))
        refine (to_blob 0 s W h).mono ?_
        rintro e w' ⟨a, cap, rfl, hb, hl⟩
        exact ⟨_, rfl, hb, fun W2 hL => from_blob a cap s W2 (hl.on hL), fun W2 => number_blob _ W2⟩
      · exfalso
        unfold Vl.right at h
        simp only at h
        rw [if_neg (by omega), if_neg (by omega), if_neg (by omega)] at h
        simp at h

end Go.Proofs.Yteepnbdkpelbiab
