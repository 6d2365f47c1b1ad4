/- The walks of cell.add, sub, mul, div, mod: int64s. -/
import Derived.Test.YtipeinkogoghnaaCRight
import Derived.Lib.Hide
namespace Go.Proofs.Ytipeinkogoghnaa
open Go.RowKit

theorem fits_yes {n : Int} (h1 : -9223372036854775808 ≤ n) (h2 : n ≤ 9223372036854775807) : fits n = true := (fits_iff n).2 ⟨h1, h2⟩
theorem fits_no {n : Int} (h : n < -9223372036854775808 ∨ 9223372036854775807 < n) : fits n = false := by
  cases hf : fits n with
  | false => rfl
  | true => have := (fits_iff n).1 hf; omega

theorem add_any (x y : Int) (w : World) (hx1 : -9223372036854775808 ≤ x) (hx2 : x ≤ 9223372036854775807) (hy1 : -9223372036854775808 ≤ y) (hy2 : y ≤ 9223372036854775807) :
    Calls Try.prog 35 #[.int .i64 x, .int .i64 y] w fun e w' => e = .returned (.tuple #[.int .i64 (addI x y).1, .int .i64 (addI x y).2]) ∧ w = w' := by
  have hc : (0 < y ∧ 9223372036854775807 - y < x) ∨ (0 < y ∧ x ≤ 9223372036854775807 - y) ∨ (y < 0 ∧ x < -9223372036854775808 - y) ∨ (y < 0 ∧ -9223372036854775808 - y ≤ x) ∨ (0 ≤ y ∧ y ≤ 0) := by omega
  rcases hc with ⟨h1, h2⟩ | ⟨h1, h2⟩ | ⟨h1, h2⟩ | ⟨h1, h2⟩ | ⟨h1, h2⟩
  · have HR : Hid (addI x y = (0, 21)) := by unfold addI; rw [fits_no (by omega)]; rfl
    go_enter Try.func35, Try.ntmps35
    go_wp2
    go_ret2
    exact ⟨by rw [HR.out]; rfl, rfl⟩
  · have HR : Hid (addI x y = (x + y, 0)) := by unfold addI; rw [fits_yes (by omega) (by omega)]; rfl
    go_enter Try.func35, Try.ntmps35
    go_wp2
    go_ret2
    exact ⟨by rw [HR.out]; rfl, rfl⟩
  · have HR : Hid (addI x y = (0, 21)) := by unfold addI; rw [fits_no (by omega)]; rfl
    go_enter Try.func35, Try.ntmps35
    go_wp2
    go_ret2
    exact ⟨by rw [HR.out]; rfl, rfl⟩
  · have HR : Hid (addI x y = (x + y, 0)) := by unfold addI; rw [fits_yes (by omega) (by omega)]; rfl
    go_enter Try.func35, Try.ntmps35
    go_wp2
    go_ret2
    exact ⟨by rw [HR.out]; rfl, rfl⟩
  · have HR : Hid (addI x y = (x + y, 0)) := by unfold addI; rw [fits_yes (by omega) (by omega)]; rfl
    go_enter Try.func35, Try.ntmps35
    go_wp2
    go_ret2
    exact ⟨by rw [HR.out]; rfl, rfl⟩

theorem sub_any (x y : Int) (w : World) (hx1 : -9223372036854775808 ≤ x) (hx2 : x ≤ 9223372036854775807) (hy1 : -9223372036854775808 ≤ y) (hy2 : y ≤ 9223372036854775807) :
    Calls Try.prog 37 #[.int .i64 x, .int .i64 y] w fun e w' => e = .returned (.tuple #[.int .i64 (subI x y).1, .int .i64 (subI x y).2]) ∧ w = w' := by
  have hc : (y < 0 ∧ 9223372036854775807 + y < x) ∨ (y < 0 ∧ x ≤ 9223372036854775807 + y) ∨ (0 < y ∧ x < -9223372036854775808 + y) ∨ (0 < y ∧ -9223372036854775808 + y ≤ x) ∨ (0 ≤ y ∧ y ≤ 0) := by omega
  rcases hc with ⟨h1, h2⟩ | ⟨h1, h2⟩ | ⟨h1, h2⟩ | ⟨h1, h2⟩ | ⟨h1, h2⟩
  · have HR : Hid (subI x y = (0, 21)) := by unfold subI; rw [fits_no (by omega)]; rfl
    go_enter Try.func37, Try.ntmps37
    go_wp2
    go_ret2
    exact ⟨by rw [HR.out]; rfl, rfl⟩
  · have HR : Hid (subI x y = (x - y, 0)) := by unfold subI; rw [fits_yes (by omega) (by omega)]; rfl
    go_enter Try.func37, Try.ntmps37
    go_wp2
    go_ret2
    exact ⟨by rw [HR.out]; rfl, rfl⟩
  · have HR : Hid (subI x y = (0, 21)) := by unfold subI; rw [fits_no (by omega)]; rfl
    go_enter Try.func37, Try.ntmps37
    go_wp2
    go_ret2
    exact ⟨by rw [HR.out]; rfl, rfl⟩
  · have HR : Hid (subI x y = (x - y, 0)) := by unfold subI; rw [fits_yes (by omega) (by omega)]; rfl
    go_enter Try.func37, Try.ntmps37
    go_wp2
    go_ret2
    exact ⟨by rw [HR.out]; rfl, rfl⟩
  · have HR : Hid (subI x y = (x - y, 0)) := by unfold subI; rw [fits_yes (by omega) (by omega)]; rfl
    go_enter Try.func37, Try.ntmps37
    go_wp2
    go_ret2
    exact ⟨by rw [HR.out]; rfl, rfl⟩

theorem div_fits (x y : Int) (hx1 : -9223372036854775808 ≤ x) (hx2 : x ≤ 9223372036854775807) (hy : y ≠ 0) (h : ¬ (x = -9223372036854775808 ∧ y = -1)) : -9223372036854775808 ≤ x.tdiv y ∧ x.tdiv y ≤ 9223372036854775807 := by
  have h1 : (x.tdiv y).natAbs = x.natAbs / y.natAbs := Int.natAbs_tdiv x y
  by_cases hy1 : y = -1
  · subst hy1
    rw [Int.tdiv_neg, Int.tdiv_one]; omega
  · by_cases hy2 : y = 1
    · subst hy2; rw [Int.tdiv_one]; omega
    · have : x.natAbs / y.natAbs ≤ x.natAbs / 2 := Nat.div_le_div_left (by omega) (by omega)
      omega

set_option maxHeartbeats 1000000 in
theorem div_any (x y : Int) (w : World) (hx1 : -9223372036854775808 ≤ x) (hx2 : x ≤ 9223372036854775807) (hy1 : -9223372036854775808 ≤ y) (hy2 : y ≤ 9223372036854775807) :
    Calls Try.prog 39 #[.int .i64 x, .int .i64 y] w fun e w' => e = .returned (.tuple #[.int .i64 (divI x y).1, .int .i64 (divI x y).2]) ∧ w = w' := by
  by_cases h0 : y = 0
  · subst h0
    have HR : Hid (divI x 0 = (0, 22)) := by unfold divI; rw [if_pos rfl]; rfl
    go_enter Try.func39, Try.ntmps39
    go_wp2
    go_ret2
    exact ⟨by rw [HR.out]; rfl, rfl⟩
  · have e0 : (y == 0) = false := by simp; omega
    by_cases h1 : x = -9223372036854775808
    · have e1 : (x == -9223372036854775808) = true := by simp [h1]
      by_cases h2 : y = -1
      · have e2 : (y == -1) = true := by simp [h2]
        have HR : Hid (divI x y = (0, 21)) := by rw [h1, h2]; show _ = _; decide
        clear h1 h2
        go_enter Try.func39, Try.ntmps39
        go_wp2
        go_ret2
        exact ⟨by rw [HR.out]; rfl, rfl⟩
      · have e2 : (y == -1) = false := by simp; omega
        have hf := div_fits x y hx1 hx2 h0 (by omega)
        have HR : Hid (divI x y = (x.tdiv y, 0)) := by unfold divI; rw [if_neg h0, fits_yes hf.1 hf.2]; rfl
        have HW : Hid (wrap64 (x.tdiv y) = x.tdiv y) := IntWalk.wrap64_in _ hf
        clear hf h1 h2
        go_enter Try.func39, Try.ntmps39
        go_wp2
        go_ret2
        exact ⟨by rw [HR.out]; simp [HW.out], rfl⟩
    · have e1 : (x == -9223372036854775808) = false := by simp; omega
      have hf := div_fits x y hx1 hx2 h0 (by omega)
      have HR : Hid (divI x y = (x.tdiv y, 0)) := by unfold divI; rw [if_neg h0, fits_yes hf.1 hf.2]; rfl
      have HW : Hid (wrap64 (x.tdiv y) = x.tdiv y) := IntWalk.wrap64_in _ hf
      clear hf
      go_enter Try.func39, Try.ntmps39
      go_wp2
      go_ret2
      exact ⟨by rw [HR.out]; simp [HW.out], rfl⟩

theorem mod_fits (x y : Int) (hx1 : -9223372036854775808 ≤ x) (hx2 : x ≤ 9223372036854775807) : -9223372036854775808 ≤ x.tmod y ∧ x.tmod y ≤ 9223372036854775807 := by
  have h1 : (x.tmod y).natAbs = x.natAbs % y.natAbs := Int.natAbs_tmod x y
  have h2 : x.natAbs % y.natAbs ≤ x.natAbs := Nat.mod_le _ _
  have h3 : 0 ≤ x → 0 ≤ x.tmod y := fun h => Int.tmod_nonneg y h
  by_cases h : 0 ≤ x
  · have := h3 h; omega
  · have h4 : x.tmod y = -((-x).tmod y) := by rw [Int.neg_tmod]; simp
    have h5 := Int.tmod_nonneg y (show 0 ≤ -x by omega)
    omega

theorem mod_any (x y : Int) (w : World) (hx1 : -9223372036854775808 ≤ x) (hx2 : x ≤ 9223372036854775807) :
    Calls Try.prog 40 #[.int .i64 x, .int .i64 y] w fun e w' => e = .returned (.tuple #[.int .i64 (modI x y).1, .int .i64 (modI x y).2]) ∧ w = w' := by
  by_cases h0 : y = 0
  · subst h0
    have HR : Hid (modI x 0 = (0, 22)) := by unfold modI; rw [if_pos rfl]; rfl
    go_enter Try.func40, Try.ntmps40
    go_wp2
    go_ret2
    exact ⟨by rw [HR.out]; rfl, rfl⟩
  · have e0 : (y == 0) = false := by simp; omega
    have hf := mod_fits x y hx1 hx2
    have HR : Hid (modI x y = (x.tmod y, 0)) := by unfold modI; rw [if_neg h0]; rfl
    have HW : Hid (wrap64 (x.tmod y) = x.tmod y) := IntWalk.wrap64_in _ hf
    clear hf
    go_enter Try.func40, Try.ntmps40
    go_wp2
    go_ret2
    exact ⟨by rw [HR.out]; simp [HW.out], rfl⟩

set_option maxHeartbeats 1000000 in
theorem mul_any (x y : Int) (w : World) (hx1 : -9223372036854775808 ≤ x) (hx2 : x ≤ 9223372036854775807) (hy1 : -9223372036854775808 ≤ y) (hy2 : y ≤ 9223372036854775807) :
    Calls Try.prog 38 #[.int .i64 x, .int .i64 y] w fun e w' => e = .returned (.tuple #[.int .i64 (mulI x y).1, .int .i64 (mulI x y).2]) ∧ w = w' := by
  by_cases h0 : x = 0
  · subst h0
    have HR : Hid (mulI 0 y = (0, 0)) := by unfold mulI; rw [Int.zero_mul, fits_yes (by omega) (by omega)]; rfl
    go_enter Try.func38, Try.ntmps38
    go_wp2
    go_ret2
    exact ⟨by rw [HR.out]; rfl, rfl⟩
  · have e0 : (x == 0) = false := by simp; omega
    by_cases h1 : y = 0
    · subst h1
      have HR : Hid (mulI x 0 = (0, 0)) := by unfold mulI; rw [Int.mul_zero, fits_yes (by omega) (by omega)]; rfl
      go_enter Try.func38, Try.ntmps38
      go_wp2
      go_ret2
      exact ⟨by rw [HR.out]; rfl, rfl⟩
    · have e1 : (y == 0) = false := by simp; omega
      obtain ⟨P, hP⟩ : ∃ P, wrap64 (x * y) = P := ⟨_, rfl⟩
      have hPw : IntKind.i64.wrap (x * y) = P := by rw [← hP, IntKind.wrap_i64]; unfold wrap64; rfl
      have hPb : -9223372036854775808 ≤ P ∧ P ≤ 9223372036854775807 := by rw [← hPw, IntKind.wrap_i64]; omega
      by_cases h2 : x = -9223372036854775808 ∧ y = -1
      · obtain ⟨h2, h3⟩ := h2
        have hQ : wrap64 (P.tdiv y) = x := by rw [← hP, h2, h3]; unfold wrap64; decide
        have HR : Hid (mulI x y = (0, 21)) := by rw [h2, h3]; show _ = _; decide
        have e2 : (x == -9223372036854775808) = true := by simp [h2]
        have e3 : (y == -1) = true := by simp [h3]
        clear h2 h3 hPw hPb
        go_enter Try.func38, Try.ntmps38
        go_wp2
        go_ret2
        exact ⟨by rw [HR.out]; rfl, rfl⟩
      · have e23 : (x == -9223372036854775808 && y == -1) = false := by
          simp only [Bool.and_eq_false_iff, beq_eq_false_iff_ne]; omega
        by_cases hf : fits (x * y) = true
        · have hb := (fits_iff _).1 hf
          have hPx : P = x * y := by rw [← hPw, IntKind.wrap_i64]; omega
          have hQ : wrap64 (P.tdiv y) = x := by
            rw [hPx, Int.mul_tdiv_cancel x h1]; exact IntWalk.wrap64_in x ⟨hx1, hx2⟩
          have HR : Hid (mulI x y = (x * y, 0)) := by unfold mulI; rw [hf]; rfl
          have HP := Lib.hid hPx
          clear hf hb hPx hPw hPb h2
          by_cases h4 : x = -9223372036854775808
          · have e2 : (x == -9223372036854775808) = true := by simp [h4]
            have e3 : (y == -1) = false := by rw [e2] at e23; simpa using e23
            clear h4 e23
            go_enter Try.func38, Try.ntmps38
            go_wp2
            go_ret2
            exact ⟨by rw [HR.out]; simp [hP, HP.out], rfl⟩
          · have e2 : (x == -9223372036854775808) = false := by simp [h4]
            clear h4 e23
            go_enter Try.func38, Try.ntmps38
            go_wp2
            go_ret2
            exact ⟨by rw [HR.out]; simp [hP, HP.out], rfl⟩
        · have hf' : fits (x * y) = false := by simpa using hf
          have hne := mul_back x y hx1 hx2 hy1 hy2 h1 hf'
          rw [hPw] at hne
          have hPm : ¬ (P = -9223372036854775808 ∧ y = -1) := by
            rintro ⟨h5, h6⟩
            rw [h6, IntKind.wrap_i64] at hPw
            omega
          have hdf := div_fits P y hPb.1 hPb.2 h1 hPm
          obtain ⟨Q, hQ0⟩ : ∃ Q, P.tdiv y = Q := ⟨_, rfl⟩
          rw [hQ0] at hne hdf
          have hQ : wrap64 (P.tdiv y) = Q := by rw [hQ0]; exact IntWalk.wrap64_in Q hdf
          have e4 : (Q != x) = true := by simp [hne]
          have HR : Hid (mulI x y = (0, 21)) := by unfold mulI; rw [hf']; rfl
          clear hf hf' hne hPm hdf hQ0 hPw hPb h2 e23
          go_enter Try.func38, Try.ntmps38
          go_wp2
          go_ret2
          exact ⟨by rw [HR.out]; rfl, rfl⟩
end Go.Proofs.Ytipeinkogoghnaa
