/- The walks of the reference's Add and Sub. -/
import Derived.Test.YtipeinkogoghnaaCRefS
namespace Go.Proofs.Ytipeinkogoghnaa
open Go.RowKit

theorem radd_not (k1 k2 : Nat) (n1 n2 : Int) (s1 s2 : ByteArray) (w : World) (q : Bool) (E : Int) (hE : (E != 0) = true ∨ ((E != 0) = false ∧ q = true))
    (HQ : Hid (∀ W, Calls Try.prog 36 #[.agg #[.int .u8 k1, .int .i64 n1, .string s1], .agg #[.int .u8 k2, .int .i64 n2, .string s2]] W (RetB2 W (q, E)))) :
    Calls Try.prog 11 #[.agg #[.int .u8 k1, .int .i64 n1, .string s1], .agg #[.int .u8 k2, .int .i64 n2, .string s2]] w (RetV w (nullV, E)) := by
  rcases hE with e1 | ⟨e1, rfl⟩
  all_goals
    go_enter Try.func11, Try.ntmps11
    go_wp2_with fail
    refine (HQ.out _).mono ?_
    rintro e w1 ⟨rfl, hb⟩
    obtain ⟨S3, S4, S6, hz⟩ := slots3 _ _ _ _ _ _ _ _ _ _ _ _ hb
    have hw : Below w.heap.size w w1 := Below.trans ((((Below.refl _ _).alloc (Nat.le_refl _) _).alloc (by simp) _).alloc (by simp; omega) _) (Below.mono hb (by simp <;> omega))
    clear hb
    clear HQ
    obtain ⟨p0, p1, p2, p3, p4, p5⟩ := id S3
    obtain ⟨q0, q1, q2, q3, q4, q5⟩ := id S4
    obtain ⟨r0, r1, r2, r3, r4, r5⟩ := id S6
    go_wp2
    refine bodyPost_ret (v := .tuple #[.agg #[.int .u8 0, .int .i64 0, .string ⟨#[]⟩], .int .i64 E]) (by simp [results, Try.results11, go_sem, *]) rfl ⟨rfl, ?_⟩
    exact ((hw.setCell (by simp <;> omega) _).setCell (by simp <;> omega) _).setCell (by simp <;> omega) _

set_option maxRecDepth 100000 in
set_option maxHeartbeats 2000000 in
theorem radd_over (x y : Int) (w : World) (hx1 : -9223372036854775808 ≤ x) (hx2 : x ≤ 9223372036854775807) (hy1 : -9223372036854775808 ≤ y) (hy2 : y ≤ 9223372036854775807) (hf : fits (x + y) = false)
    (HQ : Hid (∀ W, Calls Try.prog 36 #[.agg #[.int .u8 1, .int .i64 x, .string ⟨#[]⟩], .agg #[.int .u8 1, .int .i64 y, .string ⟨#[]⟩]] W (RetB2 W (false, 0)))) :
    Calls Try.prog 11 #[.agg #[.int .u8 1, .int .i64 x, .string ⟨#[]⟩], .agg #[.int .u8 1, .int .i64 y, .string ⟨#[]⟩]] w (RetV w (nullV, 21)) := by
  have hc : (0 < y ∧ 9223372036854775807 - y < x) ∨ (y < 0 ∧ x < -9223372036854775808 - y) := by
    have hn : ¬ (-9223372036854775808 ≤ x + y ∧ x + y ≤ 9223372036854775807) := fun h => Bool.false_ne_true (hf.symm.trans ((fits_iff (x + y)).2 h))
    omega
  clear hf
  rcases hc with ⟨h1, h2⟩ | ⟨h1, h2⟩
  all_goals
    go_enter Try.func11, Try.ntmps11
    go_wp2_with fail
    refine (HQ.out _).mono ?_
    rintro e w1 ⟨rfl, hb⟩
    obtain ⟨S3, S4, S6, hz⟩ := slots3 _ _ _ _ _ _ _ _ _ _ _ _ hb
    have hw : Below w.heap.size w w1 := Below.trans ((((Below.refl _ _).alloc (Nat.le_refl _) _).alloc (by simp) _).alloc (by simp; omega) _) (Below.mono hb (by simp <;> omega))
    clear hb
    clear HQ
    obtain ⟨p0, p1, p2, p3, p4, p5⟩ := id S3
    obtain ⟨q0, q1, q2, q3, q4, q5⟩ := id S4
    obtain ⟨r0, r1, r2, r3, r4, r5⟩ := id S6
    go_wp2
    refine bodyPost_ret (v := .tuple #[.agg #[.int .u8 0, .int .i64 0, .string ⟨#[]⟩], .int .i64 21]) (by simp [results, Try.results11, go_sem, *]) rfl ⟨rfl, ?_⟩
    exact ((hw.setCell (by simp <;> omega) _).setCell (by simp <;> omega) _).setCell (by simp <;> omega) _

set_option maxRecDepth 100000 in
set_option maxHeartbeats 2000000 in
theorem radd_fits (x y : Int) (w : World) (hx1 : -9223372036854775808 ≤ x) (hx2 : x ≤ 9223372036854775807) (hy1 : -9223372036854775808 ≤ y) (hy2 : y ≤ 9223372036854775807) (hf : fits (x + y) = true)
    (HQ : Hid (∀ W, Calls Try.prog 36 #[.agg #[.int .u8 1, .int .i64 x, .string ⟨#[]⟩], .agg #[.int .u8 1, .int .i64 y, .string ⟨#[]⟩]] W (RetB2 W (false, 0)))) :
    Calls Try.prog 11 #[.agg #[.int .u8 1, .int .i64 x, .string ⟨#[]⟩], .agg #[.int .u8 1, .int .i64 y, .string ⟨#[]⟩]] w (RetV w (numV (x + y), 0)) := by
  have hc : (0 < y ∧ x ≤ 9223372036854775807 - y) ∨ (y < 0 ∧ -9223372036854775808 - y ≤ x) ∨ (0 ≤ y ∧ y ≤ 0) := by
    have := (fits_iff (x + y)).1 hf
    omega
  have HF := Lib.hid ((fits_iff (x + y)).1 hf)
  clear hf
  rcases hc with ⟨h1, h2⟩ | ⟨h1, h2⟩ | ⟨h1, h2⟩
  all_goals
    go_enter Try.func11, Try.ntmps11
    go_wp2_with fail
    refine (HQ.out _).mono ?_
    rintro e w1 ⟨rfl, hb⟩
    obtain ⟨S3, S4, S6, hz⟩ := slots3 _ _ _ _ _ _ _ _ _ _ _ _ hb
    have hw : Below w.heap.size w w1 := Below.trans ((((Below.refl _ _).alloc (Nat.le_refl _) _).alloc (by simp) _).alloc (by simp; omega) _) (Below.mono hb (by simp <;> omega))
    clear hb
    clear HQ
    obtain ⟨p0, p1, p2, p3, p4, p5⟩ := id S3
    obtain ⟨q0, q1, q2, q3, q4, q5⟩ := id S4
    obtain ⟨r0, r1, r2, r3, r4, r5⟩ := id S6
    go_wp2_with fail
    clear p0 p1 p2 p3 p4 p5 q0 q1 q2 q3 q4 q5 r0 r1 r2 r3 r4 r5
    refine (rnumber_any (x + y) _).mono ?_
    rintro e w2 ⟨rfl, hb⟩
    replace S3 := S3.later hb (by omega)
    replace S4 := S4.later hb (by omega)
    replace S6 := S6.later hb (by omega)
    replace hw := hw.trans (Below.mono hb (by omega))
    replace hz := Nat.le_trans hz (Below.size hb)
    clear hb
    obtain ⟨p0, p1, p2, p3, p4, p5⟩ := id S3
    obtain ⟨q0, q1, q2, q3, q4, q5⟩ := id S4
    obtain ⟨r0, r1, r2, r3, r4, r5⟩ := id S6
    go_wp2
    refine bodyPost_ret (v := .tuple #[.agg #[.int .u8 1, .int .i64 (x + y), .string ⟨#[]⟩], .int .i64 0]) (by simp [results, Try.results11, go_sem, *]) rfl ⟨rfl, ?_⟩
    exact ((hw.setCell (by simp <;> omega) _).setCell (by simp <;> omega) _).setCell (by simp <;> omega) _

theorem rsub_not (k1 k2 : Nat) (n1 n2 : Int) (s1 s2 : ByteArray) (w : World) (q : Bool) (E : Int) (hE : (E != 0) = true ∨ ((E != 0) = false ∧ q = true))
    (HQ : Hid (∀ W, Calls Try.prog 36 #[.agg #[.int .u8 k1, .int .i64 n1, .string s1], .agg #[.int .u8 k2, .int .i64 n2, .string s2]] W (RetB2 W (q, E)))) :
    Calls Try.prog 13 #[.agg #[.int .u8 k1, .int .i64 n1, .string s1], .agg #[.int .u8 k2, .int .i64 n2, .string s2]] w (RetV w (nullV, E)) := by
  rcases hE with e1 | ⟨e1, rfl⟩
  all_goals
    go_enter Try.func13, Try.ntmps13
    go_wp2_with fail
    refine (HQ.out _).mono ?_
    rintro e w1 ⟨rfl, hb⟩
    obtain ⟨S3, S4, S6, hz⟩ := slots3 _ _ _ _ _ _ _ _ _ _ _ _ hb
    have hw : Below w.heap.size w w1 := Below.trans ((((Below.refl _ _).alloc (Nat.le_refl _) _).alloc (by simp) _).alloc (by simp; omega) _) (Below.mono hb (by simp <;> omega))
    clear hb
    clear HQ
    obtain ⟨p0, p1, p2, p3, p4, p5⟩ := id S3
    obtain ⟨q0, q1, q2, q3, q4, q5⟩ := id S4
    obtain ⟨r0, r1, r2, r3, r4, r5⟩ := id S6
    go_wp2
    refine bodyPost_ret (v := .tuple #[.agg #[.int .u8 0, .int .i64 0, .string ⟨#[]⟩], .int .i64 E]) (by simp [results, Try.results13, go_sem, *]) rfl ⟨rfl, ?_⟩
    exact ((hw.setCell (by simp <;> omega) _).setCell (by simp <;> omega) _).setCell (by simp <;> omega) _

set_option maxRecDepth 100000 in
set_option maxHeartbeats 2000000 in
theorem rsub_over (x y : Int) (w : World) (hx1 : -9223372036854775808 ≤ x) (hx2 : x ≤ 9223372036854775807) (hy1 : -9223372036854775808 ≤ y) (hy2 : y ≤ 9223372036854775807) (hf : fits (x - y) = false)
    (HQ : Hid (∀ W, Calls Try.prog 36 #[.agg #[.int .u8 1, .int .i64 x, .string ⟨#[]⟩], .agg #[.int .u8 1, .int .i64 y, .string ⟨#[]⟩]] W (RetB2 W (false, 0)))) :
    Calls Try.prog 13 #[.agg #[.int .u8 1, .int .i64 x, .string ⟨#[]⟩], .agg #[.int .u8 1, .int .i64 y, .string ⟨#[]⟩]] w (RetV w (nullV, 21)) := by
  have hc : (y < 0 ∧ 9223372036854775807 + y < x) ∨ (0 < y ∧ x < -9223372036854775808 + y) := by
    have hn : ¬ (-9223372036854775808 ≤ x - y ∧ x - y ≤ 9223372036854775807) := fun h => Bool.false_ne_true (hf.symm.trans ((fits_iff (x - y)).2 h))
    omega
  clear hf
  rcases hc with ⟨h1, h2⟩ | ⟨h1, h2⟩
  all_goals
    go_enter Try.func13, Try.ntmps13
    go_wp2_with fail
    refine (HQ.out _).mono ?_
    rintro e w1 ⟨rfl, hb⟩
    obtain ⟨S3, S4, S6, hz⟩ := slots3 _ _ _ _ _ _ _ _ _ _ _ _ hb
    have hw : Below w.heap.size w w1 := Below.trans ((((Below.refl _ _).alloc (Nat.le_refl _) _).alloc (by simp) _).alloc (by simp; omega) _) (Below.mono hb (by simp <;> omega))
    clear hb
    clear HQ
    obtain ⟨p0, p1, p2, p3, p4, p5⟩ := id S3
    obtain ⟨q0, q1, q2, q3, q4, q5⟩ := id S4
    obtain ⟨r0, r1, r2, r3, r4, r5⟩ := id S6
    go_wp2
    refine bodyPost_ret (v := .tuple #[.agg #[.int .u8 0, .int .i64 0, .string ⟨#[]⟩], .int .i64 21]) (by simp [results, Try.results13, go_sem, *]) rfl ⟨rfl, ?_⟩
    exact ((hw.setCell (by simp <;> omega) _).setCell (by simp <;> omega) _).setCell (by simp <;> omega) _

set_option maxRecDepth 100000 in
set_option maxHeartbeats 2000000 in
theorem rsub_fits (x y : Int) (w : World) (hx1 : -9223372036854775808 ≤ x) (hx2 : x ≤ 9223372036854775807) (hy1 : -9223372036854775808 ≤ y) (hy2 : y ≤ 9223372036854775807) (hf : fits (x - y) = true)
    (HQ : Hid (∀ W, Calls Try.prog 36 #[.agg #[.int .u8 1, .int .i64 x, .string ⟨#[]⟩], .agg #[.int .u8 1, .int .i64 y, .string ⟨#[]⟩]] W (RetB2 W (false, 0)))) :
    Calls Try.prog 13 #[.agg #[.int .u8 1, .int .i64 x, .string ⟨#[]⟩], .agg #[.int .u8 1, .int .i64 y, .string ⟨#[]⟩]] w (RetV w (numV (x - y), 0)) := by
  have hc : (y < 0 ∧ x ≤ 9223372036854775807 + y) ∨ (0 < y ∧ -9223372036854775808 + y ≤ x) ∨ (0 ≤ y ∧ y ≤ 0) := by
    have := (fits_iff (x - y)).1 hf
    omega
  have HF := Lib.hid ((fits_iff (x - y)).1 hf)
  clear hf
  rcases hc with ⟨h1, h2⟩ | ⟨h1, h2⟩ | ⟨h1, h2⟩
  all_goals
    go_enter Try.func13, Try.ntmps13
    go_wp2_with fail
    refine (HQ.out _).mono ?_
    rintro e w1 ⟨rfl, hb⟩
    obtain ⟨S3, S4, S6, hz⟩ := slots3 _ _ _ _ _ _ _ _ _ _ _ _ hb
    have hw : Below w.heap.size w w1 := Below.trans ((((Below.refl _ _).alloc (Nat.le_refl _) _).alloc (by simp) _).alloc (by simp; omega) _) (Below.mono hb (by simp <;> omega))
    clear hb
    clear HQ
    obtain ⟨p0, p1, p2, p3, p4, p5⟩ := id S3
    obtain ⟨q0, q1, q2, q3, q4, q5⟩ := id S4
    obtain ⟨r0, r1, r2, r3, r4, r5⟩ := id S6
    go_wp2_with fail
    clear p0 p1 p2 p3 p4 p5 q0 q1 q2 q3 q4 q5 r0 r1 r2 r3 r4 r5
    refine (rnumber_any (x - y) _).mono ?_
    rintro e w2 ⟨rfl, hb⟩
    replace S3 := S3.later hb (by omega)
    replace S4 := S4.later hb (by omega)
    replace S6 := S6.later hb (by omega)
    replace hw := hw.trans (Below.mono hb (by omega))
    replace hz := Nat.le_trans hz (Below.size hb)
    clear hb
    obtain ⟨p0, p1, p2, p3, p4, p5⟩ := id S3
    obtain ⟨q0, q1, q2, q3, q4, q5⟩ := id S4
    obtain ⟨r0, r1, r2, r3, r4, r5⟩ := id S6
    go_wp2
    refine bodyPost_ret (v := .tuple #[.agg #[.int .u8 1, .int .i64 (x - y), .string ⟨#[]⟩], .int .i64 0]) (by simp [results, Try.results13, go_sem, *]) rfl ⟨rfl, ?_⟩
    exact ((hw.setCell (by simp <;> omega) _).setCell (by simp <;> omega) _).setCell (by simp <;> omega) _

end Go.Proofs.Ytipeinkogoghnaa
