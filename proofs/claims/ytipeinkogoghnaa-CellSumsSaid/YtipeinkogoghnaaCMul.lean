/- The reference's Mul at any two values. -/
import Derived.Test.YtipeinkogoghnaaCDiv3
namespace Go.Proofs.Ytipeinkogoghnaa
open Go.RowKit

theorem rmul_not (k1 k2 : Nat) (n1 n2 : Int) (s1 s2 : ByteArray) (w : World) (q : Bool) (E : Int) (hE : (E != 0) = true ∨ ((E != 0) = false ∧ q = true))
    (HQ : Hid (∀ W, Calls Try.prog 36 #[.agg #[.int .u8 k1, .int .i64 n1, .string s1], .agg #[.int .u8 k2, .int .i64 n2, .string s2]] W (RetB2 W (q, E)))) :
    Calls Try.prog 15 #[.agg #[.int .u8 k1, .int .i64 n1, .string s1], .agg #[.int .u8 k2, .int .i64 n2, .string s2]] w (RetV w (nullV, E)) := by
  rcases hE with e1 | ⟨e1, rfl⟩
  all_goals
    go_enter Try.func15, Try.ntmps15
    go_wp2_with fail
    refine (HQ.out _).mono ?_
    rintro e w1 ⟨rfl, hb⟩
    obtain ⟨S3, S4, S6, hz⟩ := slots3 _ _ _ _ _ _ _ _ _ _ _ _ hb
    have hw : Below w.heap.size w w1 := Below.trans ((((Below.refl _ _).alloc (Nat.le_refl _) _).alloc (by simp) _).alloc (by simp; omega) _) (Below.mono hb (by simp <;> omega))
    clear hb
    clear HQ
    obtain ⟨p0, p1, p2, p3, p4, p5⟩ := id S3
    obtain ⟨q0, q1, q2, q3, q4, q5⟩ := id S4
    obtain ⟨r0, r1, r2, r3, r4, r5⟩ := id S6
    go_wp2
    refine bodyPost_ret (v := .tuple #[.agg #[.int .u8 0, .int .i64 0, .string ⟨#[]⟩], .int .i64 E]) (by simp [results, Try.results15, go_sem, *]) rfl ⟨rfl, ?_⟩
    exact ((hw.setCell (by simp <;> omega) _).setCell (by simp <;> omega) _).setCell (by simp <;> omega) _

theorem rmul_zero (x y : Int) (w : World) (h : (x == 0) = true ∨ ((x == 0) = false ∧ (y == 0) = true))
    (HQ : Hid (∀ W, Calls Try.prog 36 #[.agg #[.int .u8 1, .int .i64 x, .string ⟨#[]⟩], .agg #[.int .u8 1, .int .i64 y, .string ⟨#[]⟩]] W (RetB2 W (false, 0)))) :
    Calls Try.prog 15 #[.agg #[.int .u8 1, .int .i64 x, .string ⟨#[]⟩], .agg #[.int .u8 1, .int .i64 y, .string ⟨#[]⟩]] w (RetV w (numV 0, 0)) := by
  rcases h with e1 | ⟨e1, e2⟩
  all_goals
    go_enter Try.func15, Try.ntmps15
    go_wp2_with fail
    refine (HQ.out _).mono ?_
    rintro e w1 ⟨rfl, hb⟩
    obtain ⟨S3, S4, S6, hz⟩ := slots3 _ _ _ _ _ _ _ _ _ _ _ _ hb
    have hw : Below w.heap.size w w1 := Below.trans ((((Below.refl _ _).alloc (Nat.le_refl _) _).alloc (by simp) _).alloc (by simp; omega) _) (Below.mono hb (by simp <;> omega))
    clear hb
    clear HQ
    obtain ⟨p0, p1, p2, p3, p4, p5⟩ := id S3
    obtain ⟨q0, q1, q2, q3, q4, q5⟩ := id S4
    obtain ⟨r0, r1, r2, r3, r4, r5⟩ := id S6
    go_wp2_with fail
    clear p0 p1 p2 p3 p4 p5 q0 q1 q2 q3 q4 q5 r0 r1 r2 r3 r4 r5
    have a1 := fun W (h : Later w1.drew W) => ((Later.undrew h).cell (p := ⟨w.heap.size, 1, none⟩) (show w.heap.size < w1.heap.size by omega)).trans S3.2.1
    have b1 := fun W (h : Later w1.drew W) => ((Later.undrew h).cell (p := ⟨w.heap.size + 1, 1, none⟩) (show w.heap.size + 1 < w1.heap.size by omega)).trans S4.2.1
    refine wp_region_ord [(0, true), (1, true), (2, true), (3, true), (4, true), (5, true)] (by kernel_rfl) (by kernel_rfl) (by kernel_rfl) (by kernel_rfl) ?_
    repeat (first | (refine wpO_F (v := ?_) rfl (by rfl) (fun w' hL => ?_) ?_; rotate_left; (solve | (go_simp; with_reducible rfl) | go_simp); try simp only [Act.put, List.setIfInBounds_toArray, List.set_cons_zero, List.set_cons_succ]) | (refine wpO_G rfl (by rfl) ?_; try simp only [Act.put, List.setIfInBounds_toArray, List.set_cons_zero, List.set_cons_succ]))
    refine wpO_nil ?_
    clear a1 b1 S3 S4
    replace S6 := S6.drew
    replace hw := hw.drew
    replace hz : w.heap.size + 3 ≤ w1.drew.heap.size := hz
    generalize w1.drew = w2 at *
    go_wp2_with fail
    refine (rnumber_any 0 _).mono ?_
    rintro e w3 ⟨rfl, hb⟩
    replace S6 := S6.on hb
    replace hw := hw.trans (Below.mono hb (by omega))
    obtain ⟨p0, p1, p2, p3, p4, p5⟩ := S6
    go_wp2
    refine bodyPost_ret (v := .tuple #[.agg #[.int .u8 1, .int .i64 0, .string ⟨#[]⟩], .int .i64 0]) (by simp [results, Try.results15, go_sem, *]) rfl ⟨rfl, ?_⟩
    exact ((hw.setCell (by simp <;> omega) _).setCell (by simp <;> omega) _).setCell (by simp <;> omega) _

theorem rmul_least (x y : Int) (w : World) (h0 : (x == 0) = false) (h1 : (y == 0) = false) (h : ((x == -1) = true ∧ (y == -9223372036854775808) = true) ∨ ((x == -1) = false ∧ (y == -1) = true ∧ (x == -9223372036854775808) = true))
    (HQ : Hid (∀ W, Calls Try.prog 36 #[.agg #[.int .u8 1, .int .i64 x, .string ⟨#[]⟩], .agg #[.int .u8 1, .int .i64 y, .string ⟨#[]⟩]] W (RetB2 W (false, 0)))) :
    Calls Try.prog 15 #[.agg #[.int .u8 1, .int .i64 x, .string ⟨#[]⟩], .agg #[.int .u8 1, .int .i64 y, .string ⟨#[]⟩]] w (RetV w (nullV, 21)) := by
  rcases h with ⟨e1, e2⟩ | ⟨e1, e2, e3⟩
  all_goals
    go_enter Try.func15, Try.ntmps15
    go_wp2_with fail
    refine (HQ.out _).mono ?_
    rintro e w1 ⟨rfl, hb⟩
    obtain ⟨S3, S4, S6, hz⟩ := slots3 _ _ _ _ _ _ _ _ _ _ _ _ hb
    have hw : Below w.heap.size w w1 := Below.trans ((((Below.refl _ _).alloc (Nat.le_refl _) _).alloc (by simp) _).alloc (by simp; omega) _) (Below.mono hb (by simp <;> omega))
    clear hb
    clear HQ
    obtain ⟨p0, p1, p2, p3, p4, p5⟩ := id S3
    obtain ⟨q0, q1, q2, q3, q4, q5⟩ := id S4
    obtain ⟨r0, r1, r2, r3, r4, r5⟩ := id S6
    go_wp2_with fail
    clear p0 p1 p2 p3 p4 p5 q0 q1 q2 q3 q4 q5 r0 r1 r2 r3 r4 r5
    have a1 := fun W (h : Later w1.drew W) => ((Later.undrew h).cell (p := ⟨w.heap.size, 1, none⟩) (show w.heap.size < w1.heap.size by omega)).trans S3.2.1
    have b1 := fun W (h : Later w1.drew W) => ((Later.undrew h).cell (p := ⟨w.heap.size + 1, 1, none⟩) (show w.heap.size + 1 < w1.heap.size by omega)).trans S4.2.1
    refine wp_region_ord [(0, true), (1, true), (2, true), (3, true), (4, true), (5, true)] (by kernel_rfl) (by kernel_rfl) (by kernel_rfl) (by kernel_rfl) ?_
    repeat (first | (refine wpO_F (v := ?_) rfl (by rfl) (fun w' hL => ?_) ?_; rotate_left; (solve | (go_simp; with_reducible rfl) | go_simp); try simp only [Act.put, List.setIfInBounds_toArray, List.set_cons_zero, List.set_cons_succ]) | (refine wpO_G rfl (by rfl) ?_; try simp only [Act.put, List.setIfInBounds_toArray, List.set_cons_zero, List.set_cons_succ]))
    refine wpO_nil ?_
    clear a1 b1 S3 S4
    replace S6 := S6.drew
    replace hw := hw.drew
    replace hz : w.heap.size + 3 ≤ w1.drew.heap.size := hz
    generalize w1.drew = w2 at *
    obtain ⟨p0, p1, p2, p3, p4, p5⟩ := S6
    go_wp2
    refine bodyPost_ret (v := .tuple #[.agg #[.int .u8 0, .int .i64 0, .string ⟨#[]⟩], .int .i64 21]) (by simp [results, Try.results15, go_sem, *]) rfl ⟨rfl, ?_⟩
    exact ((hw.setCell (by simp <;> omega) _).setCell (by simp <;> omega) _).setCell (by simp <;> omega) _

/-- The tests ahead of the product, when it is not one of the two that wrap onto themselves. -/
def mulTests (x y : Int) : Prop := ((x == -1) = true ∧ (y == -9223372036854775808) = false ∧ (y == -1) = true ∧ (x == -9223372036854775808) = false) ∨ ((x == -1) = true ∧ (y == -9223372036854775808) = false ∧ (y == -1) = false) ∨
  ((x == -1) = false ∧ (y == -1) = true ∧ (x == -9223372036854775808) = false) ∨ ((x == -1) = false ∧ (y == -1) = false)

theorem rmul_over (x y P Q : Int) (w : World) (h0 : (x == 0) = false) (h1 : (y == 0) = false) (hy : ¬ y = 0) (e1 : (x == -1) = false) (e2 : (y == -1) = false)
    (hP : wrap64 (x * y) = P) (hQ : wrap64 (P.tdiv y) = Q) (e4 : (Q != x) = true)
    (HQ : Hid (∀ W, Calls Try.prog 36 #[.agg #[.int .u8 1, .int .i64 x, .string ⟨#[]⟩], .agg #[.int .u8 1, .int .i64 y, .string ⟨#[]⟩]] W (RetB2 W (false, 0)))) :
    Calls Try.prog 15 #[.agg #[.int .u8 1, .int .i64 x, .string ⟨#[]⟩], .agg #[.int .u8 1, .int .i64 y, .string ⟨#[]⟩]] w (RetV w (nullV, 21)) := by
  go_enter Try.func15, Try.ntmps15
  go_wp2_with fail
  refine (HQ.out _).mono ?_
  rintro e w1 ⟨rfl, hb⟩
  obtain ⟨S3, S4, S6, hz⟩ := slots3 _ _ _ _ _ _ _ _ _ _ _ _ hb
  have hw : Below w.heap.size w w1 := Below.trans ((((Below.refl _ _).alloc (Nat.le_refl _) _).alloc (by simp) _).alloc (by simp; omega) _) (Below.mono hb (by simp <;> omega))
  clear hb
  clear HQ
  obtain ⟨p0, p1, p2, p3, p4, p5⟩ := id S3
  obtain ⟨q0, q1, q2, q3, q4, q5⟩ := id S4
  obtain ⟨r0, r1, r2, r3, r4, r5⟩ := id S6
  go_wp2_with fail
  clear p0 p1 p2 p3 p4 p5 q0 q1 q2 q3 q4 q5 r0 r1 r2 r3 r4 r5
  have a1 := fun W (h : Later w1.drew W) => ((Later.undrew h).cell (p := ⟨w.heap.size, 1, none⟩) (show w.heap.size < w1.heap.size by omega)).trans S3.2.1
  have b1 := fun W (h : Later w1.drew W) => ((Later.undrew h).cell (p := ⟨w.heap.size + 1, 1, none⟩) (show w.heap.size + 1 < w1.heap.size by omega)).trans S4.2.1
  refine wp_region_ord [(0, true), (1, true), (2, true), (3, true), (4, true), (5, true)] (by kernel_rfl) (by kernel_rfl) (by kernel_rfl) (by kernel_rfl) ?_
  repeat (first | (refine wpO_F (v := ?_) rfl (by rfl) (fun w' hL => ?_) ?_; rotate_left; (solve | (go_simp; with_reducible rfl) | go_simp); try simp only [Act.put, List.setIfInBounds_toArray, List.set_cons_zero, List.set_cons_succ]) | (refine wpO_G rfl (by rfl) ?_; try simp only [Act.put, List.setIfInBounds_toArray, List.set_cons_zero, List.set_cons_succ]))
  refine wpO_nil ?_
  clear a1 b1 S3 S4
  replace S6 := S6.drew
  replace hw := hw.drew
  replace hz : w.heap.size + 3 ≤ w1.drew.heap.size := hz
  generalize w1.drew = w2 at *
  obtain ⟨p0, p1, p2, p3, p4, p5⟩ := S6
  go_wp2
  refine bodyPost_ret (v := .tuple #[.agg #[.int .u8 0, .int .i64 0, .string ⟨#[]⟩], .int .i64 21]) (by simp [results, Try.results15, go_sem, *]) rfl ⟨rfl, ?_⟩
  exact ((hw.setCell (by simp <;> omega) _).setCell (by simp <;> omega) _).setCell (by simp <;> omega) _

set_option maxHeartbeats 2000000 in
theorem rmul_fits (x y P : Int) (w : World) (h0 : (x == 0) = false) (h1 : (y == 0) = false) (hy : ¬ y = 0) (ht : mulTests x y)
    (hP : wrap64 (x * y) = P) (hQ : wrap64 (P.tdiv y) = x) (HQ2 : Hid (P.tdiv y = x)) (hs : (P < 0 ∧ ((x < 0 ∧ 0 ≤ y) ∨ (0 ≤ x ∧ y < 0))) ∨ (0 ≤ P ∧ ((x < 0 ∧ y < 0) ∨ (0 ≤ x ∧ 0 ≤ y))))
    (HQ : Hid (∀ W, Calls Try.prog 36 #[.agg #[.int .u8 1, .int .i64 x, .string ⟨#[]⟩], .agg #[.int .u8 1, .int .i64 y, .string ⟨#[]⟩]] W (RetB2 W (false, 0)))) :
    Calls Try.prog 15 #[.agg #[.int .u8 1, .int .i64 x, .string ⟨#[]⟩], .agg #[.int .u8 1, .int .i64 y, .string ⟨#[]⟩]] w (RetV w (numV P, 0)) := by
  unfold mulTests at ht
  rcases ht with ⟨e1, e2, e3, e4⟩ | ⟨e1, e2, e3⟩ | ⟨e1, e2, e3⟩ | ⟨e1, e2⟩ <;> rcases hs with ⟨s1, ⟨s2, s3⟩ | ⟨s2, s3⟩⟩ | ⟨s1, ⟨s2, s3⟩ | ⟨s2, s3⟩⟩
  any_goals (exfalso; clear hP hQ HQ HQ2; simp only [beq_iff_eq, beq_eq_false_iff_ne] at e1 e2; omega)
  any_goals (exfalso; clear hP hQ HQ HQ2; simp only [beq_iff_eq, beq_eq_false_iff_ne] at e1 e2 e3; omega)
  any_goals (have q2 : P / y = x := (Int.tdiv_eq_ediv_of_nonneg s1).symm.trans HQ2.out)
  all_goals (cases t1 : decide (P < 0) <;> cases t2 : decide (x < 0) <;> cases t3 : decide (y < 0))
  any_goals (exfalso; simp only [decide_eq_true_eq, decide_eq_false_iff_not] at t1 t2 t3; clear hP hQ HQ HQ2; omega)
  all_goals
    go_enter Try.func15, Try.ntmps15
    go_wp2_with fail
    refine (HQ.out _).mono ?_
    rintro e w1 ⟨rfl, hb⟩
    obtain ⟨S3, S4, S6, hz⟩ := slots3 _ _ _ _ _ _ _ _ _ _ _ _ hb
    have hw : Below w.heap.size w w1 := Below.trans ((((Below.refl _ _).alloc (Nat.le_refl _) _).alloc (by simp) _).alloc (by simp; omega) _) (Below.mono hb (by simp <;> omega))
    clear hb
    clear HQ
    obtain ⟨p0, p1, p2, p3, p4, p5⟩ := id S3
    obtain ⟨q0, q1, q2, q3, q4, q5⟩ := id S4
    obtain ⟨r0, r1, r2, r3, r4, r5⟩ := id S6
    go_wp2_with fail
    clear p0 p1 p2 p3 p4 p5 q0 q1 q2 q3 q4 q5 r0 r1 r2 r3 r4 r5
    have a1 := fun W (h : Later w1.drew W) => ((Later.undrew h).cell (p := ⟨w.heap.size, 1, none⟩) (show w.heap.size < w1.heap.size by omega)).trans S3.2.1
    have b1 := fun W (h : Later w1.drew W) => ((Later.undrew h).cell (p := ⟨w.heap.size + 1, 1, none⟩) (show w.heap.size + 1 < w1.heap.size by omega)).trans S4.2.1
    refine wp_region_ord [(0, true), (1, true), (2, true), (3, true), (4, true), (5, true)] (by kernel_rfl) (by kernel_rfl) (by kernel_rfl) (by kernel_rfl) ?_
    repeat (first | (refine wpO_F (v := ?_) rfl (by rfl) (fun w' hL => ?_) ?_; rotate_left; (solve | (go_simp; with_reducible rfl) | go_simp); try simp only [Act.put, List.setIfInBounds_toArray, List.set_cons_zero, List.set_cons_succ]) | (refine wpO_G rfl (by rfl) ?_; try simp only [Act.put, List.setIfInBounds_toArray, List.set_cons_zero, List.set_cons_succ]))
    refine wpO_nil ?_
    clear a1 b1 S3 S4
    replace S6 := S6.drew
    replace hw := hw.drew
    replace hz : w.heap.size + 3 ≤ w1.drew.heap.size := hz
    generalize w1.drew = w2 at *
    go_wp2_with fail
    refine (rnumber_any P _).mono ?_
    rintro e w3 ⟨rfl, hb⟩
    replace S6 := S6.on hb
    replace hw := hw.trans (Below.mono hb (by omega))
    obtain ⟨p0, p1, p2, p3, p4, p5⟩ := S6
    go_wp2
    refine bodyPost_ret (v := .tuple #[.agg #[.int .u8 1, .int .i64 P, .string ⟨#[]⟩], .int .i64 0]) (by simp [results, Try.results15, go_sem, *]) rfl ⟨rfl, ?_⟩
    exact ((hw.setCell (by simp <;> omega) _).setCell (by simp <;> omega) _).setCell (by simp <;> omega) _

theorem sign_mul (x y : Int) (hx : x ≠ 0) (hy : y ≠ 0) : (x * y < 0 ∧ ((x < 0 ∧ 0 ≤ y) ∨ (0 ≤ x ∧ y < 0))) ∨ (0 ≤ x * y ∧ ((x < 0 ∧ y < 0) ∨ (0 ≤ x ∧ 0 ≤ y))) := by
  rcases Int.lt_or_gt_of_ne hx with h1 | h1 <;> rcases Int.lt_or_gt_of_ne hy with h2 | h2
  · exact .inr ⟨Int.le_of_lt (Int.mul_pos_of_neg_of_neg h1 h2), .inl ⟨h1, h2⟩⟩
  · exact .inl ⟨Int.mul_neg_of_neg_of_pos h1 h2, .inl ⟨h1, by omega⟩⟩
  · exact .inl ⟨Int.mul_neg_of_pos_of_neg h1 h2, .inr ⟨by omega, h2⟩⟩
  · exact .inr ⟨Int.le_of_lt (Int.mul_pos h1 h2), .inr ⟨by omega, by omega⟩⟩

theorem rMul_any (a b : Vl) (w : World) (ha : a.ok) (hb : b.ok) :
    Calls Try.prog 15 #[.agg #[.int .u8 a.k, .int .i64 a.n, .string a.s], .agg #[.int .u8 b.k, .int .i64 b.n, .string b.s]] w (RetV w (arithV mulI a b)) := by
  by_cases h : (a.right = true ∧ b.right = true) ∧ a.k = 1 ∧ b.k = 1
  · obtain ⟨h1, h2⟩ := two_nums a b h
    have a1 := ha.2.1
    have a2 := ha.2.2
    have b1 := hb.2.1
    have b2 := hb.2.2
    generalize a.n = x at *
    generalize b.n = y at *
    subst h1 h2
    rw [arithV_ii]
    have HQ := fun W => asked_ii x y W
    by_cases hx0 : x = 0
    · rw [show pickV (mulI x y).1 (mulI x y).2 = (numV 0, 0) from by subst hx0; unfold mulI; rw [Int.zero_mul]; rfl]
      exact rmul_zero x y w (.inl (by simp [hx0])) HQ
    · by_cases hy0 : y = 0
      · rw [show pickV (mulI x y).1 (mulI x y).2 = (numV 0, 0) from by subst hy0; unfold mulI; rw [Int.mul_zero]; rfl]
        exact rmul_zero x y w (.inr ⟨by simp [hx0], by simp [hy0]⟩) HQ
      · have e0 : (x == 0) = false := by simp [hx0]
        have e1 : (y == 0) = false := by simp [hy0]
        by_cases hl : (x = -1 ∧ y = -9223372036854775808) ∨ (y = -1 ∧ x = -9223372036854775808)
        · rw [show pickV (mulI x y).1 (mulI x y).2 = (nullV, 21) from by rcases hl with ⟨rfl, rfl⟩ | ⟨rfl, rfl⟩ <;> rfl]
          refine rmul_least x y w e0 e1 ?_ HQ
          rcases hl with ⟨h1, h2⟩ | ⟨h1, h2⟩
          · exact .inl ⟨by simp [h1], by simp [h2]⟩
          · exact .inr ⟨by simp [h2], by simp [h1], by simp [h2]⟩
        · have hPw : IntKind.i64.wrap (x * y) = wrap64 (x * y) := by rw [IntKind.wrap_i64]; unfold wrap64; rfl
          cases hf : fits (x * y) with
          | true =>
            have hb := (fits_iff _).1 hf
            have hPx : wrap64 (x * y) = x * y := IntWalk.wrap64_in _ hb
            rw [show pickV (mulI x y).1 (mulI x y).2 = (numV (x * y), 0) from by unfold mulI; rw [hf]; rfl]
            refine rmul_fits x y (x * y) w e0 e1 hy0 ?_ hPx (by rw [Int.mul_tdiv_cancel x hy0]; exact IntWalk.wrap64_in x ⟨a1, a2⟩) (Int.mul_tdiv_cancel x hy0) (sign_mul x y hx0 hy0) HQ
            unfold mulTests
            simp only [beq_iff_eq, beq_eq_false_iff_ne]
            omega
          | false =>
            have hne := mul_back x y a1 a2 b1 b2 hy0 hf
            rw [hPw] at hne
            have hPb : -9223372036854775808 ≤ wrap64 (x * y) ∧ wrap64 (x * y) ≤ 9223372036854775807 := by unfold wrap64; omega
            have hx1 : x ≠ -1 := by
              rintro rfl
              have := fits_yes (n := -1 * y) (by omega) (by omega)
              rw [this] at hf; cases hf
            have hy1 : y ≠ -1 := by
              rintro rfl
              have := fits_yes (n := x * -1) (by omega) (by omega)
              rw [this] at hf; cases hf
            have hdf := div_fits (wrap64 (x * y)) y hPb.1 hPb.2 hy0 (by omega)
            rw [show pickV (mulI x y).1 (mulI x y).2 = (nullV, 21) from by unfold mulI; rw [hf]; rfl]
            exact rmul_over x y _ _ w e0 e1 hy0 (by simp [hx1]) (by simp [hy1]) rfl rfl (by rw [IntWalk.wrap64_in _ hdf]; exact bne_iff_ne.2 hne) HQ
  · obtain ⟨e1, e2⟩ := askV_not mulI a b h
    rw [e1]
    exact rmul_not _ _ _ _ _ _ w (askV a b).1 _ e2 (fun W => asked_any a b W)

end Go.Proofs.Ytipeinkogoghnaa
