/- The walk of the reference's Or. -/
import Derived.Test.YteepnbdkpelbiaaCRefA
namespace Go.Proofs.Yteepnbdkpelbiaa
open Go.RowKit

theorem ror_bad1 (k1 k2 : Nat) (n1 n2 : Int) (s1 s2 : ByteArray) (w : World) (h : Vl.right ⟨k1, n1, s1⟩ = false) :
    Calls Try.prog 42 #[.agg #[.int .u8 k1, .int .i64 n1, .string s1], .agg #[.int .u8 k2, .int .i64 n2, .string s2]] w (RetV w (nullV, 3)) := by
  go_enter Try.func42, Try.ntmps42
  go_wp2_with fail
  refine (rright_any k1 n1 s1 _).mono ?_
  rw [h]
  rintro e w1 ⟨rfl, hb⟩
  obtain ⟨S3, S4, S6, hz⟩ := slots3 _ _ _ _ _ _ _ _ _ _ _ _ hb
  have hw : Below w.heap.size w w1 := Below.trans ((((Below.refl _ _).alloc (Nat.le_refl _) _).alloc (by simp) _).alloc (by simp; omega) _) (Below.mono hb (by simp <;> omega))
  clear hb
  obtain ⟨p0, p1, p2, p3, p4, p5⟩ := id S3
  obtain ⟨q0, q1, q2, q3, q4, q5⟩ := id S4
  obtain ⟨r0, r1, r2, r3, r4, r5⟩ := id S6
  go_wp2
  refine bodyPost_ret (v := .tuple #[.agg #[.int .u8 0, .int .i64 0, .string ⟨#[]⟩], .int .i64 3]) (by simp [results, Try.results42, go_sem, *]) rfl ⟨rfl, ?_⟩
  exact ((hw.setCell (by simp <;> omega) _).setCell (by simp <;> omega) _).setCell (by simp <;> omega) _

theorem ror_bad2 (k1 k2 : Nat) (n1 n2 : Int) (s1 s2 : ByteArray) (w : World) (h : Vl.right ⟨k1, n1, s1⟩ = true) (h2 : Vl.right ⟨k2, n2, s2⟩ = false) :
    Calls Try.prog 42 #[.agg #[.int .u8 k1, .int .i64 n1, .string s1], .agg #[.int .u8 k2, .int .i64 n2, .string s2]] w (RetV w (nullV, 3)) := by
  go_enter Try.func42, Try.ntmps42
  go_wp2_with fail
  refine (rright_any k1 n1 s1 _).mono ?_
  rw [h]
  rintro e w1 ⟨rfl, hb⟩
  obtain ⟨S3, S4, S6, hz⟩ := slots3 _ _ _ _ _ _ _ _ _ _ _ _ hb
  have hw : Below w.heap.size w w1 := Below.trans ((((Below.refl _ _).alloc (Nat.le_refl _) _).alloc (by simp) _).alloc (by simp; omega) _) (Below.mono hb (by simp <;> omega))
  clear hb
  obtain ⟨p0, p1, p2, p3, p4, p5⟩ := id S3
  obtain ⟨q0, q1, q2, q3, q4, q5⟩ := id S4
  obtain ⟨r0, r1, r2, r3, r4, r5⟩ := id S6
  go_wp2_with fail
  clear p0 p1 p2 p3 p4 p5 q0 q1 q2 q3 q4 q5 r0 r1 r2 r3 r4 r5
  refine (rright_any k2 n2 s2 _).mono ?_
  rw [h2]
  rintro e w2 ⟨rfl, hb⟩
  replace S3 := S3.later hb (by omega)
  replace S4 := S4.later hb (by omega)
  replace S6 := S6.later hb (by omega)
  replace hw := hw.trans (Below.mono hb (by omega))
  replace hz := Nat.le_trans hz (Below.size hb)
  clear hb
  obtain ⟨p0, p1, p2, p3, p4, p5⟩ := id S3
  obtain ⟨q0, q1, q2, q3, q4, q5⟩ := id S4
  obtain ⟨r0, r1, r2, r3, r4, r5⟩ := id S6
  go_wp2
  refine bodyPost_ret (v := .tuple #[.agg #[.int .u8 0, .int .i64 0, .string ⟨#[]⟩], .int .i64 3]) (by simp [results, Try.results42, go_sem, *]) rfl ⟨rfl, ?_⟩
  exact ((hw.setCell (by simp <;> omega) _).setCell (by simp <;> omega) _).setCell (by simp <;> omega) _

theorem ror_type (k1 k2 : Nat) (n1 n2 : Int) (s1 s2 : ByteArray) (w : World) (h : Vl.right ⟨k1, n1, s1⟩ = true) (h2 : Vl.right ⟨k2, n2, s2⟩ = true) (x y E F : Int)
    (HX : Hid (∀ W, Calls Try.prog 46 #[.agg #[.int .u8 k1, .int .i64 n1, .string s1]] W (RetI2 W (x, E))))
    (HY : Hid (∀ W, Calls Try.prog 46 #[.agg #[.int .u8 k2, .int .i64 n2, .string s2]] W (RetI2 W (y, F))))
    (hE : (E != 0) = true ∨ ((E != 0) = false ∧ (F != 0) = true)) :
    Calls Try.prog 42 #[.agg #[.int .u8 k1, .int .i64 n1, .string s1], .agg #[.int .u8 k2, .int .i64 n2, .string s2]] w (RetV w (nullV, 20)) := by
  rcases hE with e1 | ⟨e1, e2⟩
  all_goals
    go_enter Try.func42, Try.ntmps42
    go_wp2_with fail
    refine (rright_any k1 n1 s1 _).mono ?_
    rw [h]
    rintro e w1 ⟨rfl, hb⟩
    obtain ⟨S3, S4, S6, hz⟩ := slots3 _ _ _ _ _ _ _ _ _ _ _ _ hb
    have hw : Below w.heap.size w w1 := Below.trans ((((Below.refl _ _).alloc (Nat.le_refl _) _).alloc (by simp) _).alloc (by simp; omega) _) (Below.mono hb (by simp <;> omega))
    clear hb
    obtain ⟨p0, p1, p2, p3, p4, p5⟩ := id S3
    obtain ⟨q0, q1, q2, q3, q4, q5⟩ := id S4
    obtain ⟨r0, r1, r2, r3, r4, r5⟩ := id S6
    go_wp2_with fail
    clear p0 p1 p2 p3 p4 p5 q0 q1 q2 q3 q4 q5 r0 r1 r2 r3 r4 r5
    refine (rright_any k2 n2 s2 _).mono ?_
    rw [h2]
    rintro e w2 ⟨rfl, hb⟩
    replace S3 := S3.later hb (by omega)
    replace S4 := S4.later hb (by omega)
    replace S6 := S6.later hb (by omega)
    replace hw := hw.trans (Below.mono hb (by omega))
    replace hz := Nat.le_trans hz (Below.size hb)
    clear hb
    obtain ⟨p0, p1, p2, p3, p4, p5⟩ := id S3
    obtain ⟨q0, q1, q2, q3, q4, q5⟩ := id S4
    obtain ⟨r0, r1, r2, r3, r4, r5⟩ := id S6
    go_wp2_with fail
    clear p0 p1 p2 p3 p4 p5 q0 q1 q2 q3 q4 q5 r0 r1 r2 r3 r4 r5
    refine (HX.out _).mono ?_
    rintro e w3 ⟨rfl, hb⟩
    replace S3 := S3.later hb (by omega)
    replace S4 := S4.later hb (by omega)
    replace S6 := S6.later hb (by omega)
    replace hw := hw.trans (Below.mono hb (by omega))
    replace hz := Nat.le_trans hz (Below.size hb)
    clear hb
    obtain ⟨p0, p1, p2, p3, p4, p5⟩ := id S3
    obtain ⟨q0, q1, q2, q3, q4, q5⟩ := id S4
    obtain ⟨r0, r1, r2, r3, r4, r5⟩ := id S6
    go_wp2_with fail
    clear p0 p1 p2 p3 p4 p5 q0 q1 q2 q3 q4 q5 r0 r1 r2 r3 r4 r5
    refine (HY.out _).mono ?_
    rintro e w4 ⟨rfl, hb⟩
    replace S3 := S3.later hb (by omega)
    replace S4 := S4.later hb (by omega)
    replace S6 := S6.later hb (by omega)
    replace hw := hw.trans (Below.mono hb (by omega))
    replace hz := Nat.le_trans hz (Below.size hb)
    clear hb
    obtain ⟨p0, p1, p2, p3, p4, p5⟩ := id S3
    obtain ⟨q0, q1, q2, q3, q4, q5⟩ := id S4
    obtain ⟨r0, r1, r2, r3, r4, r5⟩ := id S6
    go_wp2
    refine bodyPost_ret (v := .tuple #[.agg #[.int .u8 0, .int .i64 0, .string ⟨#[]⟩], .int .i64 20]) (by simp [results, Try.results42, go_sem, *]) rfl ⟨rfl, ?_⟩
    exact ((hw.setCell (by simp <;> omega) _).setCell (by simp <;> omega) _).setCell (by simp <;> omega) _

set_option maxHeartbeats 2000000 in
theorem ror_good (k1 k2 : Nat) (n1 n2 : Int) (s1 s2 : ByteArray) (w : World) (h : Vl.right ⟨k1, n1, s1⟩ = true) (h2 : Vl.right ⟨k2, n2, s2⟩ = true) (x y : Int)
    (HX : Hid (∀ W, Calls Try.prog 46 #[.agg #[.int .u8 k1, .int .i64 n1, .string s1]] W (RetI2 W (x, 0))))
    (HY : Hid (∀ W, Calls Try.prog 46 #[.agg #[.int .u8 k2, .int .i64 n2, .string s2]] W (RetI2 W (y, 0))))
    (hx : x = 0 ∨ x = 1 ∨ x = 2) (hy : y = 0 ∨ y = 1 ∨ y = 2) (t : Int) (ht : tabO x y = t) :
    Calls Try.prog 42 #[.agg #[.int .u8 k1, .int .i64 n1, .string s1], .agg #[.int .u8 k2, .int .i64 n2, .string s2]] w (RetV w (ofT t, 0)) := by
  rcases hx with rfl | rfl | rfl <;> rcases hy with rfl | rfl | rfl
  all_goals
    simp [tabO] at ht
    subst ht
    go_enter Try.func42, Try.ntmps42
    go_wp2_with fail
    refine (rright_any k1 n1 s1 _).mono ?_
    rw [h]
    rintro e w1 ⟨rfl, hb⟩
    obtain ⟨S3, S4, S6, hz⟩ := slots3 _ _ _ _ _ _ _ _ _ _ _ _ hb
    have hw : Below w.heap.size w w1 := Below.trans ((((Below.refl _ _).alloc (Nat.le_refl _) _).alloc (by simp) _).alloc (by simp; omega) _) (Below.mono hb (by simp <;> omega))
    clear hb
    obtain ⟨p0, p1, p2, p3, p4, p5⟩ := id S3
    obtain ⟨q0, q1, q2, q3, q4, q5⟩ := id S4
    obtain ⟨r0, r1, r2, r3, r4, r5⟩ := id S6
    go_wp2_with fail
    clear p0 p1 p2 p3 p4 p5 q0 q1 q2 q3 q4 q5 r0 r1 r2 r3 r4 r5
    refine (rright_any k2 n2 s2 _).mono ?_
    rw [h2]
    rintro e w2 ⟨rfl, hb⟩
    replace S3 := S3.later hb (by omega)
    replace S4 := S4.later hb (by omega)
    replace S6 := S6.later hb (by omega)
    replace hw := hw.trans (Below.mono hb (by omega))
    replace hz := Nat.le_trans hz (Below.size hb)
    clear hb
    obtain ⟨p0, p1, p2, p3, p4, p5⟩ := id S3
    obtain ⟨q0, q1, q2, q3, q4, q5⟩ := id S4
    obtain ⟨r0, r1, r2, r3, r4, r5⟩ := id S6
    go_wp2_with fail
    clear p0 p1 p2 p3 p4 p5 q0 q1 q2 q3 q4 q5 r0 r1 r2 r3 r4 r5
    refine (HX.out _).mono ?_
    rintro e w3 ⟨rfl, hb⟩
    replace S3 := S3.later hb (by omega)
    replace S4 := S4.later hb (by omega)
    replace S6 := S6.later hb (by omega)
    replace hw := hw.trans (Below.mono hb (by omega))
    replace hz := Nat.le_trans hz (Below.size hb)
    clear hb
    obtain ⟨p0, p1, p2, p3, p4, p5⟩ := id S3
    obtain ⟨q0, q1, q2, q3, q4, q5⟩ := id S4
    obtain ⟨r0, r1, r2, r3, r4, r5⟩ := id S6
    go_wp2_with fail
    clear p0 p1 p2 p3 p4 p5 q0 q1 q2 q3 q4 q5 r0 r1 r2 r3 r4 r5
    refine (HY.out _).mono ?_
    rintro e w4 ⟨rfl, hb⟩
    replace S3 := S3.later hb (by omega)
    replace S4 := S4.later hb (by omega)
    replace S6 := S6.later hb (by omega)
    replace hw := hw.trans (Below.mono hb (by omega))
    replace hz := Nat.le_trans hz (Below.size hb)
    clear hb
    clear HX HY
    obtain ⟨p0, p1, p2, p3, p4, p5⟩ := id S3
    obtain ⟨q0, q1, q2, q3, q4, q5⟩ := id S4
    obtain ⟨r0, r1, r2, r3, r4, r5⟩ := id S6
    go_wp2_with fail
    clear p0 p1 p2 p3 p4 p5 q0 q1 q2 q3 q4 q5 r0 r1 r2 r3 r4 r5
    refine (rOf_any _ _).mono ?_
    rintro e w5 ⟨rfl, hb⟩
    replace hb : Later w4 w5 := Later.trans (Below.box _ _) hb
    replace S3 := S3.later hb (by omega)
    replace S4 := S4.later hb (by omega)
    replace S6 := S6.later hb (by omega)
    replace hw := hw.trans (Below.mono hb (by omega))
    replace hz := Nat.le_trans hz (Below.size hb)
    clear hb
    obtain ⟨p0, p1, p2, p3, p4, p5⟩ := id S3
    obtain ⟨q0, q1, q2, q3, q4, q5⟩ := id S4
    obtain ⟨r0, r1, r2, r3, r4, r5⟩ := id S6
    go_wp2
    first
      | refine bodyPost_ret (v := .tuple #[.agg #[.int .u8 (ofT 0).k, .int .i64 (ofT 0).n, .string (ofT 0).s], .int .i64 0]) (by simp [results, Try.results42, go_sem, *]) rfl ⟨rfl, ?_⟩
      | refine bodyPost_ret (v := .tuple #[.agg #[.int .u8 (ofT 1).k, .int .i64 (ofT 1).n, .string (ofT 1).s], .int .i64 0]) (by simp [results, Try.results42, go_sem, *]) rfl ⟨rfl, ?_⟩
      | refine bodyPost_ret (v := .tuple #[.agg #[.int .u8 (ofT 2).k, .int .i64 (ofT 2).n, .string (ofT 2).s], .int .i64 0]) (by simp [results, Try.results42, go_sem, *]) rfl ⟨rfl, ?_⟩
    exact ((hw.setCell (by simp <;> omega) _).setCell (by simp <;> omega) _).setCell (by simp <;> omega) _



theorem ror_any (a b : Vl) (w : World) :
    Calls Try.prog 42 #[.agg #[.int .u8 a.k, .int .i64 a.n, .string a.s], .agg #[.int .u8 b.k, .int .i64 b.n, .string b.s]] w (RetV w (rand2 tabO a b)) := by
  by_cases h1 : a.right = true
  · by_cases h2 : b.right = true
    · by_cases h3 : (rtruthT a).2 = 0
      · by_cases h4 : (rtruthT b).2 = 0
        · rw [show rand2 tabO a b = (ofT (tabO (rtruthT a).1 (rtruthT b).1), 0) from by unfold rand2; rw [if_neg (by simp [h1, h2]), if_neg (by simp [h3, h4])]]
          exact ror_good _ _ _ _ _ _ w h1 h2 _ _ (fun W => (Prod.ext rfl h3 : rtruthT a = ((rtruthT a).1, 0)) ▸ rTruth_any a W) (fun W => (Prod.ext rfl h4 : rtruthT b = ((rtruthT b).1, 0)) ▸ rTruth_any b W) (rtruth_three a h3) (rtruth_three b h4) _ rfl
        · rw [show rand2 tabO a b = (nullV, 20) from by unfold rand2; rw [if_neg (by simp [h1, h2]), if_pos (.inr h4)]]
          exact ror_type _ _ _ _ _ _ w h1 h2 (rtruthT a).1 (rtruthT b).1 (rtruthT a).2 (rtruthT b).2 (fun W => rTruth_any a W) (fun W => rTruth_any b W) (.inr ⟨by rw [h3]; rfl, bne_iff_ne.2 h4⟩)
      · rw [show rand2 tabO a b = (nullV, 20) from by unfold rand2; rw [if_neg (by simp [h1, h2]), if_pos (.inl h3)]]
        exact ror_type _ _ _ _ _ _ w h1 h2 (rtruthT a).1 (rtruthT b).1 (rtruthT a).2 (rtruthT b).2 (fun W => rTruth_any a W) (fun W => rTruth_any b W) (.inl (bne_iff_ne.2 h3))
    · rw [show rand2 tabO a b = (nullV, 3) from by unfold rand2; rw [if_pos (.inr (by simpa using h2))]]
      exact ror_bad2 _ _ _ _ _ _ w h1 (by simpa using h2)
  · rw [show rand2 tabO a b = (nullV, 3) from by unfold rand2; rw [if_pos (.inl (by simpa using h1))]]
    exact ror_bad1 _ _ _ _ _ _ w (by simpa using h1)

theorem rand_any (a b : Vl) (w : World) :
    Calls Try.prog 40 #[.agg #[.int .u8 a.k, .int .i64 a.n, .string a.s], .agg #[.int .u8 b.k, .int .i64 b.n, .string b.s]] w (RetV w (rand2 tabA a b)) := by
  by_cases h1 : a.right = true
  · by_cases h2 : b.right = true
    · by_cases h3 : (rtruthT a).2 = 0
      · by_cases h4 : (rtruthT b).2 = 0
        · rw [show rand2 tabA a b = (ofT (tabA (rtruthT a).1 (rtruthT b).1), 0) from by unfold rand2; rw [if_neg (by simp [h1, h2]), if_neg (by simp [h3, h4])]]
          exact rand_good _ _ _ _ _ _ w h1 h2 _ _ (fun W => (Prod.ext rfl h3 : rtruthT a = ((rtruthT a).1, 0)) ▸ rTruth_any a W) (fun W => (Prod.ext rfl h4 : rtruthT b = ((rtruthT b).1, 0)) ▸ rTruth_any b W) (rtruth_three a h3) (rtruth_three b h4) _ rfl
        · rw [show rand2 tabA a b = (nullV, 20) from by unfold rand2; rw [if_neg (by simp [h1, h2]), if_pos (.inr h4)]]
          exact rand_type _ _ _ _ _ _ w h1 h2 (rtruthT a).1 (rtruthT b).1 (rtruthT a).2 (rtruthT b).2 (fun W => rTruth_any a W) (fun W => rTruth_any b W) (.inr ⟨by rw [h3]; rfl, bne_iff_ne.2 h4⟩)
      · rw [show rand2 tabA a b = (nullV, 20) from by unfold rand2; rw [if_neg (by simp [h1, h2]), if_pos (.inl h3)]]
        exact rand_type _ _ _ _ _ _ w h1 h2 (rtruthT a).1 (rtruthT b).1 (rtruthT a).2 (rtruthT b).2 (fun W => rTruth_any a W) (fun W => rTruth_any b W) (.inl (bne_iff_ne.2 h3))
    · rw [show rand2 tabA a b = (nullV, 3) from by unfold rand2; rw [if_pos (.inr (by simpa using h2))]]
      exact rand_bad2 _ _ _ _ _ _ w h1 (by simpa using h2)
  · rw [show rand2 tabA a b = (nullV, 3) from by unfold rand2; rw [if_pos (.inl (by simpa using h1))]]
    exact rand_bad1 _ _ _ _ _ _ w (by simpa using h1)

end Go.Proofs.Yteepnbdkpelbiaa
