/- The walks of cell.arith at two integers, and at any values, at each of its operations. -/
import Derived.Test.YtipeinkogoghnaaCArithN
namespace Go.Proofs.Ytipeinkogoghnaa
open Go.RowKit

def pickV (v q : Int) : Vl × Int := if q ≠ 0 then (nullV, q) else (numV v, 0)

theorem arithV_ii (op : Int → Int → Int × Int) (n1 n2 : Int) : arithV op ⟨1, n1, ⟨#[]⟩⟩ ⟨1, n2, ⟨#[]⟩⟩ = pickV (op n1 n2).1 (op n1 n2).2 := by
  unfold arithV pickV
  rw [right_i, right_i]
  simp

theorem arith_ii_add (n1 n2 : Int) (w : World) (b1 : -9223372036854775808 ≤ n1) (b2 : n1 ≤ 9223372036854775807) (b3 : -9223372036854775808 ≤ n2) (b4 : n2 ≤ 9223372036854775807) :
    Calls Try.prog 34 #[.agg #[.int .u8 1, .int .i64 n1, .string ⟨#[]⟩], .agg #[.int .u8 1, .int .i64 n2, .string ⟨#[]⟩], .func (.func 35) #[] #[]] w (RetV w (arithV addI ⟨1, n1, ⟨#[]⟩⟩ ⟨1, n2, ⟨#[]⟩⟩)) := by
  rw [arithV_ii]
  have hop := fun W => add_any n1 n2 W b1 b2 b3 b4
  obtain ⟨R, hR⟩ : ∃ R, addI n1 n2 = R := ⟨_, rfl⟩
  rw [hR] at hop ⊢
  obtain ⟨v, q⟩ := R
  simp only [] at hop
  have HOP := Lib.hid hop
  clear hop hR b1 b2 b3 b4
  go_enter Try.func34, Try.ntmps34
  go_wp2_with fail
  refine (right_any 1 n1 ⟨#[]⟩ _).mono ?_
  rw [right_i n1]
  rintro e w1 ⟨rfl, hb⟩
  obtain ⟨S3, S4, S6, hz⟩ := slots3 _ _ _ _ _ _ _ _ _ _ _ _ hb
  have hw : Below w.heap.size w w1 := Below.trans ((((Below.refl _ _).alloc (Nat.le_refl _) _).alloc (by simp) _).alloc (by simp; omega) _) (Below.mono hb (by simp <;> omega))
  clear hb
  obtain ⟨p0, p1, p2, p3, p4, p5⟩ := id S3
  obtain ⟨q0, q1, q2, q3, q4, q5⟩ := id S4
  obtain ⟨r0, r1, r2, r3, r4, r5⟩ := id S6
  go_wp2_with fail
  clear p0 p1 p2 p3 p4 p5 q0 q1 q2 q3 q4 q5 r0 r1 r2 r3 r4 r5
  refine (right_any 1 n2 ⟨#[]⟩ _).mono ?_
  rw [right_i n2]
  rintro e w2 ⟨rfl, hb⟩
  replace S3 := S3.later hb (by omega)
  replace S4 := S4.later hb (by omega)
  replace S6 := S6.later hb (by omega)
  replace hw := hw.trans (Below.mono hb (by omega))
  replace hz := Nat.le_trans hz (Below.size hb)
  clear hb
  obtain ⟨p0, p1, p2, p3, p4, p5⟩ := id S3
  obtain ⟨q0, q1, q2, q3, q4, q5⟩ := id S4
  obtain ⟨r0, r1, r2, r3, r4, r5⟩ := id S6
  go_wp2_with fail
  clear p0 p1 p2 p3 p4 p5 q0 q1 q2 q3 q4 q5 r0 r1 r2 r3 r4 r5
  refine (isNumeric_any 1 n1 ⟨#[]⟩ _).mono ?_
  rw [num1]
  rintro e w3 ⟨rfl, hb⟩
  replace S3 := S3.later hb (by omega)
  replace S4 := S4.later hb (by omega)
  replace S6 := S6.later hb (by omega)
  replace hw := hw.trans (Below.mono hb (by omega))
  replace hz := Nat.le_trans hz (Below.size hb)
  clear hb
  obtain ⟨p0, p1, p2, p3, p4, p5⟩ := id S3
  obtain ⟨q0, q1, q2, q3, q4, q5⟩ := id S4
  obtain ⟨r0, r1, r2, r3, r4, r5⟩ := id S6
  go_wp2_with fail
  clear p0 p1 p2 p3 p4 p5 q0 q1 q2 q3 q4 q5 r0 r1 r2 r3 r4 r5
  refine (isNumeric_any 1 n2 ⟨#[]⟩ _).mono ?_
  rw [num1]
  rintro e w4 ⟨rfl, hb⟩
  replace S3 := S3.later hb (by omega)
  replace S4 := S4.later hb (by omega)
  replace S6 := S6.later hb (by omega)
  replace hw := hw.trans (Below.mono hb (by omega))
  replace hz := Nat.le_trans hz (Below.size hb)
  clear hb
  go_wp2_with fail
  have a0 := fun W (h : Later w4.drew W) => (S3.later (Later.undrew h) (by omega)).1
  have a1 := fun W (h : Later w4.drew W) => (S3.later (Later.undrew h) (by omega)).2.1
  have a2 := fun W (h : Later w4.drew W) => (S3.later (Later.undrew h) (by omega)).2.2.1
  refine wp_region_ord [(0, true), (1, false), (2, true), (3, true), (4, true), (5, false), (6, true), (7, true)] (by kernel_rfl) (by kernel_rfl) (by kernel_rfl) (by kernel_rfl) ?_
  repeat (first | (refine wpO_F (v := ?_) rfl (by rfl) (fun w' hL => ?_) ?_; rotate_left; (solve | (go_simp; with_reducible rfl) | go_simp); try simp only [Act.put, List.setIfInBounds_toArray, List.set_cons_zero, List.set_cons_succ]) | (refine wpO_G rfl (by rfl) ?_; try simp only [Act.put, List.setIfInBounds_toArray, List.set_cons_zero, List.set_cons_succ]))
  refine wpO_C rfl (by rfl) ?_
  go_simp
  refine (null_any _).mono ?_
  rintro e w5 ⟨rfl, hb⟩
  refine ⟨hb, ?_⟩
  try simp only [Act.put, List.setIfInBounds_toArray, List.set_cons_zero, List.set_cons_succ]
  replace S3 := S3.later (Later.undrew hb) (by omega)
  replace S4 := S4.later (Later.undrew hb) (by omega)
  replace S6 := S6.later (Later.undrew hb) (by omega)
  replace hw := hw.trans (Below.mono (Later.undrew hb) (by omega))
  replace hz := Nat.le_trans hz (Later.undrew hb).size
  clear hb a0 a1 a2
  have b0 := fun W (h : Later w5 W) => (S4.later h (by omega)).1
  have b1 := fun W (h : Later w5 W) => (S4.later h (by omega)).2.1
  have b2 := fun W (h : Later w5 W) => (S4.later h (by omega)).2.2.1
  repeat (first | (refine wpO_F (v := ?_) rfl (by rfl) (fun w' hL => ?_) ?_; rotate_left; (solve | (go_simp; with_reducible rfl) | go_simp); try simp only [Act.put, List.setIfInBounds_toArray, List.set_cons_zero, List.set_cons_succ]) | (refine wpO_G rfl (by rfl) ?_; try simp only [Act.put, List.setIfInBounds_toArray, List.set_cons_zero, List.set_cons_succ]))
  refine wpO_C rfl (by rfl) ?_
  go_simp
  refine (null_any _).mono ?_
  rintro e w6 ⟨rfl, hb⟩
  refine ⟨hb, ?_⟩
  try simp only [Act.put, List.setIfInBounds_toArray, List.set_cons_zero, List.set_cons_succ]
  replace S3 := S3.later hb (by omega)
  replace S4 := S4.later hb (by omega)
  replace S6 := S6.later hb (by omega)
  replace hw := hw.trans (Below.mono hb (by omega))
  replace hz := Nat.le_trans hz hb.size
  clear hb b0 b1 b2
  repeat (first | (refine wpO_F (v := ?_) rfl (by rfl) (fun w' hL => ?_) ?_; rotate_left; (solve | (go_simp; with_reducible rfl) | go_simp); try simp only [Act.put, List.setIfInBounds_toArray, List.set_cons_zero, List.set_cons_succ]) | (refine wpO_G rfl (by rfl) ?_; try simp only [Act.put, List.setIfInBounds_toArray, List.set_cons_zero, List.set_cons_succ]))
  refine wpO_nil ?_
  obtain ⟨p0, p1, p2, p3, p4, p5⟩ := id S3
  obtain ⟨q0, q1, q2, q3, q4, q5⟩ := id S4
  obtain ⟨r0, r1, r2, r3, r4, r5⟩ := id S6
  go_wp2_with fail
  refine (HOP.out _).mono ?_
  rintro e w7 ⟨rfl, rfl⟩
  clear HOP
  by_cases hq : q = 0
  · subst hq
    go_wp2_with fail
    clear p0 p1 p2 p3 p4 p5 q0 q1 q2 q3 q4 q5 r0 r1 r2 r3 r4 r5
    refine (whole_any v _).mono ?_
    rintro e w8 ⟨rfl, hb⟩
    replace S3 := S3.later hb (by omega)
    replace S4 := S4.later hb (by omega)
    replace S6 := S6.later hb (by omega)
    replace hw := hw.trans (Below.mono hb (by omega))
    replace hz := Nat.le_trans hz (Below.size hb)
    clear hb
    obtain ⟨p0, p1, p2, p3, p4, p5⟩ := id S3
    obtain ⟨q0, q1, q2, q3, q4, q5⟩ := id S4
    obtain ⟨r0, r1, r2, r3, r4, r5⟩ := id S6
    go_wp2
    refine bodyPost_ret (v := .tuple #[.agg #[.int .u8 1, .int .i64 v, .string ⟨#[]⟩], .int .i64 0]) (by simp [results, Try.results34, go_sem, *]) rfl ⟨rfl, ?_⟩
    exact ((hw.setCell (by simp; omega) _).setCell (by simp; omega) _).setCell (by simp; omega) _
  · have hq3 : (q != 0) = true := by simp [hq]
    have hpk := Lib.hid (show pickV v q = (nullV, q) from if_pos hq)
    go_wp2_with fail
    clear p0 p1 p2 p3 p4 p5 q0 q1 q2 q3 q4 q5 r0 r1 r2 r3 r4 r5
    refine (null_any _).mono ?_
    rintro e w8 ⟨rfl, hb⟩
    replace S3 := S3.later hb (by omega)
    replace S4 := S4.later hb (by omega)
    replace S6 := S6.later hb (by omega)
    replace hw := hw.trans (Below.mono hb (by omega))
    replace hz := Nat.le_trans hz (Below.size hb)
    clear hb
    obtain ⟨p0, p1, p2, p3, p4, p5⟩ := id S3
    obtain ⟨q0, q1, q2, q3, q4, q5⟩ := id S4
    obtain ⟨r0, r1, r2, r3, r4, r5⟩ := id S6
    go_wp2
    refine bodyPost_ret (v := .tuple #[.agg #[.int .u8 0, .int .i64 0, .string ⟨#[]⟩], .int .i64 q]) (by simp [results, Try.results34, go_sem, *]) rfl ⟨by rw [hpk.out]; rfl, ?_⟩
    exact ((hw.setCell (by simp; omega) _).setCell (by simp; omega) _).setCell (by simp; omega) _

theorem arith_add (a b : Vl) (w : World) (ha : a.ok) (hb : b.ok) :
    Calls Try.prog 34 #[.agg #[.int .u8 a.k, .int .i64 a.n, .string a.s], .agg #[.int .u8 b.k, .int .i64 b.n, .string b.s], .func (.func 35) #[] #[]] w (RetV w (arithV addI a b)) := by
  by_cases h1 : a.right = true
  · by_cases h2 : b.right = true
    · by_cases h3 : a.k ≤ 1
      · by_cases h4 : b.k ≤ 1
        · rcases right_cases0 a h1 h3 with e1 | e1 <;> rcases right_cases0 b h2 h4 with e2 | e2
          · rw [e1, e2, show arithV addI ⟨0, 0, ⟨#[]⟩⟩ ⟨0, 0, ⟨#[]⟩⟩ = (nullV, 0) from by unfold arithV; rw [right_n]; simp]
            exact arith_nn _ w
          · rw [e1, e2, show arithV addI ⟨0, 0, ⟨#[]⟩⟩ ⟨1, b.n, ⟨#[]⟩⟩ = (nullV, 0) from by unfold arithV; rw [right_n, right_i]; simp]
            exact arith_ni _ _ w
          · rw [e1, e2, show arithV addI ⟨1, a.n, ⟨#[]⟩⟩ ⟨0, 0, ⟨#[]⟩⟩ = (nullV, 0) from by unfold arithV; rw [right_n, right_i]; simp]
            exact arith_in _ _ w
          · rw [e1, e2]
            exact arith_ii_add _ _ w ha.2.1 ha.2.2 hb.2.1 hb.2.2
        · rw [show arithV addI a b = (nullV, 20) from by unfold arithV; rw [if_neg (by simp [h1, h2]), if_pos (.inr (by omega))]]
          exact arith_type2 _ _ _ _ _ _ _ w h1 h2 (by simpa using h3) (by simpa using h4)
      · rw [show arithV addI a b = (nullV, 20) from by unfold arithV; rw [if_neg (by simp [h1, h2]), if_pos (.inl (by omega))]]
        exact arith_type1 _ _ _ _ _ _ _ w h1 h2 (by simpa using h3)
    · rw [show arithV addI a b = (nullV, 3) from by unfold arithV; rw [if_pos (.inr (by simpa using h2))]]
      exact arith_bad2 _ _ _ _ _ _ _ w h1 (by simpa using h2)
  · rw [show arithV addI a b = (nullV, 3) from by unfold arithV; rw [if_pos (.inl (by simpa using h1))]]
    exact arith_bad1 _ _ _ _ _ _ _ w (by simpa using h1)

theorem arith_ii_sub (n1 n2 : Int) (w : World) (b1 : -9223372036854775808 ≤ n1) (b2 : n1 ≤ 9223372036854775807) (b3 : -9223372036854775808 ≤ n2) (b4 : n2 ≤ 9223372036854775807) :
    Calls Try.prog 34 #[.agg #[.int .u8 1, .int .i64 n1, .string ⟨#[]⟩], .agg #[.int .u8 1, .int .i64 n2, .string ⟨#[]⟩], .func (.func 37) #[] #[]] w (RetV w (arithV subI ⟨1, n1, ⟨#[]⟩⟩ ⟨1, n2, ⟨#[]⟩⟩)) := by
  rw [arithV_ii]
  have hop := fun W => sub_any n1 n2 W b1 b2 b3 b4
  obtain ⟨R, hR⟩ : ∃ R, subI n1 n2 = R := ⟨_, rfl⟩
  rw [hR] at hop ⊢
  obtain ⟨v, q⟩ := R
  simp only [] at hop
  have HOP := Lib.hid hop
  clear hop hR b1 b2 b3 b4
  go_enter Try.func34, Try.ntmps34
  go_wp2_with fail
  refine (right_any 1 n1 ⟨#[]⟩ _).mono ?_
  rw [right_i n1]
  rintro e w1 ⟨rfl, hb⟩
  obtain ⟨S3, S4, S6, hz⟩ := slots3 _ _ _ _ _ _ _ _ _ _ _ _ hb
  have hw : Below w.heap.size w w1 := Below.trans ((((Below.refl _ _).alloc (Nat.le_refl _) _).alloc (by simp) _).alloc (by simp; omega) _) (Below.mono hb (by simp <;> omega))
  clear hb
  obtain ⟨p0, p1, p2, p3, p4, p5⟩ := id S3
  obtain ⟨q0, q1, q2, q3, q4, q5⟩ := id S4
  obtain ⟨r0, r1, r2, r3, r4, r5⟩ := id S6
  go_wp2_with fail
  clear p0 p1 p2 p3 p4 p5 q0 q1 q2 q3 q4 q5 r0 r1 r2 r3 r4 r5
  refine (right_any 1 n2 ⟨#[]⟩ _).mono ?_
  rw [right_i n2]
  rintro e w2 ⟨rfl, hb⟩
  replace S3 := S3.later hb (by omega)
  replace S4 := S4.later hb (by omega)
  replace S6 := S6.later hb (by omega)
  replace hw := hw.trans (Below.mono hb (by omega))
  replace hz := Nat.le_trans hz (Below.size hb)
  clear hb
  obtain ⟨p0, p1, p2, p3, p4, p5⟩ := id S3
  obtain ⟨q0, q1, q2, q3, q4, q5⟩ := id S4
  obtain ⟨r0, r1, r2, r3, r4, r5⟩ := id S6
  go_wp2_with fail
  clear p0 p1 p2 p3 p4 p5 q0 q1 q2 q3 q4 q5 r0 r1 r2 r3 r4 r5
  refine (isNumeric_any 1 n1 ⟨#[]⟩ _).mono ?_
  rw [num1]
  rintro e w3 ⟨rfl, hb⟩
  replace S3 := S3.later hb (by omega)
  replace S4 := S4.later hb (by omega)
  replace S6 := S6.later hb (by omega)
  replace hw := hw.trans (Below.mono hb (by omega))
  replace hz := Nat.le_trans hz (Below.size hb)
  clear hb
  obtain ⟨p0, p1, p2, p3, p4, p5⟩ := id S3
  obtain ⟨q0, q1, q2, q3, q4, q5⟩ := id S4
  obtain ⟨r0, r1, r2, r3, r4, r5⟩ := id S6
  go_wp2_with fail
  clear p0 p1 p2 p3 p4 p5 q0 q1 q2 q3 q4 q5 r0 r1 r2 r3 r4 r5
  refine (isNumeric_any 1 n2 ⟨#[]⟩ _).mono ?_
  rw [num1]
  rintro e w4 ⟨rfl, hb⟩
  replace S3 := S3.later hb (by omega)
  replace S4 := S4.later hb (by omega)
  replace S6 := S6.later hb (by omega)
  replace hw := hw.trans (Below.mono hb (by omega))
  replace hz := Nat.le_trans hz (Below.size hb)
  clear hb
  go_wp2_with fail
  have a0 := fun W (h : Later w4.drew W) => (S3.later (Later.undrew h) (by omega)).1
  have a1 := fun W (h : Later w4.drew W) => (S3.later (Later.undrew h) (by omega)).2.1
  have a2 := fun W (h : Later w4.drew W) => (S3.later (Later.undrew h) (by omega)).2.2.1
  refine wp_region_ord [(0, true), (1, false), (2, true), (3, true), (4, true), (5, false), (6, true), (7, true)] (by kernel_rfl) (by kernel_rfl) (by kernel_rfl) (by kernel_rfl) ?_
  repeat (first | (refine wpO_F (v := ?_) rfl (by rfl) (fun w' hL => ?_) ?_; rotate_left; (solve | (go_simp; with_reducible rfl) | go_simp); try simp only [Act.put, List.setIfInBounds_toArray, List.set_cons_zero, List.set_cons_succ]) | (refine wpO_G rfl (by rfl) ?_; try simp only [Act.put, List.setIfInBounds_toArray, List.set_cons_zero, List.set_cons_succ]))
  refine wpO_C rfl (by rfl) ?_
  go_simp
  refine (null_any _).mono ?_
  rintro e w5 ⟨rfl, hb⟩
  refine ⟨hb, ?_⟩
  try simp only [Act.put, List.setIfInBounds_toArray, List.set_cons_zero, List.set_cons_succ]
  replace S3 := S3.later (Later.undrew hb) (by omega)
  replace S4 := S4.later (Later.undrew hb) (by omega)
  replace S6 := S6.later (Later.undrew hb) (by omega)
  replace hw := hw.trans (Below.mono (Later.undrew hb) (by omega))
  replace hz := Nat.le_trans hz (Later.undrew hb).size
  clear hb a0 a1 a2
  have b0 := fun W (h : Later w5 W) => (S4.later h (by omega)).1
  have b1 := fun W (h : Later w5 W) => (S4.later h (by omega)).2.1
  have b2 := fun W (h : Later w5 W) => (S4.later h (by omega)).2.2.1
  repeat (first | (refine wpO_F (v := ?_) rfl (by rfl) (fun w' hL => ?_) ?_; rotate_left; (solve | (go_simp; with_reducible rfl) | go_simp); try simp only [Act.put, List.setIfInBounds_toArray, List.set_cons_zero, List.set_cons_succ]) | (refine wpO_G rfl (by rfl) ?_; try simp only [Act.put, List.setIfInBounds_toArray, List.set_cons_zero, List.set_cons_succ]))
  refine wpO_C rfl (by rfl) ?_
  go_simp
  refine (null_any _).mono ?_
  rintro e w6 ⟨rfl, hb⟩
  refine ⟨hb, ?_⟩
  try simp only [Act.put, List.setIfInBounds_toArray, List.set_cons_zero, List.set_cons_succ]
  replace S3 := S3.later hb (by omega)
  replace S4 := S4.later hb (by omega)
  replace S6 := S6.later hb (by omega)
  replace hw := hw.trans (Below.mono hb (by omega))
  replace hz := Nat.le_trans hz hb.size
  clear hb b0 b1 b2
  repeat (first | (refine wpO_F (v := ?_) rfl (by rfl) (fun w' hL => ?_) ?_; rotate_left; (solve | (go_simp; with_reducible rfl) | go_simp); try simp only [Act.put, List.setIfInBounds_toArray, List.set_cons_zero, List.set_cons_succ]) | (refine wpO_G rfl (by rfl) ?_; try simp only [Act.put, List.setIfInBounds_toArray, List.set_cons_zero, List.set_cons_succ]))
  refine wpO_nil ?_
  obtain ⟨p0, p1, p2, p3, p4, p5⟩ := id S3
  obtain ⟨q0, q1, q2, q3, q4, q5⟩ := id S4
  obtain ⟨r0, r1, r2, r3, r4, r5⟩ := id S6
  go_wp2_with fail
  refine (HOP.out _).mono ?_
  rintro e w7 ⟨rfl, rfl⟩
  clear HOP
  by_cases hq : q = 0
  · subst hq
    go_wp2_with fail
    clear p0 p1 p2 p3 p4 p5 q0 q1 q2 q3 q4 q5 r0 r1 r2 r3 r4 r5
    refine (whole_any v _).mono ?_
    rintro e w8 ⟨rfl, hb⟩
    replace S3 := S3.later hb (by omega)
    replace S4 := S4.later hb (by omega)
    replace S6 := S6.later hb (by omega)
    replace hw := hw.trans (Below.mono hb (by omega))
    replace hz := Nat.le_trans hz (Below.size hb)
    clear hb
    obtain ⟨p0, p1, p2, p3, p4, p5⟩ := id S3
    obtain ⟨q0, q1, q2, q3, q4, q5⟩ := id S4
    obtain ⟨r0, r1, r2, r3, r4, r5⟩ := id S6
    go_wp2
    refine bodyPost_ret (v := .tuple #[.agg #[.int .u8 1, .int .i64 v, .string ⟨#[]⟩], .int .i64 0]) (by simp [results, Try.results34, go_sem, *]) rfl ⟨rfl, ?_⟩
    exact ((hw.setCell (by simp; omega) _).setCell (by simp; omega) _).setCell (by simp; omega) _
  · have hq3 : (q != 0) = true := by simp [hq]
    have hpk := Lib.hid (show pickV v q = (nullV, q) from if_pos hq)
    go_wp2_with fail
    clear p0 p1 p2 p3 p4 p5 q0 q1 q2 q3 q4 q5 r0 r1 r2 r3 r4 r5
    refine (null_any _).mono ?_
    rintro e w8 ⟨rfl, hb⟩
    replace S3 := S3.later hb (by omega)
    replace S4 := S4.later hb (by omega)
    replace S6 := S6.later hb (by omega)
    replace hw := hw.trans (Below.mono hb (by omega))
    replace hz := Nat.le_trans hz (Below.size hb)
    clear hb
    obtain ⟨p0, p1, p2, p3, p4, p5⟩ := id S3
    obtain ⟨q0, q1, q2, q3, q4, q5⟩ := id S4
    obtain ⟨r0, r1, r2, r3, r4, r5⟩ := id S6
    go_wp2
    refine bodyPost_ret (v := .tuple #[.agg #[.int .u8 0, .int .i64 0, .string ⟨#[]⟩], .int .i64 q]) (by simp [results, Try.results34, go_sem, *]) rfl ⟨by rw [hpk.out]; rfl, ?_⟩
    exact ((hw.setCell (by simp; omega) _).setCell (by simp; omega) _).setCell (by simp; omega) _

theorem arith_sub (a b : Vl) (w : World) (ha : a.ok) (hb : b.ok) :
    Calls Try.prog 34 #[.agg #[.int .u8 a.k, .int .i64 a.n, .string a.s], .agg #[.int .u8 b.k, .int .i64 b.n, .string b.s], .func (.func 37) #[] #[]] w (RetV w (arithV subI a b)) := by
  by_cases h1 : a.right = true
  · by_cases h2 : b.right = true
    · by_cases h3 : a.k ≤ 1
      · by_cases h4 : b.k ≤ 1
        · rcases right_cases0 a h1 h3 with e1 | e1 <;> rcases right_cases0 b h2 h4 with e2 | e2
          · rw [e1, e2, show arithV subI ⟨0, 0, ⟨#[]⟩⟩ ⟨0, 0, ⟨#[]⟩⟩ = (nullV, 0) from by unfold arithV; rw [right_n]; simp]
            exact arith_nn _ w
          · rw [e1, e2, show arithV subI ⟨0, 0, ⟨#[]⟩⟩ ⟨1, b.n, ⟨#[]⟩⟩ = (nullV, 0) from by unfold arithV; rw [right_n, right_i]; simp]
            exact arith_ni _ _ w
          · rw [e1, e2, show arithV subI ⟨1, a.n, ⟨#[]⟩⟩ ⟨0, 0, ⟨#[]⟩⟩ = (nullV, 0) from by unfold arithV; rw [right_n, right_i]; simp]
            exact arith_in _ _ w
          · rw [e1, e2]
            exact arith_ii_sub _ _ w ha.2.1 ha.2.2 hb.2.1 hb.2.2
        · rw [show arithV subI a b = (nullV, 20) from by unfold arithV; rw [if_neg (by simp [h1, h2]), if_pos (.inr (by omega))]]
          exact arith_type2 _ _ _ _ _ _ _ w h1 h2 (by simpa using h3) (by simpa using h4)
      · rw [show arithV subI a b = (nullV, 20) from by unfold arithV; rw [if_neg (by simp [h1, h2]), if_pos (.inl (by omega))]]
        exact arith_type1 _ _ _ _ _ _ _ w h1 h2 (by simpa using h3)
    · rw [show arithV subI a b = (nullV, 3) from by unfold arithV; rw [if_pos (.inr (by simpa using h2))]]
      exact arith_bad2 _ _ _ _ _ _ _ w h1 (by simpa using h2)
  · rw [show arithV subI a b = (nullV, 3) from by unfold arithV; rw [if_pos (.inl (by simpa using h1))]]
    exact arith_bad1 _ _ _ _ _ _ _ w (by simpa using h1)

theorem arith_ii_mul (n1 n2 : Int) (w : World) (b1 : -9223372036854775808 ≤ n1) (b2 : n1 ≤ 9223372036854775807) (b3 : -9223372036854775808 ≤ n2) (b4 : n2 ≤ 9223372036854775807) :
    Calls Try.prog 34 #[.agg #[.int .u8 1, .int .i64 n1, .string ⟨#[]⟩], .agg #[.int .u8 1, .int .i64 n2, .string ⟨#[]⟩], .func (.func 38) #[] #[]] w (RetV w (arithV mulI ⟨1, n1, ⟨#[]⟩⟩ ⟨1, n2, ⟨#[]⟩⟩)) := by
  rw [arithV_ii]
  have hop := fun W => mul_any n1 n2 W b1 b2 b3 b4
  obtain ⟨R, hR⟩ : ∃ R, mulI n1 n2 = R := ⟨_, rfl⟩
  rw [hR] at hop ⊢
  obtain ⟨v, q⟩ := R
  simp only [] at hop
  have HOP := Lib.hid hop
  clear hop hR b1 b2 b3 b4
  go_enter Try.func34, Try.ntmps34
  go_wp2_with fail
  refine (right_any 1 n1 ⟨#[]⟩ _).mono ?_
  rw [right_i n1]
  rintro e w1 ⟨rfl, hb⟩
  obtain ⟨S3, S4, S6, hz⟩ := slots3 _ _ _ _ _ _ _ _ _ _ _ _ hb
  have hw : Below w.heap.size w w1 := Below.trans ((((Below.refl _ _).alloc (Nat.le_refl _) _).alloc (by simp) _).alloc (by simp; omega) _) (Below.mono hb (by simp <;> omega))
  clear hb
  obtain ⟨p0, p1, p2, p3, p4, p5⟩ := id S3
  obtain ⟨q0, q1, q2, q3, q4, q5⟩ := id S4
  obtain ⟨r0, r1, r2, r3, r4, r5⟩ := id S6
  go_wp2_with fail
  clear p0 p1 p2 p3 p4 p5 q0 q1 q2 q3 q4 q5 r0 r1 r2 r3 r4 r5
  refine (right_any 1 n2 ⟨#[]⟩ _).mono ?_
  rw [right_i n2]
  rintro e w2 ⟨rfl, hb⟩
  replace S3 := S3.later hb (by omega)
  replace S4 := S4.later hb (by omega)
  replace S6 := S6.later hb (by omega)
  replace hw := hw.trans (Below.mono hb (by omega))
  replace hz := Nat.le_trans hz (Below.size hb)
  clear hb
  obtain ⟨p0, p1, p2, p3, p4, p5⟩ := id S3
  obtain ⟨q0, q1, q2, q3, q4, q5⟩ := id S4
  obtain ⟨r0, r1, r2, r3, r4, r5⟩ := id S6
  go_wp2_with fail
  clear p0 p1 p2 p3 p4 p5 q0 q1 q2 q3 q4 q5 r0 r1 r2 r3 r4 r5
  refine (isNumeric_any 1 n1 ⟨#[]⟩ _).mono ?_
  rw [num1]
  rintro e w3 ⟨rfl, hb⟩
  replace S3 := S3.later hb (by omega)
  replace S4 := S4.later hb (by omega)
  replace S6 := S6.later hb (by omega)
  replace hw := hw.trans (Below.mono hb (by omega))
  replace hz := Nat.le_trans hz (Below.size hb)
  clear hb
  obtain ⟨p0, p1, p2, p3, p4, p5⟩ := id S3
  obtain ⟨q0, q1, q2, q3, q4, q5⟩ := id S4
  obtain ⟨r0, r1, r2, r3, r4, r5⟩ := id S6
  go_wp2_with fail
  clear p0 p1 p2 p3 p4 p5 q0 q1 q2 q3 q4 q5 r0 r1 r2 r3 r4 r5
  refine (isNumeric_any 1 n2 ⟨#[]⟩ _).mono ?_
  rw [num1]
  rintro e w4 ⟨rfl, hb⟩
  replace S3 := S3.later hb (by omega)
  replace S4 := S4.later hb (by omega)
  replace S6 := S6.later hb (by omega)
  replace hw := hw.trans (Below.mono hb (by omega))
  replace hz := Nat.le_trans hz (Below.size hb)
  clear hb
  go_wp2_with fail
  have a0 := fun W (h : Later w4.drew W) => (S3.later (Later.undrew h) (by omega)).1
  have a1 := fun W (h : Later w4.drew W) => (S3.later (Later.undrew h) (by omega)).2.1
  have a2 := fun W (h : Later w4.drew W) => (S3.later (Later.undrew h) (by omega)).2.2.1
  refine wp_region_ord [(0, true), (1, false), (2, true), (3, true), (4, true), (5, false), (6, true), (7, true)] (by kernel_rfl) (by kernel_rfl) (by kernel_rfl) (by kernel_rfl) ?_
  repeat (first | (refine wpO_F (v := ?_) rfl (by rfl) (fun w' hL => ?_) ?_; rotate_left; (solve | (go_simp; with_reducible rfl) | go_simp); try simp only [Act.put, List.setIfInBounds_toArray, List.set_cons_zero, List.set_cons_succ]) | (refine wpO_G rfl (by rfl) ?_; try simp only [Act.put, List.setIfInBounds_toArray, List.set_cons_zero, List.set_cons_succ]))
  refine wpO_C rfl (by rfl) ?_
  go_simp
  refine (null_any _).mono ?_
  rintro e w5 ⟨rfl, hb⟩
  refine ⟨hb, ?_⟩
  try simp only [Act.put, List.setIfInBounds_toArray, List.set_cons_zero, List.set_cons_succ]
  replace S3 := S3.later (Later.undrew hb) (by omega)
  replace S4 := S4.later (Later.undrew hb) (by omega)
  replace S6 := S6.later (Later.undrew hb) (by omega)
  replace hw := hw.trans (Below.mono (Later.undrew hb) (by omega))
  replace hz := Nat.le_trans hz (Later.undrew hb).size
  clear hb a0 a1 a2
  have b0 := fun W (h : Later w5 W) => (S4.later h (by omega)).1
  have b1 := fun W (h : Later w5 W) => (S4.later h (by omega)).2.1
  have b2 := fun W (h : Later w5 W) => (S4.later h (by omega)).2.2.1
  repeat (first | (refine wpO_F (v := ?_) rfl (by rfl) (fun w' hL => ?_) ?_; rotate_left; (solve | (go_simp; with_reducible rfl) | go_simp); try simp only [Act.put, List.setIfInBounds_toArray, List.set_cons_zero, List.set_cons_succ]) | (refine wpO_G rfl (by rfl) ?_; try simp only [Act.put, List.setIfInBounds_toArray, List.set_cons_zero, List.set_cons_succ]))
  refine wpO_C rfl (by rfl) ?_
  go_simp
  refine (null_any _).mono ?_
  rintro e w6 ⟨rfl, hb⟩
  refine ⟨hb, ?_⟩
  try simp only [Act.put, List.setIfInBounds_toArray, List.set_cons_zero, List.set_cons_succ]
  replace S3 := S3.later hb (by omega)
  replace S4 := S4.later hb (by omega)
  replace S6 := S6.later hb (by omega)
  replace hw := hw.trans (Below.mono hb (by omega))
  replace hz := Nat.le_trans hz hb.size
  clear hb b0 b1 b2
  repeat (first | (refine wpO_F (v := ?_) rfl (by rfl) (fun w' hL => ?_) ?_; rotate_left; (solve | (go_simp; with_reducible rfl) | go_simp); try simp only [Act.put, List.setIfInBounds_toArray, List.set_cons_zero, List.set_cons_succ]) | (refine wpO_G rfl (by rfl) ?_; try simp only [Act.put, List.setIfInBounds_toArray, List.set_cons_zero, List.set_cons_succ]))
  refine wpO_nil ?_
  obtain ⟨p0, p1, p2, p3, p4, p5⟩ := id S3
  obtain ⟨q0, q1, q2, q3, q4, q5⟩ := id S4
  obtain ⟨r0, r1, r2, r3, r4, r5⟩ := id S6
  go_wp2_with fail
  refine (HOP.out _).mono ?_
  rintro e w7 ⟨rfl, rfl⟩
  clear HOP
  by_cases hq : q = 0
  · subst hq
    go_wp2_with fail
    clear p0 p1 p2 p3 p4 p5 q0 q1 q2 q3 q4 q5 r0 r1 r2 r3 r4 r5
    refine (whole_any v _).mono ?_
    rintro e w8 ⟨rfl, hb⟩
    replace S3 := S3.later hb (by omega)
    replace S4 := S4.later hb (by omega)
    replace S6 := S6.later hb (by omega)
    replace hw := hw.trans (Below.mono hb (by omega))
    replace hz := Nat.le_trans hz (Below.size hb)
    clear hb
    obtain ⟨p0, p1, p2, p3, p4, p5⟩ := id S3
    obtain ⟨q0, q1, q2, q3, q4, q5⟩ := id S4
    obtain ⟨r0, r1, r2, r3, r4, r5⟩ := id S6
    go_wp2
    refine bodyPost_ret (v := .tuple #[.agg #[.int .u8 1, .int .i64 v, .string ⟨#[]⟩], .int .i64 0]) (by simp [results, Try.results34, go_sem, *]) rfl ⟨rfl, ?_⟩
    exact ((hw.setCell (by simp; omega) _).setCell (by simp; omega) _).setCell (by simp; omega) _
  · have hq3 : (q != 0) = true := by simp [hq]
    have hpk := Lib.hid (show pickV v q = (nullV, q) from if_pos hq)
    go_wp2_with fail
    clear p0 p1 p2 p3 p4 p5 q0 q1 q2 q3 q4 q5 r0 r1 r2 r3 r4 r5
    refine (null_any _).mono ?_
    rintro e w8 ⟨rfl, hb⟩
    replace S3 := S3.later hb (by omega)
    replace S4 := S4.later hb (by omega)
    replace S6 := S6.later hb (by omega)
    replace hw := hw.trans (Below.mono hb (by omega))
    replace hz := Nat.le_trans hz (Below.size hb)
    clear hb
    obtain ⟨p0, p1, p2, p3, p4, p5⟩ := id S3
    obtain ⟨q0, q1, q2, q3, q4, q5⟩ := id S4
    obtain ⟨r0, r1, r2, r3, r4, r5⟩ := id S6
    go_wp2
    refine bodyPost_ret (v := .tuple #[.agg #[.int .u8 0, .int .i64 0, .string ⟨#[]⟩], .int .i64 q]) (by simp [results, Try.results34, go_sem, *]) rfl ⟨by rw [hpk.out]; rfl, ?_⟩
    exact ((hw.setCell (by simp; omega) _).setCell (by simp; omega) _).setCell (by simp; omega) _

theorem arith_mul (a b : Vl) (w : World) (ha : a.ok) (hb : b.ok) :
    Calls Try.prog 34 #[.agg #[.int .u8 a.k, .int .i64 a.n, .string a.s], .agg #[.int .u8 b.k, .int .i64 b.n, .string b.s], .func (.func 38) #[] #[]] w (RetV w (arithV mulI a b)) := by
  by_cases h1 : a.right = true
  · by_cases h2 : b.right = true
    · by_cases h3 : a.k ≤ 1
      · by_cases h4 : b.k ≤ 1
        · rcases right_cases0 a h1 h3 with e1 | e1 <;> rcases right_cases0 b h2 h4 with e2 | e2
          · rw [e1, e2, show arithV mulI ⟨0, 0, ⟨#[]⟩⟩ ⟨0, 0, ⟨#[]⟩⟩ = (nullV, 0) from by unfold arithV; rw [right_n]; simp]
            exact arith_nn _ w
          · rw [e1, e2, show arithV mulI ⟨0, 0, ⟨#[]⟩⟩ ⟨1, b.n, ⟨#[]⟩⟩ = (nullV, 0) from by unfold arithV; rw [right_n, right_i]; simp]
            exact arith_ni _ _ w
          · rw [e1, e2, show arithV mulI ⟨1, a.n, ⟨#[]⟩⟩ ⟨0, 0, ⟨#[]⟩⟩ = (nullV, 0) from by unfold arithV; rw [right_n, right_i]; simp]
            exact arith_in _ _ w
          · rw [e1, e2]
            exact arith_ii_mul _ _ w ha.2.1 ha.2.2 hb.2.1 hb.2.2
        · rw [show arithV mulI a b = (nullV, 20) from by unfold arithV; rw [if_neg (by simp [h1, h2]), if_pos (.inr (by omega))]]
          exact arith_type2 _ _ _ _ _ _ _ w h1 h2 (by simpa using h3) (by simpa using h4)
      · rw [show arithV mulI a b = (nullV, 20) from by unfold arithV; rw [if_neg (by simp [h1, h2]), if_pos (.inl (by omega))]]
        exact arith_type1 _ _ _ _ _ _ _ w h1 h2 (by simpa using h3)
    · rw [show arithV mulI a b = (nullV, 3) from by unfold arithV; rw [if_pos (.inr (by simpa using h2))]]
      exact arith_bad2 _ _ _ _ _ _ _ w h1 (by simpa using h2)
  · rw [show arithV mulI a b = (nullV, 3) from by unfold arithV; rw [if_pos (.inl (by simpa using h1))]]
    exact arith_bad1 _ _ _ _ _ _ _ w (by simpa using h1)

theorem arith_ii_div (n1 n2 : Int) (w : World) (b1 : -9223372036854775808 ≤ n1) (b2 : n1 ≤ 9223372036854775807) (b3 : -9223372036854775808 ≤ n2) (b4 : n2 ≤ 9223372036854775807) :
    Calls Try.prog 34 #[.agg #[.int .u8 1, .int .i64 n1, .string ⟨#[]⟩], .agg #[.int .u8 1, .int .i64 n2, .string ⟨#[]⟩], .func (.func 39) #[] #[]] w (RetV w (arithV divI ⟨1, n1, ⟨#[]⟩⟩ ⟨1, n2, ⟨#[]⟩⟩)) := by
  rw [arithV_ii]
  have hop := fun W => div_any n1 n2 W b1 b2 b3 b4
  obtain ⟨R, hR⟩ : ∃ R, divI n1 n2 = R := ⟨_, rfl⟩
  rw [hR] at hop ⊢
  obtain ⟨v, q⟩ := R
  simp only [] at hop
  have HOP := Lib.hid hop
  clear hop hR b1 b2 b3 b4
  go_enter Try.func34, Try.ntmps34
  go_wp2_with fail
  refine (right_any 1 n1 ⟨#[]⟩ _).mono ?_
  rw [right_i n1]
  rintro e w1 ⟨rfl, hb⟩
  obtain ⟨S3, S4, S6, hz⟩ := slots3 _ _ _ _ _ _ _ _ _ _ _ _ hb
  have hw : Below w.heap.size w w1 := Below.trans ((((Below.refl _ _).alloc (Nat.le_refl _) _).alloc (by simp) _).alloc (by simp; omega) _) (Below.mono hb (by simp <;> omega))
  clear hb
  obtain ⟨p0, p1, p2, p3, p4, p5⟩ := id S3
  obtain ⟨q0, q1, q2, q3, q4, q5⟩ := id S4
  obtain ⟨r0, r1, r2, r3, r4, r5⟩ := id S6
  go_wp2_with fail
  clear p0 p1 p2 p3 p4 p5 q0 q1 q2 q3 q4 q5 r0 r1 r2 r3 r4 r5
  refine (right_any 1 n2 ⟨#[]⟩ _).mono ?_
  rw [right_i n2]
  rintro e w2 ⟨rfl, hb⟩
  replace S3 := S3.later hb (by omega)
  replace S4 := S4.later hb (by omega)
  replace S6 := S6.later hb (by omega)
  replace hw := hw.trans (Below.mono hb (by omega))
  replace hz := Nat.le_trans hz (Below.size hb)
  clear hb
  obtain ⟨p0, p1, p2, p3, p4, p5⟩ := id S3
  obtain ⟨q0, q1, q2, q3, q4, q5⟩ := id S4
  obtain ⟨r0, r1, r2, r3, r4, r5⟩ := id S6
  go_wp2_with fail
  clear p0 p1 p2 p3 p4 p5 q0 q1 q2 q3 q4 q5 r0 r1 r2 r3 r4 r5
  refine (isNumeric_any 1 n1 ⟨#[]⟩ _).mono ?_
  rw [num1]
  rintro e w3 ⟨rfl, hb⟩
  replace S3 := S3.later hb (by omega)
  replace S4 := S4.later hb (by omega)
  replace S6 := S6.later hb (by omega)
  replace hw := hw.trans (Below.mono hb (by omega))
  replace hz := Nat.le_trans hz (Below.size hb)
  clear hb
  obtain ⟨p0, p1, p2, p3, p4, p5⟩ := id S3
  obtain ⟨q0, q1, q2, q3, q4, q5⟩ := id S4
  obtain ⟨r0, r1, r2, r3, r4, r5⟩ := id S6
  go_wp2_with fail
  clear p0 p1 p2 p3 p4 p5 q0 q1 q2 q3 q4 q5 r0 r1 r2 r3 r4 r5
  refine (isNumeric_any 1 n2 ⟨#[]⟩ _).mono ?_
  rw [num1]
  rintro e w4 ⟨rfl, hb⟩
  replace S3 := S3.later hb (by omega)
  replace S4 := S4.later hb (by omega)
  replace S6 := S6.later hb (by omega)
  replace hw := hw.trans (Below.mono hb (by omega))
  replace hz := Nat.le_trans hz (Below.size hb)
  clear hb
  go_wp2_with fail
  have a0 := fun W (h : Later w4.drew W) => (S3.later (Later.undrew h) (by omega)).1
  have a1 := fun W (h : Later w4.drew W) => (S3.later (Later.undrew h) (by omega)).2.1
  have a2 := fun W (h : Later w4.drew W) => (S3.later (Later.undrew h) (by omega)).2.2.1
  refine wp_region_ord [(0, true), (1, false), (2, true), (3, true), (4, true), (5, false), (6, true), (7, true)] (by kernel_rfl) (by kernel_rfl) (by kernel_rfl) (by kernel_rfl) ?_
  repeat (first | (refine wpO_F (v := ?_) rfl (by rfl) (fun w' hL => ?_) ?_; rotate_left; (solve | (go_simp; with_reducible rfl) | go_simp); try simp only [Act.put, List.setIfInBounds_toArray, List.set_cons_zero, List.set_cons_succ]) | (refine wpO_G rfl (by rfl) ?_; try simp only [Act.put, List.setIfInBounds_toArray, List.set_cons_zero, List.set_cons_succ]))
  refine wpO_C rfl (by rfl) ?_
  go_simp
  refine (null_any _).mono ?_
  rintro e w5 ⟨rfl, hb⟩
  refine ⟨hb, ?_⟩
  try simp only [Act.put, List.setIfInBounds_toArray, List.set_cons_zero, List.set_cons_succ]
  replace S3 := S3.later (Later.undrew hb) (by omega)
  replace S4 := S4.later (Later.undrew hb) (by omega)
  replace S6 := S6.later (Later.undrew hb) (by omega)
  replace hw := hw.trans (Below.mono (Later.undrew hb) (by omega))
  replace hz := Nat.le_trans hz (Later.undrew hb).size
  clear hb a0 a1 a2
  have b0 := fun W (h : Later w5 W) => (S4.later h (by omega)).1
  have b1 := fun W (h : Later w5 W) => (S4.later h (by omega)).2.1
  have b2 := fun W (h : Later w5 W) => (S4.later h (by omega)).2.2.1
  repeat (first | (refine wpO_F (v := ?_) rfl (by rfl) (fun w' hL => ?_) ?_; rotate_left; (solve | (go_simp; with_reducible rfl) | go_simp); try simp only [Act.put, List.setIfInBounds_toArray, List.set_cons_zero, List.set_cons_succ]) | (refine wpO_G rfl (by rfl) ?_; try simp only [Act.put, List.setIfInBounds_toArray, List.set_cons_zero, List.set_cons_succ]))
  refine wpO_C rfl (by rfl) ?_
  go_simp
  refine (null_any _).mono ?_
  rintro e w6 ⟨rfl, hb⟩
  refine ⟨hb, ?_⟩
  try simp only [Act.put, List.setIfInBounds_toArray, List.set_cons_zero, List.set_cons_succ]
  replace S3 := S3.later hb (by omega)
  replace S4 := S4.later hb (by omega)
  replace S6 := S6.later hb (by omega)
  replace hw := hw.trans (Below.mono hb (by omega))
  replace hz := Nat.le_trans hz hb.size
  clear hb b0 b1 b2
  repeat (first | (refine wpO_F (v := ?_) rfl (by rfl) (fun w' hL => ?_) ?_; rotate_left; (solve | (go_simp; with_reducible rfl) | go_simp); try simp only [Act.put, List.setIfInBounds_toArray, List.set_cons_zero, List.set_cons_succ]) | (refine wpO_G rfl (by rfl) ?_; try simp only [Act.put, List.setIfInBounds_toArray, List.set_cons_zero, List.set_cons_succ]))
  refine wpO_nil ?_
  obtain ⟨p0, p1, p2, p3, p4, p5⟩ := id S3
  obtain ⟨q0, q1, q2, q3, q4, q5⟩ := id S4
  obtain ⟨r0, r1, r2, r3, r4, r5⟩ := id S6
  go_wp2_with fail
  refine (HOP.out _).mono ?_
  rintro e w7 ⟨rfl, rfl⟩
  clear HOP
  by_cases hq : q = 0
  · subst hq
    go_wp2_with fail
    clear p0 p1 p2 p3 p4 p5 q0 q1 q2 q3 q4 q5 r0 r1 r2 r3 r4 r5
    refine (whole_any v _).mono ?_
    rintro e w8 ⟨rfl, hb⟩
    replace S3 := S3.later hb (by omega)
    replace S4 := S4.later hb (by omega)
    replace S6 := S6.later hb (by omega)
    replace hw := hw.trans (Below.mono hb (by omega))
    replace hz := Nat.le_trans hz (Below.size hb)
    clear hb
    obtain ⟨p0, p1, p2, p3, p4, p5⟩ := id S3
    obtain ⟨q0, q1, q2, q3, q4, q5⟩ := id S4
    obtain ⟨r0, r1, r2, r3, r4, r5⟩ := id S6
    go_wp2
    refine bodyPost_ret (v := .tuple #[.agg #[.int .u8 1, .int .i64 v, .string ⟨#[]⟩], .int .i64 0]) (by simp [results, Try.results34, go_sem, *]) rfl ⟨rfl, ?_⟩
    exact ((hw.setCell (by simp; omega) _).setCell (by simp; omega) _).setCell (by simp; omega) _
  · have hq3 : (q != 0) = true := by simp [hq]
    have hpk := Lib.hid (show pickV v q = (nullV, q) from if_pos hq)
    go_wp2_with fail
    clear p0 p1 p2 p3 p4 p5 q0 q1 q2 q3 q4 q5 r0 r1 r2 r3 r4 r5
    refine (null_any _).mono ?_
    rintro e w8 ⟨rfl, hb⟩
    replace S3 := S3.later hb (by omega)
    replace S4 := S4.later hb (by omega)
    replace S6 := S6.later hb (by omega)
    replace hw := hw.trans (Below.mono hb (by omega))
    replace hz := Nat.le_trans hz (Below.size hb)
    clear hb
    obtain ⟨p0, p1, p2, p3, p4, p5⟩ := id S3
    obtain ⟨q0, q1, q2, q3, q4, q5⟩ := id S4
    obtain ⟨r0, r1, r2, r3, r4, r5⟩ := id S6
    go_wp2
    refine bodyPost_ret (v := .tuple #[.agg #[.int .u8 0, .int .i64 0, .string ⟨#[]⟩], .int .i64 q]) (by simp [results, Try.results34, go_sem, *]) rfl ⟨by rw [hpk.out]; rfl, ?_⟩
    exact ((hw.setCell (by simp; omega) _).setCell (by simp; omega) _).setCell (by simp; omega) _

theorem arith_div (a b : Vl) (w : World) (ha : a.ok) (hb : b.ok) :
    Calls Try.prog 34 #[.agg #[.int .u8 a.k, .int .i64 a.n, .string a.s], .agg #[.int .u8 b.k, .int .i64 b.n, .string b.s], .func (.func 39) #[] #[]] w (RetV w (arithV divI a b)) := by
  by_cases h1 : a.right = true
  · by_cases h2 : b.right = true
    · by_cases h3 : a.k ≤ 1
      · by_cases h4 : b.k ≤ 1
        · rcases right_cases0 a h1 h3 with e1 | e1 <;> rcases right_cases0 b h2 h4 with e2 | e2
          · rw [e1, e2, show arithV divI ⟨0, 0, ⟨#[]⟩⟩ ⟨0, 0, ⟨#[]⟩⟩ = (nullV, 0) from by unfold arithV; rw [right_n]; simp]
            exact arith_nn _ w
          · rw [e1, e2, show arithV divI ⟨0, 0, ⟨#[]⟩⟩ ⟨1, b.n, ⟨#[]⟩⟩ = (nullV, 0) from by unfold arithV; rw [right_n, right_i]; simp]
            exact arith_ni _ _ w
          · rw [e1, e2, show arithV divI ⟨1, a.n, ⟨#[]⟩⟩ ⟨0, 0, ⟨#[]⟩⟩ = (nullV, 0) from by unfold arithV; rw [right_n, right_i]; simp]
            exact arith_in _ _ w
          · rw [e1, e2]
            exact arith_ii_div _ _ w ha.2.1 ha.2.2 hb.2.1 hb.2.2
        · rw [show arithV divI a b = (nullV, 20) from by unfold arithV; rw [if_neg (by simp [h1, h2]), if_pos (.inr (by omega))]]
          exact arith_type2 _ _ _ _ _ _ _ w h1 h2 (by simpa using h3) (by simpa using h4)
      · rw [show arithV divI a b = (nullV, 20) from by unfold arithV; rw [if_neg (by simp [h1, h2]), if_pos (.inl (by omega))]]
        exact arith_type1 _ _ _ _ _ _ _ w h1 h2 (by simpa using h3)
    · rw [show arithV divI a b = (nullV, 3) from by unfold arithV; rw [if_pos (.inr (by simpa using h2))]]
      exact arith_bad2 _ _ _ _ _ _ _ w h1 (by simpa using h2)
  · rw [show arithV divI a b = (nullV, 3) from by unfold arithV; rw [if_pos (.inl (by simpa using h1))]]
    exact arith_bad1 _ _ _ _ _ _ _ w (by simpa using h1)

theorem arith_ii_mod (n1 n2 : Int) (w : World) (b1 : -9223372036854775808 ≤ n1) (b2 : n1 ≤ 9223372036854775807) (b3 : -9223372036854775808 ≤ n2) (b4 : n2 ≤ 9223372036854775807) :
    Calls Try.prog 34 #[.agg #[.int .u8 1, .int .i64 n1, .string ⟨#[]⟩], .agg #[.int .u8 1, .int .i64 n2, .string ⟨#[]⟩], .func (.func 40) #[] #[]] w (RetV w (arithV modI ⟨1, n1, ⟨#[]⟩⟩ ⟨1, n2, ⟨#[]⟩⟩)) := by
  rw [arithV_ii]
  have hop := fun W => mod_any n1 n2 W b1 b2
  obtain ⟨R, hR⟩ : ∃ R, modI n1 n2 = R := ⟨_, rfl⟩
  rw [hR] at hop ⊢
  obtain ⟨v, q⟩ := R
  simp only [] at hop
  have HOP := Lib.hid hop
  clear hop hR b1 b2 b3 b4
  go_enter Try.func34, Try.ntmps34
  go_wp2_with fail
  refine (right_any 1 n1 ⟨#[]⟩ _).mono ?_
  rw [right_i n1]
  rintro e w1 ⟨rfl, hb⟩
  obtain ⟨S3, S4, S6, hz⟩ := slots3 _ _ _ _ _ _ _ _ _ _ _ _ hb
  have hw : Below w.heap.size w w1 := Below.trans ((((Below.refl _ _).alloc (Nat.le_refl _) _).alloc (by simp) _).alloc (by simp; omega) _) (Below.mono hb (by simp <;> omega))
  clear hb
  obtain ⟨p0, p1, p2, p3, p4, p5⟩ := id S3
  obtain ⟨q0, q1, q2, q3, q4, q5⟩ := id S4
  obtain ⟨r0, r1, r2, r3, r4, r5⟩ := id S6
  go_wp2_with fail
  clear p0 p1 p2 p3 p4 p5 q0 q1 q2 q3 q4 q5 r0 r1 r2 r3 r4 r5
  refine (right_any 1 n2 ⟨#[]⟩ _).mono ?_
  rw [right_i n2]
  rintro e w2 ⟨rfl, hb⟩
  replace S3 := S3.later hb (by omega)
  replace S4 := S4.later hb (by omega)
  replace S6 := S6.later hb (by omega)
  replace hw := hw.trans (Below.mono hb (by omega))
  replace hz := Nat.le_trans hz (Below.size hb)
  clear hb
  obtain ⟨p0, p1, p2, p3, p4, p5⟩ := id S3
  obtain ⟨q0, q1, q2, q3, q4, q5⟩ := id S4
  obtain ⟨r0, r1, r2, r3, r4, r5⟩ := id S6
  go_wp2_with fail
  clear p0 p1 p2 p3 p4 p5 q0 q1 q2 q3 q4 q5 r0 r1 r2 r3 r4 r5
  refine (isNumeric_any 1 n1 ⟨#[]⟩ _).mono ?_
  rw [num1]
  rintro e w3 ⟨rfl, hb⟩
  replace S3 := S3.later hb (by omega)
  replace S4 := S4.later hb (by omega)
  replace S6 := S6.later hb (by omega)
  replace hw := hw.trans (Below.mono hb (by omega))
  replace hz := Nat.le_trans hz (Below.size hb)
  clear hb
  obtain ⟨p0, p1, p2, p3, p4, p5⟩ := id S3
  obtain ⟨q0, q1, q2, q3, q4, q5⟩ := id S4
  obtain ⟨r0, r1, r2, r3, r4, r5⟩ := id S6
  go_wp2_with fail
  clear p0 p1 p2 p3 p4 p5 q0 q1 q2 q3 q4 q5 r0 r1 r2 r3 r4 r5
  refine (isNumeric_any 1 n2 ⟨#[]⟩ _).mono ?_
  rw [num1]
  rintro e w4 ⟨rfl, hb⟩
  replace S3 := S3.later hb (by omega)
  replace S4 := S4.later hb (by omega)
  replace S6 := S6.later hb (by omega)
  replace hw := hw.trans (Below.mono hb (by omega))
  replace hz := Nat.le_trans hz (Below.size hb)
  clear hb
  go_wp2_with fail
  have a0 := fun W (h : Later w4.drew W) => (S3.later (Later.undrew h) (by omega)).1
  have a1 := fun W (h : Later w4.drew W) => (S3.later (Later.undrew h) (by omega)).2.1
  have a2 := fun W (h : Later w4.drew W) => (S3.later (Later.undrew h) (by omega)).2.2.1
  refine wp_region_ord [(0, true), (1, false), (2, true), (3, true), (4, true), (5, false), (6, true), (7, true)] (by kernel_rfl) (by kernel_rfl) (by kernel_rfl) (by kernel_rfl) ?_
  repeat (first | (refine wpO_F (v := ?_) rfl (by rfl) (fun w' hL => ?_) ?_; rotate_left; (solve | (go_simp; with_reducible rfl) | go_simp); try simp only [Act.put, List.setIfInBounds_toArray, List.set_cons_zero, List.set_cons_succ]) | (refine wpO_G rfl (by rfl) ?_; try simp only [Act.put, List.setIfInBounds_toArray, List.set_cons_zero, List.set_cons_succ]))
  refine wpO_C rfl (by rfl) ?_
  go_simp
  refine (null_any _).mono ?_
  rintro e w5 ⟨rfl, hb⟩
  refine ⟨hb, ?_⟩
  try simp only [Act.put, List.setIfInBounds_toArray, List.set_cons_zero, List.set_cons_succ]
  replace S3 := S3.later (Later.undrew hb) (by omega)
  replace S4 := S4.later (Later.undrew hb) (by omega)
  replace S6 := S6.later (Later.undrew hb) (by omega)
  replace hw := hw.trans (Below.mono (Later.undrew hb) (by omega))
  replace hz := Nat.le_trans hz (Later.undrew hb).size
  clear hb a0 a1 a2
  have b0 := fun W (h : Later w5 W) => (S4.later h (by omega)).1
  have b1 := fun W (h : Later w5 W) => (S4.later h (by omega)).2.1
  have b2 := fun W (h : Later w5 W) => (S4.later h (by omega)).2.2.1
  repeat (first | (refine wpO_F (v := ?_) rfl (by rfl) (fun w' hL => ?_) ?_; rotate_left; (solve | (go_simp; with_reducible rfl) | go_simp); try simp only [Act.put, List.setIfInBounds_toArray, List.set_cons_zero, List.set_cons_succ]) | (refine wpO_G rfl (by rfl) ?_; try simp only [Act.put, List.setIfInBounds_toArray, List.set_cons_zero, List.set_cons_succ]))
  refine wpO_C rfl (by rfl) ?_
  go_simp
  refine (null_any _).mono ?_
  rintro e w6 ⟨rfl, hb⟩
  refine ⟨hb, ?_⟩
  try simp only [Act.put, List.setIfInBounds_toArray, List.set_cons_zero, List.set_cons_succ]
  replace S3 := S3.later hb (by omega)
  replace S4 := S4.later hb (by omega)
  replace S6 := S6.later hb (by omega)
  replace hw := hw.trans (Below.mono hb (by omega))
  replace hz := Nat.le_trans hz hb.size
  clear hb b0 b1 b2
  repeat (first | (refine wpO_F (v := ?_) rfl (by rfl) (fun w' hL => ?_) ?_; rotate_left; (solve | (go_simp; with_reducible rfl) | go_simp); try simp only [Act.put, List.setIfInBounds_toArray, List.set_cons_zero, List.set_cons_succ]) | (refine wpO_G rfl (by rfl) ?_; try simp only [Act.put, List.setIfInBounds_toArray, List.set_cons_zero, List.set_cons_succ]))
  refine wpO_nil ?_
  obtain ⟨p0, p1, p2, p3, p4, p5⟩ := id S3
  obtain ⟨q0, q1, q2, q3, q4, q5⟩ := id S4
  obtain ⟨r0, r1, r2, r3, r4, r5⟩ := id S6
  go_wp2_with fail
  refine (HOP.out _).mono ?_
  rintro e w7 ⟨rfl, rfl⟩
  clear HOP
  by_cases hq : q = 0
  · subst hq
    go_wp2_with fail
    clear p0 p1 p2 p3 p4 p5 q0 q1 q2 q3 q4 q5 r0 r1 r2 r3 r4 r5
    refine (whole_any v _).mono ?_
    rintro e w8 ⟨rfl, hb⟩
    replace S3 := S3.later hb (by omega)
    replace S4 := S4.later hb (by omega)
    replace S6 := S6.later hb (by omega)
    replace hw := hw.trans (Below.mono hb (by omega))
    replace hz := Nat.le_trans hz (Below.size hb)
    clear hb
    obtain ⟨p0, p1, p2, p3, p4, p5⟩ := id S3
    obtain ⟨q0, q1, q2, q3, q4, q5⟩ := id S4
    obtain ⟨r0, r1, r2, r3, r4, r5⟩ := id S6
    go_wp2
    refine bodyPost_ret (v := .tuple #[.agg #[.int .u8 1, .int .i64 v, .string ⟨#[]⟩], .int .i64 0]) (by simp [results, Try.results34, go_sem, *]) rfl ⟨rfl, ?_⟩
    exact ((hw.setCell (by simp; omega) _).setCell (by simp; omega) _).setCell (by simp; omega) _
  · have hq3 : (q != 0) = true := by simp [hq]
    have hpk := Lib.hid (show pickV v q = (nullV, q) from if_pos hq)
    go_wp2_with fail
    clear p0 p1 p2 p3 p4 p5 q0 q1 q2 q3 q4 q5 r0 r1 r2 r3 r4 r5
    refine (null_any _).mono ?_
    rintro e w8 ⟨rfl, hb⟩
    replace S3 := S3.later hb (by omega)
    replace S4 := S4.later hb (by omega)
    replace S6 := S6.later hb (by omega)
    replace hw := hw.trans (Below.mono hb (by omega))
    replace hz := Nat.le_trans hz (Below.size hb)
    clear hb
    obtain ⟨p0, p1, p2, p3, p4, p5⟩ := id S3
    obtain ⟨q0, q1, q2, q3, q4, q5⟩ := id S4
    obtain ⟨r0, r1, r2, r3, r4, r5⟩ := id S6
    go_wp2
    refine bodyPost_ret (v := .tuple #[.agg #[.int .u8 0, .int .i64 0, .string ⟨#[]⟩], .int .i64 q]) (by simp [results, Try.results34, go_sem, *]) rfl ⟨by rw [hpk.out]; rfl, ?_⟩
    exact ((hw.setCell (by simp; omega) _).setCell (by simp; omega) _).setCell (by simp; omega) _

theorem arith_mod (a b : Vl) (w : World) (ha : a.ok) (hb : b.ok) :
    Calls Try.prog 34 #[.agg #[.int .u8 a.k, .int .i64 a.n, .string a.s], .agg #[.int .u8 b.k, .int .i64 b.n, .string b.s], .func (.func 40) #[] #[]] w (RetV w (arithV modI a b)) := by
  by_cases h1 : a.right = true
  · by_cases h2 : b.right = true
    · by_cases h3 : a.k ≤ 1
      · by_cases h4 : b.k ≤ 1
        · rcases right_cases0 a h1 h3 with e1 | e1 <;> rcases right_cases0 b h2 h4 with e2 | e2
          · rw [e1, e2, show arithV modI ⟨0, 0, ⟨#[]⟩⟩ ⟨0, 0, ⟨#[]⟩⟩ = (nullV, 0) from by unfold arithV; rw [right_n]; simp]
            exact arith_nn _ w
          · rw [e1, e2, show arithV modI ⟨0, 0, ⟨#[]⟩⟩ ⟨1, b.n, ⟨#[]⟩⟩ = (nullV, 0) from by unfold arithV; rw [right_n, right_i]; simp]
            exact arith_ni _ _ w
          · rw [e1, e2, show arithV modI ⟨1, a.n, ⟨#[]⟩⟩ ⟨0, 0, ⟨#[]⟩⟩ = (nullV, 0) from by unfold arithV; rw [right_n, right_i]; simp]
            exact arith_in _ _ w
          · rw [e1, e2]
            exact arith_ii_mod _ _ w ha.2.1 ha.2.2 hb.2.1 hb.2.2
        · rw [show arithV modI a b = (nullV, 20) from by unfold arithV; rw [if_neg (by simp [h1, h2]), if_pos (.inr (by omega))]]
          exact arith_type2 _ _ _ _ _ _ _ w h1 h2 (by simpa using h3) (by simpa using h4)
      · rw [show arithV modI a b = (nullV, 20) from by unfold arithV; rw [if_neg (by simp [h1, h2]), if_pos (.inl (by omega))]]
        exact arith_type1 _ _ _ _ _ _ _ w h1 h2 (by simpa using h3)
    · rw [show arithV modI a b = (nullV, 3) from by unfold arithV; rw [if_pos (.inr (by simpa using h2))]]
      exact arith_bad2 _ _ _ _ _ _ _ w h1 (by simpa using h2)
  · rw [show arithV modI a b = (nullV, 3) from by unfold arithV; rw [if_pos (.inl (by simpa using h1))]]
    exact arith_bad1 _ _ _ _ _ _ _ w (by simpa using h1)

end Go.Proofs.Ytipeinkogoghnaa
