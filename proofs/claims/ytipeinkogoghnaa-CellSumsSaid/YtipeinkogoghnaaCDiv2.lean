/- The walk of the reference's Div at other divisors. -/
import Derived.Test.YtipeinkogoghnaaCDiv
namespace Go.Proofs.Ytipeinkogoghnaa
open Go.RowKit

theorem rdiv_quo (x y : Int) (w : World) (hx1 : -9223372036854775808 ≤ x) (hx2 : x ≤ 9223372036854775807) (h0 : y ≠ 0) (h1 : y ≠ -1)
    (HQ : Hid (∀ W, Calls Try.prog 36 #[.agg #[.int .u8 1, .int .i64 x, .string ⟨#[]⟩], .agg #[.int .u8 1, .int .i64 y, .string ⟨#[]⟩]] W (RetB2 W (false, 0)))) :
    Calls Try.prog 17 #[.agg #[.int .u8 1, .int .i64 x, .string ⟨#[]⟩], .agg #[.int .u8 1, .int .i64 y, .string ⟨#[]⟩], .bool false] w (RetV w (numV (x.tdiv y), 0)) := by
  have hf := div_fits x y hx1 hx2 h0 (by omega)
  have hW : wrap64 (x.tdiv y) = x.tdiv y := IntWalk.wrap64_in _ hf
  have e0 : (y == 0) = false := by simp [h0]
  have e1 : (y == -1) = false := by simp [h1]
  generalize hq : x.tdiv y = q at *
  clear h1 hx1 hx2 hf
  have h0' : ¬ y = 0 := h0
  go_enter Try.func17, Try.ntmps17
  go_wp2_with fail
  refine (HQ.out _).mono ?_
  rintro e w1 ⟨rfl, hb⟩
  obtain ⟨S3, S4, S6, hz⟩ := slots3 _ _ _ _ _ _ _ _ _ _ _ _ hb
  have hw : Below w.heap.size w w1 := Below.trans ((((Below.refl _ _).alloc (Nat.le_refl _) _).alloc (by simp) _).alloc (by simp; omega) _) (Below.mono hb (by simp <;> omega))
  clear hb
  clear HQ
  obtain ⟨p0, p1, p2, p3, p4, p5⟩ := id S3
  obtain ⟨q0, q1, q2, q3, q4, q5⟩ := id S4
  obtain ⟨r0, r1, r2, r3, r4, r5⟩ := id S6
  go_wp2_with fail
  clear p0 p1 p2 p3 p4 p5 q0 q1 q2 q3 q4 q5 r0 r1 r2 r3 r4 r5
  refine (rnumber_any q _).mono ?_
  rintro e w2 ⟨rfl, hb⟩
  replace S3 := S3.later hb (by omega)
  replace S4 := S4.later hb (by omega)
  replace S6 := S6.later hb (by omega)
  replace hw := hw.trans (Below.mono hb (by omega))
  replace hz := Nat.le_trans hz (Below.size hb)
  clear hb
  obtain ⟨p0, p1, p2, p3, p4, p5⟩ := id S3
  obtain ⟨q0, q1, q2, q3, q4, q5⟩ := id S4
  obtain ⟨r0, r1, r2, r3, r4, r5⟩ := id S6
  go_wp2
  refine bodyPost_ret (v := .tuple #[.agg #[.int .u8 1, .int .i64 q, .string ⟨#[]⟩], .int .i64 0]) (by simp [results, Try.results17, go_sem, *]) rfl ⟨rfl, ?_⟩
  exact ((hw.setCell (by simp <;> omega) _).setCell (by simp <;> omega) _).setCell (by simp <;> omega) _

theorem rdiv_rest (x y : Int) (w : World) (hx1 : -9223372036854775808 ≤ x) (hx2 : x ≤ 9223372036854775807) (h0 : y ≠ 0) (h1 : y ≠ -1)
    (HQ : Hid (∀ W, Calls Try.prog 36 #[.agg #[.int .u8 1, .int .i64 x, .string ⟨#[]⟩], .agg #[.int .u8 1, .int .i64 y, .string ⟨#[]⟩]] W (RetB2 W (false, 0)))) :
    Calls Try.prog 17 #[.agg #[.int .u8 1, .int .i64 x, .string ⟨#[]⟩], .agg #[.int .u8 1, .int .i64 y, .string ⟨#[]⟩], .bool true] w (RetV w (numV (x.tmod y), 0)) := by
  have hf := div_fits x y hx1 hx2 h0 (by omega)
  have hm := mod_fits x y hx1 hx2
  have hW : wrap64 (x.tdiv y) = x.tdiv y := IntWalk.wrap64_in _ hf
  have hV : wrap64 (x - wrap64 (x.tdiv y * y)) = x.tmod y := by
    have e := Int.tdiv_mul_add_tmod x y
    have e2 : x.tdiv y * y = x - x.tmod y := by omega
    have e3 : wrap64 (x - wrap64 (x.tdiv y * y)) = wrap64 (x.tmod y) := by
      rw [e2]; unfold wrap64; omega
    rw [e3]; exact IntWalk.wrap64_in _ hm
  have e0 : (y == 0) = false := by simp [h0]
  have e1 : (y == -1) = false := by simp [h1]
  generalize hq : x.tdiv y = q at *
  generalize hr : x.tmod y = r at *
  clear h1 hx1 hx2 hf hm
  have h0' : ¬ y = 0 := h0
  go_enter Try.func17, Try.ntmps17
  go_wp2_with fail
  refine (HQ.out _).mono ?_
  rintro e w1 ⟨rfl, hb⟩
  obtain ⟨S3, S4, S6, hz⟩ := slots3 _ _ _ _ _ _ _ _ _ _ _ _ hb
  have hw : Below w.heap.size w w1 := Below.trans ((((Below.refl _ _).alloc (Nat.le_refl _) _).alloc (by simp) _).alloc (by simp; omega) _) (Below.mono hb (by simp <;> omega))
  clear hb
  clear HQ
  obtain ⟨p0, p1, p2, p3, p4, p5⟩ := id S3
  obtain ⟨q0, q1, q2, q3, q4, q5⟩ := id S4
  obtain ⟨r0, r1, r2, r3, r4, r5⟩ := id S6
  go_wp2_with fail
  clear p0 p1 p2 p3 p4 p5 q0 q1 q2 q3 q4 q5 r0 r1 r2 r3 r4 r5
  refine (rnumber_any r _).mono ?_
  rintro e w2 ⟨rfl, hb⟩
  replace S3 := S3.later hb (by omega)
  replace S4 := S4.later hb (by omega)
  replace S6 := S6.later hb (by omega)
  replace hw := hw.trans (Below.mono hb (by omega))
  replace hz := Nat.le_trans hz (Below.size hb)
  clear hb
  obtain ⟨p0, p1, p2, p3, p4, p5⟩ := id S3
  obtain ⟨q0, q1, q2, q3, q4, q5⟩ := id S4
  obtain ⟨r0, r1, r2, r3, r4, r5⟩ := id S6
  go_wp2
  refine bodyPost_ret (v := .tuple #[.agg #[.int .u8 1, .int .i64 r, .string ⟨#[]⟩], .int .i64 0]) (by simp [results, Try.results17, go_sem, *]) rfl ⟨rfl, ?_⟩
  exact ((hw.setCell (by simp <;> omega) _).setCell (by simp <;> omega) _).setCell (by simp <;> omega) _

end Go.Proofs.Ytipeinkogoghnaa
