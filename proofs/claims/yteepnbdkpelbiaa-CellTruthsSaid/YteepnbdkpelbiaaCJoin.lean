/- The walks of cell.Join and of the reference's Join. -/
import Derived.Test.YteepnbdkpelbiaaCAlive
namespace Go.Proofs.Yteepnbdkpelbiaa
open Go.RowKit

theorem rjoin_bad1 (k1 k2 : Nat) (n1 n2 : Int) (s1 s2 : ByteArray) (w : World) (h : Vl.right ⟨k1, n1, s1⟩ = false) :
    Calls Try.prog 38 #[.agg #[.int .u8 k1, .int .i64 n1, .string s1], .agg #[.int .u8 k2, .int .i64 n2, .string s2]] w (RetV w (nullV, 3)) := by
  go_enter Try.func38, Try.ntmps38
  go_wp2_with fail
  refine (rright_any k1 n1 s1 _).mono ?_
  rw [h]
  rintro e w1 ⟨rfl, hb⟩
  obtain ⟨S3, S4, S6, hz⟩ := slots3 _ _ _ _ _ _ _ _ _ _ _ _ hb
  have hw : Below w.heap.size w w1 := Below.trans ((((Below.refl _ _).alloc (Nat.le_refl _) _).alloc (by simp) _).alloc (by simp; omega) _) (Below.mono hb (by simp <;> omega))
  clear hb
  obtain ⟨p0, p1, p2, p3, p4, p5⟩ := id S3
  obtain ⟨q0, q1, q2, q3, q4, q5⟩ := id S4
  obtain ⟨r0, r1, r2, r3, r4, r5⟩ := id S6
  go_wp2
  refine bodyPost_ret (v := .tuple #[.agg #[.int .u8 0, .int .i64 0, .string ⟨#[]⟩], .int .i64 3]) (by simp [results, Try.results38, go_sem, *]) rfl ⟨rfl, ?_⟩
  exact ((hw.setCell (by simp <;> omega) _).setCell (by simp <;> omega) _).setCell (by simp <;> omega) _

theorem rjoin_bad2 (k1 k2 : Nat) (n1 n2 : Int) (s1 s2 : ByteArray) (w : World) (h : Vl.right ⟨k1, n1, s1⟩ = true) (h2 : Vl.right ⟨k2, n2, s2⟩ = false) :
    Calls Try.prog 38 #[.agg #[.int .u8 k1, .int .i64 n1, .string s1], .agg #[.int .u8 k2, .int .i64 n2, .string s2]] w (RetV w (nullV, 3)) := by
  go_enter Try.func38, Try.ntmps38
  go_wp2_with fail
  refine (rright_any k1 n1 s1 _).mono ?_
  rw [h]
  rintro e w1 ⟨rfl, hb⟩
  obtain ⟨S3, S4, S6, hz⟩ := slots3 _ _ _ _ _ _ _ _ _ _ _ _ hb
  have hw : Below w.heap.size w w1 := Below.trans ((((Below.refl _ _).alloc (Nat.le_refl _) _).alloc (by simp) _).alloc (by simp; omega) _) (Below.mono hb (by simp <;> omega))
  clear hb
  obtain ⟨p0, p1, p2, p3, p4, p5⟩ := id S3
  obtain ⟨q0, q1, q2, q3, q4, q5⟩ := id S4
  obtain ⟨r0, r1, r2, r3, r4, r5⟩ := id S6
  go_wp2_with fail
  clear p0 p1 p2 p3 p4 p5 q0 q1 q2 q3 q4 q5 r0 r1 r2 r3 r4 r5
  refine (rright_any k2 n2 s2 _).mono ?_
  rw [h2]
  rintro e w2 ⟨rfl, hb⟩
  replace S3 := S3.later hb (by omega)
  replace S4 := S4.later hb (by omega)
  replace S6 := S6.later hb (by omega)
  replace hw := hw.trans (Below.mono hb (by omega))
  replace hz := Nat.le_trans hz (Below.size hb)
  clear hb
  obtain ⟨p0, p1, p2, p3, p4, p5⟩ := id S3
  obtain ⟨q0, q1, q2, q3, q4, q5⟩ := id S4
  obtain ⟨r0, r1, r2, r3, r4, r5⟩ := id S6
  go_wp2
  refine bodyPost_ret (v := .tuple #[.agg #[.int .u8 0, .int .i64 0, .string ⟨#[]⟩], .int .i64 3]) (by simp [results, Try.results38, go_sem, *]) rfl ⟨rfl, ?_⟩
  exact ((hw.setCell (by simp <;> omega) _).setCell (by simp <;> omega) _).setCell (by simp <;> omega) _

theorem rjoin_null (k1 k2 : Nat) (n1 n2 : Int) (s1 s2 : ByteArray) (w : World) (h : Vl.right ⟨k1, n1, s1⟩ = true) (h2 : Vl.right ⟨k2, n2, s2⟩ = true)
    (hk : ((k1 : Int) == 0) = true ∨ (((k1 : Int) == 0) = false ∧ ((k2 : Int) == 0) = true)) :
    Calls Try.prog 38 #[.agg #[.int .u8 k1, .int .i64 n1, .string s1], .agg #[.int .u8 k2, .int .i64 n2, .string s2]] w (RetV w (nullV, 0)) := by
  rcases hk with e1 | ⟨e1, e2⟩
  all_goals
    go_enter Try.func38, Try.ntmps38
    go_wp2_with fail
    refine (rright_any k1 n1 s1 _).mono ?_
    rw [h]
    rintro e w1 ⟨rfl, hb⟩
    obtain ⟨S3, S4, S6, hz⟩ := slots3 _ _ _ _ _ _ _ _ _ _ _ _ hb
    have hw : Below w.heap.size w w1 := Below.trans ((((Below.refl _ _).alloc (Nat.le_refl _) _).alloc (by simp) _).alloc (by simp; omega) _) (Below.mono hb (by simp <;> omega))
    clear hb
    obtain ⟨p0, p1, p2, p3, p4, p5⟩ := id S3
    obtain ⟨q0, q1, q2, q3, q4, q5⟩ := id S4
    obtain ⟨r0, r1, r2, r3, r4, r5⟩ := id S6
    go_wp2_with fail
    clear p0 p1 p2 p3 p4 p5 q0 q1 q2 q3 q4 q5 r0 r1 r2 r3 r4 r5
    refine (rright_any k2 n2 s2 _).mono ?_
    rw [h2]
    rintro e w2 ⟨rfl, hb⟩
    replace S3 := S3.later hb (by omega)
    replace S4 := S4.later hb (by omega)
    replace S6 := S6.later hb (by omega)
    replace hw := hw.trans (Below.mono hb (by omega))
    replace hz := Nat.le_trans hz (Below.size hb)
    clear hb
    obtain ⟨p0, p1, p2, p3, p4, p5⟩ := id S3
    obtain ⟨q0, q1, q2, q3, q4, q5⟩ := id S4
    obtain ⟨r0, r1, r2, r3, r4, r5⟩ := id S6
    go_wp2
    refine bodyPost_ret (v := .tuple #[.agg #[.int .u8 0, .int .i64 0, .string ⟨#[]⟩], .int .i64 0]) (by simp [results, Try.results38, go_sem, *]) rfl ⟨rfl, ?_⟩
    exact ((hw.setCell (by simp <;> omega) _).setCell (by simp <;> omega) _).setCell (by simp <;> omega) _

theorem rjoin_type (k1 k2 : Nat) (n1 n2 : Int) (s1 s2 : ByteArray) (w : World) (h : Vl.right ⟨k1, n1, s1⟩ = true) (h2 : Vl.right ⟨k2, n2, s2⟩ = true)
    (d1 : ((k1 : Int) == 0) = false) (d2 : ((k2 : Int) == 0) = false)
    (hk : ((k1 : Int) == 1) = true ∨ (((k1 : Int) == 1) = false ∧ ((k1 : Int) != (k2 : Int)) = true)) :
    Calls Try.prog 38 #[.agg #[.int .u8 k1, .int .i64 n1, .string s1], .agg #[.int .u8 k2, .int .i64 n2, .string s2]] w (RetV w (nullV, 20)) := by
  rcases hk with e1 | ⟨e1, e2⟩
  all_goals
    go_enter Try.func38, Try.ntmps38
    go_wp2_with fail
    refine (rright_any k1 n1 s1 _).mono ?_
    rw [h]
    rintro e w1 ⟨rfl, hb⟩
    obtain ⟨S3, S4, S6, hz⟩ := slots3 _ _ _ _ _ _ _ _ _ _ _ _ hb
    have hw : Below w.heap.size w w1 := Below.trans ((((Below.refl _ _).alloc (Nat.le_refl _) _).alloc (by simp) _).alloc (by simp; omega) _) (Below.mono hb (by simp <;> omega))
    clear hb
    obtain ⟨p0, p1, p2, p3, p4, p5⟩ := id S3
    obtain ⟨q0, q1, q2, q3, q4, q5⟩ := id S4
    obtain ⟨r0, r1, r2, r3, r4, r5⟩ := id S6
    go_wp2_with fail
    clear p0 p1 p2 p3 p4 p5 q0 q1 q2 q3 q4 q5 r0 r1 r2 r3 r4 r5
    refine (rright_any k2 n2 s2 _).mono ?_
    rw [h2]
    rintro e w2 ⟨rfl, hb⟩
    replace S3 := S3.later hb (by omega)
    replace S4 := S4.later hb (by omega)
    replace S6 := S6.later hb (by omega)
    replace hw := hw.trans (Below.mono hb (by omega))
    replace hz := Nat.le_trans hz (Below.size hb)
    clear hb
    obtain ⟨p0, p1, p2, p3, p4, p5⟩ := id S3
    obtain ⟨q0, q1, q2, q3, q4, q5⟩ := id S4
    obtain ⟨r0, r1, r2, r3, r4, r5⟩ := id S6
    go_wp2
    refine bodyPost_ret (v := .tuple #[.agg #[.int .u8 0, .int .i64 0, .string ⟨#[]⟩], .int .i64 20]) (by simp [results, Try.results38, go_sem, *]) rfl ⟨rfl, ?_⟩
    exact ((hw.setCell (by simp <;> omega) _).setCell (by simp <;> omega) _).setCell (by simp <;> omega) _

set_option maxRecDepth 100000 in
theorem rjoin_good (k1 k2 : Nat) (n1 n2 : Int) (s1 s2 : ByteArray) (w : World) (h : Vl.right ⟨k1, n1, s1⟩ = true) (h2 : Vl.right ⟨k2, n2, s2⟩ = true)
    (d1 : ((k1 : Int) == 0) = false) (d2 : ((k2 : Int) == 0) = false) (e1 : ((k1 : Int) == 1) = false) (e2 : ((k1 : Int) != (k2 : Int)) = false) (hl : ¬ 9223372036854775807 < s1.size + s2.size) :
    Calls Try.prog 38 #[.agg #[.int .u8 k1, .int .i64 n1, .string s1], .agg #[.int .u8 k2, .int .i64 n2, .string s2]] w (RetV w (⟨k1, 0, s1 ++ s2⟩, 0)) := by
  go_enter Try.func38, Try.ntmps38
  go_wp2_with fail
  refine (rright_any k1 n1 s1 _).mono ?_
  rw [h]
  rintro e w1 ⟨rfl, hb⟩
  obtain ⟨S3, S4, S6, hz⟩ := slots3 _ _ _ _ _ _ _ _ _ _ _ _ hb
  have hw : Below w.heap.size w w1 := Below.trans ((((Below.refl _ _).alloc (Nat.le_refl _) _).alloc (by simp) _).alloc (by simp; omega) _) (Below.mono hb (by simp <;> omega))
  clear hb
  obtain ⟨p0, p1, p2, p3, p4, p5⟩ := id S3
  obtain ⟨q0, q1, q2, q3, q4, q5⟩ := id S4
  obtain ⟨r0, r1, r2, r3, r4, r5⟩ := id S6
  go_wp2_with fail
  clear p0 p1 p2 p3 p4 p5 q0 q1 q2 q3 q4 q5 r0 r1 r2 r3 r4 r5
  refine (rright_any k2 n2 s2 _).mono ?_
  rw [h2]
  rintro e w2 ⟨rfl, hb⟩
  replace S3 := S3.later hb (by omega)
  replace S4 := S4.later hb (by omega)
  replace S6 := S6.later hb (by omega)
  replace hw := hw.trans (Below.mono hb (by omega))
  replace hz := Nat.le_trans hz (Below.size hb)
  clear hb
  obtain ⟨p0, p1, p2, p3, p4, p5⟩ := id S3
  obtain ⟨q0, q1, q2, q3, q4, q5⟩ := id S4
  obtain ⟨r0, r1, r2, r3, r4, r5⟩ := id S6
  go_wp2
  refine bodyPost_ret (v := .tuple #[.agg #[.int .u8 k1, .int .i64 0, .string (s1 ++ s2)], .int .i64 0]) (by simp [results, Try.results38, go_sem, *]) rfl ⟨rfl, ?_⟩
  exact ((hw.setCell (by simp <;> omega) _).setCell (by simp <;> omega) _).setCell (by simp <;> omega) _

end Go.Proofs.Yteepnbdkpelbiaa
