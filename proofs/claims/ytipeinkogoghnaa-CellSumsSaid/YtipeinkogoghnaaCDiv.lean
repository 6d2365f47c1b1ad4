/- The walk of the reference's Div. -/
import Derived.Test.YtipeinkogoghnaaCNeg
namespace Go.Proofs.Ytipeinkogoghnaa
open Go.RowKit

theorem rdiv_not (k1 k2 : Nat) (n1 n2 : Int) (s1 s2 : ByteArray) (w : World) (left q : Bool) (E : Int) (hE : (E != 0) = true ∨ ((E != 0) = false ∧ q = true))
    (HQ : Hid (∀ W, Calls Try.prog 36 #[.agg #[.int .u8 k1, .int .i64 n1, .string s1], .agg #[.int .u8 k2, .int .i64 n2, .string s2]] W (RetB2 W (q, E)))) :
    Calls Try.prog 17 #[.agg #[.int .u8 k1, .int .i64 n1, .string s1], .agg #[.int .u8 k2, .int .i64 n2, .string s2], .bool left] w (RetV w (nullV, E)) := by
  rcases hE with e1 | ⟨e1, rfl⟩
  all_goals
    go_enter Try.func17, Try.ntmps17
    go_wp2_with fail
    refine (HQ.out _).mono ?_
    rintro e w1 ⟨rfl, hb⟩
    obtain ⟨S3, S4, S6, hz⟩ := slots3 _ _ _ _ _ _ _ _ _ _ _ _ hb
    have hw : Below w.heap.size w w1 := Below.trans ((((Below.refl _ _).alloc (Nat.le_refl _) _).alloc (by simp) _).alloc (by simp; omega) _) (Below.mono hb (by simp <;> omega))
    clear hb
    clear HQ
    obtain ⟨p0, p1, p2, p3, p4, p5⟩ := id S3
    obtain ⟨q0, q1, q2, q3, q4, q5⟩ := id S4
    obtain ⟨r0, r1, r2, r3, r4, r5⟩ := id S6
    go_wp2
    refine bodyPost_ret (v := .tuple #[.agg #[.int .u8 0, .int .i64 0, .string ⟨#[]⟩], .int .i64 E]) (by simp [results, Try.results17, go_sem, *]) rfl ⟨rfl, ?_⟩
    exact ((hw.setCell (by simp <;> omega) _).setCell (by simp <;> omega) _).setCell (by simp <;> omega) _

theorem rdiv_zero (x : Int) (w : World) (left : Bool)
    (HQ : Hid (∀ W, Calls Try.prog 36 #[.agg #[.int .u8 1, .int .i64 x, .string ⟨#[]⟩], .agg #[.int .u8 1, .int .i64 0, .string ⟨#[]⟩]] W (RetB2 W (false, 0)))) :
    Calls Try.prog 17 #[.agg #[.int .u8 1, .int .i64 x, .string ⟨#[]⟩], .agg #[.int .u8 1, .int .i64 0, .string ⟨#[]⟩], .bool left] w (RetV w (nullV, 22)) := by
  go_enter Try.func17, Try.ntmps17
  go_wp2_with fail
  refine (HQ.out _).mono ?_
  rintro e w1 ⟨rfl, hb⟩
  obtain ⟨S3, S4, S6, hz⟩ := slots3 _ _ _ _ _ _ _ _ _ _ _ _ hb
  have hw : Below w.heap.size w w1 := Below.trans ((((Below.refl _ _).alloc (Nat.le_refl _) _).alloc (by simp) _).alloc (by simp; omega) _) (Below.mono hb (by simp <;> omega))
  clear hb
  clear HQ
  obtain ⟨p0, p1, p2, p3, p4, p5⟩ := id S3
  obtain ⟨q0, q1, q2, q3, q4, q5⟩ := id S4
  obtain ⟨r0, r1, r2, r3, r4, r5⟩ := id S6
  go_wp2
  refine bodyPost_ret (v := .tuple #[.agg #[.int .u8 0, .int .i64 0, .string ⟨#[]⟩], .int .i64 22]) (by simp [results, Try.results17, go_sem, *]) rfl ⟨rfl, ?_⟩
  exact ((hw.setCell (by simp <;> omega) _).setCell (by simp <;> omega) _).setCell (by simp <;> omega) _

theorem rdiv_left (x : Int) (w : World)
    (HQ : Hid (∀ W, Calls Try.prog 36 #[.agg #[.int .u8 1, .int .i64 x, .string ⟨#[]⟩], .agg #[.int .u8 1, .int .i64 (-1), .string ⟨#[]⟩]] W (RetB2 W (false, 0)))) :
    Calls Try.prog 17 #[.agg #[.int .u8 1, .int .i64 x, .string ⟨#[]⟩], .agg #[.int .u8 1, .int .i64 (-1), .string ⟨#[]⟩], .bool true] w (RetV w (numV 0, 0)) := by
  go_enter Try.func17, Try.ntmps17
  go_wp2_with fail
  refine (HQ.out _).mono ?_
  rintro e w1 ⟨rfl, hb⟩
  obtain ⟨S3, S4, S6, hz⟩ := slots3 _ _ _ _ _ _ _ _ _ _ _ _ hb
  have hw : Below w.heap.size w w1 := Below.trans ((((Below.refl _ _).alloc (Nat.le_refl _) _).alloc (by simp) _).alloc (by simp; omega) _) (Below.mono hb (by simp <;> omega))
  clear hb
  clear HQ
  obtain ⟨p0, p1, p2, p3, p4, p5⟩ := id S3
  obtain ⟨q0, q1, q2, q3, q4, q5⟩ := id S4
  obtain ⟨r0, r1, r2, r3, r4, r5⟩ := id S6
  go_wp2_with fail
  clear p0 p1 p2 p3 p4 p5 q0 q1 q2 q3 q4 q5 r0 r1 r2 r3 r4 r5
  refine (rnumber_any 0 _).mono ?_
  rintro e w2 ⟨rfl, hb⟩
  replace S3 := S3.later hb (by omega)
  replace S4 := S4.later hb (by omega)
  replace S6 := S6.later hb (by omega)
  replace hw := hw.trans (Below.mono hb (by omega))
  replace hz := Nat.le_trans hz (Below.size hb)
  clear hb
  obtain ⟨p0, p1, p2, p3, p4, p5⟩ := id S3
  obtain ⟨q0, q1, q2, q3, q4, q5⟩ := id S4
  obtain ⟨r0, r1, r2, r3, r4, r5⟩ := id S6
  go_wp2
  refine bodyPost_ret (v := .tuple #[.agg #[.int .u8 1, .int .i64 0, .string ⟨#[]⟩], .int .i64 0]) (by simp [results, Try.results17, go_sem, *]) rfl ⟨rfl, ?_⟩
  exact ((hw.setCell (by simp <;> omega) _).setCell (by simp <;> omega) _).setCell (by simp <;> omega) _

end Go.Proofs.Ytipeinkogoghnaa
