/- The walks of cell.Add, Sub, Mul, Div, Mod. -/
import Derived.Test.YtipeinkogoghnaaCArithI
namespace Go.Proofs.Ytipeinkogoghnaa
open Go.RowKit

theorem Add_any (a b : Vl) (w : World) (ha : a.ok) (hb : b.ok) :
    Calls Try.prog 10 #[.agg #[.int .u8 a.k, .int .i64 a.n, .string a.s], .agg #[.int .u8 b.k, .int .i64 b.n, .string b.s]] w (RetV w (arithV addI a b)) := by
  have hop := fun W => arith_add a b W ha hb
  obtain ⟨R, hR⟩ : ∃ R, arithV addI a b = R := ⟨_, rfl⟩
  rw [hR] at hop ⊢
  obtain ⟨⟨k, n, s⟩, q⟩ := R
  obtain ⟨ka, na, sa⟩ := a
  obtain ⟨kb, nb, sb⟩ := b
  simp only [] at hop
  have HOP := Lib.hid hop
  clear hop hR ha hb
  go_enter Try.func10, Try.ntmps10
  go_wp2_with fail
  refine (HOP.out _).mono ?_
  rintro e w1 ⟨rfl, hb⟩
  obtain ⟨S3, S4, S6, hz⟩ := slots3 _ _ _ _ _ _ _ _ _ _ _ _ hb
  have hw : Below w.heap.size w w1 := Below.trans ((((Below.refl _ _).alloc (Nat.le_refl _) _).alloc (by simp) _).alloc (by simp; omega) _) (Below.mono hb (by simp <;> omega))
  clear hb
  clear HOP
  obtain ⟨p0, p1, p2, p3, p4, p5⟩ := id S3
  obtain ⟨q0, q1, q2, q3, q4, q5⟩ := id S4
  obtain ⟨r0, r1, r2, r3, r4, r5⟩ := id S6
  go_wp2
  refine bodyPost_ret (v := .tuple #[.agg #[.int .u8 k, .int .i64 n, .string s], .int .i64 q]) (by simp [results, Try.results10, go_sem, *]) rfl ⟨rfl, ?_⟩
  exact ((hw.setCell (by simp; omega) _).setCell (by simp; omega) _).setCell (by simp; omega) _

theorem Sub_any (a b : Vl) (w : World) (ha : a.ok) (hb : b.ok) :
    Calls Try.prog 12 #[.agg #[.int .u8 a.k, .int .i64 a.n, .string a.s], .agg #[.int .u8 b.k, .int .i64 b.n, .string b.s]] w (RetV w (arithV subI a b)) := by
  have hop := fun W => arith_sub a b W ha hb
  obtain ⟨R, hR⟩ : ∃ R, arithV subI a b = R := ⟨_, rfl⟩
  rw [hR] at hop ⊢
  obtain ⟨⟨k, n, s⟩, q⟩ := R
  obtain ⟨ka, na, sa⟩ := a
  obtain ⟨kb, nb, sb⟩ := b
  simp only [] at hop
  have HOP := Lib.hid hop
  clear hop hR ha hb
  go_enter Try.func12, Try.ntmps12
  go_wp2_with fail
  refine (HOP.out _).mono ?_
  rintro e w1 ⟨rfl, hb⟩
  obtain ⟨S3, S4, S6, hz⟩ := slots3 _ _ _ _ _ _ _ _ _ _ _ _ hb
  have hw : Below w.heap.size w w1 := Below.trans ((((Below.refl _ _).alloc (Nat.le_refl _) _).alloc (by simp) _).alloc (by simp; omega) _) (Below.mono hb (by simp <;> omega))
  clear hb
  clear HOP
  obtain ⟨p0, p1, p2, p3, p4, p5⟩ := id S3
  obtain ⟨q0, q1, q2, q3, q4, q5⟩ := id S4
  obtain ⟨r0, r1, r2, r3, r4, r5⟩ := id S6
  go_wp2
  refine bodyPost_ret (v := .tuple #[.agg #[.int .u8 k, .int .i64 n, .string s], .int .i64 q]) (by simp [results, Try.results12, go_sem, *]) rfl ⟨rfl, ?_⟩
  exact ((hw.setCell (by simp; omega) _).setCell (by simp; omega) _).setCell (by simp; omega) _

theorem Mul_any (a b : Vl) (w : World) (ha : a.ok) (hb : b.ok) :
    Calls Try.prog 14 #[.agg #[.int .u8 a.k, .int .i64 a.n, .string a.s], .agg #[.int .u8 b.k, .int .i64 b.n, .string b.s]] w (RetV w (arithV mulI a b)) := by
  have hop := fun W => arith_mul a b W ha hb
  obtain ⟨R, hR⟩ : ∃ R, arithV mulI a b = R := ⟨_, rfl⟩
  rw [hR] at hop ⊢
  obtain ⟨⟨k, n, s⟩, q⟩ := R
  obtain ⟨ka, na, sa⟩ := a
  obtain ⟨kb, nb, sb⟩ := b
  simp only [] at hop
  have HOP := Lib.hid hop
  clear hop hR ha hb
  go_enter Try.func14, Try.ntmps14
  go_wp2_with fail
  refine (HOP.out _).mono ?_
  rintro e w1 ⟨rfl, hb⟩
  obtain ⟨S3, S4, S6, hz⟩ := slots3 _ _ _ _ _ _ _ _ _ _ _ _ hb
  have hw : Below w.heap.size w w1 := Below.trans ((((Below.refl _ _).alloc (Nat.le_refl _) _).alloc (by simp) _).alloc (by simp; omega) _) (Below.mono hb (by simp <;> omega))
  clear hb
  clear HOP
  obtain ⟨p0, p1, p2, p3, p4, p5⟩ := id S3
  obtain ⟨q0, q1, q2, q3, q4, q5⟩ := id S4
  obtain ⟨r0, r1, r2, r3, r4, r5⟩ := id S6
  go_wp2
  refine bodyPost_ret (v := .tuple #[.agg #[.int .u8 k, .int .i64 n, .string s], .int .i64 q]) (by simp [results, Try.results14, go_sem, *]) rfl ⟨rfl, ?_⟩
  exact ((hw.setCell (by simp; omega) _).setCell (by simp; omega) _).setCell (by simp; omega) _

theorem Div_any (a b : Vl) (w : World) (ha : a.ok) (hb : b.ok) :
    Calls Try.prog 16 #[.agg #[.int .u8 a.k, .int .i64 a.n, .string a.s], .agg #[.int .u8 b.k, .int .i64 b.n, .string b.s]] w (RetV w (arithV divI a b)) := by
  have hop := fun W => arith_div a b W ha hb
  obtain ⟨R, hR⟩ : ∃ R, arithV divI a b = R := ⟨_, rfl⟩
  rw [hR] at hop ⊢
  obtain ⟨⟨k, n, s⟩, q⟩ := R
  obtain ⟨ka, na, sa⟩ := a
  obtain ⟨kb, nb, sb⟩ := b
  simp only [] at hop
  have HOP := Lib.hid hop
  clear hop hR ha hb
  go_enter Try.func16, Try.ntmps16
  go_wp2_with fail
  refine (HOP.out _).mono ?_
  rintro e w1 ⟨rfl, hb⟩
  obtain ⟨S3, S4, S6, hz⟩ := slots3 _ _ _ _ _ _ _ _ _ _ _ _ hb
  have hw : Below w.heap.size w w1 := Below.trans ((((Below.refl _ _).alloc (Nat.le_refl _) _).alloc (by simp) _).alloc (by simp; omega) _) (Below.mono hb (by simp <;> omega))
  clear hb
  clear HOP
  obtain ⟨p0, p1, p2, p3, p4, p5⟩ := id S3
  obtain ⟨q0, q1, q2, q3, q4, q5⟩ := id S4
  obtain ⟨r0, r1, r2, r3, r4, r5⟩ := id S6
  go_wp2
  refine bodyPost_ret (v := .tuple #[.agg #[.int .u8 k, .int .i64 n, .string s], .int .i64 q]) (by simp [results, Try.results16, go_sem, *]) rfl ⟨rfl, ?_⟩
  exact ((hw.setCell (by simp; omega) _).setCell (by simp; omega) _).setCell (by simp; omega) _

theorem Mod_any (a b : Vl) (w : World) (ha : a.ok) (hb : b.ok) :
    Calls Try.prog 18 #[.agg #[.int .u8 a.k, .int .i64 a.n, .string a.s], .agg #[.int .u8 b.k, .int .i64 b.n, .string b.s]] w (RetV w (arithV modI a b)) := by
  have hop := fun W => arith_mod a b W ha hb
  obtain ⟨R, hR⟩ : ∃ R, arithV modI a b = R := ⟨_, rfl⟩
  rw [hR] at hop ⊢
  obtain ⟨⟨k, n, s⟩, q⟩ := R
  obtain ⟨ka, na, sa⟩ := a
  obtain ⟨kb, nb, sb⟩ := b
  simp only [] at hop
  have HOP := Lib.hid hop
  clear hop hR ha hb
  go_enter Try.func18, Try.ntmps18
  go_wp2_with fail
  refine (HOP.out _).mono ?_
  rintro e w1 ⟨rfl, hb⟩
  obtain ⟨S3, S4, S6, hz⟩ := slots3 _ _ _ _ _ _ _ _ _ _ _ _ hb
  have hw : Below w.heap.size w w1 := Below.trans ((((Below.refl _ _).alloc (Nat.le_refl _) _).alloc (by simp) _).alloc (by simp; omega) _) (Below.mono hb (by simp <;> omega))
  clear hb
  clear HOP
  obtain ⟨p0, p1, p2, p3, p4, p5⟩ := id S3
  obtain ⟨q0, q1, q2, q3, q4, q5⟩ := id S4
  obtain ⟨r0, r1, r2, r3, r4, r5⟩ := id S6
  go_wp2
  refine bodyPost_ret (v := .tuple #[.agg #[.int .u8 k, .int .i64 n, .string s], .int .i64 q]) (by simp [results, Try.results18, go_sem, *]) rfl ⟨rfl, ?_⟩
  exact ((hw.setCell (by simp; omega) _).setCell (by simp; omega) _).setCell (by simp; omega) _

end Go.Proofs.Ytipeinkogoghnaa
