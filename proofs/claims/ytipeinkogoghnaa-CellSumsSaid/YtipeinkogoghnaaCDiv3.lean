/- The reference's Div at any two values. -/
import Derived.Test.YtipeinkogoghnaaCDiv2
namespace Go.Proofs.Ytipeinkogoghnaa
open Go.RowKit

theorem rdiv_m1 (x nr E : Int) (kr : Nat) (sr : ByteArray) (w : World)
    (HQ : Hid (∀ W, Calls Try.prog 36 #[.agg #[.int .u8 1, .int .i64 x, .string ⟨#[]⟩], .agg #[.int .u8 1, .int .i64 (-1), .string ⟨#[]⟩]] W (RetB2 W (false, 0))))
    (HS : Hid (∀ W, Calls Try.prog 13 #[.agg #[.int .u8 1, .int .i64 0, .string ⟨#[]⟩], .agg #[.int .u8 1, .int .i64 x, .string ⟨#[]⟩]] W (RetV W (⟨kr, nr, sr⟩, E)))) :
    Calls Try.prog 17 #[.agg #[.int .u8 1, .int .i64 x, .string ⟨#[]⟩], .agg #[.int .u8 1, .int .i64 (-1), .string ⟨#[]⟩], .bool false] w (RetV w (⟨kr, nr, sr⟩, E)) := by
  go_enter Try.func17, Try.ntmps17
  go_wp2_with fail
  refine (HQ.out _).mono ?_
  rintro e w1 ⟨rfl, hb⟩
  obtain ⟨S3, S4, S6, hz⟩ := slots3 _ _ _ _ _ _ _ _ _ _ _ _ hb
  have hw : Below w.heap.size w w1 := Below.trans ((((Below.refl _ _).alloc (Nat.le_refl _) _).alloc (by simp) _).alloc (by simp; omega) _) (Below.mono hb (by simp <;> omega))
  clear hb
  clear HQ
  obtain ⟨p0, p1, p2, p3, p4, p5⟩ := id S3
  obtain ⟨q0, q1, q2, q3, q4, q5⟩ := id S4
  obtain ⟨r0, r1, r2, r3, r4, r5⟩ := id S6
  go_wp2_with fail
  clear p0 p1 p2 p3 p4 p5 q0 q1 q2 q3 q4 q5 r0 r1 r2 r3 r4 r5
  have a0 := fun W (h : LaterB (w.heap.size + 1 + 1) w1.drew W) => (h.undrew.cell (o := 0) (by omega) (show w.heap.size ≠ w.heap.size + 1 + 1 by omega)).trans S3.1
  have a1 := fun W (h : LaterB (w.heap.size + 1 + 1) w1.drew W) => (h.undrew.cell (o := 1) (by omega) (show w.heap.size ≠ w.heap.size + 1 + 1 by omega)).trans S3.2.1
  have a2 := fun W (h : LaterB (w.heap.size + 1 + 1) w1.drew W) => (h.undrew.cell (o := 2) (by omega) (show w.heap.size ≠ w.heap.size + 1 + 1 by omega)).trans S3.2.2.1
  refine wp_region_ordB (w.heap.size + 1 + 1) [(1, true), (0, false), (2, false), (3, true), (4, true), (5, false), (6, true)] (by kernel_rfl) (by kernel_rfl) (by kernel_rfl) (by kernel_rfl) ?_
  repeat (first | (refine wpO_F (v := ?_) rfl (by rfl) (fun w' hL => ?_) ?_; rotate_left; (solve | (go_simp; with_reducible rfl) | go_simp); try simp only [Act.put, List.setIfInBounds_toArray, List.set_cons_zero, List.set_cons_succ]) | (refine wpO_G rfl (by rfl) ?_; try simp only [Act.put, List.setIfInBounds_toArray, List.set_cons_zero, List.set_cons_succ]))
  refine wpO_C rfl (by rfl) ?_
  go_simp
  refine (rnumber_any 0 _).mono ?_
  rintro e w2 ⟨rfl, h1⟩
  refine ⟨Later.toB h1 _, ?_⟩
  try simp only [Act.put, List.setIfInBounds_toArray, List.set_cons_zero, List.set_cons_succ]
  replace S6 := (S6.drew).on h1
  replace hw := hw.trans (Below.mono (Later.undrew h1) (by omega))
  clear h1 a0 a1 a2 S3 S4
  refine wpO_C rfl (by rfl) ?_
  go_simp
  refine (HS.out _).mono ?_
  rintro e w3 ⟨rfl, h2⟩
  refine ⟨Later.toB h2 _, ?_⟩
  try simp only [Act.put, List.setIfInBounds_toArray, List.set_cons_zero, List.set_cons_succ]
  replace S6 := S6.on h2
  replace hw := Later.trans hw h2
  clear h2 HS
  repeat (first | (refine wpO_F (v := ?_) rfl (by rfl) (fun w' hL => ?_) ?_; rotate_left; (solve | (go_simp; with_reducible rfl) | go_simp); try simp only [Act.put, List.setIfInBounds_toArray, List.set_cons_zero, List.set_cons_succ]) | (refine wpO_G rfl (by rfl) ?_; try simp only [Act.put, List.setIfInBounds_toArray, List.set_cons_zero, List.set_cons_succ]))
  obtain ⟨p0, p1, p2, p3, p4, p5⟩ := S6
  refine wpO_C rfl (by rfl) ?_
  go_simp
  refine ⟨((LaterB.setCell _).trans (LaterB.setCell _)).trans (LaterB.setCell _), ?_⟩
  try simp only [Act.put, List.setIfInBounds_toArray, List.set_cons_zero, List.set_cons_succ]
  repeat (first | (refine wpO_F (v := ?_) rfl (by rfl) (fun w' hL => ?_) ?_; rotate_left; (solve | (go_simp; with_reducible rfl) | go_simp); try simp only [Act.put, List.setIfInBounds_toArray, List.set_cons_zero, List.set_cons_succ]) | (refine wpO_G rfl (by rfl) ?_; try simp only [Act.put, List.setIfInBounds_toArray, List.set_cons_zero, List.set_cons_succ]))
  refine wpO_nil ?_
  go_wp2
  refine bodyPost_ret (v := .tuple #[.agg #[.int .u8 kr, .int .i64 nr, .string sr], .int .i64 E]) (by simp [results, Try.results17, go_sem, *]) rfl ⟨rfl, ?_⟩
  exact ((Below.setCell hw (by simp <;> omega) _).setCell (by simp <;> omega) _).setCell (by simp <;> omega) _

theorem neg_div (x : Int) : divI x (-1) = subI 0 x := by
  unfold divI subI
  rw [if_neg (by omega), Int.tdiv_neg, Int.tdiv_one, Int.zero_sub]

theorem neg_mod (x : Int) : modI x (-1) = (0, 0) := by
  unfold modI
  rw [if_neg (by omega), Int.tmod_neg, Int.tmod_one]

theorem div_other (x y : Int) (hx1 : -9223372036854775808 ≤ x) (hx2 : x ≤ 9223372036854775807) (h0 : y ≠ 0) (h1 : y ≠ -1) : divI x y = (x.tdiv y, 0) := by
  have hf := div_fits x y hx1 hx2 h0 (by omega)
  unfold divI; rw [if_neg h0, fits_yes hf.1 hf.2]; rfl

theorem rDiv_any (a b : Vl) (w : World) (ha : a.ok) (hb : b.ok) :
    Calls Try.prog 17 #[.agg #[.int .u8 a.k, .int .i64 a.n, .string a.s], .agg #[.int .u8 b.k, .int .i64 b.n, .string b.s], .bool false] w (RetV w (arithV divI a b)) := by
  by_cases h : (a.right = true ∧ b.right = true) ∧ a.k = 1 ∧ b.k = 1
  · obtain ⟨h1, h2⟩ := two_nums a b h
    have a1 := ha.2.1
    have a2 := ha.2.2
    generalize a.n = x at *
    generalize b.n = y at *
    subst h1 h2
    rw [arithV_ii]
    by_cases h0 : y = 0
    · subst h0
      rw [show pickV (divI x 0).1 (divI x 0).2 = (nullV, 22) from rfl]
      exact rdiv_zero x w false (fun W => asked_ii x 0 W)
    · by_cases h1 : y = -1
      · subst h1
        rw [neg_div]
        refine rdiv_m1 x _ _ _ _ w (fun W => asked_ii x (-1) W) (fun W => ?_)
        have h := rSub_any ⟨1, 0, ⟨#[]⟩⟩ ⟨1, x, ⟨#[]⟩⟩ W (ok_num 0 (by omega) (by omega)) (ok_num x a1 a2)
        rw [arithV_ii] at h
        exact h
      · rw [div_other x y a1 a2 h0 h1]
        exact rdiv_quo x y w a1 a2 h0 h1 (fun W => asked_ii x y W)
  · obtain ⟨e1, e2⟩ := askV_not divI a b h
    rw [e1]
    exact rdiv_not _ _ _ _ _ _ w false (askV a b).1 _ e2 (fun W => asked_any a b W)

theorem rMod_any (a b : Vl) (w : World) (ha : a.ok) (hb : b.ok) :
    Calls Try.prog 17 #[.agg #[.int .u8 a.k, .int .i64 a.n, .string a.s], .agg #[.int .u8 b.k, .int .i64 b.n, .string b.s], .bool true] w (RetV w (arithV modI a b)) := by
  by_cases h : (a.right = true ∧ b.right = true) ∧ a.k = 1 ∧ b.k = 1
  · obtain ⟨h1, h2⟩ := two_nums a b h
    have a1 := ha.2.1
    have a2 := ha.2.2
    generalize a.n = x at *
    generalize b.n = y at *
    subst h1 h2
    rw [arithV_ii]
    by_cases h0 : y = 0
    · subst h0
      rw [show pickV (modI x 0).1 (modI x 0).2 = (nullV, 22) from rfl]
      exact rdiv_zero x w true (fun W => asked_ii x 0 W)
    · by_cases h1 : y = -1
      · subst h1
        rw [neg_mod]
        exact rdiv_left x w (fun W => asked_ii x (-1) W)
      · rw [show modI x y = (x.tmod y, 0) from by unfold modI; rw [if_neg h0]]
        exact rdiv_rest x y w a1 a2 h0 h1 (fun W => asked_ii x y W)
  · obtain ⟨e1, e2⟩ := askV_not modI a b h
    rw [e1]
    exact rdiv_not _ _ _ _ _ _ w true (askV a b).1 _ e2 (fun W => asked_any a b W)

end Go.Proofs.Ytipeinkogoghnaa
