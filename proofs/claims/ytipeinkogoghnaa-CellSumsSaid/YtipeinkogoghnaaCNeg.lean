/- The walk of cell.Neg. -/
import Derived.Test.YtipeinkogoghnaaCRefM
namespace Go.Proofs.Ytipeinkogoghnaa
open Go.RowKit

theorem slots2_now (w : World) (T : TypeId) (a0 a1 a2 b0 b1 b2 : Value) : Slot ((w.alloc (.cells #[a0, a1, a2] T)).alloc (.cells #[b0, b1, b2] T)) w.heap.size a0 a1 a2 ∧ Slot ((w.alloc (.cells #[a0, a1, a2] T)).alloc (.cells #[b0, b1, b2] T)) (w.heap.size + 1) b0 b1 b2 := by
  obtain ⟨h1, h2, _⟩ := slots2 w T a0 a1 a2 b0 b1 b2 ((w.alloc (.cells #[a0, a1, a2] T)).alloc (.cells #[b0, b1, b2] T)) (Later.refl _)
  exact ⟨h1, h2⟩

theorem neg_main (k kr : Nat) (n nr E : Int) (s sr : ByteArray) (w : World)
    (HA : Hid (∀ W, Calls Try.prog 34 #[.agg #[.int .u8 1, .int .i64 0, .string ⟨#[]⟩], .agg #[.int .u8 k, .int .i64 n, .string s], .func (.func 37) #[] #[]] W (RetV W (⟨kr, nr, sr⟩, E)))) :
    Calls Try.prog 19 #[.agg #[.int .u8 k, .int .i64 n, .string s]] w (RetV w (⟨kr, nr, sr⟩, E)) := by
  go_enter Try.func19, Try.ntmps19
  go_wp2_with fail
  obtain ⟨S3, S4⟩ := slots2_now w 23 (.int .u8 k) (.int .i64 n) (.string s) (.int .u8 0) (.int .i64 0) (.string ⟨#[]⟩)
  have hw : Later w ((w.alloc (.cells #[.int .u8 k, .int .i64 n, .string s] 23)).alloc (.cells #[.int .u8 0, .int .i64 0, .string ⟨#[]⟩] 23)) := ((Below.refl _ _).alloc (Nat.le_refl _) _).alloc (by simp) _
  have hz : ((w.alloc (.cells #[.int .u8 k, .int .i64 n, .string s] 23)).alloc (.cells #[.int .u8 0, .int .i64 0, .string ⟨#[]⟩] 23)).heap.size = w.heap.size + 2 := by simp
  generalize ((w.alloc (.cells #[.int .u8 k, .int .i64 n, .string s] 23)).alloc (.cells #[.int .u8 0, .int .i64 0, .string ⟨#[]⟩] 23)) = W0 at *
  have a0 := fun W (h : LaterB (w.heap.size + 1) W0.drew W) => (h.undrew.cell (o := 0) (by omega) (show w.heap.size ≠ w.heap.size + 1 by omega)).trans S3.1
  have a1 := fun W (h : LaterB (w.heap.size + 1) W0.drew W) => (h.undrew.cell (o := 1) (by omega) (show w.heap.size ≠ w.heap.size + 1 by omega)).trans S3.2.1
  have a2 := fun W (h : LaterB (w.heap.size + 1) W0.drew W) => (h.undrew.cell (o := 2) (by omega) (show w.heap.size ≠ w.heap.size + 1 by omega)).trans S3.2.2.1
  refine wp_region_ordB (w.heap.size + 1) [(1, true), (0, false), (2, false), (3, true), (4, true), (5, false), (6, true)] (by kernel_rfl) (by kernel_rfl) (by kernel_rfl) (by kernel_rfl) ?_
  repeat (first | (refine wpO_F (v := ?_) rfl (by rfl) (fun w' hL => ?_) ?_; rotate_left; (solve | (go_simp; with_reducible rfl) | go_simp); try simp only [Act.put, List.setIfInBounds_toArray, List.set_cons_zero, List.set_cons_succ]) | (refine wpO_G rfl (by rfl) ?_; try simp only [Act.put, List.setIfInBounds_toArray, List.set_cons_zero, List.set_cons_succ]))
  refine wpO_C rfl (by rfl) ?_
  go_simp
  refine (whole_any 0 _).mono ?_
  rintro e w1 ⟨rfl, h1⟩
  refine ⟨Later.toB h1 _, ?_⟩
  try simp only [Act.put, List.setIfInBounds_toArray, List.set_cons_zero, List.set_cons_succ]
  replace S4 := (S4.drew).on h1
  replace hw := hw.trans (Later.undrew h1)
  clear h1 a0 a1 a2 S3
  refine wpO_C rfl (by rfl) ?_
  go_simp
  refine (HA.out _).mono ?_
  rintro e w2 ⟨rfl, h2⟩
  refine ⟨Later.toB h2 _, ?_⟩
  try simp only [Act.put, List.setIfInBounds_toArray, List.set_cons_zero, List.set_cons_succ]
  replace S4 := S4.on h2
  replace hw := hw.trans h2
  clear h2 HA
  repeat (first | (refine wpO_F (v := ?_) rfl (by rfl) (fun w' hL => ?_) ?_; rotate_left; (solve | (go_simp; with_reducible rfl) | go_simp); try simp only [Act.put, List.setIfInBounds_toArray, List.set_cons_zero, List.set_cons_succ]) | (refine wpO_G rfl (by rfl) ?_; try simp only [Act.put, List.setIfInBounds_toArray, List.set_cons_zero, List.set_cons_succ]))
  obtain ⟨p0, p1, p2, p3, p4, p5⟩ := S4
  refine wpO_C rfl (by rfl) ?_
  go_simp
  refine ⟨((LaterB.setCell _).trans (LaterB.setCell _)).trans (LaterB.setCell _), ?_⟩
  try simp only [Act.put, List.setIfInBounds_toArray, List.set_cons_zero, List.set_cons_succ]
  repeat (first | (refine wpO_F (v := ?_) rfl (by rfl) (fun w' hL => ?_) ?_; rotate_left; (solve | (go_simp; with_reducible rfl) | go_simp); try simp only [Act.put, List.setIfInBounds_toArray, List.set_cons_zero, List.set_cons_succ]) | (refine wpO_G rfl (by rfl) ?_; try simp only [Act.put, List.setIfInBounds_toArray, List.set_cons_zero, List.set_cons_succ]))
  refine wpO_nil ?_
  go_wp2
  refine bodyPost_ret (v := .tuple #[.agg #[.int .u8 kr, .int .i64 nr, .string sr], .int .i64 E]) (by simp [results, Try.results19, go_sem, *]) rfl ⟨rfl, ?_⟩
  exact ((Below.setCell hw (Nat.le_succ _) _).setCell (Nat.le_succ _) _).setCell (Nat.le_succ _) _

theorem Neg_any (a : Vl) (w : World) (ha : a.ok) :
    Calls Try.prog 19 #[.agg #[.int .u8 a.k, .int .i64 a.n, .string a.s]] w (RetV w (arithV subI ⟨1, 0, ⟨#[]⟩⟩ a)) :=
  neg_main a.k _ a.n _ _ a.s _ w (fun W => arith_sub ⟨1, 0, ⟨#[]⟩⟩ a W (ok_num 0 (by omega) (by omega)) ha)

end Go.Proofs.Ytipeinkogoghnaa
