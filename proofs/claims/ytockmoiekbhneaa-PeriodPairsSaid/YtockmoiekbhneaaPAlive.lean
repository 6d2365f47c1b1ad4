/- Period: the fixed calls of the laws. -/
import Derived.Test.YtockmoiekbhneaaPUnion
namespace Go.Proofs.Ytockmoiekbhneaa
open Go.RowKit

theorem arr_new3 (w : World) (T : TypeId) (f t g u h v : Int) : Arr (w.heap.size + 1) (w.alloc (.cells #[.int .i64 f, .int .i64 t, .int .i64 g, .int .i64 u, .int .i64 h, .int .i64 v] T)) (some ⟨w.heap.size, 0, none⟩) (cellsT [(f, t), (g, u), (h, v)]) :=
  .inr ⟨w.heap.size, 0, rfl, by omega, fun i x hi => by
    rw [World.cell?_alloc_new, Nat.zero_add]
    match i, hi with
    | 0, hi => exact hi
    | 1, hi => exact hi
    | 2, hi => exact hi
    | 3, hi => exact hi
    | 4, hi => exact hi
    | 5, hi => exact hi⟩
theorem alive_u {u : List (Int × Int)} (h : IsU [(3, 5), (1, 3), (9, 9)] u) : u = [(1, 5)] := by
  refine Nrm.same h.nrm ⟨by omega, by simp, trivial⟩ fun p => ?_
  rw [h.pts]
  simp only [Pts_cons, Pts_nil, or_false]
  constructor <;> intro hp <;> omega
theorem union_new3 (W : World) (b : Nat) (f t g u h v : Int) (hb : W.heap.size = b) :
    Calls Try.prog 20 #[.slice (some ⟨b, 0, none⟩) 3 3] (W.alloc (.cells #[.int .i64 f, .int .i64 t, .int .i64 g, .int .i64 u, .int .i64 h, .int .i64 v] 23)) (RetU [(f, t), (g, u), (h, v)] (W.alloc (.cells #[.int .i64 f, .int .i64 t, .int .i64 g, .int .i64 u, .int .i64 h, .int .i64 v] 23))) := by
  subst hb
  exact union_any (W.heap.size + 1) [(f, t), (g, u), (h, v)] (some ⟨W.heap.size, 0, none⟩) 3 3 (W.alloc (.cells #[.int .i64 f, .int .i64 t, .int .i64 g, .int .i64 u, .int .i64 h, .int .i64 v] 23)) (arr_new3 W _ f t g u h v) (by simp) rfl (by omega)

set_option maxRecDepth 100000 in
set_option maxHeartbeats 2000000 in
theorem alive14 (w : World) : Calls Try.prog 19 #[] w fun e w' => e = .returned (.bool true) ∧ Below w.heap.size w w' := by
  have hcut := cut_any 1 9 3 5 w
  have hC : cutS (1, 9) (3, 5) = [(1, 3), (5, 9)] := by decide
  have hB : bothS (1, 9) (3, 5) = ((3, 5), true) := by decide
  unfold RetCut at hcut
  rw [hC, hB] at hcut
  have HCut := Lib.hid hcut
  clear hcut hC hB
  go_enter Try.func19, Try.ntmps19
  go_wp2_with fail
  refine HCut.out.mono ?_
  rintro e w1 ⟨v, rfl, hown, hb1⟩
  obtain ⟨a1, c1, rfl, _, _, harr⟩ := own_arr hown
  obtain ⟨b, o, rfl, hbN, k0, k1⟩ := spanAt (k := 1) harr (by simp)
  have K0 := Lib.hid k0
  have K1 := Lib.hid k1
  have hB2 := Blk.new w1 23 #[.int .i64 3, .int .i64 5]
  have HB2 := Lib.hid hB2
  have HBel := Lib.hid (hb1.alloc hb1.size (.cells #[.int .i64 3, .int .i64 5] 23))
  clear hown harr k0 k1 hB2 hb1
  go_wp2_with fail
  refine (union_new3 _ _ 3 5 1 3 9 9 (by simp)).mono ?_
  rintro e w2 ⟨u, v2, hu, rfl, hown2, hb2⟩
  obtain rfl := alive_u hu
  obtain ⟨a2, c2, rfl, _, _, harr2⟩ := own_arr hown2
  obtain ⟨b2, o2, rfl, hbN2, m0, m1⟩ := spanAt (k := 0) harr2 (by simp)
  simp only [Nat.zero_mul, Nat.add_zero, List.getElem_cons_zero] at m0 m1
  have d0 := (HB2.out.alloc (.cells #[.int .i64 3, .int .i64 5, .int .i64 1, .int .i64 3, .int .i64 9, .int .i64 9] 23)).bel2 hb2 (by simp; omega)
  have k0 : w2.cell? ⟨b, o + 2, none⟩ = some (.int .i64 5) := (hb2.cell (p := ⟨b, o + 2, none⟩) (by simp; omega)).trans ((((Below.refl w1.heap.size w1).alloc (Nat.le_refl _) _).alloc (by simp) _ |>.cell (p := ⟨b, o + 2, none⟩) hbN).trans K0.out)
  have k1 : w2.cell? ⟨b, o + 2 + 1, none⟩ = some (.int .i64 9) := (hb2.cell (p := ⟨b, o + 2 + 1, none⟩) (by simp; omega)).trans ((((Below.refl w1.heap.size w1).alloc (Nat.le_refl _) _).alloc (by simp) _ |>.cell (p := ⟨b, o + 2 + 1, none⟩) hbN).trans K1.out)
  have e0 : w2.cell? ⟨w1.heap.size, 0, none⟩ = some (.int .i64 3) := d0.cell 0
  have e1 : w2.cell? ⟨w1.heap.size, 1, none⟩ = some (.int .i64 5) := d0.cell 1
  have HEnd := Lib.hid ((HBel.out.alloc (by have := HBel.out.size; simpa using this) _).trans (hb2.mono (by have := HBel.out.size; simp at this ⊢; omega)))
  have HR := Lib.hid (PRight_any 0 0 w2)
  clear d0 hown2 harr2 hb2 hu K0 K1 HB2 HBel
  go_wp2_with fail
  refine HR.out.mono ?_
  rintro e w3 ⟨rfl, hb3⟩
  go_wp2
  go_ret
  exact ⟨rfl, HEnd.out.trans (hb3.mono HEnd.out.size)⟩
end Go.Proofs.Ytockmoiekbhneaa
