/- VdiskNobody. -/
import Derived.Test.YtaggghfnbllbgaaDk18
import Derived.Test.YtaggghfnbllbgaaDOp
import Derived.Test.YtaggghfnbllbgaaTree
namespace Go.Proofs.Ytaggghfnbllbgaa
set_option linter.unusedSimpArgs false
open Go.RowKit

set_option maxRecDepth 100000 in
set_option maxHeartbeats 8000000 in
theorem nobody_main (o : DOp) (w : World) (ho : o.fair w) :
    Calls Try.prog 4 #[.agg o.cells.toArray] w fun e w' => e = .returned (.bool true) ∧ Below w.heap.size w w' := by
  have HAl := Lib.hid alive7_any
  have hnil := fun W : World => (show NoDisk W (.pointer none) from .inl rfl)
  obtain ⟨kind, file, sect, n, by_, a, len, cap, l⟩ := o
  have hn := ho.n
  clear ho
  unfold DOp.cells
  simp only
  have hb0 : Below w.heap.size w (w.alloc (.cells #[.int .i64 kind, .int .i64 file, .int .i64 sect, .int .i64 n, .int .u8 (by_ : Int), .slice a len cap] 32)) := (Below.refl _ _).alloc (Nat.le_refl _) _
  by_cases hlen : len > 100
  · have q : decide ((100 : Int) < (len : Int)) = true := by simp; omega
    go_enter Try.func4, Try.ntmps4
    go_wp2_with (refine (HAl.out _).mono ?_; rintro e w1 ⟨rfl, b1⟩)
    go_ret
    exact ⟨rfl, hb0.trans (b1.mono hb0.size)⟩
  · have q : decide ((100 : Int) < (len : Int)) = false := by simp; omega
    go_enter Try.func4, Try.ntmps4
    go_wp2_with fail
    refine (Read_no (hnil _) _ _).mono ?_
    rintro e w2 ⟨rfl, hw2⟩
    have hs2 : w2.heap.size = w.heap.size + 2 := by rw [hw2]; simp
    have hb2 : Below w.heap.size w w2 := by rw [hw2]; exact hb0.alloc hb0.size _
    have hu2 : w2.cell? ⟨w.heap.size + 1, 0, none⟩ = some (.pointer none) := by
      rw [hw2, show w.heap.size + 1 = (w.alloc (.cells #[.int .i64 kind, .int .i64 file, .int .i64 sect, .int .i64 n, .int .u8 (by_ : Int), .slice a len cap] 32)).heap.size by simp, World.cell?_alloc_new]
      try rfl
    have hop : ∀ i, w2.cell? ⟨w.heap.size, i, none⟩ = (#[.int .i64 kind, .int .i64 file, .int .i64 sect, .int .i64 n, .int .u8 (by_ : Int), .slice a len cap] : Array Value)[i]? := by
      intro i
      rw [hw2]
      refine (((Below.refl (w.heap.size + 1) _).alloc (by simp) _).cell (p := ⟨w.heap.size, i, none⟩) (by show w.heap.size < w.heap.size + 1; omega)).trans ?_
      rw [World.cell?_alloc_new]
    have HU : Hid (∀ W, Chg [w.heap.size + 2] w2 W → NoDisk W (.pointer (some ⟨w.heap.size + 1, 0, none⟩))) := fun W hW => .inr ⟨_, rfl, (hW.cell (by omega) (by simp)).trans hu2⟩
    clear hw2 hu2 hb0
    have o1 := fun W (h : Chg [w.heap.size + 2] w2 W) => (h.cell (b := w.heap.size) (o := 1) (by omega) (by simp)).trans (hop 1)
    have o2 := fun W (h : Chg [w.heap.size + 2] w2 W) => (h.cell (b := w.heap.size) (o := 2) (by omega) (by simp)).trans (hop 2)
    have o3 := fun W (h : Chg [w.heap.size + 2] w2 W) => (h.cell (b := w.heap.size) (o := 3) (by omega) (by simp)).trans (hop 3)
    have o5 := fun W (h : Chg [w.heap.size + 2] w2 W) => (h.cell (b := w.heap.size) (o := 5) (by omega) (by simp)).trans (hop 5)
    have p1 := hop 1
    have p2 := hop 2
    simp only [List.getElem?_toArray, List.getElem?_cons_succ, List.getElem?_cons_zero] at o1 o2 o3 o5 p1 p2
    clear hop
    go_wp2_with (refine (Read_no (HU.out _ (Chg.refl _ _)) _ _).mono ?_; rintro e w' ⟨rfl, rfl⟩)
    replace o1 := fun W (h : Chg [w.heap.size + 2] w'.drew W) => o1 W (Chg.undrew h)
    replace o2 := fun W (h : Chg [w.heap.size + 2] w'.drew W) => o2 W (Chg.undrew h)
    replace o3 := fun W (h : Chg [w.heap.size + 2] w'.drew W) => o3 W (Chg.undrew h)
    replace o5 := fun W (h : Chg [w.heap.size + 2] w'.drew W) => o5 W (Chg.undrew h)
    have HZ6 := Lib.hid (fun W => zero_of (P := Try.prog) (t := 53) (v := .agg #[.int .i64 0, .int .i64 0, .int .i64 0, .int .i64 0, .int .i64 0, .int .i64 0]) (by kernel_rfl) W)
    have HSt := Lib.hid (run_storeVar_new (P := Try.prog) w'.drew 53 #[.int .i64 0, .int .i64 0, .int .i64 0, .int .i64 0, .int .i64 0, .int .i64 0] #[.int .i64 6, .int .i64 6, .int .i64 6, .int .i64 6, .int .i64 6, .int .i64 6] (by kernel_rfl) rfl (by kernel_rfl))
    obtain ⟨w6, hw6⟩ : ∃ W, w'.drew.alloc (.cells #[.int .i64 6, .int .i64 6, .int .i64 6, .int .i64 6, .int .i64 6, .int .i64 6] 53) = W := ⟨_, rfl⟩
    have hg : Chg [w.heap.size + 2] w'.drew w6 := by rw [← hw6]; exact (Chg.refl _ _).alloc _
    have hc6 : ∀ i < 6, w6.cell? ⟨w'.heap.size, i, none⟩ = some (.int .i64 6) := by
      intro i hi
      rw [← hw6, show w'.heap.size = w'.drew.heap.size from rfl, World.cell?_alloc_new]
      match i, hi with
      | 0, _ => rfl
      | 1, _ => rfl
      | 2, _ => rfl
      | 3, _ => rfl
      | 4, _ => rfl
      | 5, _ => rfl
    have hb6 : Below w.heap.size w w6 := by rw [← hw6]; exact hb2.drew.alloc hb2.size _
    have HCH : Hid (Chg [w.heap.size + 2] (w'.drew.alloc (.cells (Value.agg #[.int .i64 0, .int .i64 0, .int .i64 0, .int .i64 0, .int .i64 0, .int .i64 0]).cells 53)) (w'.drew.alloc (.cells #[.int .i64 6, .int .i64 6, .int .i64 6, .int .i64 6, .int .i64 6, .int .i64 6] 53))) := by
      refine ⟨rfl, rfl, rfl, by simp, fun k hk hn => ?_⟩
      have hk2 : k < w'.drew.heap.size := by
        have h1 : k < w'.heap.size + 1 := by simpa using hk
        have h2 : k ≠ w.heap.size + 2 := by simpa using hn
        show k < w'.heap.size
        omega
      rw [Below.heap_alloc _ _ _ hk2, Below.heap_alloc _ _ _ hk2]
    have HN6 : Hid (∀ W, Below w6.heap.size w6 W → NoDisk W (.pointer (some ⟨w.heap.size + 1, 0, none⟩))) := fun W hW => HU.out W ((Chg.undrew hg).trans (Below.chg0 hW _))
    have O6 : Hid (∀ W, Below w6.heap.size w6 W → W.cell? ⟨w.heap.size, 1, none⟩ = some (.int .i64 file)) := fun W hW => o1 W (hg.trans (Below.chg0 hW _))
    have HW6 := Lib.hid hw6
    have HC6 := Lib.hid hc6
    have HB6 := Lib.hid hb6
    clear hw6 hc6 hb6 p1 p2 q hs2
    refine wp_region_tree [w.heap.size + 2] (.free 0 (.free 1 (.free 2 (.free 3 (.free 4 (.free 5 (.free 6 (.free 8 (.free 9 (.free 11 (.free 12 (.free 13 (.free 15 (.free 16 (.two 7 19 (.two 10 19 (.two 14 19 (.two 17 19 (.free 18 (.one 19 (.one 20 (.nil)))) (.one 17 (.free 18 (.one 20 (.nil))))) (.one 14 (.one 17 (.free 18 (.one 20 (.nil)))))) (.one 10 (.one 14 (.one 17 (.free 18 (.one 20 (.nil))))))) (.one 7 (.one 10 (.one 14 (.one 17 (.free 18 (.one 20 (.nil)))))))))))))))))))))) (by kernel_rfl) (by kernel_rfl) (by kernel_rfl) (by kernel_rfl) ?_
    repeat (first | (refine wpT_F (v := ?_) rfl (by rfl) (fun w' hL => ?_) ?_; rotate_left; (solve | (go_simp; with_reducible rfl) | go_simp); try simp only [Act.put, List.setIfInBounds_toArray, List.set_cons_zero, List.set_cons_succ]) | (refine wpT_G rfl (by rfl) ?_; try simp only [Act.put, List.setIfInBounds_toArray, List.set_cons_zero, List.set_cons_succ]) | (refine wpT_skip (Chg.refl _) rfl (by rfl) ?_; try simp only [Act.put, List.setIfInBounds_toArray, List.set_cons_zero, List.set_cons_succ]))
    repeat' (first | (refine wpT_two ?_ ?_) | (refine wpT_F (v := ?_) rfl (by rfl) (fun w' hL => ?_) ?_; rotate_left; (solve | (go_simp; with_reducible rfl) | go_simp); try simp only [Act.put, List.setIfInBounds_toArray, List.set_cons_zero, List.set_cons_succ]) | (refine wpT_C rfl (by rfl) ?_; refine wp_val (exec_alloc (e := 53) rfl HZ6.out) ?_; refine ⟨(Chg.refl _ _).alloc _, ?_⟩; try simp only [Act.put, List.setIfInBounds_toArray, List.set_cons_zero, List.set_cons_succ]) | (refine wpT_C rfl (by rfl) ?_; refine wp_skp (exec_store (ty := 53) rfl rfl rfl HSt.out) ?_; refine ⟨?_, ?_⟩; rotate_left; try simp only [Act.put, List.setIfInBounds_toArray, List.set_cons_zero, List.set_cons_succ]; refine wpT_nil ?_) | (refine wpT_C rfl (by rfl) ?_; go_simp; first | (refine (Write_no (hnil _) _ _ _).mono ?_; rintro e W ⟨rfl, hW⟩; subst hW; refine ⟨Chg.refl _ _, ?_⟩; try simp only [Act.put, List.setIfInBounds_toArray, List.set_cons_zero, List.set_cons_succ]) | (refine (Sync_no (HU.out _ (by first | exact Chg.undrew (Chg.refl _ _) | exact (Chg.undrew (Chg.refl _ _)).alloc _)) _).mono ?_; rintro e W ⟨rfl, hW⟩; subst hW; refine ⟨Chg.refl _ _, ?_⟩; try simp only [Act.put, List.setIfInBounds_toArray, List.set_cons_zero, List.set_cons_succ]) | (refine (Fail_no (hnil _) _).mono ?_; rintro e W ⟨rfl, hW⟩; subst hW; refine ⟨Chg.refl _ _, ?_⟩; try simp only [Act.put, List.setIfInBounds_toArray, List.set_cons_zero, List.set_cons_succ]) | (refine (Crash_no (HU.out _ (by first | exact Chg.undrew (Chg.refl _ _) | exact (Chg.undrew (Chg.refl _ _)).alloc _)) _).mono ?_; rintro e W ⟨rfl, hW⟩; subst hW; refine ⟨Chg.refl _ _, ?_⟩; try simp only [Act.put, List.setIfInBounds_toArray, List.set_cons_zero, List.set_cons_succ]) | fail))
    all_goals first
      | exact HCH.out
      | (rw [HW6.out]
         clear HCH HW6 HSt HZ6 HU o1 o2 o3 o5
         go_wp2
         go_loopw [10] (fun iv wr => ∃ i : Nat, i ≤ 6 ∧ iv = .int .i64 i ∧ wr = w6) (fun iv _ => 6 - (intOf iv).toNat)
         case atStart => exact ⟨0, by omega, rfl, rfl⟩
         case round =>
           obtain ⟨i, hi, rfl, rfl⟩ := hrel
           by_cases hlt : i < 6
           · have e1 := HC6.out i hlt
             go_wp2
             go_roundw
             case rel => exact ⟨i + 1, by omega, by go_num, by trivial⟩
             case measure => simp [intOf]; omega
           · obtain rfl : i = 6 := by omega
             go_wp2
             have hs6 : w.heap.size ≤ wr.heap.size := HB6.out.size
             clear hb2 hg hi hlt HC6
             refine wp_region_ord [(0, false), (1, true), (2, true), (3, true), (4, true), (6, true), (7, true), (10, true), (5, false), (8, false), (9, true), (11, false), (12, true), (13, false), (14, true), (15, true), (16, true), (17, true), (18, true), (19, false), (20, true), (21, true), (22, true), (23, false), (24, true), (25, true), (26, true), (27, true), (28, false), (29, true), (30, true), (31, true)] (by kernel_rfl) (by kernel_rfl) (by kernel_rfl) (by kernel_rfl) ?_
             refine wpO_C rfl (by rfl) ?_
             go_simp
             refine (HAl.out _).mono ?_
             rintro e w9 ⟨rfl, hb9⟩
             refine ⟨hb9, ?_⟩
             try simp only [Act.put, List.setIfInBounds_toArray, List.set_cons_zero, List.set_cons_succ]
             have o1 := fun W (h : Later w9 W) => O6.out W ((undrewL hb9).trans h)
             have HN9 : Hid (NoDisk w9 (.pointer (some ⟨w.heap.size + 1, 0, none⟩))) := HN6.out w9 (undrewL hb9)
             have HEND : Hid (Below w.heap.size w w9) := HB6.out.trans ((undrewL hb9).mono hs6)
             clear hb9 HN6 O6 HAl
             repeat (first | (refine wpO_F (v := ?_) rfl (by rfl) (fun w' hL => ?_) ?_; rotate_left; (solve | (go_simp; with_reducible rfl) | go_simp); try simp only [Act.put, List.setIfInBounds_toArray, List.set_cons_zero, List.set_cons_succ]) | (refine wpO_G rfl (by rfl) ?_; try simp only [Act.put, List.setIfInBounds_toArray, List.set_cons_zero, List.set_cons_succ]))
             refine wpO_C rfl (by rfl) ?_
             go_simp
             refine (Len_no (hnil _) _).mono ?_
             rintro e W ⟨rfl, rfl⟩
             refine ⟨Later.refl _, ?_⟩
             try simp only [Act.put, List.setIfInBounds_toArray, List.set_cons_zero, List.set_cons_succ]
             repeat (first | (refine wpO_F (v := ?_) rfl (by rfl) (fun w' hL => ?_) ?_; rotate_left; (solve | (go_simp; with_reducible rfl) | go_simp); try simp only [Act.put, List.setIfInBounds_toArray, List.set_cons_zero, List.set_cons_succ]) | (refine wpO_G rfl (by rfl) ?_; try simp only [Act.put, List.setIfInBounds_toArray, List.set_cons_zero, List.set_cons_succ]))
             refine wpO_C rfl (by rfl) ?_
             go_simp
             refine (Len_no HN9.out _).mono ?_
             rintro e W ⟨rfl, rfl⟩
             refine ⟨Later.refl _, ?_⟩
             try simp only [Act.put, List.setIfInBounds_toArray, List.set_cons_zero, List.set_cons_succ]
             repeat (first | (refine wpO_F (v := ?_) rfl (by rfl) (fun w' hL => ?_) ?_; rotate_left; (solve | (go_simp; with_reducible rfl) | go_simp); try simp only [Act.put, List.setIfInBounds_toArray, List.set_cons_zero, List.set_cons_succ]) | (refine wpO_G rfl (by rfl) ?_; try simp only [Act.put, List.setIfInBounds_toArray, List.set_cons_zero, List.set_cons_succ]))
             refine wpO_C rfl (by rfl) ?_
             go_simp
             refine (Waits_no (hnil _)).mono ?_
             rintro e W ⟨rfl, rfl⟩
             refine ⟨Later.refl _, ?_⟩
             try simp only [Act.put, List.setIfInBounds_toArray, List.set_cons_zero, List.set_cons_succ]
             repeat (first | (refine wpO_F (v := ?_) rfl (by rfl) (fun w' hL => ?_) ?_; rotate_left; (solve | (go_simp; with_reducible rfl) | go_simp); try simp only [Act.put, List.setIfInBounds_toArray, List.set_cons_zero, List.set_cons_succ]) | (refine wpO_G rfl (by rfl) ?_; try simp only [Act.put, List.setIfInBounds_toArray, List.set_cons_zero, List.set_cons_succ]))
             refine wpO_C rfl (by rfl) ?_
             go_simp
             refine (Calls_no HN9.out).mono ?_
             rintro e W ⟨rfl, rfl⟩
             refine ⟨Later.refl _, ?_⟩
             try simp only [Act.put, List.setIfInBounds_toArray, List.set_cons_zero, List.set_cons_succ]
             repeat (first | (refine wpO_F (v := ?_) rfl (by rfl) (fun w' hL => ?_) ?_; rotate_left; (solve | (go_simp; with_reducible rfl) | go_simp); try simp only [Act.put, List.setIfInBounds_toArray, List.set_cons_zero, List.set_cons_succ]) | (refine wpO_G rfl (by rfl) ?_; try simp only [Act.put, List.setIfInBounds_toArray, List.set_cons_zero, List.set_cons_succ]))
             refine wpO_C rfl (by rfl) ?_
             go_simp
             refine (Down_no (hnil _)).mono ?_
             rintro e W ⟨rfl, rfl⟩
             refine ⟨Later.refl _, ?_⟩
             try simp only [Act.put, List.setIfInBounds_toArray, List.set_cons_zero, List.set_cons_succ]
             repeat (first | (refine wpO_F (v := ?_) rfl (by rfl) (fun w' hL => ?_) ?_; rotate_left; (solve | (go_simp; with_reducible rfl) | go_simp); try simp only [Act.put, List.setIfInBounds_toArray, List.set_cons_zero, List.set_cons_succ]) | (refine wpO_G rfl (by rfl) ?_; try simp only [Act.put, List.setIfInBounds_toArray, List.set_cons_zero, List.set_cons_succ]))
             refine wpO_C rfl (by rfl) ?_
             go_simp
             refine (Down_no HN9.out).mono ?_
             rintro e W ⟨rfl, rfl⟩
             refine ⟨Later.refl _, ?_⟩
             try simp only [Act.put, List.setIfInBounds_toArray, List.set_cons_zero, List.set_cons_succ]
             repeat (first | (refine wpO_F (v := ?_) rfl (by rfl) (fun w' hL => ?_) ?_; rotate_left; (solve | (go_simp; with_reducible rfl) | go_simp); try simp only [Act.put, List.setIfInBounds_toArray, List.set_cons_zero, List.set_cons_succ]) | (refine wpO_G rfl (by rfl) ?_; try simp only [Act.put, List.setIfInBounds_toArray, List.set_cons_zero, List.set_cons_succ]))
             refine wpO_C rfl (by rfl) ?_
             go_simp
             refine (Quota_no (hnil _) 5 (by decide)).mono ?_
             rintro e W ⟨rfl, rfl⟩
             refine ⟨Later.refl _, ?_⟩
             try simp only [Act.put, List.setIfInBounds_toArray, List.set_cons_zero, List.set_cons_succ]
             repeat (first | (refine wpO_F (v := ?_) rfl (by rfl) (fun w' hL => ?_) ?_; rotate_left; (solve | (go_simp; with_reducible rfl) | go_simp); try simp only [Act.put, List.setIfInBounds_toArray, List.set_cons_zero, List.set_cons_succ]) | (refine wpO_G rfl (by rfl) ?_; try simp only [Act.put, List.setIfInBounds_toArray, List.set_cons_zero, List.set_cons_succ]))
             refine wpO_nil ?_
             go_wp2
             go_ret
             exact ⟨rfl, HEND.out⟩)
end Go.Proofs.Ytaggghfnbllbgaa
