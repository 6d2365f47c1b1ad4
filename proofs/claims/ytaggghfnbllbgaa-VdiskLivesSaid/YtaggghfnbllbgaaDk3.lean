/- fits, keeps, put, clone. -/
import Derived.Test.YtaggghfnbllbgaaDk2
namespace Go.Proofs.Ytaggghfnbllbgaa
set_option linter.unusedSimpArgs false
open Go.RowKit

set_option maxRecDepth 100000 in
set_option maxHeartbeats 4000000 in
theorem fits_cells (w : World) (B : Nat) (f : Nat) (hf : f < 2) (s lf lo q : Nat) (hs : s ≤ 65535) (hlo : lo ≤ 65536) (hq : q ≤ 65536) (hlt : B < w.heap.size)
    (c1 : w.cell? ⟨B, 1, none⟩ = some (.int .i64 (q : Int))) (cf : w.cell? ⟨B, 3 + f, none⟩ = some (.int .i64 (lf : Int))) (co : w.cell? ⟨B, 4 - f, none⟩ = some (.int .i64 (lo : Int))) :
    Calls Try.prog 51 #[.pointer (some ⟨B, 0, none⟩), .int .i64 (f : Int), .int .i64 (s : Int)] w fun e w' => e = .returned (.bool (decide (s < lf) || decide (s + 1 + lo ≤ q))) ∧ Below w.heap.size w w' := by
  have e1 : ∀ W, Later w.drew W → W.cell? ⟨B, 1, none⟩ = some (.int .i64 (q : Int)) := fun W h => (Below.cell (p := ⟨B, 1, none⟩) h hlt).trans c1
  have hw0 : IntKind.i64.wrap 1 = 1 := by decide
  have hw00 : IntKind.i64.wrap 0 = 0 := by decide
  have hw1 : IntKind.i64.wrap ((s : Int) + 1) = (s : Int) + 1 := IntWalk.i64_in _ ⟨by omega, by omega⟩
  have hw2 : IntKind.i64.wrap ((s : Int) + 1 + (lo : Int)) = (s : Int) + 1 + (lo : Int) := IntWalk.i64_in _ ⟨by omega, by omega⟩
  have hcases : f = 0 ∨ f = 1 := by omega
  rcases hcases with rfl | rfl
  · have e3 : ∀ W, Later w.drew W → W.cell? ⟨B, 3, none⟩ = some (.int .i64 (lf : Int)) := fun W h => (Below.cell (p := ⟨B, 3, none⟩) h hlt).trans cf
    have e4 : ∀ W, Later w.drew W → W.cell? ⟨B, 4, none⟩ = some (.int .i64 (lo : Int)) := fun W h => (Below.cell (p := ⟨B, 4, none⟩) h hlt).trans co
    clear c1 cf co hf
    by_cases h1 : s < lf
    · have q1 : decide (s < lf) = true := by simpa using h1
      rw [q1, Bool.true_or]
      go_enter Try.func51, Try.ntmps51
      go_wp2_with fail
      refine wp_region_ord [(0, true), (1, true), (2, true), (3, true), (4, true), (5, true), (6, true), (7, true), (8, true), (9, true), (10, true), (11, true), (12, true), (13, true), (14, true), (15, true), (16, true), (17, true), (18, true), (19, true), (20, true), (21, true), (22, true), (23, true), (24, true), (25, true), (26, true), (27, true)] (by kernel_rfl) (by kernel_rfl) (by kernel_rfl) (by kernel_rfl) ?_
      repeat (first | (refine wpO_F (v := ?_) rfl (by rfl) (fun w' hL => ?_) ?_; rotate_left; (solve | (go_simp; with_reducible rfl) | go_simp); try simp only [Act.put, List.setIfInBounds_toArray, List.set_cons_zero, List.set_cons_succ]) | (refine wpO_G rfl (by rfl) ?_; try simp only [Act.put, List.setIfInBounds_toArray, List.set_cons_zero, List.set_cons_succ]))
      refine wpO_nil ?_
      go_wp2
      go_ret
      exact ⟨rfl, (Below.refl _ _).drew⟩
    · have q1 : decide (s < lf) = false := by simpa using h1
      by_cases h2 : s + 1 + lo ≤ q
      · have q2 : decide ((s : Int) + 1 + (lo : Int) ≤ (q : Int)) = true := by rw [decide_eq_true_iff]; omega
        have q3 : decide (s + 1 + lo ≤ q) = true := by simpa using h2
        rw [q1, q3, Bool.false_or]
        clear h2 hw1 hw2
        have hw1 : IntKind.i64.wrap ((s : Int) + 1) = (s : Int) + 1 := IntWalk.i64_in _ ⟨by omega, by omega⟩
        have hw2 : IntKind.i64.wrap ((s : Int) + 1 + (lo : Int)) = (s : Int) + 1 + (lo : Int) := IntWalk.i64_in _ ⟨by omega, by omega⟩
        go_enter Try.func51, Try.ntmps51
        go_wp2_with fail
        refine wp_region_ord [(0, true), (1, true), (2, true), (3, true), (4, true), (5, true), (6, true), (7, true), (8, true), (9, true), (10, true), (11, true), (12, true), (13, true), (14, true), (15, true), (16, true), (17, true), (18, true), (19, true), (20, true), (21, true), (22, true), (23, true), (24, true), (25, true), (26, true), (27, true)] (by kernel_rfl) (by kernel_rfl) (by kernel_rfl) (by kernel_rfl) ?_
        repeat (first | (refine wpO_F (v := ?_) rfl (by rfl) (fun w' hL => ?_) ?_; rotate_left; (solve | (go_simp; with_reducible rfl) | go_simp); try simp only [Act.put, List.setIfInBounds_toArray, List.set_cons_zero, List.set_cons_succ]) | (refine wpO_G rfl (by rfl) ?_; try simp only [Act.put, List.setIfInBounds_toArray, List.set_cons_zero, List.set_cons_succ]))
        refine wpO_nil ?_
        go_wp2
        go_ret
        exact ⟨rfl, (Below.refl _ _).drew⟩
      · have q2 : decide ((s : Int) + 1 + (lo : Int) ≤ (q : Int)) = false := by rw [decide_eq_false_iff_not]; omega
        have q3 : decide (s + 1 + lo ≤ q) = false := by simpa using h2
        rw [q1, q3, Bool.false_or]
        clear h2
        go_enter Try.func51, Try.ntmps51
        go_wp2_with fail
        refine wp_region_ord [(0, true), (1, true), (2, true), (3, true), (4, true), (5, true), (6, true), (7, true), (8, true), (9, true), (10, true), (11, true), (12, true), (13, true), (14, true), (15, true), (16, true), (17, true), (18, true), (19, true), (20, true), (21, true), (22, true), (23, true), (24, true), (25, true), (26, true), (27, true)] (by kernel_rfl) (by kernel_rfl) (by kernel_rfl) (by kernel_rfl) ?_
        repeat (first | (refine wpO_F (v := ?_) rfl (by rfl) (fun w' hL => ?_) ?_; rotate_left; (solve | (go_simp; with_reducible rfl) | go_simp); try simp only [Act.put, List.setIfInBounds_toArray, List.set_cons_zero, List.set_cons_succ]) | (refine wpO_G rfl (by rfl) ?_; try simp only [Act.put, List.setIfInBounds_toArray, List.set_cons_zero, List.set_cons_succ]))
        refine wpO_nil ?_
        go_wp2
        go_ret
        exact ⟨rfl, (Below.refl _ _).drew⟩
  · have e3 : ∀ W, Later w.drew W → W.cell? ⟨B, 4, none⟩ = some (.int .i64 (lf : Int)) := fun W h => (Below.cell (p := ⟨B, 4, none⟩) h hlt).trans cf
    have e4 : ∀ W, Later w.drew W → W.cell? ⟨B, 3, none⟩ = some (.int .i64 (lo : Int)) := fun W h => (Below.cell (p := ⟨B, 3, none⟩) h hlt).trans co
    clear c1 cf co hf
    by_cases h1 : s < lf
    · have q1 : decide (s < lf) = true := by simpa using h1
      rw [q1, Bool.true_or]
      go_enter Try.func51, Try.ntmps51
      go_wp2_with fail
      refine wp_region_ord [(0, true), (1, true), (2, true), (3, true), (4, true), (5, true), (6, true), (7, true), (8, true), (9, true), (10, true), (11, true), (12, true), (13, true), (14, true), (15, true), (16, true), (17, true), (18, true), (19, true), (20, true), (21, true), (22, true), (23, true), (24, true), (25, true), (26, true), (27, true)] (by kernel_rfl) (by kernel_rfl) (by kernel_rfl) (by kernel_rfl) ?_
      repeat (first | (refine wpO_F (v := ?_) rfl (by rfl) (fun w' hL => ?_) ?_; rotate_left; (solve | (go_simp; with_reducible rfl) | go_simp); try simp only [Act.put, List.setIfInBounds_toArray, List.set_cons_zero, List.set_cons_succ]) | (refine wpO_G rfl (by rfl) ?_; try simp only [Act.put, List.setIfInBounds_toArray, List.set_cons_zero, List.set_cons_succ]))
      refine wpO_nil ?_
      go_wp2
      go_ret
      exact ⟨rfl, (Below.refl _ _).drew⟩
    · have q1 : decide (s < lf) = false := by simpa using h1
      by_cases h2 : s + 1 + lo ≤ q
      · have q2 : decide ((s : Int) + 1 + (lo : Int) ≤ (q : Int)) = true := by rw [decide_eq_true_iff]; omega
        have q3 : decide (s + 1 + lo ≤ q) = true := by simpa using h2
        rw [q1, q3, Bool.false_or]
        clear h2
        go_enter Try.func51, Try.ntmps51
        go_wp2_with fail
        refine wp_region_ord [(0, true), (1, true), (2, true), (3, true), (4, true), (5, true), (6, true), (7, true), (8, true), (9, true), (10, true), (11, true), (12, true), (13, true), (14, true), (15, true), (16, true), (17, true), (18, true), (19, true), (20, true), (21, true), (22, true), (23, true), (24, true), (25, true), (26, true), (27, true)] (by kernel_rfl) (by kernel_rfl) (by kernel_rfl) (by kernel_rfl) ?_
        repeat (first | (refine wpO_F (v := ?_) rfl (by rfl) (fun w' hL => ?_) ?_; rotate_left; (solve | (go_simp; with_reducible rfl) | go_simp); try simp only [Act.put, List.setIfInBounds_toArray, List.set_cons_zero, List.set_cons_succ]) | (refine wpO_G rfl (by rfl) ?_; try simp only [Act.put, List.setIfInBounds_toArray, List.set_cons_zero, List.set_cons_succ]))
        refine wpO_nil ?_
        go_wp2
        go_ret
        exact ⟨rfl, (Below.refl _ _).drew⟩
      · have q2 : decide ((s : Int) + 1 + (lo : Int) ≤ (q : Int)) = false := by rw [decide_eq_false_iff_not]; omega
        have q3 : decide (s + 1 + lo ≤ q) = false := by simpa using h2
        rw [q1, q3, Bool.false_or]
        clear h2
        go_enter Try.func51, Try.ntmps51
        go_wp2_with fail
        refine wp_region_ord [(0, true), (1, true), (2, true), (3, true), (4, true), (5, true), (6, true), (7, true), (8, true), (9, true), (10, true), (11, true), (12, true), (13, true), (14, true), (15, true), (16, true), (17, true), (18, true), (19, true), (20, true), (21, true), (22, true), (23, true), (24, true), (25, true), (26, true), (27, true)] (by kernel_rfl) (by kernel_rfl) (by kernel_rfl) (by kernel_rfl) ?_
        repeat (first | (refine wpO_F (v := ?_) rfl (by rfl) (fun w' hL => ?_) ?_; rotate_left; (solve | (go_simp; with_reducible rfl) | go_simp); try simp only [Act.put, List.setIfInBounds_toArray, List.set_cons_zero, List.set_cons_succ]) | (refine wpO_G rfl (by rfl) ?_; try simp only [Act.put, List.setIfInBounds_toArray, List.set_cons_zero, List.set_cons_succ]))
        refine wpO_nil ?_
        go_wp2
        go_ret
        exact ⟨rfl, (Below.refl _ _).drew⟩

theorem fits_any {w : World} {B Mv Md : Nat} {pv : Value} {d : DS} (h : DiskAt w B d Mv Md pv) (f s : Nat) (hf : f < 2) (hs : s ≤ 65535) :
    Calls Try.prog 51 #[.pointer (some ⟨B, 0, none⟩), .int .i64 (f : Int), .int .i64 (s : Int)] w fun e w' => e = .returned (.bool (d.fits f s)) ∧ Below w.heap.size w w' := by
  have h0 := h.ok.vis.len 0
  have h1 := h.ok.vis.len 1
  have hcases : f = 0 ∨ f = 1 := by omega
  rcases hcases with rfl | rfl
  · exact fits_cells w B 0 hf s (d.vis.len 0) (d.vis.len 1) d.quota hs h1 h.ok.quota.2 h.blk.lt h.cells.2.1 h.cells.2.2.2.1 h.cells.2.2.2.2.1
  · exact fits_cells w B 1 hf s (d.vis.len 1) (d.vis.len 0) d.quota hs h0 h.ok.quota.2 h.blk.lt h.cells.2.1 h.cells.2.2.2.2.1 h.cells.2.2.2.1
end Go.Proofs.Ytaggghfnbllbgaa
