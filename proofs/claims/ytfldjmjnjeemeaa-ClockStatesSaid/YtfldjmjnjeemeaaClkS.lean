/- Clock: ClockStates, walked. -/
import Derived.Test.YtfldjmjnjeemeaaClkB
import Derived.Test.YtfldjmjnjeemeaaClkR2
namespace Go.Proofs.Ytfldjmjnjeemeaa
open Go.RowKit

theorem cellsU_byL (l : List Nat) : cellsU l = (byL l).toList := by simp [cellsU, byL, byV]
theorem blk_bs {w : World} {B : Nat} {T : TypeId} {b : List Nat} (h : Blk w B T (byL b)) (hb : ∀ c ∈ b, c < 256) : Bs w.heap.size w (some ⟨B, 0, none⟩) b := by
  refine ⟨hb, .inr ⟨B, 0, rfl, h.lt, fun i c hi => ?_⟩⟩
  rw [Nat.zero_add, h.cell, byL]
  simp [hi, byV]

set_option maxRecDepth 100000 in
set_option maxHeartbeats 4000000 in
theorem clockStates_walk (a0 a1 last2 root2 : Int) (l3 : List Nat) (w : World) (w0 : (Lit.int .i64 a0).wf = true) (w1 : (Lit.int .i64 a1).wf = true) (w20 : (Lit.int .i64 last2).wf = true) (n3 : l3.length = 64) (w3 : ∀ c ∈ l3, c < 256) :
    Calls Try.prog 3 #[.int .i64 a0, .int .i64 a1, .agg #[.int .i64 last2, .int .i64 root2], .agg (byL l3)] w fun e w' => e = .returned (.bool true) ∧ Below w.heap.size w w' := by
  have hb0 := bd_i64 w0
  have hb1 := bd_i64 w1
  have hlb := bd_i64 w20
  have HN3 := Lib.hid n3
  have HW3 := Lib.hid w3
  have HZ := Lib.hid zero64
  have HK0 := Lib.hid ((Blk.new w 23 #[.int .i64 last2, .int .i64 root2]).alloc (.cells (byL l3) 24))
  have hk1 := Blk.new (w.alloc (.cells #[.int .i64 last2, .int .i64 root2] 23)) 24 (byL l3)
  rw [show (w.alloc (.cells #[.int .i64 last2, .int .i64 root2] 23)).heap.size = w.heap.size + 1 by simp] at hk1
  have HK1 := Lib.hid hk1
  have HKB : Hid (Below w.heap.size w ((w.alloc (.cells #[.int .i64 last2, .int .i64 root2] 23)).alloc (.cells (byL l3) 24))) := ((Below.refl _ _).alloc (Nat.le_refl _) _).alloc (by simp) _
  obtain ⟨⟨nx, ne⟩, hn⟩ : ∃ p, p = nxt a0 a1 := ⟨_, rfl⟩
  have HNx := Lib.hid hn
  obtain ⟨⟨wb, we⟩, hw⟩ : ∃ p, p = wrS last2 root2 := ⟨_, rfl⟩
  have HWr := Lib.hid hw
  have hwl : wb.length = 64 := by have := wrS_len2 last2 root2; rw [← hw] at this; exact this
  have hwt : ∀ c ∈ wb, c < 256 := by have := wrS_lt2 last2 root2; rw [← hw] at this; exact this
  have HWt := Lib.hid hwt
  obtain ⟨⟨⟨x, y⟩, z⟩, hr⟩ : ∃ r, r = rdS l3 := ⟨_, rfl⟩
  have HRd := Lib.hid hr
  clear hk1 n3 w3 w0 w1 w20 hn hw hr hwt
  go_enter Try.func3, Try.ntmps3
  go_wp2_with fail
  refine (CNext_any a0 a1 _ hb0 hb1).mono ?_; rintro e v1 ⟨he, rfl⟩
  rw [← HNx.out] at he; subst he
  go_wp2_with fail
  refine (RNext_any a0 a1 _ hb0 hb1).mono ?_; rintro e v1 ⟨he, rfl⟩
  rw [← HNx.out] at he; subst he
  go_wp2_with fail
  refine (CWrite_any last2 root2 _ hlb).mono ?_
  rintro e v1 ⟨rfl, hb1⟩
  rw [← HWr.out]
  have k0 := (Blk.alloc (HK0.out.bel2 hb1 (by first | (simp; done) | (simp; omega))) (.cells (byL wb) 24))
  have k1 := (Blk.alloc (HK1.out.bel2 hb1 (by first | (simp; done) | (simp; omega))) (.cells (byL wb) 24))
  have k13 := Blk.new v1 24 (byL wb)
  have hvs : w.heap.size + 1 < v1.heap.size := by have := hb1.size; simp at this; omega
  have kb := Below.alloc ((HKB.out.trans (hb1.mono (by simp; omega)))) (by omega) (.cells (byL wb) 24)
  have HS1 := Lib.hid (store64n v1 (l := wb) z64_len hwl)
  have c0 : (v1.alloc (.cells (byL wb) 24)).cell? ⟨w.heap.size, 0, none⟩ = some (.int .i64 last2) := k0.cell 0
  have c1 : (v1.alloc (.cells (byL wb) 24)).cell? ⟨w.heap.size, 1, none⟩ = some (.int .i64 root2) := k0.cell 1
  have d0 : v1.cell? ⟨w.heap.size, 0, none⟩ = some (.int .i64 last2) := (HK0.out.bel2 hb1 (by first | (simp; done) | (simp; omega))).cell 0
  have d1 : v1.cell? ⟨w.heap.size, 1, none⟩ = some (.int .i64 root2) := (HK0.out.bel2 hb1 (by first | (simp; done) | (simp; omega))).cell 1
  have K1 := Lib.hid k1
  have K13 := Lib.hid k13
  have KB := Lib.hid kb
  clear hb1 k0 k1 k13 kb HK0 HK1 HKB
  go_wp2_with (first | (guard_target =~ wpList _ _ _ (Oper.mk _ (Op.alloc 24) _ _ _ _ :: _) _ _; refine wpList_val rfl (exec_alloc (e := 24) rfl HZ.out) ?_) | (guard_target =~ wpList _ _ _ (Oper.mk _ (Op.store 24 _ _) _ _ _ _ :: _) _ _; refine wpList_skp rfl (exec_store rfl rfl rfl HS1.out) ?_))
  clear c0 c1 d0 d1
  refine (RWr_any last2 root2 _ hlb).mono ?_
  rintro e v2 ⟨v, he, hown, hb2⟩
  rw [← HWr.out] at he hown
  subst he
  obtain ⟨a15, c15, rfl, hc15, _, harr⟩ := own_slice hown
  have HA15 := Lib.hid harr
  generalize hV1 : v1.alloc (.cells (byL wb) 24) = V1 at *
  have hvl : w.heap.size + 1 < V1.heap.size := K1.out.lt
  have k1 := K1.out.bel2 hb2 K1.out.lt
  replace K1 := Lib.hid k1
  replace K13 := Lib.hid (K13.out.bel2 hb2 K13.out.lt)
  replace KB := Lib.hid (KB.out.trans (hb2.mono KB.out.size))
  have HL7 := Lib.hid (load64 k1 HN3.out)
  clear hb2 hown harr hV1 k1 HS1
  go_wp2_with (first | (guard_target =~ wpList _ _ _ (Oper.mk _ (Op.load 24 _) _ _ _ _ :: _) _ _; refine wpList_loadV rfl 24 _ rfl rfl HL7.out ?_))
  refine (CRead_any l3 _ HN3.out HW3.out).mono ?_
  rintro e v3 ⟨he, hb3⟩
  rw [← HRd.out] at he
  subst he
  have hvl3 : w.heap.size + 1 < v3.heap.size := by have := K1.out.lt; have := hb3.size; omega
  replace K1 := Lib.hid ((K1.out.bel2 hb3 K1.out.lt).alloc (.cells #[.int .i64 x, .int .i64 y] 23))
  replace K13 := Lib.hid ((K13.out.bel2 hb3 K13.out.lt).alloc (.cells #[.int .i64 x, .int .i64 y] 23))
  replace KB := Lib.hid ((KB.out.trans (hb3.mono KB.out.size)).alloc (by omega) (.cells #[.int .i64 x, .int .i64 y] 23))
  replace HA15 := Lib.hid (((HA15.out.later (N := 0) hb3).later (N := 0) ((Below.refl _ _).alloc (Nat.le_refl _) (.cells #[.int .i64 x, .int .i64 y] 23))))
  have K17 := Lib.hid (Blk.new v3 23 #[.int .i64 x, .int .i64 y])
  clear hb3 HL7
  go_wp2_with fail
  refine (RRd_any l3 (some ⟨w.heap.size + 1, 0, none⟩) 64 _ (blk_bs K1.out HW3.out) HN3.out (by omega)).mono ?_
  rintro e v4 ⟨he, hb4⟩
  rw [← HRd.out] at he
  subst he
  generalize hV3 : v3.alloc (.cells #[.int .i64 x, .int .i64 y] 23) = V3 at *
  replace K13 := Lib.hid (K13.out.bel2 hb4 K13.out.lt)
  replace K17 := Lib.hid (K17.out.bel2 hb4 K17.out.lt)
  replace KB := Lib.hid (KB.out.trans (hb4.mono KB.out.size))
  replace HA15 := Lib.hid (HA15.out.later (N := 0) hb4)
  clear hb4 hV3 K1
  go_wp2_with fail
  refine wp_region_ord [(0, false), (1, true), (2, true), (3, true), (4, true), (5, true), (6, true), (7, true), (8, true), (9, true), (10, true), (11, true), (12, true), (13, true), (14, true), (15, true), (16, true), (17, true), (18, true), (19, true), (20, true), (21, true), (22, true), (23, true), (24, true), (25, true), (26, true), (27, true), (28, true), (29, true), (30, true), (31, true), (32, true), (33, true), (34, true), (35, true), (36, true), (37, true), (38, true), (39, true), (40, true)] (by kernel_rfl) (by kernel_rfl) (by kernel_rfl) (by kernel_rfl) ?_
  refine wpO_C rfl (by rfl) ?_
  go_simp
  refine (alive13 _).mono ?_
  rintro e v5 ⟨rfl, hb5⟩
  refine ⟨hb5, ?_⟩
  try simp only [Act.put, List.setIfInBounds_toArray, List.set_cons_zero, List.set_cons_succ]
  have hb5' : Below v4.heap.size v4 v5 := ⟨hb5.os, hb5.tape, hb5.output, hb5.size, hb5.block⟩
  have k13 := K13.out.bel2 hb5' K13.out.lt
  have k17 := K17.out.bel2 hb5' K17.out.lt
  have hbs := blk_bs k13 HWt.out
  have hbs2 := cellsU_bs (HA15.out.later (N := 0) hb5') HWt.out
  have e1 : ∀ W, Later v5 W → (convert 30 9 (.slice (some ⟨v1.heap.size, 0, none⟩) 64 64)).run Try.prog W = .ok (.string (strN wb)) W := fun W hW =>
    (hbs.below hW).conv 30 5 Try.underlying30 Try.underlying5 9 Try.underlying9 64 64 hwl.symm
  have e2 : ∀ W, Later v5 W → (convert 30 9 (.slice a15 64 c15)).run Try.prog W = .ok (.string (strN wb)) W := fun W hW =>
    (hbs2.below hW).conv 30 5 Try.underlying30 Try.underlying5 9 Try.underlying9 64 c15 hwl.symm
  have e3 : ∀ W, Later v5 W → W.cell? ⟨v3.heap.size, 0, none⟩ = some (.int .i64 x) := fun W hW => (Below.cell (p := ⟨v3.heap.size, 0, none⟩) hW k17.lt).trans (k17.cell 0)
  have e4 : ∀ W, Later v5 W → W.cell? ⟨v3.heap.size, 1, none⟩ = some (.int .i64 y) := fun W hW => (Below.cell (p := ⟨v3.heap.size, 1, none⟩) hW k17.lt).trans (k17.cell 1)
  have HEnd := Lib.hid (KB.out.trans (hb5'.mono KB.out.size))
  clear hb5 hb5' k13 k17 hbs hbs2 K13 K17 KB HA15
  repeat (first | (refine wpO_F (v := ?_) rfl (by rfl) (fun w' hL => ?_) ?_; rotate_left; (solve | (go_simp; with_reducible rfl) | go_simp); try simp only [Act.put, List.setIfInBounds_toArray, List.set_cons_zero, List.set_cons_succ]) | (refine wpO_G rfl (by rfl) ?_; try simp only [Act.put, List.setIfInBounds_toArray, List.set_cons_zero, List.set_cons_succ]))
  refine wpO_nil ?_
  clear e1 e2 e3 e4
  go_wp2
  go_ret
  exact ⟨rfl, HEnd.out⟩
end Go.Proofs.Ytfldjmjnjeemeaa
