/- Period: PeriodLists, walked. -/
import Derived.Test.YtockmoiekbhneaaPAlive
import Derived.Test.YtockmoiekbhneaaPRuns
import Derived.Test.YtockmoiekbhneaaPOpen
namespace Go.Proofs.Ytockmoiekbhneaa
open Go.RowKit

theorem runs_cut (s b : Int × Int) : runsL [s] [b] = cutS s b := Nrm.same (runsL_nrm _ _) (cutS_nrm _ _) fun p => by rw [runsL_pts, cutS_pts, Pts_cons, Pts_nil, Pts_cons, Pts_nil]; simp
theorem runs_union {l u : List (Int × Int)} (h : IsU l u) : runsL l [] = u := Nrm.same (runsL_nrm _ _) h.nrm fun p => by rw [runsL_pts, h.pts, Pts_nil]; simp
theorem one_at (z : List (Int × Int)) (k : Nat) (hk : k < z.length) : ((cellsT z).drop (k * 2)).take ((k + 1 - k) * 2) = cellsT [z[k]] := by
  have e : z = z.take k ++ z[k] :: z.drop (k + 1) := by rw [← List.drop_eq_getElem_cons hk, List.take_append_drop]
  have l1 : (cellsT (z.take k)).length = k * 2 := by rw [cellsT_len, List.length_take]; omega
  conv => lhs; rw [e]
  rw [cellsT_app, List.drop_left' l1, show k + 1 - k = 1 by omega]
  have e2 : cellsT (z[k] :: z.drop (k + 1)) = encS z[k] ++ cellsT (z.drop (k + 1)) := rfl
  rw [e2, List.take_left' (show (encS z[k]).length = 1 * 2 from rfl)]
  simp [cellsOf]
theorem sizeOf_rspan : ∀ w, (Go.sizeOf 32).run Try.prog w = .ok 2 w := by
  intro w
  obtain ⟨i, hi, _⟩ := info_parts info_rspan
  have := run_sizeOf (P := Try.prog) w hi
  rw [show Try.prog.cellsOf 32 = 2 from by kernel_rfl] at this
  exact this
theorem isU_len2 {l u : List (Int × Int)} (h : IsU l u) : u.length ≤ l.length + 1 := by
  obtain ⟨dd, hp, _, hj⟩ := h
  rw [hj]
  have h1 : dd.length = (validL l).length := hp.length_eq
  have h2 := validL_le l
  have h4 : (joinS dd).length ≤ dd.length + 1 := by
    cases dd with
    | nil => simp [joinS]
    | cons s r => exact Nat.le_trans (mrg_len r s) (by simp)
  omega

set_option maxRecDepth 100000 in
set_option maxHeartbeats 4000000 in
theorem lists_long (a0 : Option Addr) (len0 cap0 : Nat) (from1 to1 : Int) (w : World) (h : 30 < len0) :
    Calls Try.prog 4 #[.slice a0 len0 cap0, .agg #[.int .i64 from1, .int .i64 to1]] w fun e w' => e = .returned (.bool true) ∧ Below w.heap.size w w' := by
  have q0 : decide ((30 : Int) < (len0 : Int)) = true := by simp; omega
  go_enter Try.func4, Try.ntmps4
  go_wp2_with fail
  refine (alive14 _).mono ?_
  rintro e w1 ⟨rfl, hb⟩
  go_wp2
  go_ret
  exact ⟨rfl, ((Below.refl _ _).alloc (Nat.le_refl _) _).trans (hb.mono (by simp))⟩

set_option maxRecDepth 100000 in
set_option maxHeartbeats 8000000 in
theorem lists_way (a0 : Option Addr) (len0 cap0 : Nat) (z0 : List (Int × Int)) (from1 to1 : Int) (w : World) (h0 : SpansIn w a0 len0 cap0 z0) (hlen : len0 ≤ 30) :
    Calls Try.prog 4 #[.slice a0 len0 cap0, .agg #[.int .i64 from1, .int .i64 to1]] w fun e w' => e = .returned (.bool true) ∧ Below w.heap.size w w' := by
  obtain ⟨iP, hiP, hzP, hsP, hbP⟩ := info_parts info_rspan
  obtain ⟨hz, hlc, hcm, harr⟩ := h0
  have HZ := Lib.hid hz
  have K0 := Lib.hid (Blk.new w 23 #[.int .i64 from1, .int .i64 to1])
  have KB := Lib.hid ((Below.refl w.heap.size w).alloc (Nat.le_refl _) (.cells #[.int .i64 from1, .int .i64 to1] 23))
  have HA := Lib.hid (harr.later (N := 0) ((Below.refl w.heap.size w).alloc (Nat.le_refl _) (.cells #[.int .i64 from1, .int .i64 to1] 23)))
  have q0 : decide ((30 : Int) < (len0 : Int)) = false := by simp; omega
  clear hz harr
  go_enter Try.func4, Try.ntmps4
  go_wp2_with fail
  refine (as_any _ z0 a0 len0 cap0 _ HA.out (Nat.le_refl _) HZ.out (by omega)).mono ?_
  rintro e w1 ⟨mv, rfl, hown1, hb⟩
  obtain ⟨ma, mc, rfl, hmc, hmc2, hmA⟩ := own_arr hown1
  rw [← HZ.out] at hmc ⊢
  have HM := Lib.hid hmA
  replace HA := Lib.hid (HA.out.later (N := 0) hb)
  replace K0 := Lib.hid (K0.out.bel2 hb K0.out.lt)
  replace KB := Lib.hid (KB.out.trans (hb.mono KB.out.size))
  clear hb hown1 hmA
  have hw01 : w.heap.size < w1.heap.size := K0.out.lt
  go_wp2
  go_loopw [6, 7, 8] (fun v ap i wr => ∃ (k q : Nat) (a2 : Option Addr) (c2 : Nat), v = .slice a2 q c2 ∧ ap = .bool (apartTo z0 k) ∧ i = .int .i64 k ∧ k ≤ len0 ∧ q ≤ 2 * k ∧ Hid (q = (minusS (z0.take k) (from1, to1)).length) ∧ Hid (wr.ownsRow w1.heap.size 32 2 (.slice a2 q c2) q (cellsT (minusS (z0.take k) (from1, to1)))) ∧ Hid (Below w1.heap.size w1 wr)) (fun _ _ i _ => len0 - (intOf i).toNat)
  case atStart => exact ⟨0, 0, none, 0, rfl, rfl, rfl, by omega, by omega, rfl, World.ownsRow_nil _ _ _ _, Below.refl _ _⟩
  case round =>
    obtain ⟨k, q, a2, c2, rfl, rfl, rfl, hk, hq, HQ, HO, HB⟩ := hrel
    have hbw := HB.out.size
    by_cases hlt : k < len0
    · have hkl : k < z0.length := by have := HZ.out; omega
      obtain ⟨mb, mo, rfl, hmb, c0, c1⟩ := spanAt HM.out hkl
      obtain ⟨aw, hwA, hws⟩ := HM.out.window 24 32 2 Try.underlying24 sizeOf_rspan len0 mc k (k + 1) (by rw [cellsT_len, ← HZ.out]) (by omega) (by omega) hmc (by omega)
      rw [one_at z0 k hkl] at hwA
      have hs1 : ∀ W, (Instr.slice 24 (.slice (some ⟨mb, mo, none⟩) len0 mc) (some (.int .i64 (k : Int))) (some (.int .i64 (IntKind.i64.wrap ((k : Int) + 1)))) none).run Try.prog W = .ok (.slice aw 1 (mc - k)) W := by
        intro W
        have := hws W
        rw [show ((k + 1 : Nat) : Int) = IntKind.i64.wrap ((k : Int) + 1) by rw [IntWalk.i64_in _ ⟨by omega, by omega⟩]; omega, show k + 1 - k = 1 by omega] at this
        exact this
      have C0 := Lib.hid ((HB.out.cell (p := ⟨mb, mo + k * 2, none⟩) hmb).trans c0)
      have C1 := Lib.hid ((HB.out.cell (p := ⟨mb, mo + k * 2 + 1, none⟩) hmb).trans c1)
      have hget := List.getElem?_eq_getElem hkl
      have hS := take_snocS z0 k hkl
      have hAp := apartTo_succ z0 k
      obtain ⟨⟨f, t⟩, hft⟩ : ∃ x, x = z0[k] := ⟨_, rfl⟩
      rw [← hft] at C0 C1 hwA hget hS
      have HS : Hid (minusS (z0.take (k + 1)) (from1, to1) = minusS (z0.take k) (from1, to1) ++ cutS (f, t) (from1, to1)) := by show _ = _; rw [hS, minusS_snoc]
      have HWA := Lib.hid (hwA.below HB.out)
      have HGet := Lib.hid hget
      have HAp := Lib.hid hAp
      clear c0 c1 hft hget hwA hws hS hAp
      have hbS : w.heap.size ∉ (Value.slice a2 q c2).ownBlock.toList := by
        intro hm
        rw [Option.mem_toList] at hm
        have := (World.ownsRow.lt HO.out _ hm).1
        omega
      have K1 := Lib.hid (K0.out.bel2 HB.out (by omega))
      have D : Hid (∀ W, Chg (Value.slice a2 q c2).ownBlock.toList wr.drew W → W.cell? ⟨w.heap.size, 0, none⟩ = some (.int .i64 from1) ∧ W.cell? ⟨w.heap.size, 1, none⟩ = some (.int .i64 to1)) := by
        intro W hW
        exact ⟨(hW.undrew.cell (by omega) hbS).trans (K1.out.cell 0), (hW.undrew.cell (by omega) hbS).trans (K1.out.cell 1)⟩
      have d0 : ∀ W, Chg (Value.slice a2 q c2).ownBlock.toList wr.drew W → W.cell? ⟨w.heap.size, 0, none⟩ = some (.int .i64 from1) := fun W h => (D.out W h).1
      have d1 : ∀ W, Chg (Value.slice a2 q c2).ownBlock.toList wr.drew W → W.cell? ⟨w.heap.size, 1, none⟩ = some (.int .i64 to1) := fun W h => (D.out W h).2
      have hA1 := Lib.hid (arr_new1 wr.drew 23 from1 to1)
      have HOa := Lib.hid (World.ownsRow.alloc (w := wr.drew) HO.out (.cells #[.int .i64 from1, .int .i64 to1] 23))
      have HBa := Lib.hid ((HB.out.drew.alloc (show w1.heap.size ≤ wr.drew.heap.size by exact hbw) (.cells #[.int .i64 from1, .int .i64 to1] 23)))
      have HWa := Lib.hid ((show Arr w1.heap.size wr.drew aw (cellsT [(f, t)]) from HWA.out).below (N := w1.heap.size) ((Below.refl w1.heap.size wr.drew).alloc (show w1.heap.size ≤ wr.drew.heap.size by exact hbw) (.cells #[.int .i64 from1, .int .i64 to1] 23)))
      clear HO HWA K1 hbS
      go_wp2_with fail
      refine wp_region_ordS (Value.slice a2 q c2).ownBlock.toList [(0, true), (1, true), (2, true), (3, true), (4, true), (5, true), (6, true), (7, false), (8, false), (9, false), (10, false), (11, true)] (by kernel_rfl) (by kernel_rfl) (by kernel_rfl) (by kernel_rfl) ?_
      repeat (first | (refine wpO_F (v := ?_) rfl (by rfl) (fun w' hL => ?_) ?_; rotate_left; (solve | (go_simp; with_reducible rfl) | go_simp); try simp only [Act.put, List.setIfInBounds_toArray, List.set_cons_zero, List.set_cons_succ]) | (refine wpO_G' (Chg.refl _) rfl (by rfl) ?_; try simp only [Act.put, List.setIfInBounds_toArray, List.set_cons_zero, List.set_cons_succ]))
      refine wpO_C rfl (by rfl) ?_
      go_simp
      refine ⟨(Chg.refl _ _).alloc _, ?_⟩
      try simp only [Act.put, List.setIfInBounds_toArray, List.set_cons_zero, List.set_cons_succ]
      clear d0 d1
      refine wpO_C rfl (by rfl) ?_
      go_simp
      refine (as_any _ [(from1, to1)] (some ⟨wr.heap.size, 0, none⟩) 1 1 _ hA1.out (by simp) rfl (by omega)).mono ?_
      rintro e w2 ⟨yv, rfl, hown2, hb2⟩
      refine ⟨Below.chg0 hb2 _, ?_⟩
      try simp only [Act.put, List.setIfInBounds_toArray, List.set_cons_zero, List.set_cons_succ]
      obtain ⟨ya, yc, rfl, _, _, hyA⟩ := own_arr hown2
      have HYA := Lib.hid hyA
      have HOb := Lib.hid (own_below HOa.out (Nat.le_refl _) hb2)
      have HBb := Lib.hid (HBa.out.trans (hb2.mono (by simp; omega)))
      have HWb := Lib.hid (HWa.out.below (hb2.mono (by simp; omega)))
      clear hown2 hyA hb2 HOa HBa HWa hA1
      have hw2 : w1.heap.size ≤ w2.heap.size := HBb.out.size
      refine wpO_C rfl (by rfl) ?_
      go_simp
      refine (runs_any _ [(f, t)] [(from1, to1)] aw 1 (mc - k) ya 1 yc w2 (HWb.out.mono hw2) HYA.out (Nat.le_refl _) rfl rfl (by omega) (by omega)).mono ?_
      rintro e w3 ⟨rv, rfl, hown3, hb3⟩
      refine ⟨Below.chg0 hb3 _, ?_⟩
      try simp only [Act.put, List.setIfInBounds_toArray, List.set_cons_zero, List.set_cons_succ]
      rw [runs_cut] at hown3
      obtain ⟨ra, rc, rfl, _, _, hrA⟩ := own_arr hown3
      have HRA := Lib.hid hrA
      have HOc := Lib.hid (own_below HOb.out (Nat.le_refl _) hb3)
      have HBc := Lib.hid (HBb.out.trans (hb3.mono hw2))
      have HCl := Lib.hid (cutS_le (f, t) (from1, to1))
      obtain ⟨j, hj⟩ : ∃ j, j = (cutS (f, t) (from1, to1)).length := ⟨_, rfl⟩
      rw [← hj] at HCl ⊢
      have HJ := Lib.hid hj
      have hj2 : j ≤ 2 := HCl.out
      clear hown3 hrA hb3 HOb HBb HWb HYA hj HCl
      have hw3 : w1.heap.size ≤ w3.heap.size := HBc.out.size
      refine wpO_C rfl (by rfl) ?_
      refine wp_appS (.tmp 21) (.tmp 30) 24 rfl w1.heap.size 32 iP (.agg #[.int .i64 0, .int .i64 0]) 2 16 Try.underlying24 hiP hzP rfl hsP (by omega) hbP (by omega) (.slice a2 q c2) q _ _ HOc.out rfl _ ra j rc _ HRA.out (by rw [cellsT_len, HJ.out]) (one_T _) rfl (by omega) hw3 ?_
      intro v6 x6 h6 hc6 hb6
      refine ⟨hc6, ?_⟩
      try simp only [Act.put, List.setIfInBounds_toArray, List.set_cons_zero, List.set_cons_succ]
      obtain ⟨a6, c6, rfl, _, _, _⟩ := own_slice h6
      have H6 := Lib.hid h6
      have HB6 := Lib.hid (HBc.out.trans hb6)
      clear h6 hc6 hb6 HOc HBc HRA
      repeat (first | (refine wpO_F (v := ?_) rfl (by rfl) (fun w' hL => ?_) ?_; rotate_left; (solve | (go_simp; with_reducible rfl) | go_simp); try simp only [Act.put, List.setIfInBounds_toArray, List.set_cons_zero, List.set_cons_succ]) | (refine wpO_G' (Chg.refl _) rfl (by rfl) ?_; try simp only [Act.put, List.setIfInBounds_toArray, List.set_cons_zero, List.set_cons_succ]))
      refine wpO_nil ?_
      have hb6 : w1.heap.size ≤ x6.heap.size := HB6.out.size
      have E0 := Lib.hid ((HB6.out.drew.cell (p := ⟨mb, mo + k * 2, none⟩) hmb).trans ((HB.out.cell (p := ⟨mb, mo + k * 2, none⟩) hmb).symm.trans C0.out))
      have E1 := Lib.hid ((HB6.out.drew.cell (p := ⟨mb, mo + k * 2 + 1, none⟩) hmb).trans ((HB.out.cell (p := ⟨mb, mo + k * 2 + 1, none⟩) hmb).symm.trans C1.out))
      have d0 : ∀ W, Later x6.drew W → W.cell? ⟨mb, mo + k * 2, none⟩ = some (.int .i64 f) := fun W hW => (hW.cell (p := ⟨mb, mo + k * 2, none⟩) (by show mb < x6.heap.size; omega)).trans E0.out
      have d1 : ∀ W, Later x6.drew W → W.cell? ⟨mb, mo + k * 2 + 1, none⟩ = some (.int .i64 t) := fun W hW => (hW.cell (p := ⟨mb, mo + k * 2 + 1, none⟩) (by show mb < x6.heap.size; omega)).trans E1.out
      have HRel : Hid (∀ r : Bool, (apartTo z0 k && okAt z0 k) = r → (∃ (k' q' : Nat) (a2' : Option Addr) (c2' : Nat), Value.slice a6 (q + j) c6 = .slice a2' q' c2' ∧ Value.bool r = .bool (apartTo z0 k') ∧ Value.int .i64 ((k : Int) + 1) = .int .i64 k' ∧ k' ≤ len0 ∧ q' ≤ 2 * k' ∧ Hid (q' = (minusS (z0.take k') (from1, to1)).length) ∧ Hid (x6.drew.ownsRow w1.heap.size 32 2 (.slice a2' q' c2') q' (cellsT (minusS (z0.take k') (from1, to1)))) ∧ Hid (Below w1.heap.size w1 x6.drew))) := by
        intro r hr
        refine ⟨k + 1, q + j, a6, c6, rfl, by rw [HAp.out, hr], by go_num, by omega, by omega, ?_, ?_, HB6.out.drew⟩
        · show _ = _; rw [HS.out, List.length_append, ← HQ.out, ← HJ.out]
        · show World.ownsRow _ _ _ _ _ _ _; rw [HS.out, cellsT_app]; exact H6.out
      have HOk0 : Hid (k = 0 → okAt z0 k = decide (f < t)) := by
        intro e
        have h1 := HGet.out
        rw [e] at h1 ⊢
        exact okAt_zero h1
      have HOkn : Hid (¬ f < t → okAt z0 k = false) := by
        intro e
        unfold okAt rightB; rw [HGet.out]; simp; omega
      have HOk1 : Hid (∀ pf pt, z0[k - 1]? = some (pf, pt) → 0 < k → okAt z0 k = (decide (f < t) && decide (pt ≤ f))) := by
        intro pf pt hp h0
        have e : k = (k - 1) + 1 := by omega
        have h1 := HGet.out
        rw [e] at h1
        rw [e]
        exact okAt_succ h1 hp
      obtain ⟨A, hA⟩ : ∃ A, A = apartTo z0 k := ⟨_, rfl⟩
      rw [← hA] at HRel ⊢
      clear HS HAp HQ HJ HB C0 C1 hs1 hA HGet H6
      cases A
      · have HR := Lib.hid (HRel.out false (by simp))
        clear HRel HOk0 HOkn HOk1
        go_wp2_with fail
        refine wp_region_ord [(0, true), (1, true), (2, true), (3, true), (4, true), (5, true), (6, true), (7, true), (8, true), (9, true), (10, true), (11, true), (12, true), (13, true), (14, true), (15, true), (16, true), (17, true), (18, true), (19, true), (20, true), (21, true), (22, true), (23, true), (24, true), (25, true), (26, true), (27, true), (28, true), (29, true), (30, true), (31, true), (32, true)] (by kernel_rfl) (by kernel_rfl) (by kernel_rfl) (by kernel_rfl) ?_
        repeat (first | (refine wpO_F (v := ?_) rfl (by rfl) (fun w' hL => ?_) ?_; rotate_left; (solve | (go_simp; with_reducible rfl) | go_simp); try simp only [Act.put, List.setIfInBounds_toArray, List.set_cons_zero, List.set_cons_succ]) | (refine wpO_G rfl (by rfl) ?_; try simp only [Act.put, List.setIfInBounds_toArray, List.set_cons_zero, List.set_cons_succ]))
        refine wpO_nil ?_
        clear d0 d1
        go_wp2
        go_roundw
        case rel => exact HR.out
        case measure => simp [intOf]; omega
      · by_cases hr : f < t
        · by_cases h0 : 0 < k
          · have hkl1 : k - 1 < z0.length := by omega
            obtain ⟨_, _, he, _, eu, e1⟩ := spanAt HM.out hkl1
            simp only [Option.some.injEq, Addr.mk.injEq, and_true] at he
            obtain ⟨rfl, rfl⟩ := he
            have hgp := List.getElem?_eq_getElem hkl1
            obtain ⟨⟨pf, pt⟩, hp⟩ : ∃ x, x = z0[k - 1] := ⟨_, rfl⟩
            rw [← hp] at e1 hgp
            simp only at e1
            have HR := Lib.hid (HRel.out (decide (pt ≤ f)) (by rw [HOk1.out pf pt hgp h0]; simp [hr]))
            have E2 := Lib.hid ((HB6.out.drew.cell (p := ⟨mb, mo + (k - 1) * 2 + 1, none⟩) hmb).trans e1)
            have d2 : ∀ W, Later x6.drew W → W.cell? ⟨mb, mo + (k - 1) * 2 + 1, none⟩ = some (.int .i64 pt) := fun W hW => (hW.cell (p := ⟨mb, mo + (k - 1) * 2 + 1, none⟩) (by show mb < x6.heap.size; omega)).trans E2.out
            have b0 : IntKind.i64.wrap ((k : Int) - 1) = ((k - 1 : Nat) : Int) := by rw [IntWalk.i64_in _ ⟨by omega, by omega⟩]; omega
            have b1 : k - 1 < len0 := by omega
            have b2 : ((k : Int) == 0) = false := by simp; omega
            have b3 : (k == 0) = false := by simp; omega
            have b4 : decide (f < t) = true := by simpa using hr
            clear HRel HOk0 HOkn HOk1 e1 eu hgp hp hkl1
            go_wp2_with fail
            refine wp_region_ord [(0, true), (1, true), (2, true), (3, true), (4, true), (5, true), (6, true), (7, true), (8, true), (9, true), (10, true), (11, true), (12, true), (13, true), (14, true), (15, true), (16, true), (17, true), (18, true), (19, true), (20, true), (21, true), (22, true), (23, true), (24, true), (25, true), (26, true), (27, true), (28, true), (29, true), (30, true), (31, true), (32, true)] (by kernel_rfl) (by kernel_rfl) (by kernel_rfl) (by kernel_rfl) ?_
            repeat (first | (refine wpO_F (v := ?_) rfl (by rfl) (fun w' hL => ?_) ?_; rotate_left; (solve | (go_simp; with_reducible rfl) | go_simp); try simp only [Act.put, List.setIfInBounds_toArray, List.set_cons_zero, List.set_cons_succ]) | (refine wpO_G rfl (by rfl) ?_; try simp only [Act.put, List.setIfInBounds_toArray, List.set_cons_zero, List.set_cons_succ]))
            refine wpO_nil ?_
            clear d0 d1 d2 b0 b2 b3
            go_wp2
            go_roundw
            case rel => exact HR.out
            case measure => simp [intOf]; omega
          · have HR := Lib.hid (HRel.out true (by rw [HOk0.out (by omega)]; simpa using hr))
            have b2 : ((k : Int) == 0) = true := by simp; omega
            have b3 : (k == 0) = true := by simp; omega
            have b4 : decide (f < t) = true := by simpa using hr
            clear HRel HOk0 HOkn HOk1
            go_wp2_with fail
            refine wp_region_ord [(0, true), (1, true), (2, true), (3, true), (4, true), (5, true), (6, true), (7, true), (8, true), (9, true), (10, true), (11, true), (12, true), (13, true), (14, true), (15, true), (16, true), (17, true), (18, true), (19, true), (20, true), (21, true), (22, true), (23, true), (24, true), (25, true), (26, true), (27, true), (28, true), (29, true), (30, true), (31, true), (32, true)] (by kernel_rfl) (by kernel_rfl) (by kernel_rfl) (by kernel_rfl) ?_
            repeat (first | (refine wpO_F (v := ?_) rfl (by rfl) (fun w' hL => ?_) ?_; rotate_left; (solve | (go_simp; with_reducible rfl) | go_simp); try simp only [Act.put, List.setIfInBounds_toArray, List.set_cons_zero, List.set_cons_succ]) | (refine wpO_G rfl (by rfl) ?_; try simp only [Act.put, List.setIfInBounds_toArray, List.set_cons_zero, List.set_cons_succ]))
            refine wpO_nil ?_
            clear d0 d1 b2 b3
            go_wp2
            go_roundw
            case rel => exact HR.out
            case measure => simp [intOf]; omega
        · have HR := Lib.hid (HRel.out false (by rw [HOkn.out hr]; simp))
          have b4 : decide (f < t) = false := by simpa using hr
          clear HRel HOk0 HOkn HOk1
          go_wp2_with fail
          refine wp_region_ord [(0, true), (1, true), (2, true), (3, true), (4, true), (5, true), (6, true), (7, true), (8, true), (9, true), (10, true), (11, true), (12, true), (13, true), (14, true), (15, true), (16, true), (17, true), (18, true), (19, true), (20, true), (21, true), (22, true), (23, true), (24, true), (25, true), (26, true), (27, true), (28, true), (29, true), (30, true), (31, true), (32, true)] (by kernel_rfl) (by kernel_rfl) (by kernel_rfl) (by kernel_rfl) ?_
          repeat (first | (refine wpO_F (v := ?_) rfl (by rfl) (fun w' hL => ?_) ?_; rotate_left; (solve | (go_simp; with_reducible rfl) | go_simp); try simp only [Act.put, List.setIfInBounds_toArray, List.set_cons_zero, List.set_cons_succ]) | (refine wpO_G rfl (by rfl) ?_; try simp only [Act.put, List.setIfInBounds_toArray, List.set_cons_zero, List.set_cons_succ]))
          refine wpO_nil ?_
          clear d0 d1
          go_wp2
          go_roundw
          case rel => exact HR.out
          case measure => simp [intOf]; omega
    · obtain rfl : k = len0 := by omega
      have hkl : z0.take k = z0 := List.take_of_length_le (by have := HZ.out; omega)
      rw [hkl] at HQ HO
      obtain ⟨_, _, he, _, _, hMi⟩ := own_slice HO.out
      simp only [Value.slice.injEq, true_and] at he
      obtain ⟨rfl, rfl⟩ := he
      have HMi := Lib.hid hMi
      replace HA := Lib.hid (HA.out.later (N := 0) HB.out)
      replace HM := Lib.hid (HM.out.later (N := 0) HB.out)
      replace K0 := Lib.hid (K0.out.bel2 HB.out K0.out.lt)
      replace KB := Lib.hid (KB.out.trans (HB.out.mono KB.out.size))
      have hap : apartTo z0 k = apartTo z0 z0.length := by rw [← HZ.out]
      rw [hap]
      obtain ⟨A, hA⟩ : ∃ A, A = apartTo z0 z0.length := ⟨_, rfl⟩
      rw [← hA]
      have HAp := Lib.hid hA
      clear HO HB hkl hMi hap hA hlt hbw
      have hself : ∀ l : List (Int × Int), sameB l l = true := fun l => by unfold sameB; simp
      have HSelf := Lib.hid hself
      clear hself
      go_wp2_with fail
      refine (alive14 _).mono ?_
      rintro e v1 ⟨rfl, hb⟩
      replace HA := Lib.hid (HA.out.later (N := 0) hb)
      replace HM := Lib.hid (HM.out.later (N := 0) hb)
      replace K0 := Lib.hid (K0.out.bel2 hb K0.out.lt)
      replace KB := Lib.hid (KB.out.trans (hb.mono KB.out.size))
      replace HMi := Lib.hid (HMi.out.later (N := 0) hb)
      clear hb
      go_wp2_with fail
      refine (union_any _ z0 a0 k cap0 _ HA.out (Nat.le_refl _) HZ.out (by omega)).mono ?_
      rintro e v2 ⟨u, vu, hu, rfl, hown, hb⟩
      obtain ⟨ua, uc, rfl, _, _, huA⟩ := own_arr hown
      have HUl := Lib.hid (isU_len2 hu)
      have HU := Lib.hid hu
      have HUA := Lib.hid huA
      replace HA := Lib.hid (HA.out.later (N := 0) hb)
      replace HM := Lib.hid (HM.out.later (N := 0) hb)
      replace K0 := Lib.hid (K0.out.bel2 hb K0.out.lt)
      replace KB := Lib.hid (KB.out.trans (hb.mono KB.out.size))
      replace HMi := Lib.hid (HMi.out.later (N := 0) hb)
      clear hb hown huA hu
      go_wp2_with fail
      refine (runs_any _ z0 [] ma k mc none 0 0 _ HM.out (.inl rfl) (Nat.le_refl _) HZ.out rfl (by omega) (by omega)).mono ?_
      rintro e v3 ⟨rv, rfl, hown, hb⟩
      rw [runs_union HU.out] at hown
      obtain ⟨ra, rc, rfl, _, _, hrA⟩ := own_arr hown
      have HRA := Lib.hid hrA
      replace HUA := Lib.hid (HUA.out.later (N := 0) hb)
      replace HA := Lib.hid (HA.out.later (N := 0) hb)
      replace HM := Lib.hid (HM.out.later (N := 0) hb)
      replace K0 := Lib.hid (K0.out.bel2 hb K0.out.lt)
      replace KB := Lib.hid (KB.out.trans (hb.mono KB.out.size))
      replace HMi := Lib.hid (HMi.out.later (N := 0) hb)
      clear hb hown hrA HU
      go_wp2_with fail
      refine (same_any _ u u ua _ uc ra _ rc _ HUA.out HRA.out (Nat.le_refl _) rfl rfl (by have := HUl.out; have := HZ.out; omega) (by have := HUl.out; have := HZ.out; omega)).mono ?_
      rintro e v4 ⟨rfl, hb⟩
      rw [HSelf.out]
      replace HA := Lib.hid (HA.out.later (N := 0) hb)
      replace HM := Lib.hid (HM.out.later (N := 0) hb)
      replace K0 := Lib.hid (K0.out.bel2 hb K0.out.lt)
      replace KB := Lib.hid (KB.out.trans (hb.mono KB.out.size))
      replace HMi := Lib.hid (HMi.out.later (N := 0) hb)
      have y0 : v4.cell? ⟨w.heap.size, 0, none⟩ = some (.int .i64 from1) := K0.out.cell 0
      have y1 : v4.cell? ⟨w.heap.size, 1, none⟩ = some (.int .i64 to1) := K0.out.cell 1
      have y2 : w.heap.size < v4.heap.size := K0.out.lt
      clear hb HUA HRA HUl
      go_wp2_with fail
      clear y0 y1 y2
      refine (minus_any _ z0 a0 k cap0 from1 to1 _ HA.out (Nat.le_refl _) HZ.out (by omega)).mono ?_
      rintro e v5 ⟨nv, rfl, hown, hb⟩
      obtain ⟨na, nc, rfl, _, _, hnA⟩ := own_arr hown
      have HNA := Lib.hid hnA
      replace HA := Lib.hid (HA.out.later (N := 0) hb)
      replace HM := Lib.hid (HM.out.later (N := 0) hb)
      replace K0 := Lib.hid (K0.out.bel2 hb K0.out.lt)
      replace KB := Lib.hid (KB.out.trans (hb.mono KB.out.size))
      replace HMi := Lib.hid (HMi.out.later (N := 0) hb)
      have HQ2 : Hid ((minusS z0 (from1, to1)).length ≤ 1000) := by show _ ≤ _; rw [← HQ.out]; omega
      clear hb hown hnA
      go_wp2_with fail
      refine (same_any _ (minusS z0 (from1, to1)) (minusS z0 (from1, to1)) na _ nc a2 q c2 _ HNA.out HMi.out (Nat.le_refl _) rfl HQ.out (by have := HQ2.out; omega) (by omega)).mono ?_
      rintro e v6 ⟨rfl, hb⟩
      rw [HSelf.out]
      replace HA := Lib.hid (HA.out.later (N := 0) hb)
      replace HM := Lib.hid (HM.out.later (N := 0) hb)
      replace K0 := Lib.hid (K0.out.bel2 hb K0.out.lt)
      replace KB := Lib.hid (KB.out.trans (hb.mono KB.out.size))
      replace HMi := Lib.hid (HMi.out.later (N := 0) hb)
      clear hb HNA HMi HQ2 HQ
      go_wp2_with fail
      refine (apart_any _ z0 a0 k cap0 _ HA.out (Nat.le_refl _) HZ.out (by omega)).mono ?_
      rintro e v7 ⟨rfl, hb⟩
      rw [← HAp.out]
      replace HA := Lib.hid (HA.out.later (N := 0) hb)
      replace HM := Lib.hid (HM.out.later (N := 0) hb)
      replace K0 := Lib.hid (K0.out.bel2 hb K0.out.lt)
      replace KB := Lib.hid (KB.out.trans (hb.mono KB.out.size))
      clear hb
      cases A
      all_goals
        go_wp2_with fail
        refine (same_any _ z0 z0 a0 k cap0 ma k mc _ HA.out HM.out (Nat.le_refl _) HZ.out HZ.out (by omega) (by omega)).mono ?_
        rintro e v8 ⟨rfl, hb⟩
        rw [HSelf.out]
        replace KB := Lib.hid (KB.out.trans (hb.mono KB.out.size))
        go_wp2
        go_ret
        exact ⟨rfl, KB.out⟩
end Go.Proofs.Ytockmoiekbhneaa
