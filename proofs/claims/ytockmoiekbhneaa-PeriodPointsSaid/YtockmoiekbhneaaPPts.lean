/- Period: PeriodPoints, walked. -/
import Derived.Test.YtockmoiekbhneaaPAlive
import Derived.Test.YtockmoiekbhneaaPPtsM
import Derived.Test.YtockmoiekbhneaaPOpen
namespace Go.Proofs.Ytockmoiekbhneaa
open Go.RowKit

theorem minus_len (b : Int × Int) : ∀ l : List (Int × Int), (minusS l b).length ≤ 2 * l.length
  | [] => by simp [minusS]
  | s :: r => by
    have e : minusS (s :: r) b = cutS s b ++ minusS r b := rfl
    rw [e, List.length_append, List.length_cons]
    have := cutS_le s b
    have := minus_len b r
    omega

set_option maxRecDepth 100000 in
set_option maxHeartbeats 4000000 in
theorem pts_long (from0 to0 from1 to1 : Int) (a2 : Option Addr) (len2 cap2 : Nat) (a3 : Int) (w : World) (h : 60 < len2) :
    Calls Try.prog 5 #[.agg #[.int .i64 from0, .int .i64 to0], .agg #[.int .i64 from1, .int .i64 to1], .slice a2 len2 cap2, .int .i64 a3] w fun e w' => e = .returned (.bool true) ∧ Below w.heap.size w w' := by
  have q0 : decide ((60 : Int) < (len2 : Int)) = true := by simp; omega
  go_enter Try.func5, Try.ntmps5
  go_wp2_with fail
  refine (alive14 _).mono ?_
  rintro e w1 ⟨rfl, hb⟩
  go_wp2
  go_ret
  exact ⟨rfl, (((Below.refl _ _).alloc (Nat.le_refl _) _).alloc (by simp) _).trans (hb.mono (by simp; omega))⟩

set_option maxRecDepth 100000 in
set_option maxHeartbeats 4000000 in
theorem pts_way (from0 to0 from1 to1 : Int) (a2 : Option Addr) (len2 cap2 : Nat) (z2 : List (Int × Int)) (a3 : Int) (w : World) (h2 : SpansIn w a2 len2 cap2 z2) (hlen : len2 ≤ 60) (hs hb0 : Bool) (hHs : hasB (from0, to0) a3 = hs) (hHb : hasB (from1, to1) a3 = hb0)  :
    Calls Try.prog 5 #[.agg #[.int .i64 from0, .int .i64 to0], .agg #[.int .i64 from1, .int .i64 to1], .slice a2 len2 cap2, .int .i64 a3] w fun e w' => e = .returned (.bool true) ∧ Below w.heap.size w w' := by
  obtain ⟨hz, hlc, hcm, harr⟩ := h2
  have HZ := Lib.hid hz
  have HHs := Lib.hid hHs
  have HHb := Lib.hid hHb
  obtain ⟨⟨⟨bx, by_⟩, bs⟩, hbo⟩ : ∃ r, r = bothS (from0, to0) (from1, to1) := ⟨_, rfl⟩
  have hbh := both_has (from0, to0) (from1, to1) a3
  rw [← hbo, hHs, hHb] at hbh
  have hn := cnt_cut (from0, to0) (from1, to1) a3
  rw [hHs, hHb] at hn
  obtain ⟨uN, hu⟩ : ∃ uN : Int, ((if anyB z2 a3 then 1 else 0 : Nat) : Int) = uN := ⟨_, rfl⟩
  obtain ⟨mN, hm⟩ : ∃ mN : Int, ((if hasB (from1, to1) a3 then 0 else cnt z2 a3 : Nat) : Int) = mN := ⟨_, rfl⟩
  obtain ⟨cN, hc⟩ : ∃ cN : Nat, cnt z2 a3 = cN := ⟨_, rfl⟩
  have huc : (uN = 1 ∧ 0 < cN) ∨ (uN = 0 ∧ cN = 0) := by
    rw [← hu, ← hc]
    rcases cnt_any z2 a3 with ⟨h1, h2⟩ | ⟨h1, h2⟩
    · left; rw [h1]; exact ⟨rfl, h2⟩
    · right; rw [h1]; exact ⟨rfl, h2⟩
  have hmc : mN = if hb0 then 0 else (cN : Int) := by
    rw [← hm, hHb, hc]; cases hb0 <;> rfl
  have HUN := Lib.hid hu
  have HMN := Lib.hid hm
  have HCN := Lib.hid hc
  have HBoth0 := Lib.hid hbo
  have K0 := Lib.hid ((Blk.new w 23 #[.int .i64 from0, .int .i64 to0]).alloc (.cells #[.int .i64 from1, .int .i64 to1] 23))
  have hk1 := Blk.new (w.alloc (.cells #[.int .i64 from0, .int .i64 to0] 23)) 23 #[.int .i64 from1, .int .i64 to1]
  rw [show (w.alloc (.cells #[.int .i64 from0, .int .i64 to0] 23)).heap.size = w.heap.size + 1 by simp] at hk1
  have K1 := Lib.hid hk1
  have KB := Lib.hid (((Below.refl w.heap.size w).alloc (Nat.le_refl _) (.cells #[.int .i64 from0, .int .i64 to0] 23)).alloc (by simp) (.cells #[.int .i64 from1, .int .i64 to1] 23))
  have HA := Lib.hid ((harr.later (N := 0) ((Below.refl w.heap.size w).alloc (Nat.le_refl _) (.cells #[.int .i64 from0, .int .i64 to0] 23))).later (N := 0) ((Below.refl _ (w.alloc (.cells #[.int .i64 from0, .int .i64 to0] 23))).alloc (Nat.le_refl _) (.cells #[.int .i64 from1, .int .i64 to1] 23)))
  have q0 : decide ((60 : Int) < (len2 : Int)) = false := by simp; omega
  clear hz harr hHs hHb hu hm hc hk1
  cases hs <;> cases hb0 <;> cases bs
  all_goals simp only [Bool.true_and, Bool.false_and, Bool.and_true, Bool.and_false, Bool.not_true, Bool.not_false, if_true, if_false, Bool.false_eq_true] at hn hbh hmc
  all_goals try (exact absurd hbh (by decide))
  · -- s has it: F, by has it: F, they overlap: F
    have HN : Hid (((cnt (cutS (from0, to0) (from1, to1)) a3 : Nat) : Int) = 0) := by show _ = _; rw [hn]; rfl
    have HBoth : Hid (bothS (from0, to0) (from1, to1) = ((bx, by_), false)) := HBoth0.out.symm
    clear hn hbh HBoth0
    subst hmc
    rcases huc with ⟨rfl, hcN⟩ | ⟨rfl, rfl⟩
    all_goals
      go_enter Try.func5, Try.ntmps5
      go_wp2_with fail
      refine (cut_any from0 to0 from1 to1 _).mono ?_
      rintro e w1 ⟨v1, he, hown, hb⟩
      rw [HBoth.out] at he
      subst he
      obtain ⟨ca, cc, rfl, _, _, hcA⟩ := own_arr hown
      have k0 := K0.out.bel2 hb K0.out.lt
      have k1 := K1.out.bel2 hb K1.out.lt
      have ka := HA.out.later (N := 0) hb
      have kb := KB.out.trans (hb.mono KB.out.size)
      have hz1 := k1.lt
      replace K0 := Lib.hid (k0.alloc (.cells #[.int .i64 bx, .int .i64 by_] 23))
      replace K1 := Lib.hid (k1.alloc (.cells #[.int .i64 bx, .int .i64 by_] 23))
      have K2 := Lib.hid (Blk.new w1 23 #[.int .i64 bx, .int .i64 by_])
      replace HA := Lib.hid (ka.later (N := 0) ((Below.refl w1.heap.size w1).alloc (Nat.le_refl _) (.cells #[.int .i64 bx, .int .i64 by_] 23)))
      have HCA := Lib.hid (hcA.later (N := 0) ((Below.refl w1.heap.size w1).alloc (Nat.le_refl _) (.cells #[.int .i64 bx, .int .i64 by_] 23)))
      replace KB := Lib.hid (kb.alloc (by omega) (.cells #[.int .i64 bx, .int .i64 by_] 23))
      have HCL : Hid (cc = cc) := rfl
      clear hown hcA k0 k1 ka kb hb
      go_wp2_with fail
      refine (count_any _ (cutS (from0, to0) (from1, to1)) ca _ cc a3 _ HCA.out (Nat.le_refl _) rfl (Nat.le_trans (cutS_le _ _) (by omega))).mono ?_
      rintro e w2 ⟨rfl, hb⟩
      rw [HN.out]
      clear HCA
      generalize hX : w1.alloc (.cells #[.int .i64 bx, .int .i64 by_] 23) = X1 at *
      replace K0 := Lib.hid (K0.out.bel2 hb K0.out.lt)
      replace K1 := Lib.hid (K1.out.bel2 hb K1.out.lt)
      replace K2 := Lib.hid (K2.out.bel2 hb K2.out.lt)
      replace HA := Lib.hid (HA.out.later (N := 0) hb)
      replace KB := Lib.hid (KB.out.trans (hb.mono KB.out.size))
      have hz := K1.out.lt
      clear hb
      clear hX
      have cK00 : w2.cell? ⟨w.heap.size, 0, none⟩ = some (.int .i64 from0) := K0.out.cell 0
      have cK01 : w2.cell? ⟨w.heap.size, 1, none⟩ = some (.int .i64 to0) := K0.out.cell 1
      go_wp2_with fail
      clear cK00 cK01
      refine (PHas_any from0 to0 a3 _).mono ?_
      rintro e w4 ⟨rfl, hb⟩
      rw [HHs.out]
      replace K0 := Lib.hid (K0.out.bel2 hb K0.out.lt)
      replace K1 := Lib.hid (K1.out.bel2 hb K1.out.lt)
      replace HA := Lib.hid (HA.out.later (N := 0) hb)
      replace KB := Lib.hid (KB.out.trans (hb.mono KB.out.size))
      have hz := K1.out.lt
      clear hb
      have d0 : ∀ W, Later w4.drew W → W.cell? ⟨w.heap.size + 1, 0, none⟩ = some (.int .i64 from1) := fun W hW => (Below.cell (p := ⟨w.heap.size + 1, 0, none⟩) ((Below.refl w4.heap.size w4).drew.trans hW) K1.out.lt).trans (K1.out.cell 0)
      have d1 : ∀ W, Later w4.drew W → W.cell? ⟨w.heap.size + 1, 1, none⟩ = some (.int .i64 to1) := fun W hW => (Below.cell (p := ⟨w.heap.size + 1, 1, none⟩) ((Below.refl w4.heap.size w4).drew.trans hW) K1.out.lt).trans (K1.out.cell 1)
      go_wp2_with fail
      refine wp_region_ord [(0, true), (2, true), (4, true), (5, true), (7, true), (1, false), (3, false), (6, false), (8, false), (9, true), (10, true)] (by kernel_rfl) (by kernel_rfl) (by kernel_rfl) (by kernel_rfl) ?_
      repeat (first | (refine wpO_F (v := ?_) rfl (by rfl) (fun w' hL => ?_) ?_; rotate_left; (solve | (go_simp; with_reducible rfl) | go_simp); try simp only [Act.put, List.setIfInBounds_toArray, List.set_cons_zero, List.set_cons_succ]) | (refine wpO_G rfl (by rfl) ?_; try simp only [Act.put, List.setIfInBounds_toArray, List.set_cons_zero, List.set_cons_succ]))
      clear d0 d1
      refine wpO_C rfl (by rfl) ?_
      go_simp
      refine (union_any w4.heap.size z2 a2 len2 cap2 w4.drew (show Arr w4.heap.size w4.drew a2 (cellsT z2) from HA.out) (Nat.le_refl _) HZ.out (by omega)).mono ?_
      rintro e w5 ⟨u, vu, hu, rfl, hown5, hb5⟩
      refine ⟨hb5, ?_⟩
      try simp only [Act.put, List.setIfInBounds_toArray, List.set_cons_zero, List.set_cons_succ]
      obtain ⟨ua, uc, rfl, _, _, huA⟩ := own_arr hown5
      have HUA := Lib.hid huA
      have HU := Lib.hid hu
      have hul : u.length ≤ 1000000 := by
        obtain ⟨dd, hp, _, hj⟩ := hu
        rw [hj]
        have h1 : dd.length = (validL z2).length := hp.length_eq
        have h2 := validL_le z2
        have h3 := HZ.out
        have h4 : (joinS dd).length ≤ dd.length + 1 := by
          cases dd with
          | nil => simp [joinS]
          | cons s r => exact Nat.le_trans (mrg_len r s) (by simp)
        omega
      have hb : Below w4.heap.size w4 w5 := ⟨hb5.os, hb5.tape, hb5.output, hb5.size, hb5.block⟩
      replace K0 := Lib.hid (K0.out.bel2 hb K0.out.lt)
      replace K1 := Lib.hid (K1.out.bel2 hb K1.out.lt)
      replace HA := Lib.hid (HA.out.later (N := 0) hb)
      replace KB := Lib.hid (KB.out.trans (hb.mono KB.out.size))
      have hz := K1.out.lt
      clear hb
      clear hown5 hb5 huA hu
      have d0 : ∀ W, Later w5 W → W.cell? ⟨w.heap.size + 1, 0, none⟩ = some (.int .i64 from1) := fun W hW => (Below.cell (p := ⟨w.heap.size + 1, 0, none⟩) hW K1.out.lt).trans (K1.out.cell 0)
      have d1 : ∀ W, Later w5 W → W.cell? ⟨w.heap.size + 1, 1, none⟩ = some (.int .i64 to1) := fun W hW => (Below.cell (p := ⟨w.heap.size + 1, 1, none⟩) hW K1.out.lt).trans (K1.out.cell 1)
      repeat (first | (refine wpO_F (v := ?_) rfl (by rfl) (fun w' hL => ?_) ?_; rotate_left; (solve | (go_simp; with_reducible rfl) | go_simp); try simp only [Act.put, List.setIfInBounds_toArray, List.set_cons_zero, List.set_cons_succ]) | (refine wpO_G rfl (by rfl) ?_; try simp only [Act.put, List.setIfInBounds_toArray, List.set_cons_zero, List.set_cons_succ]))
      clear d0 d1
      refine wpO_C rfl (by rfl) ?_
      go_simp
      refine (count_any _ u ua _ uc a3 _ HUA.out (Nat.le_refl _) rfl hul).mono ?_
      rintro e w6 ⟨rfl, hb⟩
      refine ⟨hb, ?_⟩
      try simp only [Act.put, List.setIfInBounds_toArray, List.set_cons_zero, List.set_cons_succ]
      have hun := HUN.out
      rw [← cnt_union HU.out a3] at hun
      rw [hun]
      clear hun
      clear HUA HU hul
      replace K0 := Lib.hid (K0.out.bel2 hb K0.out.lt)
      replace K1 := Lib.hid (K1.out.bel2 hb K1.out.lt)
      replace HA := Lib.hid (HA.out.later (N := 0) hb)
      replace KB := Lib.hid (KB.out.trans (hb.mono KB.out.size))
      have hz := K1.out.lt
      clear hb
      have d0 : ∀ W, Later w6 W → W.cell? ⟨w.heap.size + 1, 0, none⟩ = some (.int .i64 from1) := fun W hW => (Below.cell (p := ⟨w.heap.size + 1, 0, none⟩) hW K1.out.lt).trans (K1.out.cell 0)
      have d1 : ∀ W, Later w6 W → W.cell? ⟨w.heap.size + 1, 1, none⟩ = some (.int .i64 to1) := fun W hW => (Below.cell (p := ⟨w.heap.size + 1, 1, none⟩) hW K1.out.lt).trans (K1.out.cell 1)
      repeat (first | (refine wpO_F (v := ?_) rfl (by rfl) (fun w' hL => ?_) ?_; rotate_left; (solve | (go_simp; with_reducible rfl) | go_simp); try simp only [Act.put, List.setIfInBounds_toArray, List.set_cons_zero, List.set_cons_succ]) | (refine wpO_G rfl (by rfl) ?_; try simp only [Act.put, List.setIfInBounds_toArray, List.set_cons_zero, List.set_cons_succ]))
      clear d0 d1
      refine wpO_C rfl (by rfl) ?_
      go_simp
      refine (minus_any w6.heap.size z2 a2 len2 cap2 from1 to1 w6 HA.out (Nat.le_refl _) HZ.out (by omega)).mono ?_
      rintro e w7 ⟨vm, rfl, hown7, hb⟩
      refine ⟨hb, ?_⟩
      try simp only [Act.put, List.setIfInBounds_toArray, List.set_cons_zero, List.set_cons_succ]
      obtain ⟨ma, mc, rfl, _, _, hmA⟩ := own_arr hown7
      have HMA := Lib.hid hmA
      have hml : (minusS z2 (from1, to1)).length ≤ 1000000 := by have := minus_len (from1, to1) z2; have := HZ.out; omega
      clear hown7 hmA
      replace K0 := Lib.hid (K0.out.bel2 hb K0.out.lt)
      replace K1 := Lib.hid (K1.out.bel2 hb K1.out.lt)
      replace HA := Lib.hid (HA.out.later (N := 0) hb)
      replace KB := Lib.hid (KB.out.trans (hb.mono KB.out.size))
      have hz := K1.out.lt
      clear hb
      repeat (first | (refine wpO_F (v := ?_) rfl (by rfl) (fun w' hL => ?_) ?_; rotate_left; (solve | (go_simp; with_reducible rfl) | go_simp); try simp only [Act.put, List.setIfInBounds_toArray, List.set_cons_zero, List.set_cons_succ]) | (refine wpO_G rfl (by rfl) ?_; try simp only [Act.put, List.setIfInBounds_toArray, List.set_cons_zero, List.set_cons_succ]))
      refine wpO_C rfl (by rfl) ?_
      go_simp
      refine (count_any _ (minusS z2 (from1, to1)) ma _ mc a3 _ HMA.out (Nat.le_refl _) rfl hml).mono ?_
      rintro e w8 ⟨rfl, hb⟩
      refine ⟨hb, ?_⟩
      try simp only [Act.put, List.setIfInBounds_toArray, List.set_cons_zero, List.set_cons_succ]
      have hmn := HMN.out
      rw [← cnt_minus (from1, to1) a3 z2] at hmn
      rw [hmn]
      clear hmn
      clear HMA hml
      replace K0 := Lib.hid (K0.out.bel2 hb K0.out.lt)
      replace K1 := Lib.hid (K1.out.bel2 hb K1.out.lt)
      replace HA := Lib.hid (HA.out.later (N := 0) hb)
      replace KB := Lib.hid (KB.out.trans (hb.mono KB.out.size))
      have hz := K1.out.lt
      clear hb
      repeat (first | (refine wpO_F (v := ?_) rfl (by rfl) (fun w' hL => ?_) ?_; rotate_left; (solve | (go_simp; with_reducible rfl) | go_simp); try simp only [Act.put, List.setIfInBounds_toArray, List.set_cons_zero, List.set_cons_succ]) | (refine wpO_G rfl (by rfl) ?_; try simp only [Act.put, List.setIfInBounds_toArray, List.set_cons_zero, List.set_cons_succ]))
      refine wpO_nil ?_
      go_wp2_with fail
      refine (count_any _ z2 a2 len2 cap2 a3 _ HA.out (Nat.le_refl _) HZ.out (by omega)).mono ?_
      rintro e w9 ⟨rfl, hb⟩
      rw [HCN.out]
      replace K0 := Lib.hid (K0.out.bel2 hb K0.out.lt)
      replace K1 := Lib.hid (K1.out.bel2 hb K1.out.lt)
      replace HA := Lib.hid (HA.out.later (N := 0) hb)
      replace KB := Lib.hid (KB.out.trans (hb.mono KB.out.size))
      have hz := K1.out.lt
      clear hb
      have cK10 : w9.cell? ⟨w.heap.size + 1, 0, none⟩ = some (.int .i64 from1) := K1.out.cell 0
      have cK11 : w9.cell? ⟨w.heap.size + 1, 1, none⟩ = some (.int .i64 to1) := K1.out.cell 1
      go_wp2_with fail
      clear cK10 cK11
      refine (PHas_any from1 to1 a3 _).mono ?_
      rintro e w10 ⟨rfl, hb⟩
      rw [HHb.out]
      replace K0 := Lib.hid (K0.out.bel2 hb K0.out.lt)
      replace K1 := Lib.hid (K1.out.bel2 hb K1.out.lt)
      replace HA := Lib.hid (HA.out.later (N := 0) hb)
      replace KB := Lib.hid (KB.out.trans (hb.mono KB.out.size))
      have hz := K1.out.lt
      clear hb
      go_wp2_with fail
      refine (alive14 _).mono ?_
      rintro e w11 ⟨rfl, hb⟩
      replace K0 := Lib.hid (K0.out.bel2 hb K0.out.lt)
      replace K1 := Lib.hid (K1.out.bel2 hb K1.out.lt)
      replace HA := Lib.hid (HA.out.later (N := 0) hb)
      replace KB := Lib.hid (KB.out.trans (hb.mono KB.out.size))
      have hz := K1.out.lt
      clear hb
      go_wp2_with fail
      refine (count_any _ z2 a2 len2 cap2 a3 _ HA.out (Nat.le_refl _) HZ.out (by omega)).mono ?_
      rintro e w12 ⟨rfl, hb⟩
      rw [HCN.out]
      replace K0 := Lib.hid (K0.out.bel2 hb K0.out.lt)
      replace K1 := Lib.hid (K1.out.bel2 hb K1.out.lt)
      replace HA := Lib.hid (HA.out.later (N := 0) hb)
      replace KB := Lib.hid (KB.out.trans (hb.mono KB.out.size))
      have hz := K1.out.lt
      clear hb
      go_wp2
      go_ret
      exact ⟨rfl, KB.out⟩
  · -- s has it: F, by has it: F, they overlap: T
    have HN : Hid (((cnt (cutS (from0, to0) (from1, to1)) a3 : Nat) : Int) = 0) := by show _ = _; rw [hn]; rfl
    have HBoth : Hid (bothS (from0, to0) (from1, to1) = ((bx, by_), true)) := HBoth0.out.symm
    have HHB : Hid (hasB (bx, by_) a3 = false) := hbh
    clear hn hbh HBoth0
    subst hmc
    rcases huc with ⟨rfl, hcN⟩ | ⟨rfl, rfl⟩
    all_goals
      go_enter Try.func5, Try.ntmps5
      go_wp2_with fail
      refine (cut_any from0 to0 from1 to1 _).mono ?_
      rintro e w1 ⟨v1, he, hown, hb⟩
      rw [HBoth.out] at he
      subst he
      obtain ⟨ca, cc, rfl, _, _, hcA⟩ := own_arr hown
      have k0 := K0.out.bel2 hb K0.out.lt
      have k1 := K1.out.bel2 hb K1.out.lt
      have ka := HA.out.later (N := 0) hb
      have kb := KB.out.trans (hb.mono KB.out.size)
      have hz1 := k1.lt
      replace K0 := Lib.hid (k0.alloc (.cells #[.int .i64 bx, .int .i64 by_] 23))
      replace K1 := Lib.hid (k1.alloc (.cells #[.int .i64 bx, .int .i64 by_] 23))
      have K2 := Lib.hid (Blk.new w1 23 #[.int .i64 bx, .int .i64 by_])
      replace HA := Lib.hid (ka.later (N := 0) ((Below.refl w1.heap.size w1).alloc (Nat.le_refl _) (.cells #[.int .i64 bx, .int .i64 by_] 23)))
      have HCA := Lib.hid (hcA.later (N := 0) ((Below.refl w1.heap.size w1).alloc (Nat.le_refl _) (.cells #[.int .i64 bx, .int .i64 by_] 23)))
      replace KB := Lib.hid (kb.alloc (by omega) (.cells #[.int .i64 bx, .int .i64 by_] 23))
      have HCL : Hid (cc = cc) := rfl
      clear hown hcA k0 k1 ka kb hb
      go_wp2_with fail
      refine (count_any _ (cutS (from0, to0) (from1, to1)) ca _ cc a3 _ HCA.out (Nat.le_refl _) rfl (Nat.le_trans (cutS_le _ _) (by omega))).mono ?_
      rintro e w2 ⟨rfl, hb⟩
      rw [HN.out]
      clear HCA
      generalize hX : w1.alloc (.cells #[.int .i64 bx, .int .i64 by_] 23) = X1 at *
      replace K0 := Lib.hid (K0.out.bel2 hb K0.out.lt)
      replace K1 := Lib.hid (K1.out.bel2 hb K1.out.lt)
      replace K2 := Lib.hid (K2.out.bel2 hb K2.out.lt)
      replace HA := Lib.hid (HA.out.later (N := 0) hb)
      replace KB := Lib.hid (KB.out.trans (hb.mono KB.out.size))
      have hz := K1.out.lt
      clear hb
      clear hX
      have cK20 : w2.cell? ⟨w1.heap.size, 0, none⟩ = some (.int .i64 bx) := K2.out.cell 0
      have cK21 : w2.cell? ⟨w1.heap.size, 1, none⟩ = some (.int .i64 by_) := K2.out.cell 1
      go_wp2_with fail
      clear cK20 cK21
      refine (PHas_any bx by_ a3 _).mono ?_
      rintro e w3 ⟨rfl, hb⟩
      rw [HHB.out]
      replace K0 := Lib.hid (K0.out.bel2 hb K0.out.lt)
      replace K1 := Lib.hid (K1.out.bel2 hb K1.out.lt)
      replace HA := Lib.hid (HA.out.later (N := 0) hb)
      replace KB := Lib.hid (KB.out.trans (hb.mono KB.out.size))
      have hz := K1.out.lt
      clear hb
      have cK00 : w3.cell? ⟨w.heap.size, 0, none⟩ = some (.int .i64 from0) := K0.out.cell 0
      have cK01 : w3.cell? ⟨w.heap.size, 1, none⟩ = some (.int .i64 to0) := K0.out.cell 1
      go_wp2_with fail
      clear cK00 cK01
      refine (PHas_any from0 to0 a3 _).mono ?_
      rintro e w4 ⟨rfl, hb⟩
      rw [HHs.out]
      replace K0 := Lib.hid (K0.out.bel2 hb K0.out.lt)
      replace K1 := Lib.hid (K1.out.bel2 hb K1.out.lt)
      replace HA := Lib.hid (HA.out.later (N := 0) hb)
      replace KB := Lib.hid (KB.out.trans (hb.mono KB.out.size))
      have hz := K1.out.lt
      clear hb
      have d0 : ∀ W, Later w4.drew W → W.cell? ⟨w.heap.size + 1, 0, none⟩ = some (.int .i64 from1) := fun W hW => (Below.cell (p := ⟨w.heap.size + 1, 0, none⟩) ((Below.refl w4.heap.size w4).drew.trans hW) K1.out.lt).trans (K1.out.cell 0)
      have d1 : ∀ W, Later w4.drew W → W.cell? ⟨w.heap.size + 1, 1, none⟩ = some (.int .i64 to1) := fun W hW => (Below.cell (p := ⟨w.heap.size + 1, 1, none⟩) ((Below.refl w4.heap.size w4).drew.trans hW) K1.out.lt).trans (K1.out.cell 1)
      go_wp2_with fail
      refine wp_region_ord [(0, true), (2, true), (4, true), (5, true), (7, true), (1, false), (3, false), (6, false), (8, false), (9, true), (10, true)] (by kernel_rfl) (by kernel_rfl) (by kernel_rfl) (by kernel_rfl) ?_
      repeat (first | (refine wpO_F (v := ?_) rfl (by rfl) (fun w' hL => ?_) ?_; rotate_left; (solve | (go_simp; with_reducible rfl) | go_simp); try simp only [Act.put, List.setIfInBounds_toArray, List.set_cons_zero, List.set_cons_succ]) | (refine wpO_G rfl (by rfl) ?_; try simp only [Act.put, List.setIfInBounds_toArray, List.set_cons_zero, List.set_cons_succ]))
      clear d0 d1
      refine wpO_C rfl (by rfl) ?_
      go_simp
      refine (union_any w4.heap.size z2 a2 len2 cap2 w4.drew (show Arr w4.heap.size w4.drew a2 (cellsT z2) from HA.out) (Nat.le_refl _) HZ.out (by omega)).mono ?_
      rintro e w5 ⟨u, vu, hu, rfl, hown5, hb5⟩
      refine ⟨hb5, ?_⟩
      try simp only [Act.put, List.setIfInBounds_toArray, List.set_cons_zero, List.set_cons_succ]
      obtain ⟨ua, uc, rfl, _, _, huA⟩ := own_arr hown5
      have HUA := Lib.hid huA
      have HU := Lib.hid hu
      have hul : u.length ≤ 1000000 := by
        obtain ⟨dd, hp, _, hj⟩ := hu
        rw [hj]
        have h1 : dd.length = (validL z2).length := hp.length_eq
        have h2 := validL_le z2
        have h3 := HZ.out
        have h4 : (joinS dd).length ≤ dd.length + 1 := by
          cases dd with
          | nil => simp [joinS]
          | cons s r => exact Nat.le_trans (mrg_len r s) (by simp)
        omega
      have hb : Below w4.heap.size w4 w5 := ⟨hb5.os, hb5.tape, hb5.output, hb5.size, hb5.block⟩
      replace K0 := Lib.hid (K0.out.bel2 hb K0.out.lt)
      replace K1 := Lib.hid (K1.out.bel2 hb K1.out.lt)
      replace HA := Lib.hid (HA.out.later (N := 0) hb)
      replace KB := Lib.hid (KB.out.trans (hb.mono KB.out.size))
      have hz := K1.out.lt
      clear hb
      clear hown5 hb5 huA hu
      have d0 : ∀ W, Later w5 W → W.cell? ⟨w.heap.size + 1, 0, none⟩ = some (.int .i64 from1) := fun W hW => (Below.cell (p := ⟨w.heap.size + 1, 0, none⟩) hW K1.out.lt).trans (K1.out.cell 0)
      have d1 : ∀ W, Later w5 W → W.cell? ⟨w.heap.size + 1, 1, none⟩ = some (.int .i64 to1) := fun W hW => (Below.cell (p := ⟨w.heap.size + 1, 1, none⟩) hW K1.out.lt).trans (K1.out.cell 1)
      repeat (first | (refine wpO_F (v := ?_) rfl (by rfl) (fun w' hL => ?_) ?_; rotate_left; (solve | (go_simp; with_reducible rfl) | go_simp); try simp only [Act.put, List.setIfInBounds_toArray, List.set_cons_zero, List.set_cons_succ]) | (refine wpO_G rfl (by rfl) ?_; try simp only [Act.put, List.setIfInBounds_toArray, List.set_cons_zero, List.set_cons_succ]))
      clear d0 d1
      refine wpO_C rfl (by rfl) ?_
      go_simp
      refine (count_any _ u ua _ uc a3 _ HUA.out (Nat.le_refl _) rfl hul).mono ?_
      rintro e w6 ⟨rfl, hb⟩
      refine ⟨hb, ?_⟩
      try simp only [Act.put, List.setIfInBounds_toArray, List.set_cons_zero, List.set_cons_succ]
      have hun := HUN.out
      rw [← cnt_union HU.out a3] at hun
      rw [hun]
      clear hun
      clear HUA HU hul
      replace K0 := Lib.hid (K0.out.bel2 hb K0.out.lt)
      replace K1 := Lib.hid (K1.out.bel2 hb K1.out.lt)
      replace HA := Lib.hid (HA.out.later (N := 0) hb)
      replace KB := Lib.hid (KB.out.trans (hb.mono KB.out.size))
      have hz := K1.out.lt
      clear hb
      have d0 : ∀ W, Later w6 W → W.cell? ⟨w.heap.size + 1, 0, none⟩ = some (.int .i64 from1) := fun W hW => (Below.cell (p := ⟨w.heap.size + 1, 0, none⟩) hW K1.out.lt).trans (K1.out.cell 0)
      have d1 : ∀ W, Later w6 W → W.cell? ⟨w.heap.size + 1, 1, none⟩ = some (.int .i64 to1) := fun W hW => (Below.cell (p := ⟨w.heap.size + 1, 1, none⟩) hW K1.out.lt).trans (K1.out.cell 1)
      repeat (first | (refine wpO_F (v := ?_) rfl (by rfl) (fun w' hL => ?_) ?_; rotate_left; (solve | (go_simp; with_reducible rfl) | go_simp); try simp only [Act.put, List.setIfInBounds_toArray, List.set_cons_zero, List.set_cons_succ]) | (refine wpO_G rfl (by rfl) ?_; try simp only [Act.put, List.setIfInBounds_toArray, List.set_cons_zero, List.set_cons_succ]))
      clear d0 d1
      refine wpO_C rfl (by rfl) ?_
      go_simp
      refine (minus_any w6.heap.size z2 a2 len2 cap2 from1 to1 w6 HA.out (Nat.le_refl _) HZ.out (by omega)).mono ?_
      rintro e w7 ⟨vm, rfl, hown7, hb⟩
      refine ⟨hb, ?_⟩
      try simp only [Act.put, List.setIfInBounds_toArray, List.set_cons_zero, List.set_cons_succ]
      obtain ⟨ma, mc, rfl, _, _, hmA⟩ := own_arr hown7
      have HMA := Lib.hid hmA
      have hml : (minusS z2 (from1, to1)).length ≤ 1000000 := by have := minus_len (from1, to1) z2; have := HZ.out; omega
      clear hown7 hmA
      replace K0 := Lib.hid (K0.out.bel2 hb K0.out.lt)
      replace K1 := Lib.hid (K1.out.bel2 hb K1.out.lt)
      replace HA := Lib.hid (HA.out.later (N := 0) hb)
      replace KB := Lib.hid (KB.out.trans (hb.mono KB.out.size))
      have hz := K1.out.lt
      clear hb
      repeat (first | (refine wpO_F (v := ?_) rfl (by rfl) (fun w' hL => ?_) ?_; rotate_left; (solve | (go_simp; with_reducible rfl) | go_simp); try simp only [Act.put, List.setIfInBounds_toArray, List.set_cons_zero, List.set_cons_succ]) | (refine wpO_G rfl (by rfl) ?_; try simp only [Act.put, List.setIfInBounds_toArray, List.set_cons_zero, List.set_cons_succ]))
      refine wpO_C rfl (by rfl) ?_
      go_simp
      refine (count_any _ (minusS z2 (from1, to1)) ma _ mc a3 _ HMA.out (Nat.le_refl _) rfl hml).mono ?_
      rintro e w8 ⟨rfl, hb⟩
      refine ⟨hb, ?_⟩
      try simp only [Act.put, List.setIfInBounds_toArray, List.set_cons_zero, List.set_cons_succ]
      have hmn := HMN.out
      rw [← cnt_minus (from1, to1) a3 z2] at hmn
      rw [hmn]
      clear hmn
      clear HMA hml
      replace K0 := Lib.hid (K0.out.bel2 hb K0.out.lt)
      replace K1 := Lib.hid (K1.out.bel2 hb K1.out.lt)
      replace HA := Lib.hid (HA.out.later (N := 0) hb)
      replace KB := Lib.hid (KB.out.trans (hb.mono KB.out.size))
      have hz := K1.out.lt
      clear hb
      repeat (first | (refine wpO_F (v := ?_) rfl (by rfl) (fun w' hL => ?_) ?_; rotate_left; (solve | (go_simp; with_reducible rfl) | go_simp); try simp only [Act.put, List.setIfInBounds_toArray, List.set_cons_zero, List.set_cons_succ]) | (refine wpO_G rfl (by rfl) ?_; try simp only [Act.put, List.setIfInBounds_toArray, List.set_cons_zero, List.set_cons_succ]))
      refine wpO_nil ?_
      go_wp2_with fail
      refine (count_any _ z2 a2 len2 cap2 a3 _ HA.out (Nat.le_refl _) HZ.out (by omega)).mono ?_
      rintro e w9 ⟨rfl, hb⟩
      rw [HCN.out]
      replace K0 := Lib.hid (K0.out.bel2 hb K0.out.lt)
      replace K1 := Lib.hid (K1.out.bel2 hb K1.out.lt)
      replace HA := Lib.hid (HA.out.later (N := 0) hb)
      replace KB := Lib.hid (KB.out.trans (hb.mono KB.out.size))
      have hz := K1.out.lt
      clear hb
      have cK10 : w9.cell? ⟨w.heap.size + 1, 0, none⟩ = some (.int .i64 from1) := K1.out.cell 0
      have cK11 : w9.cell? ⟨w.heap.size + 1, 1, none⟩ = some (.int .i64 to1) := K1.out.cell 1
      go_wp2_with fail
      clear cK10 cK11
      refine (PHas_any from1 to1 a3 _).mono ?_
      rintro e w10 ⟨rfl, hb⟩
      rw [HHb.out]
      replace K0 := Lib.hid (K0.out.bel2 hb K0.out.lt)
      replace K1 := Lib.hid (K1.out.bel2 hb K1.out.lt)
      replace HA := Lib.hid (HA.out.later (N := 0) hb)
      replace KB := Lib.hid (KB.out.trans (hb.mono KB.out.size))
      have hz := K1.out.lt
      clear hb
      go_wp2_with fail
      refine (alive14 _).mono ?_
      rintro e w11 ⟨rfl, hb⟩
      replace K0 := Lib.hid (K0.out.bel2 hb K0.out.lt)
      replace K1 := Lib.hid (K1.out.bel2 hb K1.out.lt)
      replace HA := Lib.hid (HA.out.later (N := 0) hb)
      replace KB := Lib.hid (KB.out.trans (hb.mono KB.out.size))
      have hz := K1.out.lt
      clear hb
      go_wp2_with fail
      refine (count_any _ z2 a2 len2 cap2 a3 _ HA.out (Nat.le_refl _) HZ.out (by omega)).mono ?_
      rintro e w12 ⟨rfl, hb⟩
      rw [HCN.out]
      replace K0 := Lib.hid (K0.out.bel2 hb K0.out.lt)
      replace K1 := Lib.hid (K1.out.bel2 hb K1.out.lt)
      replace HA := Lib.hid (HA.out.later (N := 0) hb)
      replace KB := Lib.hid (KB.out.trans (hb.mono KB.out.size))
      have hz := K1.out.lt
      clear hb
      go_wp2
      go_ret
      exact ⟨rfl, KB.out⟩
  · -- s has it: F, by has it: T, they overlap: F
    have HN : Hid (((cnt (cutS (from0, to0) (from1, to1)) a3 : Nat) : Int) = 0) := by show _ = _; rw [hn]; rfl
    have HBoth : Hid (bothS (from0, to0) (from1, to1) = ((bx, by_), false)) := HBoth0.out.symm
    clear hn hbh HBoth0
    subst hmc
    rcases huc with ⟨rfl, hcN⟩ | ⟨rfl, rfl⟩
    all_goals
      go_enter Try.func5, Try.ntmps5
      go_wp2_with fail
      refine (cut_any from0 to0 from1 to1 _).mono ?_
      rintro e w1 ⟨v1, he, hown, hb⟩
      rw [HBoth.out] at he
      subst he
      obtain ⟨ca, cc, rfl, _, _, hcA⟩ := own_arr hown
      have k0 := K0.out.bel2 hb K0.out.lt
      have k1 := K1.out.bel2 hb K1.out.lt
      have ka := HA.out.later (N := 0) hb
      have kb := KB.out.trans (hb.mono KB.out.size)
      have hz1 := k1.lt
      replace K0 := Lib.hid (k0.alloc (.cells #[.int .i64 bx, .int .i64 by_] 23))
      replace K1 := Lib.hid (k1.alloc (.cells #[.int .i64 bx, .int .i64 by_] 23))
      have K2 := Lib.hid (Blk.new w1 23 #[.int .i64 bx, .int .i64 by_])
      replace HA := Lib.hid (ka.later (N := 0) ((Below.refl w1.heap.size w1).alloc (Nat.le_refl _) (.cells #[.int .i64 bx, .int .i64 by_] 23)))
      have HCA := Lib.hid (hcA.later (N := 0) ((Below.refl w1.heap.size w1).alloc (Nat.le_refl _) (.cells #[.int .i64 bx, .int .i64 by_] 23)))
      replace KB := Lib.hid (kb.alloc (by omega) (.cells #[.int .i64 bx, .int .i64 by_] 23))
      have HCL : Hid (cc = cc) := rfl
      clear hown hcA k0 k1 ka kb hb
      go_wp2_with fail
      refine (count_any _ (cutS (from0, to0) (from1, to1)) ca _ cc a3 _ HCA.out (Nat.le_refl _) rfl (Nat.le_trans (cutS_le _ _) (by omega))).mono ?_
      rintro e w2 ⟨rfl, hb⟩
      rw [HN.out]
      clear HCA
      generalize hX : w1.alloc (.cells #[.int .i64 bx, .int .i64 by_] 23) = X1 at *
      replace K0 := Lib.hid (K0.out.bel2 hb K0.out.lt)
      replace K1 := Lib.hid (K1.out.bel2 hb K1.out.lt)
      replace K2 := Lib.hid (K2.out.bel2 hb K2.out.lt)
      replace HA := Lib.hid (HA.out.later (N := 0) hb)
      replace KB := Lib.hid (KB.out.trans (hb.mono KB.out.size))
      have hz := K1.out.lt
      clear hb
      clear hX
      have cK00 : w2.cell? ⟨w.heap.size, 0, none⟩ = some (.int .i64 from0) := K0.out.cell 0
      have cK01 : w2.cell? ⟨w.heap.size, 1, none⟩ = some (.int .i64 to0) := K0.out.cell 1
      go_wp2_with fail
      clear cK00 cK01
      refine (PHas_any from0 to0 a3 _).mono ?_
      rintro e w4 ⟨rfl, hb⟩
      rw [HHs.out]
      replace K0 := Lib.hid (K0.out.bel2 hb K0.out.lt)
      replace K1 := Lib.hid (K1.out.bel2 hb K1.out.lt)
      replace HA := Lib.hid (HA.out.later (N := 0) hb)
      replace KB := Lib.hid (KB.out.trans (hb.mono KB.out.size))
      have hz := K1.out.lt
      clear hb
      have d0 : ∀ W, Later w4.drew W → W.cell? ⟨w.heap.size + 1, 0, none⟩ = some (.int .i64 from1) := fun W hW => (Below.cell (p := ⟨w.heap.size + 1, 0, none⟩) ((Below.refl w4.heap.size w4).drew.trans hW) K1.out.lt).trans (K1.out.cell 0)
      have d1 : ∀ W, Later w4.drew W → W.cell? ⟨w.heap.size + 1, 1, none⟩ = some (.int .i64 to1) := fun W hW => (Below.cell (p := ⟨w.heap.size + 1, 1, none⟩) ((Below.refl w4.heap.size w4).drew.trans hW) K1.out.lt).trans (K1.out.cell 1)
      go_wp2_with fail
      refine wp_region_ord [(0, true), (2, true), (4, true), (5, true), (7, true), (1, false), (3, false), (6, false), (8, false), (9, true), (10, true)] (by kernel_rfl) (by kernel_rfl) (by kernel_rfl) (by kernel_rfl) ?_
      repeat (first | (refine wpO_F (v := ?_) rfl (by rfl) (fun w' hL => ?_) ?_; rotate_left; (solve | (go_simp; with_reducible rfl) | go_simp); try simp only [Act.put, List.setIfInBounds_toArray, List.set_cons_zero, List.set_cons_succ]) | (refine wpO_G rfl (by rfl) ?_; try simp only [Act.put, List.setIfInBounds_toArray, List.set_cons_zero, List.set_cons_succ]))
      clear d0 d1
      refine wpO_C rfl (by rfl) ?_
      go_simp
      refine (union_any w4.heap.size z2 a2 len2 cap2 w4.drew (show Arr w4.heap.size w4.drew a2 (cellsT z2) from HA.out) (Nat.le_refl _) HZ.out (by omega)).mono ?_
      rintro e w5 ⟨u, vu, hu, rfl, hown5, hb5⟩
      refine ⟨hb5, ?_⟩
      try simp only [Act.put, List.setIfInBounds_toArray, List.set_cons_zero, List.set_cons_succ]
      obtain ⟨ua, uc, rfl, _, _, huA⟩ := own_arr hown5
      have HUA := Lib.hid huA
      have HU := Lib.hid hu
      have hul : u.length ≤ 1000000 := by
        obtain ⟨dd, hp, _, hj⟩ := hu
        rw [hj]
        have h1 : dd.length = (validL z2).length := hp.length_eq
        have h2 := validL_le z2
        have h3 := HZ.out
        have h4 : (joinS dd).length ≤ dd.length + 1 := by
          cases dd with
          | nil => simp [joinS]
          | cons s r => exact Nat.le_trans (mrg_len r s) (by simp)
        omega
      have hb : Below w4.heap.size w4 w5 := ⟨hb5.os, hb5.tape, hb5.output, hb5.size, hb5.block⟩
      replace K0 := Lib.hid (K0.out.bel2 hb K0.out.lt)
      replace K1 := Lib.hid (K1.out.bel2 hb K1.out.lt)
      replace HA := Lib.hid (HA.out.later (N := 0) hb)
      replace KB := Lib.hid (KB.out.trans (hb.mono KB.out.size))
      have hz := K1.out.lt
      clear hb
      clear hown5 hb5 huA hu
      have d0 : ∀ W, Later w5 W → W.cell? ⟨w.heap.size + 1, 0, none⟩ = some (.int .i64 from1) := fun W hW => (Below.cell (p := ⟨w.heap.size + 1, 0, none⟩) hW K1.out.lt).trans (K1.out.cell 0)
      have d1 : ∀ W, Later w5 W → W.cell? ⟨w.heap.size + 1, 1, none⟩ = some (.int .i64 to1) := fun W hW => (Below.cell (p := ⟨w.heap.size + 1, 1, none⟩) hW K1.out.lt).trans (K1.out.cell 1)
      repeat (first | (refine wpO_F (v := ?_) rfl (by rfl) (fun w' hL => ?_) ?_; rotate_left; (solve | (go_simp; with_reducible rfl) | go_simp); try simp only [Act.put, List.setIfInBounds_toArray, List.set_cons_zero, List.set_cons_succ]) | (refine wpO_G rfl (by rfl) ?_; try simp only [Act.put, List.setIfInBounds_toArray, List.set_cons_zero, List.set_cons_succ]))
      clear d0 d1
      refine wpO_C rfl (by rfl) ?_
      go_simp
      refine (count_any _ u ua _ uc a3 _ HUA.out (Nat.le_refl _) rfl hul).mono ?_
      rintro e w6 ⟨rfl, hb⟩
      refine ⟨hb, ?_⟩
      try simp only [Act.put, List.setIfInBounds_toArray, List.set_cons_zero, List.set_cons_succ]
      have hun := HUN.out
      rw [← cnt_union HU.out a3] at hun
      rw [hun]
      clear hun
      clear HUA HU hul
      replace K0 := Lib.hid (K0.out.bel2 hb K0.out.lt)
      replace K1 := Lib.hid (K1.out.bel2 hb K1.out.lt)
      replace HA := Lib.hid (HA.out.later (N := 0) hb)
      replace KB := Lib.hid (KB.out.trans (hb.mono KB.out.size))
      have hz := K1.out.lt
      clear hb
      have d0 : ∀ W, Later w6 W → W.cell? ⟨w.heap.size + 1, 0, none⟩ = some (.int .i64 from1) := fun W hW => (Below.cell (p := ⟨w.heap.size + 1, 0, none⟩) hW K1.out.lt).trans (K1.out.cell 0)
      have d1 : ∀ W, Later w6 W → W.cell? ⟨w.heap.size + 1, 1, none⟩ = some (.int .i64 to1) := fun W hW => (Below.cell (p := ⟨w.heap.size + 1, 1, none⟩) hW K1.out.lt).trans (K1.out.cell 1)
      repeat (first | (refine wpO_F (v := ?_) rfl (by rfl) (fun w' hL => ?_) ?_; rotate_left; (solve | (go_simp; with_reducible rfl) | go_simp); try simp only [Act.put, List.setIfInBounds_toArray, List.set_cons_zero, List.set_cons_succ]) | (refine wpO_G rfl (by rfl) ?_; try simp only [Act.put, List.setIfInBounds_toArray, List.set_cons_zero, List.set_cons_succ]))
      clear d0 d1
      refine wpO_C rfl (by rfl) ?_
      go_simp
      refine (minus_any w6.heap.size z2 a2 len2 cap2 from1 to1 w6 HA.out (Nat.le_refl _) HZ.out (by omega)).mono ?_
      rintro e w7 ⟨vm, rfl, hown7, hb⟩
      refine ⟨hb, ?_⟩
      try simp only [Act.put, List.setIfInBounds_toArray, List.set_cons_zero, List.set_cons_succ]
      obtain ⟨ma, mc, rfl, _, _, hmA⟩ := own_arr hown7
      have HMA := Lib.hid hmA
      have hml : (minusS z2 (from1, to1)).length ≤ 1000000 := by have := minus_len (from1, to1) z2; have := HZ.out; omega
      clear hown7 hmA
      replace K0 := Lib.hid (K0.out.bel2 hb K0.out.lt)
      replace K1 := Lib.hid (K1.out.bel2 hb K1.out.lt)
      replace HA := Lib.hid (HA.out.later (N := 0) hb)
      replace KB := Lib.hid (KB.out.trans (hb.mono KB.out.size))
      have hz := K1.out.lt
      clear hb
      repeat (first | (refine wpO_F (v := ?_) rfl (by rfl) (fun w' hL => ?_) ?_; rotate_left; (solve | (go_simp; with_reducible rfl) | go_simp); try simp only [Act.put, List.setIfInBounds_toArray, List.set_cons_zero, List.set_cons_succ]) | (refine wpO_G rfl (by rfl) ?_; try simp only [Act.put, List.setIfInBounds_toArray, List.set_cons_zero, List.set_cons_succ]))
      refine wpO_C rfl (by rfl) ?_
      go_simp
      refine (count_any _ (minusS z2 (from1, to1)) ma _ mc a3 _ HMA.out (Nat.le_refl _) rfl hml).mono ?_
      rintro e w8 ⟨rfl, hb⟩
      refine ⟨hb, ?_⟩
      try simp only [Act.put, List.setIfInBounds_toArray, List.set_cons_zero, List.set_cons_succ]
      have hmn := HMN.out
      rw [← cnt_minus (from1, to1) a3 z2] at hmn
      rw [hmn]
      clear hmn
      clear HMA hml
      replace K0 := Lib.hid (K0.out.bel2 hb K0.out.lt)
      replace K1 := Lib.hid (K1.out.bel2 hb K1.out.lt)
      replace HA := Lib.hid (HA.out.later (N := 0) hb)
      replace KB := Lib.hid (KB.out.trans (hb.mono KB.out.size))
      have hz := K1.out.lt
      clear hb
      repeat (first | (refine wpO_F (v := ?_) rfl (by rfl) (fun w' hL => ?_) ?_; rotate_left; (solve | (go_simp; with_reducible rfl) | go_simp); try simp only [Act.put, List.setIfInBounds_toArray, List.set_cons_zero, List.set_cons_succ]) | (refine wpO_G rfl (by rfl) ?_; try simp only [Act.put, List.setIfInBounds_toArray, List.set_cons_zero, List.set_cons_succ]))
      refine wpO_nil ?_
      go_wp2_with fail
      refine (count_any _ z2 a2 len2 cap2 a3 _ HA.out (Nat.le_refl _) HZ.out (by omega)).mono ?_
      rintro e w9 ⟨rfl, hb⟩
      rw [HCN.out]
      replace K0 := Lib.hid (K0.out.bel2 hb K0.out.lt)
      replace K1 := Lib.hid (K1.out.bel2 hb K1.out.lt)
      replace HA := Lib.hid (HA.out.later (N := 0) hb)
      replace KB := Lib.hid (KB.out.trans (hb.mono KB.out.size))
      have hz := K1.out.lt
      clear hb
      have cK10 : w9.cell? ⟨w.heap.size + 1, 0, none⟩ = some (.int .i64 from1) := K1.out.cell 0
      have cK11 : w9.cell? ⟨w.heap.size + 1, 1, none⟩ = some (.int .i64 to1) := K1.out.cell 1
      go_wp2_with fail
      clear cK10 cK11
      refine (PHas_any from1 to1 a3 _).mono ?_
      rintro e w10 ⟨rfl, hb⟩
      rw [HHb.out]
      replace K0 := Lib.hid (K0.out.bel2 hb K0.out.lt)
      replace K1 := Lib.hid (K1.out.bel2 hb K1.out.lt)
      replace HA := Lib.hid (HA.out.later (N := 0) hb)
      replace KB := Lib.hid (KB.out.trans (hb.mono KB.out.size))
      have hz := K1.out.lt
      clear hb
      go_wp2_with fail
      refine (alive14 _).mono ?_
      rintro e w11 ⟨rfl, hb⟩
      replace K0 := Lib.hid (K0.out.bel2 hb K0.out.lt)
      replace K1 := Lib.hid (K1.out.bel2 hb K1.out.lt)
      replace HA := Lib.hid (HA.out.later (N := 0) hb)
      replace KB := Lib.hid (KB.out.trans (hb.mono KB.out.size))
      have hz := K1.out.lt
      clear hb
      go_wp2_with fail
      refine (count_any _ z2 a2 len2 cap2 a3 _ HA.out (Nat.le_refl _) HZ.out (by omega)).mono ?_
      rintro e w12 ⟨rfl, hb⟩
      rw [HCN.out]
      replace K0 := Lib.hid (K0.out.bel2 hb K0.out.lt)
      replace K1 := Lib.hid (K1.out.bel2 hb K1.out.lt)
      replace HA := Lib.hid (HA.out.later (N := 0) hb)
      replace KB := Lib.hid (KB.out.trans (hb.mono KB.out.size))
      have hz := K1.out.lt
      clear hb
      go_wp2
      go_ret
      exact ⟨rfl, KB.out⟩
  · -- s has it: F, by has it: T, they overlap: T
    have HN : Hid (((cnt (cutS (from0, to0) (from1, to1)) a3 : Nat) : Int) = 0) := by show _ = _; rw [hn]; rfl
    have HBoth : Hid (bothS (from0, to0) (from1, to1) = ((bx, by_), true)) := HBoth0.out.symm
    have HHB : Hid (hasB (bx, by_) a3 = false) := hbh
    clear hn hbh HBoth0
    subst hmc
    rcases huc with ⟨rfl, hcN⟩ | ⟨rfl, rfl⟩
    all_goals
      go_enter Try.func5, Try.ntmps5
      go_wp2_with fail
      refine (cut_any from0 to0 from1 to1 _).mono ?_
      rintro e w1 ⟨v1, he, hown, hb⟩
      rw [HBoth.out] at he
      subst he
      obtain ⟨ca, cc, rfl, _, _, hcA⟩ := own_arr hown
      have k0 := K0.out.bel2 hb K0.out.lt
      have k1 := K1.out.bel2 hb K1.out.lt
      have ka := HA.out.later (N := 0) hb
      have kb := KB.out.trans (hb.mono KB.out.size)
      have hz1 := k1.lt
      replace K0 := Lib.hid (k0.alloc (.cells #[.int .i64 bx, .int .i64 by_] 23))
      replace K1 := Lib.hid (k1.alloc (.cells #[.int .i64 bx, .int .i64 by_] 23))
      have K2 := Lib.hid (Blk.new w1 23 #[.int .i64 bx, .int .i64 by_])
      replace HA := Lib.hid (ka.later (N := 0) ((Below.refl w1.heap.size w1).alloc (Nat.le_refl _) (.cells #[.int .i64 bx, .int .i64 by_] 23)))
      have HCA := Lib.hid (hcA.later (N := 0) ((Below.refl w1.heap.size w1).alloc (Nat.le_refl _) (.cells #[.int .i64 bx, .int .i64 by_] 23)))
      replace KB := Lib.hid (kb.alloc (by omega) (.cells #[.int .i64 bx, .int .i64 by_] 23))
      have HCL : Hid (cc = cc) := rfl
      clear hown hcA k0 k1 ka kb hb
      go_wp2_with fail
      refine (count_any _ (cutS (from0, to0) (from1, to1)) ca _ cc a3 _ HCA.out (Nat.le_refl _) rfl (Nat.le_trans (cutS_le _ _) (by omega))).mono ?_
      rintro e w2 ⟨rfl, hb⟩
      rw [HN.out]
      clear HCA
      generalize hX : w1.alloc (.cells #[.int .i64 bx, .int .i64 by_] 23) = X1 at *
      replace K0 := Lib.hid (K0.out.bel2 hb K0.out.lt)
      replace K1 := Lib.hid (K1.out.bel2 hb K1.out.lt)
      replace K2 := Lib.hid (K2.out.bel2 hb K2.out.lt)
      replace HA := Lib.hid (HA.out.later (N := 0) hb)
      replace KB := Lib.hid (KB.out.trans (hb.mono KB.out.size))
      have hz := K1.out.lt
      clear hb
      clear hX
      have cK20 : w2.cell? ⟨w1.heap.size, 0, none⟩ = some (.int .i64 bx) := K2.out.cell 0
      have cK21 : w2.cell? ⟨w1.heap.size, 1, none⟩ = some (.int .i64 by_) := K2.out.cell 1
      go_wp2_with fail
      clear cK20 cK21
      refine (PHas_any bx by_ a3 _).mono ?_
      rintro e w3 ⟨rfl, hb⟩
      rw [HHB.out]
      replace K0 := Lib.hid (K0.out.bel2 hb K0.out.lt)
      replace K1 := Lib.hid (K1.out.bel2 hb K1.out.lt)
      replace HA := Lib.hid (HA.out.later (N := 0) hb)
      replace KB := Lib.hid (KB.out.trans (hb.mono KB.out.size))
      have hz := K1.out.lt
      clear hb
      have cK00 : w3.cell? ⟨w.heap.size, 0, none⟩ = some (.int .i64 from0) := K0.out.cell 0
      have cK01 : w3.cell? ⟨w.heap.size, 1, none⟩ = some (.int .i64 to0) := K0.out.cell 1
      go_wp2_with fail
      clear cK00 cK01
      refine (PHas_any from0 to0 a3 _).mono ?_
      rintro e w4 ⟨rfl, hb⟩
      rw [HHs.out]
      replace K0 := Lib.hid (K0.out.bel2 hb K0.out.lt)
      replace K1 := Lib.hid (K1.out.bel2 hb K1.out.lt)
      replace HA := Lib.hid (HA.out.later (N := 0) hb)
      replace KB := Lib.hid (KB.out.trans (hb.mono KB.out.size))
      have hz := K1.out.lt
      clear hb
      have d0 : ∀ W, Later w4.drew W → W.cell? ⟨w.heap.size + 1, 0, none⟩ = some (.int .i64 from1) := fun W hW => (Below.cell (p := ⟨w.heap.size + 1, 0, none⟩) ((Below.refl w4.heap.size w4).drew.trans hW) K1.out.lt).trans (K1.out.cell 0)
      have d1 : ∀ W, Later w4.drew W → W.cell? ⟨w.heap.size + 1, 1, none⟩ = some (.int .i64 to1) := fun W hW => (Below.cell (p := ⟨w.heap.size + 1, 1, none⟩) ((Below.refl w4.heap.size w4).drew.trans hW) K1.out.lt).trans (K1.out.cell 1)
      go_wp2_with fail
      refine wp_region_ord [(0, true), (2, true), (4, true), (5, true), (7, true), (1, false), (3, false), (6, false), (8, false), (9, true), (10, true)] (by kernel_rfl) (by kernel_rfl) (by kernel_rfl) (by kernel_rfl) ?_
      repeat (first | (refine wpO_F (v := ?_) rfl (by rfl) (fun w' hL => ?_) ?_; rotate_left; (solve | (go_simp; with_reducible rfl) | go_simp); try simp only [Act.put, List.setIfInBounds_toArray, List.set_cons_zero, List.set_cons_succ]) | (refine wpO_G rfl (by rfl) ?_; try simp only [Act.put, List.setIfInBounds_toArray, List.set_cons_zero, List.set_cons_succ]))
      clear d0 d1
      refine wpO_C rfl (by rfl) ?_
      go_simp
      refine (union_any w4.heap.size z2 a2 len2 cap2 w4.drew (show Arr w4.heap.size w4.drew a2 (cellsT z2) from HA.out) (Nat.le_refl _) HZ.out (by omega)).mono ?_
      rintro e w5 ⟨u, vu, hu, rfl, hown5, hb5⟩
      refine ⟨hb5, ?_⟩
      try simp only [Act.put, List.setIfInBounds_toArray, List.set_cons_zero, List.set_cons_succ]
      obtain ⟨ua, uc, rfl, _, _, huA⟩ := own_arr hown5
      have HUA := Lib.hid huA
      have HU := Lib.hid hu
      have hul : u.length ≤ 1000000 := by
        obtain ⟨dd, hp, _, hj⟩ := hu
        rw [hj]
        have h1 : dd.length = (validL z2).length := hp.length_eq
        have h2 := validL_le z2
        have h3 := HZ.out
        have h4 : (joinS dd).length ≤ dd.length + 1 := by
          cases dd with
          | nil => simp [joinS]
          | cons s r => exact Nat.le_trans (mrg_len r s) (by simp)
        omega
      have hb : Below w4.heap.size w4 w5 := ⟨hb5.os, hb5.tape, hb5.output, hb5.size, hb5.block⟩
      replace K0 := Lib.hid (K0.out.bel2 hb K0.out.lt)
      replace K1 := Lib.hid (K1.out.bel2 hb K1.out.lt)
      replace HA := Lib.hid (HA.out.later (N := 0) hb)
      replace KB := Lib.hid (KB.out.trans (hb.mono KB.out.size))
      have hz := K1.out.lt
      clear hb
      clear hown5 hb5 huA hu
      have d0 : ∀ W, Later w5 W → W.cell? ⟨w.heap.size + 1, 0, none⟩ = some (.int .i64 from1) := fun W hW => (Below.cell (p := ⟨w.heap.size + 1, 0, none⟩) hW K1.out.lt).trans (K1.out.cell 0)
      have d1 : ∀ W, Later w5 W → W.cell? ⟨w.heap.size + 1, 1, none⟩ = some (.int .i64 to1) := fun W hW => (Below.cell (p := ⟨w.heap.size + 1, 1, none⟩) hW K1.out.lt).trans (K1.out.cell 1)
      repeat (first | (refine wpO_F (v := ?_) rfl (by rfl) (fun w' hL => ?_) ?_; rotate_left; (solve | (go_simp; with_reducible rfl) | go_simp); try simp only [Act.put, List.setIfInBounds_toArray, List.set_cons_zero, List.set_cons_succ]) | (refine wpO_G rfl (by rfl) ?_; try simp only [Act.put, List.setIfInBounds_toArray, List.set_cons_zero, List.set_cons_succ]))
      clear d0 d1
      refine wpO_C rfl (by rfl) ?_
      go_simp
      refine (count_any _ u ua _ uc a3 _ HUA.out (Nat.le_refl _) rfl hul).mono ?_
      rintro e w6 ⟨rfl, hb⟩
      refine ⟨hb, ?_⟩
      try simp only [Act.put, List.setIfInBounds_toArray, List.set_cons_zero, List.set_cons_succ]
      have hun := HUN.out
      rw [← cnt_union HU.out a3] at hun
      rw [hun]
      clear hun
      clear HUA HU hul
      replace K0 := Lib.hid (K0.out.bel2 hb K0.out.lt)
      replace K1 := Lib.hid (K1.out.bel2 hb K1.out.lt)
      replace HA := Lib.hid (HA.out.later (N := 0) hb)
      replace KB := Lib.hid (KB.out.trans (hb.mono KB.out.size))
      have hz := K1.out.lt
      clear hb
      have d0 : ∀ W, Later w6 W → W.cell? ⟨w.heap.size + 1, 0, none⟩ = some (.int .i64 from1) := fun W hW => (Below.cell (p := ⟨w.heap.size + 1, 0, none⟩) hW K1.out.lt).trans (K1.out.cell 0)
      have d1 : ∀ W, Later w6 W → W.cell? ⟨w.heap.size + 1, 1, none⟩ = some (.int .i64 to1) := fun W hW => (Below.cell (p := ⟨w.heap.size + 1, 1, none⟩) hW K1.out.lt).trans (K1.out.cell 1)
      repeat (first | (refine wpO_F (v := ?_) rfl (by rfl) (fun w' hL => ?_) ?_; rotate_left; (solve | (go_simp; with_reducible rfl) | go_simp); try simp only [Act.put, List.setIfInBounds_toArray, List.set_cons_zero, List.set_cons_succ]) | (refine wpO_G rfl (by rfl) ?_; try simp only [Act.put, List.setIfInBounds_toArray, List.set_cons_zero, List.set_cons_succ]))
      clear d0 d1
      refine wpO_C rfl (by rfl) ?_
      go_simp
      refine (minus_any w6.heap.size z2 a2 len2 cap2 from1 to1 w6 HA.out (Nat.le_refl _) HZ.out (by omega)).mono ?_
      rintro e w7 ⟨vm, rfl, hown7, hb⟩
      refine ⟨hb, ?_⟩
      try simp only [Act.put, List.setIfInBounds_toArray, List.set_cons_zero, List.set_cons_succ]
      obtain ⟨ma, mc, rfl, _, _, hmA⟩ := own_arr hown7
      have HMA := Lib.hid hmA
      have hml : (minusS z2 (from1, to1)).length ≤ 1000000 := by have := minus_len (from1, to1) z2; have := HZ.out; omega
      clear hown7 hmA
      replace K0 := Lib.hid (K0.out.bel2 hb K0.out.lt)
      replace K1 := Lib.hid (K1.out.bel2 hb K1.out.lt)
      replace HA := Lib.hid (HA.out.later (N := 0) hb)
      replace KB := Lib.hid (KB.out.trans (hb.mono KB.out.size))
      have hz := K1.out.lt
      clear hb
      repeat (first | (refine wpO_F (v := ?_) rfl (by rfl) (fun w' hL => ?_) ?_; rotate_left; (solve | (go_simp; with_reducible rfl) | go_simp); try simp only [Act.put, List.setIfInBounds_toArray, List.set_cons_zero, List.set_cons_succ]) | (refine wpO_G rfl (by rfl) ?_; try simp only [Act.put, List.setIfInBounds_toArray, List.set_cons_zero, List.set_cons_succ]))
      refine wpO_C rfl (by rfl) ?_
      go_simp
      refine (count_any _ (minusS z2 (from1, to1)) ma _ mc a3 _ HMA.out (Nat.le_refl _) rfl hml).mono ?_
      rintro e w8 ⟨rfl, hb⟩
      refine ⟨hb, ?_⟩
      try simp only [Act.put, List.setIfInBounds_toArray, List.set_cons_zero, List.set_cons_succ]
      have hmn := HMN.out
      rw [← cnt_minus (from1, to1) a3 z2] at hmn
      rw [hmn]
      clear hmn
      clear HMA hml
      replace K0 := Lib.hid (K0.out.bel2 hb K0.out.lt)
      replace K1 := Lib.hid (K1.out.bel2 hb K1.out.lt)
      replace HA := Lib.hid (HA.out.later (N := 0) hb)
      replace KB := Lib.hid (KB.out.trans (hb.mono KB.out.size))
      have hz := K1.out.lt
      clear hb
      repeat (first | (refine wpO_F (v := ?_) rfl (by rfl) (fun w' hL => ?_) ?_; rotate_left; (solve | (go_simp; with_reducible rfl) | go_simp); try simp only [Act.put, List.setIfInBounds_toArray, List.set_cons_zero, List.set_cons_succ]) | (refine wpO_G rfl (by rfl) ?_; try simp only [Act.put, List.setIfInBounds_toArray, List.set_cons_zero, List.set_cons_succ]))
      refine wpO_nil ?_
      go_wp2_with fail
      refine (count_any _ z2 a2 len2 cap2 a3 _ HA.out (Nat.le_refl _) HZ.out (by omega)).mono ?_
      rintro e w9 ⟨rfl, hb⟩
      rw [HCN.out]
      replace K0 := Lib.hid (K0.out.bel2 hb K0.out.lt)
      replace K1 := Lib.hid (K1.out.bel2 hb K1.out.lt)
      replace HA := Lib.hid (HA.out.later (N := 0) hb)
      replace KB := Lib.hid (KB.out.trans (hb.mono KB.out.size))
      have hz := K1.out.lt
      clear hb
      have cK10 : w9.cell? ⟨w.heap.size + 1, 0, none⟩ = some (.int .i64 from1) := K1.out.cell 0
      have cK11 : w9.cell? ⟨w.heap.size + 1, 1, none⟩ = some (.int .i64 to1) := K1.out.cell 1
      go_wp2_with fail
      clear cK10 cK11
      refine (PHas_any from1 to1 a3 _).mono ?_
      rintro e w10 ⟨rfl, hb⟩
      rw [HHb.out]
      replace K0 := Lib.hid (K0.out.bel2 hb K0.out.lt)
      replace K1 := Lib.hid (K1.out.bel2 hb K1.out.lt)
      replace HA := Lib.hid (HA.out.later (N := 0) hb)
      replace KB := Lib.hid (KB.out.trans (hb.mono KB.out.size))
      have hz := K1.out.lt
      clear hb
      go_wp2_with fail
      refine (alive14 _).mono ?_
      rintro e w11 ⟨rfl, hb⟩
      replace K0 := Lib.hid (K0.out.bel2 hb K0.out.lt)
      replace K1 := Lib.hid (K1.out.bel2 hb K1.out.lt)
      replace HA := Lib.hid (HA.out.later (N := 0) hb)
      replace KB := Lib.hid (KB.out.trans (hb.mono KB.out.size))
      have hz := K1.out.lt
      clear hb
      go_wp2_with fail
      refine (count_any _ z2 a2 len2 cap2 a3 _ HA.out (Nat.le_refl _) HZ.out (by omega)).mono ?_
      rintro e w12 ⟨rfl, hb⟩
      rw [HCN.out]
      replace K0 := Lib.hid (K0.out.bel2 hb K0.out.lt)
      replace K1 := Lib.hid (K1.out.bel2 hb K1.out.lt)
      replace HA := Lib.hid (HA.out.later (N := 0) hb)
      replace KB := Lib.hid (KB.out.trans (hb.mono KB.out.size))
      have hz := K1.out.lt
      clear hb
      go_wp2
      go_ret
      exact ⟨rfl, KB.out⟩
  · -- s has it: T, by has it: F, they overlap: F
    have HN : Hid (((cnt (cutS (from0, to0) (from1, to1)) a3 : Nat) : Int) = 1) := by show _ = _; rw [hn]; rfl
    have HBoth : Hid (bothS (from0, to0) (from1, to1) = ((bx, by_), false)) := HBoth0.out.symm
    clear hn hbh HBoth0
    subst hmc
    rcases huc with ⟨rfl, hcN⟩ | ⟨rfl, rfl⟩
    all_goals
      go_enter Try.func5, Try.ntmps5
      go_wp2_with fail
      refine (cut_any from0 to0 from1 to1 _).mono ?_
      rintro e w1 ⟨v1, he, hown, hb⟩
      rw [HBoth.out] at he
      subst he
      obtain ⟨ca, cc, rfl, _, _, hcA⟩ := own_arr hown
      have k0 := K0.out.bel2 hb K0.out.lt
      have k1 := K1.out.bel2 hb K1.out.lt
      have ka := HA.out.later (N := 0) hb
      have kb := KB.out.trans (hb.mono KB.out.size)
      have hz1 := k1.lt
      replace K0 := Lib.hid (k0.alloc (.cells #[.int .i64 bx, .int .i64 by_] 23))
      replace K1 := Lib.hid (k1.alloc (.cells #[.int .i64 bx, .int .i64 by_] 23))
      have K2 := Lib.hid (Blk.new w1 23 #[.int .i64 bx, .int .i64 by_])
      replace HA := Lib.hid (ka.later (N := 0) ((Below.refl w1.heap.size w1).alloc (Nat.le_refl _) (.cells #[.int .i64 bx, .int .i64 by_] 23)))
      have HCA := Lib.hid (hcA.later (N := 0) ((Below.refl w1.heap.size w1).alloc (Nat.le_refl _) (.cells #[.int .i64 bx, .int .i64 by_] 23)))
      replace KB := Lib.hid (kb.alloc (by omega) (.cells #[.int .i64 bx, .int .i64 by_] 23))
      have HCL : Hid (cc = cc) := rfl
      clear hown hcA k0 k1 ka kb hb
      go_wp2_with fail
      refine (count_any _ (cutS (from0, to0) (from1, to1)) ca _ cc a3 _ HCA.out (Nat.le_refl _) rfl (Nat.le_trans (cutS_le _ _) (by omega))).mono ?_
      rintro e w2 ⟨rfl, hb⟩
      rw [HN.out]
      clear HCA
      generalize hX : w1.alloc (.cells #[.int .i64 bx, .int .i64 by_] 23) = X1 at *
      replace K0 := Lib.hid (K0.out.bel2 hb K0.out.lt)
      replace K1 := Lib.hid (K1.out.bel2 hb K1.out.lt)
      replace K2 := Lib.hid (K2.out.bel2 hb K2.out.lt)
      replace HA := Lib.hid (HA.out.later (N := 0) hb)
      replace KB := Lib.hid (KB.out.trans (hb.mono KB.out.size))
      have hz := K1.out.lt
      clear hb
      clear hX
      have cK00 : w2.cell? ⟨w.heap.size, 0, none⟩ = some (.int .i64 from0) := K0.out.cell 0
      have cK01 : w2.cell? ⟨w.heap.size, 1, none⟩ = some (.int .i64 to0) := K0.out.cell 1
      go_wp2_with fail
      clear cK00 cK01
      refine (PHas_any from0 to0 a3 _).mono ?_
      rintro e w4 ⟨rfl, hb⟩
      rw [HHs.out]
      replace K0 := Lib.hid (K0.out.bel2 hb K0.out.lt)
      replace K1 := Lib.hid (K1.out.bel2 hb K1.out.lt)
      replace HA := Lib.hid (HA.out.later (N := 0) hb)
      replace KB := Lib.hid (KB.out.trans (hb.mono KB.out.size))
      have hz := K1.out.lt
      clear hb
      have d0 : ∀ W, Later w4.drew W → W.cell? ⟨w.heap.size + 1, 0, none⟩ = some (.int .i64 from1) := fun W hW => (Below.cell (p := ⟨w.heap.size + 1, 0, none⟩) ((Below.refl w4.heap.size w4).drew.trans hW) K1.out.lt).trans (K1.out.cell 0)
      have d1 : ∀ W, Later w4.drew W → W.cell? ⟨w.heap.size + 1, 1, none⟩ = some (.int .i64 to1) := fun W hW => (Below.cell (p := ⟨w.heap.size + 1, 1, none⟩) ((Below.refl w4.heap.size w4).drew.trans hW) K1.out.lt).trans (K1.out.cell 1)
      go_wp2_with fail
      refine wp_region_ord [(0, true), (2, true), (4, true), (5, true), (7, true), (1, false), (3, false), (6, false), (8, false), (9, true), (10, true)] (by kernel_rfl) (by kernel_rfl) (by kernel_rfl) (by kernel_rfl) ?_
      repeat (first | (refine wpO_F (v := ?_) rfl (by rfl) (fun w' hL => ?_) ?_; rotate_left; (solve | (go_simp; with_reducible rfl) | go_simp); try simp only [Act.put, List.setIfInBounds_toArray, List.set_cons_zero, List.set_cons_succ]) | (refine wpO_G rfl (by rfl) ?_; try simp only [Act.put, List.setIfInBounds_toArray, List.set_cons_zero, List.set_cons_succ]))
      clear d0 d1
      refine wpO_C rfl (by rfl) ?_
      go_simp
      refine (union_any w4.heap.size z2 a2 len2 cap2 w4.drew (show Arr w4.heap.size w4.drew a2 (cellsT z2) from HA.out) (Nat.le_refl _) HZ.out (by omega)).mono ?_
      rintro e w5 ⟨u, vu, hu, rfl, hown5, hb5⟩
      refine ⟨hb5, ?_⟩
      try simp only [Act.put, List.setIfInBounds_toArray, List.set_cons_zero, List.set_cons_succ]
      obtain ⟨ua, uc, rfl, _, _, huA⟩ := own_arr hown5
      have HUA := Lib.hid huA
      have HU := Lib.hid hu
      have hul : u.length ≤ 1000000 := by
        obtain ⟨dd, hp, _, hj⟩ := hu
        rw [hj]
        have h1 : dd.length = (validL z2).length := hp.length_eq
        have h2 := validL_le z2
        have h3 := HZ.out
        have h4 : (joinS dd).length ≤ dd.length + 1 := by
          cases dd with
          | nil => simp [joinS]
          | cons s r => exact Nat.le_trans (mrg_len r s) (by simp)
        omega
      have hb : Below w4.heap.size w4 w5 := ⟨hb5.os, hb5.tape, hb5.output, hb5.size, hb5.block⟩
      replace K0 := Lib.hid (K0.out.bel2 hb K0.out.lt)
      replace K1 := Lib.hid (K1.out.bel2 hb K1.out.lt)
      replace HA := Lib.hid (HA.out.later (N := 0) hb)
      replace KB := Lib.hid (KB.out.trans (hb.mono KB.out.size))
      have hz := K1.out.lt
      clear hb
      clear hown5 hb5 huA hu
      have d0 : ∀ W, Later w5 W → W.cell? ⟨w.heap.size + 1, 0, none⟩ = some (.int .i64 from1) := fun W hW => (Below.cell (p := ⟨w.heap.size + 1, 0, none⟩) hW K1.out.lt).trans (K1.out.cell 0)
      have d1 : ∀ W, Later w5 W → W.cell? ⟨w.heap.size + 1, 1, none⟩ = some (.int .i64 to1) := fun W hW => (Below.cell (p := ⟨w.heap.size + 1, 1, none⟩) hW K1.out.lt).trans (K1.out.cell 1)
      repeat (first | (refine wpO_F (v := ?_) rfl (by rfl) (fun w' hL => ?_) ?_; rotate_left; (solve | (go_simp; with_reducible rfl) | go_simp); try simp only [Act.put, List.setIfInBounds_toArray, List.set_cons_zero, List.set_cons_succ]) | (refine wpO_G rfl (by rfl) ?_; try simp only [Act.put, List.setIfInBounds_toArray, List.set_cons_zero, List.set_cons_succ]))
      clear d0 d1
      refine wpO_C rfl (by rfl) ?_
      go_simp
      refine (count_any _ u ua _ uc a3 _ HUA.out (Nat.le_refl _) rfl hul).mono ?_
      rintro e w6 ⟨rfl, hb⟩
      refine ⟨hb, ?_⟩
      try simp only [Act.put, List.setIfInBounds_toArray, List.set_cons_zero, List.set_cons_succ]
      have hun := HUN.out
      rw [← cnt_union HU.out a3] at hun
      rw [hun]
      clear hun
      clear HUA HU hul
      replace K0 := Lib.hid (K0.out.bel2 hb K0.out.lt)
      replace K1 := Lib.hid (K1.out.bel2 hb K1.out.lt)
      replace HA := Lib.hid (HA.out.later (N := 0) hb)
      replace KB := Lib.hid (KB.out.trans (hb.mono KB.out.size))
      have hz := K1.out.lt
      clear hb
      have d0 : ∀ W, Later w6 W → W.cell? ⟨w.heap.size + 1, 0, none⟩ = some (.int .i64 from1) := fun W hW => (Below.cell (p := ⟨w.heap.size + 1, 0, none⟩) hW K1.out.lt).trans (K1.out.cell 0)
      have d1 : ∀ W, Later w6 W → W.cell? ⟨w.heap.size + 1, 1, none⟩ = some (.int .i64 to1) := fun W hW => (Below.cell (p := ⟨w.heap.size + 1, 1, none⟩) hW K1.out.lt).trans (K1.out.cell 1)
      repeat (first | (refine wpO_F (v := ?_) rfl (by rfl) (fun w' hL => ?_) ?_; rotate_left; (solve | (go_simp; with_reducible rfl) | go_simp); try simp only [Act.put, List.setIfInBounds_toArray, List.set_cons_zero, List.set_cons_succ]) | (refine wpO_G rfl (by rfl) ?_; try simp only [Act.put, List.setIfInBounds_toArray, List.set_cons_zero, List.set_cons_succ]))
      clear d0 d1
      refine wpO_C rfl (by rfl) ?_
      go_simp
      refine (minus_any w6.heap.size z2 a2 len2 cap2 from1 to1 w6 HA.out (Nat.le_refl _) HZ.out (by omega)).mono ?_
      rintro e w7 ⟨vm, rfl, hown7, hb⟩
      refine ⟨hb, ?_⟩
      try simp only [Act.put, List.setIfInBounds_toArray, List.set_cons_zero, List.set_cons_succ]
      obtain ⟨ma, mc, rfl, _, _, hmA⟩ := own_arr hown7
      have HMA := Lib.hid hmA
      have hml : (minusS z2 (from1, to1)).length ≤ 1000000 := by have := minus_len (from1, to1) z2; have := HZ.out; omega
      clear hown7 hmA
      replace K0 := Lib.hid (K0.out.bel2 hb K0.out.lt)
      replace K1 := Lib.hid (K1.out.bel2 hb K1.out.lt)
      replace HA := Lib.hid (HA.out.later (N := 0) hb)
      replace KB := Lib.hid (KB.out.trans (hb.mono KB.out.size))
      have hz := K1.out.lt
      clear hb
      repeat (first | (refine wpO_F (v := ?_) rfl (by rfl) (fun w' hL => ?_) ?_; rotate_left; (solve | (go_simp; with_reducible rfl) | go_simp); try simp only [Act.put, List.setIfInBounds_toArray, List.set_cons_zero, List.set_cons_succ]) | (refine wpO_G rfl (by rfl) ?_; try simp only [Act.put, List.setIfInBounds_toArray, List.set_cons_zero, List.set_cons_succ]))
      refine wpO_C rfl (by rfl) ?_
      go_simp
      refine (count_any _ (minusS z2 (from1, to1)) ma _ mc a3 _ HMA.out (Nat.le_refl _) rfl hml).mono ?_
      rintro e w8 ⟨rfl, hb⟩
      refine ⟨hb, ?_⟩
      try simp only [Act.put, List.setIfInBounds_toArray, List.set_cons_zero, List.set_cons_succ]
      have hmn := HMN.out
      rw [← cnt_minus (from1, to1) a3 z2] at hmn
      rw [hmn]
      clear hmn
      clear HMA hml
      replace K0 := Lib.hid (K0.out.bel2 hb K0.out.lt)
      replace K1 := Lib.hid (K1.out.bel2 hb K1.out.lt)
      replace HA := Lib.hid (HA.out.later (N := 0) hb)
      replace KB := Lib.hid (KB.out.trans (hb.mono KB.out.size))
      have hz := K1.out.lt
      clear hb
      repeat (first | (refine wpO_F (v := ?_) rfl (by rfl) (fun w' hL => ?_) ?_; rotate_left; (solve | (go_simp; with_reducible rfl) | go_simp); try simp only [Act.put, List.setIfInBounds_toArray, List.set_cons_zero, List.set_cons_succ]) | (refine wpO_G rfl (by rfl) ?_; try simp only [Act.put, List.setIfInBounds_toArray, List.set_cons_zero, List.set_cons_succ]))
      refine wpO_nil ?_
      go_wp2_with fail
      refine (count_any _ z2 a2 len2 cap2 a3 _ HA.out (Nat.le_refl _) HZ.out (by omega)).mono ?_
      rintro e w9 ⟨rfl, hb⟩
      rw [HCN.out]
      replace K0 := Lib.hid (K0.out.bel2 hb K0.out.lt)
      replace K1 := Lib.hid (K1.out.bel2 hb K1.out.lt)
      replace HA := Lib.hid (HA.out.later (N := 0) hb)
      replace KB := Lib.hid (KB.out.trans (hb.mono KB.out.size))
      have hz := K1.out.lt
      clear hb
      have cK10 : w9.cell? ⟨w.heap.size + 1, 0, none⟩ = some (.int .i64 from1) := K1.out.cell 0
      have cK11 : w9.cell? ⟨w.heap.size + 1, 1, none⟩ = some (.int .i64 to1) := K1.out.cell 1
      go_wp2_with fail
      clear cK10 cK11
      refine (PHas_any from1 to1 a3 _).mono ?_
      rintro e w10 ⟨rfl, hb⟩
      rw [HHb.out]
      replace K0 := Lib.hid (K0.out.bel2 hb K0.out.lt)
      replace K1 := Lib.hid (K1.out.bel2 hb K1.out.lt)
      replace HA := Lib.hid (HA.out.later (N := 0) hb)
      replace KB := Lib.hid (KB.out.trans (hb.mono KB.out.size))
      have hz := K1.out.lt
      clear hb
      go_wp2_with fail
      refine (alive14 _).mono ?_
      rintro e w11 ⟨rfl, hb⟩
      replace K0 := Lib.hid (K0.out.bel2 hb K0.out.lt)
      replace K1 := Lib.hid (K1.out.bel2 hb K1.out.lt)
      replace HA := Lib.hid (HA.out.later (N := 0) hb)
      replace KB := Lib.hid (KB.out.trans (hb.mono KB.out.size))
      have hz := K1.out.lt
      clear hb
      go_wp2_with fail
      refine (count_any _ z2 a2 len2 cap2 a3 _ HA.out (Nat.le_refl _) HZ.out (by omega)).mono ?_
      rintro e w12 ⟨rfl, hb⟩
      rw [HCN.out]
      replace K0 := Lib.hid (K0.out.bel2 hb K0.out.lt)
      replace K1 := Lib.hid (K1.out.bel2 hb K1.out.lt)
      replace HA := Lib.hid (HA.out.later (N := 0) hb)
      replace KB := Lib.hid (KB.out.trans (hb.mono KB.out.size))
      have hz := K1.out.lt
      clear hb
      go_wp2
      go_ret
      exact ⟨rfl, KB.out⟩
  · -- s has it: T, by has it: F, they overlap: T
    have HN : Hid (((cnt (cutS (from0, to0) (from1, to1)) a3 : Nat) : Int) = 1) := by show _ = _; rw [hn]; rfl
    have HBoth : Hid (bothS (from0, to0) (from1, to1) = ((bx, by_), true)) := HBoth0.out.symm
    have HHB : Hid (hasB (bx, by_) a3 = false) := hbh
    clear hn hbh HBoth0
    subst hmc
    rcases huc with ⟨rfl, hcN⟩ | ⟨rfl, rfl⟩
    all_goals
      go_enter Try.func5, Try.ntmps5
      go_wp2_with fail
      refine (cut_any from0 to0 from1 to1 _).mono ?_
      rintro e w1 ⟨v1, he, hown, hb⟩
      rw [HBoth.out] at he
      subst he
      obtain ⟨ca, cc, rfl, _, _, hcA⟩ := own_arr hown
      have k0 := K0.out.bel2 hb K0.out.lt
      have k1 := K1.out.bel2 hb K1.out.lt
      have ka := HA.out.later (N := 0) hb
      have kb := KB.out.trans (hb.mono KB.out.size)
      have hz1 := k1.lt
      replace K0 := Lib.hid (k0.alloc (.cells #[.int .i64 bx, .int .i64 by_] 23))
      replace K1 := Lib.hid (k1.alloc (.cells #[.int .i64 bx, .int .i64 by_] 23))
      have K2 := Lib.hid (Blk.new w1 23 #[.int .i64 bx, .int .i64 by_])
      replace HA := Lib.hid (ka.later (N := 0) ((Below.refl w1.heap.size w1).alloc (Nat.le_refl _) (.cells #[.int .i64 bx, .int .i64 by_] 23)))
      have HCA := Lib.hid (hcA.later (N := 0) ((Below.refl w1.heap.size w1).alloc (Nat.le_refl _) (.cells #[.int .i64 bx, .int .i64 by_] 23)))
      replace KB := Lib.hid (kb.alloc (by omega) (.cells #[.int .i64 bx, .int .i64 by_] 23))
      have HCL : Hid (cc = cc) := rfl
      clear hown hcA k0 k1 ka kb hb
      go_wp2_with fail
      refine (count_any _ (cutS (from0, to0) (from1, to1)) ca _ cc a3 _ HCA.out (Nat.le_refl _) rfl (Nat.le_trans (cutS_le _ _) (by omega))).mono ?_
      rintro e w2 ⟨rfl, hb⟩
      rw [HN.out]
      clear HCA
      generalize hX : w1.alloc (.cells #[.int .i64 bx, .int .i64 by_] 23) = X1 at *
      replace K0 := Lib.hid (K0.out.bel2 hb K0.out.lt)
      replace K1 := Lib.hid (K1.out.bel2 hb K1.out.lt)
      replace K2 := Lib.hid (K2.out.bel2 hb K2.out.lt)
      replace HA := Lib.hid (HA.out.later (N := 0) hb)
      replace KB := Lib.hid (KB.out.trans (hb.mono KB.out.size))
      have hz := K1.out.lt
      clear hb
      clear hX
      have cK20 : w2.cell? ⟨w1.heap.size, 0, none⟩ = some (.int .i64 bx) := K2.out.cell 0
      have cK21 : w2.cell? ⟨w1.heap.size, 1, none⟩ = some (.int .i64 by_) := K2.out.cell 1
      go_wp2_with fail
      clear cK20 cK21
      refine (PHas_any bx by_ a3 _).mono ?_
      rintro e w3 ⟨rfl, hb⟩
      rw [HHB.out]
      replace K0 := Lib.hid (K0.out.bel2 hb K0.out.lt)
      replace K1 := Lib.hid (K1.out.bel2 hb K1.out.lt)
      replace HA := Lib.hid (HA.out.later (N := 0) hb)
      replace KB := Lib.hid (KB.out.trans (hb.mono KB.out.size))
      have hz := K1.out.lt
      clear hb
      have cK00 : w3.cell? ⟨w.heap.size, 0, none⟩ = some (.int .i64 from0) := K0.out.cell 0
      have cK01 : w3.cell? ⟨w.heap.size, 1, none⟩ = some (.int .i64 to0) := K0.out.cell 1
      go_wp2_with fail
      clear cK00 cK01
      refine (PHas_any from0 to0 a3 _).mono ?_
      rintro e w4 ⟨rfl, hb⟩
      rw [HHs.out]
      replace K0 := Lib.hid (K0.out.bel2 hb K0.out.lt)
      replace K1 := Lib.hid (K1.out.bel2 hb K1.out.lt)
      replace HA := Lib.hid (HA.out.later (N := 0) hb)
      replace KB := Lib.hid (KB.out.trans (hb.mono KB.out.size))
      have hz := K1.out.lt
      clear hb
      have d0 : ∀ W, Later w4.drew W → W.cell? ⟨w.heap.size + 1, 0, none⟩ = some (.int .i64 from1) := fun W hW => (Below.cell (p := ⟨w.heap.size + 1, 0, none⟩) ((Below.refl w4.heap.size w4).drew.trans hW) K1.out.lt).trans (K1.out.cell 0)
      have d1 : ∀ W, Later w4.drew W → W.cell? ⟨w.heap.size + 1, 1, none⟩ = some (.int .i64 to1) := fun W hW => (Below.cell (p := ⟨w.heap.size + 1, 1, none⟩) ((Below.refl w4.heap.size w4).drew.trans hW) K1.out.lt).trans (K1.out.cell 1)
      go_wp2_with fail
      refine wp_region_ord [(0, true), (2, true), (4, true), (5, true), (7, true), (1, false), (3, false), (6, false), (8, false), (9, true), (10, true)] (by kernel_rfl) (by kernel_rfl) (by kernel_rfl) (by kernel_rfl) ?_
      repeat (first | (refine wpO_F (v := ?_) rfl (by rfl) (fun w' hL => ?_) ?_; rotate_left; (solve | (go_simp; with_reducible rfl) | go_simp); try simp only [Act.put, List.setIfInBounds_toArray, List.set_cons_zero, List.set_cons_succ]) | (refine wpO_G rfl (by rfl) ?_; try simp only [Act.put, List.setIfInBounds_toArray, List.set_cons_zero, List.set_cons_succ]))
      clear d0 d1
      refine wpO_C rfl (by rfl) ?_
      go_simp
      refine (union_any w4.heap.size z2 a2 len2 cap2 w4.drew (show Arr w4.heap.size w4.drew a2 (cellsT z2) from HA.out) (Nat.le_refl _) HZ.out (by omega)).mono ?_
      rintro e w5 ⟨u, vu, hu, rfl, hown5, hb5⟩
      refine ⟨hb5, ?_⟩
      try simp only [Act.put, List.setIfInBounds_toArray, List.set_cons_zero, List.set_cons_succ]
      obtain ⟨ua, uc, rfl, _, _, huA⟩ := own_arr hown5
      have HUA := Lib.hid huA
      have HU := Lib.hid hu
      have hul : u.length ≤ 1000000 := by
        obtain ⟨dd, hp, _, hj⟩ := hu
        rw [hj]
        have h1 : dd.length = (validL z2).length := hp.length_eq
        have h2 := validL_le z2
        have h3 := HZ.out
        have h4 : (joinS dd).length ≤ dd.length + 1 := by
          cases dd with
          | nil => simp [joinS]
          | cons s r => exact Nat.le_trans (mrg_len r s) (by simp)
        omega
      have hb : Below w4.heap.size w4 w5 := ⟨hb5.os, hb5.tape, hb5.output, hb5.size, hb5.block⟩
      replace K0 := Lib.hid (K0.out.bel2 hb K0.out.lt)
      replace K1 := Lib.hid (K1.out.bel2 hb K1.out.lt)
      replace HA := Lib.hid (HA.out.later (N := 0) hb)
      replace KB := Lib.hid (KB.out.trans (hb.mono KB.out.size))
      have hz := K1.out.lt
      clear hb
      clear hown5 hb5 huA hu
      have d0 : ∀ W, Later w5 W → W.cell? ⟨w.heap.size + 1, 0, none⟩ = some (.int .i64 from1) := fun W hW => (Below.cell (p := ⟨w.heap.size + 1, 0, none⟩) hW K1.out.lt).trans (K1.out.cell 0)
      have d1 : ∀ W, Later w5 W → W.cell? ⟨w.heap.size + 1, 1, none⟩ = some (.int .i64 to1) := fun W hW => (Below.cell (p := ⟨w.heap.size + 1, 1, none⟩) hW K1.out.lt).trans (K1.out.cell 1)
      repeat (first | (refine wpO_F (v := ?_) rfl (by rfl) (fun w' hL => ?_) ?_; rotate_left; (solve | (go_simp; with_reducible rfl) | go_simp); try simp only [Act.put, List.setIfInBounds_toArray, List.set_cons_zero, List.set_cons_succ]) | (refine wpO_G rfl (by rfl) ?_; try simp only [Act.put, List.setIfInBounds_toArray, List.set_cons_zero, List.set_cons_succ]))
      clear d0 d1
      refine wpO_C rfl (by rfl) ?_
      go_simp
      refine (count_any _ u ua _ uc a3 _ HUA.out (Nat.le_refl _) rfl hul).mono ?_
      rintro e w6 ⟨rfl, hb⟩
      refine ⟨hb, ?_⟩
      try simp only [Act.put, List.setIfInBounds_toArray, List.set_cons_zero, List.set_cons_succ]
      have hun := HUN.out
      rw [← cnt_union HU.out a3] at hun
      rw [hun]
      clear hun
      clear HUA HU hul
      replace K0 := Lib.hid (K0.out.bel2 hb K0.out.lt)
      replace K1 := Lib.hid (K1.out.bel2 hb K1.out.lt)
      replace HA := Lib.hid (HA.out.later (N := 0) hb)
      replace KB := Lib.hid (KB.out.trans (hb.mono KB.out.size))
      have hz := K1.out.lt
      clear hb
      have d0 : ∀ W, Later w6 W → W.cell? ⟨w.heap.size + 1, 0, none⟩ = some (.int .i64 from1) := fun W hW => (Below.cell (p := ⟨w.heap.size + 1, 0, none⟩) hW K1.out.lt).trans (K1.out.cell 0)
      have d1 : ∀ W, Later w6 W → W.cell? ⟨w.heap.size + 1, 1, none⟩ = some (.int .i64 to1) := fun W hW => (Below.cell (p := ⟨w.heap.size + 1, 1, none⟩) hW K1.out.lt).trans (K1.out.cell 1)
      repeat (first | (refine wpO_F (v := ?_) rfl (by rfl) (fun w' hL => ?_) ?_; rotate_left; (solve | (go_simp; with_reducible rfl) | go_simp); try simp only [Act.put, List.setIfInBounds_toArray, List.set_cons_zero, List.set_cons_succ]) | (refine wpO_G rfl (by rfl) ?_; try simp only [Act.put, List.setIfInBounds_toArray, List.set_cons_zero, List.set_cons_succ]))
      clear d0 d1
      refine wpO_C rfl (by rfl) ?_
      go_simp
      refine (minus_any w6.heap.size z2 a2 len2 cap2 from1 to1 w6 HA.out (Nat.le_refl _) HZ.out (by omega)).mono ?_
      rintro e w7 ⟨vm, rfl, hown7, hb⟩
      refine ⟨hb, ?_⟩
      try simp only [Act.put, List.setIfInBounds_toArray, List.set_cons_zero, List.set_cons_succ]
      obtain ⟨ma, mc, rfl, _, _, hmA⟩ := own_arr hown7
      have HMA := Lib.hid hmA
      have hml : (minusS z2 (from1, to1)).length ≤ 1000000 := by have := minus_len (from1, to1) z2; have := HZ.out; omega
      clear hown7 hmA
      replace K0 := Lib.hid (K0.out.bel2 hb K0.out.lt)
      replace K1 := Lib.hid (K1.out.bel2 hb K1.out.lt)
      replace HA := Lib.hid (HA.out.later (N := 0) hb)
      replace KB := Lib.hid (KB.out.trans (hb.mono KB.out.size))
      have hz := K1.out.lt
      clear hb
      repeat (first | (refine wpO_F (v := ?_) rfl (by rfl) (fun w' hL => ?_) ?_; rotate_left; (solve | (go_simp; with_reducible rfl) | go_simp); try simp only [Act.put, List.setIfInBounds_toArray, List.set_cons_zero, List.set_cons_succ]) | (refine wpO_G rfl (by rfl) ?_; try simp only [Act.put, List.setIfInBounds_toArray, List.set_cons_zero, List.set_cons_succ]))
      refine wpO_C rfl (by rfl) ?_
      go_simp
      refine (count_any _ (minusS z2 (from1, to1)) ma _ mc a3 _ HMA.out (Nat.le_refl _) rfl hml).mono ?_
      rintro e w8 ⟨rfl, hb⟩
      refine ⟨hb, ?_⟩
      try simp only [Act.put, List.setIfInBounds_toArray, List.set_cons_zero, List.set_cons_succ]
      have hmn := HMN.out
      rw [← cnt_minus (from1, to1) a3 z2] at hmn
      rw [hmn]
      clear hmn
      clear HMA hml
      replace K0 := Lib.hid (K0.out.bel2 hb K0.out.lt)
      replace K1 := Lib.hid (K1.out.bel2 hb K1.out.lt)
      replace HA := Lib.hid (HA.out.later (N := 0) hb)
      replace KB := Lib.hid (KB.out.trans (hb.mono KB.out.size))
      have hz := K1.out.lt
      clear hb
      repeat (first | (refine wpO_F (v := ?_) rfl (by rfl) (fun w' hL => ?_) ?_; rotate_left; (solve | (go_simp; with_reducible rfl) | go_simp); try simp only [Act.put, List.setIfInBounds_toArray, List.set_cons_zero, List.set_cons_succ]) | (refine wpO_G rfl (by rfl) ?_; try simp only [Act.put, List.setIfInBounds_toArray, List.set_cons_zero, List.set_cons_succ]))
      refine wpO_nil ?_
      go_wp2_with fail
      refine (count_any _ z2 a2 len2 cap2 a3 _ HA.out (Nat.le_refl _) HZ.out (by omega)).mono ?_
      rintro e w9 ⟨rfl, hb⟩
      rw [HCN.out]
      replace K0 := Lib.hid (K0.out.bel2 hb K0.out.lt)
      replace K1 := Lib.hid (K1.out.bel2 hb K1.out.lt)
      replace HA := Lib.hid (HA.out.later (N := 0) hb)
      replace KB := Lib.hid (KB.out.trans (hb.mono KB.out.size))
      have hz := K1.out.lt
      clear hb
      have cK10 : w9.cell? ⟨w.heap.size + 1, 0, none⟩ = some (.int .i64 from1) := K1.out.cell 0
      have cK11 : w9.cell? ⟨w.heap.size + 1, 1, none⟩ = some (.int .i64 to1) := K1.out.cell 1
      go_wp2_with fail
      clear cK10 cK11
      refine (PHas_any from1 to1 a3 _).mono ?_
      rintro e w10 ⟨rfl, hb⟩
      rw [HHb.out]
      replace K0 := Lib.hid (K0.out.bel2 hb K0.out.lt)
      replace K1 := Lib.hid (K1.out.bel2 hb K1.out.lt)
      replace HA := Lib.hid (HA.out.later (N := 0) hb)
      replace KB := Lib.hid (KB.out.trans (hb.mono KB.out.size))
      have hz := K1.out.lt
      clear hb
      go_wp2_with fail
      refine (alive14 _).mono ?_
      rintro e w11 ⟨rfl, hb⟩
      replace K0 := Lib.hid (K0.out.bel2 hb K0.out.lt)
      replace K1 := Lib.hid (K1.out.bel2 hb K1.out.lt)
      replace HA := Lib.hid (HA.out.later (N := 0) hb)
      replace KB := Lib.hid (KB.out.trans (hb.mono KB.out.size))
      have hz := K1.out.lt
      clear hb
      go_wp2_with fail
      refine (count_any _ z2 a2 len2 cap2 a3 _ HA.out (Nat.le_refl _) HZ.out (by omega)).mono ?_
      rintro e w12 ⟨rfl, hb⟩
      rw [HCN.out]
      replace K0 := Lib.hid (K0.out.bel2 hb K0.out.lt)
      replace K1 := Lib.hid (K1.out.bel2 hb K1.out.lt)
      replace HA := Lib.hid (HA.out.later (N := 0) hb)
      replace KB := Lib.hid (KB.out.trans (hb.mono KB.out.size))
      have hz := K1.out.lt
      clear hb
      go_wp2
      go_ret
      exact ⟨rfl, KB.out⟩
  · -- s has it: T, by has it: T, they overlap: T
    have HN : Hid (((cnt (cutS (from0, to0) (from1, to1)) a3 : Nat) : Int) = 0) := by show _ = _; rw [hn]; rfl
    have HBoth : Hid (bothS (from0, to0) (from1, to1) = ((bx, by_), true)) := HBoth0.out.symm
    have HHB : Hid (hasB (bx, by_) a3 = true) := hbh
    clear hn hbh HBoth0
    subst hmc
    rcases huc with ⟨rfl, hcN⟩ | ⟨rfl, rfl⟩
    all_goals
      go_enter Try.func5, Try.ntmps5
      go_wp2_with fail
      refine (cut_any from0 to0 from1 to1 _).mono ?_
      rintro e w1 ⟨v1, he, hown, hb⟩
      rw [HBoth.out] at he
      subst he
      obtain ⟨ca, cc, rfl, _, _, hcA⟩ := own_arr hown
      have k0 := K0.out.bel2 hb K0.out.lt
      have k1 := K1.out.bel2 hb K1.out.lt
      have ka := HA.out.later (N := 0) hb
      have kb := KB.out.trans (hb.mono KB.out.size)
      have hz1 := k1.lt
      replace K0 := Lib.hid (k0.alloc (.cells #[.int .i64 bx, .int .i64 by_] 23))
      replace K1 := Lib.hid (k1.alloc (.cells #[.int .i64 bx, .int .i64 by_] 23))
      have K2 := Lib.hid (Blk.new w1 23 #[.int .i64 bx, .int .i64 by_])
      replace HA := Lib.hid (ka.later (N := 0) ((Below.refl w1.heap.size w1).alloc (Nat.le_refl _) (.cells #[.int .i64 bx, .int .i64 by_] 23)))
      have HCA := Lib.hid (hcA.later (N := 0) ((Below.refl w1.heap.size w1).alloc (Nat.le_refl _) (.cells #[.int .i64 bx, .int .i64 by_] 23)))
      replace KB := Lib.hid (kb.alloc (by omega) (.cells #[.int .i64 bx, .int .i64 by_] 23))
      have HCL : Hid (cc = cc) := rfl
      clear hown hcA k0 k1 ka kb hb
      go_wp2_with fail
      refine (count_any _ (cutS (from0, to0) (from1, to1)) ca _ cc a3 _ HCA.out (Nat.le_refl _) rfl (Nat.le_trans (cutS_le _ _) (by omega))).mono ?_
      rintro e w2 ⟨rfl, hb⟩
      rw [HN.out]
      clear HCA
      generalize hX : w1.alloc (.cells #[.int .i64 bx, .int .i64 by_] 23) = X1 at *
      replace K0 := Lib.hid (K0.out.bel2 hb K0.out.lt)
      replace K1 := Lib.hid (K1.out.bel2 hb K1.out.lt)
      replace K2 := Lib.hid (K2.out.bel2 hb K2.out.lt)
      replace HA := Lib.hid (HA.out.later (N := 0) hb)
      replace KB := Lib.hid (KB.out.trans (hb.mono KB.out.size))
      have hz := K1.out.lt
      clear hb
      clear hX
      have cK20 : w2.cell? ⟨w1.heap.size, 0, none⟩ = some (.int .i64 bx) := K2.out.cell 0
      have cK21 : w2.cell? ⟨w1.heap.size, 1, none⟩ = some (.int .i64 by_) := K2.out.cell 1
      go_wp2_with fail
      clear cK20 cK21
      refine (PHas_any bx by_ a3 _).mono ?_
      rintro e w3 ⟨rfl, hb⟩
      rw [HHB.out]
      replace K0 := Lib.hid (K0.out.bel2 hb K0.out.lt)
      replace K1 := Lib.hid (K1.out.bel2 hb K1.out.lt)
      replace HA := Lib.hid (HA.out.later (N := 0) hb)
      replace KB := Lib.hid (KB.out.trans (hb.mono KB.out.size))
      have hz := K1.out.lt
      clear hb
      have cK00 : w3.cell? ⟨w.heap.size, 0, none⟩ = some (.int .i64 from0) := K0.out.cell 0
      have cK01 : w3.cell? ⟨w.heap.size, 1, none⟩ = some (.int .i64 to0) := K0.out.cell 1
      go_wp2_with fail
      clear cK00 cK01
      refine (PHas_any from0 to0 a3 _).mono ?_
      rintro e w4 ⟨rfl, hb⟩
      rw [HHs.out]
      replace K0 := Lib.hid (K0.out.bel2 hb K0.out.lt)
      replace K1 := Lib.hid (K1.out.bel2 hb K1.out.lt)
      replace HA := Lib.hid (HA.out.later (N := 0) hb)
      replace KB := Lib.hid (KB.out.trans (hb.mono KB.out.size))
      have hz := K1.out.lt
      clear hb
      have d0 : ∀ W, Later w4.drew W → W.cell? ⟨w.heap.size + 1, 0, none⟩ = some (.int .i64 from1) := fun W hW => (Below.cell (p := ⟨w.heap.size + 1, 0, none⟩) ((Below.refl w4.heap.size w4).drew.trans hW) K1.out.lt).trans (K1.out.cell 0)
      have d1 : ∀ W, Later w4.drew W → W.cell? ⟨w.heap.size + 1, 1, none⟩ = some (.int .i64 to1) := fun W hW => (Below.cell (p := ⟨w.heap.size + 1, 1, none⟩) ((Below.refl w4.heap.size w4).drew.trans hW) K1.out.lt).trans (K1.out.cell 1)
      go_wp2_with fail
      refine wp_region_ord [(0, true), (2, true), (4, true), (5, true), (7, true), (1, false), (3, false), (6, false), (8, false), (9, true), (10, true)] (by kernel_rfl) (by kernel_rfl) (by kernel_rfl) (by kernel_rfl) ?_
      repeat (first | (refine wpO_F (v := ?_) rfl (by rfl) (fun w' hL => ?_) ?_; rotate_left; (solve | (go_simp; with_reducible rfl) | go_simp); try simp only [Act.put, List.setIfInBounds_toArray, List.set_cons_zero, List.set_cons_succ]) | (refine wpO_G rfl (by rfl) ?_; try simp only [Act.put, List.setIfInBounds_toArray, List.set_cons_zero, List.set_cons_succ]))
      clear d0 d1
      refine wpO_C rfl (by rfl) ?_
      go_simp
      refine (union_any w4.heap.size z2 a2 len2 cap2 w4.drew (show Arr w4.heap.size w4.drew a2 (cellsT z2) from HA.out) (Nat.le_refl _) HZ.out (by omega)).mono ?_
      rintro e w5 ⟨u, vu, hu, rfl, hown5, hb5⟩
      refine ⟨hb5, ?_⟩
      try simp only [Act.put, List.setIfInBounds_toArray, List.set_cons_zero, List.set_cons_succ]
      obtain ⟨ua, uc, rfl, _, _, huA⟩ := own_arr hown5
      have HUA := Lib.hid huA
      have HU := Lib.hid hu
      have hul : u.length ≤ 1000000 := by
        obtain ⟨dd, hp, _, hj⟩ := hu
        rw [hj]
        have h1 : dd.length = (validL z2).length := hp.length_eq
        have h2 := validL_le z2
        have h3 := HZ.out
        have h4 : (joinS dd).length ≤ dd.length + 1 := by
          cases dd with
          | nil => simp [joinS]
          | cons s r => exact Nat.le_trans (mrg_len r s) (by simp)
        omega
      have hb : Below w4.heap.size w4 w5 := ⟨hb5.os, hb5.tape, hb5.output, hb5.size, hb5.block⟩
      replace K0 := Lib.hid (K0.out.bel2 hb K0.out.lt)
      replace K1 := Lib.hid (K1.out.bel2 hb K1.out.lt)
      replace HA := Lib.hid (HA.out.later (N := 0) hb)
      replace KB := Lib.hid (KB.out.trans (hb.mono KB.out.size))
      have hz := K1.out.lt
      clear hb
      clear hown5 hb5 huA hu
      have d0 : ∀ W, Later w5 W → W.cell? ⟨w.heap.size + 1, 0, none⟩ = some (.int .i64 from1) := fun W hW => (Below.cell (p := ⟨w.heap.size + 1, 0, none⟩) hW K1.out.lt).trans (K1.out.cell 0)
      have d1 : ∀ W, Later w5 W → W.cell? ⟨w.heap.size + 1, 1, none⟩ = some (.int .i64 to1) := fun W hW => (Below.cell (p := ⟨w.heap.size + 1, 1, none⟩) hW K1.out.lt).trans (K1.out.cell 1)
      repeat (first | (refine wpO_F (v := ?_) rfl (by rfl) (fun w' hL => ?_) ?_; rotate_left; (solve | (go_simp; with_reducible rfl) | go_simp); try simp only [Act.put, List.setIfInBounds_toArray, List.set_cons_zero, List.set_cons_succ]) | (refine wpO_G rfl (by rfl) ?_; try simp only [Act.put, List.setIfInBounds_toArray, List.set_cons_zero, List.set_cons_succ]))
      clear d0 d1
      refine wpO_C rfl (by rfl) ?_
      go_simp
      refine (count_any _ u ua _ uc a3 _ HUA.out (Nat.le_refl _) rfl hul).mono ?_
      rintro e w6 ⟨rfl, hb⟩
      refine ⟨hb, ?_⟩
      try simp only [Act.put, List.setIfInBounds_toArray, List.set_cons_zero, List.set_cons_succ]
      have hun := HUN.out
      rw [← cnt_union HU.out a3] at hun
      rw [hun]
      clear hun
      clear HUA HU hul
      replace K0 := Lib.hid (K0.out.bel2 hb K0.out.lt)
      replace K1 := Lib.hid (K1.out.bel2 hb K1.out.lt)
      replace HA := Lib.hid (HA.out.later (N := 0) hb)
      replace KB := Lib.hid (KB.out.trans (hb.mono KB.out.size))
      have hz := K1.out.lt
      clear hb
      have d0 : ∀ W, Later w6 W → W.cell? ⟨w.heap.size + 1, 0, none⟩ = some (.int .i64 from1) := fun W hW => (Below.cell (p := ⟨w.heap.size + 1, 0, none⟩) hW K1.out.lt).trans (K1.out.cell 0)
      have d1 : ∀ W, Later w6 W → W.cell? ⟨w.heap.size + 1, 1, none⟩ = some (.int .i64 to1) := fun W hW => (Below.cell (p := ⟨w.heap.size + 1, 1, none⟩) hW K1.out.lt).trans (K1.out.cell 1)
      repeat (first | (refine wpO_F (v := ?_) rfl (by rfl) (fun w' hL => ?_) ?_; rotate_left; (solve | (go_simp; with_reducible rfl) | go_simp); try simp only [Act.put, List.setIfInBounds_toArray, List.set_cons_zero, List.set_cons_succ]) | (refine wpO_G rfl (by rfl) ?_; try simp only [Act.put, List.setIfInBounds_toArray, List.set_cons_zero, List.set_cons_succ]))
      clear d0 d1
      refine wpO_C rfl (by rfl) ?_
      go_simp
      refine (minus_any w6.heap.size z2 a2 len2 cap2 from1 to1 w6 HA.out (Nat.le_refl _) HZ.out (by omega)).mono ?_
      rintro e w7 ⟨vm, rfl, hown7, hb⟩
      refine ⟨hb, ?_⟩
      try simp only [Act.put, List.setIfInBounds_toArray, List.set_cons_zero, List.set_cons_succ]
      obtain ⟨ma, mc, rfl, _, _, hmA⟩ := own_arr hown7
      have HMA := Lib.hid hmA
      have hml : (minusS z2 (from1, to1)).length ≤ 1000000 := by have := minus_len (from1, to1) z2; have := HZ.out; omega
      clear hown7 hmA
      replace K0 := Lib.hid (K0.out.bel2 hb K0.out.lt)
      replace K1 := Lib.hid (K1.out.bel2 hb K1.out.lt)
      replace HA := Lib.hid (HA.out.later (N := 0) hb)
      replace KB := Lib.hid (KB.out.trans (hb.mono KB.out.size))
      have hz := K1.out.lt
      clear hb
      repeat (first | (refine wpO_F (v := ?_) rfl (by rfl) (fun w' hL => ?_) ?_; rotate_left; (solve | (go_simp; with_reducible rfl) | go_simp); try simp only [Act.put, List.setIfInBounds_toArray, List.set_cons_zero, List.set_cons_succ]) | (refine wpO_G rfl (by rfl) ?_; try simp only [Act.put, List.setIfInBounds_toArray, List.set_cons_zero, List.set_cons_succ]))
      refine wpO_C rfl (by rfl) ?_
      go_simp
      refine (count_any _ (minusS z2 (from1, to1)) ma _ mc a3 _ HMA.out (Nat.le_refl _) rfl hml).mono ?_
      rintro e w8 ⟨rfl, hb⟩
      refine ⟨hb, ?_⟩
      try simp only [Act.put, List.setIfInBounds_toArray, List.set_cons_zero, List.set_cons_succ]
      have hmn := HMN.out
      rw [← cnt_minus (from1, to1) a3 z2] at hmn
      rw [hmn]
      clear hmn
      clear HMA hml
      replace K0 := Lib.hid (K0.out.bel2 hb K0.out.lt)
      replace K1 := Lib.hid (K1.out.bel2 hb K1.out.lt)
      replace HA := Lib.hid (HA.out.later (N := 0) hb)
      replace KB := Lib.hid (KB.out.trans (hb.mono KB.out.size))
      have hz := K1.out.lt
      clear hb
      repeat (first | (refine wpO_F (v := ?_) rfl (by rfl) (fun w' hL => ?_) ?_; rotate_left; (solve | (go_simp; with_reducible rfl) | go_simp); try simp only [Act.put, List.setIfInBounds_toArray, List.set_cons_zero, List.set_cons_succ]) | (refine wpO_G rfl (by rfl) ?_; try simp only [Act.put, List.setIfInBounds_toArray, List.set_cons_zero, List.set_cons_succ]))
      refine wpO_nil ?_
      go_wp2_with fail
      refine (count_any _ z2 a2 len2 cap2 a3 _ HA.out (Nat.le_refl _) HZ.out (by omega)).mono ?_
      rintro e w9 ⟨rfl, hb⟩
      rw [HCN.out]
      replace K0 := Lib.hid (K0.out.bel2 hb K0.out.lt)
      replace K1 := Lib.hid (K1.out.bel2 hb K1.out.lt)
      replace HA := Lib.hid (HA.out.later (N := 0) hb)
      replace KB := Lib.hid (KB.out.trans (hb.mono KB.out.size))
      have hz := K1.out.lt
      clear hb
      have cK10 : w9.cell? ⟨w.heap.size + 1, 0, none⟩ = some (.int .i64 from1) := K1.out.cell 0
      have cK11 : w9.cell? ⟨w.heap.size + 1, 1, none⟩ = some (.int .i64 to1) := K1.out.cell 1
      go_wp2_with fail
      clear cK10 cK11
      refine (PHas_any from1 to1 a3 _).mono ?_
      rintro e w10 ⟨rfl, hb⟩
      rw [HHb.out]
      replace K0 := Lib.hid (K0.out.bel2 hb K0.out.lt)
      replace K1 := Lib.hid (K1.out.bel2 hb K1.out.lt)
      replace HA := Lib.hid (HA.out.later (N := 0) hb)
      replace KB := Lib.hid (KB.out.trans (hb.mono KB.out.size))
      have hz := K1.out.lt
      clear hb
      go_wp2_with fail
      refine (alive14 _).mono ?_
      rintro e w11 ⟨rfl, hb⟩
      replace K0 := Lib.hid (K0.out.bel2 hb K0.out.lt)
      replace K1 := Lib.hid (K1.out.bel2 hb K1.out.lt)
      replace HA := Lib.hid (HA.out.later (N := 0) hb)
      replace KB := Lib.hid (KB.out.trans (hb.mono KB.out.size))
      have hz := K1.out.lt
      clear hb
      go_wp2_with fail
      refine (count_any _ z2 a2 len2 cap2 a3 _ HA.out (Nat.le_refl _) HZ.out (by omega)).mono ?_
      rintro e w12 ⟨rfl, hb⟩
      rw [HCN.out]
      replace K0 := Lib.hid (K0.out.bel2 hb K0.out.lt)
      replace K1 := Lib.hid (K1.out.bel2 hb K1.out.lt)
      replace HA := Lib.hid (HA.out.later (N := 0) hb)
      replace KB := Lib.hid (KB.out.trans (hb.mono KB.out.size))
      have hz := K1.out.lt
      clear hb
      go_wp2
      go_ret
      exact ⟨rfl, KB.out⟩
end Go.Proofs.Ytockmoiekbhneaa
