/- Period: PeriodUnions, walked. -/
import Derived.Test.YtockmoiekbhneaaPAlive
import Derived.Test.YtockmoiekbhneaaPOpen
namespace Go.Proofs.Ytockmoiekbhneaa
open Go.RowKit

/-- The union of a union is it. -/
theorem isU_nrm {u v : List (Int × Int)} (hu : Nrm u) (h : IsU u v) : v = u := Nrm.same h.nrm hu fun p => h.pts p
theorem isU_len {l u : List (Int × Int)} (h : IsU l u) : u.length ≤ l.length + 1 := by
  obtain ⟨dd, hp, _, hj⟩ := h
  rw [hj]
  have h1 : dd.length = (validL l).length := hp.length_eq
  have h2 := validL_le l
  have h4 : (joinS dd).length ≤ dd.length + 1 := by
    cases dd with
    | nil => simp [joinS]
    | cons s r => exact Nat.le_trans (mrg_len r s) (by simp)
  omega
theorem nrm_meets {u : List (Int × Int)} (h : Nrm u) {i : Nat} {s t : Int × Int} (hs : u[i]? = some s) (ht : u[i + 1]? = some t) : meetsB s t = false := by
  have := h.get hs ht (by omega)
  unfold meetsB
  rw [show decide (s.2 = t.1) = false by simp; omega]
  simp
theorem both_sym (a b : Int × Int) : bothS a b = bothS b a := by unfold bothS; rw [Int.max_comm, Int.min_comm]
theorem contains_both {a b : Int × Int} (h : containsB a b = true) : (bothS a b).1 = b := by
  unfold containsB rightB at h
  simp only [Bool.and_eq_true, decide_eq_true_eq] at h
  unfold bothS
  obtain ⟨⟨⟨h1, h2⟩, h3⟩, h4⟩ := h
  rw [if_pos (by omega)]
  exact Prod.ext (by simp only; omega) (by simp only; omega)

set_option maxRecDepth 100000 in
set_option maxHeartbeats 4000000 in
theorem uns_long (a0 : Option Addr) (len0 cap0 : Nat) (from1 to1 from2 to2 : Int) (w : World) (h : 60 < len0) :
    Calls Try.prog 6 #[.slice a0 len0 cap0, .agg #[.int .i64 from1, .int .i64 to1], .agg #[.int .i64 from2, .int .i64 to2]] w fun e w' => e = .returned (.bool true) ∧ Below w.heap.size w w' := by
  have q0 : decide ((60 : Int) < (len0 : Int)) = true := by simp; omega
  go_enter Try.func6, Try.ntmps6
  go_wp2_with fail
  refine (alive14 _).mono ?_
  rintro e w1 ⟨rfl, hb⟩
  go_wp2
  go_ret
  exact ⟨rfl, (((Below.refl _ _).alloc (Nat.le_refl _) _).alloc (by simp) _).trans (hb.mono (by simp; omega))⟩

set_option maxRecDepth 100000 in
set_option maxHeartbeats 4000000 in
theorem uns_way (a0 : Option Addr) (len0 cap0 : Nat) (z0 : List (Int × Int)) (from1 to1 from2 to2 : Int) (w : World) (h0 : SpansIn w a0 len0 cap0 z0) (hlen : len0 ≤ 60) :
    Calls Try.prog 6 #[.slice a0 len0 cap0, .agg #[.int .i64 from1, .int .i64 to1], .agg #[.int .i64 from2, .int .i64 to2]] w fun e w' => e = .returned (.bool true) ∧ Below w.heap.size w w' := by
  obtain ⟨hz, hlc, hcm, harr⟩ := h0
  have HZ := Lib.hid hz
  have K0 := Lib.hid ((Blk.new w 23 #[.int .i64 from1, .int .i64 to1]).alloc (.cells #[.int .i64 from2, .int .i64 to2] 23))
  have hk1 := Blk.new (w.alloc (.cells #[.int .i64 from1, .int .i64 to1] 23)) 23 #[.int .i64 from2, .int .i64 to2]
  rw [show (w.alloc (.cells #[.int .i64 from1, .int .i64 to1] 23)).heap.size = w.heap.size + 1 by simp] at hk1
  have K1 := Lib.hid hk1
  have KB := Lib.hid (((Below.refl w.heap.size w).alloc (Nat.le_refl _) (.cells #[.int .i64 from1, .int .i64 to1] 23)).alloc (by simp) (.cells #[.int .i64 from2, .int .i64 to2] 23))
  have HA := Lib.hid ((harr.later (N := 0) ((Below.refl w.heap.size w).alloc (Nat.le_refl _) (.cells #[.int .i64 from1, .int .i64 to1] 23))).later (N := 0) ((Below.refl _ (w.alloc (.cells #[.int .i64 from1, .int .i64 to1] 23))).alloc (Nat.le_refl _) (.cells #[.int .i64 from2, .int .i64 to2] 23)))
  have q0 : decide ((60 : Int) < (len0 : Int)) = false := by simp; omega
  clear hz harr hk1
  go_enter Try.func6, Try.ntmps6
  go_wp2_with fail
  refine (union_any _ z0 a0 len0 cap0 _ HA.out (Nat.le_refl _) HZ.out (by omega)).mono ?_
  rintro e w1 ⟨u, vu, hu, rfl, hown1, hb⟩
  obtain ⟨ua, uc, rfl, huc, _, huA⟩ := own_arr hown1
  have HU := Lib.hid hu.nrm
  have hul : u.length ≤ 62 := by have := isU_len hu; have := HZ.out; omega
  obtain ⟨U, hUl⟩ : ∃ U, U = u.length := ⟨_, rfl⟩
  have HUL := Lib.hid hUl
  rw [← hUl] at hul huc ⊢
  have HUA := Lib.hid huA
  replace K0 := Lib.hid (K0.out.bel2 hb K0.out.lt)
  replace K1 := Lib.hid (K1.out.bel2 hb K1.out.lt)
  replace KB := Lib.hid (KB.out.trans (hb.mono KB.out.size))
  clear hb hown1 huA hu hUl HA
  go_wp2_with fail
  refine (union_any _ u ua U uc _ HUA.out (Nat.le_refl _) HUL.out (by omega)).mono ?_
  rintro e w2 ⟨v, vv, hv, rfl, hown2, hb⟩
  obtain rfl := isU_nrm HU.out hv
  obtain ⟨va, vc, rfl, _, _, hvA⟩ := own_arr hown2
  have HVA := Lib.hid hvA
  rw [← HUL.out]
  replace HUA := Lib.hid (HUA.out.later (N := 0) hb)
  replace K0 := Lib.hid (K0.out.bel2 hb K0.out.lt)
  replace K1 := Lib.hid (K1.out.bel2 hb K1.out.lt)
  replace KB := Lib.hid (KB.out.trans (hb.mono KB.out.size))
  clear hb hown2 hvA hv
  go_wp2_with fail
  refine (apart_any _ v ua U uc _ HUA.out (Nat.le_refl _) HUL.out (by omega)).mono ?_
  rintro e w3 ⟨rfl, hb⟩
  rw [HU.out.apart]
  replace HUA := Lib.hid (HUA.out.later (N := 0) hb)
  replace HVA := Lib.hid (HVA.out.later (N := 0) hb)
  replace K0 := Lib.hid (K0.out.bel2 hb K0.out.lt)
  replace K1 := Lib.hid (K1.out.bel2 hb K1.out.lt)
  replace KB := Lib.hid (KB.out.trans (hb.mono KB.out.size))
  clear hb
  go_wp2
  go_loopw [9] (fun i wr => ∃ k : Nat, k ≤ U ∧ i = .int .i64 k ∧ Hid (Below w3.heap.size w3 wr)) (fun i _ => U - (intOf i).toNat)
  case atStart => exact ⟨0, by omega, rfl, Below.refl _ _⟩
  case round =>
    obtain ⟨k, hk, rfl, HB⟩ := hrel
    have hbw := HB.out.size
    by_cases hlt : k < U
    · have hkl : k < v.length := by have := HUL.out; omega
      obtain ⟨ub, uo, rfl, hub, c0, c1⟩ := spanAt HUA.out hkl
      obtain ⟨vb, vo, rfl, hvb, c2, c3⟩ := spanAt HVA.out hkl
      have C0 := Lib.hid ((HB.out.cell (p := ⟨ub, uo + k * 2, none⟩) hub).trans c0)
      have C1 := Lib.hid ((HB.out.cell (p := ⟨ub, uo + k * 2 + 1, none⟩) hub).trans c1)
      have C2 := Lib.hid ((HB.out.cell (p := ⟨vb, vo + k * 2, none⟩) hvb).trans c2)
      have C3 := Lib.hid ((HB.out.cell (p := ⟨vb, vo + k * 2 + 1, none⟩) hvb).trans c3)
      have hget := List.getElem?_eq_getElem hkl
      obtain ⟨⟨f, t⟩, hft⟩ : ∃ x, x = v[k] := ⟨_, rfl⟩
      rw [← hft] at C0 C1 C2 C3 hget
      have HGet := Lib.hid hget
      clear c0 c1 c2 c3 hft hget
      have d0 : ∀ W, Later wr.drew W → W.cell? ⟨ub, uo + k * 2, none⟩ = some (.int .i64 f) := fun W hW => ((Below.refl wr.heap.size wr).drew.trans hW |>.cell (p := ⟨ub, uo + k * 2, none⟩) (by show ub < _; omega)).trans C0.out
      have d1 : ∀ W, Later wr.drew W → W.cell? ⟨ub, uo + k * 2 + 1, none⟩ = some (.int .i64 t) := fun W hW => ((Below.refl wr.heap.size wr).drew.trans hW |>.cell (p := ⟨ub, uo + k * 2 + 1, none⟩) (by show ub < _; omega)).trans C1.out
      have d2 : ∀ W, Later wr.drew W → W.cell? ⟨vb, vo + k * 2, none⟩ = some (.int .i64 f) := fun W hW => ((Below.refl wr.heap.size wr).drew.trans hW |>.cell (p := ⟨vb, vo + k * 2, none⟩) (by show vb < _; omega)).trans C2.out
      have d3 : ∀ W, Later wr.drew W → W.cell? ⟨vb, vo + k * 2 + 1, none⟩ = some (.int .i64 t) := fun W hW => ((Below.refl wr.heap.size wr).drew.trans hW |>.cell (p := ⟨vb, vo + k * 2 + 1, none⟩) (by show vb < _; omega)).trans C3.out
      by_cases h0 : 0 < k
      · have hkl1 : k - 1 < v.length := by omega
        obtain ⟨_, _, he, _, e0, e1⟩ := spanAt HUA.out hkl1
        simp only [Option.some.injEq, Addr.mk.injEq, and_true] at he
        obtain ⟨rfl, rfl⟩ := he
        have hgp := List.getElem?_eq_getElem hkl1
        obtain ⟨⟨pf, pt⟩, hp⟩ : ∃ x, x = v[k - 1] := ⟨_, rfl⟩
        rw [← hp] at e0 e1 hgp
        have E0 := Lib.hid ((HB.out.cell (p := ⟨ub, uo + (k - 1) * 2, none⟩) hub).trans e0)
        have E1 := Lib.hid ((HB.out.cell (p := ⟨ub, uo + (k - 1) * 2 + 1, none⟩) hub).trans e1)
        have hmt : meetsB (pf, pt) (f, t) = false := nrm_meets HU.out (i := k - 1) hgp (by rw [show k - 1 + 1 = k by omega]; exact HGet.out)
        have HMt := Lib.hid hmt
        clear e0 e1 hgp hp hmt
        have d4 : ∀ W, Later wr.drew W → W.cell? ⟨ub, uo + (k - 1) * 2, none⟩ = some (.int .i64 pf) := fun W hW => ((Below.refl wr.heap.size wr).drew.trans hW |>.cell (p := ⟨ub, uo + (k - 1) * 2, none⟩) (by show ub < _; omega)).trans E0.out
        have d5 : ∀ W, Later wr.drew W → W.cell? ⟨ub, uo + (k - 1) * 2 + 1, none⟩ = some (.int .i64 pt) := fun W hW => ((Below.refl wr.heap.size wr).drew.trans hW |>.cell (p := ⟨ub, uo + (k - 1) * 2 + 1, none⟩) (by show ub < _; omega)).trans E1.out
        have q1 : decide ((0 : Int) < (k : Int)) = true := by simp; omega
        have q2 : decide (0 < k) = true := by simp; omega
        have b0 : IntKind.i64.wrap ((k : Int) - 1) = ((k - 1 : Nat) : Int) := by rw [IntWalk.i64_in _ ⟨by omega, by omega⟩]; omega
        have b1 : k - 1 < U := by omega
        go_wp2_with fail
        refine wp_region_ord [(0, true), (1, true), (2, true), (3, true), (4, true), (5, true), (6, true), (7, true), (8, true), (9, true), (10, true), (11, true), (12, true), (13, true), (14, true), (15, true), (16, true), (17, true), (18, true), (19, true), (20, true), (21, true), (22, false), (23, true), (24, true)] (by kernel_rfl) (by kernel_rfl) (by kernel_rfl) (by kernel_rfl) ?_
        repeat (first | (refine wpO_F (v := ?_) rfl (by rfl) (fun w' hL => ?_) ?_; rotate_left; (solve | (go_simp; with_reducible rfl) | go_simp); try simp only [Act.put, List.setIfInBounds_toArray, List.set_cons_zero, List.set_cons_succ]) | (refine wpO_G rfl (by rfl) ?_; try simp only [Act.put, List.setIfInBounds_toArray, List.set_cons_zero, List.set_cons_succ]))
        refine wpO_C rfl (by rfl) ?_
        go_simp
        refine (PMeets_any pf pt f t _).mono ?_
        rintro e w5 ⟨rfl, hb5⟩
        refine ⟨hb5, ?_⟩
        try simp only [Act.put, List.setIfInBounds_toArray, List.set_cons_zero, List.set_cons_succ]
        rw [HMt.out]
        repeat (first | (refine wpO_F (v := ?_) rfl (by rfl) (fun w' hL => ?_) ?_; rotate_left; (solve | (go_simp; with_reducible rfl) | go_simp); try simp only [Act.put, List.setIfInBounds_toArray, List.set_cons_zero, List.set_cons_succ]) | (refine wpO_G rfl (by rfl) ?_; try simp only [Act.put, List.setIfInBounds_toArray, List.set_cons_zero, List.set_cons_succ]))
        refine wpO_nil ?_
        clear d0 d1 d2 d3 d4 d5 q1 q2 b0 b1
        have HB5 := Lib.hid (HB.out.drew.trans (Below.mono hb5 (show w3.heap.size ≤ wr.drew.heap.size from hbw)))
        clear hb5
        go_wp2
        go_roundw
        case rel => exact ⟨k + 1, by omega, by go_num, HB5⟩
        case measure => simp [intOf]; omega
      · have q1 : decide ((0 : Int) < (k : Int)) = false := by simp; omega
        have q2 : decide (0 < k) = false := by simp; omega
        go_wp2_with fail
        refine wp_region_ord [(0, true), (1, true), (2, true), (3, true), (4, true), (5, true), (6, true), (7, true), (8, true), (9, true), (10, true), (11, true), (12, true), (13, true), (14, true), (15, true), (16, true), (17, true), (18, true), (19, true), (20, true), (21, true), (22, false), (23, true), (24, true)] (by kernel_rfl) (by kernel_rfl) (by kernel_rfl) (by kernel_rfl) ?_
        repeat (first | (refine wpO_F (v := ?_) rfl (by rfl) (fun w' hL => ?_) ?_; rotate_left; (solve | (go_simp; with_reducible rfl) | go_simp); try simp only [Act.put, List.setIfInBounds_toArray, List.set_cons_zero, List.set_cons_succ]) | (refine wpO_G rfl (by rfl) ?_; try simp only [Act.put, List.setIfInBounds_toArray, List.set_cons_zero, List.set_cons_succ]))
        refine wpO_nil ?_
        clear d0 d1 d2 d3 q1 q2
        go_wp2
        go_roundw
        case rel => exact ⟨k + 1, by omega, by go_num, HB.out.drew⟩
        case measure => simp [intOf]; omega
    · obtain rfl : k = U := by omega
      replace K0 := Lib.hid (K0.out.bel2 HB.out K0.out.lt)
      replace K1 := Lib.hid (K1.out.bel2 HB.out K1.out.lt)
      replace KB := Lib.hid (KB.out.trans (HB.out.mono KB.out.size))
      clear HUA HVA HU HUL HB hlt hbw
      have c00 : wr.cell? ⟨w.heap.size, 0, none⟩ = some (.int .i64 from1) := K0.out.cell 0
      have c01 : wr.cell? ⟨w.heap.size, 1, none⟩ = some (.int .i64 to1) := K0.out.cell 1
      have c10 : wr.cell? ⟨w.heap.size + 1, 0, none⟩ = some (.int .i64 from2) := K1.out.cell 0
      have c11 : wr.cell? ⟨w.heap.size + 1, 1, none⟩ = some (.int .i64 to2) := K1.out.cell 1
      obtain ⟨⟨⟨bx, by_⟩, bs⟩, hbo⟩ : ∃ r, r = bothS (from1, to1) (from2, to2) := ⟨_, rfl⟩
      have HBo := Lib.hid hbo
      obtain ⟨cb, hcb⟩ : ∃ r, r = containsB (from1, to1) (from2, to2) := ⟨_, rfl⟩
      have HCb := Lib.hid hcb
      have HCo : Hid (cb = true → (bx, by_) = (from2, to2)) := by
        intro h
        have := contains_both (a := (from1, to1)) (b := (from2, to2)) (by rw [← hcb]; exact h)
        rw [← hbo] at this
        exact this
      clear hbo hcb
      go_wp2_with fail
      clear c00 c01 c10 c11
      refine (PBoth_any from1 to1 from2 to2 _).mono ?_
      rintro e w5 ⟨he, hb⟩
      rw [← HBo.out] at he
      subst he
      have hz5 := Nat.lt_of_lt_of_le K1.out.lt hb.size
      have k0 := (K0.out.bel2 hb K0.out.lt)
      have k1 := (K1.out.bel2 hb K1.out.lt)
      have kb := (KB.out.trans (hb.mono KB.out.size))
      have K10 := Lib.hid (Blk.new w5 23 #[.int .i64 bx, .int .i64 by_])
      replace K0 := Lib.hid (k0.alloc (.cells #[.int .i64 bx, .int .i64 by_] 23))
      replace K1 := Lib.hid (k1.alloc (.cells #[.int .i64 bx, .int .i64 by_] 23))
      replace KB := Lib.hid (kb.alloc (by omega) (.cells #[.int .i64 bx, .int .i64 by_] 23))
      have c00 : w5.cell? ⟨w.heap.size, 0, none⟩ = some (.int .i64 from1) := k0.cell 0
      have c01 : w5.cell? ⟨w.heap.size, 1, none⟩ = some (.int .i64 to1) := k0.cell 1
      have c10 : w5.cell? ⟨w.heap.size + 1, 0, none⟩ = some (.int .i64 from2) := k1.cell 0
      have c11 : w5.cell? ⟨w.heap.size + 1, 1, none⟩ = some (.int .i64 to2) := k1.cell 1
      have hz5' : w.heap.size < w5.heap.size := by omega
      clear hb k0 k1 kb
      go_wp2_with fail
      clear c00 c01 c10 c11
      refine (PBoth_any from2 to2 from1 to1 _).mono ?_
      rintro e w6 ⟨he, hb⟩
      rw [both_sym (from2, to2) (from1, to1), ← HBo.out] at he
      subst he
      have hz6 := Nat.lt_of_lt_of_le K1.out.lt hb.size
      have hz6' : w5.heap.size < w6.heap.size := Nat.lt_of_lt_of_le K10.out.lt hb.size
      have k0 := (K0.out.bel2 hb K0.out.lt)
      have k1 := (K1.out.bel2 hb K1.out.lt)
      have k10 := (K10.out.bel2 hb K10.out.lt)
      have kb := (KB.out.trans (hb.mono KB.out.size))
      have K12 := Lib.hid (Blk.new w6 23 #[.int .i64 bx, .int .i64 by_])
      replace K0 := Lib.hid (k0.alloc (.cells #[.int .i64 bx, .int .i64 by_] 23))
      replace K1 := Lib.hid (k1.alloc (.cells #[.int .i64 bx, .int .i64 by_] 23))
      replace K10 := Lib.hid (k10.alloc (.cells #[.int .i64 bx, .int .i64 by_] 23))
      replace KB := Lib.hid (kb.alloc (by omega) (.cells #[.int .i64 bx, .int .i64 by_] 23))
      clear hb k0 k1 kb k10
      go_wp2_with fail
      generalize hX : w6.alloc (.cells #[.int .i64 bx, .int .i64 by_] 23) = X at *
      have HD : Hid (∀ W, Below X.heap.size X W → W.cell? ⟨w.heap.size, 0, none⟩ = some (.int .i64 from1) ∧ W.cell? ⟨w.heap.size, 1, none⟩ = some (.int .i64 to1) ∧ W.cell? ⟨w.heap.size + 1, 0, none⟩ = some (.int .i64 from2) ∧ W.cell? ⟨w.heap.size + 1, 1, none⟩ = some (.int .i64 to2) ∧ W.cell? ⟨w5.heap.size, 0, none⟩ = some (.int .i64 bx) ∧ W.cell? ⟨w5.heap.size, 1, none⟩ = some (.int .i64 by_) ∧ W.cell? ⟨w6.heap.size, 0, none⟩ = some (.int .i64 bx) ∧ W.cell? ⟨w6.heap.size, 1, none⟩ = some (.int .i64 by_)) := by
        intro W hW
        have a0 := K0.out.bel2 hW K0.out.lt
        have a1 := K1.out.bel2 hW K1.out.lt
        have a10 := K10.out.bel2 hW K10.out.lt
        have a12 := K12.out.bel2 hW K12.out.lt
        exact ⟨a0.cell 0, a0.cell 1, a1.cell 0, a1.cell 1, a10.cell 0, a10.cell 1, a12.cell 0, a12.cell 1⟩
      clear hX K0 K1 K10 K12
      cases cb
      · skip
        clear HCo
        refine wp_region_ord [(0, false), (1, true), (2, true), (3, true), (5, true), (6, true), (4, false), (7, false), (8, true), (9, true), (10, true), (11, true), (12, true), (13, true), (14, true), (15, true), (16, true), (17, true), (18, true), (19, true), (20, true), (21, true), (22, true), (23, false), (24, true), (25, true), (26, true), (27, true), (28, true), (29, true), (30, true), (31, true)] (by kernel_rfl) (by kernel_rfl) (by kernel_rfl) (by kernel_rfl) ?_
        refine wpO_C rfl (by rfl) ?_
        go_simp
        refine (alive14 _).mono ?_
        rintro e w7 ⟨rfl, hb7⟩
        refine ⟨hb7, ?_⟩
        try simp only [Act.put, List.setIfInBounds_toArray, List.set_cons_zero, List.set_cons_succ]
        have H7 : Hid (Below X.heap.size X w7) := ⟨hb7.os, hb7.tape, hb7.output, hb7.size, hb7.block⟩
        clear hb7
        have d0 : ∀ W, Later w7 W → W.cell? ⟨w.heap.size, 0, none⟩ = some (.int .i64 from1) := fun W hW => (HD.out W (H7.out.trans (Below.mono hW H7.out.size))).1
        have d1 : ∀ W, Later w7 W → W.cell? ⟨w.heap.size, 1, none⟩ = some (.int .i64 to1) := fun W hW => (HD.out W (H7.out.trans (Below.mono hW H7.out.size))).2.1
        have d2 : ∀ W, Later w7 W → W.cell? ⟨w.heap.size + 1, 0, none⟩ = some (.int .i64 from2) := fun W hW => (HD.out W (H7.out.trans (Below.mono hW H7.out.size))).2.2.1
        have d3 : ∀ W, Later w7 W → W.cell? ⟨w.heap.size + 1, 1, none⟩ = some (.int .i64 to2) := fun W hW => (HD.out W (H7.out.trans (Below.mono hW H7.out.size))).2.2.2.1
        have d4 : ∀ W, Later w7 W → W.cell? ⟨w5.heap.size, 0, none⟩ = some (.int .i64 bx) := fun W hW => (HD.out W (H7.out.trans (Below.mono hW H7.out.size))).2.2.2.2.1
        have d5 : ∀ W, Later w7 W → W.cell? ⟨w5.heap.size, 1, none⟩ = some (.int .i64 by_) := fun W hW => (HD.out W (H7.out.trans (Below.mono hW H7.out.size))).2.2.2.2.2.1
        have d6 : ∀ W, Later w7 W → W.cell? ⟨w6.heap.size, 0, none⟩ = some (.int .i64 bx) := fun W hW => (HD.out W (H7.out.trans (Below.mono hW H7.out.size))).2.2.2.2.2.2.1
        have d7 : ∀ W, Later w7 W → W.cell? ⟨w6.heap.size, 1, none⟩ = some (.int .i64 by_) := fun W hW => (HD.out W (H7.out.trans (Below.mono hW H7.out.size))).2.2.2.2.2.2.2
        repeat (first | (refine wpO_F (v := ?_) rfl (by rfl) (fun w' hL => ?_) ?_; rotate_left; (solve | (go_simp; with_reducible rfl) | go_simp); try simp only [Act.put, List.setIfInBounds_toArray, List.set_cons_zero, List.set_cons_succ]) | (refine wpO_G rfl (by rfl) ?_; try simp only [Act.put, List.setIfInBounds_toArray, List.set_cons_zero, List.set_cons_succ]))
        clear d0 d1 d2 d3 d4 d5 d6 d7
        refine wpO_C rfl (by rfl) ?_
        go_simp
        refine (POverlaps_any from1 to1 from2 to2 _).mono ?_
        rintro e w8 ⟨rfl, hb8⟩
        refine ⟨hb8, ?_⟩
        try simp only [Act.put, List.setIfInBounds_toArray, List.set_cons_zero, List.set_cons_succ]
        rw [← HBo.out]
        have H8 := Lib.hid (H7.out.trans (hb8.mono H7.out.size))
        clear hb8
        have d0 : ∀ W, Later w8 W → W.cell? ⟨w.heap.size, 0, none⟩ = some (.int .i64 from1) := fun W hW => (HD.out W (H8.out.trans (Below.mono hW H8.out.size))).1
        have d1 : ∀ W, Later w8 W → W.cell? ⟨w.heap.size, 1, none⟩ = some (.int .i64 to1) := fun W hW => (HD.out W (H8.out.trans (Below.mono hW H8.out.size))).2.1
        have d2 : ∀ W, Later w8 W → W.cell? ⟨w.heap.size + 1, 0, none⟩ = some (.int .i64 from2) := fun W hW => (HD.out W (H8.out.trans (Below.mono hW H8.out.size))).2.2.1
        have d3 : ∀ W, Later w8 W → W.cell? ⟨w.heap.size + 1, 1, none⟩ = some (.int .i64 to2) := fun W hW => (HD.out W (H8.out.trans (Below.mono hW H8.out.size))).2.2.2.1
        have d4 : ∀ W, Later w8 W → W.cell? ⟨w5.heap.size, 0, none⟩ = some (.int .i64 bx) := fun W hW => (HD.out W (H8.out.trans (Below.mono hW H8.out.size))).2.2.2.2.1
        have d5 : ∀ W, Later w8 W → W.cell? ⟨w5.heap.size, 1, none⟩ = some (.int .i64 by_) := fun W hW => (HD.out W (H8.out.trans (Below.mono hW H8.out.size))).2.2.2.2.2.1
        have d6 : ∀ W, Later w8 W → W.cell? ⟨w6.heap.size, 0, none⟩ = some (.int .i64 bx) := fun W hW => (HD.out W (H8.out.trans (Below.mono hW H8.out.size))).2.2.2.2.2.2.1
        have d7 : ∀ W, Later w8 W → W.cell? ⟨w6.heap.size, 1, none⟩ = some (.int .i64 by_) := fun W hW => (HD.out W (H8.out.trans (Below.mono hW H8.out.size))).2.2.2.2.2.2.2
        repeat (first | (refine wpO_F (v := ?_) rfl (by rfl) (fun w' hL => ?_) ?_; rotate_left; (solve | (go_simp; with_reducible rfl) | go_simp); try simp only [Act.put, List.setIfInBounds_toArray, List.set_cons_zero, List.set_cons_succ]) | (refine wpO_G rfl (by rfl) ?_; try simp only [Act.put, List.setIfInBounds_toArray, List.set_cons_zero, List.set_cons_succ]))
        clear d0 d1 d2 d3 d4 d5 d6 d7
        refine wpO_C rfl (by rfl) ?_
        go_simp
        refine (POverlaps_any from2 to2 from1 to1 _).mono ?_
        rintro e w9 ⟨rfl, hb9⟩
        refine ⟨hb9, ?_⟩
        try simp only [Act.put, List.setIfInBounds_toArray, List.set_cons_zero, List.set_cons_succ]
        rw [both_sym (from2, to2) (from1, to1), ← HBo.out]
        have H9 := Lib.hid (H8.out.trans (hb9.mono H8.out.size))
        clear hb9
        have d0 : ∀ W, Later w9 W → W.cell? ⟨w.heap.size, 0, none⟩ = some (.int .i64 from1) := fun W hW => (HD.out W (H9.out.trans (Below.mono hW H9.out.size))).1
        have d1 : ∀ W, Later w9 W → W.cell? ⟨w.heap.size, 1, none⟩ = some (.int .i64 to1) := fun W hW => (HD.out W (H9.out.trans (Below.mono hW H9.out.size))).2.1
        have d2 : ∀ W, Later w9 W → W.cell? ⟨w.heap.size + 1, 0, none⟩ = some (.int .i64 from2) := fun W hW => (HD.out W (H9.out.trans (Below.mono hW H9.out.size))).2.2.1
        have d3 : ∀ W, Later w9 W → W.cell? ⟨w.heap.size + 1, 1, none⟩ = some (.int .i64 to2) := fun W hW => (HD.out W (H9.out.trans (Below.mono hW H9.out.size))).2.2.2.1
        have d4 : ∀ W, Later w9 W → W.cell? ⟨w5.heap.size, 0, none⟩ = some (.int .i64 bx) := fun W hW => (HD.out W (H9.out.trans (Below.mono hW H9.out.size))).2.2.2.2.1
        have d5 : ∀ W, Later w9 W → W.cell? ⟨w5.heap.size, 1, none⟩ = some (.int .i64 by_) := fun W hW => (HD.out W (H9.out.trans (Below.mono hW H9.out.size))).2.2.2.2.2.1
        have d6 : ∀ W, Later w9 W → W.cell? ⟨w6.heap.size, 0, none⟩ = some (.int .i64 bx) := fun W hW => (HD.out W (H9.out.trans (Below.mono hW H9.out.size))).2.2.2.2.2.2.1
        have d7 : ∀ W, Later w9 W → W.cell? ⟨w6.heap.size, 1, none⟩ = some (.int .i64 by_) := fun W hW => (HD.out W (H9.out.trans (Below.mono hW H9.out.size))).2.2.2.2.2.2.2
        repeat (first | (refine wpO_F (v := ?_) rfl (by rfl) (fun w' hL => ?_) ?_; rotate_left; (solve | (go_simp; with_reducible rfl) | go_simp); try simp only [Act.put, List.setIfInBounds_toArray, List.set_cons_zero, List.set_cons_succ]) | (refine wpO_G rfl (by rfl) ?_; try simp only [Act.put, List.setIfInBounds_toArray, List.set_cons_zero, List.set_cons_succ]))
        clear d0 d1 d2 d3 d4 d5 d6 d7
        refine wpO_C rfl (by rfl) ?_
        go_simp
        refine (PContains_any from1 to1 from2 to2 _).mono ?_
        rintro e w10 ⟨rfl, hb10⟩
        refine ⟨hb10, ?_⟩
        try simp only [Act.put, List.setIfInBounds_toArray, List.set_cons_zero, List.set_cons_succ]
        rw [← HCb.out]
        have H10 := Lib.hid (H9.out.trans (hb10.mono H9.out.size))
        clear hb10
        have d0 : ∀ W, Later w10 W → W.cell? ⟨w.heap.size, 0, none⟩ = some (.int .i64 from1) := fun W hW => (HD.out W (H10.out.trans (Below.mono hW H10.out.size))).1
        have d1 : ∀ W, Later w10 W → W.cell? ⟨w.heap.size, 1, none⟩ = some (.int .i64 to1) := fun W hW => (HD.out W (H10.out.trans (Below.mono hW H10.out.size))).2.1
        have d2 : ∀ W, Later w10 W → W.cell? ⟨w.heap.size + 1, 0, none⟩ = some (.int .i64 from2) := fun W hW => (HD.out W (H10.out.trans (Below.mono hW H10.out.size))).2.2.1
        have d3 : ∀ W, Later w10 W → W.cell? ⟨w.heap.size + 1, 1, none⟩ = some (.int .i64 to2) := fun W hW => (HD.out W (H10.out.trans (Below.mono hW H10.out.size))).2.2.2.1
        have d4 : ∀ W, Later w10 W → W.cell? ⟨w5.heap.size, 0, none⟩ = some (.int .i64 bx) := fun W hW => (HD.out W (H10.out.trans (Below.mono hW H10.out.size))).2.2.2.2.1
        have d5 : ∀ W, Later w10 W → W.cell? ⟨w5.heap.size, 1, none⟩ = some (.int .i64 by_) := fun W hW => (HD.out W (H10.out.trans (Below.mono hW H10.out.size))).2.2.2.2.2.1
        have d6 : ∀ W, Later w10 W → W.cell? ⟨w6.heap.size, 0, none⟩ = some (.int .i64 bx) := fun W hW => (HD.out W (H10.out.trans (Below.mono hW H10.out.size))).2.2.2.2.2.2.1
        have d7 : ∀ W, Later w10 W → W.cell? ⟨w6.heap.size, 1, none⟩ = some (.int .i64 by_) := fun W hW => (HD.out W (H10.out.trans (Below.mono hW H10.out.size))).2.2.2.2.2.2.2
        repeat (first | (refine wpO_F (v := ?_) rfl (by rfl) (fun w' hL => ?_) ?_; rotate_left; (solve | (go_simp; with_reducible rfl) | go_simp); try simp only [Act.put, List.setIfInBounds_toArray, List.set_cons_zero, List.set_cons_succ]) | (refine wpO_G rfl (by rfl) ?_; try simp only [Act.put, List.setIfInBounds_toArray, List.set_cons_zero, List.set_cons_succ]))
        refine wpO_nil ?_
        clear d0 d1 d2 d3 d4 d5 d6 d7
        go_wp2
        go_ret
        exact ⟨rfl, KB.out.trans (H10.out.mono KB.out.size)⟩
      · have hcc := HCo.out rfl
        simp only [Prod.mk.injEq] at hcc
        obtain ⟨hc1, hc2⟩ := hcc
        subst bx
        subst by_
        clear HCo
        refine wp_region_ord [(0, false), (1, true), (2, true), (3, true), (5, true), (6, true), (4, false), (7, false), (8, true), (9, true), (10, true), (11, true), (12, true), (13, true), (14, true), (15, true), (16, true), (17, true), (18, true), (19, true), (20, true), (21, true), (22, true), (23, false), (24, true), (25, true), (26, true), (27, true), (28, true), (29, true), (30, true), (31, true)] (by kernel_rfl) (by kernel_rfl) (by kernel_rfl) (by kernel_rfl) ?_
        refine wpO_C rfl (by rfl) ?_
        go_simp
        refine (alive14 _).mono ?_
        rintro e w7 ⟨rfl, hb7⟩
        refine ⟨hb7, ?_⟩
        try simp only [Act.put, List.setIfInBounds_toArray, List.set_cons_zero, List.set_cons_succ]
        have H7 : Hid (Below X.heap.size X w7) := ⟨hb7.os, hb7.tape, hb7.output, hb7.size, hb7.block⟩
        clear hb7
        have d0 : ∀ W, Later w7 W → W.cell? ⟨w.heap.size, 0, none⟩ = some (.int .i64 from1) := fun W hW => (HD.out W (H7.out.trans (Below.mono hW H7.out.size))).1
        have d1 : ∀ W, Later w7 W → W.cell? ⟨w.heap.size, 1, none⟩ = some (.int .i64 to1) := fun W hW => (HD.out W (H7.out.trans (Below.mono hW H7.out.size))).2.1
        have d2 : ∀ W, Later w7 W → W.cell? ⟨w.heap.size + 1, 0, none⟩ = some (.int .i64 from2) := fun W hW => (HD.out W (H7.out.trans (Below.mono hW H7.out.size))).2.2.1
        have d3 : ∀ W, Later w7 W → W.cell? ⟨w.heap.size + 1, 1, none⟩ = some (.int .i64 to2) := fun W hW => (HD.out W (H7.out.trans (Below.mono hW H7.out.size))).2.2.2.1
        have d4 : ∀ W, Later w7 W → W.cell? ⟨w5.heap.size, 0, none⟩ = some (.int .i64 from2) := fun W hW => (HD.out W (H7.out.trans (Below.mono hW H7.out.size))).2.2.2.2.1
        have d5 : ∀ W, Later w7 W → W.cell? ⟨w5.heap.size, 1, none⟩ = some (.int .i64 to2) := fun W hW => (HD.out W (H7.out.trans (Below.mono hW H7.out.size))).2.2.2.2.2.1
        have d6 : ∀ W, Later w7 W → W.cell? ⟨w6.heap.size, 0, none⟩ = some (.int .i64 from2) := fun W hW => (HD.out W (H7.out.trans (Below.mono hW H7.out.size))).2.2.2.2.2.2.1
        have d7 : ∀ W, Later w7 W → W.cell? ⟨w6.heap.size, 1, none⟩ = some (.int .i64 to2) := fun W hW => (HD.out W (H7.out.trans (Below.mono hW H7.out.size))).2.2.2.2.2.2.2
        repeat (first | (refine wpO_F (v := ?_) rfl (by rfl) (fun w' hL => ?_) ?_; rotate_left; (solve | (go_simp; with_reducible rfl) | go_simp); try simp only [Act.put, List.setIfInBounds_toArray, List.set_cons_zero, List.set_cons_succ]) | (refine wpO_G rfl (by rfl) ?_; try simp only [Act.put, List.setIfInBounds_toArray, List.set_cons_zero, List.set_cons_succ]))
        clear d0 d1 d2 d3 d4 d5 d6 d7
        refine wpO_C rfl (by rfl) ?_
        go_simp
        refine (POverlaps_any from1 to1 from2 to2 _).mono ?_
        rintro e w8 ⟨rfl, hb8⟩
        refine ⟨hb8, ?_⟩
        try simp only [Act.put, List.setIfInBounds_toArray, List.set_cons_zero, List.set_cons_succ]
        rw [← HBo.out]
        have H8 := Lib.hid (H7.out.trans (hb8.mono H7.out.size))
        clear hb8
        have d0 : ∀ W, Later w8 W → W.cell? ⟨w.heap.size, 0, none⟩ = some (.int .i64 from1) := fun W hW => (HD.out W (H8.out.trans (Below.mono hW H8.out.size))).1
        have d1 : ∀ W, Later w8 W → W.cell? ⟨w.heap.size, 1, none⟩ = some (.int .i64 to1) := fun W hW => (HD.out W (H8.out.trans (Below.mono hW H8.out.size))).2.1
        have d2 : ∀ W, Later w8 W → W.cell? ⟨w.heap.size + 1, 0, none⟩ = some (.int .i64 from2) := fun W hW => (HD.out W (H8.out.trans (Below.mono hW H8.out.size))).2.2.1
        have d3 : ∀ W, Later w8 W → W.cell? ⟨w.heap.size + 1, 1, none⟩ = some (.int .i64 to2) := fun W hW => (HD.out W (H8.out.trans (Below.mono hW H8.out.size))).2.2.2.1
        have d4 : ∀ W, Later w8 W → W.cell? ⟨w5.heap.size, 0, none⟩ = some (.int .i64 from2) := fun W hW => (HD.out W (H8.out.trans (Below.mono hW H8.out.size))).2.2.2.2.1
        have d5 : ∀ W, Later w8 W → W.cell? ⟨w5.heap.size, 1, none⟩ = some (.int .i64 to2) := fun W hW => (HD.out W (H8.out.trans (Below.mono hW H8.out.size))).2.2.2.2.2.1
        have d6 : ∀ W, Later w8 W → W.cell? ⟨w6.heap.size, 0, none⟩ = some (.int .i64 from2) := fun W hW => (HD.out W (H8.out.trans (Below.mono hW H8.out.size))).2.2.2.2.2.2.1
        have d7 : ∀ W, Later w8 W → W.cell? ⟨w6.heap.size, 1, none⟩ = some (.int .i64 to2) := fun W hW => (HD.out W (H8.out.trans (Below.mono hW H8.out.size))).2.2.2.2.2.2.2
        repeat (first | (refine wpO_F (v := ?_) rfl (by rfl) (fun w' hL => ?_) ?_; rotate_left; (solve | (go_simp; with_reducible rfl) | go_simp); try simp only [Act.put, List.setIfInBounds_toArray, List.set_cons_zero, List.set_cons_succ]) | (refine wpO_G rfl (by rfl) ?_; try simp only [Act.put, List.setIfInBounds_toArray, List.set_cons_zero, List.set_cons_succ]))
        clear d0 d1 d2 d3 d4 d5 d6 d7
        refine wpO_C rfl (by rfl) ?_
        go_simp
        refine (POverlaps_any from2 to2 from1 to1 _).mono ?_
        rintro e w9 ⟨rfl, hb9⟩
        refine ⟨hb9, ?_⟩
        try simp only [Act.put, List.setIfInBounds_toArray, List.set_cons_zero, List.set_cons_succ]
        rw [both_sym (from2, to2) (from1, to1), ← HBo.out]
        have H9 := Lib.hid (H8.out.trans (hb9.mono H8.out.size))
        clear hb9
        have d0 : ∀ W, Later w9 W → W.cell? ⟨w.heap.size, 0, none⟩ = some (.int .i64 from1) := fun W hW => (HD.out W (H9.out.trans (Below.mono hW H9.out.size))).1
        have d1 : ∀ W, Later w9 W → W.cell? ⟨w.heap.size, 1, none⟩ = some (.int .i64 to1) := fun W hW => (HD.out W (H9.out.trans (Below.mono hW H9.out.size))).2.1
        have d2 : ∀ W, Later w9 W → W.cell? ⟨w.heap.size + 1, 0, none⟩ = some (.int .i64 from2) := fun W hW => (HD.out W (H9.out.trans (Below.mono hW H9.out.size))).2.2.1
        have d3 : ∀ W, Later w9 W → W.cell? ⟨w.heap.size + 1, 1, none⟩ = some (.int .i64 to2) := fun W hW => (HD.out W (H9.out.trans (Below.mono hW H9.out.size))).2.2.2.1
        have d4 : ∀ W, Later w9 W → W.cell? ⟨w5.heap.size, 0, none⟩ = some (.int .i64 from2) := fun W hW => (HD.out W (H9.out.trans (Below.mono hW H9.out.size))).2.2.2.2.1
        have d5 : ∀ W, Later w9 W → W.cell? ⟨w5.heap.size, 1, none⟩ = some (.int .i64 to2) := fun W hW => (HD.out W (H9.out.trans (Below.mono hW H9.out.size))).2.2.2.2.2.1
        have d6 : ∀ W, Later w9 W → W.cell? ⟨w6.heap.size, 0, none⟩ = some (.int .i64 from2) := fun W hW => (HD.out W (H9.out.trans (Below.mono hW H9.out.size))).2.2.2.2.2.2.1
        have d7 : ∀ W, Later w9 W → W.cell? ⟨w6.heap.size, 1, none⟩ = some (.int .i64 to2) := fun W hW => (HD.out W (H9.out.trans (Below.mono hW H9.out.size))).2.2.2.2.2.2.2
        repeat (first | (refine wpO_F (v := ?_) rfl (by rfl) (fun w' hL => ?_) ?_; rotate_left; (solve | (go_simp; with_reducible rfl) | go_simp); try simp only [Act.put, List.setIfInBounds_toArray, List.set_cons_zero, List.set_cons_succ]) | (refine wpO_G rfl (by rfl) ?_; try simp only [Act.put, List.setIfInBounds_toArray, List.set_cons_zero, List.set_cons_succ]))
        clear d0 d1 d2 d3 d4 d5 d6 d7
        refine wpO_C rfl (by rfl) ?_
        go_simp
        refine (PContains_any from1 to1 from2 to2 _).mono ?_
        rintro e w10 ⟨rfl, hb10⟩
        refine ⟨hb10, ?_⟩
        try simp only [Act.put, List.setIfInBounds_toArray, List.set_cons_zero, List.set_cons_succ]
        rw [← HCb.out]
        have H10 := Lib.hid (H9.out.trans (hb10.mono H9.out.size))
        clear hb10
        have d0 : ∀ W, Later w10 W → W.cell? ⟨w.heap.size, 0, none⟩ = some (.int .i64 from1) := fun W hW => (HD.out W (H10.out.trans (Below.mono hW H10.out.size))).1
        have d1 : ∀ W, Later w10 W → W.cell? ⟨w.heap.size, 1, none⟩ = some (.int .i64 to1) := fun W hW => (HD.out W (H10.out.trans (Below.mono hW H10.out.size))).2.1
        have d2 : ∀ W, Later w10 W → W.cell? ⟨w.heap.size + 1, 0, none⟩ = some (.int .i64 from2) := fun W hW => (HD.out W (H10.out.trans (Below.mono hW H10.out.size))).2.2.1
        have d3 : ∀ W, Later w10 W → W.cell? ⟨w.heap.size + 1, 1, none⟩ = some (.int .i64 to2) := fun W hW => (HD.out W (H10.out.trans (Below.mono hW H10.out.size))).2.2.2.1
        have d4 : ∀ W, Later w10 W → W.cell? ⟨w5.heap.size, 0, none⟩ = some (.int .i64 from2) := fun W hW => (HD.out W (H10.out.trans (Below.mono hW H10.out.size))).2.2.2.2.1
        have d5 : ∀ W, Later w10 W → W.cell? ⟨w5.heap.size, 1, none⟩ = some (.int .i64 to2) := fun W hW => (HD.out W (H10.out.trans (Below.mono hW H10.out.size))).2.2.2.2.2.1
        have d6 : ∀ W, Later w10 W → W.cell? ⟨w6.heap.size, 0, none⟩ = some (.int .i64 from2) := fun W hW => (HD.out W (H10.out.trans (Below.mono hW H10.out.size))).2.2.2.2.2.2.1
        have d7 : ∀ W, Later w10 W → W.cell? ⟨w6.heap.size, 1, none⟩ = some (.int .i64 to2) := fun W hW => (HD.out W (H10.out.trans (Below.mono hW H10.out.size))).2.2.2.2.2.2.2
        repeat (first | (refine wpO_F (v := ?_) rfl (by rfl) (fun w' hL => ?_) ?_; rotate_left; (solve | (go_simp; with_reducible rfl) | go_simp); try simp only [Act.put, List.setIfInBounds_toArray, List.set_cons_zero, List.set_cons_succ]) | (refine wpO_G rfl (by rfl) ?_; try simp only [Act.put, List.setIfInBounds_toArray, List.set_cons_zero, List.set_cons_succ]))
        refine wpO_nil ?_
        clear d0 d1 d2 d3 d4 d5 d6 d7
        go_wp2
        go_ret
        exact ⟨rfl, KB.out.trans (H10.out.mono KB.out.size)⟩
end Go.Proofs.Ytockmoiekbhneaa
