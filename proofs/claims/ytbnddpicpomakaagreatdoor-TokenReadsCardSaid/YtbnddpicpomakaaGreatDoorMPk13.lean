/- Several texts of one proof, one behind the other. -/
import Derived.Test.YtbnddpicpomakaaGreatDoorMPk12
import Derived.Deep.QuietTactic
import Derived.BigQuiet
set_option linter.unusedSimpArgs false
set_option linter.unusedVariables false

/- The walks of text and Write. -/
set_option linter.unusedSimpArgs false
set_option linter.unusedVariables false
set_option maxRecDepth 100000
namespace Go.Proofs.YtbnddpicpomakaaGreatDoor
open Go.RowKit

theorem KidAt.later {w W : World} {b o : Nat} {y : XM} {N : Nat} (h : KidAt w b o y) (hb : b < N) (hB : Below N w W) : KidAt W b o y :=
  ⟨(hB.cell (p := ⟨b, o, none⟩) hb).trans h.c0, (hB.cell (p := ⟨b, o + 1, none⟩) hb).trans h.c1, (hB.cell (p := ⟨b, o + 2, none⟩) hb).trans h.c2, (hB.cell (p := ⟨b, o + 3, none⟩) hb).trans h.c3, (hB.cell (p := ⟨b, o + 4, none⟩) hb).trans h.c4, (hB.cell (p := ⟨b, o + 5, none⟩) hb).trans h.c5, (hB.cell (p := ⟨b, o + 6, none⟩) hb).trans h.c6, (hB.cell (p := ⟨b, o + 7, none⟩) hb).trans h.c7⟩

theorem ok_len {l : Lb} {n : Nat} (h : l.ok n = true) : (l.kd = 3 → n = 1) ∧ (l.kd = 4 → n = 2) ∧ (l.kd = 5 → n = 1) := by
  unfold Lb.ok takesB at h
  refine ⟨fun hk => ?_, fun hk => ?_, fun hk => ?_⟩ <;>
  · rw [hk] at h
    simp at h
    omega

set_option maxHeartbeats 4000000 in
theorem text_is : ∀ n, TextIs n
  | 0 => fun _ _ _ h _ _ => h.elim
  | n + 1 => fun x w hT h hg hc => by
    have IH := text_is n
    have HCall := Lib.hid (fun hk W (hb : Below w.heap.size w W) => call_any n IH x W (hT.below hb) (h.later hb) hg hc hk)
    have hsum := sum_textX _ _ w x h hg
    have hsm := Lb.small hg.lab.2
    have hok := ok_len hg.lab.1
    have hTx := textX_eq x.t
    unfold Lb.textOf at hTx
    have HA := Lib.hid h
    have HG := Lib.hid hg
    have HCt := Lib.hid hc
    have hF := h.fair.1
    rw [XM.v_eq] at HCall ⊢
    have HColm := Lib.hid (fun W => column_any x W (by have := hsm.tb; omega) (by have := hsm.nm; omega))
    rw [XM.v_eq] at HColm
    obtain ⟨t, a, cap⟩ := x
    simp only at hsum hsm hok HA HG HCt HCall HColm hTx hF hc ⊢
    have hop := hsm.op
    obtain ⟨m, hm⟩ : ∃ m, t.args.length = m := ⟨_, rfl⟩
    have HM := Lib.hid hm
    rw [hm] at hok HCall HColm ⊢
    have HP := Lib.hid (fun W (hb : Below w.heap.size w W) => hT.below hb)
    have HLit := Lib.hid (fun W (hb : Below w.heap.size w W) => literal_any t.lab.v W (HP.out W hb) hF.k hF.n hsm.s)
    have IHx : Hid (∀ (y : XM) (W : World), Below w.heap.size w W → XAt W.heap.size W n y → GoodX y.t → y.t.count ≤ 100000 → Calls Tryz.prog 43 #[.agg #[.int .i64 y.t.lab.kd, .int .u8 y.t.lab.v.k, .int .i64 y.t.lab.v.n, .string y.t.lab.v.s, .string y.t.lab.tb, .string y.t.lab.nm, .string y.t.lab.op, .slice y.a y.t.args.length y.cap]] W fun e w' => e = .returned (.string (textX y.t)) ∧ Below W.heap.size W w') := fun y W hb hy hg hc => by
      have := IH y W (HP.out W hb) hy hg hc
      rw [XM.v_eq] at this; exact this
    have HS := Lib.hid (Slot8.new w 45 (.int .i64 t.lab.kd) (.int .u8 t.lab.v.k) (.int .i64 t.lab.v.n) (.string t.lab.v.s) (.string t.lab.tb) (.string t.lab.nm) (.string t.lab.op) (.slice a m cap))
    obtain ⟨w0, hw0⟩ : ∃ w0, w.alloc (.cells #[.int .i64 t.lab.kd, .int .u8 t.lab.v.k, .int .i64 t.lab.v.n, .string t.lab.v.s, .string t.lab.tb, .string t.lab.nm, .string t.lab.op, .slice a m cap] 45) = w0 := ⟨_, rfl⟩
    have HB1 : Hid (Below w.heap.size w w0) := by rw [← hw0]; exact (Below.refl _ w).alloc (Nat.le_refl _) _
    have hs0 : w0.heap.size = w.heap.size + 1 := by rw [← hw0]; simp
    rw [hw0] at HS
    have HZ := Lib.hid hs0
    have HKid : Hid (∀ k (hk : k < t.args.length), ∃ y : XM, y.t = t.args[k] ∧ (∃ b o, a = some ⟨b, o, none⟩ ∧ b < w0.heap.size ∧ KidAt w0 b (o + k * 8) y) ∧ ∀ W, Below w0.heap.size w0 W → Calls Tryz.prog 43 #[.agg #[.int .i64 y.t.lab.kd, .int .u8 y.t.lab.v.k, .int .i64 y.t.lab.v.n, .string y.t.lab.v.s, .string y.t.lab.tb, .string y.t.lab.nm, .string y.t.lab.op, .slice y.a y.t.args.length y.cap]] W fun e w' => e = .returned (.string (textX y.t)) ∧ Below W.heap.size W w') := fun k hk => by
      obtain ⟨y, hy, hAy, b, o, hab, hbN, hKid⟩ := (HA.out.later HB1.out).kid8 (k := k) hk
      have hyg : GoodX y.t := by rw [hy]; exact HG.out.arg (List.getElem_mem hk)
      have hyc : y.t.count ≤ 100000 := by have h1 := count_arg (List.getElem_mem hk); rw [← hy] at h1; have := HCt.out; omega
      exact ⟨y, hy, ⟨b, o, hab, hbN, hKid⟩, fun W hb => IHx.out y W (HB1.out.trans (hb.mono HB1.out.size)) (hAy.later hb) hyg hyc⟩
    have hsz : ∀ i, ((t.args.map textX).getD i ⟨#[]⟩).size ≤ 100000000 := fun i => by have := getD_size (t.args.map textX) i; omega
    have HSz := Lib.hid hsz
    clear h hg hc hsum hsm hm hT hs0 IH IHx HA HG HCt hsz HP hF
    obtain ⟨x0, x1, x2, x3, x4, x5, x6, x7⟩ := HS.out
    by_cases k1 : t.lab.kd = 1
    · rw [if_pos k1] at hTx
      rw [hTx]
      generalize Vl.litS t.lab.v = R at *
      generalize t.lab.kd = kd at *
      subst k1
      clear hTx HCall HColm hok HKid
      go_enter Tryz.func43, Tryz.ntmps43
      go_wp2_with fail
      refine (HLit.out _ HB1.out).mono ?_
      rintro e w1 ⟨rfl, hb1⟩
      have HB2 := Lib.hid (HB1.out.trans (hb1.mono HB1.out.size))
      clear hb1 x0 x1 x2 x3 x4 x5 x6 x7
      go_wp2
      go_ret
      exact ⟨rfl, HB2.out⟩
    rw [if_neg k1] at hTx
    by_cases k2 : t.lab.kd = 2
    · rw [if_pos k2] at hTx
      rw [hTx]
      generalize Lb.colS t.lab = R at *
      generalize t.lab.kd = kd at *
      subst k2
      clear hTx HCall HLit hok HKid k1
      go_enter Tryz.func43, Tryz.ntmps43
      go_wp2_with fail
      refine (HColm.out _).mono ?_
      rintro e w1 ⟨rfl, hb1⟩
      have HB2 := Lib.hid (HB1.out.trans (hb1.mono HB1.out.size))
      clear hb1 x0 x1 x2 x3 x4 x5 x6 x7
      go_wp2
      go_ret
      exact ⟨rfl, HB2.out⟩
    rw [if_neg k2] at hTx
    by_cases k3 : t.lab.kd = 3
    · rw [if_pos k3] at hTx
      have hm1 := hok.1 k3
      subst hm1
      obtain ⟨y0, hy0, ⟨b, o, hab, hbN, hKd0⟩, hCl0⟩ := HKid.out 0 (by rw [HM.out]; omega)
      have hyt0 : (t.args.map textX).getD 0 ⟨#[]⟩ = textX y0.t := by
        rw [hy0]; simp [List.getD, List.getElem?_eq_getElem (show 0 < t.args.length by rw [HM.out]; omega)]
      have hys0 := HSz.out 0
      rw [hyt0] at hTx hys0
      rw [hTx]
      have HY0 := Lib.hid hCl0
      subst hab
      generalize textX y0.t = R0 at *
      generalize t.lab.kd = kd at *
      subst k3
      have s0 : ¬ 9223372036854775807 < 1 + t.lab.op.size := by omega
      have s1 : ¬ 9223372036854775807 < 1 + t.lab.op.size + 1 := by omega
      have s2 : ¬ 9223372036854775807 < 1 + t.lab.op.size + 1 + R0.size := by omega
      have s3 : ¬ 9223372036854775807 < 1 + t.lab.op.size + 1 + R0.size + 1 := by omega
      have HK0 := Lib.hid hKd0
      have hw0s : w.heap.size < w0.heap.size := by have := HZ.out; omega
      have l6 : ∀ W, Later w0.drew W → W.cell? ⟨w.heap.size, 6, none⟩ = some (.string t.lab.op) := fun W hW => (HS.out.later hw0s (Later.undrew hW)).c6
      have l7 : ∀ W, Later w0.drew W → W.cell? ⟨w.heap.size, 7, none⟩ = some (.slice (some ⟨b, o, none⟩) 1 cap) := fun W hW => (HS.out.later hw0s (Later.undrew hW)).c7
      have g00 : ∀ W, Later w0.drew W → W.cell? ⟨b, o, none⟩ = some (.int .i64 y0.t.lab.kd) := fun W hW => by have := (HK0.out.later hbN (Later.undrew hW)).c0; rw [Nat.zero_mul, Nat.add_zero] at this; exact this
      have g01 : ∀ W, Later w0.drew W → W.cell? ⟨b, o + 1, none⟩ = some (.int .u8 y0.t.lab.v.k) := fun W hW => by have := (HK0.out.later hbN (Later.undrew hW)).c1; rw [Nat.zero_mul, Nat.add_zero] at this; exact this
      have g02 : ∀ W, Later w0.drew W → W.cell? ⟨b, o + 2, none⟩ = some (.int .i64 y0.t.lab.v.n) := fun W hW => by have := (HK0.out.later hbN (Later.undrew hW)).c2; rw [Nat.zero_mul, Nat.add_zero] at this; exact this
      have g03 : ∀ W, Later w0.drew W → W.cell? ⟨b, o + 3, none⟩ = some (.string y0.t.lab.v.s) := fun W hW => by have := (HK0.out.later hbN (Later.undrew hW)).c3; rw [Nat.zero_mul, Nat.add_zero] at this; exact this
      have g04 : ∀ W, Later w0.drew W → W.cell? ⟨b, o + 4, none⟩ = some (.string y0.t.lab.tb) := fun W hW => by have := (HK0.out.later hbN (Later.undrew hW)).c4; rw [Nat.zero_mul, Nat.add_zero] at this; exact this
      have g05 : ∀ W, Later w0.drew W → W.cell? ⟨b, o + 5, none⟩ = some (.string y0.t.lab.nm) := fun W hW => by have := (HK0.out.later hbN (Later.undrew hW)).c5; rw [Nat.zero_mul, Nat.add_zero] at this; exact this
      have g06 : ∀ W, Later w0.drew W → W.cell? ⟨b, o + 6, none⟩ = some (.string y0.t.lab.op) := fun W hW => by have := (HK0.out.later hbN (Later.undrew hW)).c6; rw [Nat.zero_mul, Nat.add_zero] at this; exact this
      have g07 : ∀ W, Later w0.drew W → W.cell? ⟨b, o + 7, none⟩ = some (.slice y0.a y0.t.args.length y0.cap) := fun W hW => by have := (HK0.out.later hbN (Later.undrew hW)).c7; rw [Nat.zero_mul, Nat.add_zero] at this; exact this
      clear hTx HCall HColm HLit hok HKid k1 k2 hy0 hyt0 hys0 hKd0 hCl0 HSz HM hbN
      go_enter Tryz.func43, Tryz.ntmps43
      go_wp2_with fail
      clear x0 x1 x2 x3 x4 x5 x6 x7
      refine wp_region_ord [(0, true), (1, true), (2, true), (3, true), (4, true), (5, true), (6, true), (7, true), (8, false), (9, true), (10, true), (11, true)] (by kernel_rfl) (by kernel_rfl) (by kernel_rfl) (by kernel_rfl) ?_
      repeat (first | (refine wpO_F (v := ?_) rfl (by rfl) (fun w' hL => ?_) ?_; rotate_left; (solve | (go_simp; with_reducible rfl) | go_simp); try simp only [Act.put, List.setIfInBounds_toArray, List.set_cons_zero, List.set_cons_succ]) | (refine wpO_G rfl (by rfl) ?_; try simp only [Act.put, List.setIfInBounds_toArray, List.set_cons_zero, List.set_cons_succ]))
      refine wpO_C rfl (by rfl) ?_
      go_simp
      refine (HY0.out _ (Below.refl _ _).drew).mono ?_
      rintro e w1 ⟨rfl, hb1⟩
      refine ⟨hb1, ?_⟩
      try simp only [Act.put, List.setIfInBounds_toArray, List.set_cons_zero, List.set_cons_succ]
      repeat (first | (refine wpO_F (v := ?_) rfl (by rfl) (fun w' hL => ?_) ?_; rotate_left; (solve | (go_simp; with_reducible rfl) | go_simp); try simp only [Act.put, List.setIfInBounds_toArray, List.set_cons_zero, List.set_cons_succ]) | (refine wpO_G rfl (by rfl) ?_; try simp only [Act.put, List.setIfInBounds_toArray, List.set_cons_zero, List.set_cons_succ]))
      refine wpO_nil ?_
      have HB2 := Lib.hid (HB1.out.trans (((Below.refl _ w0).drew.trans hb1).mono HB1.out.size))
      clear hb1
      clear HY0
      go_wp2
      go_ret
      exact ⟨rfl, HB2.out⟩
    rw [if_neg k3] at hTx
    by_cases k4 : t.lab.kd = 4
    · rw [if_pos k4] at hTx
      have hm1 := hok.2.1 k4
      subst hm1
      obtain ⟨y0, hy0, ⟨b, o, hab, hbN, hKd0⟩, hCl0⟩ := HKid.out 0 (by rw [HM.out]; omega)
      have hyt0 : (t.args.map textX).getD 0 ⟨#[]⟩ = textX y0.t := by
        rw [hy0]; simp [List.getD, List.getElem?_eq_getElem (show 0 < t.args.length by rw [HM.out]; omega)]
      have hys0 := HSz.out 0
      obtain ⟨y1, hy1, ⟨b1, o1, hab1, -, hKd1⟩, hCl1⟩ := HKid.out 1 (by rw [HM.out]; omega)
      have hyt1 : (t.args.map textX).getD 1 ⟨#[]⟩ = textX y1.t := by
        rw [hy1]; simp [List.getD, List.getElem?_eq_getElem (show 1 < t.args.length by rw [HM.out]; omega)]
      have hys1 := HSz.out 1
      rw [hyt1] at hTx hys1
      have HY1 := Lib.hid hCl1
      rw [hab] at hab1
      injection hab1 with hab1
      injection hab1 with e1 e2
      subst e1 e2
      rw [hyt0] at hTx hys0
      rw [hTx]
      have HY0 := Lib.hid hCl0
      subst hab
      generalize textX y0.t = R0 at *
      generalize textX y1.t = R1 at *
      generalize t.lab.kd = kd at *
      subst k4
      have s0 : ¬ 9223372036854775807 < 1 + R0.size := by omega
      have s1 : ¬ 9223372036854775807 < 1 + R0.size + 1 := by omega
      have s2 : ¬ 9223372036854775807 < 1 + R0.size + 1 + t.lab.op.size := by omega
      have s3 : ¬ 9223372036854775807 < 1 + R0.size + 1 + t.lab.op.size + 1 := by omega
      have s4 : ¬ 9223372036854775807 < 1 + R0.size + 1 + t.lab.op.size + 1 + R1.size := by omega
      have s5 : ¬ 9223372036854775807 < 1 + R0.size + 1 + t.lab.op.size + 1 + R1.size + 1 := by omega
      have HK0 := Lib.hid hKd0
      have HK1 := Lib.hid hKd1
      have hw0s : w.heap.size < w0.heap.size := by have := HZ.out; omega
      have l6 : ∀ W, Later w0.drew W → W.cell? ⟨w.heap.size, 6, none⟩ = some (.string t.lab.op) := fun W hW => (HS.out.later hw0s (Later.undrew hW)).c6
      have l7 : ∀ W, Later w0.drew W → W.cell? ⟨w.heap.size, 7, none⟩ = some (.slice (some ⟨b, o, none⟩) 2 cap) := fun W hW => (HS.out.later hw0s (Later.undrew hW)).c7
      have g00 : ∀ W, Later w0.drew W → W.cell? ⟨b, o, none⟩ = some (.int .i64 y0.t.lab.kd) := fun W hW => by have := (HK0.out.later hbN (Later.undrew hW)).c0; rw [Nat.zero_mul, Nat.add_zero] at this; exact this
      have g01 : ∀ W, Later w0.drew W → W.cell? ⟨b, o + 1, none⟩ = some (.int .u8 y0.t.lab.v.k) := fun W hW => by have := (HK0.out.later hbN (Later.undrew hW)).c1; rw [Nat.zero_mul, Nat.add_zero] at this; exact this
      have g02 : ∀ W, Later w0.drew W → W.cell? ⟨b, o + 2, none⟩ = some (.int .i64 y0.t.lab.v.n) := fun W hW => by have := (HK0.out.later hbN (Later.undrew hW)).c2; rw [Nat.zero_mul, Nat.add_zero] at this; exact this
      have g03 : ∀ W, Later w0.drew W → W.cell? ⟨b, o + 3, none⟩ = some (.string y0.t.lab.v.s) := fun W hW => by have := (HK0.out.later hbN (Later.undrew hW)).c3; rw [Nat.zero_mul, Nat.add_zero] at this; exact this
      have g04 : ∀ W, Later w0.drew W → W.cell? ⟨b, o + 4, none⟩ = some (.string y0.t.lab.tb) := fun W hW => by have := (HK0.out.later hbN (Later.undrew hW)).c4; rw [Nat.zero_mul, Nat.add_zero] at this; exact this
      have g05 : ∀ W, Later w0.drew W → W.cell? ⟨b, o + 5, none⟩ = some (.string y0.t.lab.nm) := fun W hW => by have := (HK0.out.later hbN (Later.undrew hW)).c5; rw [Nat.zero_mul, Nat.add_zero] at this; exact this
      have g06 : ∀ W, Later w0.drew W → W.cell? ⟨b, o + 6, none⟩ = some (.string y0.t.lab.op) := fun W hW => by have := (HK0.out.later hbN (Later.undrew hW)).c6; rw [Nat.zero_mul, Nat.add_zero] at this; exact this
      have g07 : ∀ W, Later w0.drew W → W.cell? ⟨b, o + 7, none⟩ = some (.slice y0.a y0.t.args.length y0.cap) := fun W hW => by have := (HK0.out.later hbN (Later.undrew hW)).c7; rw [Nat.zero_mul, Nat.add_zero] at this; exact this
      have g10 : ∀ W, Later w0.drew W → W.cell? ⟨b, o + 8, none⟩ = some (.int .i64 y1.t.lab.kd) := fun W hW => by have := (HK1.out.later hbN (Later.undrew hW)).c0; rw [Nat.one_mul] at this; exact this
      have g11 : ∀ W, Later w0.drew W → W.cell? ⟨b, o + 8 + 1, none⟩ = some (.int .u8 y1.t.lab.v.k) := fun W hW => by have := (HK1.out.later hbN (Later.undrew hW)).c1; rw [Nat.one_mul] at this; exact this
      have g12 : ∀ W, Later w0.drew W → W.cell? ⟨b, o + 8 + 2, none⟩ = some (.int .i64 y1.t.lab.v.n) := fun W hW => by have := (HK1.out.later hbN (Later.undrew hW)).c2; rw [Nat.one_mul] at this; exact this
      have g13 : ∀ W, Later w0.drew W → W.cell? ⟨b, o + 8 + 3, none⟩ = some (.string y1.t.lab.v.s) := fun W hW => by have := (HK1.out.later hbN (Later.undrew hW)).c3; rw [Nat.one_mul] at this; exact this
      have g14 : ∀ W, Later w0.drew W → W.cell? ⟨b, o + 8 + 4, none⟩ = some (.string y1.t.lab.tb) := fun W hW => by have := (HK1.out.later hbN (Later.undrew hW)).c4; rw [Nat.one_mul] at this; exact this
      have g15 : ∀ W, Later w0.drew W → W.cell? ⟨b, o + 8 + 5, none⟩ = some (.string y1.t.lab.nm) := fun W hW => by have := (HK1.out.later hbN (Later.undrew hW)).c5; rw [Nat.one_mul] at this; exact this
      have g16 : ∀ W, Later w0.drew W → W.cell? ⟨b, o + 8 + 6, none⟩ = some (.string y1.t.lab.op) := fun W hW => by have := (HK1.out.later hbN (Later.undrew hW)).c6; rw [Nat.one_mul] at this; exact this
      have g17 : ∀ W, Later w0.drew W → W.cell? ⟨b, o + 8 + 7, none⟩ = some (.slice y1.a y1.t.args.length y1.cap) := fun W hW => by have := (HK1.out.later hbN (Later.undrew hW)).c7; rw [Nat.one_mul] at this; exact this
      clear hTx HCall HColm HLit hok HKid k1 k2 k3 hy0 hyt0 hys0 hKd0 hCl0 hy1 hyt1 hys1 hKd1 hCl1 HSz HM hbN
      go_enter Tryz.func43, Tryz.ntmps43
      go_wp2_with fail
      clear x0 x1 x2 x3 x4 x5 x6 x7
      refine wp_region_ord [(0, true), (1, true), (2, true), (3, true), (7, true), (8, true), (11, true), (12, true), (13, true), (14, true), (4, false), (5, true), (6, true), (9, true), (10, true), (15, false), (16, true), (17, true), (18, true)] (by kernel_rfl) (by kernel_rfl) (by kernel_rfl) (by kernel_rfl) ?_
      repeat (first | (refine wpO_F (v := ?_) rfl (by rfl) (fun w' hL => ?_) ?_; rotate_left; (solve | (go_simp; with_reducible rfl) | go_simp); try simp only [Act.put, List.setIfInBounds_toArray, List.set_cons_zero, List.set_cons_succ]) | (refine wpO_G rfl (by rfl) ?_; try simp only [Act.put, List.setIfInBounds_toArray, List.set_cons_zero, List.set_cons_succ]))
      refine wpO_C rfl (by rfl) ?_
      go_simp
      refine (HY0.out _ (Below.refl _ _).drew).mono ?_
      rintro e w1 ⟨rfl, hb1⟩
      refine ⟨hb1, ?_⟩
      try simp only [Act.put, List.setIfInBounds_toArray, List.set_cons_zero, List.set_cons_succ]
      repeat (first | (refine wpO_F (v := ?_) rfl (by rfl) (fun w' hL => ?_) ?_; rotate_left; (solve | (go_simp; with_reducible rfl) | go_simp); try simp only [Act.put, List.setIfInBounds_toArray, List.set_cons_zero, List.set_cons_succ]) | (refine wpO_G rfl (by rfl) ?_; try simp only [Act.put, List.setIfInBounds_toArray, List.set_cons_zero, List.set_cons_succ]))
      refine wpO_C rfl (by rfl) ?_
      go_simp
      refine (HY1.out _ ((Below.refl _ _).drew.trans hb1)).mono ?_
      rintro e w2 ⟨rfl, hb2⟩
      refine ⟨hb2, ?_⟩
      try simp only [Act.put, List.setIfInBounds_toArray, List.set_cons_zero, List.set_cons_succ]
      repeat (first | (refine wpO_F (v := ?_) rfl (by rfl) (fun w' hL => ?_) ?_; rotate_left; (solve | (go_simp; with_reducible rfl) | go_simp); try simp only [Act.put, List.setIfInBounds_toArray, List.set_cons_zero, List.set_cons_succ]) | (refine wpO_G rfl (by rfl) ?_; try simp only [Act.put, List.setIfInBounds_toArray, List.set_cons_zero, List.set_cons_succ]))
      refine wpO_nil ?_
      have HB2 := Lib.hid (HB1.out.trans ((((Below.refl _ w0).drew.trans hb1).trans (hb2.mono hb1.size)).mono HB1.out.size))
      clear hb1 hb2
      clear HY0 HY1
      go_wp2
      go_ret
      exact ⟨rfl, HB2.out⟩
    rw [if_neg k4] at hTx
    by_cases k5 : t.lab.kd = 5
    · rw [if_pos k5] at hTx
      have hm1 := hok.2.2 k5
      subst hm1
      obtain ⟨y0, hy0, ⟨b, o, hab, hbN, hKd0⟩, hCl0⟩ := HKid.out 0 (by rw [HM.out]; omega)
      have hyt0 : (t.args.map textX).getD 0 ⟨#[]⟩ = textX y0.t := by
        rw [hy0]; simp [List.getD, List.getElem?_eq_getElem (show 0 < t.args.length by rw [HM.out]; omega)]
      have hys0 := HSz.out 0
      rw [hyt0] at hTx hys0
      rw [hTx]
      have HY0 := Lib.hid hCl0
      subst hab
      generalize textX y0.t = R0 at *
      generalize t.lab.kd = kd at *
      subst k5
      have s0 : ¬ 9223372036854775807 < 1 + R0.size := by omega
      have s1 : ¬ 9223372036854775807 < 1 + R0.size + 1 := by omega
      have s2 : ¬ 9223372036854775807 < 1 + R0.size + 1 + t.lab.op.size := by omega
      have s3 : ¬ 9223372036854775807 < 1 + R0.size + 1 + t.lab.op.size + 1 := by omega
      have HK0 := Lib.hid hKd0
      have hw0s : w.heap.size < w0.heap.size := by have := HZ.out; omega
      have l6 : ∀ W, Later w0.drew W → W.cell? ⟨w.heap.size, 6, none⟩ = some (.string t.lab.op) := fun W hW => (HS.out.later hw0s (Later.undrew hW)).c6
      have l7 : ∀ W, Later w0.drew W → W.cell? ⟨w.heap.size, 7, none⟩ = some (.slice (some ⟨b, o, none⟩) 1 cap) := fun W hW => (HS.out.later hw0s (Later.undrew hW)).c7
      have g00 : ∀ W, Later w0.drew W → W.cell? ⟨b, o, none⟩ = some (.int .i64 y0.t.lab.kd) := fun W hW => by have := (HK0.out.later hbN (Later.undrew hW)).c0; rw [Nat.zero_mul, Nat.add_zero] at this; exact this
      have g01 : ∀ W, Later w0.drew W → W.cell? ⟨b, o + 1, none⟩ = some (.int .u8 y0.t.lab.v.k) := fun W hW => by have := (HK0.out.later hbN (Later.undrew hW)).c1; rw [Nat.zero_mul, Nat.add_zero] at this; exact this
      have g02 : ∀ W, Later w0.drew W → W.cell? ⟨b, o + 2, none⟩ = some (.int .i64 y0.t.lab.v.n) := fun W hW => by have := (HK0.out.later hbN (Later.undrew hW)).c2; rw [Nat.zero_mul, Nat.add_zero] at this; exact this
      have g03 : ∀ W, Later w0.drew W → W.cell? ⟨b, o + 3, none⟩ = some (.string y0.t.lab.v.s) := fun W hW => by have := (HK0.out.later hbN (Later.undrew hW)).c3; rw [Nat.zero_mul, Nat.add_zero] at this; exact this
      have g04 : ∀ W, Later w0.drew W → W.cell? ⟨b, o + 4, none⟩ = some (.string y0.t.lab.tb) := fun W hW => by have := (HK0.out.later hbN (Later.undrew hW)).c4; rw [Nat.zero_mul, Nat.add_zero] at this; exact this
      have g05 : ∀ W, Later w0.drew W → W.cell? ⟨b, o + 5, none⟩ = some (.string y0.t.lab.nm) := fun W hW => by have := (HK0.out.later hbN (Later.undrew hW)).c5; rw [Nat.zero_mul, Nat.add_zero] at this; exact this
      have g06 : ∀ W, Later w0.drew W → W.cell? ⟨b, o + 6, none⟩ = some (.string y0.t.lab.op) := fun W hW => by have := (HK0.out.later hbN (Later.undrew hW)).c6; rw [Nat.zero_mul, Nat.add_zero] at this; exact this
      have g07 : ∀ W, Later w0.drew W → W.cell? ⟨b, o + 7, none⟩ = some (.slice y0.a y0.t.args.length y0.cap) := fun W hW => by have := (HK0.out.later hbN (Later.undrew hW)).c7; rw [Nat.zero_mul, Nat.add_zero] at this; exact this
      clear hTx HCall HColm HLit hok HKid k1 k2 k3 k4 hy0 hyt0 hys0 hKd0 hCl0 HSz HM hbN
      go_enter Tryz.func43, Tryz.ntmps43
      go_wp2_with fail
      clear x0 x1 x2 x3 x4 x5 x6 x7
      refine wp_region_ord [(0, true), (1, true), (2, true), (3, true), (7, true), (8, true), (4, false), (5, true), (6, true), (9, true), (10, true), (11, true)] (by kernel_rfl) (by kernel_rfl) (by kernel_rfl) (by kernel_rfl) ?_
      repeat (first | (refine wpO_F (v := ?_) rfl (by rfl) (fun w' hL => ?_) ?_; rotate_left; (solve | (go_simp; with_reducible rfl) | go_simp); try simp only [Act.put, List.setIfInBounds_toArray, List.set_cons_zero, List.set_cons_succ]) | (refine wpO_G rfl (by rfl) ?_; try simp only [Act.put, List.setIfInBounds_toArray, List.set_cons_zero, List.set_cons_succ]))
      refine wpO_C rfl (by rfl) ?_
      go_simp
      refine (HY0.out _ (Below.refl _ _).drew).mono ?_
      rintro e w1 ⟨rfl, hb1⟩
      refine ⟨hb1, ?_⟩
      try simp only [Act.put, List.setIfInBounds_toArray, List.set_cons_zero, List.set_cons_succ]
      repeat (first | (refine wpO_F (v := ?_) rfl (by rfl) (fun w' hL => ?_) ?_; rotate_left; (solve | (go_simp; with_reducible rfl) | go_simp); try simp only [Act.put, List.setIfInBounds_toArray, List.set_cons_zero, List.set_cons_succ]) | (refine wpO_G rfl (by rfl) ?_; try simp only [Act.put, List.setIfInBounds_toArray, List.set_cons_zero, List.set_cons_succ]))
      refine wpO_nil ?_
      have HB2 := Lib.hid (HB1.out.trans (((Below.refl _ w0).drew.trans hb1).mono HB1.out.size))
      clear hb1
      clear HY0
      go_wp2
      go_ret
      exact ⟨rfl, HB2.out⟩
    rw [if_neg k5] at hTx
    have HY := Lib.hid (HCall.out ⟨k1, k2, k3, k4, k5⟩)
    have q1 : (t.lab.kd == 1) = false := by simpa using k1
    have q2 : (t.lab.kd == 2) = false := by simpa using k2
    have q3 : (t.lab.kd == 3) = false := by simpa using k3
    have q4 : (t.lab.kd == 4) = false := by simpa using k4
    have q5 : (t.lab.kd == 5) = false := by simpa using k5
    generalize textX t = R at *
    generalize t.lab.kd = kd at *
    clear hTx HCall HColm HLit hok HKid k1 k2 k3 k4 k5 HSz HM
    go_enter Tryz.func43, Tryz.ntmps43
    go_wp2_with fail
    refine (HY.out _ HB1.out).mono ?_
    rintro e w1 ⟨rfl, hb1⟩
    have HB2 := Lib.hid (HB1.out.trans (hb1.mono HB1.out.size))
    clear hb1 x0 x1 x2 x3 x4 x5 x6 x7
    go_wp2
    go_ret
    exact ⟨rfl, HB2.out⟩
end Go.Proofs.YtbnddpicpomakaaGreatDoor

/- The walks of same, its closure, slices.EqualFunc at it, and of Same. -/
set_option linter.unusedSimpArgs false
set_option linter.unusedVariables false
set_option maxRecDepth 100000
namespace Go.Proofs.YtbnddpicpomakaaGreatDoor
open Go.RowKit

def listSame (f : Ex → Ex → Bool) : List Ex → List Ex → Bool
  | [], [] => true
  | x :: r, y :: s => f x y && listSame f r s
  | _, _ => false
/-- Equal, and no more than so many levels. -/
def sameX : Nat → Ex → Ex → Bool
  | 0, _, _ => false
  | n + 1, a, b => decide (a.lab = b.lab) && listSame (sameX n) a.args b.args
theorem listSame_iff {f : Ex → Ex → Bool} : ∀ (l m : List Ex), listSame f l m = true ↔ l.length = m.length ∧ ∀ (i : Nat) x y, l[i]? = some x → m[i]? = some y → f x y = true
  | [], [] => by simp [listSame]
  | [], y :: s => by simp [listSame]
  | x :: r, [] => by simp [listSame]
  | x :: r, y :: s => by
    rw [listSame, Bool.and_eq_true, listSame_iff r s]
    constructor
    · rintro ⟨h1, h2, h3⟩
      refine ⟨by simp [h2], fun i a b ha hb => ?_⟩
      cases i with
      | zero => simp at ha hb; subst ha hb; exact h1
      | succ i => exact h3 i a b (by simpa using ha) (by simpa using hb)
    · rintro ⟨h1, h2⟩
      exact ⟨h2 0 x y rfl rfl, by simpa using h1, fun i a b ha hb => h2 (i + 1) a b (by simpa using ha) (by simpa using hb)⟩
theorem sameX_iff : ∀ (n : Nat) (a b : Ex), sameX n a b = true ↔ a = b ∧ a.depth ≤ n
  | 0, a, b => by have := a.depth_pos; simp [sameX]; omega
  | n + 1, a, b => by
    rw [sameX, Bool.and_eq_true, decide_eq_true_iff, listSame_iff, Rose.depth_le]
    constructor
    · rintro ⟨h1, h2, h3⟩
      have h4 : a.args = b.args := by
        apply List.ext_getElem? ; intro i
        by_cases hi : i < a.args.length
        · have hj : i < b.args.length := by omega
          have := (sameX_iff n _ _).1 (h3 i a.args[i] b.args[i] (List.getElem?_eq_getElem hi) (List.getElem?_eq_getElem hj))
          rw [List.getElem?_eq_getElem hi, List.getElem?_eq_getElem hj, this.1]
        · rw [List.getElem?_eq_none (by omega), List.getElem?_eq_none (by omega)]
      refine ⟨by rw [← a.eta, ← b.eta, h1, h4], fun x hx => ?_⟩
      obtain ⟨i, hi, rfl⟩ := List.getElem_of_mem hx
      have hj : i < b.args.length := by omega
      exact ((sameX_iff n _ _).1 (h3 i a.args[i] b.args[i] (List.getElem?_eq_getElem hi) (List.getElem?_eq_getElem hj))).2
    · rintro ⟨rfl, h2⟩
      refine ⟨rfl, rfl, fun i x y hx hy => ?_⟩
      rw [hx] at hy
      injection hy with hy
      subst hy
      exact (sameX_iff n x x).2 ⟨rfl, h2 x (List.mem_of_getElem? hx)⟩
theorem toList_ne {a b : ByteArray} (h : a ≠ b) : a.toList ≠ b.toList := fun h2 => h (toList_inj h2)
theorem listSame_take {f : Ex → Ex → Bool} {l m : List Ex} (hl : l.length = m.length) {k : Nat} (hk : k < l.length) : listSame f (l.take (k + 1)) (m.take (k + 1)) = (listSame f (l.take k) (m.take k) && f l[k] (m[k]'(by omega))) := by
  induction l generalizing m k with
  | nil => simp at hk
  | cons x r ih =>
    cases m with
    | nil => simp at hl
    | cons y s =>
      cases k with
      | zero => simp [listSame]
      | succ k =>
        rw [List.take_succ_cons, List.take_succ_cons, List.take_succ_cons, List.take_succ_cons, listSame, listSame, ih (by simpa using hl) (by simpa using hk), Bool.and_assoc]; rfl
theorem listSame_false {f : Ex → Ex → Bool} {l m : List Ex} {k : Nat} (hk : k < l.length) (hm : k < m.length) (h : f l[k] m[k] = false) : listSame f l m = false := by
  rw [Bool.eq_false_iff]
  intro ht
  have := ((listSame_iff l m).1 ht).2 k _ _ (List.getElem?_eq_getElem hk) (List.getElem?_eq_getElem hm)
  rw [h] at this; cases this

/-- What is known of same, with so many levels, of trees of so many. -/
def SameIs (n l : Nat) : Prop := ∀ (y z : XM) (W : World), XAt W.heap.size W n y → XAt W.heap.size W n z → Calls Tryz.prog 47 #[.agg #[.int .i64 y.t.lab.kd, .int .u8 y.t.lab.v.k, .int .i64 y.t.lab.v.n, .string y.t.lab.v.s, .string y.t.lab.tb, .string y.t.lab.nm, .string y.t.lab.op, .slice y.a y.t.args.length y.cap], .agg #[.int .i64 z.t.lab.kd, .int .u8 z.t.lab.v.k, .int .i64 z.t.lab.v.n, .string z.t.lab.v.s, .string z.t.lab.tb, .string z.t.lab.nm, .string z.t.lab.op, .slice z.a z.t.args.length z.cap], .int .i64 (l : Int)] W fun e w' => e = .returned (.bool (sameX l y.t z.t)) ∧ Below W.heap.size W w'

theorem same_clo (n l : Nat) (hl : l ≤ 1000) (IH : SameIs n l) (y z : XM) (g : Nat) (W : World) (hy : XAt W.heap.size W n y) (hz : XAt W.heap.size W n z) (hg : W.cell? ⟨g, 0, none⟩ = some (.int .i64 ((l + 1 : Nat) : Int))) :
    Calls Tryz.prog 87 #[.agg #[.int .i64 y.t.lab.kd, .int .u8 y.t.lab.v.k, .int .i64 y.t.lab.v.n, .string y.t.lab.v.s, .string y.t.lab.tb, .string y.t.lab.nm, .string y.t.lab.op, .slice y.a y.t.args.length y.cap], .agg #[.int .i64 z.t.lab.kd, .int .u8 z.t.lab.v.k, .int .i64 z.t.lab.v.n, .string z.t.lab.v.s, .string z.t.lab.tb, .string z.t.lab.nm, .string z.t.lab.op, .slice z.a z.t.args.length z.cap], .pointer (some ⟨g, 0, none⟩)] W fun e w' => e = .returned (.bool (sameX l y.t z.t)) ∧ Below W.heap.size W w' := by
  have HD := Lib.hid (fun V (hb : Below W.heap.size W V) => IH y z V (hy.later hb) (hz.later hb))
  obtain ⟨w0, hw0⟩ : ∃ w0, W.alloc (.cells #[.int .i64 y.t.lab.kd, .int .u8 y.t.lab.v.k, .int .i64 y.t.lab.v.n, .string y.t.lab.v.s, .string y.t.lab.tb, .string y.t.lab.nm, .string y.t.lab.op, .slice y.a y.t.args.length y.cap] 45) = w0 := ⟨_, rfl⟩
  obtain ⟨w1, hw1⟩ : ∃ w1, w0.alloc (.cells #[.int .i64 z.t.lab.kd, .int .u8 z.t.lab.v.k, .int .i64 z.t.lab.v.n, .string z.t.lab.v.s, .string z.t.lab.tb, .string z.t.lab.nm, .string z.t.lab.op, .slice z.a z.t.args.length z.cap] 45) = w1 := ⟨_, rfl⟩
  have hb0 : Below W.heap.size W w0 := by rw [← hw0]; exact (Below.refl _ W).alloc (Nat.le_refl _) _
  have hb1 : Below w0.heap.size w0 w1 := by rw [← hw1]; exact (Below.refl _ w0).alloc (Nat.le_refl _) _
  have hs0 : w0.heap.size = W.heap.size + 1 := by rw [← hw0]; simp
  have hY : Slot8 w0 W.heap.size (.int .i64 y.t.lab.kd) (.int .u8 y.t.lab.v.k) (.int .i64 y.t.lab.v.n) (.string y.t.lab.v.s) (.string y.t.lab.tb) (.string y.t.lab.nm) (.string y.t.lab.op) (.slice y.a y.t.args.length y.cap) := by rw [← hw0]; exact Slot8.new W 45 _ _ _ _ _ _ _ _
  have hZ : Slot8 w1 w0.heap.size (.int .i64 z.t.lab.kd) (.int .u8 z.t.lab.v.k) (.int .i64 z.t.lab.v.n) (.string z.t.lab.v.s) (.string z.t.lab.tb) (.string z.t.lab.nm) (.string z.t.lab.op) (.slice z.a z.t.args.length z.cap) := by rw [← hw1]; exact Slot8.new w0 45 _ _ _ _ _ _ _ _
  have hglt := World.block_lt_of_cell? _ _ hg
  have HB1 := Lib.hid (hb0.trans (hb1.mono hb0.size))
  have hg1 : w1.cell? ⟨g, 0, none⟩ = some (.int .i64 ((l + 1 : Nat) : Int)) := (HB1.out.cell (p := ⟨g, 0, none⟩) hglt).trans hg
  have hq1 : IntKind.i64.wrap (((l + 1 : Nat) : Int) - 1) = (l : Int) := by rw [show ((l + 1 : Nat) : Int) - 1 = (l : Int) by omega]; exact IntWalk.i64_in _ (by omega)
  generalize sameX l y.t z.t = d at *
  generalize hQ : ((l + 1 : Nat) : Int) = Q at *
  obtain ⟨y0, y1, y2, y3, y4, y5, y6, y7⟩ := hY.later (N := w0.heap.size) (by omega) hb1
  obtain ⟨z0, z1, z2, z3, z4, z5, z6, z7⟩ := hZ
  clear hy hz IH hb0 hb1 hs0 hg hglt hY
  go_enter Tryz.func87, Tryz.ntmps87
  go_wp2_with fail
  refine (HD.out _ HB1.out).mono ?_
  rintro e w2 ⟨rfl, hb2⟩
  have HB2 := Lib.hid (HB1.out.trans (hb2.mono HB1.out.size))
  clear hb2 y0 y1 y2 y3 y4 y5 y6 y7 z0 z1 z2 z3 z4 z5 z6 z7 hg1
  go_wp2
  go_ret
  exact ⟨rfl, HB2.out⟩

set_option maxHeartbeats 2000000 in
theorem same_eqf (n l : Nat) (hl : l ≤ 1000) (IH : SameIs n l) (t u : Ex) (a b : Option Addr) (cap cup : Nat) (g : Nat) (w : World) (h : XAt w.heap.size w (n + 1) ⟨t, a, cap⟩) (k : XAt w.heap.size w (n + 1) ⟨u, b, cup⟩) (hg : w.cell? ⟨g, 0, none⟩ = some (.int .i64 ((l + 1 : Nat) : Int))) :
    Calls Tryz.prog 86 #[.slice a t.args.length cap, .slice b u.args.length cup, .func (.func 87) #[] #[.pointer (some ⟨g, 0, none⟩)]] w fun e w' => e = .returned (.bool (listSame (sameX l) t.args u.args)) ∧ Below w.heap.size w w' := by
  have HA := Lib.hid h
  have HK := Lib.hid k
  have hlen := h.fair.2.1
  have hcap := h.fair.2.2
  have klen := k.fair.2.1
  have kcap := k.fair.2.2
  simp only at hlen hcap klen kcap
  have HCl := Lib.hid (fun y z V (hb : Below w.heap.size w V) hy hz => same_clo n l hl IH y z g V hy hz ((hb.cell (p := ⟨g, 0, none⟩) (World.block_lt_of_cell? _ _ hg)).trans hg))
  obtain ⟨r, hr⟩ : ∃ r, listSame (sameX l) t.args u.args = r := ⟨_, rfl⟩
  rw [hr]
  have HR := Lib.hid hr
  obtain ⟨m, hm⟩ : ∃ m, t.args.length = m := ⟨_, rfl⟩
  obtain ⟨q, hq⟩ : ∃ q, u.args.length = q := ⟨_, rfl⟩
  rw [hm] at hlen ⊢
  rw [hq] at klen ⊢
  have HM := Lib.hid hm
  have HQ := Lib.hid hq
  clear h k hm hq hg IH hr
  by_cases hmq : m = q
  rotate_left
  · have q0 : ((m : Int) != (q : Int)) = true := by simp; omega
    have hrf : r = false := by
      rw [← HR.out, Bool.eq_false_iff]
      intro ht
      have := ((listSame_iff _ _).1 ht).1
      rw [HM.out, HQ.out] at this; exact hmq this
    subst hrf
    go_enter Tryz.func86, Tryz.ntmps86
    go_wp2
    go_ret
    exact ⟨rfl, Below.refl _ _⟩
  subst hmq
  go_enter Tryz.func86, Tryz.ntmps86
  go_wp2
  go_loopw [17] (fun i wr => ∃ k : Nat, k ≤ m ∧ i = .int .i64 k ∧ Hid (listSame (sameX l) (t.args.take k) (u.args.take k) = true) ∧ Hid (Below w.heap.size w wr)) (fun i _ => m - (intOf i).toNat)
  case atStart => exact ⟨0, by omega, rfl, by simp [Hid, listSame], Below.refl _ _⟩
  case round =>
    obtain ⟨k, hk, rfl, HI, HBr⟩ := hrel
    by_cases hlt : k < m
    · have hkl : k < t.args.length := by rw [HM.out]; exact hlt
      have hku : k < u.args.length := by rw [HQ.out]; exact hlt
      obtain ⟨y, hy, hAy, b1, o1, hab, hbN, hKid⟩ := (HA.out.later HBr.out).kid8 (k := k) hkl
      obtain ⟨z, hz, hAz, b2, o2, hab2, hbN2, hKid2⟩ := (HK.out.later HBr.out).kid8 (k := k) hku
      simp only at hab hy hab2 hz
      subst hab hab2
      have HTk : Hid (listSame (sameX l) (t.args.take (k + 1)) (u.args.take (k + 1)) = sameX l y.t z.t) := by
        rw [listSame_take (by rw [HM.out, HQ.out]) hkl, HI.out, ← hy, ← hz]; simp [Hid]
      have HTf : Hid (sameX l y.t z.t = false → r = false) := fun hf => by
        rw [← HR.out]; exact listSame_false hkl hku (by rw [← hy, ← hz]; exact hf)
      obtain ⟨w1, hw1⟩ : ∃ w1, wr.alloc (.cells #[.int .i64 y.t.lab.kd, .int .u8 y.t.lab.v.k, .int .i64 y.t.lab.v.n, .string y.t.lab.v.s, .string y.t.lab.tb, .string y.t.lab.nm, .string y.t.lab.op, .slice y.a y.t.args.length y.cap] 45) = w1 := ⟨_, rfl⟩
      have hb1 : Below wr.heap.size wr w1 := by rw [← hw1]; exact (Below.refl _ wr).alloc (Nat.le_refl _) _
      have hY : Slot8 w1 wr.heap.size (.int .i64 y.t.lab.kd) (.int .u8 y.t.lab.v.k) (.int .i64 y.t.lab.v.n) (.string y.t.lab.v.s) (.string y.t.lab.tb) (.string y.t.lab.nm) (.string y.t.lab.op) (.slice y.a y.t.args.length y.cap) := by rw [← hw1]; exact Slot8.new wr 45 _ _ _ _ _ _ _ _
      have hs1 : w1.heap.size = wr.heap.size + 1 := by rw [← hw1]; simp
      obtain ⟨w2, hw2⟩ : ∃ w2, w1.alloc (.cells #[.int .i64 z.t.lab.kd, .int .u8 z.t.lab.v.k, .int .i64 z.t.lab.v.n, .string z.t.lab.v.s, .string z.t.lab.tb, .string z.t.lab.nm, .string z.t.lab.op, .slice z.a z.t.args.length z.cap] 45) = w2 := ⟨_, rfl⟩
      have hb2 : Below w1.heap.size w1 w2 := by rw [← hw2]; exact (Below.refl _ w1).alloc (Nat.le_refl _) _
      have HB2 := Lib.hid (hb1.trans (hb2.mono hb1.size))
      have HY := Lib.hid (HCl.out y z w2 (HBr.out.trans (HB2.out.mono HBr.out.size)) (hAy.later HB2.out) (hAz.later HB2.out))
      have hkd := hKid.c0
      obtain ⟨y0, y1, y2, y3, y4, y5, y6, y7⟩ := hKid
      obtain ⟨v0, v1, v2, v3, v4, v5, v6, v7⟩ := KidAt.later (N := wr.heap.size) hKid2 hbN2 hb1
      obtain ⟨s0, s1, s2, s3, s4, s5, s6, s7⟩ := hY.later (N := w1.heap.size) (by omega) hb2
      have hZ : Slot8 w2 w1.heap.size (.int .i64 z.t.lab.kd) (.int .u8 z.t.lab.v.k) (.int .i64 z.t.lab.v.n) (.string z.t.lab.v.s) (.string z.t.lab.tb) (.string z.t.lab.nm) (.string z.t.lab.op) (.slice z.a z.t.args.length z.cap) := by rw [← hw2]; exact Slot8.new w1 45 _ _ _ _ _ _ _ _
      obtain ⟨p0, p1, p2, p3, p4, p5, p6, p7⟩ := hZ
      generalize sameX l y.t z.t = d at *
      clear hy hAy hz hAz HA HK hkl hku HI HCl hbN hbN2 hKid2 hb1 hb2 hY hs1 hkd
      go_wp2_with fail
      refine (HY.out).mono ?_
      rintro e w3 ⟨rfl, hb3⟩
      have HB3 := Lib.hid (HBr.out.trans ((HB2.out.trans (hb3.mono HB2.out.size)).mono HBr.out.size))
      clear hb3 HY y0 y1 y2 y3 y4 y5 y6 y7 v0 v1 v2 v3 v4 v5 v6 v7 s0 s1 s2 s3 s4 s5 s6 s7 p0 p1 p2 p3 p4 p5 p6 p7
      cases d
      · have hrf := HTf.out rfl
        subst hrf
        go_wp2
        go_ret
        exact ⟨rfl, HB3.out⟩
      · go_wp2
        go_roundw
        case rel => exact ⟨k + 1, by omega, by go_num, HTk.out, HB3.out⟩
        case measure => simp [intOf]; omega
    · have q0 : decide (k < m) = false := by simpa using hlt
      have hrt : r = true := by
        have h1 := HI.out
        rw [show k = m by omega, List.take_of_length_le (by rw [HM.out]; omega), List.take_of_length_le (by rw [HQ.out]; omega), HR.out] at h1
        exact h1
      subst hrt
      go_wp2
      go_ret
      exact ⟨rfl, HBr.out⟩

theorem eqV20 (v v' : Vl) (q : Bool) (hq : decide (v = v') = q) (w : World) : (Op.equalIn 10000 42 (.agg #[.int .u8 v.k, .int .i64 v.n, .string v.s]) (.agg #[.int .u8 v'.k, .int .i64 v'.n, .string v'.s])).run Tryz.prog w = .ok q w := by
  have hS : Tryz.prog.underlying 42 = some (.struct (Tryz.prog.fieldsOf 42)) := by kernel_rfl
  have hp : Tryz.prog.stoodInHeld 42 = false := by kernel_rfl
  rw [show (10000 : Nat) = 9999 + 1 from rfl, run_equalIn_agg w 9999 42 _ _ hS hp]
  simp only [Program.fieldsOf, Tryz.underlying42]
  go_simp
  subst hq
  obtain ⟨k, n, s⟩ := v
  obtain ⟨k', n', s'⟩ := v'
  by_cases h1 : k = k' <;> by_cases h2 : n = n' <;> by_cases h3 : s = s' <;> simp [h1, h2, h3, toList_ne] <;> omega
@[go_sem] theorem eqGuardV20 : Tryz.prog.eqGuardType Tryz.prog.depth 42 = false := by kernel_rfl
theorem sameX_eq (l : Nat) (t u : Ex) : sameX (l + 1) t u = ((t.lab.kd == u.lab.kd) && (decide (t.lab.v = u.lab.v) && ((t.lab.tb.toList == u.lab.tb.toList) && ((t.lab.nm.toList == u.lab.nm.toList) && ((t.lab.op.toList == u.lab.op.toList) && listSame (sameX l) t.args u.args))))) := by
  rw [sameX]
  obtain ⟨⟨kd, v, tb, nm, op⟩, r⟩ := t
  obtain ⟨⟨kd', v', tb', nm', op'⟩, r'⟩ := u
  simp only [Rose.lab, Rose.args]
  by_cases h1 : kd = kd' <;> by_cases h2 : v = v' <;> by_cases h3 : tb = tb' <;> by_cases h4 : nm = nm' <;> by_cases h5 : op = op' <;> simp [h1, h2, h3, h4, h5, toList_ne]

set_option maxHeartbeats 4000000 in
theorem same_is : ∀ n l, l ≤ 1000 → SameIs n l
  | 0, _, _ => fun _ _ _ h => h.elim
  | n + 1, 0, _ => fun y z w hy hz => by
    rw [show sameX 0 y.t z.t = false from rfl]
    clear hy hz
    go_enter Tryz.func47, Tryz.ntmps47
    go_wp2
    go_ret
    exact ⟨rfl, (((Below.refl _ w).alloc (Nat.le_refl _) _).alloc (by simp <;> omega) _).alloc (by simp <;> omega) _⟩
  | n + 1, l + 1, hl => fun y z w hy hz => by
    have IH := same_is n l (by omega)
    obtain ⟨t, a, cap⟩ := y
    obtain ⟨u, b, cup⟩ := z
    have HE := Lib.hid (fun W g (hb : Below w.heap.size w W) hg => same_eqf n l (by omega) IH t u a b cap cup g W (hy.later hb) (hz.later hb) hg)
    simp only
    rw [sameX_eq]
    clear hy hz IH
    obtain ⟨w0, hw0⟩ : ∃ w0, w.alloc (.cells #[.int .i64 t.lab.kd, .int .u8 t.lab.v.k, .int .i64 t.lab.v.n, .string t.lab.v.s, .string t.lab.tb, .string t.lab.nm, .string t.lab.op, .slice a t.args.length cap] 45) = w0 := ⟨_, rfl⟩
    obtain ⟨w1, hw1⟩ : ∃ w1, w0.alloc (.cells #[.int .i64 u.lab.kd, .int .u8 u.lab.v.k, .int .i64 u.lab.v.n, .string u.lab.v.s, .string u.lab.tb, .string u.lab.nm, .string u.lab.op, .slice b u.args.length cup] 45) = w1 := ⟨_, rfl⟩
    have hb0 : Below w.heap.size w w0 := by rw [← hw0]; exact (Below.refl _ w).alloc (Nat.le_refl _) _
    have hb1 : Below w0.heap.size w0 w1 := by rw [← hw1]; exact (Below.refl _ w0).alloc (Nat.le_refl _) _
    have hY : Slot8 w0 w.heap.size (.int .i64 t.lab.kd) (.int .u8 t.lab.v.k) (.int .i64 t.lab.v.n) (.string t.lab.v.s) (.string t.lab.tb) (.string t.lab.nm) (.string t.lab.op) (.slice a t.args.length cap) := by rw [← hw0]; exact Slot8.new w 45 _ _ _ _ _ _ _ _
    have hZ : Slot8 w1 w0.heap.size (.int .i64 u.lab.kd) (.int .u8 u.lab.v.k) (.int .i64 u.lab.v.n) (.string u.lab.v.s) (.string u.lab.tb) (.string u.lab.nm) (.string u.lab.op) (.slice b u.args.length cup) := by rw [← hw1]; exact Slot8.new w0 45 _ _ _ _ _ _ _ _
    have hs0 : w0.heap.size = w.heap.size + 1 := by rw [← hw0]; simp
    have hs1 : w1.heap.size = w0.heap.size + 1 := by rw [← hw1]; simp
    obtain ⟨w2, hw2⟩ : ∃ w2, w1.alloc (.cells #[.int .i64 ((l + 1 : Nat) : Int)] 3) = w2 := ⟨_, rfl⟩
    have hb2 : Below w1.heap.size w1 w2 := by rw [← hw2]; exact (Below.refl _ w1).alloc (Nat.le_refl _) _
    have hg : w2.cell? ⟨w1.heap.size, 0, none⟩ = some (.int .i64 ((l + 1 : Nat) : Int)) := by rw [← hw2]; simp
    have HB2 := Lib.hid ((hb0.trans (hb1.mono hb0.size)).trans (hb2.mono (by omega)))
    have HC := Lib.hid (HE.out w2 w1.heap.size HB2.out hg)
    obtain ⟨y0, y1, y2, y3, y4, y5, y6, y7⟩ := (hY.later (N := w0.heap.size) (by omega) hb1).later (N := w1.heap.size) (by omega) hb2
    obtain ⟨z0, z1, z2, z3, z4, z5, z6, z7⟩ := hZ.later (N := w1.heap.size) (by omega) hb2
    clear hb0 hb1 hb2 hY hZ HE hs0 hs1
    have hl0 : (((l + 1 : Nat) : Int) == 0) = false := by simp; omega
    generalize hQ : ((l + 1 : Nat) : Int) = Q at *
    clear hQ
    obtain ⟨q0, hq0⟩ : ∃ q, (t.lab.kd == u.lab.kd) = q := ⟨_, rfl⟩
    obtain ⟨qv, hqv⟩ : ∃ q, decide (t.lab.v = u.lab.v) = q := ⟨_, rfl⟩
    obtain ⟨q2, hq2⟩ : ∃ q, (t.lab.tb.toList == u.lab.tb.toList) = q := ⟨_, rfl⟩
    obtain ⟨q3, hq3⟩ : ∃ q, (t.lab.nm.toList == u.lab.nm.toList) = q := ⟨_, rfl⟩
    obtain ⟨q4, hq4⟩ : ∃ q, (t.lab.op.toList == u.lab.op.toList) = q := ⟨_, rfl⟩
    have hE := eqV20 _ _ _ hqv
    have hn0 : (t.lab.kd != u.lab.kd) = !q0 := by rw [← hq0]; rfl
    have hn2 : (t.lab.tb.toList != u.lab.tb.toList) = !q2 := by rw [← hq2]; rfl
    have hn3 : (t.lab.nm.toList != u.lab.nm.toList) = !q3 := by rw [← hq3]; rfl
    have hn4 : (t.lab.op.toList != u.lab.op.toList) = !q4 := by rw [← hq4]; rfl
    rw [hq0, hqv, hq2, hq3, hq4]
    clear hqv
    generalize listSame (sameX l) t.args u.args = d at *
    go_enter Tryz.func47, Tryz.ntmps47
    cases q0
    · go_wp2
      go_ret
      exact ⟨rfl, HB2.out⟩
    cases qv
    · go_wp2
      go_ret
      exact ⟨rfl, HB2.out⟩
    cases q2
    · go_wp2
      go_ret
      exact ⟨rfl, HB2.out⟩
    cases q3
    · go_wp2
      go_ret
      exact ⟨rfl, HB2.out⟩
    cases q4
    · go_wp2
      go_ret
      exact ⟨rfl, HB2.out⟩
    go_wp2_with fail
    refine (HC.out).mono ?_
    rintro e w3 ⟨rfl, hb3⟩
    have HB3 := Lib.hid (HB2.out.trans (hb3.mono HB2.out.size))
    clear hb3
    go_wp2
    go_ret
    exact ⟨rfl, HB3.out⟩
theorem Same_any20 (n : Nat) (y z : XM) (w : World) (hy : XAt w.heap.size w n y) (hz : XAt w.heap.size w n z) :
    Calls Tryz.prog 25 #[y.v, z.v] w fun e w' => e = .returned (.bool (sameX 20 y.t z.t)) ∧ Below w.heap.size w w' := by
  have HS := Lib.hid (fun W (hb : Below w.heap.size w W) => same_is n 20 (by omega) y z W (hy.later hb) (hz.later hb))
  rw [XM.v_eq, XM.v_eq]
  generalize sameX 20 y.t z.t = d at *
  clear hy hz
  obtain ⟨w0, hw0⟩ : ∃ w0, w.alloc (.cells #[.int .i64 y.t.lab.kd, .int .u8 y.t.lab.v.k, .int .i64 y.t.lab.v.n, .string y.t.lab.v.s, .string y.t.lab.tb, .string y.t.lab.nm, .string y.t.lab.op, .slice y.a y.t.args.length y.cap] 45) = w0 := ⟨_, rfl⟩
  obtain ⟨w1, hw1⟩ : ∃ w1, w0.alloc (.cells #[.int .i64 z.t.lab.kd, .int .u8 z.t.lab.v.k, .int .i64 z.t.lab.v.n, .string z.t.lab.v.s, .string z.t.lab.tb, .string z.t.lab.nm, .string z.t.lab.op, .slice z.a z.t.args.length z.cap] 45) = w1 := ⟨_, rfl⟩
  have hb0 : Below w.heap.size w w0 := by rw [← hw0]; exact (Below.refl _ w).alloc (Nat.le_refl _) _
  have hb1 : Below w0.heap.size w0 w1 := by rw [← hw1]; exact (Below.refl _ w0).alloc (Nat.le_refl _) _
  have hs0 : w0.heap.size = w.heap.size + 1 := by rw [← hw0]; simp
  have hY : Slot8 w0 w.heap.size (.int .i64 y.t.lab.kd) (.int .u8 y.t.lab.v.k) (.int .i64 y.t.lab.v.n) (.string y.t.lab.v.s) (.string y.t.lab.tb) (.string y.t.lab.nm) (.string y.t.lab.op) (.slice y.a y.t.args.length y.cap) := by rw [← hw0]; exact Slot8.new w 45 _ _ _ _ _ _ _ _
  have hZ : Slot8 w1 w0.heap.size (.int .i64 z.t.lab.kd) (.int .u8 z.t.lab.v.k) (.int .i64 z.t.lab.v.n) (.string z.t.lab.v.s) (.string z.t.lab.tb) (.string z.t.lab.nm) (.string z.t.lab.op) (.slice z.a z.t.args.length z.cap) := by rw [← hw1]; exact Slot8.new w0 45 _ _ _ _ _ _ _ _
  obtain ⟨y0, y1, y2, y3, y4, y5, y6, y7⟩ := hY.later (N := w0.heap.size) (by omega) hb1
  obtain ⟨z0, z1, z2, z3, z4, z5, z6, z7⟩ := hZ
  have HB1 := Lib.hid (hb0.trans (hb1.mono hb0.size))
  clear hb0 hb1 hs0 hY
  go_enter Tryz.func25, Tryz.ntmps25
  go_wp2_with fail
  refine (HS.out _ HB1.out).mono ?_
  rintro e w2 ⟨rfl, hb2⟩
  have HB2 := Lib.hid (HB1.out.trans (hb2.mono HB1.out.size))
  clear hb2
  go_wp2
  go_ret
  exact ⟨rfl, HB2.out⟩
end Go.Proofs.YtbnddpicpomakaaGreatDoor

/- The walk of the reference's Same. -/
set_option linter.unusedSimpArgs false
set_option linter.unusedVariables false
set_option maxRecDepth 100000
namespace Go.Proofs.YtbnddpicpomakaaGreatDoor
open Go.RowKit

open Classical in
noncomputable def eqT (a b : Ex) : Bool := decide (a = b)
open Classical in
noncomputable def eqL (a b : List Ex) : Bool := decide (a = b)
theorem eqT_iff (a b : Ex) : eqT a b = true ↔ a = b := by unfold eqT; simp
theorem eqL_iff (a b : List Ex) : eqL a b = true ↔ a = b := by unfold eqL; simp
theorem lab_ext {l m : Lb} (h1 : l.kd = m.kd) (h2 : l.v = m.v) (h3 : l.tb = m.tb) (h4 : l.nm = m.nm) (h5 : l.op = m.op) : l = m := by
  obtain ⟨a, b, c, d, e⟩ := l
  obtain ⟨a', b', c', d', e'⟩ := m
  simp only at h1 h2 h3 h4 h5
  rw [h1, h2, h3, h4, h5]
theorem eqT_eq (t u : Ex) : eqT t u = ((t.lab.kd == u.lab.kd) && (decide (t.lab.v = u.lab.v) && ((t.lab.tb.toList == u.lab.tb.toList) && ((t.lab.nm.toList == u.lab.nm.toList) && ((t.lab.op.toList == u.lab.op.toList) && eqL t.args u.args))))) := by
  rw [Bool.eq_iff_iff]
  constructor
  · intro h
    have h1 := (eqT_iff t u).1 h
    subst h1
    simp [(eqL_iff t.args t.args).2 rfl]
  · intro h
    simp only [Bool.and_eq_true, beq_iff_eq, decide_eq_true_iff, eqL_iff] at h
    obtain ⟨h1, h2, h3, h4, h5, h6⟩ := h
    rw [eqT_iff, ← t.eta, ← u.eta, h6, lab_ext h1 h2 (toList_inj h3) (toList_inj h4) (toList_inj h5)]

set_option maxHeartbeats 8000000 in
theorem RSame_any20 : ∀ (n : Nat) (x y : XM) (w : World), XAt w.heap.size w n x → XAt w.heap.size w n y →
    Calls Tryz.prog 26 #[x.v, y.v] w fun e w' => e = .returned (.bool (eqT x.t y.t)) ∧ Below w.heap.size w w'
  | 0, _, _, _, h, _ => h.elim
  | n + 1, ⟨t, a, cap⟩, ⟨u, b, cup⟩, w, hx, hy => by
    have IH : Hid (∀ (x y : XM) (W : World), XAt W.heap.size W n x → XAt W.heap.size W n y → Calls Tryz.prog 26 #[.agg #[.int .i64 x.t.lab.kd, .int .u8 x.t.lab.v.k, .int .i64 x.t.lab.v.n, .string x.t.lab.v.s, .string x.t.lab.tb, .string x.t.lab.nm, .string x.t.lab.op, .slice x.a x.t.args.length x.cap], .agg #[.int .i64 y.t.lab.kd, .int .u8 y.t.lab.v.k, .int .i64 y.t.lab.v.n, .string y.t.lab.v.s, .string y.t.lab.tb, .string y.t.lab.nm, .string y.t.lab.op, .slice y.a y.t.args.length y.cap]] W fun e w' => e = .returned (.bool (eqT x.t y.t)) ∧ Below W.heap.size W w') := fun x y W h1 h2 => by
      have := RSame_any20 n x y W h1 h2
      rw [XM.v_eq, XM.v_eq] at this; exact this
    rw [XM.v_eq, XM.v_eq]
    have HA := Lib.hid hx
    have HK := Lib.hid hy
    have hlen := hx.fair.2.1
    have hcap := hx.fair.2.2
    have klen := hy.fair.2.1
    have kcap := hy.fair.2.2
    simp only at hlen hcap klen kcap ⊢
    rw [eqT_eq]
    obtain ⟨r, hr⟩ : ∃ r, eqL t.args u.args = r := ⟨_, rfl⟩
    rw [hr]
    have HR := Lib.hid hr
    obtain ⟨m, hm⟩ : ∃ m, t.args.length = m := ⟨_, rfl⟩
    obtain ⟨q, hq⟩ : ∃ q, u.args.length = q := ⟨_, rfl⟩
    rw [hm] at hlen ⊢
    rw [hq] at klen ⊢
    have HM := Lib.hid hm
    have HQ := Lib.hid hq
    clear hx hy hr hm hq
    obtain ⟨w0, hw0⟩ : ∃ w0, w.alloc (.cells #[.int .i64 t.lab.kd, .int .u8 t.lab.v.k, .int .i64 t.lab.v.n, .string t.lab.v.s, .string t.lab.tb, .string t.lab.nm, .string t.lab.op, .slice a m cap] 50) = w0 := ⟨_, rfl⟩
    obtain ⟨w1, hw1⟩ : ∃ w1, w0.alloc (.cells #[.int .i64 u.lab.kd, .int .u8 u.lab.v.k, .int .i64 u.lab.v.n, .string u.lab.v.s, .string u.lab.tb, .string u.lab.nm, .string u.lab.op, .slice b q cup] 50) = w1 := ⟨_, rfl⟩
    have hb0 : Below w.heap.size w w0 := by rw [← hw0]; exact (Below.refl _ w).alloc (Nat.le_refl _) _
    have hb1 : Below w0.heap.size w0 w1 := by rw [← hw1]; exact (Below.refl _ w0).alloc (Nat.le_refl _) _
    have hs0 : w0.heap.size = w.heap.size + 1 := by rw [← hw0]; simp
    have hs1 : w1.heap.size = w0.heap.size + 1 := by rw [← hw1]; simp
    have HY := Lib.hid ((by rw [← hw0]; exact Slot8.new w 50 _ _ _ _ _ _ _ _ : Slot8 w0 w.heap.size (.int .i64 t.lab.kd) (.int .u8 t.lab.v.k) (.int .i64 t.lab.v.n) (.string t.lab.v.s) (.string t.lab.tb) (.string t.lab.nm) (.string t.lab.op) (.slice a m cap)).later (N := w0.heap.size) (by omega) hb1)
    have HZ := Lib.hid (by rw [← hw1]; exact Slot8.new w0 50 _ _ _ _ _ _ _ _ : Slot8 w1 w0.heap.size (.int .i64 u.lab.kd) (.int .u8 u.lab.v.k) (.int .i64 u.lab.v.n) (.string u.lab.v.s) (.string u.lab.tb) (.string u.lab.nm) (.string u.lab.op) (.slice b q cup))
    have HB1 := Lib.hid (hb0.trans (hb1.mono hb0.size))
    have HL : Hid (w.heap.size < w1.heap.size ∧ w0.heap.size < w1.heap.size) := ⟨by omega, by omega⟩
    clear hb0 hb1 hs0 hs1
    obtain ⟨y0, y1, y2, y3, y4, y5, y6, y7⟩ := HY.out
    obtain ⟨z0, z1, z2, z3, z4, z5, z6, z7⟩ := HZ.out
    obtain ⟨q0, hq0⟩ : ∃ q, (t.lab.kd == u.lab.kd) = q := ⟨_, rfl⟩
    obtain ⟨qv, hqv⟩ : ∃ q, decide (t.lab.v = u.lab.v) = q := ⟨_, rfl⟩
    obtain ⟨q2, hq2⟩ : ∃ q, (t.lab.tb.toList == u.lab.tb.toList) = q := ⟨_, rfl⟩
    obtain ⟨q3, hq3⟩ : ∃ q, (t.lab.nm.toList == u.lab.nm.toList) = q := ⟨_, rfl⟩
    obtain ⟨q4, hq4⟩ : ∃ q, (t.lab.op.toList == u.lab.op.toList) = q := ⟨_, rfl⟩
    have hE := eqV20 _ _ _ hqv
    have hn0 : (t.lab.kd != u.lab.kd) = !q0 := by rw [← hq0]; rfl
    have hn2 : (t.lab.tb.toList != u.lab.tb.toList) = !q2 := by rw [← hq2]; rfl
    have hn3 : (t.lab.nm.toList != u.lab.nm.toList) = !q3 := by rw [← hq3]; rfl
    have hn4 : (t.lab.op.toList != u.lab.op.toList) = !q4 := by rw [← hq4]; rfl
    rw [hq0, hqv, hq2, hq3, hq4]
    clear hqv
    go_enter Tryz.func26, Tryz.ntmps26
    cases q0
    · go_wp2
      go_ret
      exact ⟨rfl, HB1.out⟩
    cases qv
    · go_wp2
      go_ret
      exact ⟨rfl, HB1.out⟩
    cases q2
    · go_wp2
      go_ret
      exact ⟨rfl, HB1.out⟩
    cases q3
    · go_wp2
      go_ret
      exact ⟨rfl, HB1.out⟩
    cases q4
    · go_wp2
      go_ret
      exact ⟨rfl, HB1.out⟩
    by_cases hmq : m = q
    rotate_left
    · have q5 : ((m : Int) != (q : Int)) = true := by simp; omega
      have hrf : r = false := by
        rw [← HR.out, Bool.eq_false_iff]
        intro ht
        have := congrArg List.length ((eqL_iff _ _).1 ht)
        rw [HM.out, HQ.out] at this; exact hmq this
      subst hrf
      go_wp2
      go_ret
      exact ⟨rfl, HB1.out⟩
    subst hmq
    have hmm : ((m : Int) != (m : Int)) = false := by simp
    go_wp2
    clear hE hn0 hn2 hn3 hn4 hq0 hq2 hq3 hq4 hmm
    clear y0 y1 y2 y3 y4 y5 y6 y7 z0 z1 z2 z3 z4 z5 z6 z7 hw0 hw1
    go_loopw [5] (fun i wr => ∃ k : Nat, k ≤ m ∧ i = .int .i64 k ∧ Hid (t.args.take k = u.args.take k) ∧ Hid (Below w1.heap.size w1 wr)) (fun i _ => m - (intOf i).toNat)
    case atStart => exact ⟨0, by omega, rfl, rfl, Below.refl _ _⟩
    case round =>
      obtain ⟨k, hk, rfl, HI, HBr⟩ := hrel
      have HBw := Lib.hid (HB1.out.trans (HBr.out.mono HB1.out.size))
      obtain ⟨y0, y1, y2, y3, y4, y5, y6, y7⟩ := HY.out.later HL.out.1 HBr.out
      obtain ⟨z0, z1, z2, z3, z4, z5, z6, z7⟩ := HZ.out.later HL.out.2 HBr.out
      by_cases hlt : k < m
      · have hkl : k < t.args.length := by rw [HM.out]; exact hlt
        have hku : k < u.args.length := by rw [HQ.out]; exact hlt
        obtain ⟨y, hy, hAy, b1, o1, hab, hbN, hKid⟩ := (HA.out.later HBw.out).kid8 (k := k) hkl
        obtain ⟨z, hz, hAz, b2, o2, hab2, hbN2, hKid2⟩ := (HK.out.later HBw.out).kid8 (k := k) hku
        simp only at hab hy hab2 hz
        subst hab hab2
        have HTk : Hid (eqT y.t z.t = true → t.args.take (k + 1) = u.args.take (k + 1)) := fun he => by
          rw [List.take_succ_eq_append_getElem hkl, List.take_succ_eq_append_getElem hku, HI.out, ← hy, ← hz, (eqT_iff _ _).1 he]
        have HTf : Hid (eqT y.t z.t = false → r = false) := fun hf => by
          rw [← HR.out, Bool.eq_false_iff]
          intro ht
          have h1 := (eqL_iff _ _).1 ht
          have h2 : t.args[k] = u.args[k] := by simp only [h1]
          rw [← hy, ← hz] at h2
          rw [(eqT_iff _ _).2 h2] at hf; cases hf
        have HC := Lib.hid (fun V (hV : Later wr.drew V) => IH.out y z V (hAy.later (Later.undrew hV)) (hAz.later (Later.undrew hV)))
        have HF := Lib.hid (fun V (hV : Later wr.drew V) => (⟨(HY.out.later HL.out.1 HBr.out).later (Nat.lt_of_lt_of_le HL.out.1 HBr.out.size) (Later.undrew hV), (HZ.out.later HL.out.2 HBr.out).later (Nat.lt_of_lt_of_le HL.out.2 HBr.out.size) (Later.undrew hV), hKid.later hbN (Later.undrew hV), hKid2.later hbN2 (Later.undrew hV)⟩ : Slot8 V w.heap.size (.int .i64 t.lab.kd) (.int .u8 t.lab.v.k) (.int .i64 t.lab.v.n) (.string t.lab.v.s) (.string t.lab.tb) (.string t.lab.nm) (.string t.lab.op) (.slice (some ⟨b1, o1, none⟩) m cap) ∧ Slot8 V w0.heap.size (.int .i64 u.lab.kd) (.int .u8 u.lab.v.k) (.int .i64 u.lab.v.n) (.string u.lab.v.s) (.string u.lab.tb) (.string u.lab.nm) (.string u.lab.op) (.slice (some ⟨b2, o2, none⟩) m cup) ∧ KidAt V b1 (o1 + k * 8) y ∧ KidAt V b2 (o2 + k * 8) z))
        generalize eqT y.t z.t = d at *
        have f7 := fun V hV => (HF.out V hV).1.c7
        have g7 := fun V hV => (HF.out V hV).2.1.c7
        have k0 := fun V hV => (HF.out V hV).2.2.1.c0
        have k1 := fun V hV => (HF.out V hV).2.2.1.c1
        have k2 := fun V hV => (HF.out V hV).2.2.1.c2
        have k3 := fun V hV => (HF.out V hV).2.2.1.c3
        have k4 := fun V hV => (HF.out V hV).2.2.1.c4
        have k5 := fun V hV => (HF.out V hV).2.2.1.c5
        have k6 := fun V hV => (HF.out V hV).2.2.1.c6
        have k7 := fun V hV => (HF.out V hV).2.2.1.c7
        have l0 := fun V hV => (HF.out V hV).2.2.2.c0
        have l1 := fun V hV => (HF.out V hV).2.2.2.c1
        have l2 := fun V hV => (HF.out V hV).2.2.2.c2
        have l3 := fun V hV => (HF.out V hV).2.2.2.c3
        have l4 := fun V hV => (HF.out V hV).2.2.2.c4
        have l5 := fun V hV => (HF.out V hV).2.2.2.c5
        have l6 := fun V hV => (HF.out V hV).2.2.2.c6
        have l7 := fun V hV => (HF.out V hV).2.2.2.c7
        clear hy hAy hz hAz hkl hku hbN hbN2 hKid hKid2
        go_wp2_with fail
        refine wp_region_ord [(0, true), (1, true), (2, true), (3, true), (4, true), (5, true), (6, true), (7, true), (8, true), (9, true), (10, false), (11, true)] (by kernel_rfl) (by kernel_rfl) (by kernel_rfl) (by kernel_rfl) ?_
        repeat (first | (refine wpO_F (v := ?_) rfl (by rfl) (fun w' hL => ?_) ?_; rotate_left; (solve | (go_simp; with_reducible rfl) | go_simp); try simp only [Act.put, List.setIfInBounds_toArray, List.set_cons_zero, List.set_cons_succ]) | (refine wpO_G rfl (by rfl) ?_; try simp only [Act.put, List.setIfInBounds_toArray, List.set_cons_zero, List.set_cons_succ]))
        refine wpO_C rfl (by rfl) ?_
        go_simp
        refine (HC.out _ (Below.refl _ _)).mono ?_
        rintro e w2 ⟨rfl, hb2⟩
        refine ⟨hb2, ?_⟩
        try simp only [Act.put, List.setIfInBounds_toArray, List.set_cons_zero, List.set_cons_succ]
        have HB2 := Lib.hid (HBr.out.trans (((Below.refl wr.heap.size wr).drew.trans hb2).mono HBr.out.size))
        clear hb2 f7 g7 k0 k1 k2 k3 k4 k5 k6 k7 l0 l1 l2 l3 l4 l5 l6 l7
        repeat (first | (refine wpO_F (v := ?_) rfl (by rfl) (fun w' hL => ?_) ?_; rotate_left; (solve | (go_simp; with_reducible rfl) | go_simp); try simp only [Act.put, List.setIfInBounds_toArray, List.set_cons_zero, List.set_cons_succ]) | (refine wpO_G rfl (by rfl) ?_; try simp only [Act.put, List.setIfInBounds_toArray, List.set_cons_zero, List.set_cons_succ]))
        refine wpO_nil ?_
        cases d
        · have hrf := HTf.out rfl
          subst hrf
          go_wp2
          go_ret
          exact ⟨rfl, HB1.out.trans (HB2.out.mono HB1.out.size)⟩
        · go_wp2
          go_roundw
          case rel => exact ⟨k + 1, by omega, by go_num, HTk.out rfl, HB2.out⟩
          case measure => simp [intOf]; omega
      · have q0 : decide (k < m) = false := by simpa using hlt
        have hrt : r = true := by
          have h1 := HI.out
          rw [show k = m by omega, List.take_of_length_le (by rw [HM.out]; omega), List.take_of_length_le (by rw [HQ.out]; omega)] at h1
          rw [← HR.out]; exact (eqL_iff _ _).2 h1
        subst hrt
        go_wp2
        go_ret
        exact ⟨rfl, HBw.out⟩
end Go.Proofs.YtbnddpicpomakaaGreatDoor

/- The walk of the reference's Deep. -/
set_option linter.unusedSimpArgs false
set_option linter.unusedVariables false
set_option maxRecDepth 100000
namespace Go.Proofs.YtbnddpicpomakaaGreatDoor
open Go.RowKit

theorem depTo_next {args : List Ex} {most k : Nat} (hk : k < args.length) (hm : 1 ≤ most) : depTo args most (k + 1) = max (depTo args most k) (1 + min args[k].depth (most - 1)) := by
  have := args[k].depth_pos
  unfold depTo; rw [maxL_take_succ hk]; omega

set_option maxHeartbeats 8000000 in
theorem RDeep_any20 : ∀ (n : Nat) (x : XM) (w : World) (left : Nat), XAt w.heap.size w n x → left ≤ 1000 →
    Calls Tryz.prog 22 #[x.v, .int .i64 (left : Int)] w fun e w' => e = .returned (.int .i64 ((min x.t.depth (left + 1) : Nat) : Int)) ∧ Below w.heap.size w w'
  | 0, _, _, _, h, _ => h.elim
  | n + 1, ⟨t, a, cap⟩, w, left, h, hl => by
    rw [XM.v_eq]
    have HA := Lib.hid h
    have hlen := h.fair.2.1
    have hcap := h.fair.2.2
    simp only at hlen hcap ⊢
    have HE := Lib.hid (depTo_end t (left + 1))
    have hdp := t.depth_pos
    obtain ⟨r, hr⟩ : ∃ r : Nat, min t.depth (left + 1) = r := ⟨_, rfl⟩
    rw [hr] at HE ⊢
    obtain ⟨m, hm⟩ : ∃ m, t.args.length = m := ⟨_, rfl⟩
    rw [hm] at hlen ⊢
    have HM := Lib.hid hm
    have HS := Lib.hid (Slot8.new w 50 (.int .i64 t.lab.kd) (.int .u8 t.lab.v.k) (.int .i64 t.lab.v.n) (.string t.lab.v.s) (.string t.lab.tb) (.string t.lab.nm) (.string t.lab.op) (.slice a m cap))
    obtain ⟨w0, hw0⟩ : ∃ w0, w.alloc (.cells #[.int .i64 t.lab.kd, .int .u8 t.lab.v.k, .int .i64 t.lab.v.n, .string t.lab.v.s, .string t.lab.tb, .string t.lab.nm, .string t.lab.op, .slice a m cap] 50) = w0 := ⟨_, rfl⟩
    have HB1 : Hid (Below w.heap.size w w0) := by rw [← hw0]; exact (Below.refl _ w).alloc (Nat.le_refl _) _
    have hs0 : w.heap.size < w0.heap.size := by rw [← hw0]; simp
    rw [hw0] at HS
    obtain ⟨x0, x1, x2, x3, x4, x5, x6, x7⟩ := HS.out
    cases left with
    | zero =>
      have hr1 := Lib.hid (show 1 = r by rw [← hr]; omega)
      clear hr hdp h hm HA HE HM
      go_enter Tryz.func22, Tryz.ntmps22
      go_wp2
      go_loopw [5, 6] (fun v i wr => v = .int .i64 1 ∧ i = .int .i64 0 ∧ wr = w0) (fun _ _ _ => 0)
      case atStart => exact ⟨rfl, rfl, rfl⟩
      case round =>
        obtain ⟨rfl, rfl, rfl⟩ := hrel
        by_cases h0 : 0 < m
        · have q0 : decide ((0 : Int) < (m : Int)) = true := by simp; omega
          go_wp2
          go_ret
          exact ⟨by rw [← hr1.out]; rfl, HB1.out⟩
        · have q0 : decide ((0 : Int) < (m : Int)) = false := by simp; omega
          go_wp2
          go_ret
          exact ⟨by rw [← hr1.out]; rfl, HB1.out⟩
    | succ l =>
      have IH : Hid (∀ (y : XM) (W : World), XAt W.heap.size W n y → Calls Tryz.prog 22 #[.agg #[.int .i64 y.t.lab.kd, .int .u8 y.t.lab.v.k, .int .i64 y.t.lab.v.n, .string y.t.lab.v.s, .string y.t.lab.tb, .string y.t.lab.nm, .string y.t.lab.op, .slice y.a y.t.args.length y.cap], .int .i64 (l : Int)] W fun e w' => e = .returned (.int .i64 ((min y.t.depth (l + 1) : Nat) : Int)) ∧ Below W.heap.size W w') := fun y W hy => by
        have := RDeep_any20 n y W l hy (by omega)
        rw [XM.v_eq] at this; exact this
      have hl1 : IntKind.i64.wrap (((l + 1 : Nat) : Int) - 1) = (l : Int) := by rw [show ((l + 1 : Nat) : Int) - 1 = (l : Int) by omega]; exact IntWalk.i64_in _ (by omega)
      have hl0 : decide ((0 : Int) < ((l + 1 : Nat) : Int)) = true := decide_eq_true (by omega)
      have HC : Hid (∀ k (hk : k < t.args.length), depTo t.args (l + 1 + 1) (k + 1) = max (depTo t.args (l + 1 + 1) k) (1 + min t.args[k].depth (l + 1))) := fun k hk => by
        exact depTo_next hk (by omega)
      have HC1 : Hid (∀ k, depTo t.args (l + 1 + 1) k ≤ l + 1 + 1) := fun k => depTo_le _ _ _
      have HC0 : Hid (depTo t.args (l + 1 + 1) 0 = 1) := by unfold depTo; simp [maxL, Hid]
      generalize depTo t.args (l + 1 + 1) = C at *
      generalize hL : ((l + 1 : Nat) : Int) = L at *
      clear hr hdp h hm hL
      go_enter Tryz.func22, Tryz.ntmps22
      go_wp2
      clear x0 x1 x2 x3 x4 x5 x6 x7
      go_loopw [5, 6] (fun v i wr => ∃ k : Nat, k ≤ m ∧ v = .int .i64 (C k : Int) ∧ i = .int .i64 (k : Int) ∧ Hid (Below w0.heap.size w0 wr)) (fun _ i _ => m - (intOf i).toNat)
      case atStart => exact ⟨0, by omega, by rw [HC0.out]; rfl, rfl, Below.refl _ _⟩
      case round =>
        obtain ⟨k, hk, rfl, rfl, HBr⟩ := hrel
        obtain ⟨x0, x1, x2, x3, x4, x5, x6, x7⟩ := HS.out.later hs0 HBr.out
        have HBw := Lib.hid (HB1.out.trans (HBr.out.mono HB1.out.size))
        by_cases hlt : k < m
        · have hkl : k < t.args.length := by rw [HM.out]; exact hlt
          obtain ⟨y, hy, hAy, b, o, hab, hbN, hKid⟩ := (HA.out.later HBw.out).kid8 (k := k) hkl
          simp only at hab hy
          subst hab
          have HCk := HC.out k hkl
          rw [← hy] at HCk
          have HY := Lib.hid (IH.out y wr hAy)
          obtain ⟨d, hd⟩ : ∃ d, min y.t.depth (l + 1) = d := ⟨_, rfl⟩
          rw [hd] at HY HCk
          have hCk1 := HC1.out k
          have hdl : d ≤ l + 1 := by omega
          obtain ⟨y0, y1, y2, y3, y4, y5, y6, y7⟩ := hKid
          clear hy hAy HA IH hd hkl
          by_cases hgt : C k < 1 + d
          · have q1 : decide ((C k : Int) < 1 + (d : Int)) = true := by simp; omega
            have HV : Hid (C (k + 1) = 1 + d) := by show _ = _; omega
            go_wp2_with fail
            refine HY.out.mono ?_
            rintro e w2 ⟨rfl, hb2⟩
            have HB2 := Lib.hid (HBr.out.trans (hb2.mono HBr.out.size))
            clear hb2 HY y0 y1 y2 y3 y4 y5 y6 y7 x0 x1 x2 x3 x4 x5 x6 x7 HCk
            go_wp2
            go_roundw
            case rel => exact ⟨k + 1, by omega, by rw [HV.out]; go_num, by go_num, HB2.out⟩
            case measure => simp [intOf]; omega
          · have q1 : decide ((C k : Int) < 1 + (d : Int)) = false := by simp; omega
            have HV : Hid (C (k + 1) = C k) := by show _ = _; omega
            go_wp2_with fail
            refine HY.out.mono ?_
            rintro e w2 ⟨rfl, hb2⟩
            have HB2 := Lib.hid (HBr.out.trans (hb2.mono HBr.out.size))
            clear hb2 HY y0 y1 y2 y3 y4 y5 y6 y7 x0 x1 x2 x3 x4 x5 x6 x7 HCk
            go_wp2
            go_roundw
            case rel => exact ⟨k + 1, by omega, by rw [HV.out], by go_num, HB2.out⟩
            case measure => simp [intOf]; omega
        · have HR : Hid (C k = r) := by rw [show k = m by omega, ← HM.out]; exact HE.out
          go_wp2
          go_ret
          exact ⟨ret_k HR.out, HBw.out⟩
end Go.Proofs.YtbnddpicpomakaaGreatDoor

/- The walks of the reference's among and Reserved. -/
set_option linter.unusedSimpArgs false
set_option linter.unusedVariables false
set_option maxRecDepth 100000
namespace Go.Proofs.YtbnddpicpomakaaGreatDoor
open Go.RowKit

theorem cellsS_map : ∀ l : List ByteArray, cellsS l = l.map Value.string
  | [] => rfl
  | x :: r => by show Value.string x :: cellsS r = _; rw [cellsS_map r]; rfl
theorem strAt20 {N : Nat} {w : World} {a : Option Addr} {l : List ByteArray} (h : Arr N w a (cellsS l)) {k : Nat} (hk : k < l.length) : ∃ b o, a = some ⟨b, o, none⟩ ∧ b < N ∧ w.cell? ⟨b, o + k, none⟩ = some (.string l[k]) := by
  have hg : (cellsS l)[k]? = some (.string l[k]) := by
    rw [cellsS_map, List.getElem?_map, List.getElem?_eq_getElem hk]; rfl
  rcases h with h | ⟨b, o, ha, hb, hc⟩
  · rw [h] at hg; simp at hg
  · exact ⟨b, o, ha, hb, hc k _ hg⟩

/-- A row of texts that has just been made. -/
theorem arr_strs (w : World) (T : TypeId) (l : List ByteArray) : Arr (w.heap.size + 1) (w.alloc (.cells (cellsS l).toArray T)) (some ⟨w.heap.size, 0, none⟩) (cellsS l) := by
  refine .inr ⟨w.heap.size, 0, rfl, by omega, fun i v hi => ?_⟩
  rw [World.cell?_alloc_at _ _ _ _ rfl, Nat.zero_add]
  simpa using hi

set_option maxHeartbeats 2000000 in
theorem RAmong_any20 (l : List ByteArray) (key : ByteArray) (a : Option Addr) (len cap : Nat) (w : World) (hV : Arr w.heap.size w a (cellsS l)) (hlen : len = l.length) (hmax : len ≤ 140737488355328) :
    Calls Tryz.prog 48 #[.slice a len cap, .string key] w fun e w' => e = .returned (.bool (l.any fun x => key.toList == x.toList)) ∧ w = w' := by
  have HV := Lib.hid hV
  have HL := Lib.hid hlen
  clear hV hlen
  obtain ⟨R, hR⟩ : ∃ R, (l.any fun x => key.toList == x.toList) = R := ⟨_, rfl⟩
  rw [hR]
  have HR := Lib.hid hR
  clear hR
  go_enter Tryz.func48, Tryz.ntmps48
  go_wp2
  go_loop [5] (fun i => ∃ k : Nat, k ≤ len ∧ i = .int .i64 k ∧ Hid (((l.take k).any fun x => key.toList == x.toList) = false)) (fun i => len - (intOf i).toNat)
  case atStart => exact ⟨0, by omega, rfl, by simp [Hid]⟩
  case round =>
    obtain ⟨k, hk, rfl, HI⟩ := hrel
    by_cases hlt : k < len
    · have hkl : k < l.length := by have := HL.out; omega
      obtain ⟨b, o, rfl, hbN, c0⟩ := strAt20 HV.out hkl
      have HG : Hid (l[k] ∈ l) := List.getElem_mem hkl
      have HT : Hid (((l.take (k + 1)).any fun x => key.toList == x.toList) = (key.toList == l[k].toList)) := by
        rw [List.take_succ_eq_append_getElem hkl, List.any_append, HI.out]; simp [Hid]
      obtain ⟨y, hy⟩ : ∃ y, y = l[k] := ⟨_, rfl⟩
      rw [← hy] at c0 HG HT
      clear hy
      by_cases hky : y = key
      · subst hky
        have HQ : Hid (R = true) := by rw [Hid, ← HR.out, List.any_eq_true]; exact ⟨y, HG.out, by simp⟩
        clear HT HG
        go_wp2
        go_ret
        exact ⟨ret_b HQ.out.symm, rfl⟩
      · have q1 : (y.toList == key.toList) = false := by rw [beq_eq_false_iff_ne]; exact toList_ne hky
        have HT2 : Hid (((l.take (k + 1)).any fun x => key.toList == x.toList) = false) := by
          rw [HT.out, Hid, beq_eq_false_iff_ne]; exact toList_ne (fun h => hky h.symm)
        clear HT HG hky
        go_wp2
        go_round
        case rel => exact ⟨k + 1, by omega, by go_num, HT2⟩
        case measure => simp [intOf]; omega
    · have HG : Hid (R = false) := by rw [Hid, ← HR.out]; have := HI.out; rwa [List.take_of_length_le (by have := HL.out; omega)] at this
      go_wp2
      go_ret
      exact ⟨ret_b HG.out.symm, rfl⟩

/-- The texts of a list of numbers. -/
def strsL (L : List (List Nat)) : List ByteArray := L.map strN
theorem any_inL (L : List (List Nat)) (s : ByteArray) : ((strsL L).any fun x => s.toList == x.toList) = inL L s := by
  unfold strsL inL
  rw [List.any_map]
  congr 1
  funext l
  show (s.toList == (strN l).toList) = _
  rw [ByteArray.toList_eq (strN l)]; simp [strN]
theorem resB_inL (s : ByteArray) : resB s = inL resL s := rfl

set_option maxRecDepth 100000 in
set_option maxHeartbeats 4000000 in
theorem RReserved_any20 (s : ByteArray) (w : World) : Calls Tryz.prog 28 #[.string s] w fun e w' => e = .returned (.bool (resB s)) ∧ Below w.heap.size w w' := by
  have HC : Hid (∀ W, W = w.alloc (.cells (cellsS (strsL resL)).toArray 9) → Calls Tryz.prog 48 #[.slice (some ⟨w.heap.size, 0, none⟩) 49 49, .string s] W fun e w' => e = .returned (.bool (resB s)) ∧ Below w.heap.size w w') := fun W hW => by
    subst hW
    have h1 := RAmong_any20 (strsL resL) s (some ⟨w.heap.size, 0, none⟩) 49 49 (w.alloc (.cells (cellsS (strsL resL)).toArray 9)) (by simpa using arr_strs w 9 (strsL resL)) (by decide) (by omega)
    rw [any_inL, ← resB_inL] at h1
    refine h1.mono ?_
    rintro e w' ⟨he, rfl⟩
    exact ⟨he, (Below.refl _ w).alloc (Nat.le_refl _) _⟩
  generalize resB s = r at *
  go_enter Tryz.func28, Tryz.ntmps28
  go_wp2_with fail
  refine (HC.out _ ?_).mono ?_
  · rfl
  rintro e w2 ⟨rfl, hb2⟩
  have HB2 := Lib.hid hb2
  clear hb2
  go_wp2
  go_ret
  exact ⟨rfl, HB2.out⟩
end Go.Proofs.YtbnddpicpomakaaGreatDoor

/- The walks of the reference's word and sign (layer 19). -/
set_option linter.unusedSimpArgs false
set_option linter.unusedVariables false
set_option maxRecDepth 100000
namespace Go.Proofs.YtbnddpicpomakaaGreatDoor
open Go.RowKit

/-- What a reader of one token at place p hands back. -/
def RetRt (q : FrR) (p : Nat) (w : World) (e : Ending) (w' : World) : Prop :=
  (∃ (t : Tk) (tz : Int), e = .returned (.tuple #[.agg #[.int .i64 t.kd, .int .i64 t.at_, .string t.tx, .int .i64 t.n], .int .i64 tz, .int .i64 q.2.2]) ∧ (q.2.2 = 0 → t = ⟨q.1.kd, (p : Int), q.1.tx, q.1.n⟩ ∧ tz = ((p + q.2.1 : Nat) : Int))) ∧ Below w.heap.size w w'
theorem info_rtkS : (Tryz.prog.info? 69).map (·.size) = some 4 := by kernel_rfl
/-- The end: a token is stored in the result's cell. -/
theorem rtok_end {w W : World} (t : Tk) (hB : Blk W w.heap.size 69 zTk.cs) (hb : Below w.heap.size w W) :
    (storeVar 69 ⟨w.heap.size, 0, none⟩ (.agg t.cs)).run Tryz.prog W = .ok () (W.setRow w.heap.size t.cs) ∧ (loadVar 69 ⟨w.heap.size, 0, none⟩).run Tryz.prog (W.setRow w.heap.size t.cs) = .ok (.agg t.cs) (W.setRow w.heap.size t.cs) ∧ Below w.heap.size w (W.setRow w.heap.size t.cs) := by
  have hc : Chg [w.heap.size] W (W.setRow w.heap.size t.cs) := (Chg.refl _ _).setRow (.inl (by simp)) _
  exact ⟨run_storeVar_row _ _ _ 69 _ _ hB (by rw [info_rtkS]; rfl) rfl (by simp [Value.oneCell']), run_loadVar_row _ _ _ 69 _ (0, 0) _ (Blk.setRow (new := t.cs) hB) Tryz.underlying69 rfl (by rw [info_rtkS]; rfl), hb.trans (hc.below hb.size (by simp))⟩
theorem sub_str (s : ByteArray) (p j : Nat) : s.extract p (p + j) = strN (((bytesU s).drop p).take j) := by
  rw [ext_str, List.drop_take, Nat.add_sub_cancel_left]
theorem skip_step {ks : List Int} {l : List Nat} {j : Nat} (h : j < l.length) : skipR ks (l.drop j) = if ks.contains (clsR (l.drop j)) then skipR ks (l.drop (j + 1)) + 1 else 0 := by
  unfold clsR
  rw [List.drop_eq_getElem_cons h, skipR, List.headD_cons]
theorem cls_nil {l : List Nat} {j : Nat} (h : ¬ j < l.length) : clsR (l.drop j) = 0 := by
  rw [List.drop_of_length_le (by omega)]; exact class_high (by simp)
theorem skip_nil (ks : List Int) {l : List Nat} {j : Nat} (h : ¬ j < l.length) : skipR ks (l.drop j) = 0 := by
  rw [List.drop_of_length_le (by omega)]; rfl

set_option maxHeartbeats 8000000 in
theorem rWordN_any (s : ByteArray) (p : Nat) (w : World) (hs : s.size ≤ 400000) (hp : p < s.size) (hc : clsR ((bytesU s).drop p) = 3) :
    Calls Tryz.prog 62 #[.string s, .int .i64 (p : Int)] w (RetRt (numR ((bytesU s).drop p)) p w) := by
  have HC := Lib.hid (fun (t : Nat) (ht : t ≤ s.size) W => rCls_any s t W (by omega) (by omega))
  have HC0 := Lib.hid (fun W => rCls_any s p W (by omega) (by omega))
  rw [hc] at HC0
  have hl : ((bytesU s).drop p).length = s.size - p := by rw [List.length_drop, bytesU_len]
  have HD : Hid (∀ j, ((bytesU s).drop p).drop j = (bytesU s).drop (p + j)) := fun j => by rw [List.drop_drop]
  have HX := Lib.hid (fun j => sub_str s p j)
  have HV : Hid (numR ((bytesU s).drop p) = if skipR [3] ((bytesU s).drop p) < skipR [3, 2] ((bytesU s).drop p) then (zTk, 0, 40) else if (numberV (strN (((bytesU s).drop p).take (skipR [3] ((bytesU s).drop p))))).2 = 0 then (⟨2, 0, ⟨#[]⟩, (numberV (strN (((bytesU s).drop p).take (skipR [3] ((bytesU s).drop p))))).1⟩, skipR [3] ((bytesU s).drop p), 0) else (zTk, 0, (numberV (strN (((bytesU s).drop p).take (skipR [3] ((bytesU s).drop p))))).2)) := by simp only [numR, Hid]
  have hm := skip_more (l := (bytesU s).drop p)
  have hn := skip_less (l := (bytesU s).drop p)
  have HM : Hid (skipR [3] ((bytesU s).drop p) < skipR [3, 2] ((bytesU s).drop p) ↔ clsR ((bytesU s).drop (p + skipR [3] ((bytesU s).drop p))) = 2) := by
    refine ⟨fun h => ?_, fun h => ?_⟩
    · have := hm h; rw [List.drop_drop] at this; exact this
    · refine Classical.byContradiction fun h2 => ?_
      have := hn h2; rw [List.drop_drop] at this; exact this h
  have hsk := skipR_le [3] ((bytesU s).drop p)
  rw [hl] at hsk
  have HSt : Hid (∀ j, p + j < s.size → skipR [3] ((bytesU s).drop (p + j)) = if ([3] : List Int).contains (clsR ((bytesU s).drop (p + j))) then skipR [3] ((bytesU s).drop (p + (j + 1))) + 1 else 0) := fun j hj => skip_step (by rw [bytesU_len]; exact hj)
  have HSe : Hid (∀ j, ¬ p + j < s.size → skipR [3] ((bytesU s).drop (p + j)) = 0 ∧ clsR ((bytesU s).drop (p + j)) = 0) := fun j hj => ⟨skip_nil _ (by rw [bytesU_len]; exact hj), cls_nil (by rw [bytesU_len]; exact hj)⟩
  obtain ⟨z, hz⟩ : ∃ z, skipR [3] ((bytesU s).drop p) = z := ⟨_, rfl⟩
  rw [hz] at HV HM hsk
  have HZ := Lib.hid hz
  obtain ⟨R, hR⟩ : ∃ R, numR ((bytesU s).drop p) = R := ⟨_, rfl⟩
  rw [hR] at HV ⊢
  generalize skipR [3, 2] ((bytesU s).drop p) = y at *
  clear hz hm hn hl hc hR
  obtain ⟨w0, hw0⟩ : ∃ w0, w.alloc (.cells #[.int .i64 0, .int .i64 0, .string ⟨#[]⟩, .int .i64 0] 69) = w0 := ⟨_, rfl⟩
  have hZ0 : Blk (w.alloc (.cells #[.int .i64 0, .int .i64 0, .string ⟨#[]⟩, .int .i64 0] 69)) w.heap.size 69 zTk.cs := Blk.new w _ _
  rw [hw0] at hZ0
  have HZ0 := Lib.hid hZ0
  have HB0 : Hid (Below w.heap.size w w0) := by rw [← hw0]; exact (Below.refl _ w).alloc (Nat.le_refl _) _
  have hlt0 : w.heap.size < w0.heap.size := by rw [← hw0]; simp
  have HL0 : Hid (w.heap.size < w0.heap.size) := hlt0
  clear hZ0 hlt0
  go_enter Tryz.func62, Tryz.ntmps62
  go_wp2_with fail
  refine (HC0.out w0).mono ?_
  rintro e w1 ⟨rfl, rfl⟩
  go_wp2
  go_loopw [7] (fun i wr => ∃ j : Nat, p + j ≤ s.size ∧ i = .int .i64 ((p + j : Nat) : Int) ∧ Hid (z = j + skipR [3] ((bytesU s).drop (p + j))) ∧ w0 = wr) (fun i _ => s.size - (intOf i).toNat)
  case atStart => exact ⟨0, by omega, by first | rfl | go_num, by show _ = _; rw [← HZ.out, Nat.add_zero, Nat.zero_add], rfl⟩
  case round =>
    obtain ⟨j, hj, rfl, HI, rfl⟩ := hrel
    have HCj := Lib.hid (HC.out (p + j) hj)
    have HJ : Hid (clsR ((bytesU s).drop (p + j)) = 3 → p + j < s.size ∧ z = (j + 1) + skipR [3] ((bytesU s).drop (p + (j + 1)))) := fun h => by
      have h1 : p + j < s.size := by
        refine Classical.byContradiction fun h2 => ?_
        have := (HSe.out j h2).2; rw [h] at this; cases this
      refine ⟨h1, ?_⟩
      rw [HI.out, HSt.out j h1, h]
      simp; omega
    have HJ2 : Hid (clsR ((bytesU s).drop (p + j)) ≠ 3 → z = j) := fun h => by
      rw [HI.out]
      by_cases h1 : p + j < s.size
      · rw [HSt.out j h1, if_neg (by simpa using h)]; rfl
      · rw [(HSe.out j h1).1]; rfl
    obtain ⟨C, hC⟩ : ∃ C, clsR ((bytesU s).drop (p + j)) = C := ⟨_, rfl⟩
    have HCe := Lib.hid hC
    rw [hC] at HCj HJ HJ2
    clear hC HI
    by_cases h3 : C = 3
    · subst h3
      have HJ3 := Lib.hid (HJ.out rfl).2
      have hlt := (HJ.out rfl).1
      clear HJ HJ2
      go_wp2_with fail
      refine (HCj.out _).mono ?_
      rintro e w1 ⟨rfl, rfl⟩
      go_wp2
      go_roundw
      case rel => exact ⟨j + 1, by omega, by go_num, HJ3, trivial⟩
      case measure => simp [intOf]; omega
    · have hzj := HJ2.out h3
      clear HJ HJ2
      have q3 : (C == 3) = false := by simp [h3]
      have HC2 := Lib.hid (HC.out (p + j) hj)
      rw [HCe.out] at HC2
      rw [hzj, HCe.out] at HM
      rw [hzj] at HV
      by_cases h2 : C = 2
      · have HV2 : Hid (R = (zTk, 0, 40)) := by show _ = _; rw [HV.out, if_pos (HM.out.2 h2)]
        have q2 : (C == 2) = true := by simp [h2]
        clear HV HM h2 hzj
        go_wp2_with fail
        refine (HCj.out _).mono ?_
        rintro e w1 ⟨rfl, rfl⟩
        go_wp2_with fail
        refine (HC2.out _).mono ?_
        rintro e w1 ⟨rfl, rfl⟩
        obtain ⟨s1, s2, s3⟩ := rtok_end (w := w) (W := w0) zTk HZ0.out HB0.out
        simp only [Tk.cs, zTk] at s1 s2 s3
        have S1 := Lib.hid s1
        have S2 := Lib.hid s2
        have S3 := Lib.hid s3
        clear s1 s2 s3
        go_wp2_with (first | (guard_target =~ wpList _ _ _ (Oper.mk _ (Op.store 69 _ _) _ _ _ _ :: _) _ _; refine wpList_skp rfl (exec_store rfl rfl rfl S1.out) ?_))
        refine bodyPost_ret (results_cell_tmp2 Tryz.results62 _ _ rfl rfl rfl S2.out) rfl ?_
        unfold RetRt
        rw [HV2.out]
        exact ⟨⟨zTk, 0, rfl, fun h => (by cases h)⟩, S3.out⟩
      · have HV2 : Hid (R = if (numberV (strN (((bytesU s).drop p).take j))).2 = 0 then (⟨2, 0, ⟨#[]⟩, (numberV (strN (((bytesU s).drop p).take j))).1⟩, j, 0) else (zTk, 0, (numberV (strN (((bytesU s).drop p).take j))).2)) := by
          show _ = _; rw [HV.out, if_neg (fun h => h2 (HM.out.1 h))]
        have q2 : (C == 2) = false := by simp [h2]
        have hx := HX.out j
        have hxs : (strN (((bytesU s).drop p).take j)).size ≤ 1000000 := by rw [strN_size, List.length_take]; omega
        generalize strN (((bytesU s).drop p).take j) = u at *
        have HN := Lib.hid (fun W => rNumber_any u W hxs)
        obtain ⟨⟨n, er⟩, hnv⟩ : ∃ r, numberV u = r := ⟨_, rfl⟩
        rw [hnv] at HV2 HN
        simp only at HV2
        have hpj : (p : Int) ≤ ((p + j : Nat) : Int) := by omega
        have hpj2 : ((p + j : Nat) : Int) ≤ (s.size : Int) := by omega
        clear HV HM h2 hzj hnv hxs
        go_wp2_with fail
        refine (HCj.out _).mono ?_
        rintro e w1 ⟨rfl, rfl⟩
        go_wp2_with fail
        refine (HC2.out _).mono ?_
        rintro e w1 ⟨rfl, rfl⟩
        go_wp2_with fail
        try rw [hx]
        refine (HN.out _).mono ?_
        rintro e w2 ⟨rfl, hb2⟩
        have HB2 : Hid (Below w.heap.size w w2) := HB0.out.trans (hb2.mono HB0.out.size)
        have HZ2 : Hid (Blk w2 w.heap.size 69 zTk.cs) := (hb2.block _ HL0.out).trans HZ0.out
        clear hb2
        obtain ⟨s1, s2, s3⟩ := rtok_end (w := w) (W := w2) (⟨2, (p : Int), ⟨#[]⟩, n⟩ : Tk) HZ2.out HB2.out
        simp only [Tk.cs, zTk] at s1 s2 s3
        have S1 := Lib.hid s1
        have S2 := Lib.hid s2
        have S3 := Lib.hid s3
        clear s1 s2 s3
        go_wp2_with (first | (guard_target =~ wpList _ _ _ (Oper.mk _ (Op.store 69 _ _) _ _ _ _ :: _) _ _; refine wpList_skp rfl (exec_store rfl rfl rfl S1.out) ?_))
        refine bodyPost_ret (results_cell_tmp2 Tryz.results62 _ _ rfl rfl rfl S2.out) rfl ?_
        unfold RetRt
        rw [HV2.out]
        by_cases h0 : er = 0
        · subst h0
          rw [if_pos rfl]
          exact ⟨⟨⟨2, (p : Int), ⟨#[]⟩, n⟩, ((p + j : Nat) : Int), rfl, fun _ => ⟨rfl, rfl⟩⟩, S3.out⟩
        · rw [if_neg h0]
          exact ⟨⟨⟨2, (p : Int), ⟨#[]⟩, n⟩, ((p + j : Nat) : Int), rfl, fun h => absurd h h0⟩, S3.out⟩

set_option maxHeartbeats 8000000 in
theorem rWordW_any (s : ByteArray) (p : Nat) (w : World) (hs : s.size ≤ 400000) (hp : p < s.size) (hc : clsR ((bytesU s).drop p) = 2) :
    Calls Tryz.prog 62 #[.string s, .int .i64 (p : Int)] w (RetRt (wordR ((bytesU s).drop p)) p w) := by
  have HC := Lib.hid (fun (t : Nat) (ht : t ≤ s.size) W => rCls_any s t W (by omega) (by omega))
  have HC0 := Lib.hid (fun W => rCls_any s p W (by omega) (by omega))
  rw [hc] at HC0
  have hl : ((bytesU s).drop p).length = s.size - p := by rw [List.length_drop, bytesU_len]
  have HX := Lib.hid (fun j => sub_str s p j)
  have HV : Hid (wordR ((bytesU s).drop p) = if (nameV (strN (((bytesU s).drop p).take (skipR [2, 3] ((bytesU s).drop p))))).2 = 0 then (⟨1, 0, (nameV (strN (((bytesU s).drop p).take (skipR [2, 3] ((bytesU s).drop p))))).1, 0⟩, skipR [2, 3] ((bytesU s).drop p), 0) else (zTk, 0, 40)) := by simp only [wordR, Hid]
  have hsk := skipR_le [2, 3] ((bytesU s).drop p)
  rw [hl] at hsk
  have HSt : Hid (∀ j, p + j < s.size → skipR [2, 3] ((bytesU s).drop (p + j)) = if ([2, 3] : List Int).contains (clsR ((bytesU s).drop (p + j))) then skipR [2, 3] ((bytesU s).drop (p + (j + 1))) + 1 else 0) := fun j hj => skip_step (by rw [bytesU_len]; exact hj)
  have HSe : Hid (∀ j, ¬ p + j < s.size → skipR [2, 3] ((bytesU s).drop (p + j)) = 0 ∧ clsR ((bytesU s).drop (p + j)) = 0) := fun j hj => ⟨skip_nil _ (by rw [bytesU_len]; exact hj), cls_nil (by rw [bytesU_len]; exact hj)⟩
  obtain ⟨z, hz⟩ : ∃ z, skipR [2, 3] ((bytesU s).drop p) = z := ⟨_, rfl⟩
  rw [hz] at HV hsk
  have HZ := Lib.hid hz
  obtain ⟨R, hR⟩ : ∃ R, wordR ((bytesU s).drop p) = R := ⟨_, rfl⟩
  rw [hR] at HV ⊢
  clear hz hl hc hR
  obtain ⟨w0, hw0⟩ : ∃ w0, w.alloc (.cells #[.int .i64 0, .int .i64 0, .string ⟨#[]⟩, .int .i64 0] 69) = w0 := ⟨_, rfl⟩
  have hZ0 : Blk (w.alloc (.cells #[.int .i64 0, .int .i64 0, .string ⟨#[]⟩, .int .i64 0] 69)) w.heap.size 69 zTk.cs := Blk.new w _ _
  rw [hw0] at hZ0
  have HZ0 := Lib.hid hZ0
  have HB0 : Hid (Below w.heap.size w w0) := by rw [← hw0]; exact (Below.refl _ w).alloc (Nat.le_refl _) _
  have hlt0 : w.heap.size < w0.heap.size := by rw [← hw0]; simp
  have HL0 : Hid (w.heap.size < w0.heap.size) := hlt0
  clear hZ0 hlt0
  go_enter Tryz.func62, Tryz.ntmps62
  go_wp2_with fail
  refine (HC0.out w0).mono ?_
  rintro e w1 ⟨rfl, rfl⟩
  go_wp2
  go_loopw [7] (fun i wr => ∃ j : Nat, p + j ≤ s.size ∧ i = .int .i64 ((p + j : Nat) : Int) ∧ Hid (z = j + skipR [2, 3] ((bytesU s).drop (p + j))) ∧ w0 = wr) (fun i _ => s.size - (intOf i).toNat)
  case atStart => exact ⟨0, by omega, by first | rfl | go_num, by show _ = _; rw [← HZ.out, Nat.add_zero, Nat.zero_add], rfl⟩
  case round =>
    obtain ⟨j, hj, rfl, HI, rfl⟩ := hrel
    have HCj := Lib.hid (HC.out (p + j) hj)
    have HJ : Hid (([2, 3] : List Int).contains (clsR ((bytesU s).drop (p + j))) = true → p + j < s.size ∧ z = (j + 1) + skipR [2, 3] ((bytesU s).drop (p + (j + 1)))) := fun h => by
      have h1 : p + j < s.size := by
        refine Classical.byContradiction fun h2 => ?_
        have := (HSe.out j h2).2; rw [this] at h; cases h
      refine ⟨h1, ?_⟩
      rw [HI.out, HSt.out j h1, if_pos h]; omega
    have HJ2 : Hid (([2, 3] : List Int).contains (clsR ((bytesU s).drop (p + j))) = false → z = j) := fun h => by
      rw [HI.out]
      by_cases h1 : p + j < s.size
      · rw [HSt.out j h1, h]; rfl
      · rw [(HSe.out j h1).1]; rfl
    obtain ⟨C, hC⟩ : ∃ C, clsR ((bytesU s).drop (p + j)) = C := ⟨_, rfl⟩
    rw [hC] at HCj HJ HJ2
    have HC2 := Lib.hid (HC.out (p + j) hj)
    rw [hC] at HC2
    clear hC HI
    by_cases h3 : C = 3
    · subst h3
      have HJ3 := Lib.hid (HJ.out rfl).2
      have hlt := (HJ.out rfl).1
      clear HJ HJ2 HC2
      go_wp2_with fail
      refine (HCj.out _).mono ?_
      rintro e w1 ⟨rfl, rfl⟩
      go_wp2
      go_roundw
      case rel => exact ⟨j + 1, by omega, by go_num, HJ3, trivial⟩
      case measure => simp [intOf]; omega
    have q3 : (C == 3) = false := by simp [h3]
    by_cases h2 : C = 2
    · subst h2
      have HJ3 := Lib.hid (HJ.out rfl).2
      have hlt := (HJ.out rfl).1
      clear HJ HJ2
      go_wp2_with fail
      refine (HCj.out _).mono ?_
      rintro e w1 ⟨rfl, rfl⟩
      go_wp2_with fail
      refine (HC2.out _).mono ?_
      rintro e w1 ⟨rfl, rfl⟩
      go_wp2
      go_roundw
      case rel => exact ⟨j + 1, by omega, by go_num, HJ3, trivial⟩
      case measure => simp [intOf]; omega
    · have hzj := HJ2.out (by simp; exact ⟨h2, h3⟩)
      clear HJ HJ2
      have q2 : (C == 2) = false := by simp [h2]
      rw [hzj] at HV
      have hx := HX.out j
      have hxs : (strN (((bytesU s).drop p).take j)).size ≤ 140737488351232 := by rw [strN_size, List.length_take]; omega
      generalize strN (((bytesU s).drop p).take j) = u at *
      have HN := Lib.hid (fun W => rName_any u W hxs)
      obtain ⟨⟨n, er⟩, hnv⟩ : ∃ r, nameV u = r := ⟨_, rfl⟩
      rw [hnv] at HV HN
      simp only at HV
      have hpj : (p : Int) ≤ ((p + j : Nat) : Int) := by omega
      have hpj2 : ((p + j : Nat) : Int) ≤ (s.size : Int) := by omega
      clear h2 h3 hzj hnv hxs
      by_cases h0 : er = 0
      · subst h0
        rw [if_pos rfl] at HV
        go_wp2_with fail
        refine (HCj.out _).mono ?_
        rintro e w1 ⟨rfl, rfl⟩
        go_wp2_with fail
        refine (HC2.out _).mono ?_
        rintro e w1 ⟨rfl, rfl⟩
        go_wp2_with fail
        try rw [hx]
        refine (HN.out _).mono ?_
        rintro e w2 ⟨rfl, hb2⟩
        have HB2 : Hid (Below w.heap.size w w2) := HB0.out.trans (hb2.mono HB0.out.size)
        have HZ2 : Hid (Blk w2 w.heap.size 69 zTk.cs) := (hb2.block _ HL0.out).trans HZ0.out
        clear hb2
        obtain ⟨s1, s2, s3⟩ := rtok_end (w := w) (W := w2) (⟨1, (p : Int), n, 0⟩ : Tk) HZ2.out HB2.out
        simp only [Tk.cs, zTk] at s1 s2 s3
        have S1 := Lib.hid s1
        have S2 := Lib.hid s2
        have S3 := Lib.hid s3
        clear s1 s2 s3
        go_wp2_with (first | (guard_target =~ wpList _ _ _ (Oper.mk _ (Op.store 69 _ _) _ _ _ _ :: _) _ _; refine wpList_skp rfl (exec_store rfl rfl rfl S1.out) ?_))
        refine bodyPost_ret (results_cell_tmp2 Tryz.results62 _ _ rfl rfl rfl S2.out) rfl ?_
        unfold RetRt
        rw [HV.out]
        exact ⟨⟨(⟨1, (p : Int), n, 0⟩ : Tk), ((p + j : Nat) : Int), rfl, fun _ => ⟨rfl, rfl⟩⟩, S3.out⟩
      · have q0 : (er != 0) = true := by simpa using h0
        rw [if_neg h0] at HV
        go_wp2_with fail
        refine (HCj.out _).mono ?_
        rintro e w1 ⟨rfl, rfl⟩
        go_wp2_with fail
        refine (HC2.out _).mono ?_
        rintro e w1 ⟨rfl, rfl⟩
        go_wp2_with fail
        try rw [hx]
        refine (HN.out _).mono ?_
        rintro e w2 ⟨rfl, hb2⟩
        have HB2 : Hid (Below w.heap.size w w2) := HB0.out.trans (hb2.mono HB0.out.size)
        have HZ2 : Hid (Blk w2 w.heap.size 69 zTk.cs) := (hb2.block _ HL0.out).trans HZ0.out
        clear hb2
        obtain ⟨s1, s2, s3⟩ := rtok_end (w := w) (W := w2) zTk HZ2.out HB2.out
        simp only [Tk.cs, zTk] at s1 s2 s3
        have S1 := Lib.hid s1
        have S2 := Lib.hid s2
        have S3 := Lib.hid s3
        clear s1 s2 s3
        go_wp2_with (first | (guard_target =~ wpList _ _ _ (Oper.mk _ (Op.store 69 _ _) _ _ _ _ :: _) _ _; refine wpList_skp rfl (exec_store rfl rfl rfl S1.out) ?_))
        refine bodyPost_ret (results_cell_tmp2 Tryz.results62 _ _ rfl rfl rfl S2.out) rfl ?_
        unfold RetRt
        rw [HV.out]
        exact ⟨⟨zTk, 0, rfl, fun h => (by cases h)⟩, S3.out⟩
end Go.Proofs.YtbnddpicpomakaaGreatDoor

/- The walk of the reference's sign (layer 19). Written by wip/gen/gensg19.py. -/
set_option linter.unusedSimpArgs false
set_option linter.unusedVariables false
set_option maxRecDepth 100000
namespace Go.Proofs.YtbnddpicpomakaaGreatDoor
open Go.RowKit

theorem two_pre (s : ByteArray) (p : Nat) (x : List Nat) (hx : x.length = 2) (h256 : ∀ c ∈ x, c < 256) : ((s.extract p (p + 2)).toList == (strN x).toList) = x.isPrefixOf ((bytesU s).drop p) := by
  rw [sub_str]
  rw [Bool.eq_iff_iff, beq_iff_eq, List.isPrefixOf_iff_prefix]
  constructor
  · intro h
    have h1 := congrArg bytesU (toListU_inj h)
    rw [bytes_strN h256, bytes_strN (fun c hc => bytesU_lt s c (List.mem_of_mem_drop (List.mem_of_mem_take hc)))] at h1
    rw [← h1]; exact List.take_prefix _ _
  · intro h
    obtain ⟨t, ht⟩ := h
    rw [← ht, ← hx, List.take_left]
theorem two_no (s : ByteArray) (p : Nat) (x : List Nat) (hx : x.length = 2) (h : ¬ p + 2 ≤ s.size) : x.isPrefixOf ((bytesU s).drop p) = false := by
  rw [Bool.eq_false_iff]
  intro h2
  have := pre_len h2
  rw [List.length_drop, bytesU_len] at this; omega
theorem sgn_two {l : List Nat} {x : List Nat} (h : x ∈ twoL) (hp : x.isPrefixOf l = true) : sgnN l = 2 := by
  unfold sgnN; rw [if_pos (List.any_eq_true.2 ⟨x, h, hp⟩)]
theorem sgn_one {l : List Nat} (h : ∀ x ∈ twoL, x.isPrefixOf l = false) (h1 : oneL.contains (l.headD 0) = true) : sgnN l = 1 := by
  unfold sgnN
  rw [if_neg (by rw [List.any_eq_true]; rintro ⟨x, hx, hp⟩; rw [h x hx] at hp; cases hp), if_pos h1]
theorem sgn_no {l : List Nat} (h : ∀ x ∈ twoL, x.isPrefixOf l = false) (h1 : ∀ c ∈ oneL, l.headD 0 ≠ c) : sgnN l = 0 := by
  unfold sgnN
  rw [if_neg (by rw [List.any_eq_true]; rintro ⟨x, hx, hp⟩; rw [h x hx] at hp; cases hp), if_neg (by intro h2; exact h1 _ (by simpa using h2) rfl)]
theorem head_at (s : ByteArray) (p : Nat) (h : p < s.size) : ((bytesU s).drop p).headD 0 = (s[p]'h).toNat := by
  rw [List.drop_eq_getElem_cons (by rw [bytesU_len]; exact h), List.headD_cons, bytesU_get s p h]

set_option maxRecDepth 1000000 in
set_option maxHeartbeats 16000000 in
theorem rSign_any (s : ByteArray) (p : Nat) (w : World) (hs : s.size ≤ 400000) (hp : p < s.size) :
    Calls Tryz.prog 65 #[.string s, .int .i64 (p : Int)] w fun e w' => e = .returned (.int .i64 (sgnN ((bytesU s).drop p) : Int)) ∧ Below w.heap.size w w' := by
  have HT := Lib.hid (fun (x : List Nat) (h : x ∈ twoL) (hp : x.isPrefixOf ((bytesU s).drop p) = true) => sgn_two h hp)
  have HO := Lib.hid (fun (h : ∀ x ∈ twoL, x.isPrefixOf ((bytesU s).drop p) = false) => @sgn_one _ h)
  have HN := Lib.hid (fun (h : ∀ x ∈ twoL, x.isPrefixOf ((bytesU s).drop p) = false) => @sgn_no _ h)
  rw [head_at s p hp] at HO HN
  have H2 := Lib.hid (fun (x : List Nat) (hx : x.length = 2) (h256 : ∀ c ∈ x, c < 256) => two_pre s p x hx h256)
  have H3 := Lib.hid (fun (x : List Nat) (hx : x.length = 2) (h : ¬ p + 2 ≤ s.size) => two_no s p x hx h)
  generalize sgnN ((bytesU s).drop p) = R at *
  obtain ⟨pf, hpf⟩ : ∃ pf : List Nat → Bool, (fun x : List Nat => x.isPrefixOf ((bytesU s).drop p)) = pf := ⟨_, rfl⟩
  have hpf2 : ∀ x : List Nat, x.isPrefixOf ((bytesU s).drop p) = pf x := fun x => congrFun hpf x
  simp only [hpf2] at HT HO HN H2 H3
  clear hpf hpf2
  have HTw : ∀ j (h : j < 4), (twoL[j]'h).length = 2 ∧ (∀ c ∈ twoL[j]'h, c < 256) ∧ twoL[j]'h ∈ twoL := by decide
  have HTw2 := Lib.hid HTw
  have hA : Arr (w.heap.size + 1) (w.alloc (.cells (cellsS (strsL twoL)).toArray 9)) (some ⟨w.heap.size, 0, none⟩) (cellsS (strsL twoL)) := arr_strs w 9 _
  obtain ⟨w1, hw1⟩ : ∃ w1, w.alloc (.cells #[.string ⟨#[60, 61]⟩, .string ⟨#[62, 61]⟩, .string ⟨#[60, 62]⟩, .string ⟨#[124, 124]⟩] 9) = w1 := ⟨_, rfl⟩
  have hA1 : Arr (w.heap.size + 1) w1 (some ⟨w.heap.size, 0, none⟩) (cellsS (strsL twoL)) := by rw [← hw1]; exact hA
  have hs1 : w.heap.size + 1 = w1.heap.size := by rw [← hw1]; simp
  rw [hs1] at hA1
  have HA := Lib.hid hA1
  have HB1 : Hid (Below w.heap.size w w1) := by rw [← hw1]; exact (Below.refl _ w).alloc (Nat.le_refl _) _
  clear hA hA1 hs1 HTw
  go_enter Tryz.func65, Tryz.ntmps65
  go_wp2
  go_loopw [6] (fun i wr => ∃ k : Nat, k ≤ 4 ∧ i = .int .i64 (k : Int) ∧ Hid (∀ j (h : j < 4), j < k → pf (twoL[j]'h) = false) ∧ Hid (Below w1.heap.size w1 wr)) (fun i _ => 4 - (intOf i).toNat)
  case atStart => exact ⟨0, by omega, rfl, (fun j h hj => by omega), Below.refl _ _⟩
  case round =>
    obtain ⟨k, hk, rfl, HI, HB⟩ := hrel
    have HBw := Lib.hid (HB1.out.trans (HB.out.mono HB1.out.size))
    by_cases hlt : k < 4
    · have q0 : decide ((k : Int) < 4) = true := by simp; omega
      obtain ⟨g1, g2, g3⟩ := HTw2.out k hlt
      obtain ⟨b, o, hab, hbN, c0⟩ := strAt20 (HA.out.below HB.out) (k := k) (by exact hlt)
      have hy : (strsL twoL)[k]'(by exact hlt) = strN (twoL[k]'hlt) := by have := List.getElem_map (f := strN) (l := twoL) (i := k) (h := by exact hlt); exact this
      rw [hy] at c0
      injection hab with hab
      injection hab with e1 e2
      subst e1 e2
      rw [Nat.zero_add] at c0
      by_cases h2 : p + 2 ≤ s.size
      · have hq := H2.out _ g1 g2
        have HTk := Lib.hid (HT.out _ g3)
        have q1 : decide ((p : Int) + 2 ≤ (s.size : Int)) = true := by simp; omega
        have qp : (p : Int) ≤ (p : Int) + 2 := by omega
        have qp2 : (p : Int) + 2 ≤ (s.size : Int) := by omega
        have HI1 : Hid (pf (twoL[k]'hlt) = false → ∀ j (h : j < 4), j < k + 1 → pf (twoL[j]'h) = false) := fun hf j h hj => by
          by_cases hjk : j = k
          · subst hjk; exact hf
          · exact HI.out j h (by omega)
        generalize twoL[k]'hlt = x at *
        generalize strN x = y at *
        cases hx : pf x with
        | true =>
          have HV := Lib.hid (HTk.out hx)
          rw [hx] at hq
          clear HTk HI HI1 hx hy g1 g2 g3 H2 H3 HO HN
          go_wp2_with fail
          go_quiet (fail)
          go_wp2
          go_ret
          exact ⟨by rw [HV.out]; rfl, drewN_bel HBw.out _⟩
        | false =>
          have HI2 := Lib.hid (HI1.out hx)
          rw [hx] at hq
          clear HTk HI HI1 hx hy g1 g2 g3
          go_wp2_with fail
          go_quiet (fail)
          go_wp2
          go_roundw
          case rel => exact ⟨k + 1, by omega, by go_num, HI2.out, drewN_bel HB.out _⟩
          case measure => (simp [intOf] <;> try omega)
      · have hq := H3.out _ g1 h2
        have q1 : decide ((p : Int) + 2 ≤ (s.size : Int)) = false := by simp; omega
        have HI1 : Hid (∀ j (h : j < 4), j < k + 1 → pf (twoL[j]'h) = false) := fun j h hj => by
          by_cases hjk : j = k
          · subst hjk; exact hq
          · exact HI.out j h (by omega)
        clear hq hy g1 g2 g3 HI
        generalize twoL[k]'hlt = x at *
        go_wp2_with fail
        go_quiet (fail)
        go_wp2
        go_roundw
        case rel => exact ⟨k + 1, by omega, by go_num, HI1.out, drewN_bel HB.out _⟩
        case measure => (simp [intOf] <;> try omega)
    · have q0 : decide ((k : Int) < 4) = false := by simp; omega
      have hall : ∀ x ∈ twoL, pf x = false := fun x hx => by
        obtain ⟨j, hj, rfl⟩ := List.getElem_of_mem hx
        exact HI.out j hj (by have : twoL.length = 4 := rfl; omega)
      have HO2 := Lib.hid (HO.out hall)
      have HN2 := Lib.hid (HN.out hall)
      have h256 := (s[p]'hp).toNat_lt
      have HBq := Lib.hid (HB1.out.trans (HB.out.mono HB1.out.size))
      clear hall HO HN HI HT H2 H3 hlt HTw2
      go_wp2
      go_loopw [8] (fun i wq => ∃ (k : Nat) (K : Int), k ≤ 13 ∧ i = .int .i64 K ∧ K = (k : Int) ∧ Hid (∀ j (h : j < 13), j < k → (s[p]'hp).toNat ≠ oneL[j]'h) ∧ Hid (Below wr.heap.size wr wq)) (fun i _ => 13 - (intOf i).toNat)
      case atStart => exact ⟨0, 0, by omega, rfl, rfl, (fun j h hj => by omega), Below.refl _ _⟩
      case round =>
        obtain ⟨k, K, hk, rfl, hK, HI, HBB⟩ := hrel
        have hk13 : k = 0 ∨ k = 1 ∨ k = 2 ∨ k = 3 ∨ k = 4 ∨ k = 5 ∨ k = 6 ∨ k = 7 ∨ k = 8 ∨ k = 9 ∨ k = 10 ∨ k = 11 ∨ k = 12 ∨ k = 13 := by omega
        clear hk
        rcases hk13 with rfl | rfl | rfl | rfl | rfl | rfl | rfl | rfl | rfl | rfl | rfl | rfl | rfl | rfl
        · obtain rfl : K = 0 := by omega
          clear hK
          have hlt0 : ((⟨#[40, 41, 44, 59, 46, 42, 43, 45, 47, 37, 61, 60, 62]⟩ : ByteArray)[0]'(by decide)).toNat = 40 := rfl
          by_cases hc : (s[p]'hp).toNat = 40
          · have HV : Hid (R = 1) := HO2.out (by rw [hc]; rfl)
            have qc : (((s[p]'hp).toNat : Int) == 40) = true := by rw [hc]; rfl
            clear HO2 HN2 HI
            go_wp2_with fail
            go_quiet (fail)
            go_wp2
            go_ret
            exact ⟨by rw [HV.out]; rfl, HBq.out.trans ((drewN_bel HBB.out _).mono HBq.out.size)⟩
          · have qc : (((s[p]'hp).toNat : Int) == 40) = false := by rw [beq_eq_false_iff_ne]; omega
            have HI2 : Hid (∀ j (h : j < 13), j < 0 + 1 → (s[p]'hp).toNat ≠ oneL[j]'h) := fun j h hj => by
              by_cases hjk : j = 0
              · subst hjk; exact hc
              · exact HI.out j h (by omega)
            clear HI
            go_wp2_with fail
            go_quiet (fail)
            go_wp2
            go_roundw
            case rel => exact ⟨1, 1, by omega, by go_num, rfl, HI2, drewN_bel HBB.out _⟩
            case measure => simp [intOf]
        · obtain rfl : K = 1 := by omega
          clear hK
          have hlt0 : ((⟨#[40, 41, 44, 59, 46, 42, 43, 45, 47, 37, 61, 60, 62]⟩ : ByteArray)[1]'(by decide)).toNat = 41 := rfl
          by_cases hc : (s[p]'hp).toNat = 41
          · have HV : Hid (R = 1) := HO2.out (by rw [hc]; rfl)
            have qc : (((s[p]'hp).toNat : Int) == 41) = true := by rw [hc]; rfl
            clear HO2 HN2 HI
            go_wp2_with fail
            go_quiet (fail)
            go_wp2
            go_ret
            exact ⟨by rw [HV.out]; rfl, HBq.out.trans ((drewN_bel HBB.out _).mono HBq.out.size)⟩
          · have qc : (((s[p]'hp).toNat : Int) == 41) = false := by rw [beq_eq_false_iff_ne]; omega
            have HI2 : Hid (∀ j (h : j < 13), j < 1 + 1 → (s[p]'hp).toNat ≠ oneL[j]'h) := fun j h hj => by
              by_cases hjk : j = 1
              · subst hjk; exact hc
              · exact HI.out j h (by omega)
            clear HI
            go_wp2_with fail
            go_quiet (fail)
            go_wp2
            go_roundw
            case rel => exact ⟨2, 2, by omega, by go_num, rfl, HI2, drewN_bel HBB.out _⟩
            case measure => simp [intOf]
        · obtain rfl : K = 2 := by omega
          clear hK
          have hlt0 : ((⟨#[40, 41, 44, 59, 46, 42, 43, 45, 47, 37, 61, 60, 62]⟩ : ByteArray)[2]'(by decide)).toNat = 44 := rfl
          by_cases hc : (s[p]'hp).toNat = 44
          · have HV : Hid (R = 1) := HO2.out (by rw [hc]; rfl)
            have qc : (((s[p]'hp).toNat : Int) == 44) = true := by rw [hc]; rfl
            clear HO2 HN2 HI
            go_wp2_with fail
            go_quiet (fail)
            go_wp2
            go_ret
            exact ⟨by rw [HV.out]; rfl, HBq.out.trans ((drewN_bel HBB.out _).mono HBq.out.size)⟩
          · have qc : (((s[p]'hp).toNat : Int) == 44) = false := by rw [beq_eq_false_iff_ne]; omega
            have HI2 : Hid (∀ j (h : j < 13), j < 2 + 1 → (s[p]'hp).toNat ≠ oneL[j]'h) := fun j h hj => by
              by_cases hjk : j = 2
              · subst hjk; exact hc
              · exact HI.out j h (by omega)
            clear HI
            go_wp2_with fail
            go_quiet (fail)
            go_wp2
            go_roundw
            case rel => exact ⟨3, 3, by omega, by go_num, rfl, HI2, drewN_bel HBB.out _⟩
            case measure => simp [intOf]
        · obtain rfl : K = 3 := by omega
          clear hK
          have hlt0 : ((⟨#[40, 41, 44, 59, 46, 42, 43, 45, 47, 37, 61, 60, 62]⟩ : ByteArray)[3]'(by decide)).toNat = 59 := rfl
          by_cases hc : (s[p]'hp).toNat = 59
          · have HV : Hid (R = 1) := HO2.out (by rw [hc]; rfl)
            have qc : (((s[p]'hp).toNat : Int) == 59) = true := by rw [hc]; rfl
            clear HO2 HN2 HI
            go_wp2_with fail
            go_quiet (fail)
            go_wp2
            go_ret
            exact ⟨by rw [HV.out]; rfl, HBq.out.trans ((drewN_bel HBB.out _).mono HBq.out.size)⟩
          · have qc : (((s[p]'hp).toNat : Int) == 59) = false := by rw [beq_eq_false_iff_ne]; omega
            have HI2 : Hid (∀ j (h : j < 13), j < 3 + 1 → (s[p]'hp).toNat ≠ oneL[j]'h) := fun j h hj => by
              by_cases hjk : j = 3
              · subst hjk; exact hc
              · exact HI.out j h (by omega)
            clear HI
            go_wp2_with fail
            go_quiet (fail)
            go_wp2
            go_roundw
            case rel => exact ⟨4, 4, by omega, by go_num, rfl, HI2, drewN_bel HBB.out _⟩
            case measure => simp [intOf]
        · obtain rfl : K = 4 := by omega
          clear hK
          have hlt0 : ((⟨#[40, 41, 44, 59, 46, 42, 43, 45, 47, 37, 61, 60, 62]⟩ : ByteArray)[4]'(by decide)).toNat = 46 := rfl
          by_cases hc : (s[p]'hp).toNat = 46
          · have HV : Hid (R = 1) := HO2.out (by rw [hc]; rfl)
            have qc : (((s[p]'hp).toNat : Int) == 46) = true := by rw [hc]; rfl
            clear HO2 HN2 HI
            go_wp2_with fail
            go_quiet (fail)
            go_wp2
            go_ret
            exact ⟨by rw [HV.out]; rfl, HBq.out.trans ((drewN_bel HBB.out _).mono HBq.out.size)⟩
          · have qc : (((s[p]'hp).toNat : Int) == 46) = false := by rw [beq_eq_false_iff_ne]; omega
            have HI2 : Hid (∀ j (h : j < 13), j < 4 + 1 → (s[p]'hp).toNat ≠ oneL[j]'h) := fun j h hj => by
              by_cases hjk : j = 4
              · subst hjk; exact hc
              · exact HI.out j h (by omega)
            clear HI
            go_wp2_with fail
            go_quiet (fail)
            go_wp2
            go_roundw
            case rel => exact ⟨5, 5, by omega, by go_num, rfl, HI2, drewN_bel HBB.out _⟩
            case measure => simp [intOf]
        · obtain rfl : K = 5 := by omega
          clear hK
          have hlt0 : ((⟨#[40, 41, 44, 59, 46, 42, 43, 45, 47, 37, 61, 60, 62]⟩ : ByteArray)[5]'(by decide)).toNat = 42 := rfl
          by_cases hc : (s[p]'hp).toNat = 42
          · have HV : Hid (R = 1) := HO2.out (by rw [hc]; rfl)
            have qc : (((s[p]'hp).toNat : Int) == 42) = true := by rw [hc]; rfl
            clear HO2 HN2 HI
            go_wp2_with fail
            go_quiet (fail)
            go_wp2
            go_ret
            exact ⟨by rw [HV.out]; rfl, HBq.out.trans ((drewN_bel HBB.out _).mono HBq.out.size)⟩
          · have qc : (((s[p]'hp).toNat : Int) == 42) = false := by rw [beq_eq_false_iff_ne]; omega
            have HI2 : Hid (∀ j (h : j < 13), j < 5 + 1 → (s[p]'hp).toNat ≠ oneL[j]'h) := fun j h hj => by
              by_cases hjk : j = 5
              · subst hjk; exact hc
              · exact HI.out j h (by omega)
            clear HI
            go_wp2_with fail
            go_quiet (fail)
            go_wp2
            go_roundw
            case rel => exact ⟨6, 6, by omega, by go_num, rfl, HI2, drewN_bel HBB.out _⟩
            case measure => simp [intOf]
        · obtain rfl : K = 6 := by omega
          clear hK
          have hlt0 : ((⟨#[40, 41, 44, 59, 46, 42, 43, 45, 47, 37, 61, 60, 62]⟩ : ByteArray)[6]'(by decide)).toNat = 43 := rfl
          by_cases hc : (s[p]'hp).toNat = 43
          · have HV : Hid (R = 1) := HO2.out (by rw [hc]; rfl)
            have qc : (((s[p]'hp).toNat : Int) == 43) = true := by rw [hc]; rfl
            clear HO2 HN2 HI
            go_wp2_with fail
            go_quiet (fail)
            go_wp2
            go_ret
            exact ⟨by rw [HV.out]; rfl, HBq.out.trans ((drewN_bel HBB.out _).mono HBq.out.size)⟩
          · have qc : (((s[p]'hp).toNat : Int) == 43) = false := by rw [beq_eq_false_iff_ne]; omega
            have HI2 : Hid (∀ j (h : j < 13), j < 6 + 1 → (s[p]'hp).toNat ≠ oneL[j]'h) := fun j h hj => by
              by_cases hjk : j = 6
              · subst hjk; exact hc
              · exact HI.out j h (by omega)
            clear HI
            go_wp2_with fail
            go_quiet (fail)
            go_wp2
            go_roundw
            case rel => exact ⟨7, 7, by omega, by go_num, rfl, HI2, drewN_bel HBB.out _⟩
            case measure => simp [intOf]
        · obtain rfl : K = 7 := by omega
          clear hK
          have hlt0 : ((⟨#[40, 41, 44, 59, 46, 42, 43, 45, 47, 37, 61, 60, 62]⟩ : ByteArray)[7]'(by decide)).toNat = 45 := rfl
          by_cases hc : (s[p]'hp).toNat = 45
          · have HV : Hid (R = 1) := HO2.out (by rw [hc]; rfl)
            have qc : (((s[p]'hp).toNat : Int) == 45) = true := by rw [hc]; rfl
            clear HO2 HN2 HI
            go_wp2_with fail
            go_quiet (fail)
            go_wp2
            go_ret
            exact ⟨by rw [HV.out]; rfl, HBq.out.trans ((drewN_bel HBB.out _).mono HBq.out.size)⟩
          · have qc : (((s[p]'hp).toNat : Int) == 45) = false := by rw [beq_eq_false_iff_ne]; omega
            have HI2 : Hid (∀ j (h : j < 13), j < 7 + 1 → (s[p]'hp).toNat ≠ oneL[j]'h) := fun j h hj => by
              by_cases hjk : j = 7
              · subst hjk; exact hc
              · exact HI.out j h (by omega)
            clear HI
            go_wp2_with fail
            go_quiet (fail)
            go_wp2
            go_roundw
            case rel => exact ⟨8, 8, by omega, by go_num, rfl, HI2, drewN_bel HBB.out _⟩
            case measure => simp [intOf]
        · obtain rfl : K = 8 := by omega
          clear hK
          have hlt0 : ((⟨#[40, 41, 44, 59, 46, 42, 43, 45, 47, 37, 61, 60, 62]⟩ : ByteArray)[8]'(by decide)).toNat = 47 := rfl
          by_cases hc : (s[p]'hp).toNat = 47
          · have HV : Hid (R = 1) := HO2.out (by rw [hc]; rfl)
            have qc : (((s[p]'hp).toNat : Int) == 47) = true := by rw [hc]; rfl
            clear HO2 HN2 HI
            go_wp2_with fail
            go_quiet (fail)
            go_wp2
            go_ret
            exact ⟨by rw [HV.out]; rfl, HBq.out.trans ((drewN_bel HBB.out _).mono HBq.out.size)⟩
          · have qc : (((s[p]'hp).toNat : Int) == 47) = false := by rw [beq_eq_false_iff_ne]; omega
            have HI2 : Hid (∀ j (h : j < 13), j < 8 + 1 → (s[p]'hp).toNat ≠ oneL[j]'h) := fun j h hj => by
              by_cases hjk : j = 8
              · subst hjk; exact hc
              · exact HI.out j h (by omega)
            clear HI
            go_wp2_with fail
            go_quiet (fail)
            go_wp2
            go_roundw
            case rel => exact ⟨9, 9, by omega, by go_num, rfl, HI2, drewN_bel HBB.out _⟩
            case measure => simp [intOf]
        · obtain rfl : K = 9 := by omega
          clear hK
          have hlt0 : ((⟨#[40, 41, 44, 59, 46, 42, 43, 45, 47, 37, 61, 60, 62]⟩ : ByteArray)[9]'(by decide)).toNat = 37 := rfl
          by_cases hc : (s[p]'hp).toNat = 37
          · have HV : Hid (R = 1) := HO2.out (by rw [hc]; rfl)
            have qc : (((s[p]'hp).toNat : Int) == 37) = true := by rw [hc]; rfl
            clear HO2 HN2 HI
            go_wp2_with fail
            go_quiet (fail)
            go_wp2
            go_ret
            exact ⟨by rw [HV.out]; rfl, HBq.out.trans ((drewN_bel HBB.out _).mono HBq.out.size)⟩
          · have qc : (((s[p]'hp).toNat : Int) == 37) = false := by rw [beq_eq_false_iff_ne]; omega
            have HI2 : Hid (∀ j (h : j < 13), j < 9 + 1 → (s[p]'hp).toNat ≠ oneL[j]'h) := fun j h hj => by
              by_cases hjk : j = 9
              · subst hjk; exact hc
              · exact HI.out j h (by omega)
            clear HI
            go_wp2_with fail
            go_quiet (fail)
            go_wp2
            go_roundw
            case rel => exact ⟨10, 10, by omega, by go_num, rfl, HI2, drewN_bel HBB.out _⟩
            case measure => simp [intOf]
        · obtain rfl : K = 10 := by omega
          clear hK
          have hlt0 : ((⟨#[40, 41, 44, 59, 46, 42, 43, 45, 47, 37, 61, 60, 62]⟩ : ByteArray)[10]'(by decide)).toNat = 61 := rfl
          by_cases hc : (s[p]'hp).toNat = 61
          · have HV : Hid (R = 1) := HO2.out (by rw [hc]; rfl)
            have qc : (((s[p]'hp).toNat : Int) == 61) = true := by rw [hc]; rfl
            clear HO2 HN2 HI
            go_wp2_with fail
            go_quiet (fail)
            go_wp2
            go_ret
            exact ⟨by rw [HV.out]; rfl, HBq.out.trans ((drewN_bel HBB.out _).mono HBq.out.size)⟩
          · have qc : (((s[p]'hp).toNat : Int) == 61) = false := by rw [beq_eq_false_iff_ne]; omega
            have HI2 : Hid (∀ j (h : j < 13), j < 10 + 1 → (s[p]'hp).toNat ≠ oneL[j]'h) := fun j h hj => by
              by_cases hjk : j = 10
              · subst hjk; exact hc
              · exact HI.out j h (by omega)
            clear HI
            go_wp2_with fail
            go_quiet (fail)
            go_wp2
            go_roundw
            case rel => exact ⟨11, 11, by omega, by go_num, rfl, HI2, drewN_bel HBB.out _⟩
            case measure => simp [intOf]
        · obtain rfl : K = 11 := by omega
          clear hK
          have hlt0 : ((⟨#[40, 41, 44, 59, 46, 42, 43, 45, 47, 37, 61, 60, 62]⟩ : ByteArray)[11]'(by decide)).toNat = 60 := rfl
          by_cases hc : (s[p]'hp).toNat = 60
          · have HV : Hid (R = 1) := HO2.out (by rw [hc]; rfl)
            have qc : (((s[p]'hp).toNat : Int) == 60) = true := by rw [hc]; rfl
            clear HO2 HN2 HI
            go_wp2_with fail
            go_quiet (fail)
            go_wp2
            go_ret
            exact ⟨by rw [HV.out]; rfl, HBq.out.trans ((drewN_bel HBB.out _).mono HBq.out.size)⟩
          · have qc : (((s[p]'hp).toNat : Int) == 60) = false := by rw [beq_eq_false_iff_ne]; omega
            have HI2 : Hid (∀ j (h : j < 13), j < 11 + 1 → (s[p]'hp).toNat ≠ oneL[j]'h) := fun j h hj => by
              by_cases hjk : j = 11
              · subst hjk; exact hc
              · exact HI.out j h (by omega)
            clear HI
            go_wp2_with fail
            go_quiet (fail)
            go_wp2
            go_roundw
            case rel => exact ⟨12, 12, by omega, by go_num, rfl, HI2, drewN_bel HBB.out _⟩
            case measure => simp [intOf]
        · obtain rfl : K = 12 := by omega
          clear hK
          have hlt0 : ((⟨#[40, 41, 44, 59, 46, 42, 43, 45, 47, 37, 61, 60, 62]⟩ : ByteArray)[12]'(by decide)).toNat = 62 := rfl
          by_cases hc : (s[p]'hp).toNat = 62
          · have HV : Hid (R = 1) := HO2.out (by rw [hc]; rfl)
            have qc : (((s[p]'hp).toNat : Int) == 62) = true := by rw [hc]; rfl
            clear HO2 HN2 HI
            go_wp2_with fail
            go_quiet (fail)
            go_wp2
            go_ret
            exact ⟨by rw [HV.out]; rfl, HBq.out.trans ((drewN_bel HBB.out _).mono HBq.out.size)⟩
          · have qc : (((s[p]'hp).toNat : Int) == 62) = false := by rw [beq_eq_false_iff_ne]; omega
            have HI2 : Hid (∀ j (h : j < 13), j < 12 + 1 → (s[p]'hp).toNat ≠ oneL[j]'h) := fun j h hj => by
              by_cases hjk : j = 12
              · subst hjk; exact hc
              · exact HI.out j h (by omega)
            clear HI
            go_wp2_with fail
            go_quiet (fail)
            go_wp2
            go_roundw
            case rel => exact ⟨13, 13, by omega, by go_num, rfl, HI2, drewN_bel HBB.out _⟩
            case measure => simp [intOf]
        · obtain rfl : K = 13 := by omega
          clear hK
          have HV : Hid (R = 0) := HN2.out (fun c hc => by
            obtain ⟨j, hj, rfl⟩ := List.getElem_of_mem hc
            exact HI.out j hj hj)
          clear HI HN2 HO2
          go_wp2
          go_ret
          exact ⟨by rw [HV.out]; rfl, HBq.out.trans (HBB.out.mono HBq.out.size)⟩
end Go.Proofs.YtbnddpicpomakaaGreatDoor

/- The walk of the reference's token (layer 19). -/
set_option linter.unusedSimpArgs false
set_option linter.unusedVariables false
set_option maxRecDepth 100000
namespace Go.Proofs.YtbnddpicpomakaaGreatDoor
open Go.RowKit

theorem class39 {c : Nat} (h : classZ (c : Int) = 4) (hc : c < 256) : c = 39 := by
  have : ∀ c : Nat, c < 256 → classZ (c : Int) = 4 → c = 39 := by decide +kernel
  exact this c hc h
theorem front_two {l : List Nat} {x y : Nat} (h : l = x :: y :: l.drop 2) : ([120, 39].isPrefixOf l || [88, 39].isPrefixOf l) = (decide ((x = 120 ∨ x = 88) ∧ y = 39)) := by
  rw [h]
  simp only [List.isPrefixOf]
  by_cases h1 : x = 120
  · subst h1; by_cases h3 : y = 39
    · subst h3; rfl
    · have : (39 == y) = false := by simp; omega
      simp [this, h3]
  · by_cases h2 : x = 88
    · subst h2; by_cases h3 : y = 39
      · subst h3; rfl
      · have : (39 == y) = false := by simp; omega
        simp [this, h3]
    · have e1 : (120 == x) = false := by simp; omega
      have e2 : (88 == x) = false := by simp; omega
      simp [e1, e2, h1, h2]
/-- Which reader a place asks for. -/
theorem front_blob {s : ByteArray} {p : Nat} (h : p + 1 < s.size) (hx : (s[p]'(by omega)).toNat = 120 ∨ (s[p]'(by omega)).toNat = 88) (hy : (s[p + 1]'h).toNat = 39) :
    frontR ((bytesU s).drop p) = match bytR ((bytesU s).drop (p + 2)) with
    | none => (zTk, 0, 40)
    | some q => (⟨4, 0, strN q.1, 0⟩, 1 + q.2, 0) := by
  have e : (bytesU s).drop p = (s[p]'(by omega)).toNat :: 39 :: (bytesU s).drop (p + 2) := by
    rw [List.drop_eq_getElem_cons (by rw [bytesU_len]; omega), List.drop_eq_getElem_cons (by rw [bytesU_len]; exact h), bytesU_get s p (by omega), bytesU_get s (p + 1) h, hy]
  have hb := blob_byt (x := (s[p]'(by omega)).toNat) (m := (bytesU s).drop (p + 2)) (fun c hc => bytesU_lt s c (List.mem_of_mem_drop hc))
  rw [e]
  unfold frontR
  rw [if_pos]
  · exact hb
  · rcases hx with hx | hx <;> rw [hx] <;> simp [List.isPrefixOf]
theorem front_rest {s : ByteArray} {p : Nat} (h0 : p < s.size) (h : ¬ ∃ h : p + 1 < s.size, ((s[p]'h0).toNat = 120 ∨ (s[p]'h0).toNat = 88) ∧ (s[p + 1]'h).toNat = 39) :
    frontR ((bytesU s).drop p) = if clsR ((bytesU s).drop p) = 2 then wordR ((bytesU s).drop p) else if clsR ((bytesU s).drop p) = 3 then numR ((bytesU s).drop p) else if clsR ((bytesU s).drop p) = 4 then quotR ((bytesU s).drop p) else signR ((bytesU s).drop p) := by
  unfold frontR
  rw [if_neg]
  · rfl
  intro hp
  apply h
  rw [Bool.or_eq_true] at hp
  have hlen : p + 1 < s.size := by
    rcases hp with hp | hp <;> (have := pre_len hp; rw [List.length_drop, bytesU_len] at this; simp only [List.length_cons, List.length_nil] at this; omega)
  refine ⟨hlen, ?_⟩
  rw [List.drop_eq_getElem_cons (by rw [bytesU_len]; omega), List.drop_eq_getElem_cons (by rw [bytesU_len]; exact hlen), bytesU_get s p h0, bytesU_get s (p + 1) hlen] at hp
  simp only [List.isPrefixOf, Bool.and_true, Bool.and_eq_true, beq_iff_eq] at hp
  rcases hp with ⟨h1, h2⟩ | ⟨h1, h2⟩
  · exact ⟨.inl h1.symm, h2.symm⟩
  · exact ⟨.inr h1.symm, h2.symm⟩

theorem sgn_le {l : List Nat} (h : l ≠ []) : sgnN l ≤ 2 ∧ sgnN l ≤ l.length := by
  unfold sgnN
  split
  · rename_i h2
    obtain ⟨x, hx, hp⟩ := List.any_eq_true.1 h2
    have h3 : x.length = 2 := by
      have : ∀ y ∈ twoL, y.length = 2 := by decide
      exact this x hx
    have := pre_len hp
    omega
  · split
    · have : l.length ≠ 0 := fun h2 => h (List.length_eq_zero_iff.1 h2)
      omega
    · omega

set_option maxRecDepth 1000000 in
set_option maxHeartbeats 16000000 in
theorem rToken_any (s : ByteArray) (p : Nat) (w : World) (hs : s.size ≤ 400000) (hp : p < s.size) :
    Calls Tryz.prog 34 #[.string s, .int .i64 (p : Int)] w (RetRt (frontR ((bytesU s).drop p)) p w) := by
  obtain ⟨w0, hw0⟩ : ∃ w0, w.alloc (.cells #[.int .i64 0, .int .i64 0, .string ⟨#[]⟩, .int .i64 0] 69) = w0 := ⟨_, rfl⟩
  have hZ0 : Blk (w.alloc (.cells #[.int .i64 0, .int .i64 0, .string ⟨#[]⟩, .int .i64 0] 69)) w.heap.size 69 zTk.cs := Blk.new w _ _
  rw [hw0] at hZ0
  have HZ0 := Lib.hid hZ0
  have HB0 : Hid (Below w.heap.size w w0) := by rw [← hw0]; exact (Below.refl _ w).alloc (Nat.le_refl _) _
  have hlt0 : w.heap.size < w0.heap.size := by rw [← hw0]; simp
  have HL0 : Hid (w.heap.size < w0.heap.size) := hlt0
  clear hZ0 hlt0
  have HC := Lib.hid (fun W => rCls_any s p W (by omega) (by omega))
  have h256 := (s[p]'hp).toNat_lt
  by_cases hb : ∃ h : p + 1 < s.size, ((s[p]'hp).toNat = 120 ∨ (s[p]'hp).toNat = 88) ∧ (s[p + 1]'h).toNat = 39
  · obtain ⟨h1, hx, hy⟩ := hb
    have HV := Lib.hid (front_blob h1 hx hy)
    have HBy := Lib.hid (fun W => rBytes_any s (p + 1) W hs h1)
    obtain ⟨F, hF⟩ : ∃ F, frontR ((bytesU s).drop p) = F := ⟨_, rfl⟩
    rw [hF] at HV ⊢
    have he : p + 1 + 1 = p + 2 := rfl
    rw [he] at HBy
    obtain ⟨o, ho⟩ : ∃ o, bytR ((bytesU s).drop (p + 2)) = o := ⟨_, rfl⟩
    rw [ho] at HV HBy
    have hy256 := (s[p + 1]'h1).toNat_lt
    have qy : (((s[p + 1]'h1).toNat : Int) == 39) = true := by rw [hy]; rfl
    have ql : decide ((p : Int) + 1 < (s.size : Int)) = true := by simp; omega
    have qx : (((s[p]'hp).toNat : Int) == 120) = true ∨ ((((s[p]'hp).toNat : Int) == 120) = false ∧ (((s[p]'hp).toNat : Int) == 88) = true) := by
      rcases hx with hx | hx
      · left; rw [hx]; rfl
      · right; rw [hx]; exact ⟨rfl, rfl⟩
    clear hF ho hx hy he
    generalize clsR ((bytesU s).drop p) = C at *
    rcases qx with qx | ⟨qx, qx2⟩
    all_goals
      go_enter Tryz.func34, Tryz.ntmps34
      go_wp2_with fail
      refine (HC.out w0).mono ?_
      rintro e w1 ⟨rfl, rfl⟩
      go_wp2_with fail
      refine (HBy.out _).mono ?_
      rintro e w2 ⟨hb2, ⟨ho, rfl⟩ | ⟨b, k, ho, rfl⟩⟩
      · have HV2 : Hid (F = (zTk, 0, 40)) := by show _ = _; rw [HV.out, ho]
        have HB2 := Lib.hid hb2
        clear HV HBy ho hb2
        have HBw : Hid (Below w.heap.size w w2) := HB0.out.trans (HB2.out.mono HB0.out.size)
        have HZ2 : Hid (Blk w2 w.heap.size 69 zTk.cs) := (HB2.out.block _ HL0.out).trans HZ0.out
        obtain ⟨s1, s2, s3⟩ := rtok_end (w := w) (W := w2) zTk HZ2.out HBw.out
        simp only [Tk.cs, zTk] at s1 s2 s3
        have S1 := Lib.hid s1
        have S2 := Lib.hid s2
        have S3 := Lib.hid s3
        clear s1 s2 s3
        go_wp2_with (first | (guard_target =~ wpList _ _ _ (Oper.mk _ (Op.store 69 _ _) _ _ _ _ :: _) _ _; refine wpList_skp rfl (exec_store rfl rfl rfl S1.out) ?_))
        refine bodyPost_ret (results_cell_tmp2 Tryz.results34 _ _ rfl rfl rfl S2.out) rfl ?_
        unfold RetRt
        rw [HV2.out]
        exact ⟨⟨zTk, 0, rfl, fun h => (by cases h)⟩, S3.out⟩
      · have HV2 : Hid (F = (⟨4, 0, strN b, 0⟩, 1 + k, 0)) := by show _ = _; rw [HV.out, ho]
        have HB2 := Lib.hid hb2
        obtain ⟨tz, hto⟩ : ∃ tz, p + 1 + k = tz := ⟨_, rfl⟩
        have HTo := Lib.hid hto
        rw [hto]
        have qz : ((tz : Int) == 0) = false := by rw [beq_eq_false_iff_ne]; omega
        obtain ⟨u, hu⟩ : ∃ u, strN b = u := ⟨_, rfl⟩
        rw [hu] at HV2 ⊢
        clear HV HBy ho hb2 hto hu
        have HBw : Hid (Below w.heap.size w w2) := HB0.out.trans (HB2.out.mono HB0.out.size)
        have HZ2 : Hid (Blk w2 w.heap.size 69 zTk.cs) := (HB2.out.block _ HL0.out).trans HZ0.out
        obtain ⟨s1, s2, s3⟩ := rtok_end (w := w) (W := w2) (⟨4, (p : Int), u, 0⟩ : Tk) HZ2.out HBw.out
        simp only [Tk.cs, zTk] at s1 s2 s3
        have S1 := Lib.hid s1
        have S2 := Lib.hid s2
        have S3 := Lib.hid s3
        clear s1 s2 s3
        go_wp2_with (first | (guard_target =~ wpList _ _ _ (Oper.mk _ (Op.store 69 _ _) _ _ _ _ :: _) _ _; refine wpList_skp rfl (exec_store rfl rfl rfl S1.out) ?_))
        refine bodyPost_ret (results_cell_tmp2 Tryz.results34 _ _ rfl rfl rfl S2.out) rfl ?_
        unfold RetRt
        rw [HV2.out]
        exact ⟨⟨(⟨4, (p : Int), u, 0⟩ : Tk), (tz : Int), rfl, fun _ => ⟨rfl, by rw [← HTo.out]; simp only; omega⟩⟩, S3.out⟩
  · have HV := Lib.hid (front_rest hp hb)
    obtain ⟨F, hF⟩ : ∃ F, frontR ((bytesU s).drop p) = F := ⟨_, rfl⟩
    rw [hF] at HV ⊢
    clear hF
    -- the three tests of the first condition
    obtain ⟨b1, hb1⟩ : ∃ b, (((s[p]'hp).toNat : Int) == 120) = b := ⟨_, rfl⟩
    obtain ⟨b2, hb2⟩ : ∃ b, (((s[p]'hp).toNat : Int) == 88) = b := ⟨_, rfl⟩
    obtain ⟨b3, hb3⟩ : ∃ b, decide ((p : Int) + 1 < (s.size : Int)) = b := ⟨_, rfl⟩
    have hcase : (b1 = false ∧ b2 = false) ∨ ((b1 = true ∨ b1 = false ∧ b2 = true) ∧ b3 = false) ∨ ((b1 = true ∨ b1 = false ∧ b2 = true) ∧ b3 = true ∧ ∃ h : p + 1 < s.size, (((s[p + 1]'h).toNat : Int) == 39) = false) := by
      cases b1 <;> cases b2 <;> cases b3 <;> simp only [reduceCtorEq, and_self, and_false, false_and, or_false, false_or, true_and, or_true, true_or, or_self]
      all_goals
        have h3 : p + 1 < s.size := by simp at hb3; omega
        refine ⟨h3, ?_⟩
        rw [beq_eq_false_iff_ne]
        intro h4
        have h5 : (s[p + 1]'h3).toNat = 39 := by omega
        refine hb ⟨h3, ?_, h5⟩
        first
          | (left; simp only [beq_iff_eq] at hb1; omega)
          | (right; simp only [beq_iff_eq] at hb2; omega)
    have hne : (bytesU s).drop p ≠ [] := by
      intro h; have := congrArg List.length h; rw [List.length_drop, bytesU_len] at this; simp at this; omega
    have h256l : ∀ c ∈ (bytesU s).drop p, c < 256 := fun c hc => bytesU_lt s c (List.mem_of_mem_drop hc)
    have hCs := cls_lt s p hp
    have hdr : (bytesU s).drop p = (s[p]'hp).toNat :: (bytesU s).drop (p + 1) := by
      rw [List.drop_eq_getElem_cons (by rw [bytesU_len]; exact hp), bytesU_get s p hp]
    have hX : ∀ j, s.extract p (p + j) = strN (((bytesU s).drop p).take j) := fun j => sub_str s p j
    have hlen : ((bytesU s).drop p).length = s.size - p := by rw [List.length_drop, bytesU_len]
    obtain ⟨C, hC⟩ : ∃ C, clsR ((bytesU s).drop p) = C := ⟨_, rfl⟩
    rw [hC] at HC HV hCs
    by_cases hC2 : C = 2
    · subst hC2
      have HF : Hid (F = wordR ((bytesU s).drop p)) := by show _ = _; rw [HV.out, if_pos rfl]
      have HW := Lib.hid (fun W => rWordW_any s p W hs hp hC)
      rw [← HF.out] at HW
      clear HV HF hCs hX hdr hne h256l hlen hC hb
      rcases hcase with ⟨rfl, rfl⟩ | ⟨rfl | ⟨rfl, rfl⟩, rfl⟩ | ⟨rfl | ⟨rfl, rfl⟩, rfl, h1, h4⟩
      all_goals (try have hz256 := (s[p + 1]'h1).toNat_lt)
      all_goals
        go_enter Tryz.func34, Tryz.ntmps34
        go_wp2_with fail
        refine (HC.out w0).mono ?_
        rintro e w1 ⟨rfl, rfl⟩
        go_wp2_with fail
        refine (HW.out _).mono ?_
        unfold RetRt
        rintro e w2 ⟨⟨t, tz, rfl, ht⟩, hb2⟩
        have HT := Lib.hid ht
        have HB := Lib.hid hb2
        clear ht hb2
        have HBw : Hid (Below w.heap.size w w2) := HB0.out.trans (HB.out.mono HB0.out.size)
        have HZ2 : Hid (Blk w2 w.heap.size 69 zTk.cs) := (HB.out.block _ HL0.out).trans HZ0.out
        obtain ⟨s1, s2, s3⟩ := rtok_end (w := w) (W := w2) t HZ2.out HBw.out
        simp only [Tk.cs, zTk] at s1 s2 s3
        have S1 := Lib.hid s1
        have S2 := Lib.hid s2
        have S3 := Lib.hid s3
        clear s1 s2 s3
        go_wp2_with (first | (guard_target =~ wpList _ _ _ (Oper.mk _ (Op.store 69 _ _) _ _ _ _ :: _) _ _; refine wpList_skp rfl (exec_store rfl rfl rfl S1.out) ?_))
        refine bodyPost_ret (results_cell_tmp2 Tryz.results34 _ _ rfl rfl rfl S2.out) rfl ?_
        exact ⟨⟨t, tz, rfl, HT.out⟩, S3.out⟩
    by_cases hC3 : C = 3
    · subst hC3
      have HF : Hid (F = numR ((bytesU s).drop p)) := by show _ = _; rw [HV.out, if_neg (by decide), if_pos rfl]
      have HW := Lib.hid (fun W => rWordN_any s p W hs hp hC)
      rw [← HF.out] at HW
      clear HV HF hCs hX hdr hne h256l hlen hC hb hC2
      rcases hcase with ⟨rfl, rfl⟩ | ⟨rfl | ⟨rfl, rfl⟩, rfl⟩ | ⟨rfl | ⟨rfl, rfl⟩, rfl, h1, h4⟩
      all_goals (try have hz256 := (s[p + 1]'h1).toNat_lt)
      all_goals
        go_enter Tryz.func34, Tryz.ntmps34
        go_wp2_with fail
        refine (HC.out w0).mono ?_
        rintro e w1 ⟨rfl, rfl⟩
        go_wp2_with fail
        refine (HW.out _).mono ?_
        unfold RetRt
        rintro e w2 ⟨⟨t, tz, rfl, ht⟩, hb2⟩
        have HT := Lib.hid ht
        have HB := Lib.hid hb2
        clear ht hb2
        have HBw : Hid (Below w.heap.size w w2) := HB0.out.trans (HB.out.mono HB0.out.size)
        have HZ2 : Hid (Blk w2 w.heap.size 69 zTk.cs) := (HB.out.block _ HL0.out).trans HZ0.out
        obtain ⟨s1, s2, s3⟩ := rtok_end (w := w) (W := w2) t HZ2.out HBw.out
        simp only [Tk.cs, zTk] at s1 s2 s3
        have S1 := Lib.hid s1
        have S2 := Lib.hid s2
        have S3 := Lib.hid s3
        clear s1 s2 s3
        go_wp2_with (first | (guard_target =~ wpList _ _ _ (Oper.mk _ (Op.store 69 _ _) _ _ _ _ :: _) _ _; refine wpList_skp rfl (exec_store rfl rfl rfl S1.out) ?_))
        refine bodyPost_ret (results_cell_tmp2 Tryz.results34 _ _ rfl rfl rfl S2.out) rfl ?_
        exact ⟨⟨t, tz, rfl, HT.out⟩, S3.out⟩
    have k2 : (C == 2) = false := by simp [hC2]
    have k3 : (C == 3) = false := by simp [hC3]
    by_cases hC4 : C = 4
    · subst hC4
      have HF : Hid (F = quotR ((bytesU s).drop p)) := by show _ = _; rw [HV.out, if_neg (by decide), if_neg (by decide), if_pos rfl]
      have h39 := class39 hCs.symm h256
      rw [h39] at hdr
      have HCl := Lib.hid (fun W => rClosing_any s p W (by omega) hp)
      cases hk : clR 1 ((bytesU s).drop (p + 1)) with
      | none =>
        have HV2 : Hid (F = (zTk, 0, 40)) := by show _ = _; rw [HF.out, hdr, quot_none hk]
        rw [clZ_none hk] at HCl
        clear HV HF hCs hX hdr hne h256l hlen hC hb hC2 hC3 hk h39
        rcases hcase with ⟨rfl, rfl⟩ | ⟨rfl | ⟨rfl, rfl⟩, rfl⟩ | ⟨rfl | ⟨rfl, rfl⟩, rfl, h1, h4⟩
        all_goals (try have hz256 := (s[p + 1]'h1).toNat_lt)
        all_goals
          go_enter Tryz.func34, Tryz.ntmps34
          go_wp2_with fail
          refine (HC.out w0).mono ?_
          rintro e w1 ⟨rfl, rfl⟩
          go_wp2_with fail
          refine (HCl.out _).mono ?_
          rintro e w1 ⟨rfl, rfl⟩
          obtain ⟨s1, s2, s3⟩ := rtok_end (w := w) (W := w0) zTk HZ0.out HB0.out
          simp only [Tk.cs, zTk] at s1 s2 s3
          have S1 := Lib.hid s1
          have S2 := Lib.hid s2
          have S3 := Lib.hid s3
          clear s1 s2 s3
          go_wp2_with (first | (guard_target =~ wpList _ _ _ (Oper.mk _ (Op.store 69 _ _) _ _ _ _ :: _) _ _; refine wpList_skp rfl (exec_store rfl rfl rfl S1.out) ?_))
          refine bodyPost_ret (results_cell_tmp2 Tryz.results34 _ _ rfl rfl rfl S2.out) rfl ?_
          unfold RetRt
          rw [HV2.out]
          exact ⟨⟨zTk, 0, rfl, fun h => (by cases h)⟩, S3.out⟩
      | some k =>
        have hbd := clR_bound hk
        rw [List.length_drop, bytesU_len] at hbd
        obtain ⟨b, r, hm, hkk, hb256, hun, hqt⟩ := quot_some (fun c hc => bytesU_lt s c (List.mem_of_mem_drop hc)) hk
        rw [← hdr] at hun hqt
        have HV2 : Hid (F = (⟨3, 0, strN b, 0⟩, k + 1, 0)) := by show _ = _; rw [HF.out, hqt]
        rw [clZ_some hk] at HCl
        have hx := hX (k + 1)
        obtain ⟨u, hu⟩ : ∃ u, strN (((bytesU s).drop p).take (k + 1)) = u := ⟨_, rfl⟩
        rw [hu] at hx hun
        have hus : u.size ≤ 400000 := by rw [← hu, strN_size, List.length_take]; omega
        have HU := Lib.hid (fun W => rUnquote_any u W hus)
        rw [hun] at HU
        simp only at HU
        obtain ⟨en, hen⟩ : ∃ en, p + k = en := ⟨_, rfl⟩
        have HE : Hid (p + (k + 1) = en + 1) := by show _ = _; omega
        rw [hen] at HCl
        rw [HE.out] at hx
        obtain ⟨v, hv⟩ : ∃ v, strN b = v := ⟨_, rfl⟩
        rw [hv] at HU HV2
        have l1 : (p : Int) ≤ (en : Int) + 1 := by omega
        have l2 : (en : Int) + 1 ≤ (s.size : Int) := by omega
        have q4 : decide ((en : Int) < 0) = false := by simp
        clear HV HF hCs hX hdr hne h256l hlen hC hb hC2 hC3 hk h39 hm hkk hb256 hun hqt hu hus hv hen
        rcases hcase with ⟨rfl, rfl⟩ | ⟨rfl | ⟨rfl, rfl⟩, rfl⟩ | ⟨rfl | ⟨rfl, rfl⟩, rfl, h1, h4⟩
        all_goals (try have hz256 := (s[p + 1]'h1).toNat_lt)
        all_goals
          go_enter Tryz.func34, Tryz.ntmps34
          go_wp2_with fail
          refine (HC.out w0).mono ?_
          rintro e w1 ⟨rfl, rfl⟩
          go_wp2_with fail
          refine (HCl.out _).mono ?_
          rintro e w1 ⟨rfl, rfl⟩
          go_wp2_with fail
          try rw [hx]
          refine (HU.out _).mono ?_
          rintro e w2 ⟨rfl, hb2⟩
          have HB := Lib.hid hb2
          clear hb2
          have HBw : Hid (Below w.heap.size w w2) := HB0.out.trans (HB.out.mono HB0.out.size)
          have HZ2 : Hid (Blk w2 w.heap.size 69 zTk.cs) := (HB.out.block _ HL0.out).trans HZ0.out
          obtain ⟨s1, s2, s3⟩ := rtok_end (w := w) (W := w2) (⟨3, (p : Int), v, 0⟩ : Tk) HZ2.out HBw.out
          simp only [Tk.cs, zTk] at s1 s2 s3
          have S1 := Lib.hid s1
          have S2 := Lib.hid s2
          have S3 := Lib.hid s3
          clear s1 s2 s3
          go_wp2_with (first | (guard_target =~ wpList _ _ _ (Oper.mk _ (Op.store 69 _ _) _ _ _ _ :: _) _ _; refine wpList_skp rfl (exec_store rfl rfl rfl S1.out) ?_))
          refine bodyPost_ret (results_cell_tmp2 Tryz.results34 _ _ rfl rfl rfl S2.out) rfl ?_
          unfold RetRt
          rw [HV2.out]
          exact ⟨⟨(⟨3, (p : Int), v, 0⟩ : Tk), ((en + 1 : Nat) : Int), rfl, fun _ => ⟨rfl, by rw [← HE.out]⟩⟩, S3.out⟩
    have k4 : (C == 4) = false := by simp [hC4]
    have HF : Hid (F = signR ((bytesU s).drop p)) := by show _ = _; rw [HV.out, if_neg hC2, if_neg hC3, if_neg hC4]
    have hsg := sign_sgn hne h256l
    have hle := sgn_le hne
    have HSg := Lib.hid (fun W => rSign_any s p W hs hp)
    obtain ⟨n, hn⟩ : ∃ n, sgnN ((bytesU s).drop p) = n := ⟨_, rfl⟩
    rw [hn] at hsg hle HSg
    rw [hlen] at hle
    by_cases hn0 : n = 0
    · subst hn0
      have HV2 : Hid (F = (zTk, 0, 40)) := by show _ = _; rw [HF.out, hsg, if_pos rfl]
      clear HV HF hCs hX hdr hne h256l hlen hC hb hC2 hC3 hC4 hsg hn
      rcases hcase with ⟨rfl, rfl⟩ | ⟨rfl | ⟨rfl, rfl⟩, rfl⟩ | ⟨rfl | ⟨rfl, rfl⟩, rfl, h1, h4⟩
      all_goals (try have hz256 := (s[p + 1]'h1).toNat_lt)
      all_goals
        go_enter Tryz.func34, Tryz.ntmps34
        go_wp2_with fail
        refine (HC.out w0).mono ?_
        rintro e w1 ⟨rfl, rfl⟩
        go_wp2_with fail
        refine (HSg.out _).mono ?_
        rintro e w2 ⟨rfl, hb2⟩
        have HB := Lib.hid hb2
        clear hb2
        have HBw : Hid (Below w.heap.size w w2) := HB0.out.trans (HB.out.mono HB0.out.size)
        have HZ2 : Hid (Blk w2 w.heap.size 69 zTk.cs) := (HB.out.block _ HL0.out).trans HZ0.out
        obtain ⟨s1, s2, s3⟩ := rtok_end (w := w) (W := w2) zTk HZ2.out HBw.out
        simp only [Tk.cs, zTk] at s1 s2 s3
        have S1 := Lib.hid s1
        have S2 := Lib.hid s2
        have S3 := Lib.hid s3
        clear s1 s2 s3
        go_wp2_with (first | (guard_target =~ wpList _ _ _ (Oper.mk _ (Op.store 69 _ _) _ _ _ _ :: _) _ _; refine wpList_skp rfl (exec_store rfl rfl rfl S1.out) ?_))
        refine bodyPost_ret (results_cell_tmp2 Tryz.results34 _ _ rfl rfl rfl S2.out) rfl ?_
        unfold RetRt
        rw [HV2.out]
        exact ⟨⟨zTk, 0, rfl, fun h => (by cases h)⟩, S3.out⟩
    · have hx := hX n
      obtain ⟨u, hu⟩ : ∃ u, strN (((bytesU s).drop p).take n) = u := ⟨_, rfl⟩
      rw [hu] at hx hsg
      have HV2 : Hid (F = (⟨5, 0, u, 0⟩, n, 0)) := by show _ = _; rw [HF.out, hsg, if_neg hn0]
      obtain ⟨en, hen⟩ : ∃ en, p + n = en := ⟨_, rfl⟩
      rw [hen] at hx
      have HE := Lib.hid hen
      have hE1 : (p : Int) + (n : Int) = (en : Int) := by omega
      have l1 : (p : Int) ≤ (en : Int) := by omega
      have l2 : (en : Int) ≤ (s.size : Int) := by omega
      have hw1 : IntKind.i64.wrap ((p : Int) + (n : Int)) = (en : Int) := by rw [hE1]; exact IntWalk.i64_in _ (by omega)
      have q5 : ((n : Int) == 0) = false := by rw [beq_eq_false_iff_ne]; omega
      clear HV HF hCs hX hdr hne h256l hlen hC hb hC2 hC3 hC4 hsg hn hn0 hu hen
      rcases hcase with ⟨rfl, rfl⟩ | ⟨rfl | ⟨rfl, rfl⟩, rfl⟩ | ⟨rfl | ⟨rfl, rfl⟩, rfl, h1, h4⟩
      all_goals (try have hz256 := (s[p + 1]'h1).toNat_lt)
      all_goals
        go_enter Tryz.func34, Tryz.ntmps34
        go_wp2_with fail
        refine (HC.out w0).mono ?_
        rintro e w1 ⟨rfl, rfl⟩
        go_wp2_with fail
        refine (HSg.out _).mono ?_
        rintro e w2 ⟨rfl, hb2⟩
        have HB := Lib.hid hb2
        clear hb2
        have HBw : Hid (Below w.heap.size w w2) := HB0.out.trans (HB.out.mono HB0.out.size)
        have HZ2 : Hid (Blk w2 w.heap.size 69 zTk.cs) := (HB.out.block _ HL0.out).trans HZ0.out
        obtain ⟨s1, s2, s3⟩ := rtok_end (w := w) (W := w2) (⟨5, (p : Int), u, 0⟩ : Tk) HZ2.out HBw.out
        simp only [Tk.cs, zTk] at s1 s2 s3
        have S1 := Lib.hid s1
        have S2 := Lib.hid s2
        have S3 := Lib.hid s3
        clear s1 s2 s3
        go_wp2_with (first | (guard_target =~ wpList _ _ _ (Oper.mk _ (Op.store 69 _ _) _ _ _ _ :: _) _ _; refine wpList_skp rfl (exec_store rfl rfl rfl S1.out) ?_))
        refine bodyPost_ret (results_cell_tmp2 Tryz.results34 _ _ rfl rfl rfl S2.out) rfl ?_
        unfold RetRt
        rw [HV2.out]
        exact ⟨⟨(⟨5, (p : Int), u, 0⟩ : Tk), (en : Int), rfl, fun _ => ⟨rfl, by rw [← HE.out]⟩⟩, S3.out⟩
end Go.Proofs.YtbnddpicpomakaaGreatDoor
