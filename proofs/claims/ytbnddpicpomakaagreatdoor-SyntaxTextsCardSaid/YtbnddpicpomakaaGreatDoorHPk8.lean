/- Several texts of one proof, one behind the other. -/
import Derived.Test.YtbnddpicpomakaaGreatDoorHPk7
import Derived.Deep.WholeRow
import Derived.Laws.Rows
import Derived.Laws.CopyRow
set_option linter.unusedSimpArgs false
set_option linter.unusedVariables false

/- The walks of text and Write. -/
set_option linter.unusedSimpArgs false
set_option linter.unusedVariables false
set_option maxRecDepth 100000
namespace Go.Proofs.YtbnddpicpomakaaGreatDoor
open Go.RowKit

theorem KidAt.later {w W : World} {b o : Nat} {y : XM} {N : Nat} (h : KidAt w b o y) (hb : b < N) (hB : Below N w W) : KidAt W b o y :=
  ⟨(hB.cell (p := ⟨b, o, none⟩) hb).trans h.c0, (hB.cell (p := ⟨b, o + 1, none⟩) hb).trans h.c1, (hB.cell (p := ⟨b, o + 2, none⟩) hb).trans h.c2, (hB.cell (p := ⟨b, o + 3, none⟩) hb).trans h.c3, (hB.cell (p := ⟨b, o + 4, none⟩) hb).trans h.c4, (hB.cell (p := ⟨b, o + 5, none⟩) hb).trans h.c5, (hB.cell (p := ⟨b, o + 6, none⟩) hb).trans h.c6, (hB.cell (p := ⟨b, o + 7, none⟩) hb).trans h.c7⟩

theorem ok_len {l : Lb} {n : Nat} (h : l.ok n = true) : (l.kd = 3 → n = 1) ∧ (l.kd = 4 → n = 2) ∧ (l.kd = 5 → n = 1) := by
  unfold Lb.ok takesB at h
  refine ⟨fun hk => ?_, fun hk => ?_, fun hk => ?_⟩ <;>
  · rw [hk] at h
    simp at h
    omega

set_option maxHeartbeats 4000000 in
theorem text_is : ∀ n, TextIs n
  | 0 => fun _ _ _ h _ _ => h.elim
  | n + 1 => fun x w hT h hg hc => by
    have IH := text_is n
    have HCall := Lib.hid (fun hk W (hb : Below w.heap.size w W) => call_any n IH x W (hT.below hb) (h.later hb) hg hc hk)
    have hsum := sum_textX _ _ w x h hg
    have hsm := Lb.small hg.lab.2
    have hok := ok_len hg.lab.1
    have hTx := textX_eq x.t
    unfold Lb.textOf at hTx
    have HA := Lib.hid h
    have HG := Lib.hid hg
    have HCt := Lib.hid hc
    have hF := h.fair.1
    rw [XM.v_eq] at HCall ⊢
    have HColm := Lib.hid (fun W => column_any x W (by have := hsm.tb; omega) (by have := hsm.nm; omega))
    rw [XM.v_eq] at HColm
    obtain ⟨t, a, cap⟩ := x
    simp only at hsum hsm hok HA HG HCt HCall HColm hTx hF hc ⊢
    have hop := hsm.op
    obtain ⟨m, hm⟩ : ∃ m, t.args.length = m := ⟨_, rfl⟩
    have HM := Lib.hid hm
    rw [hm] at hok HCall HColm ⊢
    have HP := Lib.hid (fun W (hb : Below w.heap.size w W) => hT.below hb)
    have HLit := Lib.hid (fun W (hb : Below w.heap.size w W) => literal_any t.lab.v W (HP.out W hb) hF.k hF.n hsm.s)
    have IHx : Hid (∀ (y : XM) (W : World), Below w.heap.size w W → XAt W.heap.size W n y → GoodX y.t → y.t.count ≤ 100000 → Calls Tryz.prog 43 #[.agg #[.int .i64 y.t.lab.kd, .int .u8 y.t.lab.v.k, .int .i64 y.t.lab.v.n, .string y.t.lab.v.s, .string y.t.lab.tb, .string y.t.lab.nm, .string y.t.lab.op, .slice y.a y.t.args.length y.cap]] W fun e w' => e = .returned (.string (textX y.t)) ∧ Below W.heap.size W w') := fun y W hb hy hg hc => by
      have := IH y W (HP.out W hb) hy hg hc
      rw [XM.v_eq] at this; exact this
    have HS := Lib.hid (Slot8.new w 45 (.int .i64 t.lab.kd) (.int .u8 t.lab.v.k) (.int .i64 t.lab.v.n) (.string t.lab.v.s) (.string t.lab.tb) (.string t.lab.nm) (.string t.lab.op) (.slice a m cap))
    obtain ⟨w0, hw0⟩ : ∃ w0, w.alloc (.cells #[.int .i64 t.lab.kd, .int .u8 t.lab.v.k, .int .i64 t.lab.v.n, .string t.lab.v.s, .string t.lab.tb, .string t.lab.nm, .string t.lab.op, .slice a m cap] 45) = w0 := ⟨_, rfl⟩
    have HB1 : Hid (Below w.heap.size w w0) := by rw [← hw0]; exact (Below.refl _ w).alloc (Nat.le_refl _) _
    have hs0 : w0.heap.size = w.heap.size + 1 := by rw [← hw0]; simp
    rw [hw0] at HS
    have HZ := Lib.hid hs0
    have HKid : Hid (∀ k (hk : k < t.args.length), ∃ y : XM, y.t = t.args[k] ∧ (∃ b o, a = some ⟨b, o, none⟩ ∧ b < w0.heap.size ∧ KidAt w0 b (o + k * 8) y) ∧ ∀ W, Below w0.heap.size w0 W → Calls Tryz.prog 43 #[.agg #[.int .i64 y.t.lab.kd, .int .u8 y.t.lab.v.k, .int .i64 y.t.lab.v.n, .string y.t.lab.v.s, .string y.t.lab.tb, .string y.t.lab.nm, .string y.t.lab.op, .slice y.a y.t.args.length y.cap]] W fun e w' => e = .returned (.string (textX y.t)) ∧ Below W.heap.size W w') := fun k hk => by
      obtain ⟨y, hy, hAy, b, o, hab, hbN, hKid⟩ := (HA.out.later HB1.out).kid8 (k := k) hk
      have hyg : GoodX y.t := by rw [hy]; exact HG.out.arg (List.getElem_mem hk)
      have hyc : y.t.count ≤ 100000 := by have h1 := count_arg (List.getElem_mem hk); rw [← hy] at h1; have := HCt.out; omega
      exact ⟨y, hy, ⟨b, o, hab, hbN, hKid⟩, fun W hb => IHx.out y W (HB1.out.trans (hb.mono HB1.out.size)) (hAy.later hb) hyg hyc⟩
    have hsz : ∀ i, ((t.args.map textX).getD i ⟨#[]⟩).size ≤ 100000000 := fun i => by have := getD_size (t.args.map textX) i; omega
    have HSz := Lib.hid hsz
    clear h hg hc hsum hsm hm hT hs0 IH IHx HA HG HCt hsz HP hF
    obtain ⟨x0, x1, x2, x3, x4, x5, x6, x7⟩ := HS.out
    by_cases k1 : t.lab.kd = 1
    · rw [if_pos k1] at hTx
      rw [hTx]
      generalize Vl.litS t.lab.v = R at *
      generalize t.lab.kd = kd at *
      subst k1
      clear hTx HCall HColm hok HKid
      go_enter Tryz.func43, Tryz.ntmps43
      go_wp2_with fail
      refine (HLit.out _ HB1.out).mono ?_
      rintro e w1 ⟨rfl, hb1⟩
      have HB2 := Lib.hid (HB1.out.trans (hb1.mono HB1.out.size))
      clear hb1 x0 x1 x2 x3 x4 x5 x6 x7
      go_wp2
      go_ret
      exact ⟨rfl, HB2.out⟩
    rw [if_neg k1] at hTx
    by_cases k2 : t.lab.kd = 2
    · rw [if_pos k2] at hTx
      rw [hTx]
      generalize Lb.colS t.lab = R at *
      generalize t.lab.kd = kd at *
      subst k2
      clear hTx HCall HLit hok HKid k1
      go_enter Tryz.func43, Tryz.ntmps43
      go_wp2_with fail
      refine (HColm.out _).mono ?_
      rintro e w1 ⟨rfl, hb1⟩
      have HB2 := Lib.hid (HB1.out.trans (hb1.mono HB1.out.size))
      clear hb1 x0 x1 x2 x3 x4 x5 x6 x7
      go_wp2
      go_ret
      exact ⟨rfl, HB2.out⟩
    rw [if_neg k2] at hTx
    by_cases k3 : t.lab.kd = 3
    · rw [if_pos k3] at hTx
      have hm1 := hok.1 k3
      subst hm1
      obtain ⟨y0, hy0, ⟨b, o, hab, hbN, hKd0⟩, hCl0⟩ := HKid.out 0 (by rw [HM.out]; omega)
      have hyt0 : (t.args.map textX).getD 0 ⟨#[]⟩ = textX y0.t := by
        rw [hy0]; simp [List.getD, List.getElem?_eq_getElem (show 0 < t.args.length by rw [HM.out]; omega)]
      have hys0 := HSz.out 0
      rw [hyt0] at hTx hys0
      rw [hTx]
      have HY0 := Lib.hid hCl0
      subst hab
      generalize textX y0.t = R0 at *
      generalize t.lab.kd = kd at *
      subst k3
      have s0 : ¬ 9223372036854775807 < 1 + t.lab.op.size := by omega
      have s1 : ¬ 9223372036854775807 < 1 + t.lab.op.size + 1 := by omega
      have s2 : ¬ 9223372036854775807 < 1 + t.lab.op.size + 1 + R0.size := by omega
      have s3 : ¬ 9223372036854775807 < 1 + t.lab.op.size + 1 + R0.size + 1 := by omega
      have HK0 := Lib.hid hKd0
      have hw0s : w.heap.size < w0.heap.size := by have := HZ.out; omega
      have l6 : ∀ W, Later w0.drew W → W.cell? ⟨w.heap.size, 6, none⟩ = some (.string t.lab.op) := fun W hW => (HS.out.later hw0s (Later.undrew hW)).c6
      have l7 : ∀ W, Later w0.drew W → W.cell? ⟨w.heap.size, 7, none⟩ = some (.slice (some ⟨b, o, none⟩) 1 cap) := fun W hW => (HS.out.later hw0s (Later.undrew hW)).c7
      have g00 : ∀ W, Later w0.drew W → W.cell? ⟨b, o, none⟩ = some (.int .i64 y0.t.lab.kd) := fun W hW => by have := (HK0.out.later hbN (Later.undrew hW)).c0; rw [Nat.zero_mul, Nat.add_zero] at this; exact this
      have g01 : ∀ W, Later w0.drew W → W.cell? ⟨b, o + 1, none⟩ = some (.int .u8 y0.t.lab.v.k) := fun W hW => by have := (HK0.out.later hbN (Later.undrew hW)).c1; rw [Nat.zero_mul, Nat.add_zero] at this; exact this
      have g02 : ∀ W, Later w0.drew W → W.cell? ⟨b, o + 2, none⟩ = some (.int .i64 y0.t.lab.v.n) := fun W hW => by have := (HK0.out.later hbN (Later.undrew hW)).c2; rw [Nat.zero_mul, Nat.add_zero] at this; exact this
      have g03 : ∀ W, Later w0.drew W → W.cell? ⟨b, o + 3, none⟩ = some (.string y0.t.lab.v.s) := fun W hW => by have := (HK0.out.later hbN (Later.undrew hW)).c3; rw [Nat.zero_mul, Nat.add_zero] at this; exact this
      have g04 : ∀ W, Later w0.drew W → W.cell? ⟨b, o + 4, none⟩ = some (.string y0.t.lab.tb) := fun W hW => by have := (HK0.out.later hbN (Later.undrew hW)).c4; rw [Nat.zero_mul, Nat.add_zero] at this; exact this
      have g05 : ∀ W, Later w0.drew W → W.cell? ⟨b, o + 5, none⟩ = some (.string y0.t.lab.nm) := fun W hW => by have := (HK0.out.later hbN (Later.undrew hW)).c5; rw [Nat.zero_mul, Nat.add_zero] at this; exact this
      have g06 : ∀ W, Later w0.drew W → W.cell? ⟨b, o + 6, none⟩ = some (.string y0.t.lab.op) := fun W hW => by have := (HK0.out.later hbN (Later.undrew hW)).c6; rw [Nat.zero_mul, Nat.add_zero] at this; exact this
      have g07 : ∀ W, Later w0.drew W → W.cell? ⟨b, o + 7, none⟩ = some (.slice y0.a y0.t.args.length y0.cap) := fun W hW => by have := (HK0.out.later hbN (Later.undrew hW)).c7; rw [Nat.zero_mul, Nat.add_zero] at this; exact this
      clear hTx HCall HColm HLit hok HKid k1 k2 hy0 hyt0 hys0 hKd0 hCl0 HSz HM hbN
      go_enter Tryz.func43, Tryz.ntmps43
      go_wp2_with fail
      clear x0 x1 x2 x3 x4 x5 x6 x7
      refine wp_region_ord [(0, true), (1, true), (2, true), (3, true), (4, true), (5, true), (6, true), (7, true), (8, false), (9, true), (10, true), (11, true)] (by kernel_rfl) (by kernel_rfl) (by kernel_rfl) (by kernel_rfl) ?_
      repeat (first | (refine wpO_F (v := ?_) rfl (by rfl) (fun w' hL => ?_) ?_; rotate_left; (solve | (go_simp; with_reducible rfl) | go_simp); try simp only [Act.put, List.setIfInBounds_toArray, List.set_cons_zero, List.set_cons_succ]) | (refine wpO_G rfl (by rfl) ?_; try simp only [Act.put, List.setIfInBounds_toArray, List.set_cons_zero, List.set_cons_succ]))
      refine wpO_C rfl (by rfl) ?_
      go_simp
      refine (HY0.out _ (Below.refl _ _).drew).mono ?_
      rintro e w1 ⟨rfl, hb1⟩
      refine ⟨hb1, ?_⟩
      try simp only [Act.put, List.setIfInBounds_toArray, List.set_cons_zero, List.set_cons_succ]
      repeat (first | (refine wpO_F (v := ?_) rfl (by rfl) (fun w' hL => ?_) ?_; rotate_left; (solve | (go_simp; with_reducible rfl) | go_simp); try simp only [Act.put, List.setIfInBounds_toArray, List.set_cons_zero, List.set_cons_succ]) | (refine wpO_G rfl (by rfl) ?_; try simp only [Act.put, List.setIfInBounds_toArray, List.set_cons_zero, List.set_cons_succ]))
      refine wpO_nil ?_
      have HB2 := Lib.hid (HB1.out.trans (((Below.refl _ w0).drew.trans hb1).mono HB1.out.size))
      clear hb1
      clear HY0
      go_wp2
      go_ret
      exact ⟨rfl, HB2.out⟩
    rw [if_neg k3] at hTx
    by_cases k4 : t.lab.kd = 4
    · rw [if_pos k4] at hTx
      have hm1 := hok.2.1 k4
      subst hm1
      obtain ⟨y0, hy0, ⟨b, o, hab, hbN, hKd0⟩, hCl0⟩ := HKid.out 0 (by rw [HM.out]; omega)
      have hyt0 : (t.args.map textX).getD 0 ⟨#[]⟩ = textX y0.t := by
        rw [hy0]; simp [List.getD, List.getElem?_eq_getElem (show 0 < t.args.length by rw [HM.out]; omega)]
      have hys0 := HSz.out 0
      obtain ⟨y1, hy1, ⟨b1, o1, hab1, -, hKd1⟩, hCl1⟩ := HKid.out 1 (by rw [HM.out]; omega)
      have hyt1 : (t.args.map textX).getD 1 ⟨#[]⟩ = textX y1.t := by
        rw [hy1]; simp [List.getD, List.getElem?_eq_getElem (show 1 < t.args.length by rw [HM.out]; omega)]
      have hys1 := HSz.out 1
      rw [hyt1] at hTx hys1
      have HY1 := Lib.hid hCl1
      rw [hab] at hab1
      injection hab1 with hab1
      injection hab1 with e1 e2
      subst e1 e2
      rw [hyt0] at hTx hys0
      rw [hTx]
      have HY0 := Lib.hid hCl0
      subst hab
      generalize textX y0.t = R0 at *
      generalize textX y1.t = R1 at *
      generalize t.lab.kd = kd at *
      subst k4
      have s0 : ¬ 9223372036854775807 < 1 + R0.size := by omega
      have s1 : ¬ 9223372036854775807 < 1 + R0.size + 1 := by omega
      have s2 : ¬ 9223372036854775807 < 1 + R0.size + 1 + t.lab.op.size := by omega
      have s3 : ¬ 9223372036854775807 < 1 + R0.size + 1 + t.lab.op.size + 1 := by omega
      have s4 : ¬ 9223372036854775807 < 1 + R0.size + 1 + t.lab.op.size + 1 + R1.size := by omega
      have s5 : ¬ 9223372036854775807 < 1 + R0.size + 1 + t.lab.op.size + 1 + R1.size + 1 := by omega
      have HK0 := Lib.hid hKd0
      have HK1 := Lib.hid hKd1
      have hw0s : w.heap.size < w0.heap.size := by have := HZ.out; omega
      have l6 : ∀ W, Later w0.drew W → W.cell? ⟨w.heap.size, 6, none⟩ = some (.string t.lab.op) := fun W hW => (HS.out.later hw0s (Later.undrew hW)).c6
      have l7 : ∀ W, Later w0.drew W → W.cell? ⟨w.heap.size, 7, none⟩ = some (.slice (some ⟨b, o, none⟩) 2 cap) := fun W hW => (HS.out.later hw0s (Later.undrew hW)).c7
      have g00 : ∀ W, Later w0.drew W → W.cell? ⟨b, o, none⟩ = some (.int .i64 y0.t.lab.kd) := fun W hW => by have := (HK0.out.later hbN (Later.undrew hW)).c0; rw [Nat.zero_mul, Nat.add_zero] at this; exact this
      have g01 : ∀ W, Later w0.drew W → W.cell? ⟨b, o + 1, none⟩ = some (.int .u8 y0.t.lab.v.k) := fun W hW => by have := (HK0.out.later hbN (Later.undrew hW)).c1; rw [Nat.zero_mul, Nat.add_zero] at this; exact this
      have g02 : ∀ W, Later w0.drew W → W.cell? ⟨b, o + 2, none⟩ = some (.int .i64 y0.t.lab.v.n) := fun W hW => by have := (HK0.out.later hbN (Later.undrew hW)).c2; rw [Nat.zero_mul, Nat.add_zero] at this; exact this
      have g03 : ∀ W, Later w0.drew W → W.cell? ⟨b, o + 3, none⟩ = some (.string y0.t.lab.v.s) := fun W hW => by have := (HK0.out.later hbN (Later.undrew hW)).c3; rw [Nat.zero_mul, Nat.add_zero] at this; exact this
      have g04 : ∀ W, Later w0.drew W → W.cell? ⟨b, o + 4, none⟩ = some (.string y0.t.lab.tb) := fun W hW => by have := (HK0.out.later hbN (Later.undrew hW)).c4; rw [Nat.zero_mul, Nat.add_zero] at this; exact this
      have g05 : ∀ W, Later w0.drew W → W.cell? ⟨b, o + 5, none⟩ = some (.string y0.t.lab.nm) := fun W hW => by have := (HK0.out.later hbN (Later.undrew hW)).c5; rw [Nat.zero_mul, Nat.add_zero] at this; exact this
      have g06 : ∀ W, Later w0.drew W → W.cell? ⟨b, o + 6, none⟩ = some (.string y0.t.lab.op) := fun W hW => by have := (HK0.out.later hbN (Later.undrew hW)).c6; rw [Nat.zero_mul, Nat.add_zero] at this; exact this
      have g07 : ∀ W, Later w0.drew W → W.cell? ⟨b, o + 7, none⟩ = some (.slice y0.a y0.t.args.length y0.cap) := fun W hW => by have := (HK0.out.later hbN (Later.undrew hW)).c7; rw [Nat.zero_mul, Nat.add_zero] at this; exact this
      have g10 : ∀ W, Later w0.drew W → W.cell? ⟨b, o + 8, none⟩ = some (.int .i64 y1.t.lab.kd) := fun W hW => by have := (HK1.out.later hbN (Later.undrew hW)).c0; rw [Nat.one_mul] at this; exact this
      have g11 : ∀ W, Later w0.drew W → W.cell? ⟨b, o + 8 + 1, none⟩ = some (.int .u8 y1.t.lab.v.k) := fun W hW => by have := (HK1.out.later hbN (Later.undrew hW)).c1; rw [Nat.one_mul] at this; exact this
      have g12 : ∀ W, Later w0.drew W → W.cell? ⟨b, o + 8 + 2, none⟩ = some (.int .i64 y1.t.lab.v.n) := fun W hW => by have := (HK1.out.later hbN (Later.undrew hW)).c2; rw [Nat.one_mul] at this; exact this
      have g13 : ∀ W, Later w0.drew W → W.cell? ⟨b, o + 8 + 3, none⟩ = some (.string y1.t.lab.v.s) := fun W hW => by have := (HK1.out.later hbN (Later.undrew hW)).c3; rw [Nat.one_mul] at this; exact this
      have g14 : ∀ W, Later w0.drew W → W.cell? ⟨b, o + 8 + 4, none⟩ = some (.string y1.t.lab.tb) := fun W hW => by have := (HK1.out.later hbN (Later.undrew hW)).c4; rw [Nat.one_mul] at this; exact this
      have g15 : ∀ W, Later w0.drew W → W.cell? ⟨b, o + 8 + 5, none⟩ = some (.string y1.t.lab.nm) := fun W hW => by have := (HK1.out.later hbN (Later.undrew hW)).c5; rw [Nat.one_mul] at this; exact this
      have g16 : ∀ W, Later w0.drew W → W.cell? ⟨b, o + 8 + 6, none⟩ = some (.string y1.t.lab.op) := fun W hW => by have := (HK1.out.later hbN (Later.undrew hW)).c6; rw [Nat.one_mul] at this; exact this
      have g17 : ∀ W, Later w0.drew W → W.cell? ⟨b, o + 8 + 7, none⟩ = some (.slice y1.a y1.t.args.length y1.cap) := fun W hW => by have := (HK1.out.later hbN (Later.undrew hW)).c7; rw [Nat.one_mul] at this; exact this
      clear hTx HCall HColm HLit hok HKid k1 k2 k3 hy0 hyt0 hys0 hKd0 hCl0 hy1 hyt1 hys1 hKd1 hCl1 HSz HM hbN
      go_enter Tryz.func43, Tryz.ntmps43
      go_wp2_with fail
      clear x0 x1 x2 x3 x4 x5 x6 x7
      refine wp_region_ord [(0, true), (1, true), (2, true), (3, true), (7, true), (8, true), (11, true), (12, true), (13, true), (14, true), (4, false), (5, true), (6, true), (9, true), (10, true), (15, false), (16, true), (17, true), (18, true)] (by kernel_rfl) (by kernel_rfl) (by kernel_rfl) (by kernel_rfl) ?_
      repeat (first | (refine wpO_F (v := ?_) rfl (by rfl) (fun w' hL => ?_) ?_; rotate_left; (solve | (go_simp; with_reducible rfl) | go_simp); try simp only [Act.put, List.setIfInBounds_toArray, List.set_cons_zero, List.set_cons_succ]) | (refine wpO_G rfl (by rfl) ?_; try simp only [Act.put, List.setIfInBounds_toArray, List.set_cons_zero, List.set_cons_succ]))
      refine wpO_C rfl (by rfl) ?_
      go_simp
      refine (HY0.out _ (Below.refl _ _).drew).mono ?_
      rintro e w1 ⟨rfl, hb1⟩
      refine ⟨hb1, ?_⟩
      try simp only [Act.put, List.setIfInBounds_toArray, List.set_cons_zero, List.set_cons_succ]
      repeat (first | (refine wpO_F (v := ?_) rfl (by rfl) (fun w' hL => ?_) ?_; rotate_left; (solve | (go_simp; with_reducible rfl) | go_simp); try simp only [Act.put, List.setIfInBounds_toArray, List.set_cons_zero, List.set_cons_succ]) | (refine wpO_G rfl (by rfl) ?_; try simp only [Act.put, List.setIfInBounds_toArray, List.set_cons_zero, List.set_cons_succ]))
      refine wpO_C rfl (by rfl) ?_
      go_simp
      refine (HY1.out _ ((Below.refl _ _).drew.trans hb1)).mono ?_
      rintro e w2 ⟨rfl, hb2⟩
      refine ⟨hb2, ?_⟩
      try simp only [Act.put, List.setIfInBounds_toArray, List.set_cons_zero, List.set_cons_succ]
      repeat (first | (refine wpO_F (v := ?_) rfl (by rfl) (fun w' hL => ?_) ?_; rotate_left; (solve | (go_simp; with_reducible rfl) | go_simp); try simp only [Act.put, List.setIfInBounds_toArray, List.set_cons_zero, List.set_cons_succ]) | (refine wpO_G rfl (by rfl) ?_; try simp only [Act.put, List.setIfInBounds_toArray, List.set_cons_zero, List.set_cons_succ]))
      refine wpO_nil ?_
      have HB2 := Lib.hid (HB1.out.trans ((((Below.refl _ w0).drew.trans hb1).trans (hb2.mono hb1.size)).mono HB1.out.size))
      clear hb1 hb2
      clear HY0 HY1
      go_wp2
      go_ret
      exact ⟨rfl, HB2.out⟩
    rw [if_neg k4] at hTx
    by_cases k5 : t.lab.kd = 5
    · rw [if_pos k5] at hTx
      have hm1 := hok.2.2 k5
      subst hm1
      obtain ⟨y0, hy0, ⟨b, o, hab, hbN, hKd0⟩, hCl0⟩ := HKid.out 0 (by rw [HM.out]; omega)
      have hyt0 : (t.args.map textX).getD 0 ⟨#[]⟩ = textX y0.t := by
        rw [hy0]; simp [List.getD, List.getElem?_eq_getElem (show 0 < t.args.length by rw [HM.out]; omega)]
      have hys0 := HSz.out 0
      rw [hyt0] at hTx hys0
      rw [hTx]
      have HY0 := Lib.hid hCl0
      subst hab
      generalize textX y0.t = R0 at *
      generalize t.lab.kd = kd at *
      subst k5
      have s0 : ¬ 9223372036854775807 < 1 + R0.size := by omega
      have s1 : ¬ 9223372036854775807 < 1 + R0.size + 1 := by omega
      have s2 : ¬ 9223372036854775807 < 1 + R0.size + 1 + t.lab.op.size := by omega
      have s3 : ¬ 9223372036854775807 < 1 + R0.size + 1 + t.lab.op.size + 1 := by omega
      have HK0 := Lib.hid hKd0
      have hw0s : w.heap.size < w0.heap.size := by have := HZ.out; omega
      have l6 : ∀ W, Later w0.drew W → W.cell? ⟨w.heap.size, 6, none⟩ = some (.string t.lab.op) := fun W hW => (HS.out.later hw0s (Later.undrew hW)).c6
      have l7 : ∀ W, Later w0.drew W → W.cell? ⟨w.heap.size, 7, none⟩ = some (.slice (some ⟨b, o, none⟩) 1 cap) := fun W hW => (HS.out.later hw0s (Later.undrew hW)).c7
      have g00 : ∀ W, Later w0.drew W → W.cell? ⟨b, o, none⟩ = some (.int .i64 y0.t.lab.kd) := fun W hW => by have := (HK0.out.later hbN (Later.undrew hW)).c0; rw [Nat.zero_mul, Nat.add_zero] at this; exact this
      have g01 : ∀ W, Later w0.drew W → W.cell? ⟨b, o + 1, none⟩ = some (.int .u8 y0.t.lab.v.k) := fun W hW => by have := (HK0.out.later hbN (Later.undrew hW)).c1; rw [Nat.zero_mul, Nat.add_zero] at this; exact this
      have g02 : ∀ W, Later w0.drew W → W.cell? ⟨b, o + 2, none⟩ = some (.int .i64 y0.t.lab.v.n) := fun W hW => by have := (HK0.out.later hbN (Later.undrew hW)).c2; rw [Nat.zero_mul, Nat.add_zero] at this; exact this
      have g03 : ∀ W, Later w0.drew W → W.cell? ⟨b, o + 3, none⟩ = some (.string y0.t.lab.v.s) := fun W hW => by have := (HK0.out.later hbN (Later.undrew hW)).c3; rw [Nat.zero_mul, Nat.add_zero] at this; exact this
      have g04 : ∀ W, Later w0.drew W → W.cell? ⟨b, o + 4, none⟩ = some (.string y0.t.lab.tb) := fun W hW => by have := (HK0.out.later hbN (Later.undrew hW)).c4; rw [Nat.zero_mul, Nat.add_zero] at this; exact this
      have g05 : ∀ W, Later w0.drew W → W.cell? ⟨b, o + 5, none⟩ = some (.string y0.t.lab.nm) := fun W hW => by have := (HK0.out.later hbN (Later.undrew hW)).c5; rw [Nat.zero_mul, Nat.add_zero] at this; exact this
      have g06 : ∀ W, Later w0.drew W → W.cell? ⟨b, o + 6, none⟩ = some (.string y0.t.lab.op) := fun W hW => by have := (HK0.out.later hbN (Later.undrew hW)).c6; rw [Nat.zero_mul, Nat.add_zero] at this; exact this
      have g07 : ∀ W, Later w0.drew W → W.cell? ⟨b, o + 7, none⟩ = some (.slice y0.a y0.t.args.length y0.cap) := fun W hW => by have := (HK0.out.later hbN (Later.undrew hW)).c7; rw [Nat.zero_mul, Nat.add_zero] at this; exact this
      clear hTx HCall HColm HLit hok HKid k1 k2 k3 k4 hy0 hyt0 hys0 hKd0 hCl0 HSz HM hbN
      go_enter Tryz.func43, Tryz.ntmps43
      go_wp2_with fail
      clear x0 x1 x2 x3 x4 x5 x6 x7
      refine wp_region_ord [(0, true), (1, true), (2, true), (3, true), (7, true), (8, true), (4, false), (5, true), (6, true), (9, true), (10, true), (11, true)] (by kernel_rfl) (by kernel_rfl) (by kernel_rfl) (by kernel_rfl) ?_
      repeat (first | (refine wpO_F (v := ?_) rfl (by rfl) (fun w' hL => ?_) ?_; rotate_left; (solve | (go_simp; with_reducible rfl) | go_simp); try simp only [Act.put, List.setIfInBounds_toArray, List.set_cons_zero, List.set_cons_succ]) | (refine wpO_G rfl (by rfl) ?_; try simp only [Act.put, List.setIfInBounds_toArray, List.set_cons_zero, List.set_cons_succ]))
      refine wpO_C rfl (by rfl) ?_
      go_simp
      refine (HY0.out _ (Below.refl _ _).drew).mono ?_
      rintro e w1 ⟨rfl, hb1⟩
      refine ⟨hb1, ?_⟩
      try simp only [Act.put, List.setIfInBounds_toArray, List.set_cons_zero, List.set_cons_succ]
      repeat (first | (refine wpO_F (v := ?_) rfl (by rfl) (fun w' hL => ?_) ?_; rotate_left; (solve | (go_simp; with_reducible rfl) | go_simp); try simp only [Act.put, List.setIfInBounds_toArray, List.set_cons_zero, List.set_cons_succ]) | (refine wpO_G rfl (by rfl) ?_; try simp only [Act.put, List.setIfInBounds_toArray, List.set_cons_zero, List.set_cons_succ]))
      refine wpO_nil ?_
      have HB2 := Lib.hid (HB1.out.trans (((Below.refl _ w0).drew.trans hb1).mono HB1.out.size))
      clear hb1
      clear HY0
      go_wp2
      go_ret
      exact ⟨rfl, HB2.out⟩
    rw [if_neg k5] at hTx
    have HY := Lib.hid (HCall.out ⟨k1, k2, k3, k4, k5⟩)
    have q1 : (t.lab.kd == 1) = false := by simpa using k1
    have q2 : (t.lab.kd == 2) = false := by simpa using k2
    have q3 : (t.lab.kd == 3) = false := by simpa using k3
    have q4 : (t.lab.kd == 4) = false := by simpa using k4
    have q5 : (t.lab.kd == 5) = false := by simpa using k5
    generalize textX t = R at *
    generalize t.lab.kd = kd at *
    clear hTx HCall HColm HLit hok HKid k1 k2 k3 k4 k5 HSz HM
    go_enter Tryz.func43, Tryz.ntmps43
    go_wp2_with fail
    refine (HY.out _ HB1.out).mono ?_
    rintro e w1 ⟨rfl, hb1⟩
    have HB2 := Lib.hid (HB1.out.trans (hb1.mono HB1.out.size))
    clear hb1 x0 x1 x2 x3 x4 x5 x6 x7
    go_wp2
    go_ret
    exact ⟨rfl, HB2.out⟩
end Go.Proofs.YtbnddpicpomakaaGreatDoor

/- The walks of same, its closure, slices.EqualFunc at it, and of Same. -/
set_option linter.unusedSimpArgs false
set_option linter.unusedVariables false
set_option maxRecDepth 100000
namespace Go.Proofs.YtbnddpicpomakaaGreatDoor
open Go.RowKit

def listSame (f : Ex → Ex → Bool) : List Ex → List Ex → Bool
  | [], [] => true
  | x :: r, y :: s => f x y && listSame f r s
  | _, _ => false
/-- Equal, and no more than so many levels. -/
def sameX : Nat → Ex → Ex → Bool
  | 0, _, _ => false
  | n + 1, a, b => decide (a.lab = b.lab) && listSame (sameX n) a.args b.args
theorem listSame_iff {f : Ex → Ex → Bool} : ∀ (l m : List Ex), listSame f l m = true ↔ l.length = m.length ∧ ∀ (i : Nat) x y, l[i]? = some x → m[i]? = some y → f x y = true
  | [], [] => by simp [listSame]
  | [], y :: s => by simp [listSame]
  | x :: r, [] => by simp [listSame]
  | x :: r, y :: s => by
    rw [listSame, Bool.and_eq_true, listSame_iff r s]
    constructor
    · rintro ⟨h1, h2, h3⟩
      refine ⟨by simp [h2], fun i a b ha hb => ?_⟩
      cases i with
      | zero => simp at ha hb; subst ha hb; exact h1
      | succ i => exact h3 i a b (by simpa using ha) (by simpa using hb)
    · rintro ⟨h1, h2⟩
      exact ⟨h2 0 x y rfl rfl, by simpa using h1, fun i a b ha hb => h2 (i + 1) a b (by simpa using ha) (by simpa using hb)⟩
theorem sameX_iff : ∀ (n : Nat) (a b : Ex), sameX n a b = true ↔ a = b ∧ a.depth ≤ n
  | 0, a, b => by have := a.depth_pos; simp [sameX]; omega
  | n + 1, a, b => by
    rw [sameX, Bool.and_eq_true, decide_eq_true_iff, listSame_iff, Rose.depth_le]
    constructor
    · rintro ⟨h1, h2, h3⟩
      have h4 : a.args = b.args := by
        apply List.ext_getElem? ; intro i
        by_cases hi : i < a.args.length
        · have hj : i < b.args.length := by omega
          have := (sameX_iff n _ _).1 (h3 i a.args[i] b.args[i] (List.getElem?_eq_getElem hi) (List.getElem?_eq_getElem hj))
          rw [List.getElem?_eq_getElem hi, List.getElem?_eq_getElem hj, this.1]
        · rw [List.getElem?_eq_none (by omega), List.getElem?_eq_none (by omega)]
      refine ⟨by rw [← a.eta, ← b.eta, h1, h4], fun x hx => ?_⟩
      obtain ⟨i, hi, rfl⟩ := List.getElem_of_mem hx
      have hj : i < b.args.length := by omega
      exact ((sameX_iff n _ _).1 (h3 i a.args[i] b.args[i] (List.getElem?_eq_getElem hi) (List.getElem?_eq_getElem hj))).2
    · rintro ⟨rfl, h2⟩
      refine ⟨rfl, rfl, fun i x y hx hy => ?_⟩
      rw [hx] at hy
      injection hy with hy
      subst hy
      exact (sameX_iff n x x).2 ⟨rfl, h2 x (List.mem_of_getElem? hx)⟩
theorem toList_ne {a b : ByteArray} (h : a ≠ b) : a.toList ≠ b.toList := fun h2 => h (toList_inj h2)
theorem listSame_take {f : Ex → Ex → Bool} {l m : List Ex} (hl : l.length = m.length) {k : Nat} (hk : k < l.length) : listSame f (l.take (k + 1)) (m.take (k + 1)) = (listSame f (l.take k) (m.take k) && f l[k] (m[k]'(by omega))) := by
  induction l generalizing m k with
  | nil => simp at hk
  | cons x r ih =>
    cases m with
    | nil => simp at hl
    | cons y s =>
      cases k with
      | zero => simp [listSame]
      | succ k =>
        rw [List.take_succ_cons, List.take_succ_cons, List.take_succ_cons, List.take_succ_cons, listSame, listSame, ih (by simpa using hl) (by simpa using hk), Bool.and_assoc]; rfl
theorem listSame_false {f : Ex → Ex → Bool} {l m : List Ex} {k : Nat} (hk : k < l.length) (hm : k < m.length) (h : f l[k] m[k] = false) : listSame f l m = false := by
  rw [Bool.eq_false_iff]
  intro ht
  have := ((listSame_iff l m).1 ht).2 k _ _ (List.getElem?_eq_getElem hk) (List.getElem?_eq_getElem hm)
  rw [h] at this; cases this

/-- What is known of same, with so many levels, of trees of so many. -/
def SameIs (n l : Nat) : Prop := ∀ (y z : XM) (W : World), XAt W.heap.size W n y → XAt W.heap.size W n z → Calls Tryz.prog 47 #[.agg #[.int .i64 y.t.lab.kd, .int .u8 y.t.lab.v.k, .int .i64 y.t.lab.v.n, .string y.t.lab.v.s, .string y.t.lab.tb, .string y.t.lab.nm, .string y.t.lab.op, .slice y.a y.t.args.length y.cap], .agg #[.int .i64 z.t.lab.kd, .int .u8 z.t.lab.v.k, .int .i64 z.t.lab.v.n, .string z.t.lab.v.s, .string z.t.lab.tb, .string z.t.lab.nm, .string z.t.lab.op, .slice z.a z.t.args.length z.cap], .int .i64 (l : Int)] W fun e w' => e = .returned (.bool (sameX l y.t z.t)) ∧ Below W.heap.size W w'

theorem same_clo (n l : Nat) (hl : l ≤ 1000) (IH : SameIs n l) (y z : XM) (g : Nat) (W : World) (hy : XAt W.heap.size W n y) (hz : XAt W.heap.size W n z) (hg : W.cell? ⟨g, 0, none⟩ = some (.int .i64 ((l + 1 : Nat) : Int))) :
    Calls Tryz.prog 87 #[.agg #[.int .i64 y.t.lab.kd, .int .u8 y.t.lab.v.k, .int .i64 y.t.lab.v.n, .string y.t.lab.v.s, .string y.t.lab.tb, .string y.t.lab.nm, .string y.t.lab.op, .slice y.a y.t.args.length y.cap], .agg #[.int .i64 z.t.lab.kd, .int .u8 z.t.lab.v.k, .int .i64 z.t.lab.v.n, .string z.t.lab.v.s, .string z.t.lab.tb, .string z.t.lab.nm, .string z.t.lab.op, .slice z.a z.t.args.length z.cap], .pointer (some ⟨g, 0, none⟩)] W fun e w' => e = .returned (.bool (sameX l y.t z.t)) ∧ Below W.heap.size W w' := by
  have HD := Lib.hid (fun V (hb : Below W.heap.size W V) => IH y z V (hy.later hb) (hz.later hb))
  obtain ⟨w0, hw0⟩ : ∃ w0, W.alloc (.cells #[.int .i64 y.t.lab.kd, .int .u8 y.t.lab.v.k, .int .i64 y.t.lab.v.n, .string y.t.lab.v.s, .string y.t.lab.tb, .string y.t.lab.nm, .string y.t.lab.op, .slice y.a y.t.args.length y.cap] 45) = w0 := ⟨_, rfl⟩
  obtain ⟨w1, hw1⟩ : ∃ w1, w0.alloc (.cells #[.int .i64 z.t.lab.kd, .int .u8 z.t.lab.v.k, .int .i64 z.t.lab.v.n, .string z.t.lab.v.s, .string z.t.lab.tb, .string z.t.lab.nm, .string z.t.lab.op, .slice z.a z.t.args.length z.cap] 45) = w1 := ⟨_, rfl⟩
  have hb0 : Below W.heap.size W w0 := by rw [← hw0]; exact (Below.refl _ W).alloc (Nat.le_refl _) _
  have hb1 : Below w0.heap.size w0 w1 := by rw [← hw1]; exact (Below.refl _ w0).alloc (Nat.le_refl _) _
  have hs0 : w0.heap.size = W.heap.size + 1 := by rw [← hw0]; simp
  have hY : Slot8 w0 W.heap.size (.int .i64 y.t.lab.kd) (.int .u8 y.t.lab.v.k) (.int .i64 y.t.lab.v.n) (.string y.t.lab.v.s) (.string y.t.lab.tb) (.string y.t.lab.nm) (.string y.t.lab.op) (.slice y.a y.t.args.length y.cap) := by rw [← hw0]; exact Slot8.new W 45 _ _ _ _ _ _ _ _
  have hZ : Slot8 w1 w0.heap.size (.int .i64 z.t.lab.kd) (.int .u8 z.t.lab.v.k) (.int .i64 z.t.lab.v.n) (.string z.t.lab.v.s) (.string z.t.lab.tb) (.string z.t.lab.nm) (.string z.t.lab.op) (.slice z.a z.t.args.length z.cap) := by rw [← hw1]; exact Slot8.new w0 45 _ _ _ _ _ _ _ _
  have hglt := World.block_lt_of_cell? _ _ hg
  have HB1 := Lib.hid (hb0.trans (hb1.mono hb0.size))
  have hg1 : w1.cell? ⟨g, 0, none⟩ = some (.int .i64 ((l + 1 : Nat) : Int)) := (HB1.out.cell (p := ⟨g, 0, none⟩) hglt).trans hg
  have hq1 : IntKind.i64.wrap (((l + 1 : Nat) : Int) - 1) = (l : Int) := by rw [show ((l + 1 : Nat) : Int) - 1 = (l : Int) by omega]; exact IntWalk.i64_in _ (by omega)
  generalize sameX l y.t z.t = d at *
  generalize hQ : ((l + 1 : Nat) : Int) = Q at *
  obtain ⟨y0, y1, y2, y3, y4, y5, y6, y7⟩ := hY.later (N := w0.heap.size) (by omega) hb1
  obtain ⟨z0, z1, z2, z3, z4, z5, z6, z7⟩ := hZ
  clear hy hz IH hb0 hb1 hs0 hg hglt hY
  go_enter Tryz.func87, Tryz.ntmps87
  go_wp2_with fail
  refine (HD.out _ HB1.out).mono ?_
  rintro e w2 ⟨rfl, hb2⟩
  have HB2 := Lib.hid (HB1.out.trans (hb2.mono HB1.out.size))
  clear hb2 y0 y1 y2 y3 y4 y5 y6 y7 z0 z1 z2 z3 z4 z5 z6 z7 hg1
  go_wp2
  go_ret
  exact ⟨rfl, HB2.out⟩

set_option maxHeartbeats 2000000 in
theorem same_eqf (n l : Nat) (hl : l ≤ 1000) (IH : SameIs n l) (t u : Ex) (a b : Option Addr) (cap cup : Nat) (g : Nat) (w : World) (h : XAt w.heap.size w (n + 1) ⟨t, a, cap⟩) (k : XAt w.heap.size w (n + 1) ⟨u, b, cup⟩) (hg : w.cell? ⟨g, 0, none⟩ = some (.int .i64 ((l + 1 : Nat) : Int))) :
    Calls Tryz.prog 86 #[.slice a t.args.length cap, .slice b u.args.length cup, .func (.func 87) #[] #[.pointer (some ⟨g, 0, none⟩)]] w fun e w' => e = .returned (.bool (listSame (sameX l) t.args u.args)) ∧ Below w.heap.size w w' := by
  have HA := Lib.hid h
  have HK := Lib.hid k
  have hlen := h.fair.2.1
  have hcap := h.fair.2.2
  have klen := k.fair.2.1
  have kcap := k.fair.2.2
  simp only at hlen hcap klen kcap
  have HCl := Lib.hid (fun y z V (hb : Below w.heap.size w V) hy hz => same_clo n l hl IH y z g V hy hz ((hb.cell (p := ⟨g, 0, none⟩) (World.block_lt_of_cell? _ _ hg)).trans hg))
  obtain ⟨r, hr⟩ : ∃ r, listSame (sameX l) t.args u.args = r := ⟨_, rfl⟩
  rw [hr]
  have HR := Lib.hid hr
  obtain ⟨m, hm⟩ : ∃ m, t.args.length = m := ⟨_, rfl⟩
  obtain ⟨q, hq⟩ : ∃ q, u.args.length = q := ⟨_, rfl⟩
  rw [hm] at hlen ⊢
  rw [hq] at klen ⊢
  have HM := Lib.hid hm
  have HQ := Lib.hid hq
  clear h k hm hq hg IH hr
  by_cases hmq : m = q
  rotate_left
  · have q0 : ((m : Int) != (q : Int)) = true := by simp; omega
    have hrf : r = false := by
      rw [← HR.out, Bool.eq_false_iff]
      intro ht
      have := ((listSame_iff _ _).1 ht).1
      rw [HM.out, HQ.out] at this; exact hmq this
    subst hrf
    go_enter Tryz.func86, Tryz.ntmps86
    go_wp2
    go_ret
    exact ⟨rfl, Below.refl _ _⟩
  subst hmq
  go_enter Tryz.func86, Tryz.ntmps86
  go_wp2
  go_loopw [17] (fun i wr => ∃ k : Nat, k ≤ m ∧ i = .int .i64 k ∧ Hid (listSame (sameX l) (t.args.take k) (u.args.take k) = true) ∧ Hid (Below w.heap.size w wr)) (fun i _ => m - (intOf i).toNat)
  case atStart => exact ⟨0, by omega, rfl, by simp [Hid, listSame], Below.refl _ _⟩
  case round =>
    obtain ⟨k, hk, rfl, HI, HBr⟩ := hrel
    by_cases hlt : k < m
    · have hkl : k < t.args.length := by rw [HM.out]; exact hlt
      have hku : k < u.args.length := by rw [HQ.out]; exact hlt
      obtain ⟨y, hy, hAy, b1, o1, hab, hbN, hKid⟩ := (HA.out.later HBr.out).kid8 (k := k) hkl
      obtain ⟨z, hz, hAz, b2, o2, hab2, hbN2, hKid2⟩ := (HK.out.later HBr.out).kid8 (k := k) hku
      simp only at hab hy hab2 hz
      subst hab hab2
      have HTk : Hid (listSame (sameX l) (t.args.take (k + 1)) (u.args.take (k + 1)) = sameX l y.t z.t) := by
        rw [listSame_take (by rw [HM.out, HQ.out]) hkl, HI.out, ← hy, ← hz]; simp [Hid]
      have HTf : Hid (sameX l y.t z.t = false → r = false) := fun hf => by
        rw [← HR.out]; exact listSame_false hkl hku (by rw [← hy, ← hz]; exact hf)
      obtain ⟨w1, hw1⟩ : ∃ w1, wr.alloc (.cells #[.int .i64 y.t.lab.kd, .int .u8 y.t.lab.v.k, .int .i64 y.t.lab.v.n, .string y.t.lab.v.s, .string y.t.lab.tb, .string y.t.lab.nm, .string y.t.lab.op, .slice y.a y.t.args.length y.cap] 45) = w1 := ⟨_, rfl⟩
      have hb1 : Below wr.heap.size wr w1 := by rw [← hw1]; exact (Below.refl _ wr).alloc (Nat.le_refl _) _
      have hY : Slot8 w1 wr.heap.size (.int .i64 y.t.lab.kd) (.int .u8 y.t.lab.v.k) (.int .i64 y.t.lab.v.n) (.string y.t.lab.v.s) (.string y.t.lab.tb) (.string y.t.lab.nm) (.string y.t.lab.op) (.slice y.a y.t.args.length y.cap) := by rw [← hw1]; exact Slot8.new wr 45 _ _ _ _ _ _ _ _
      have hs1 : w1.heap.size = wr.heap.size + 1 := by rw [← hw1]; simp
      obtain ⟨w2, hw2⟩ : ∃ w2, w1.alloc (.cells #[.int .i64 z.t.lab.kd, .int .u8 z.t.lab.v.k, .int .i64 z.t.lab.v.n, .string z.t.lab.v.s, .string z.t.lab.tb, .string z.t.lab.nm, .string z.t.lab.op, .slice z.a z.t.args.length z.cap] 45) = w2 := ⟨_, rfl⟩
      have hb2 : Below w1.heap.size w1 w2 := by rw [← hw2]; exact (Below.refl _ w1).alloc (Nat.le_refl _) _
      have HB2 := Lib.hid (hb1.trans (hb2.mono hb1.size))
      have HY := Lib.hid (HCl.out y z w2 (HBr.out.trans (HB2.out.mono HBr.out.size)) (hAy.later HB2.out) (hAz.later HB2.out))
      have hkd := hKid.c0
      obtain ⟨y0, y1, y2, y3, y4, y5, y6, y7⟩ := hKid
      obtain ⟨v0, v1, v2, v3, v4, v5, v6, v7⟩ := KidAt.later (N := wr.heap.size) hKid2 hbN2 hb1
      obtain ⟨s0, s1, s2, s3, s4, s5, s6, s7⟩ := hY.later (N := w1.heap.size) (by omega) hb2
      have hZ : Slot8 w2 w1.heap.size (.int .i64 z.t.lab.kd) (.int .u8 z.t.lab.v.k) (.int .i64 z.t.lab.v.n) (.string z.t.lab.v.s) (.string z.t.lab.tb) (.string z.t.lab.nm) (.string z.t.lab.op) (.slice z.a z.t.args.length z.cap) := by rw [← hw2]; exact Slot8.new w1 45 _ _ _ _ _ _ _ _
      obtain ⟨p0, p1, p2, p3, p4, p5, p6, p7⟩ := hZ
      generalize sameX l y.t z.t = d at *
      clear hy hAy hz hAz HA HK hkl hku HI HCl hbN hbN2 hKid2 hb1 hb2 hY hs1 hkd
      go_wp2_with fail
      refine (HY.out).mono ?_
      rintro e w3 ⟨rfl, hb3⟩
      have HB3 := Lib.hid (HBr.out.trans ((HB2.out.trans (hb3.mono HB2.out.size)).mono HBr.out.size))
      clear hb3 HY y0 y1 y2 y3 y4 y5 y6 y7 v0 v1 v2 v3 v4 v5 v6 v7 s0 s1 s2 s3 s4 s5 s6 s7 p0 p1 p2 p3 p4 p5 p6 p7
      cases d
      · have hrf := HTf.out rfl
        subst hrf
        go_wp2
        go_ret
        exact ⟨rfl, HB3.out⟩
      · go_wp2
        go_roundw
        case rel => exact ⟨k + 1, by omega, by go_num, HTk.out, HB3.out⟩
        case measure => simp [intOf]; omega
    · have q0 : decide (k < m) = false := by simpa using hlt
      have hrt : r = true := by
        have h1 := HI.out
        rw [show k = m by omega, List.take_of_length_le (by rw [HM.out]; omega), List.take_of_length_le (by rw [HQ.out]; omega), HR.out] at h1
        exact h1
      subst hrt
      go_wp2
      go_ret
      exact ⟨rfl, HBr.out⟩

theorem eqV20 (v v' : Vl) (q : Bool) (hq : decide (v = v') = q) (w : World) : (Op.equalIn 10000 42 (.agg #[.int .u8 v.k, .int .i64 v.n, .string v.s]) (.agg #[.int .u8 v'.k, .int .i64 v'.n, .string v'.s])).run Tryz.prog w = .ok q w := by
  have hS : Tryz.prog.underlying 42 = some (.struct (Tryz.prog.fieldsOf 42)) := by kernel_rfl
  have hp : Tryz.prog.stoodInHeld 42 = false := by kernel_rfl
  rw [show (10000 : Nat) = 9999 + 1 from rfl, run_equalIn_agg w 9999 42 _ _ hS hp]
  simp only [Program.fieldsOf, Tryz.underlying42]
  go_simp
  subst hq
  obtain ⟨k, n, s⟩ := v
  obtain ⟨k', n', s'⟩ := v'
  by_cases h1 : k = k' <;> by_cases h2 : n = n' <;> by_cases h3 : s = s' <;> simp [h1, h2, h3, toList_ne] <;> omega
@[go_sem] theorem eqGuardV20 : Tryz.prog.eqGuardType Tryz.prog.depth 42 = false := by kernel_rfl
theorem sameX_eq (l : Nat) (t u : Ex) : sameX (l + 1) t u = ((t.lab.kd == u.lab.kd) && (decide (t.lab.v = u.lab.v) && ((t.lab.tb.toList == u.lab.tb.toList) && ((t.lab.nm.toList == u.lab.nm.toList) && ((t.lab.op.toList == u.lab.op.toList) && listSame (sameX l) t.args u.args))))) := by
  rw [sameX]
  obtain ⟨⟨kd, v, tb, nm, op⟩, r⟩ := t
  obtain ⟨⟨kd', v', tb', nm', op'⟩, r'⟩ := u
  simp only [Rose.lab, Rose.args]
  by_cases h1 : kd = kd' <;> by_cases h2 : v = v' <;> by_cases h3 : tb = tb' <;> by_cases h4 : nm = nm' <;> by_cases h5 : op = op' <;> simp [h1, h2, h3, h4, h5, toList_ne]

set_option maxHeartbeats 4000000 in
theorem same_is : ∀ n l, l ≤ 1000 → SameIs n l
  | 0, _, _ => fun _ _ _ h => h.elim
  | n + 1, 0, _ => fun y z w hy hz => by
    rw [show sameX 0 y.t z.t = false from rfl]
    clear hy hz
    go_enter Tryz.func47, Tryz.ntmps47
    go_wp2
    go_ret
    exact ⟨rfl, (((Below.refl _ w).alloc (Nat.le_refl _) _).alloc (by simp <;> omega) _).alloc (by simp <;> omega) _⟩
  | n + 1, l + 1, hl => fun y z w hy hz => by
    have IH := same_is n l (by omega)
    obtain ⟨t, a, cap⟩ := y
    obtain ⟨u, b, cup⟩ := z
    have HE := Lib.hid (fun W g (hb : Below w.heap.size w W) hg => same_eqf n l (by omega) IH t u a b cap cup g W (hy.later hb) (hz.later hb) hg)
    simp only
    rw [sameX_eq]
    clear hy hz IH
    obtain ⟨w0, hw0⟩ : ∃ w0, w.alloc (.cells #[.int .i64 t.lab.kd, .int .u8 t.lab.v.k, .int .i64 t.lab.v.n, .string t.lab.v.s, .string t.lab.tb, .string t.lab.nm, .string t.lab.op, .slice a t.args.length cap] 45) = w0 := ⟨_, rfl⟩
    obtain ⟨w1, hw1⟩ : ∃ w1, w0.alloc (.cells #[.int .i64 u.lab.kd, .int .u8 u.lab.v.k, .int .i64 u.lab.v.n, .string u.lab.v.s, .string u.lab.tb, .string u.lab.nm, .string u.lab.op, .slice b u.args.length cup] 45) = w1 := ⟨_, rfl⟩
    have hb0 : Below w.heap.size w w0 := by rw [← hw0]; exact (Below.refl _ w).alloc (Nat.le_refl _) _
    have hb1 : Below w0.heap.size w0 w1 := by rw [← hw1]; exact (Below.refl _ w0).alloc (Nat.le_refl _) _
    have hY : Slot8 w0 w.heap.size (.int .i64 t.lab.kd) (.int .u8 t.lab.v.k) (.int .i64 t.lab.v.n) (.string t.lab.v.s) (.string t.lab.tb) (.string t.lab.nm) (.string t.lab.op) (.slice a t.args.length cap) := by rw [← hw0]; exact Slot8.new w 45 _ _ _ _ _ _ _ _
    have hZ : Slot8 w1 w0.heap.size (.int .i64 u.lab.kd) (.int .u8 u.lab.v.k) (.int .i64 u.lab.v.n) (.string u.lab.v.s) (.string u.lab.tb) (.string u.lab.nm) (.string u.lab.op) (.slice b u.args.length cup) := by rw [← hw1]; exact Slot8.new w0 45 _ _ _ _ _ _ _ _
    have hs0 : w0.heap.size = w.heap.size + 1 := by rw [← hw0]; simp
    have hs1 : w1.heap.size = w0.heap.size + 1 := by rw [← hw1]; simp
    obtain ⟨w2, hw2⟩ : ∃ w2, w1.alloc (.cells #[.int .i64 ((l + 1 : Nat) : Int)] 3) = w2 := ⟨_, rfl⟩
    have hb2 : Below w1.heap.size w1 w2 := by rw [← hw2]; exact (Below.refl _ w1).alloc (Nat.le_refl _) _
    have hg : w2.cell? ⟨w1.heap.size, 0, none⟩ = some (.int .i64 ((l + 1 : Nat) : Int)) := by rw [← hw2]; simp
    have HB2 := Lib.hid ((hb0.trans (hb1.mono hb0.size)).trans (hb2.mono (by omega)))
    have HC := Lib.hid (HE.out w2 w1.heap.size HB2.out hg)
    obtain ⟨y0, y1, y2, y3, y4, y5, y6, y7⟩ := (hY.later (N := w0.heap.size) (by omega) hb1).later (N := w1.heap.size) (by omega) hb2
    obtain ⟨z0, z1, z2, z3, z4, z5, z6, z7⟩ := hZ.later (N := w1.heap.size) (by omega) hb2
    clear hb0 hb1 hb2 hY hZ HE hs0 hs1
    have hl0 : (((l + 1 : Nat) : Int) == 0) = false := by simp; omega
    generalize hQ : ((l + 1 : Nat) : Int) = Q at *
    clear hQ
    obtain ⟨q0, hq0⟩ : ∃ q, (t.lab.kd == u.lab.kd) = q := ⟨_, rfl⟩
    obtain ⟨qv, hqv⟩ : ∃ q, decide (t.lab.v = u.lab.v) = q := ⟨_, rfl⟩
    obtain ⟨q2, hq2⟩ : ∃ q, (t.lab.tb.toList == u.lab.tb.toList) = q := ⟨_, rfl⟩
    obtain ⟨q3, hq3⟩ : ∃ q, (t.lab.nm.toList == u.lab.nm.toList) = q := ⟨_, rfl⟩
    obtain ⟨q4, hq4⟩ : ∃ q, (t.lab.op.toList == u.lab.op.toList) = q := ⟨_, rfl⟩
    have hE := eqV20 _ _ _ hqv
    have hn0 : (t.lab.kd != u.lab.kd) = !q0 := by rw [← hq0]; rfl
    have hn2 : (t.lab.tb.toList != u.lab.tb.toList) = !q2 := by rw [← hq2]; rfl
    have hn3 : (t.lab.nm.toList != u.lab.nm.toList) = !q3 := by rw [← hq3]; rfl
    have hn4 : (t.lab.op.toList != u.lab.op.toList) = !q4 := by rw [← hq4]; rfl
    rw [hq0, hqv, hq2, hq3, hq4]
    clear hqv
    generalize listSame (sameX l) t.args u.args = d at *
    go_enter Tryz.func47, Tryz.ntmps47
    cases q0
    · go_wp2
      go_ret
      exact ⟨rfl, HB2.out⟩
    cases qv
    · go_wp2
      go_ret
      exact ⟨rfl, HB2.out⟩
    cases q2
    · go_wp2
      go_ret
      exact ⟨rfl, HB2.out⟩
    cases q3
    · go_wp2
      go_ret
      exact ⟨rfl, HB2.out⟩
    cases q4
    · go_wp2
      go_ret
      exact ⟨rfl, HB2.out⟩
    go_wp2_with fail
    refine (HC.out).mono ?_
    rintro e w3 ⟨rfl, hb3⟩
    have HB3 := Lib.hid (HB2.out.trans (hb3.mono HB2.out.size))
    clear hb3
    go_wp2
    go_ret
    exact ⟨rfl, HB3.out⟩
theorem Same_any20 (n : Nat) (y z : XM) (w : World) (hy : XAt w.heap.size w n y) (hz : XAt w.heap.size w n z) :
    Calls Tryz.prog 25 #[y.v, z.v] w fun e w' => e = .returned (.bool (sameX 20 y.t z.t)) ∧ Below w.heap.size w w' := by
  have HS := Lib.hid (fun W (hb : Below w.heap.size w W) => same_is n 20 (by omega) y z W (hy.later hb) (hz.later hb))
  rw [XM.v_eq, XM.v_eq]
  generalize sameX 20 y.t z.t = d at *
  clear hy hz
  obtain ⟨w0, hw0⟩ : ∃ w0, w.alloc (.cells #[.int .i64 y.t.lab.kd, .int .u8 y.t.lab.v.k, .int .i64 y.t.lab.v.n, .string y.t.lab.v.s, .string y.t.lab.tb, .string y.t.lab.nm, .string y.t.lab.op, .slice y.a y.t.args.length y.cap] 45) = w0 := ⟨_, rfl⟩
  obtain ⟨w1, hw1⟩ : ∃ w1, w0.alloc (.cells #[.int .i64 z.t.lab.kd, .int .u8 z.t.lab.v.k, .int .i64 z.t.lab.v.n, .string z.t.lab.v.s, .string z.t.lab.tb, .string z.t.lab.nm, .string z.t.lab.op, .slice z.a z.t.args.length z.cap] 45) = w1 := ⟨_, rfl⟩
  have hb0 : Below w.heap.size w w0 := by rw [← hw0]; exact (Below.refl _ w).alloc (Nat.le_refl _) _
  have hb1 : Below w0.heap.size w0 w1 := by rw [← hw1]; exact (Below.refl _ w0).alloc (Nat.le_refl _) _
  have hs0 : w0.heap.size = w.heap.size + 1 := by rw [← hw0]; simp
  have hY : Slot8 w0 w.heap.size (.int .i64 y.t.lab.kd) (.int .u8 y.t.lab.v.k) (.int .i64 y.t.lab.v.n) (.string y.t.lab.v.s) (.string y.t.lab.tb) (.string y.t.lab.nm) (.string y.t.lab.op) (.slice y.a y.t.args.length y.cap) := by rw [← hw0]; exact Slot8.new w 45 _ _ _ _ _ _ _ _
  have hZ : Slot8 w1 w0.heap.size (.int .i64 z.t.lab.kd) (.int .u8 z.t.lab.v.k) (.int .i64 z.t.lab.v.n) (.string z.t.lab.v.s) (.string z.t.lab.tb) (.string z.t.lab.nm) (.string z.t.lab.op) (.slice z.a z.t.args.length z.cap) := by rw [← hw1]; exact Slot8.new w0 45 _ _ _ _ _ _ _ _
  obtain ⟨y0, y1, y2, y3, y4, y5, y6, y7⟩ := hY.later (N := w0.heap.size) (by omega) hb1
  obtain ⟨z0, z1, z2, z3, z4, z5, z6, z7⟩ := hZ
  have HB1 := Lib.hid (hb0.trans (hb1.mono hb0.size))
  clear hb0 hb1 hs0 hY
  go_enter Tryz.func25, Tryz.ntmps25
  go_wp2_with fail
  refine (HS.out _ HB1.out).mono ?_
  rintro e w2 ⟨rfl, hb2⟩
  have HB2 := Lib.hid (HB1.out.trans (hb2.mono HB1.out.size))
  clear hb2
  go_wp2
  go_ret
  exact ⟨rfl, HB2.out⟩
end Go.Proofs.YtbnddpicpomakaaGreatDoor

/- Rows that grow: where the new one lies; trees that lie in blocks of a kind. -/
set_option linter.unusedSimpArgs false
set_option linter.unusedVariables false
set_option maxRecDepth 100000
namespace Go.Proofs.YtbnddpicpomakaaGreatDoor
open Go.RowKit

section
variable {P : Program}
/-- A row that has grown lies where it lay, or in a new block. -/
theorem append_fresh (w : World) (base : Nat) (t ty e : TypeId) (i : TypeInfo) (z : Value) (size bytes : Nat) (ht : P.underlying t = some (.slice e)) (hi : P.info? e = some i) (hz : i.zero = some z)
    (hsize : i.size = size) (hby : i.bytes = bytes) (hzs : z.cells.size = size) (hsz : 0 < size)
    (v : Value) (n : Nat) (xs : List Value) (hown : w.ownsRow base e size v n xs)
    (a : Addr) (m c : Nat) (news : List Value) (hl : news.length = m * size) (hnews : ∀ j u, news[j]? = some u → w.cell? (a.add j) = some u) (h1 : ∀ u ∈ news, u.oneCell' = true)
    (h63 : n + m ≤ maxLen) (hbytes : (n + m) * bytes ≤ 140737488355328) (v' : Value) (w' : World) (hr : (Builtin.append_ #[t, t] ty #[v, .slice (some a) m c]).run P w = .ok v' w') :
    v'.ownBlock = v.ownBlock ∨ ∀ g, v'.ownBlock = some g → w.heap.size ≤ g := by
  have hsmall : n + m ≤ 9223372036854775807 := by simp only [maxLen] at h63; omega
  rcases hown.2 with ⟨rfl, rfl⟩ | ⟨g, cap, cur, rfl, hbg, hg, hnc, hcm, hcs, htake⟩
  · right
    have h0 : w.ownsRow w.heap.size e size (.slice none 0 0) 0 xs := ⟨hown.1, .inl ⟨rfl, rfl⟩⟩
    obtain ⟨v2, w2, hr2, h2, _, _⟩ := run_append_own (P := P) w w.heap.size t ty e i z size bytes ht hi hz hsize hby hzs hsz _ 0 xs h0 a m c news hl hnews h1 h63 hbytes (Nat.le_refl _)
    rw [hr] at hr2
    injection hr2 with e1 e2
    subst e1 e2
    exact fun g hg => (h2.lt g hg).1
  · subst hsize
    by_cases hroom : n + m ≤ cap
    · left
      have hr2 := run_append_room (P := P) w t ty e i ht hi g n cap cur hg a m c news hl hnews h1 hroom (by rw [hl, hcs, ← Nat.add_mul]; exact Nat.mul_le_mul_right _ hroom)
      rw [hr] at hr2
      injection hr2 with e1 e2
      rw [e1]; rfl
    · right
      have holds : ∀ j u, xs[j]? = some u → w.cell? ((⟨g, 0, none⟩ : Addr).add j) = some u := hown.cells (g := g) rfl
      have hr2 := run_append_grow (P := P) w t ty e i z ht hi hz ⟨g, 0, none⟩ n cap xs hown.1 holds a m c news hl hnews (by omega) (by omega) (growslice_fits (by omega) (by rw [hby]; exact hbytes))
      rw [hr] at hr2
      injection hr2 with e1 e2
      rw [e1]
      intro g' hg'
      simp [Value.ownBlock] at hg'
      omega

/-- 'append(s, x..)', m values just laid in a block of their own: one operation; where the row lies behind it. -/
theorem wp_appF {o : Oper} {a : Act} {K : Act → World → Prop} {Q : Exit → Act → World → Prop} (s x : Operand) (t : TypeId)
    (ho : o.op = .call { callee := .builtin .append, args := #[s, x], argTypes := #[t, t] })
    (base : Nat) (e : TypeId) (i : TypeInfo) (zr : Value) (z bytes m : Nat) (ht : P.underlying t = some (.slice e)) (hi : P.info? e = some i) (hz : i.zero = some zr) (hzs : zr.cells.size = z)
    (hsize : i.size = z) (hz0 : 0 < z) (hby : i.bytes = bytes) (hb1000 : bytes ≤ 1000)
    (v : Value) (n : Nat) (l news : List Value) (w : World) (hown : w.ownsRow base e z v n l) (hs : a.eval s = v) (cs : Array Value) (hcs : cs = news.toArray) (hl : news.length = m * z) (h1 : ∀ u ∈ news, u.oneCell' = true)
    (hx : a.eval x = .slice (some ⟨w.heap.size, 0, none⟩) m m) (hlen : n + m < 100000000000) (hbase : base ≤ w.heap.size)
    (h : ∀ v' w', w'.ownsRow base e z v' (n + m) (l ++ news) → Chg v.ownBlock.toList (w.alloc (.cells cs e)) w' → w.heap.size < w'.heap.size → (v'.ownBlock = v.ownBlock ∨ ∀ g, v'.ownBlock = some g → w.heap.size < g) → K (a.put o.dst v') w') :
    o.wp P a (w.alloc (.cells cs e)) K Q := by
  subst hcs
  have hnews : ∀ j u, news[j]? = some u → (w.alloc (.cells news.toArray e)).cell? ((⟨w.heap.size, 0, none⟩ : Addr).add j) = some u := by
    intro j u hj
    have e0 : (⟨w.heap.size, 0, none⟩ : Addr).add j = ⟨w.heap.size, j, none⟩ := by
      unfold Addr.add; split <;> simp_all
    rw [e0, World.cell?_alloc_at _ _ _ _ rfl]
    simpa using hj
  have h63 : n + m ≤ maxLen := by unfold maxLen; omega
  have hbs : (n + m) * bytes ≤ 140737488355328 := by
    have : (n + m) * bytes ≤ 100000000000 * 1000 := Nat.mul_le_mul (by omega) hb1000
    omega
  have ho2 := World.ownsRow.alloc hown (.cells news.toArray e)
  obtain ⟨v', w', hrun, h2, h3, _⟩ := run_append_own (P := P) (w.alloc (.cells news.toArray e)) base t o.type e i zr z bytes ht hi hz hsize hby hzs hz0 v n l ho2 ⟨w.heap.size, 0, none⟩ m m news hl hnews h1 h63 hbs (by simp; omega)
  have hfr := append_fresh (P := P) (w.alloc (.cells news.toArray e)) base t o.type e i zr z bytes ht hi hz hsize hby hzs hz0 v n l ho2 ⟨w.heap.size, 0, none⟩ m m news hl hnews h1 h63 hbs v' w' hrun
  unfold Oper.wp execOp
  simp only [ho, resolve, invoke, builtin, Sem.run_bind, Sem.run_pure, Result.andThen_ok, List.map_toArray, List.map_cons, List.map_nil, hs, hx, hrun]
  have hsz := h3.size
  refine h v' w' h2 ⟨h3.os, h3.tape, h3.output, h3.size, fun k hk hn => h3.block k hk (by intro he; apply hn; rw [Option.mem_toList]; exact he.symm)⟩ (by simp at hsz; omega) ?_
  rcases hfr with hfr | hfr
  · exact .inl hfr
  · exact .inr fun g hg => by have := hfr g hg; simp at this; omega
theorem wpList_appF {ops : Array Oper} {rest : List Oper} {o : Oper} {a : Act} {Q : Exit → Act → World → Prop} (hgd : o.guard = none) (s x : Operand) (t : TypeId)
    (ho : o.op = .call { callee := .builtin .append, args := #[s, x], argTypes := #[t, t] })
    (base : Nat) (e : TypeId) (i : TypeInfo) (zr : Value) (z bytes m : Nat) (ht : P.underlying t = some (.slice e)) (hi : P.info? e = some i) (hz : i.zero = some zr) (hzs : zr.cells.size = z)
    (hsize : i.size = z) (hz0 : 0 < z) (hby : i.bytes = bytes) (hb1000 : bytes ≤ 1000)
    (v : Value) (n : Nat) (l news : List Value) (w : World) (hown : w.ownsRow base e z v n l) (hs : a.eval s = v) (cs : Array Value) (hcs : cs = news.toArray) (hl : news.length = m * z) (h1 : ∀ u ∈ news, u.oneCell' = true)
    (hx : a.eval x = .slice (some ⟨w.heap.size, 0, none⟩) m m) (hlen : n + m < 100000000000) (hbase : base ≤ w.heap.size)
    (h : ∀ v' w', w'.ownsRow base e z v' (n + m) (l ++ news) → Chg v.ownBlock.toList (w.alloc (.cells cs e)) w' → w.heap.size < w'.heap.size → (v'.ownBlock = v.ownBlock ∨ ∀ g, v'.ownBlock = some g → w.heap.size < g) → wpList P ops Q rest (a.put o.dst v') w') :
    wpList P ops Q (o :: rest) a (w.alloc (.cells cs e)) :=
  wpList_plain hgd fun _ hK => wp_appF s x t ho base e i zr z bytes m ht hi hz hzs hsize hz0 hby hb1000 v n l news w hown hs cs hcs hl h1 hx hlen hbase fun v' w' h2 h3 h4 h5 => hK _ _ (h v' w' h2 h3 h4 h5)
end

/-- The address leads to the cells vs, in a block of which p holds. -/
def ArrIn (p : Nat → Prop) (w : World) (a : Option Addr) (vs : List Value) : Prop :=
  vs = [] ∨ ∃ b o, a = some ⟨b, o, none⟩ ∧ p b ∧ ∀ (i : Nat) (v : Value), vs[i]? = some v → w.cell? ⟨b, o + i, none⟩ = some v
theorem ArrIn.imp {p q : Nat → Prop} (h : ∀ b, p b → q b) {w : World} {a : Option Addr} {vs : List Value} (hA : ArrIn p w a vs) : ArrIn q w a vs := by
  rcases hA with h0 | ⟨b, o, ha, hp, hc⟩
  · exact .inl h0
  · exact .inr ⟨b, o, ha, h b hp, hc⟩
theorem ArrIn.keep {p : Nat → Prop} {w w' : World} (h : ∀ b, p b → w'.heap[b]? = w.heap[b]?) {a : Option Addr} {vs : List Value} (hA : ArrIn p w a vs) : ArrIn p w' a vs := by
  rcases hA with h0 | ⟨b, o, ha, hp, hc⟩
  · exact .inl h0
  · exact .inr ⟨b, o, ha, hp, fun i v hi => (World.cell?_of_block (w := w) (a := ⟨b, o + i, none⟩) (h b hp)).trans (hc i v hi)⟩
theorem ArrIn.arr {N : Nat} {w : World} {a : Option Addr} {vs : List Value} (h : ArrIn (· < N) w a vs) : Arr N w a vs := h

section
variable {α : Type} {F : α → Prop} {c : α → List Value}
/-- The tree lies in blocks of which p holds. -/
def RoseIn (F : α → Prop) (c : α → List Value) (p : Nat → Prop) (w : World) : Nat → RM α → Prop
  | 0, _ => False
  | n + 1, x => F x.t.lab ∧ x.t.args.length ≤ x.cap ∧ x.cap ≤ 9223372036854775807 ∧
      ∃ L : List (RM α), L.map (·.t) = x.t.args ∧ ArrIn p w x.a (cellsOf (cellsR c) L) ∧ ∀ y ∈ L, RoseIn F c p w n y
theorem RoseIn.imp {p q : Nat → Prop} (h : ∀ b, p b → q b) {w : World} : ∀ {n : Nat} {x : RM α}, RoseIn F c p w n x → RoseIn F c q w n x
  | 0, _, h0 => h0.elim
  | _ + 1, _, ⟨h1, h2, h3, L, h4, h5, h6⟩ => ⟨h1, h2, h3, L, h4, h5.imp h, fun y hy => RoseIn.imp h (h6 y hy)⟩
theorem RoseIn.keep {p : Nat → Prop} {w w' : World} (h : ∀ b, p b → w'.heap[b]? = w.heap[b]?) : ∀ {n : Nat} {x : RM α}, RoseIn F c p w n x → RoseIn F c p w' n x
  | 0, _, h0 => h0.elim
  | _ + 1, _, ⟨h1, h2, h3, L, h4, h5, h6⟩ => ⟨h1, h2, h3, L, h4, h5.keep h, fun y hy => RoseIn.keep h (h6 y hy)⟩
theorem RoseIn.at_ {N : Nat} {w : World} : ∀ {n : Nat} {x : RM α}, RoseIn F c (· < N) w n x → RoseAt F c N w n x
  | 0, _, h0 => h0.elim
  | _ + 1, _, ⟨h1, h2, h3, L, h4, h5, h6⟩ => ⟨h1, h2, h3, L, h4, h5, fun y hy => RoseIn.at_ (h6 y hy)⟩
theorem RoseIn.of_at {N : Nat} {w : World} : ∀ {n : Nat} {x : RM α}, RoseAt F c N w n x → RoseIn F c (· < N) w n x
  | 0, _, h0 => h0.elim
  | _ + 1, _, ⟨h1, h2, h3, L, h4, h5, h6⟩ => ⟨h1, h2, h3, L, h4, h5, fun y hy => RoseIn.of_at (h6 y hy)⟩
end
/-- An expression in blocks of which p holds. -/
def XIn (p : Nat → Prop) (w : World) (n : Nat) (x : XM) : Prop := RoseIn Lb.fair Lb.cells p w n x
theorem XIn.imp {p q : Nat → Prop} (h : ∀ b, p b → q b) {w : World} {n : Nat} {x : XM} (hx : XIn p w n x) : XIn q w n x := RoseIn.imp h hx
theorem XIn.keep {p : Nat → Prop} {w w' : World} (h : ∀ b, p b → w'.heap[b]? = w.heap[b]?) {n : Nat} {x : XM} (hx : XIn p w n x) : XIn p w' n x := RoseIn.keep h hx
theorem XIn.at_ {N : Nat} {w : World} {n : Nat} {x : XM} (hx : XIn (· < N) w n x) : XAt N w n x := RoseIn.at_ hx
end Go.Proofs.YtbnddpicpomakaaGreatDoor

/- Rows of the call's own: where they lie, what leaves them as they are. -/
set_option linter.unusedSimpArgs false
set_option linter.unusedVariables false
set_option maxRecDepth 100000
namespace Go.Proofs.YtbnddpicpomakaaGreatDoor
open Go.RowKit

theorem own_lt {w : World} {base : Nat} {e : TypeId} {size n : Nat} {v : Value} {xs : List Value} (h : w.ownsRow base e size v n xs) {g : Nat} (hg : v.ownBlock = some g) : g < w.heap.size := by
  rcases h.2 with ⟨rfl, _⟩ | ⟨g', cap, cur, rfl, _, hh, _⟩
  · simp [Value.ownBlock] at hg
  · have : g' = g := by simpa [Value.ownBlock] using hg
    subst this
    exact Blk.lt (t := e) hh
theorem own_keep {w w' : World} {base : Nat} {e : TypeId} {size n : Nat} {v : Value} {xs : List Value} (h : w.ownsRow base e size v n xs) (hk : ∀ g, v.ownBlock = some g → w'.heap[g]? = w.heap[g]?) : w'.ownsRow base e size v n xs := by
  refine ⟨h.1, ?_⟩
  rcases h.2 with h2 | ⟨g, cap, cur, hv, hg, hh, r⟩
  · exact .inl h2
  · exact .inr ⟨g, cap, cur, hv, hg, by rw [hk g (by rw [hv]; rfl)]; exact hh, r⟩
theorem own_chg {w w' : World} {base : Nat} {e : TypeId} {size n : Nat} {v : Value} {xs : List Value} {S : List Nat} (h : w.ownsRow base e size v n xs) (hc : Chg S w w') (hn : ∀ g, v.ownBlock = some g → g ∉ S) : w'.ownsRow base e size v n xs :=
  own_keep h fun g hg => hc.block g (own_lt h hg) (hn g hg)
theorem own_ne {w : World} {base : Nat} {e : TypeId} {size n : Nat} {v : Value} {xs : List Value} (h : w.ownsRow base e size v n xs) {g : Nat} {t : TypeId} {cs : Array Value} (hb : Blk w g t cs) (hne : e ≠ t) : v.ownBlock ≠ some g := by
  rcases h.2 with ⟨rfl, _⟩ | ⟨g', cap, cur, rfl, _, hh, _⟩
  · simp [Value.ownBlock]
  · intro he
    have : g' = g := by simpa [Value.ownBlock] using he
    subst this
    exact Blk.ne_ (t := e) hh hb hne rfl
end Go.Proofs.YtbnddpicpomakaaGreatDoor

/- A variable as a whole: handed back, stored. -/
set_option linter.unusedSimpArgs false
set_option linter.unusedVariables false
set_option maxRecDepth 100000
namespace Go.Proofs.YtbnddpicpomakaaGreatDoor
open Go.RowKit

/-- What a call hands back: a variable as a whole, and a temporary. -/
theorem results_cell_tmp {P : Program} {fn : Func} {p t : Tmp} {ty : TypeId} (h : fn.results = #[.cell p ty, .tmp t]) (tmps : Array Value) (w : World) {ad : Addr} {v u : Value}
    (hp : tmps.getD p undef = .pointer (some ad)) (ht : tmps.getD t undef = u) (hl : (loadVar ty ad).run P w = .ok v w) : (results fn tmps).run P w = .ok (.tuple #[v, u]) w := by
  have hp' : tmps[p]?.getD undef = .pointer (some ad) := by simpa using hp
  have ht' : tmps[t]?.getD undef = u := by simpa using ht
  simp [results, h, hp', ht', asAddr, hl]

theorem Blk.setRow {w : World} {b : Nat} {T : TypeId} {old new : Array Value} (h : Blk w b T old) : Blk (w.setRow b new) b T new := setRow_heap w b old new T _ h
theorem Chg.setRow {S : List Nat} {a w : World} (h : Chg S a w) {b : Nat} (hb : b ∈ S ∨ a.heap.size ≤ b) (cs : Array Value) : Chg S a (w.setRow b cs) :=
  ⟨h.os, h.tape, h.output, by rw [size_setRow]; exact h.size, fun k hk hn => by
    have hne : k ≠ b := fun e => by
      subst e
      rcases hb with hb | hb
      · exact hn hb
      · omega
    exact (setRow_other w b k cs hne).trans (h.block k hk hn)⟩
end Go.Proofs.YtbnddpicpomakaaGreatDoor

/- A row of expressions that grows, each with arguments of its own. -/
set_option linter.unusedSimpArgs false
set_option linter.unusedVariables false
set_option maxRecDepth 100000
namespace Go.Proofs.YtbnddpicpomakaaGreatDoor
open Go.RowKit

structure KidsIn (lo : Nat) (W : World) (T : TypeId) (n : Nat) (cv : Value) (L : List XM) : Prop where
  row : W.ownsRow lo T 8 cv L.length (cellsOf cellsX L)
  kid : ∀ y ∈ L, XIn (fun b => lo ≤ b ∧ b < W.heap.size ∧ cv.ownBlock ≠ some b) W n y
theorem KidsIn.nil (lo : Nat) (W : World) (T : TypeId) (n : Nat) : KidsIn lo W T n (.slice none 0 0) [] := ⟨World.ownsRow_nil _ _ _ _, fun y hy => by cases hy⟩

theorem KidsIn.keep {lo : Nat} {W W' : World} {T : TypeId} {n : Nat} {cv : Value} {L : List XM} (h : KidsIn lo W T n cv L) (hs : W.heap.size ≤ W'.heap.size) (hk : ∀ b, lo ≤ b → b < W.heap.size → W'.heap[b]? = W.heap[b]?) : KidsIn lo W' T n cv L := by
  refine ⟨own_keep h.row fun g hg => hk g (h.row.lt g hg).1 (own_lt h.row hg), fun y hy => ?_⟩
  exact ((h.kid y hy).keep (fun b hb => hk b hb.1 hb.2.1)).imp fun b hb => ⟨hb.1, by omega, hb.2.2⟩

theorem KidsIn.add {lo : Nat} {W w2 w5 : World} {T : TypeId} {n : Nat} {cv v5 : Value} {L : List XM} {y : XM} (h : KidsIn lo W T n cv L) (hs : W.heap.size ≤ w2.heap.size) (hk : ∀ b, lo ≤ b → b < W.heap.size → w2.heap[b]? = W.heap[b]?) (hlo : lo ≤ W.heap.size)
    (hy : XIn (fun b => W.heap.size ≤ b ∧ b < w2.heap.size) w2 n y) (hr : w5.ownsRow lo T 8 v5 (L.length + 1) (cellsOf cellsX L ++ cellsX y)) {o : Obj} (hc : Chg cv.ownBlock.toList (w2.alloc o) w5) (hf : v5.ownBlock = cv.ownBlock ∨ ∀ g, v5.ownBlock = some g → w2.heap.size < g) :
    KidsIn lo w5 T n v5 (L ++ [y]) := by
  have hsz := hc.size
  simp at hsz
  have hold : ∀ b, b < w2.heap.size → cv.ownBlock ≠ some b → w5.heap[b]? = w2.heap[b]? := fun b hb hn =>
    (hc.block b (by simp; omega) (by rw [Option.mem_toList]; exact hn)).trans (Below.heap_alloc w2 o b hb)
  have hown : ∀ g, cv.ownBlock = some g → g < W.heap.size := fun g hg => own_lt h.row hg
  refine ⟨by rw [List.length_append]; exact (cellsOf_snoc cellsX L y).symm ▸ hr, fun z hz => ?_⟩
  rcases List.mem_append.1 hz with hz | hz
  · have hz2 := h.kid z hz
    refine (hz2.keep (w' := w5) (fun b hb => (hold b (by omega) hb.2.2).trans (hk b hb.1 hb.2.1))).imp fun b hb => ⟨hb.1, by omega, ?_⟩
    rcases hf with hf | hf
    · rw [hf]; exact hb.2.2
    · intro hg; have := hf b hg; omega
  · rw [List.mem_singleton.1 hz]
    refine (hy.keep (w' := w5) (fun b hb => hold b hb.2 (fun hg => by have := hown b hg; omega))).imp fun b hb => ⟨by omega, by omega, ?_⟩
    rcases hf with hf | hf
    · rw [hf]; intro hg; have := hown b hg; omega
    · intro hg; have := hf b hg; omega

theorem KidsIn.tree {lo : Nat} {W : World} {T : TypeId} {n : Nat} {cv : Value} {L : List XM} (h : KidsIn lo W T n cv L) (l : Lb) (hl : l.fair) :
    ∃ ac cc, cv = .slice ac L.length cc ∧ XIn (fun b => lo ≤ b ∧ b < W.heap.size) W (n + 1) ⟨.mk l (L.map (·.t)), ac, cc⟩ := by
  obtain ⟨h1, h2⟩ := h.row
  rcases h2 with ⟨rfl, hn⟩ | ⟨g, cap, cur, rfl, hg, hh, hnc, hcm, hcs, hcur⟩
  · have hL : L = [] := List.length_eq_zero_iff.1 hn
    subst hL
    exact ⟨none, 0, rfl, hl, by simp [Rose.args], by simp, [], rfl, .inl rfl, fun y hy => by cases hy⟩
  · have hglt : g < W.heap.size := (Array.getElem?_eq_some_iff.1 hh).1
    refine ⟨_, cap, rfl, hl, by simpa [Rose.args] using hnc, by unfold maxLen at hcm; simp only; omega, L, rfl, .inr ⟨g, 0, rfl, ⟨hg, hglt⟩, fun i v hi => ?_⟩, fun y hy => (h.kid y hy).imp fun b hb => ⟨hb.1, hb.2.1⟩⟩
    have e1 : (cur.toList.take (L.length * 8))[i]? = some v := by rw [hcur]; exact hi
    rw [List.getElem?_take] at e1
    split at e1
    · simp only [World.cell?, hh, Nat.zero_add]
      simpa using e1
    · simp at e1

/-- What a call hands back: an expression in memory of its own. -/
def RetX (w : World) (n : Nat) (t : Ex) (e : Ending) (w' : World) : Prop :=
  ∃ y : XM, e = .returned (.agg #[.int .i64 y.t.lab.kd, .int .u8 y.t.lab.v.k, .int .i64 y.t.lab.v.n, .string y.t.lab.v.s, .string y.t.lab.tb, .string y.t.lab.nm, .string y.t.lab.op, .slice y.a y.t.args.length y.cap]) ∧ y.t = t ∧ XIn (fun b => w.heap.size ≤ b ∧ b < w'.heap.size) w' n y ∧ Below w.heap.size w w'

theorem info_ex : (Tryz.prog.info? 45).map (fun i => (i.zero, i.size, i.bytes)) = some (some (.agg #[.int .i64 0, .int .u8 0, .int .i64 0, .string ⟨#[]⟩, .string ⟨#[]⟩, .string ⟨#[]⟩, .string ⟨#[]⟩, .slice none 0 0]), 8, 112) := by kernel_rfl
theorem info_exS : (Tryz.prog.info? 45).map (·.size) = some 8 := by kernel_rfl
theorem results_cell1x {P : Program} {fn : Func} {p : Tmp} {ty : TypeId} (h : fn.results = #[.cell p ty]) (tmps : Array Value) (w : World) {ad : Addr} {v : Value}
    (hp : tmps.getD p undef = .pointer (some ad)) (hl : (loadVar ty ad).run P w = .ok v w) : (results fn tmps).run P w = .ok v w := by
  have hp' : tmps[p]?.getD undef = .pointer (some ad) := by simpa using hp
  simp [results, h, hp', asAddr, hl]
end Go.Proofs.YtbnddpicpomakaaGreatDoor

/- A region that draws its order, walked along a tree of orders: as Ord's, but where two operations may come up at once both ways are walked. -/
set_option linter.unusedSimpArgs false
set_option linter.unusedVariables false
set_option maxRecDepth 100000
namespace Go.Proofs.YtbnddpicpomakaaGreatDoor
open Go.RowKit

theorem undrewL {a w : World} (h : Later a.drew w) : Later a w := ⟨h.os, h.tape, h.output, h.size, h.block⟩

/-- A tree of orders. -/
inductive OT where
  | nil : OT
  | free : Nat → OT → OT
  | one : Nat → OT → OT
  | two : Nat → Nat → OT → OT → OT
  | three : Nat → Nat → Nat → OT → OT → OT → OT

section
variable {P : Program} {ops : Array Oper} {Q : Exit → Act → World → Prop} {md : Region.Mode}

def wpT (P : Program) (ops : Array Oper) (Q : Exit → Act → World → Prop) (L : World → World → Prop) : OT → Act → World → Prop
  | .nil, a, w => Q .normal a w
  | .free i r, a, w => ∃ o v, ops[i]? = some o ∧ YieldsIf P ops (L w) o v a ∧ wpT P ops Q L r (a.put o.dst v) w
  | .one i r, a, w => wpOp P ops Q i (fun a' w' => L w w' ∧ wpT P ops Q L r a' w') a w
  | .two i j r s, a, w => wpOp P ops Q i (fun a' w' => L w w' ∧ wpT P ops Q L r a' w') a w ∧ wpOp P ops Q j (fun a' w' => L w w' ∧ wpT P ops Q L s a' w') a w
  | .three i j k r s t, a, w => wpOp P ops Q i (fun a' w' => L w w' ∧ wpT P ops Q L r a' w') a w ∧ wpOp P ops Q j (fun a' w' => L w w' ∧ wpT P ops Q L s a' w') a w ∧ wpOp P ops Q k (fun a' w' => L w w' ∧ wpT P ops Q L t a' w') a w

def OT.high : OT → Nat
  | .nil => 0
  | .free _ r => r.high + 1
  | .one _ r => r.high + 1
  | .two _ _ r s => max r.high s.high + 1
  | .three _ _ _ r s t => max r.high (max s.high t.high) + 1

def checkT (md : Region.Mode) (ops : Array Oper) : OT → Array Bool → Bool
  | .nil, l => Region.ready md ops l == []
  | .free i r, l => Region.free md ops l i && (Region.ready md ops l).contains i && checkT md ops r (l.setIfInBounds i true)
  | .one i r, l => Region.ready md ops l == [i] && checkT md ops r (l.setIfInBounds i true)
  | .two i j r s, l => Region.ready md ops l == [i, j] && checkT md ops r (l.setIfInBounds i true) && checkT md ops s (l.setIfInBounds j true)
  | .three i j k r s t, l => Region.ready md ops l == [i, j, k] && checkT md ops r (l.setIfInBounds i true) && checkT md ops s (l.setIfInBounds j true) && checkT md ops t (l.setIfInBounds k true)

theorem wpT_sound {L : World → World → Prop} (Lr : ∀ w, L w w) (Lt : ∀ {a b c}, L a b → L b c → L a c) (hs : Region.noSelect ops = true) (hQ : ∀ c (a : Act) d v w, Q (.panic c) (a.put d v) w → Q (.panic c) a w) :
    ∀ (t : OT) (fuel : Nat) (listed : Array Bool) (a : Act) (w : World), t.high ≤ fuel → checkT md ops t listed = true → wpT P ops Q L t a w → wpAnyH P md ops Q (L w) fuel listed a w
  | .nil, fuel, listed, a, w, _, hc, h => wpAnyH_done (by simpa [checkT] using hc) h fuel
  | .free i r, fuel, listed, a, w, hf, hc, h => by
    obtain ⟨o, v, ho, hy, h⟩ := h
    simp only [checkT, Bool.and_eq_true] at hc
    cases fuel with
    | zero => simp [OT.high] at hf
    | succ fuel =>
      exact wpAnyH_take ho hs hc.1.1 hc.1.2 (fun c a w => hQ c a o.dst v w) hy (Lr w) (wpT_sound Lr Lt hs hQ r fuel _ _ w (by simpa [OT.high] using hf) hc.2 h)
  | .one i r, fuel, listed, a, w, hf, hc, h => by
    simp only [checkT, Bool.and_eq_true, beq_iff_eq] at hc
    cases fuel with
    | zero => simp [OT.high] at hf
    | succ fuel =>
      refine wpAnyH_all (rs := [i]) hc.1 (by simp) ?_
      intro j hj
      rw [List.mem_singleton.1 hj]
      exact wpOp_mono (fun a' w' h' => ⟨h'.1, wpAnyH_stronger (fun x hx => Lt h'.1 hx) fuel _ _ _ (wpT_sound Lr Lt hs hQ r fuel _ a' w' (by simpa [OT.high] using hf) hc.2 h'.2)⟩) h
  | .two i j r s, fuel, listed, a, w, hf, hc, h => by
    simp only [checkT, Bool.and_eq_true, beq_iff_eq] at hc
    cases fuel with
    | zero => simp [OT.high] at hf
    | succ fuel =>
      refine wpAnyH_all (rs := [i, j]) hc.1.1 (by simp) ?_
      have hf1 : r.high ≤ fuel ∧ s.high ≤ fuel := by simp [OT.high] at hf; omega
      intro k hk
      rcases List.mem_cons.1 hk with hk | hk
      · rw [hk]
        exact wpOp_mono (fun a' w' h' => ⟨h'.1, wpAnyH_stronger (fun x hx => Lt h'.1 hx) fuel _ _ _ (wpT_sound Lr Lt hs hQ r fuel _ a' w' hf1.1 hc.1.2 h'.2)⟩) h.1
      · rw [List.mem_singleton.1 hk]
        exact wpOp_mono (fun a' w' h' => ⟨h'.1, wpAnyH_stronger (fun x hx => Lt h'.1 hx) fuel _ _ _ (wpT_sound Lr Lt hs hQ s fuel _ a' w' hf1.2 hc.2 h'.2)⟩) h.2
  | .three i j k r s t, fuel, listed, a, w, hf, hc, h => by
    simp only [checkT, Bool.and_eq_true, beq_iff_eq] at hc
    cases fuel with
    | zero => simp [OT.high] at hf
    | succ fuel =>
      refine wpAnyH_all (rs := [i, j, k]) hc.1.1.1 (by simp) ?_
      have hf1 : r.high ≤ fuel ∧ s.high ≤ fuel ∧ t.high ≤ fuel := by simp [OT.high] at hf; omega
      intro x hx
      rcases List.mem_cons.1 hx with hx | hx
      · rw [hx]
        exact wpOp_mono (fun a' w' h' => ⟨h'.1, wpAnyH_stronger (fun x hx => Lt h'.1 hx) fuel _ _ _ (wpT_sound Lr Lt hs hQ r fuel _ a' w' hf1.1 hc.1.1.2 h'.2)⟩) h.1
      rcases List.mem_cons.1 hx with hx | hx
      · rw [hx]
        exact wpOp_mono (fun a' w' h' => ⟨h'.1, wpAnyH_stronger (fun x hx => Lt h'.1 hx) fuel _ _ _ (wpT_sound Lr Lt hs hQ s fuel _ a' w' hf1.2.1 hc.1.2 h'.2)⟩) h.2.1
      · rw [List.mem_singleton.1 hx]
        exact wpOp_mono (fun a' w' h' => ⟨h'.1, wpAnyH_stronger (fun x hx => Lt h'.1 hx) fuel _ _ _ (wpT_sound Lr Lt hs hQ t fuel _ a' w' hf1.2.2 hc.2 h'.2)⟩) h.2.2

/-- The beginning, where blocks S may be written. -/
theorem wp_region_tree {id : Nat} {a : Act} {w : World} (S : List Nat) (t : OT) (hm : P.follows .mixedOrders = true) (hs : Region.noSelect ops = true)
    (hl : decide (t.high ≤ ops.size) = true) (hc : checkT .any ops t (Array.replicate ops.size false) = true) (h : wpT P ops (NoPanic Q) (Chg S) t a w.drew) : (Code.region id ops true).wp P Q a w :=
  wp_region_noPanic (wp_region_held hm (wpT_sound (Chg.refl S) Chg.trans hs (NoPanic.put Q) t ops.size _ a w.drew (of_decide_eq_true hl) hc h))

variable {L : World → World → Prop}
theorem wpT_nil {a : Act} {w : World} (h : Q .normal a w) : wpT P ops (NoPanic Q) L .nil a w := h
theorem wpT_F {i : Nat} {r : OT} {a : Act} {w : World} {o : Oper} {v : Value} (ho : nth ops.toList i = some o) (hw : Region.wanted o (yielded ops a.tmps) = true)
    (hv : ∀ w', L w w' → (execOp a.eval o).run P w' = .ok (.value v) w') (h : wpT P ops Q L r (a.put o.dst v) w) : wpT P ops Q L (.free i r) a w :=
  ⟨o, v, nth_ops ho, .inl ⟨hw, hv⟩, h⟩
theorem wpT_G {i : Nat} {r : OT} {a : Act} {w : World} {o : Oper} (ho : nth ops.toList i = some o) (hw : Region.wanted o (yielded ops a.tmps) = false)
    (h : wpT P ops Q L r (a.put o.dst undef) w) : wpT P ops Q L (.free i r) a w :=
  ⟨o, undef, nth_ops ho, .inr ⟨hw, rfl⟩, h⟩
theorem wpT_skip (Lr : ∀ w, L w w) {i : Nat} {r : OT} {a : Act} {w : World} {o : Oper} (ho : nth ops.toList i = some o) (hw : Region.wanted o (yielded ops a.tmps) = false)
    (h : wpT P ops Q L r (a.put o.dst undef) w) : wpT P ops Q L (.one i r) a w := by
  show wpOp P ops Q i _ a w
  unfold wpOp
  simp only [nth_ops ho, hw]
  exact ⟨Lr w, h⟩
theorem wpT_C {i : Nat} {r : OT} {a : Act} {w : World} {o : Oper} (ho : nth ops.toList i = some o) (hw : Region.wanted o (yielded ops a.tmps) = true)
    (h : o.wp P a w (fun a' w' => L w w' ∧ wpT P ops Q L r a' w') Q) : wpT P ops Q L (.one i r) a w := by
  show wpOp P ops Q i _ a w
  unfold wpOp
  simp only [nth_ops ho, hw]
  exact .inl h
theorem wpT_two {i j : Nat} {r s : OT} {a : Act} {w : World} (h1 : wpT P ops Q L (.one i r) a w) (h2 : wpT P ops Q L (.one j s) a w) : wpT P ops Q L (.two i j r s) a w := ⟨h1, h2⟩
theorem wpT_three {i j k : Nat} {r s t : OT} {a : Act} {w : World} (h1 : wpT P ops Q L (.one i r) a w) (h2 : wpT P ops Q L (.one j s) a w) (h3 : wpT P ops Q L (.one k t) a w) : wpT P ops Q L (.three i j k r s t) a w := ⟨h1, h2, h3⟩
end
attribute [irreducible] wpT
end Go.Proofs.YtbnddpicpomakaaGreatDoor

/- A region that draws its order, walked along a tree of orders, at whose end come operations X, in any order, that may write what the others read. -/
set_option linter.unusedSimpArgs false
set_option linter.unusedVariables false
set_option maxRecDepth 100000
namespace Go.Proofs.YtbnddpicpomakaaGreatDoor
open Go.RowKit

/-- A tree of orders with a tail. -/
inductive OL where
  | nil : OL
  | free : Nat → OL → OL
  | one : Nat → OL → OL
  | two : Nat → Nat → OL → OL → OL
  | last : Nat → OL → OL
  | lasts : Nat → Nat → OL → OL → OL

section
variable {P : Program} {ops : Array Oper} {Q : Exit → Act → World → Prop} {md : Region.Mode}

/-- Whatever order is picked; S holds behind each operation but those of X. -/
def wpAnyL (P : Program) (md : Region.Mode) (ops : Array Oper) (Q : Exit → Act → World → Prop) (X : List Nat) (S : World → Prop) : Nat → Array Bool → Act → World → Prop
  | 0, l, a, w => Region.ready md ops l = [] ∧ Q .normal a w
  | n + 1, l, a, w => (Region.ready md ops l = [] → Q .normal a w) ∧
      ∀ i, i ∈ Region.ready md ops l → wpOp P ops Q i (fun a' w' => (i ∉ X → S w') ∧ wpAnyL P md ops Q X S n (l.setIfInBounds i true) a' w') a w

theorem wpAny_of_L {X : List Nat} {S : World → Prop} : ∀ (n : Nat) (l : Array Bool) (a : Act) (w : World), wpAnyL P md ops Q X S n l a w → wpAny P md ops Q n l a w
  | 0, _, _, _, h => h
  | n + 1, _, _, _, h => ⟨h.1, fun i hi => wpOp_mono (fun a' w' h' => wpAny_of_L n _ a' w' h'.2) (h.2 i hi)⟩

theorem wpAnyL_first {X : List Nat} {i : Nat} {S : World → Prop} {oi : Oper} {v : Value} (hi : ops[i]? = some oi) (hsel : ∀ (j : Nat) (o : Oper) cs b, ops[j]? = some o → o.op ≠ .select cs b)
    (hQ : ∀ c (a : Act) w, Q (.panic c) (a.put oi.dst v) w → Q (.panic c) a w) (m : Nat) (hxi : ∀ x ∈ X, waitsN md ops i m x = true) :
    ∀ (n : Nat) (l : Array Bool) (a : Act) (w : World), Closed md ops l →
      (∀ j oj, ops[j]? = some oj → j ≠ i → l.getD j true = false → (∀ e ∈ oj.after, Region.binds md e = true → e.on ≠ i) → oi.apart ops oj = true) →
      i ∈ Region.ready md ops l → YieldsIf P ops S oi v a → S w →
      wpAnyL P md ops Q X S n (l.setIfInBounds i true) (a.put oi.dst v) w → wpAnyL P md ops Q X S (n + 1) l a w
  | n, l, a, w, hcl, hfree, hr, hy, hS, H => by
    refine ⟨fun h => absurd hr (by rw [h]; simp), fun j hj => ?_⟩
    by_cases hji : j = i
    · subst hji
      exact hy.wpOp hi hS ⟨fun _ => hS, H⟩
    obtain ⟨hjun, oj, hoj, hall⟩ := mem_ready.1 hj
    have hun : ¬ l.getD i false = true := by
      intro h1
      have h0 := (mem_ready.1 hr).1
      by_cases hlt : i < l.size
      · simp [hlt] at h0 h1
        rw [h0] at h1
        cases h1
      · simp [Array.getElem?_eq_none (Nat.le_of_not_lt hlt)] at h1
    have hnot : ∀ e ∈ oj.after, Region.binds md e = true → e.on ≠ i := by
      intro e he hb heq
      have h1 := hall e he hb
      rw [heq] at h1
      exact hun h1
    have hjX : j ∉ X := fun hj => hun (hcl.waits m j oj hoj hall (hxi j hj))
    match n, H with
    | 0, H =>
      have := ready_mono hj hji
      rw [H.1] at this
      cases this
    | n + 1, H =>
      have h1 := H.2 j (ready_mono hj hji)
      have h2 := wpOp_putIf hoj (hfree j oj hoj hji hjun hnot) (fun cs b => hsel i oi cs b hi) (fun cs b => hsel j oj cs b hoj) hQ hy h1
      refine wpOp_mono (fun a' w' h3 => ⟨fun _ => h3.2.1 hjX, ?_⟩) h2
      refine wpAnyL_first hi hsel hQ m hxi n _ a' w' (hcl.set_ hj) ?_ (ready_mono hr (Ne.symm hji)) h3.1 (h3.2.1 hjX) ?_
      · intro k ok hk hki hun hno
        refine hfree k ok hk hki ?_ hno
        by_cases hjk : j = k
        · subst hjk; exact hjun
        · rw [getD_set_ne true hjk] at hun; exact hun
      · rw [Array.setIfInBounds_comm _ _ hji]
        exact h3.2.2

theorem wpAnyL_stronger {X : List Nat} {S S' : World → Prop} (hS : ∀ w, S' w → S w) : ∀ (n : Nat) (l : Array Bool) (a : Act) (w : World), wpAnyL P md ops Q X S' n l a w → wpAnyL P md ops Q X S n l a w
  | 0, _, _, _, h => h
  | n + 1, _, _, _, h => ⟨h.1, fun i hi => wpOp_mono (fun _ _ h' => ⟨fun hx => hS _ (h'.1 hx), wpAnyL_stronger hS n _ _ _ h'.2⟩) (h.2 i hi)⟩

def wpL (P : Program) (ops : Array Oper) (Q : Exit → Act → World → Prop) (L : World → World → Prop) : OL → Act → World → Prop
  | .nil, a, w => Q .normal a w
  | .free i r, a, w => ∃ o v, ops[i]? = some o ∧ YieldsIf P ops (L w) o v a ∧ wpL P ops Q L r (a.put o.dst v) w
  | .one i r, a, w => wpOp P ops Q i (fun a' w' => L w w' ∧ wpL P ops Q L r a' w') a w
  | .two i j r s, a, w => wpOp P ops Q i (fun a' w' => L w w' ∧ wpL P ops Q L r a' w') a w ∧ wpOp P ops Q j (fun a' w' => L w w' ∧ wpL P ops Q L s a' w') a w
  | .last i r, a, w => wpOp P ops Q i (fun a' w' => wpL P ops Q L r a' w') a w
  | .lasts i j r s, a, w => wpOp P ops Q i (fun a' w' => wpL P ops Q L r a' w') a w ∧ wpOp P ops Q j (fun a' w' => wpL P ops Q L s a' w') a w

def OL.high : OL → Nat
  | .nil => 0
  | .free _ r => r.high + 1
  | .one _ r => r.high + 1
  | .two _ _ r s => max r.high s.high + 1
  | .last _ r => r.high + 1
  | .lasts _ _ r s => max r.high s.high + 1

def OL.isTail : OL → Bool
  | .nil => true
  | .last _ r => r.isTail
  | .lasts _ _ r s => r.isTail && s.isTail
  | _ => false
def checkL (md : Region.Mode) (ops : Array Oper) (X : List Nat) : OL → Array Bool → Bool
  | .nil, l => Region.ready md ops l == []
  | .free i r, l => X.all (waitsN md ops i ops.size) && (Region.free md ops l i && (Region.ready md ops l).contains i && checkL md ops X r (l.setIfInBounds i true))
  | .one i r, l => Region.ready md ops l == [i] && checkL md ops X r (l.setIfInBounds i true)
  | .two i j r s, l => Region.ready md ops l == [i, j] && checkL md ops X r (l.setIfInBounds i true) && checkL md ops X s (l.setIfInBounds j true)
  | .last i r, l => r.isTail && X.contains i && Region.ready md ops l == [i] && checkL md ops X r (l.setIfInBounds i true)
  | .lasts i j r s, l => r.isTail && s.isTail && X.contains i && X.contains j && Region.ready md ops l == [i, j] && checkL md ops X r (l.setIfInBounds i true) && checkL md ops X s (l.setIfInBounds j true)

theorem wpL_tail {L : World → World → Prop} {X : List Nat} : ∀ (t : OL) (n : Nat) (l : Array Bool) (a : Act) (w : World) (S : World → Prop), t.isTail = true → t.high ≤ n → checkL md ops X t l = true → wpL P ops Q L t a w → wpAnyL P md ops Q X S n l a w
  | .nil, n, l, a, w, S, _, hn, hc, h => by
    have hr : Region.ready md ops l = [] := by simpa [checkL] using hc
    cases n with
    | zero => exact ⟨hr, h⟩
    | succ n => exact ⟨fun _ => h, fun k hk => absurd hk (by rw [hr]; simp)⟩
  | .last i r, n, l, a, w, S, ht, hn, hc, h => by
    simp only [checkL, Bool.and_eq_true, beq_iff_eq, List.contains_iff_mem] at hc
    match n, hn with
    | n + 1, hn =>
      refine ⟨fun h0 => absurd hc.1.2 (by rw [h0]; simp), fun j hj => ?_⟩
      rw [hc.1.2] at hj
      obtain rfl := List.mem_singleton.1 hj
      exact wpOp_mono (fun a' w' h' => ⟨fun hx => absurd hc.1.1.2 hx, wpL_tail r n _ a' w' S hc.1.1.1 (by simpa [OL.high] using hn) hc.2 h'⟩) h
  | .lasts i j r s, n, l, a, w, S, ht, hn, hc, h => by
    simp only [checkL, Bool.and_eq_true, beq_iff_eq, List.contains_iff_mem] at hc
    match n, hn with
    | n + 1, hn =>
      have hf1 : r.high ≤ n ∧ s.high ≤ n := by simp [OL.high] at hn; omega
      refine ⟨fun h0 => absurd hc.1.1.2 (by rw [h0]; simp), fun k hk => ?_⟩
      rw [hc.1.1.2] at hk
      rcases List.mem_cons.1 hk with hk | hk
      · subst hk
        exact wpOp_mono (fun a' w' h' => ⟨fun hx => absurd hc.1.1.1.1.2 hx, wpL_tail r n _ a' w' S hc.1.1.1.1.1.1 hf1.1 hc.1.2 h'⟩) h.1
      · obtain rfl := List.mem_singleton.1 hk
        exact wpOp_mono (fun a' w' h' => ⟨fun hx => absurd hc.1.1.1.2 hx, wpL_tail s n _ a' w' S hc.1.1.1.1.1.2 hf1.2 hc.2 h'⟩) h.2
theorem wpL_sound {L : World → World → Prop} {X : List Nat} (Lr : ∀ w, L w w) (Lt : ∀ {a b c}, L a b → L b c → L a c) (hs : Region.noSelect ops = true) (hQ : ∀ c (a : Act) d v w, Q (.panic c) (a.put d v) w → Q (.panic c) a w) :
    ∀ (t : OL) (n : Nat) (l : Array Bool) (a : Act) (w : World) (S : World → Prop), t.high ≤ n → Closed md ops l → checkL md ops X t l = true → (∀ w', L w w' → S w') → wpL P ops Q L t a w → wpAnyL P md ops Q X S n l a w
  | .nil, n, l, a, w, S, hn, hcl, hc, hS, h => by
    have hr : Region.ready md ops l = [] := by simpa [checkL] using hc
    cases n with
    | zero => exact ⟨hr, h⟩
    | succ n => exact ⟨fun _ => h, fun k hk => absurd hk (by rw [hr]; simp)⟩
  | .free i r, n, l, a, w, S, hn, hcl, hc, hS, h => by
    obtain ⟨o, v, ho, hy, h⟩ := h
    simp only [checkL, Bool.and_eq_true, List.all_eq_true] at hc
    have hri : i ∈ Region.ready md ops l := by simpa using hc.2.1.2
    match n, hn with
    | n + 1, hn =>
      exact wpAnyL_stronger hS _ _ _ _ (wpAnyL_first (S := L w) ho (Region.noSelect_spec hs) (fun c a w => hQ c a o.dst v w) ops.size hc.1 n l a w hcl (Region.free_spec ho hc.2.1.1) hri hy (Lr w) (wpL_sound Lr Lt hs hQ r n _ _ w (L w) (by simpa [OL.high] using hn) (hcl.set_ hri) hc.2.2 (fun _ h => h) h))
  | .one i r, n, l, a, w, S, hn, hcl, hc, hS, h => by
    simp only [checkL, Bool.and_eq_true, beq_iff_eq] at hc
    match n, hn with
    | n + 1, hn =>
      refine ⟨fun h0 => absurd hc.1 (by rw [h0]; simp), fun j hj => ?_⟩
      have hj0 := hj
      rw [hc.1] at hj
      obtain rfl := List.mem_singleton.1 hj
      exact wpOp_mono (fun a' w' h' => ⟨fun _ => hS _ h'.1, wpL_sound Lr Lt hs hQ r n _ a' w' S (by simpa [OL.high] using hn) (hcl.set_ hj0) hc.2 (fun y hy => hS _ (Lt h'.1 hy)) h'.2⟩) h
  | .two i j r s, n, l, a, w, S, hn, hcl, hc, hS, h => by
    simp only [checkL, Bool.and_eq_true, beq_iff_eq] at hc
    match n, hn with
    | n + 1, hn =>
      have hf1 : r.high ≤ n ∧ s.high ≤ n := by simp [OL.high] at hn; omega
      refine ⟨fun h0 => absurd hc.1.1 (by rw [h0]; simp), fun k hk => ?_⟩
      have hk0 := hk
      rw [hc.1.1] at hk
      rcases List.mem_cons.1 hk with hk | hk
      · subst hk
        exact wpOp_mono (fun a' w' h' => ⟨fun _ => hS _ h'.1, wpL_sound Lr Lt hs hQ r n _ a' w' S hf1.1 (hcl.set_ hk0) hc.1.2 (fun y hy => hS _ (Lt h'.1 hy)) h'.2⟩) h.1
      · obtain rfl := List.mem_singleton.1 hk
        exact wpOp_mono (fun a' w' h' => ⟨fun _ => hS _ h'.1, wpL_sound Lr Lt hs hQ s n _ a' w' S hf1.2 (hcl.set_ hk0) hc.2 (fun y hy => hS _ (Lt h'.1 hy)) h'.2⟩) h.2
  | .last i r, n, l, a, w, S, hn, hcl, hc, hS, h => by
    simp only [checkL, Bool.and_eq_true, beq_iff_eq, List.contains_iff_mem] at hc
    match n, hn with
    | n + 1, hn =>
      refine ⟨fun h0 => absurd hc.1.2 (by rw [h0]; simp), fun j hj => ?_⟩
      have hj0 := hj
      rw [hc.1.2] at hj
      obtain rfl := List.mem_singleton.1 hj
      exact wpOp_mono (fun a' w' h' => ⟨fun hx => absurd hc.1.1.2 hx, wpL_tail r n _ a' w' S hc.1.1.1 (by simpa [OL.high] using hn) hc.2 h'⟩) h
  | .lasts i j r s, n, l, a, w, S, hn, hcl, hc, hS, h => by
    simp only [checkL, Bool.and_eq_true, beq_iff_eq, List.contains_iff_mem] at hc
    match n, hn with
    | n + 1, hn =>
      have hf1 : r.high ≤ n ∧ s.high ≤ n := by simp [OL.high] at hn; omega
      refine ⟨fun h0 => absurd hc.1.1.2 (by rw [h0]; simp), fun k hk => ?_⟩
      have hk0 := hk
      rw [hc.1.1.2] at hk
      rcases List.mem_cons.1 hk with hk | hk
      · subst hk
        exact wpOp_mono (fun a' w' h' => ⟨fun hx => absurd hc.1.1.1.1.2 hx, wpL_tail r n _ a' w' S hc.1.1.1.1.1.1 hf1.1 hc.1.2 h'⟩) h.1
      · obtain rfl := List.mem_singleton.1 hk
        exact wpOp_mono (fun a' w' h' => ⟨fun hx => absurd hc.1.1.1.2 hx, wpL_tail s n _ a' w' S hc.1.1.1.1.1.2 hf1.2 hc.2 h'⟩) h.2

/-- The beginning: blocks S may be written ahead of the tail X. -/
theorem wp_region_tail {id : Nat} {a : Act} {w : World} (S X : List Nat) (t : OL) (hm : P.follows .mixedOrders = true) (hs : Region.noSelect ops = true)
    (hl : decide (t.high ≤ ops.size) = true) (hc : checkL .any ops X t (Array.replicate ops.size false) = true) (h : wpL P ops (NoPanic Q) (Chg S) t a w.drew) : (Code.region id ops true).wp P Q a w :=
  wp_region_noPanic (wp_region_any hm (wpAny_of_L (X := X) (S := fun _ => True) _ _ _ _ (wpL_sound (Chg.refl S) Chg.trans hs (NoPanic.put Q) t ops.size _ a w.drew _ (of_decide_eq_true hl) (closed_none _) hc (fun _ _ => trivial) h)))

variable {L : World → World → Prop}
theorem wpL_nil {a : Act} {w : World} (h : Q .normal a w) : wpL P ops (NoPanic Q) L .nil a w := h
theorem wpL_F {i : Nat} {r : OL} {a : Act} {w : World} {o : Oper} {v : Value} (ho : nth ops.toList i = some o) (hw : Region.wanted o (yielded ops a.tmps) = true)
    (hv : ∀ w', L w w' → (execOp a.eval o).run P w' = .ok (.value v) w') (h : wpL P ops Q L r (a.put o.dst v) w) : wpL P ops Q L (.free i r) a w :=
  ⟨o, v, nth_ops ho, .inl ⟨hw, hv⟩, h⟩
theorem wpL_G {i : Nat} {r : OL} {a : Act} {w : World} {o : Oper} (ho : nth ops.toList i = some o) (hw : Region.wanted o (yielded ops a.tmps) = false)
    (h : wpL P ops Q L r (a.put o.dst undef) w) : wpL P ops Q L (.free i r) a w :=
  ⟨o, undef, nth_ops ho, .inr ⟨hw, rfl⟩, h⟩
theorem wpL_C {i : Nat} {r : OL} {a : Act} {w : World} {o : Oper} (ho : nth ops.toList i = some o) (hw : Region.wanted o (yielded ops a.tmps) = true)
    (h : o.wp P a w (fun a' w' => L w w' ∧ wpL P ops Q L r a' w') Q) : wpL P ops Q L (.one i r) a w := by
  show wpOp P ops Q i _ a w
  unfold wpOp
  simp only [nth_ops ho, hw]
  exact .inl h
theorem wpL_X {i : Nat} {r : OL} {a : Act} {w : World} {o : Oper} (ho : nth ops.toList i = some o) (hw : Region.wanted o (yielded ops a.tmps) = true)
    (h : o.wp P a w (fun a' w' => wpL P ops Q L r a' w') Q) : wpL P ops Q L (.last i r) a w := by
  show wpOp P ops Q i _ a w
  unfold wpOp
  simp only [nth_ops ho, hw]
  exact .inl h
theorem wpL_two {i j : Nat} {r s : OL} {a : Act} {w : World} (h1 : wpL P ops Q L (.one i r) a w) (h2 : wpL P ops Q L (.one j s) a w) : wpL P ops Q L (.two i j r s) a w := ⟨h1, h2⟩
theorem wpL_lasts {i j : Nat} {r s : OL} {a : Act} {w : World} (h1 : wpL P ops Q L (.last i r) a w) (h2 : wpL P ops Q L (.last j s) a w) : wpL P ops Q L (.lasts i j r s) a w := ⟨h1, h2⟩
end
attribute [irreducible] wpL
end Go.Proofs.YtbnddpicpomakaaGreatDoor
