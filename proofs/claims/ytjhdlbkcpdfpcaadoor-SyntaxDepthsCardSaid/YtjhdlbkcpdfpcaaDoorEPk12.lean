/- Several texts of one proof, one behind the other. -/
import Derived.Test.YtjhdlbkcpdfpcaaDoorEPk11
set_option linter.unusedSimpArgs false
set_option linter.unusedVariables false

/- The walks of call and text, and of Write. -/
set_option linter.unusedSimpArgs false
set_option linter.unusedVariables false
set_option maxRecDepth 100000
namespace Go.Proofs.YtjhdlbkcpdfpcaaDoor
open Go.RowKit

/-- What is known of text, of trees of so many levels. -/
def TextIs (n : Nat) : Prop := ∀ (y : XM) (W : World), Pre4 W → XAt W.heap.size W n y → GoodX y.t → y.t.count ≤ 100000 → Calls Tryd.prog 43 #[y.v] W fun e w' => e = .returned (.string (textX y.t)) ∧ Below W.heap.size W w'

theorem count_arg {e x : Ex} (h : x ∈ e.args) : x.count < e.count := by
  rw [Rose.count_eq e]
  have : x.count ≤ (e.args.map Rose.count).sum := by
    generalize e.args = l at h
    induction l with
    | nil => cases h
    | cons y r ih =>
      rw [List.map_cons, List.sum_cons]
      rcases List.mem_cons.1 h with rfl | h
      · omega
      · have := ih h; omega
  omega
theorem sum_textX (N n : Nat) (w : World) (x : XM) (h : XAt N w n x) (hg : GoodX x.t) : ((x.t.args.map textX).map ByteArray.size).sum ≤ 1000 * x.t.count := by
  cases n with
  | zero => exact h.elim
  | succ n =>
    have hk : ∀ y ∈ x.t.args, (textX y).size ≤ 1000 * y.count := by
      intro y hy
      obtain ⟨k, hk, rfl⟩ := List.getElem_of_mem hy
      obtain ⟨z, hz, hzA, _⟩ := h.kid hk
      have := textX_size N n w z hzA (by rw [hz]; exact hg.arg hy)
      rw [hz] at this; exact this
    rw [Rose.count_eq]
    have h2 : ((x.t.args.map textX).map ByteArray.size).sum ≤ 1000 * (x.t.args.map Rose.count).sum := by
      generalize x.t.args = l at hk
      induction l with
      | nil => simp
      | cons y r ih =>
        have := hk y List.mem_cons_self
        have := ih (fun z hz => hk z (List.mem_cons_of_mem _ hz))
        simp only [List.map_cons, List.sum_cons]; omega
    omega

set_option maxHeartbeats 2000000 in
theorem call_any (n : Nat) (IH : TextIs n) (x : XM) (w : World) (hT : Pre4 w) (h : XAt w.heap.size w (n + 1) x) (hg : GoodX x.t) (hc : x.t.count ≤ 100000) (hk : x.t.lab.kd ≠ 1 ∧ x.t.lab.kd ≠ 2 ∧ x.t.lab.kd ≠ 3 ∧ x.t.lab.kd ≠ 4 ∧ x.t.lab.kd ≠ 5) :
    Calls Tryd.prog 70 #[x.v] w fun e w' => e = .returned (.string (textX x.t)) ∧ Below w.heap.size w w' := by
  have hsum := sum_textX _ _ w x h hg
  have hsm := Lb.small hg.lab.2
  have hTx : textX x.t = if (x.t.args.map textX).isEmpty then x.t.lab.op ++ ⟨#[40, 42, 41]⟩ else x.t.lab.op ++ ⟨#[40]⟩ ++ joinS (x.t.args.map textX) ⟨#[44, 32]⟩ ++ ⟨#[41]⟩ := by
    rw [textX_eq]; unfold Lb.textOf
    rw [if_neg hk.1, if_neg hk.2.1, if_neg hk.2.2.1, if_neg hk.2.2.2.1, if_neg hk.2.2.2.2]
  have HA := Lib.hid h
  have HG := Lib.hid hg
  have HCt := Lib.hid hc
  rw [hTx, XM.v_eq]
  obtain ⟨t, a, cap⟩ := x
  simp only at hsum hsm HA HG HCt hc ⊢
  have hop := hsm.op
  have hn6 := hsm.n
  obtain ⟨m, hm⟩ : ∃ m, t.args.length = m := ⟨_, rfl⟩
  have HM := Lib.hid hm
  rw [hm] at hn6 ⊢
  have HP := Lib.hid (fun W (hb : Below w.heap.size w W) => hT.below hb)
  have HS := Lib.hid (Slot8.new w 39 (.int .i64 t.lab.kd) (.int .u8 t.lab.v.k) (.int .i64 t.lab.v.n) (.string t.lab.v.s) (.string t.lab.tb) (.string t.lab.nm) (.string t.lab.op) (.slice a m cap))
  have HB0 : Hid (∀ o, Below w.heap.size w (w.alloc o)) := fun o => (Below.refl _ w).alloc (Nat.le_refl _) _
  by_cases h0 : m = 0
  · have he : (t.args.map textX).isEmpty = true := by
      rw [List.isEmpty_iff, List.map_eq_nil_iff, ← List.length_eq_zero_iff, hm, h0]
    rw [if_pos he]
    subst h0
    have s1 : ¬ 9223372036854775807 < t.lab.op.size + 3 := by omega
    clear h hg hc hk hTx hsum hsm he hm hT
    obtain ⟨x0, x1, x2, x3, x4, x5, x6, x7⟩ := HS.out
    go_enter Tryd.func70, Tryd.ntmps70
    go_wp2
    go_ret
    exact ⟨rfl, HB0.out _⟩
  · have he : ¬ (t.args.map textX).isEmpty = true := by
      rw [List.isEmpty_iff, List.map_eq_nil_iff, ← List.length_eq_zero_iff, hm]; exact h0
    rw [if_neg he]
    obtain ⟨iS, hiS, hzS, hsS, hbS⟩ := info_parts info_strT
    have q0 : ((m : Int) == 0) = false := by simp; omega
    have hjs := joinS_size (t.args.map textX) ⟨#[44, 32]⟩
    have e6 : (⟨#[44, 32]⟩ : ByteArray).size = 2 := rfl
    rw [e6, List.length_map, hm] at hjs
    have HJ : Hid ((joinL (t.args.map textX) ⟨#[44, 32]⟩).length ≤ 140737488355328) := by
      unfold joinS at hjs; rw [baL_size] at hjs; show _ ≤ _; omega
    obtain ⟨R, hR⟩ : ∃ R, joinS (t.args.map textX) ⟨#[44, 32]⟩ = R := ⟨_, rfl⟩
    rw [hR] at hjs ⊢
    have HR := Lib.hid hR
    have hRs : R.size ≤ 200000000 := by omega
    have s1 : ¬ 9223372036854775807 < t.lab.op.size + 1 := by omega
    have s2 : ¬ 9223372036854775807 < t.lab.op.size + 1 + R.size := by omega
    have s3 : ¬ 9223372036854775807 < t.lab.op.size + 1 + R.size + 1 := by omega
    have IHx : Hid (∀ (y : XM) (W : World), Below w.heap.size w W → XAt W.heap.size W n y → GoodX y.t → y.t.count ≤ 100000 → Calls Tryd.prog 43 #[.agg #[.int .i64 y.t.lab.kd, .int .u8 y.t.lab.v.k, .int .i64 y.t.lab.v.n, .string y.t.lab.v.s, .string y.t.lab.tb, .string y.t.lab.nm, .string y.t.lab.op, .slice y.a y.t.args.length y.cap]] W fun e w' => e = .returned (.string (textX y.t)) ∧ Below W.heap.size W w') := fun y W hb hy hg hc => by
      have := IH y W (HP.out W hb) hy hg hc
      rw [XM.v_eq] at this; exact this
    obtain ⟨w0, hw0⟩ : ∃ w0, w.alloc (.cells #[.int .i64 t.lab.kd, .int .u8 t.lab.v.k, .int .i64 t.lab.v.n, .string t.lab.v.s, .string t.lab.tb, .string t.lab.nm, .string t.lab.op, .slice a m cap] 39) = w0 := ⟨_, rfl⟩
    have HB1 : Hid (Below w.heap.size w w0) := by rw [← hw0]; exact HB0.out _
    have hs0 : w0.heap.size = w.heap.size + 1 := by rw [← hw0]; simp
    rw [hw0] at HS
    have HZ := Lib.hid hs0
    have HV0 : Hid (w0.ownsRow w0.heap.size 9 1 (.slice none 0 0) 0 (cellsS ((t.args.take 0).map textX))) := World.ownsRow_nil _ _ _ _
    clear h hg hc hk hTx hsum hsm he hm hT hR HB0 hs0 IH h0 hjs e6
    obtain ⟨x0, x1, x2, x3, x4, x5, x6, x7⟩ := HS.out
    go_enter Tryd.func70, Tryd.ntmps70
    go_wp2
    clear x0 x1 x2 x3 x4 x5 x6 x7
    go_loopw [3, 16] (fun v i wr => ∃ (k : Nat) (cv : Value), cv = v ∧ k ≤ m ∧ i = .int .i64 (k : Int) ∧ Hid (wr.ownsRow w0.heap.size 9 1 cv k (cellsS ((t.args.take k).map textX))) ∧ Hid (Below w0.heap.size w0 wr)) (fun _ i _ => m - (intOf i).toNat)
    case atStart => exact ⟨0, _, rfl, by omega, rfl, HV0, Below.refl _ _⟩
    case round =>
      clear HV0
      obtain ⟨k, cv, rfl, hk, rfl, HV, HBr⟩ := hrel
      have HBw := Lib.hid (HB1.out.trans (HBr.out.mono HB1.out.size))
      have HBs := Lib.hid HBr.out.size
      by_cases hlt : k < m
      · have hkl : k < t.args.length := by rw [HM.out]; exact hlt
        obtain ⟨y, hy, hAy, b, o, hab, hbN, hKid⟩ := (HA.out.later HBw.out).kid8 (k := k) hkl
        simp only at hab hy
        subst hab
        obtain ⟨y0, y1, y2, y3, y4, y5, y6, y7⟩ := hKid
        have HTk : Hid ((t.args.take (k + 1)).map textX = (t.args.take k).map textX ++ [textX y.t]) := by
          rw [List.take_succ_eq_append_getElem hkl, List.map_append, ← hy]; rfl
        have hyg : GoodX y.t := by rw [hy]; exact HG.out.arg (List.getElem_mem hkl)
        have hyc : y.t.count ≤ 100000 := by have h1 := count_arg (List.getElem_mem hkl); rw [← hy] at h1; have := HCt.out; omega
        have HY := Lib.hid (IHx.out y (wr.alloc (.cells #[.int .i64 y.t.lab.kd, .int .u8 y.t.lab.v.k, .int .i64 y.t.lab.v.n, .string y.t.lab.v.s, .string y.t.lab.tb, .string y.t.lab.nm, .string y.t.lab.op, .slice y.a y.t.args.length y.cap] 39)) (HBw.out.trans ((Below.refl w.heap.size wr).alloc HBw.out.size _)) (hAy.later ((Below.refl _ wr).alloc (Nat.le_refl _) _)) hyg hyc)
        generalize textX y.t = R1 at *
        clear hy hAy hkl hyg hyc HA IHx HG
        go_wp2_with (first | (at_builtin; fail) | fail)
        refine HY.out.mono ?_
        rintro e w2 ⟨rfl, hb2⟩
        have HB1' : Hid (Below wr.heap.size wr w2) := ((Below.refl _ wr).alloc (Nat.le_refl _) _).trans (hb2.mono (by simp))
        have HB2 := Lib.hid (HBr.out.trans (HB1'.out.mono HBs.out))
        have HBs2 := Lib.hid HB2.out.size
        have HV2 := Lib.hid (own_below HV.out (Nat.le_refl _) HB1'.out)
        clear hb2 HY y0 y1 y2 y3 y4 y5 y6 y7 HV HB1'
        go_wp2_with (first | (at_builtin; refine wpList_appC rfl _ _ 58 rfl w0.heap.size 9 iS (.string ⟨#[]⟩) 1 16 Tryd.underlying58 hiS hzS rfl hsS (by omega) hbS (by omega) cv k _ [.string R1] w2 HV2.out rfl _ rfl rfl (by simp [Value.oneCell']) rfl (by omega) HBs2.out ?_; intro v5 w5 hown5 hc5 hsz5; have HO5 := Lib.hid hown5; have HC5 := Lib.hid hc5; clear hown5 hc5 hsz5))
        have HB5 : Hid (Below w0.heap.size w0 w5) := HB2.out.trans (((Below.refl w0.heap.size w2).alloc HBs2.out _).trans (HC5.out.below (by have := HBs2.out; simp; omega) (fun g hg => (HV2.out.lt g (by simpa using hg)).1)))
        go_roundw
        case rel => exact ⟨k + 1, v5, rfl, by omega, by go_num, by rw [HTk.out, cellsS_snoc]; exact HO5.out, HB5.out⟩
        case measure => simp [intOf]; omega
      · have hke : k = m := by omega
        have HO := HV.out
        rw [hke, ← HM.out, List.take_length] at HO
        obtain ⟨ac, cc, hcv, hcc, hcm, hA2⟩ := own_slice HO
        have hml := HM.out
        have HY := Lib.hid (fun W (hb : Below wr.heap.size wr W) => Join_any (t.args.map textX) ⟨#[44, 32]⟩ ac cc W (hA2.later (N := 0) hb) (by rw [List.length_map]; omega) (by rw [List.length_map]; omega) HJ.out)
        rw [HR.out, List.length_map, HM.out] at HY
        rw [HM.out] at hcv
        subst hcv
        have HSr := Lib.hid (HS.out.later (by have := HZ.out; omega) HBr.out)
        have l6 : ∀ W, Later wr.drew W → W.cell? ⟨w.heap.size, 6, none⟩ = some (.string t.lab.op) := fun W hW => (HSr.out.later (N := wr.heap.size) (by have := HZ.out; have := HBs.out; omega) (Later.undrew hW)).c6
        clear HO hA2 hcc hcm hml HV HA HG IHx HS HR HJ
        go_wp2_with fail
        refine wp_region_ord [(0, true), (1, true), (2, true), (3, true), (4, false), (5, true), (6, true), (7, true)] (by kernel_rfl) (by kernel_rfl) (by kernel_rfl) (by kernel_rfl) ?_
        repeat (first | (refine wpO_F (v := ?_) rfl (by rfl) (fun w' hL => ?_) ?_; rotate_left; (solve | (go_simp; with_reducible rfl) | go_simp); try simp only [Act.put, List.setIfInBounds_toArray, List.set_cons_zero, List.set_cons_succ]) | (refine wpO_G rfl (by rfl) ?_; try simp only [Act.put, List.setIfInBounds_toArray, List.set_cons_zero, List.set_cons_succ]))
        refine wpO_C rfl (by rfl) ?_
        go_simp
        refine (HY.out _ (Below.refl _ _).drew).mono ?_
        rintro e w2 ⟨rfl, hb2⟩
        refine ⟨hb2, ?_⟩
        try simp only [Act.put, List.setIfInBounds_toArray, List.set_cons_zero, List.set_cons_succ]
        repeat (first | (refine wpO_F (v := ?_) rfl (by rfl) (fun w' hL => ?_) ?_; rotate_left; (solve | (go_simp; with_reducible rfl) | go_simp); try simp only [Act.put, List.setIfInBounds_toArray, List.set_cons_zero, List.set_cons_succ]) | (refine wpO_G rfl (by rfl) ?_; try simp only [Act.put, List.setIfInBounds_toArray, List.set_cons_zero, List.set_cons_succ]))
        refine wpO_nil ?_
        have HB2 := Lib.hid (HBw.out.trans (((Below.refl _ wr).drew.trans hb2).mono HBw.out.size))
        clear hb2 HY l6
        go_wp2
        go_ret
        exact ⟨rfl, HB2.out⟩
end Go.Proofs.YtjhdlbkcpdfpcaaDoor

/- The walks of text and Write. -/
set_option linter.unusedSimpArgs false
set_option linter.unusedVariables false
set_option maxRecDepth 100000
namespace Go.Proofs.YtjhdlbkcpdfpcaaDoor
open Go.RowKit

theorem KidAt.later {w W : World} {b o : Nat} {y : XM} {N : Nat} (h : KidAt w b o y) (hb : b < N) (hB : Below N w W) : KidAt W b o y :=
  ⟨(hB.cell (p := ⟨b, o, none⟩) hb).trans h.c0, (hB.cell (p := ⟨b, o + 1, none⟩) hb).trans h.c1, (hB.cell (p := ⟨b, o + 2, none⟩) hb).trans h.c2, (hB.cell (p := ⟨b, o + 3, none⟩) hb).trans h.c3, (hB.cell (p := ⟨b, o + 4, none⟩) hb).trans h.c4, (hB.cell (p := ⟨b, o + 5, none⟩) hb).trans h.c5, (hB.cell (p := ⟨b, o + 6, none⟩) hb).trans h.c6, (hB.cell (p := ⟨b, o + 7, none⟩) hb).trans h.c7⟩

theorem ok_len {l : Lb} {n : Nat} (h : l.ok n = true) : (l.kd = 3 → n = 1) ∧ (l.kd = 4 → n = 2) ∧ (l.kd = 5 → n = 1) := by
  unfold Lb.ok takesB at h
  refine ⟨fun hk => ?_, fun hk => ?_, fun hk => ?_⟩ <;>
  · rw [hk] at h
    simp at h
    omega

set_option maxHeartbeats 4000000 in
theorem text_is : ∀ n, TextIs n
  | 0 => fun _ _ _ h _ _ => h.elim
  | n + 1 => fun x w hT h hg hc => by
    have IH := text_is n
    have HCall := Lib.hid (fun hk W (hb : Below w.heap.size w W) => call_any n IH x W (hT.below hb) (h.later hb) hg hc hk)
    have hsum := sum_textX _ _ w x h hg
    have hsm := Lb.small hg.lab.2
    have hok := ok_len hg.lab.1
    have hTx := textX_eq x.t
    unfold Lb.textOf at hTx
    have HA := Lib.hid h
    have HG := Lib.hid hg
    have HCt := Lib.hid hc
    have hF := h.fair.1
    rw [XM.v_eq] at HCall ⊢
    have HColm := Lib.hid (fun W => column_any x W (by have := hsm.tb; omega) (by have := hsm.nm; omega))
    rw [XM.v_eq] at HColm
    obtain ⟨t, a, cap⟩ := x
    simp only at hsum hsm hok HA HG HCt HCall HColm hTx hF hc ⊢
    have hop := hsm.op
    obtain ⟨m, hm⟩ : ∃ m, t.args.length = m := ⟨_, rfl⟩
    have HM := Lib.hid hm
    rw [hm] at hok HCall HColm ⊢
    have HP := Lib.hid (fun W (hb : Below w.heap.size w W) => hT.below hb)
    have HLit := Lib.hid (fun W (hb : Below w.heap.size w W) => literal_any t.lab.v W (HP.out W hb) hF.k hF.n hsm.s)
    have IHx : Hid (∀ (y : XM) (W : World), Below w.heap.size w W → XAt W.heap.size W n y → GoodX y.t → y.t.count ≤ 100000 → Calls Tryd.prog 43 #[.agg #[.int .i64 y.t.lab.kd, .int .u8 y.t.lab.v.k, .int .i64 y.t.lab.v.n, .string y.t.lab.v.s, .string y.t.lab.tb, .string y.t.lab.nm, .string y.t.lab.op, .slice y.a y.t.args.length y.cap]] W fun e w' => e = .returned (.string (textX y.t)) ∧ Below W.heap.size W w') := fun y W hb hy hg hc => by
      have := IH y W (HP.out W hb) hy hg hc
      rw [XM.v_eq] at this; exact this
    have HS := Lib.hid (Slot8.new w 39 (.int .i64 t.lab.kd) (.int .u8 t.lab.v.k) (.int .i64 t.lab.v.n) (.string t.lab.v.s) (.string t.lab.tb) (.string t.lab.nm) (.string t.lab.op) (.slice a m cap))
    obtain ⟨w0, hw0⟩ : ∃ w0, w.alloc (.cells #[.int .i64 t.lab.kd, .int .u8 t.lab.v.k, .int .i64 t.lab.v.n, .string t.lab.v.s, .string t.lab.tb, .string t.lab.nm, .string t.lab.op, .slice a m cap] 39) = w0 := ⟨_, rfl⟩
    have HB1 : Hid (Below w.heap.size w w0) := by rw [← hw0]; exact (Below.refl _ w).alloc (Nat.le_refl _) _
    have hs0 : w0.heap.size = w.heap.size + 1 := by rw [← hw0]; simp
    rw [hw0] at HS
    have HZ := Lib.hid hs0
    have HKid : Hid (∀ k (hk : k < t.args.length), ∃ y : XM, y.t = t.args[k] ∧ (∃ b o, a = some ⟨b, o, none⟩ ∧ b < w0.heap.size ∧ KidAt w0 b (o + k * 8) y) ∧ ∀ W, Below w0.heap.size w0 W → Calls Tryd.prog 43 #[.agg #[.int .i64 y.t.lab.kd, .int .u8 y.t.lab.v.k, .int .i64 y.t.lab.v.n, .string y.t.lab.v.s, .string y.t.lab.tb, .string y.t.lab.nm, .string y.t.lab.op, .slice y.a y.t.args.length y.cap]] W fun e w' => e = .returned (.string (textX y.t)) ∧ Below W.heap.size W w') := fun k hk => by
      obtain ⟨y, hy, hAy, b, o, hab, hbN, hKid⟩ := (HA.out.later HB1.out).kid8 (k := k) hk
      have hyg : GoodX y.t := by rw [hy]; exact HG.out.arg (List.getElem_mem hk)
      have hyc : y.t.count ≤ 100000 := by have h1 := count_arg (List.getElem_mem hk); rw [← hy] at h1; have := HCt.out; omega
      exact ⟨y, hy, ⟨b, o, hab, hbN, hKid⟩, fun W hb => IHx.out y W (HB1.out.trans (hb.mono HB1.out.size)) (hAy.later hb) hyg hyc⟩
    have hsz : ∀ i, ((t.args.map textX).getD i ⟨#[]⟩).size ≤ 100000000 := fun i => by have := getD_size (t.args.map textX) i; omega
    have HSz := Lib.hid hsz
    clear h hg hc hsum hsm hm hT hs0 IH IHx HA HG HCt hsz HP hF
    obtain ⟨x0, x1, x2, x3, x4, x5, x6, x7⟩ := HS.out
    by_cases k1 : t.lab.kd = 1
    · rw [if_pos k1] at hTx
      rw [hTx]
      generalize Vl.litS t.lab.v = R at *
      generalize t.lab.kd = kd at *
      subst k1
      clear hTx HCall HColm hok HKid
      go_enter Tryd.func43, Tryd.ntmps43
      go_wp2_with fail
      refine (HLit.out _ HB1.out).mono ?_
      rintro e w1 ⟨rfl, hb1⟩
      have HB2 := Lib.hid (HB1.out.trans (hb1.mono HB1.out.size))
      clear hb1 x0 x1 x2 x3 x4 x5 x6 x7
      go_wp2
      go_ret
      exact ⟨rfl, HB2.out⟩
    rw [if_neg k1] at hTx
    by_cases k2 : t.lab.kd = 2
    · rw [if_pos k2] at hTx
      rw [hTx]
      generalize Lb.colS t.lab = R at *
      generalize t.lab.kd = kd at *
      subst k2
      clear hTx HCall HLit hok HKid k1
      go_enter Tryd.func43, Tryd.ntmps43
      go_wp2_with fail
      refine (HColm.out _).mono ?_
      rintro e w1 ⟨rfl, hb1⟩
      have HB2 := Lib.hid (HB1.out.trans (hb1.mono HB1.out.size))
      clear hb1 x0 x1 x2 x3 x4 x5 x6 x7
      go_wp2
      go_ret
      exact ⟨rfl, HB2.out⟩
    rw [if_neg k2] at hTx
    by_cases k3 : t.lab.kd = 3
    · rw [if_pos k3] at hTx
      have hm1 := hok.1 k3
      subst hm1
      obtain ⟨y0, hy0, ⟨b, o, hab, hbN, hKd0⟩, hCl0⟩ := HKid.out 0 (by rw [HM.out]; omega)
      have hyt0 : (t.args.map textX).getD 0 ⟨#[]⟩ = textX y0.t := by
        rw [hy0]; simp [List.getD, List.getElem?_eq_getElem (show 0 < t.args.length by rw [HM.out]; omega)]
      have hys0 := HSz.out 0
      rw [hyt0] at hTx hys0
      rw [hTx]
      have HY0 := Lib.hid hCl0
      subst hab
      generalize textX y0.t = R0 at *
      generalize t.lab.kd = kd at *
      subst k3
      have s0 : ¬ 9223372036854775807 < 1 + t.lab.op.size := by omega
      have s1 : ¬ 9223372036854775807 < 1 + t.lab.op.size + 1 := by omega
      have s2 : ¬ 9223372036854775807 < 1 + t.lab.op.size + 1 + R0.size := by omega
      have s3 : ¬ 9223372036854775807 < 1 + t.lab.op.size + 1 + R0.size + 1 := by omega
      have HK0 := Lib.hid hKd0
      have hw0s : w.heap.size < w0.heap.size := by have := HZ.out; omega
      have l6 : ∀ W, Later w0.drew W → W.cell? ⟨w.heap.size, 6, none⟩ = some (.string t.lab.op) := fun W hW => (HS.out.later hw0s (Later.undrew hW)).c6
      have l7 : ∀ W, Later w0.drew W → W.cell? ⟨w.heap.size, 7, none⟩ = some (.slice (some ⟨b, o, none⟩) 1 cap) := fun W hW => (HS.out.later hw0s (Later.undrew hW)).c7
      have g00 : ∀ W, Later w0.drew W → W.cell? ⟨b, o, none⟩ = some (.int .i64 y0.t.lab.kd) := fun W hW => by have := (HK0.out.later hbN (Later.undrew hW)).c0; rw [Nat.zero_mul, Nat.add_zero] at this; exact this
      have g01 : ∀ W, Later w0.drew W → W.cell? ⟨b, o + 1, none⟩ = some (.int .u8 y0.t.lab.v.k) := fun W hW => by have := (HK0.out.later hbN (Later.undrew hW)).c1; rw [Nat.zero_mul, Nat.add_zero] at this; exact this
      have g02 : ∀ W, Later w0.drew W → W.cell? ⟨b, o + 2, none⟩ = some (.int .i64 y0.t.lab.v.n) := fun W hW => by have := (HK0.out.later hbN (Later.undrew hW)).c2; rw [Nat.zero_mul, Nat.add_zero] at this; exact this
      have g03 : ∀ W, Later w0.drew W → W.cell? ⟨b, o + 3, none⟩ = some (.string y0.t.lab.v.s) := fun W hW => by have := (HK0.out.later hbN (Later.undrew hW)).c3; rw [Nat.zero_mul, Nat.add_zero] at this; exact this
      have g04 : ∀ W, Later w0.drew W → W.cell? ⟨b, o + 4, none⟩ = some (.string y0.t.lab.tb) := fun W hW => by have := (HK0.out.later hbN (Later.undrew hW)).c4; rw [Nat.zero_mul, Nat.add_zero] at this; exact this
      have g05 : ∀ W, Later w0.drew W → W.cell? ⟨b, o + 5, none⟩ = some (.string y0.t.lab.nm) := fun W hW => by have := (HK0.out.later hbN (Later.undrew hW)).c5; rw [Nat.zero_mul, Nat.add_zero] at this; exact this
      have g06 : ∀ W, Later w0.drew W → W.cell? ⟨b, o + 6, none⟩ = some (.string y0.t.lab.op) := fun W hW => by have := (HK0.out.later hbN (Later.undrew hW)).c6; rw [Nat.zero_mul, Nat.add_zero] at this; exact this
      have g07 : ∀ W, Later w0.drew W → W.cell? ⟨b, o + 7, none⟩ = some (.slice y0.a y0.t.args.length y0.cap) := fun W hW => by have := (HK0.out.later hbN (Later.undrew hW)).c7; rw [Nat.zero_mul, Nat.add_zero] at this; exact this
      clear hTx HCall HColm HLit hok HKid k1 k2 hy0 hyt0 hys0 hKd0 hCl0 HSz HM hbN
      go_enter Tryd.func43, Tryd.ntmps43
      go_wp2_with fail
      clear x0 x1 x2 x3 x4 x5 x6 x7
      refine wp_region_ord [(0, true), (1, true), (2, true), (3, true), (4, true), (5, true), (6, true), (7, true), (8, false), (9, true), (10, true), (11, true)] (by kernel_rfl) (by kernel_rfl) (by kernel_rfl) (by kernel_rfl) ?_
      repeat (first | (refine wpO_F (v := ?_) rfl (by rfl) (fun w' hL => ?_) ?_; rotate_left; (solve | (go_simp; with_reducible rfl) | go_simp); try simp only [Act.put, List.setIfInBounds_toArray, List.set_cons_zero, List.set_cons_succ]) | (refine wpO_G rfl (by rfl) ?_; try simp only [Act.put, List.setIfInBounds_toArray, List.set_cons_zero, List.set_cons_succ]))
      refine wpO_C rfl (by rfl) ?_
      go_simp
      refine (HY0.out _ (Below.refl _ _).drew).mono ?_
      rintro e w1 ⟨rfl, hb1⟩
      refine ⟨hb1, ?_⟩
      try simp only [Act.put, List.setIfInBounds_toArray, List.set_cons_zero, List.set_cons_succ]
      repeat (first | (refine wpO_F (v := ?_) rfl (by rfl) (fun w' hL => ?_) ?_; rotate_left; (solve | (go_simp; with_reducible rfl) | go_simp); try simp only [Act.put, List.setIfInBounds_toArray, List.set_cons_zero, List.set_cons_succ]) | (refine wpO_G rfl (by rfl) ?_; try simp only [Act.put, List.setIfInBounds_toArray, List.set_cons_zero, List.set_cons_succ]))
      refine wpO_nil ?_
      have HB2 := Lib.hid (HB1.out.trans (((Below.refl _ w0).drew.trans hb1).mono HB1.out.size))
      clear hb1
      clear HY0
      go_wp2
      go_ret
      exact ⟨rfl, HB2.out⟩
    rw [if_neg k3] at hTx
    by_cases k4 : t.lab.kd = 4
    · rw [if_pos k4] at hTx
      have hm1 := hok.2.1 k4
      subst hm1
      obtain ⟨y0, hy0, ⟨b, o, hab, hbN, hKd0⟩, hCl0⟩ := HKid.out 0 (by rw [HM.out]; omega)
      have hyt0 : (t.args.map textX).getD 0 ⟨#[]⟩ = textX y0.t := by
        rw [hy0]; simp [List.getD, List.getElem?_eq_getElem (show 0 < t.args.length by rw [HM.out]; omega)]
      have hys0 := HSz.out 0
      obtain ⟨y1, hy1, ⟨b1, o1, hab1, -, hKd1⟩, hCl1⟩ := HKid.out 1 (by rw [HM.out]; omega)
      have hyt1 : (t.args.map textX).getD 1 ⟨#[]⟩ = textX y1.t := by
        rw [hy1]; simp [List.getD, List.getElem?_eq_getElem (show 1 < t.args.length by rw [HM.out]; omega)]
      have hys1 := HSz.out 1
      rw [hyt1] at hTx hys1
      have HY1 := Lib.hid hCl1
      rw [hab] at hab1
      injection hab1 with hab1
      injection hab1 with e1 e2
      subst e1 e2
      rw [hyt0] at hTx hys0
      rw [hTx]
      have HY0 := Lib.hid hCl0
      subst hab
      generalize textX y0.t = R0 at *
      generalize textX y1.t = R1 at *
      generalize t.lab.kd = kd at *
      subst k4
      have s0 : ¬ 9223372036854775807 < 1 + R0.size := by omega
      have s1 : ¬ 9223372036854775807 < 1 + R0.size + 1 := by omega
      have s2 : ¬ 9223372036854775807 < 1 + R0.size + 1 + t.lab.op.size := by omega
      have s3 : ¬ 9223372036854775807 < 1 + R0.size + 1 + t.lab.op.size + 1 := by omega
      have s4 : ¬ 9223372036854775807 < 1 + R0.size + 1 + t.lab.op.size + 1 + R1.size := by omega
      have s5 : ¬ 9223372036854775807 < 1 + R0.size + 1 + t.lab.op.size + 1 + R1.size + 1 := by omega
      have HK0 := Lib.hid hKd0
      have HK1 := Lib.hid hKd1
      have hw0s : w.heap.size < w0.heap.size := by have := HZ.out; omega
      have l6 : ∀ W, Later w0.drew W → W.cell? ⟨w.heap.size, 6, none⟩ = some (.string t.lab.op) := fun W hW => (HS.out.later hw0s (Later.undrew hW)).c6
      have l7 : ∀ W, Later w0.drew W → W.cell? ⟨w.heap.size, 7, none⟩ = some (.slice (some ⟨b, o, none⟩) 2 cap) := fun W hW => (HS.out.later hw0s (Later.undrew hW)).c7
      have g00 : ∀ W, Later w0.drew W → W.cell? ⟨b, o, none⟩ = some (.int .i64 y0.t.lab.kd) := fun W hW => by have := (HK0.out.later hbN (Later.undrew hW)).c0; rw [Nat.zero_mul, Nat.add_zero] at this; exact this
      have g01 : ∀ W, Later w0.drew W → W.cell? ⟨b, o + 1, none⟩ = some (.int .u8 y0.t.lab.v.k) := fun W hW => by have := (HK0.out.later hbN (Later.undrew hW)).c1; rw [Nat.zero_mul, Nat.add_zero] at this; exact this
      have g02 : ∀ W, Later w0.drew W → W.cell? ⟨b, o + 2, none⟩ = some (.int .i64 y0.t.lab.v.n) := fun W hW => by have := (HK0.out.later hbN (Later.undrew hW)).c2; rw [Nat.zero_mul, Nat.add_zero] at this; exact this
      have g03 : ∀ W, Later w0.drew W → W.cell? ⟨b, o + 3, none⟩ = some (.string y0.t.lab.v.s) := fun W hW => by have := (HK0.out.later hbN (Later.undrew hW)).c3; rw [Nat.zero_mul, Nat.add_zero] at this; exact this
      have g04 : ∀ W, Later w0.drew W → W.cell? ⟨b, o + 4, none⟩ = some (.string y0.t.lab.tb) := fun W hW => by have := (HK0.out.later hbN (Later.undrew hW)).c4; rw [Nat.zero_mul, Nat.add_zero] at this; exact this
      have g05 : ∀ W, Later w0.drew W → W.cell? ⟨b, o + 5, none⟩ = some (.string y0.t.lab.nm) := fun W hW => by have := (HK0.out.later hbN (Later.undrew hW)).c5; rw [Nat.zero_mul, Nat.add_zero] at this; exact this
      have g06 : ∀ W, Later w0.drew W → W.cell? ⟨b, o + 6, none⟩ = some (.string y0.t.lab.op) := fun W hW => by have := (HK0.out.later hbN (Later.undrew hW)).c6; rw [Nat.zero_mul, Nat.add_zero] at this; exact this
      have g07 : ∀ W, Later w0.drew W → W.cell? ⟨b, o + 7, none⟩ = some (.slice y0.a y0.t.args.length y0.cap) := fun W hW => by have := (HK0.out.later hbN (Later.undrew hW)).c7; rw [Nat.zero_mul, Nat.add_zero] at this; exact this
      have g10 : ∀ W, Later w0.drew W → W.cell? ⟨b, o + 8, none⟩ = some (.int .i64 y1.t.lab.kd) := fun W hW => by have := (HK1.out.later hbN (Later.undrew hW)).c0; rw [Nat.one_mul] at this; exact this
      have g11 : ∀ W, Later w0.drew W → W.cell? ⟨b, o + 8 + 1, none⟩ = some (.int .u8 y1.t.lab.v.k) := fun W hW => by have := (HK1.out.later hbN (Later.undrew hW)).c1; rw [Nat.one_mul] at this; exact this
      have g12 : ∀ W, Later w0.drew W → W.cell? ⟨b, o + 8 + 2, none⟩ = some (.int .i64 y1.t.lab.v.n) := fun W hW => by have := (HK1.out.later hbN (Later.undrew hW)).c2; rw [Nat.one_mul] at this; exact this
      have g13 : ∀ W, Later w0.drew W → W.cell? ⟨b, o + 8 + 3, none⟩ = some (.string y1.t.lab.v.s) := fun W hW => by have := (HK1.out.later hbN (Later.undrew hW)).c3; rw [Nat.one_mul] at this; exact this
      have g14 : ∀ W, Later w0.drew W → W.cell? ⟨b, o + 8 + 4, none⟩ = some (.string y1.t.lab.tb) := fun W hW => by have := (HK1.out.later hbN (Later.undrew hW)).c4; rw [Nat.one_mul] at this; exact this
      have g15 : ∀ W, Later w0.drew W → W.cell? ⟨b, o + 8 + 5, none⟩ = some (.string y1.t.lab.nm) := fun W hW => by have := (HK1.out.later hbN (Later.undrew hW)).c5; rw [Nat.one_mul] at this; exact this
      have g16 : ∀ W, Later w0.drew W → W.cell? ⟨b, o + 8 + 6, none⟩ = some (.string y1.t.lab.op) := fun W hW => by have := (HK1.out.later hbN (Later.undrew hW)).c6; rw [Nat.one_mul] at this; exact this
      have g17 : ∀ W, Later w0.drew W → W.cell? ⟨b, o + 8 + 7, none⟩ = some (.slice y1.a y1.t.args.length y1.cap) := fun W hW => by have := (HK1.out.later hbN (Later.undrew hW)).c7; rw [Nat.one_mul] at this; exact this
      clear hTx HCall HColm HLit hok HKid k1 k2 k3 hy0 hyt0 hys0 hKd0 hCl0 hy1 hyt1 hys1 hKd1 hCl1 HSz HM hbN
      go_enter Tryd.func43, Tryd.ntmps43
      go_wp2_with fail
      clear x0 x1 x2 x3 x4 x5 x6 x7
      refine wp_region_ord [(0, true), (1, true), (2, true), (3, true), (7, true), (8, true), (11, true), (12, true), (13, true), (14, true), (4, false), (5, true), (6, true), (9, true), (10, true), (15, false), (16, true), (17, true), (18, true)] (by kernel_rfl) (by kernel_rfl) (by kernel_rfl) (by kernel_rfl) ?_
      repeat (first | (refine wpO_F (v := ?_) rfl (by rfl) (fun w' hL => ?_) ?_; rotate_left; (solve | (go_simp; with_reducible rfl) | go_simp); try simp only [Act.put, List.setIfInBounds_toArray, List.set_cons_zero, List.set_cons_succ]) | (refine wpO_G rfl (by rfl) ?_; try simp only [Act.put, List.setIfInBounds_toArray, List.set_cons_zero, List.set_cons_succ]))
      refine wpO_C rfl (by rfl) ?_
      go_simp
      refine (HY0.out _ (Below.refl _ _).drew).mono ?_
      rintro e w1 ⟨rfl, hb1⟩
      refine ⟨hb1, ?_⟩
      try simp only [Act.put, List.setIfInBounds_toArray, List.set_cons_zero, List.set_cons_succ]
      repeat (first | (refine wpO_F (v := ?_) rfl (by rfl) (fun w' hL => ?_) ?_; rotate_left; (solve | (go_simp; with_reducible rfl) | go_simp); try simp only [Act.put, List.setIfInBounds_toArray, List.set_cons_zero, List.set_cons_succ]) | (refine wpO_G rfl (by rfl) ?_; try simp only [Act.put, List.setIfInBounds_toArray, List.set_cons_zero, List.set_cons_succ]))
      refine wpO_C rfl (by rfl) ?_
      go_simp
      refine (HY1.out _ ((Below.refl _ _).drew.trans hb1)).mono ?_
      rintro e w2 ⟨rfl, hb2⟩
      refine ⟨hb2, ?_⟩
      try simp only [Act.put, List.setIfInBounds_toArray, List.set_cons_zero, List.set_cons_succ]
      repeat (first | (refine wpO_F (v := ?_) rfl (by rfl) (fun w' hL => ?_) ?_; rotate_left; (solve | (go_simp; with_reducible rfl) | go_simp); try simp only [Act.put, List.setIfInBounds_toArray, List.set_cons_zero, List.set_cons_succ]) | (refine wpO_G rfl (by rfl) ?_; try simp only [Act.put, List.setIfInBounds_toArray, List.set_cons_zero, List.set_cons_succ]))
      refine wpO_nil ?_
      have HB2 := Lib.hid (HB1.out.trans ((((Below.refl _ w0).drew.trans hb1).trans (hb2.mono hb1.size)).mono HB1.out.size))
      clear hb1 hb2
      clear HY0 HY1
      go_wp2
      go_ret
      exact ⟨rfl, HB2.out⟩
    rw [if_neg k4] at hTx
    by_cases k5 : t.lab.kd = 5
    · rw [if_pos k5] at hTx
      have hm1 := hok.2.2 k5
      subst hm1
      obtain ⟨y0, hy0, ⟨b, o, hab, hbN, hKd0⟩, hCl0⟩ := HKid.out 0 (by rw [HM.out]; omega)
      have hyt0 : (t.args.map textX).getD 0 ⟨#[]⟩ = textX y0.t := by
        rw [hy0]; simp [List.getD, List.getElem?_eq_getElem (show 0 < t.args.length by rw [HM.out]; omega)]
      have hys0 := HSz.out 0
      rw [hyt0] at hTx hys0
      rw [hTx]
      have HY0 := Lib.hid hCl0
      subst hab
      generalize textX y0.t = R0 at *
      generalize t.lab.kd = kd at *
      subst k5
      have s0 : ¬ 9223372036854775807 < 1 + R0.size := by omega
      have s1 : ¬ 9223372036854775807 < 1 + R0.size + 1 := by omega
      have s2 : ¬ 9223372036854775807 < 1 + R0.size + 1 + t.lab.op.size := by omega
      have s3 : ¬ 9223372036854775807 < 1 + R0.size + 1 + t.lab.op.size + 1 := by omega
      have HK0 := Lib.hid hKd0
      have hw0s : w.heap.size < w0.heap.size := by have := HZ.out; omega
      have l6 : ∀ W, Later w0.drew W → W.cell? ⟨w.heap.size, 6, none⟩ = some (.string t.lab.op) := fun W hW => (HS.out.later hw0s (Later.undrew hW)).c6
      have l7 : ∀ W, Later w0.drew W → W.cell? ⟨w.heap.size, 7, none⟩ = some (.slice (some ⟨b, o, none⟩) 1 cap) := fun W hW => (HS.out.later hw0s (Later.undrew hW)).c7
      have g00 : ∀ W, Later w0.drew W → W.cell? ⟨b, o, none⟩ = some (.int .i64 y0.t.lab.kd) := fun W hW => by have := (HK0.out.later hbN (Later.undrew hW)).c0; rw [Nat.zero_mul, Nat.add_zero] at this; exact this
      have g01 : ∀ W, Later w0.drew W → W.cell? ⟨b, o + 1, none⟩ = some (.int .u8 y0.t.lab.v.k) := fun W hW => by have := (HK0.out.later hbN (Later.undrew hW)).c1; rw [Nat.zero_mul, Nat.add_zero] at this; exact this
      have g02 : ∀ W, Later w0.drew W → W.cell? ⟨b, o + 2, none⟩ = some (.int .i64 y0.t.lab.v.n) := fun W hW => by have := (HK0.out.later hbN (Later.undrew hW)).c2; rw [Nat.zero_mul, Nat.add_zero] at this; exact this
      have g03 : ∀ W, Later w0.drew W → W.cell? ⟨b, o + 3, none⟩ = some (.string y0.t.lab.v.s) := fun W hW => by have := (HK0.out.later hbN (Later.undrew hW)).c3; rw [Nat.zero_mul, Nat.add_zero] at this; exact this
      have g04 : ∀ W, Later w0.drew W → W.cell? ⟨b, o + 4, none⟩ = some (.string y0.t.lab.tb) := fun W hW => by have := (HK0.out.later hbN (Later.undrew hW)).c4; rw [Nat.zero_mul, Nat.add_zero] at this; exact this
      have g05 : ∀ W, Later w0.drew W → W.cell? ⟨b, o + 5, none⟩ = some (.string y0.t.lab.nm) := fun W hW => by have := (HK0.out.later hbN (Later.undrew hW)).c5; rw [Nat.zero_mul, Nat.add_zero] at this; exact this
      have g06 : ∀ W, Later w0.drew W → W.cell? ⟨b, o + 6, none⟩ = some (.string y0.t.lab.op) := fun W hW => by have := (HK0.out.later hbN (Later.undrew hW)).c6; rw [Nat.zero_mul, Nat.add_zero] at this; exact this
      have g07 : ∀ W, Later w0.drew W → W.cell? ⟨b, o + 7, none⟩ = some (.slice y0.a y0.t.args.length y0.cap) := fun W hW => by have := (HK0.out.later hbN (Later.undrew hW)).c7; rw [Nat.zero_mul, Nat.add_zero] at this; exact this
      clear hTx HCall HColm HLit hok HKid k1 k2 k3 k4 hy0 hyt0 hys0 hKd0 hCl0 HSz HM hbN
      go_enter Tryd.func43, Tryd.ntmps43
      go_wp2_with fail
      clear x0 x1 x2 x3 x4 x5 x6 x7
      refine wp_region_ord [(0, true), (1, true), (2, true), (3, true), (7, true), (8, true), (4, false), (5, true), (6, true), (9, true), (10, true), (11, true)] (by kernel_rfl) (by kernel_rfl) (by kernel_rfl) (by kernel_rfl) ?_
      repeat (first | (refine wpO_F (v := ?_) rfl (by rfl) (fun w' hL => ?_) ?_; rotate_left; (solve | (go_simp; with_reducible rfl) | go_simp); try simp only [Act.put, List.setIfInBounds_toArray, List.set_cons_zero, List.set_cons_succ]) | (refine wpO_G rfl (by rfl) ?_; try simp only [Act.put, List.setIfInBounds_toArray, List.set_cons_zero, List.set_cons_succ]))
      refine wpO_C rfl (by rfl) ?_
      go_simp
      refine (HY0.out _ (Below.refl _ _).drew).mono ?_
      rintro e w1 ⟨rfl, hb1⟩
      refine ⟨hb1, ?_⟩
      try simp only [Act.put, List.setIfInBounds_toArray, List.set_cons_zero, List.set_cons_succ]
      repeat (first | (refine wpO_F (v := ?_) rfl (by rfl) (fun w' hL => ?_) ?_; rotate_left; (solve | (go_simp; with_reducible rfl) | go_simp); try simp only [Act.put, List.setIfInBounds_toArray, List.set_cons_zero, List.set_cons_succ]) | (refine wpO_G rfl (by rfl) ?_; try simp only [Act.put, List.setIfInBounds_toArray, List.set_cons_zero, List.set_cons_succ]))
      refine wpO_nil ?_
      have HB2 := Lib.hid (HB1.out.trans (((Below.refl _ w0).drew.trans hb1).mono HB1.out.size))
      clear hb1
      clear HY0
      go_wp2
      go_ret
      exact ⟨rfl, HB2.out⟩
    rw [if_neg k5] at hTx
    have HY := Lib.hid (HCall.out ⟨k1, k2, k3, k4, k5⟩)
    have q1 : (t.lab.kd == 1) = false := by simpa using k1
    have q2 : (t.lab.kd == 2) = false := by simpa using k2
    have q3 : (t.lab.kd == 3) = false := by simpa using k3
    have q4 : (t.lab.kd == 4) = false := by simpa using k4
    have q5 : (t.lab.kd == 5) = false := by simpa using k5
    generalize textX t = R at *
    generalize t.lab.kd = kd at *
    clear hTx HCall HColm HLit hok HKid k1 k2 k3 k4 k5 HSz HM
    go_enter Tryd.func43, Tryd.ntmps43
    go_wp2_with fail
    refine (HY.out _ HB1.out).mono ?_
    rintro e w1 ⟨rfl, hb1⟩
    have HB2 := Lib.hid (HB1.out.trans (hb1.mono HB1.out.size))
    clear hb1 x0 x1 x2 x3 x4 x5 x6 x7
    go_wp2
    go_ret
    exact ⟨rfl, HB2.out⟩
end Go.Proofs.YtjhdlbkcpdfpcaaDoor

/- What the fixed calls of law 20's alive come to. -/
set_option linter.unusedSimpArgs false
set_option linter.unusedVariables false
set_option maxRecDepth 100000
namespace Go.Proofs.YtjhdlbkcpdfpcaaDoor
open Go.RowKit

def vZ : Vl := ⟨0, 0, ⟨#[]⟩⟩
def aT : Ex := .mk ⟨2, vZ, ⟨#[]⟩, ⟨#[97]⟩, ⟨#[]⟩⟩ []
def oneT : Ex := .mk ⟨1, ⟨1, 1, ⟨#[]⟩⟩, ⟨#[]⟩, ⟨#[]⟩, ⟨#[]⟩⟩ []
def eT : Ex := .mk ⟨4, vZ, ⟨#[]⟩, ⟨#[]⟩, ⟨#[43]⟩⟩ [aT, oneT]
def selT : Ex := .mk ⟨2, vZ, ⟨#[]⟩, ⟨#[115, 101, 108, 101, 99, 116]⟩, ⟨#[]⟩⟩ []
theorem al_right : rightX 20 eT = true := by decide +kernel
theorem al_sel : rightX 20 selT = false := by decide +kernel
theorem al_of : resB ⟨#[111, 102]⟩ = true := by decide +kernel
theorem al_a : resB ⟨#[97]⟩ = false := by decide +kernel
theorem al_fits : eT.fits (fun l k => !l.big k) 20 = true := by decide +kernel
theorem al_fitsS : selT.fits (fun l k => !l.big k) 20 = true := by decide +kernel
theorem al_depth : eT.depth = 2 := by
  simp [eT, aT, oneT, Rose.depth_eq, Rose.args, maxL]
theorem al_count : eT.count = 3 := by
  simp [eT, aT, oneT, Rose.count_eq, Rose.args]
theorem al_countS : selT.count = 1 := by
  simp [selT, Rose.count_eq, Rose.args]
theorem al_pick : pickX 2 true eT = [aT] := by
  simp [eT, aT, oneT, pickX_eq, pickL, Rose.args, Rose.lab]
theorem al_lit : Vl.litS ⟨1, 1, ⟨#[]⟩⟩ = ⟨#[49]⟩ := by
  rw [Vl.litS_eq]
  show baL (Lib.itoa 1) = _
  have : Lib.itoa 1 = [49] := by decide +kernel
  rw [this]; rfl
theorem al_textA : textX aT = ⟨#[97]⟩ := by
  rw [textX_eq]
  show Lb.textOf ⟨2, vZ, ⟨#[]⟩, ⟨#[97]⟩, ⟨#[]⟩⟩ [] = _
  decide +kernel
theorem al_text1 : textX oneT = ⟨#[49]⟩ := by
  rw [textX_eq]
  show Vl.litS ⟨1, 1, ⟨#[]⟩⟩ = _
  exact al_lit
theorem al_text : textX eT = ⟨#[40, 97, 32, 43, 32, 49, 41]⟩ := by
  rw [textX_eq]
  have h : eT.args.map textX = [⟨#[97]⟩, ⟨#[49]⟩] := by
    show [textX aT, textX oneT] = _
    rw [al_textA, al_text1]
  rw [h]
  decide +kernel

/-- Write's answer. -/
def writeV (e : Ex) : ByteArray × Int := if rightX 20 e = true then (textX e, 0) else (⟨#[]⟩, 3)
theorem good_of {e : Ex} (h : rightX 20 e = true) (hs : e.allB (fun l k => !l.big k) = true) : GoodX e := by
  rw [rightX_eq, Bool.and_eq_true] at h
  have h1 := h.1
  clear h
  unfold GoodX
  induction e using Rose.ind with
  | h l args ih =>
    rw [Rose.allB_eq, Bool.and_eq_true, List.all_eq_true] at h1 hs ⊢
    exact ⟨by unfold Lb.good; rw [h1.1, hs.1]; rfl, fun x hx => ih x hx (hs.2 x hx) (h1.2 x hx)⟩

set_option maxHeartbeats 1000000 in
theorem sWrite_any20 (n : Nat) (x : XM) (w : World) (hT : Pre4 w) (h : XAt w.heap.size w n x) (hs : x.t.allB (fun l k => !l.big k) = true) (hc : x.t.count ≤ 100000) :
    Calls Tryd.prog 23 #[x.v] w fun e w' => e = .returned (.tuple #[.string (writeV x.t).1, .int .i64 (writeV x.t).2]) ∧ Below w.heap.size w w' := by
  have HX := Lib.hid (Slot8.new w 39 (.int .i64 x.t.lab.kd) (.int .u8 x.t.lab.v.k) (.int .i64 x.t.lab.v.n) (.string x.t.lab.v.s) (.string x.t.lab.tb) (.string x.t.lab.nm) (.string x.t.lab.op) (.slice x.a x.t.args.length x.cap))
  have HR := Lib.hid (fun V (hb : Below w.heap.size w V) => Right_any20 n x V (h.later hb))
  have HD := Lib.hid (fun V (hr : rightX 20 x.t = true) (hb : Below w.heap.size w V) => text_is n x V (hT.below hb) (h.later hb) (good_of hr hs) hc)
  have HB0 : Hid (∀ o, Below w.heap.size w (w.alloc o)) := fun o => (Below.refl _ w).alloc (Nat.le_refl _) _
  rw [XM.v_eq] at HR HD ⊢
  unfold writeV
  obtain ⟨r, hr⟩ : ∃ r, rightX 20 x.t = r := ⟨_, rfl⟩
  rw [hr] at HR HD ⊢
  generalize textX x.t = T at *
  clear h hT hs hc hr
  obtain ⟨x0, x1, x2, x3, x4, x5, x6, x7⟩ := HX.out
  cases r with
  | false =>
    rw [if_neg (by simp)]
    go_enter Tryd.func23, Tryd.ntmps23
    go_wp2_with fail
    refine (HR.out _ (HB0.out _)).mono ?_
    rintro e w1 ⟨rfl, hb1⟩
    have HB1 := Lib.hid ((HB0.out _).trans (hb1.mono (Nat.le_of_lt (box8 _ _))))
    clear hb1 x0 x1 x2 x3 x4 x5 x6 x7
    go_wp2
    go_ret2
    exact ⟨rfl, HB1.out⟩
  | true =>
    rw [if_pos rfl]
    go_enter Tryd.func23, Tryd.ntmps23
    go_wp2_with fail
    refine (HR.out _ (HB0.out _)).mono ?_
    rintro e w1 ⟨rfl, hb1⟩
    have HB1 := Lib.hid ((HB0.out _).trans (hb1.mono (Nat.le_of_lt (box8 _ _))))
    clear x0 x1 x2 x3 x4 x5 x6 x7
    obtain ⟨x0, x1, x2, x3, x4, x5, x6, x7⟩ := HX.out.later (box8 _ _) hb1
    have HY := Lib.hid (HD.out w1 (by trivial) HB1.out)
    clear hb1 HD HR
    go_wp2_with fail
    refine HY.out.mono ?_
    rintro e w2 ⟨rfl, hb2⟩
    have HB2 := Lib.hid (HB1.out.trans (hb2.mono HB1.out.size))
    clear hb2 HY x0 x1 x2 x3 x4 x5 x6 x7
    go_wp2
    go_ret2
    exact ⟨rfl, HB2.out⟩

theorem fits_all (p : Lb → Nat → Bool) (n : Nat) (e : Ex) (h : e.fits p n = true) : e.allB p = true := by
  rw [Rose.fits_eq, Bool.and_eq_true] at h; exact h.1

theorem one20_any (w : World) : Calls Tryd.prog 32 #[] w fun e w' => e = .returned (.agg #[.int .i64 1, .int .u8 1, .int .i64 1, .string ⟨#[]⟩, .string ⟨#[]⟩, .string ⟨#[]⟩, .string ⟨#[]⟩, .slice none 0 0]) ∧ Below w.heap.size w w' := by
  go_enter Tryd.func32, Tryd.ntmps32
  go_wp2
  exact bodyPost_ret (v := .agg #[.int .i64 1, .int .u8 1, .int .i64 1, .string ⟨#[]⟩, .string ⟨#[]⟩, .string ⟨#[]⟩, .string ⟨#[]⟩, .slice none 0 0]) (by simp [results, Tryd.results32, go_sem]) rfl ⟨rfl, (Below.refl _ w).alloc (Nat.le_refl _) _⟩
end Go.Proofs.YtjhdlbkcpdfpcaaDoor

/- The walk of law 20's alive. -/
set_option linter.unusedSimpArgs false
set_option linter.unusedVariables false
set_option maxRecDepth 100000
namespace Go.Proofs.YtjhdlbkcpdfpcaaDoor
open Go.RowKit

abbrev c16 : List Value := [.int .i64 2, .int .u8 0, .int .i64 0, .string ⟨#[]⟩, .string ⟨#[]⟩, .string ⟨#[97]⟩, .string ⟨#[]⟩, .slice none 0 0, .int .i64 1, .int .u8 1, .int .i64 1, .string ⟨#[]⟩, .string ⟨#[]⟩, .string ⟨#[]⟩, .string ⟨#[]⟩, .slice none 0 0]
theorem al_fair (kd : Int) (v : Vl) (tb nm op : ByteArray) (h1 : -9223372036854775808 ≤ kd ∧ kd ≤ 9223372036854775807) (h2 : v.k < 256 ∧ (-9223372036854775808 ≤ v.n ∧ v.n ≤ 9223372036854775807)) (h3 : v.s.size ≤ 100 ∧ tb.size ≤ 100 ∧ nm.size ≤ 100 ∧ op.size ≤ 100) : Lb.fair ⟨kd, v, tb, nm, op⟩ :=
  ⟨h1, h2.1, h2.2, by have := h3.1; show v.s.size ≤ _; omega, by have := h3.2.1; show tb.size ≤ _; omega, by have := h3.2.2.1; show nm.size ≤ _; omega, by have := h3.2.2.2; show op.size ≤ _; omega⟩

/-- The expression a + 1 has been laid. -/
structure AlE (w W : World) (B A : Nat) : Prop where
  at_ : XAt W.heap.size W 3 ⟨eT, some ⟨A, 0, none⟩, 2⟩
  box : Slot8 W B (.int .i64 4) (.int .u8 0) (.int .i64 0) (.string ⟨#[]⟩) (.string ⟨#[]⟩) (.string ⟨#[]⟩) (.string ⟨#[43]⟩) (.slice (some ⟨A, 0, none⟩) 2 2)
  lt : B < W.heap.size
  bel : Below w.heap.size w W
theorem AlE.later {w W W' : World} {B A : Nat} (h : AlE w W B A) (hb : Below W.heap.size W W') : AlE w W' B A :=
  ⟨h.at_.later hb, h.box.later h.lt hb, Nat.lt_of_lt_of_le h.lt hb.size, h.bel.trans (hb.mono h.bel.size)⟩

theorem al_end {w W3 : World} {B A : Nat} (hB : Blk W3 B 39 zeroXc) (hA : ∀ (j : Nat) v, c16[j]? = some v → W3.cell? ⟨A, j, none⟩ = some v) (hAlt : A < W3.heap.size) (hAB : A ≠ B) (hb : Below w.heap.size w W3) (hBw : w.heap.size ≤ B) :
    (storeVar 39 ⟨B, 0, none⟩ (.agg #[.int .i64 4, .int .u8 0, .int .i64 0, .string ⟨#[]⟩, .string ⟨#[]⟩, .string ⟨#[]⟩, .string ⟨#[43]⟩, .slice (some ⟨A, 0, none⟩) 2 2])).run Tryd.prog W3 = .ok () (W3.setRow B #[.int .i64 4, .int .u8 0, .int .i64 0, .string ⟨#[]⟩, .string ⟨#[]⟩, .string ⟨#[]⟩, .string ⟨#[43]⟩, .slice (some ⟨A, 0, none⟩) 2 2]) ∧ AlE w (W3.setRow B #[.int .i64 4, .int .u8 0, .int .i64 0, .string ⟨#[]⟩, .string ⟨#[]⟩, .string ⟨#[]⟩, .string ⟨#[43]⟩, .slice (some ⟨A, 0, none⟩) 2 2]) B A := by
  refine ⟨run_storeVar_row _ _ _ 39 _ _ hB (by rw [info_exS]; rfl) rfl (by simp [Value.oneCell']), ?_⟩
  have hN : Blk (W3.setRow B #[.int .i64 4, .int .u8 0, .int .i64 0, .string ⟨#[]⟩, .string ⟨#[]⟩, .string ⟨#[]⟩, .string ⟨#[43]⟩, .slice (some ⟨A, 0, none⟩) 2 2]) B 39 #[.int .i64 4, .int .u8 0, .int .i64 0, .string ⟨#[]⟩, .string ⟨#[]⟩, .string ⟨#[]⟩, .string ⟨#[43]⟩, .slice (some ⟨A, 0, none⟩) 2 2] := Blk.setRow hB
  have hc : Chg [B] W3 (W3.setRow B #[.int .i64 4, .int .u8 0, .int .i64 0, .string ⟨#[]⟩, .string ⟨#[]⟩, .string ⟨#[]⟩, .string ⟨#[43]⟩, .slice (some ⟨A, 0, none⟩) 2 2]) := (Chg.refl _ _).setRow (.inl (by simp)) _
  have hA2 : ∀ (j : Nat) v, c16[j]? = some v → (W3.setRow B #[.int .i64 4, .int .u8 0, .int .i64 0, .string ⟨#[]⟩, .string ⟨#[]⟩, .string ⟨#[]⟩, .string ⟨#[43]⟩, .slice (some ⟨A, 0, none⟩) 2 2]).cell? ⟨A, j, none⟩ = some v := fun j v hj => (hc.cell hAlt (by simp; exact hAB)).trans (hA j v hj)
  have hsz := hc.size
  refine ⟨⟨al_fair _ _ _ _ _ (by decide) (by decide) (by decide), (show (2 : Nat) ≤ 2 by decide), (show (2 : Nat) ≤ 9223372036854775807 by decide), [⟨aT, none, 0⟩, ⟨oneT, none, 0⟩], rfl, .inr ⟨A, 0, rfl, by omega, fun i v hi => ?_⟩, ?_⟩, ?_, hN.lt, hb.trans (hc.below hb.size (by simp; exact hBw))⟩
  · rw [Nat.zero_add]; exact hA2 i v hi
  · intro y hy
    rcases List.mem_cons.1 hy with rfl | hy
    · exact ⟨al_fair _ _ _ _ _ (by decide) (by decide) (by decide), by decide, by decide, [], rfl, .inl rfl, fun z hz => by cases hz⟩
    · rw [List.mem_singleton.1 hy]
      exact ⟨al_fair _ _ _ _ _ (by decide) (by decide) (by decide), by decide, by decide, [], rfl, .inl rfl, fun z hz => by cases hz⟩
  · exact ⟨(hN.cell 0).trans rfl, (hN.cell 1).trans rfl, (hN.cell 2).trans rfl, (hN.cell 3).trans rfl, (hN.cell 4).trans rfl, (hN.cell 5).trans rfl, (hN.cell 6).trans rfl, (hN.cell 7).trans rfl⟩

set_option maxHeartbeats 8000000 in
theorem alive20_any (w : World) (hT : Pre4 w) : Calls Tryd.prog 14 #[] w fun e w' => e = .returned (.bool true) ∧ Below w.heap.size w w' := by
  have HO := Lib.hid (fun V => one20_any V)
  have HWr : Hid (∀ (V : World) (B A : Nat), AlE w V B A → Calls Tryd.prog 23 #[.agg #[.int .i64 4, .int .u8 0, .int .i64 0, .string ⟨#[]⟩, .string ⟨#[]⟩, .string ⟨#[]⟩, .string ⟨#[43]⟩, .slice (some ⟨A, 0, none⟩) 2 2]] V fun e w' => e = .returned (.tuple #[.string ⟨#[40, 97, 32, 43, 32, 49, 41]⟩, .int .i64 0]) ∧ Below V.heap.size V w') := fun V B A h => by
    have := sWrite_any20 3 ⟨eT, some ⟨A, 0, none⟩, 2⟩ V (hT.below h.bel) h.at_ (fits_all _ _ _ al_fits) (by show eT.count ≤ _; rw [al_count]; omega)
    have e1 : writeV eT = (⟨#[40, 97, 32, 43, 32, 49, 41]⟩, 0) := by unfold writeV; rw [if_pos al_right, al_text]
    rw [XM.v_eq] at this
    simp only [e1] at this
    exact this
  have HCo : Hid (∀ (V : World) (B A : Nat), AlE w V B A → Calls Tryd.prog 16 #[.agg #[.int .i64 4, .int .u8 0, .int .i64 0, .string ⟨#[]⟩, .string ⟨#[]⟩, .string ⟨#[]⟩, .string ⟨#[43]⟩, .slice (some ⟨A, 0, none⟩) 2 2]] V fun e w' => ∃ (a : Option Addr) (cap : Nat), e = .returned (.slice a 1 cap) ∧ Below V.heap.size V w') := fun V B A h => by
    have := cols_any 3 ⟨eT, some ⟨A, 0, none⟩, 2⟩ V h.at_ (by show eT.count ≤ _; rw [al_count]; omega)
    rw [XM.v_eq] at this
    refine this.mono ?_
    rintro e w' ⟨a, cap, L, he, -, -, hL, -, -, hb⟩
    have e1 : (if rightX 20 eT = true then pickX 2 true eT else []) = [aT] := by rw [if_pos al_right, al_pick]
    have hl : L.length = 1 := by
      have h2 := congrArg List.length hL
      rw [List.length_map] at h2
      rw [h2]
      show (if rightX 20 eT = true then pickX 2 true eT else []).length = 1
      rw [e1]; rfl
    exact ⟨a, cap, by rw [he, hl], hb⟩
  have HSe : Hid (∀ (V : World), Below w.heap.size w V → Calls Tryd.prog 23 #[.agg #[.int .i64 2, .int .u8 0, .int .i64 0, .string ⟨#[]⟩, .string ⟨#[]⟩, .string ⟨#[115, 101, 108, 101, 99, 116]⟩, .string ⟨#[]⟩, .slice none 0 0]] V fun e w' => e = .returned (.tuple #[.string ⟨#[]⟩, .int .i64 3]) ∧ Below V.heap.size V w') := fun V hb => by
    have := sWrite_any20 1 ⟨selT, none, 0⟩ V (hT.below hb) ⟨al_fair _ _ _ _ _ (by decide) (by decide) (by decide), by decide, by decide, [], rfl, .inl rfl, fun z hz => by cases hz⟩ (fits_all _ _ _ al_fitsS) (by show selT.count ≤ _; rw [al_countS]; omega)
    have e1 : writeV selT = (⟨#[]⟩, 3) := by unfold writeV; rw [if_neg (by rw [al_sel]; simp)]
    rw [XM.v_eq] at this
    simp only [e1] at this
    exact this
  have HDe : Hid (∀ (V : World) (B A : Nat), AlE w V B A → Calls Tryd.prog 21 #[.agg #[.int .i64 4, .int .u8 0, .int .i64 0, .string ⟨#[]⟩, .string ⟨#[]⟩, .string ⟨#[]⟩, .string ⟨#[43]⟩, .slice (some ⟨A, 0, none⟩) 2 2]] V fun e w' => e = .returned (.int .i64 2) ∧ Below V.heap.size V w') := fun V B A h => by
    have := Deep_any 3 ⟨eT, some ⟨A, 0, none⟩, 2⟩ V h.at_
    rw [XM.v_eq] at this
    simp only [al_depth] at this
    exact this
  have HOf : Hid (∀ V, Calls Tryd.prog 33 #[.string ⟨#[111, 102]⟩] V fun e w' => e = .returned (.bool true) ∧ V = w') := fun V => by
    have := Reserved_any ⟨#[111, 102]⟩ V; rw [al_of] at this; exact this
  have HRa : Hid (∀ V, Calls Tryd.prog 33 #[.string ⟨#[97]⟩] V fun e w' => e = .returned (.bool false) ∧ V = w') := fun V => by
    have := Reserved_any ⟨#[97]⟩ V; rw [al_a] at this; exact this
  have HX := Lib.hid (Slot8.new w 39 (.int .i64 2) (.int .u8 0) (.int .i64 0) (.string ⟨#[]⟩) (.string ⟨#[]⟩) (.string ⟨#[97]⟩) (.string ⟨#[]⟩) (.slice none 0 0))
  obtain ⟨w0, hw0⟩ : ∃ w0, w.alloc (.cells #[.int .i64 2, .int .u8 0, .int .i64 0, .string ⟨#[]⟩, .string ⟨#[]⟩, .string ⟨#[97]⟩, .string ⟨#[]⟩, .slice none 0 0] 39) = w0 := ⟨_, rfl⟩
  have HB0 : Hid (Below w.heap.size w w0) := by rw [← hw0]; exact (Below.refl _ w).alloc (Nat.le_refl _) _
  have hs0 : w0.heap.size = w.heap.size + 1 := by rw [← hw0]; simp
  rw [hw0] at HX
  have HZ := Lib.hid hs0
  have b0 : ∀ V, Chg [] w0.drew V → V.cell? ⟨w.heap.size, 0, none⟩ = some (.int .i64 2) := fun V hV => (hV.cell (b := w.heap.size) (by show w.heap.size < w0.heap.size; have := HZ.out; omega) (by simp)).trans HX.out.c0
  have b1 : ∀ V, Chg [] w0.drew V → V.cell? ⟨w.heap.size, 1, none⟩ = some (.int .u8 0) := fun V hV => (hV.cell (b := w.heap.size) (by show w.heap.size < w0.heap.size; have := HZ.out; omega) (by simp)).trans HX.out.c1
  have b2 : ∀ V, Chg [] w0.drew V → V.cell? ⟨w.heap.size, 2, none⟩ = some (.int .i64 0) := fun V hV => (hV.cell (b := w.heap.size) (by show w.heap.size < w0.heap.size; have := HZ.out; omega) (by simp)).trans HX.out.c2
  have b3 : ∀ V, Chg [] w0.drew V → V.cell? ⟨w.heap.size, 3, none⟩ = some (.string ⟨#[]⟩) := fun V hV => (hV.cell (b := w.heap.size) (by show w.heap.size < w0.heap.size; have := HZ.out; omega) (by simp)).trans HX.out.c3
  have b4 : ∀ V, Chg [] w0.drew V → V.cell? ⟨w.heap.size, 4, none⟩ = some (.string ⟨#[]⟩) := fun V hV => (hV.cell (b := w.heap.size) (by show w.heap.size < w0.heap.size; have := HZ.out; omega) (by simp)).trans HX.out.c4
  have b5 : ∀ V, Chg [] w0.drew V → V.cell? ⟨w.heap.size, 5, none⟩ = some (.string ⟨#[97]⟩) := fun V hV => (hV.cell (b := w.heap.size) (by show w.heap.size < w0.heap.size; have := HZ.out; omega) (by simp)).trans HX.out.c5
  have b6 : ∀ V, Chg [] w0.drew V → V.cell? ⟨w.heap.size, 6, none⟩ = some (.string ⟨#[]⟩) := fun V hV => (hV.cell (b := w.heap.size) (by show w.heap.size < w0.heap.size; have := HZ.out; omega) (by simp)).trans HX.out.c6
  have b7 : ∀ V, Chg [] w0.drew V → V.cell? ⟨w.heap.size, 7, none⟩ = some (.slice none 0 0) := fun V hV => (hV.cell (b := w.heap.size) (by show w.heap.size < w0.heap.size; have := HZ.out; omega) (by simp)).trans HX.out.c7
  have HW0 := Lib.hid hw0
  clear hT hs0 hw0
  go_enter Tryd.func14, Tryd.ntmps14
  go_wp2_with fail
  rw [HW0.out]
  refine wp_region_tail ([]) [5] (.free 0 (.two 1 4 (.two 2 4 (.free 3 (.one 4 (.last 5 (.nil)))) (.one 2 (.free 3 (.last 5 (.nil))))) (.one 1 (.one 2 (.free 3 (.last 5 (.nil))))))) (by kernel_rfl) (by kernel_rfl) (by kernel_rfl) (by kernel_rfl) ?_
  repeat (first | (refine wpL_F (v := ?_) rfl (by rfl) (fun w' hL => ?_) ?_; rotate_left; (solve | (go_simp; with_reducible rfl) | go_simp); try simp only [Act.put, List.setIfInBounds_toArray, List.set_cons_zero, List.set_cons_succ]) | (refine wpL_G rfl (by rfl) ?_; try simp only [Act.put, List.setIfInBounds_toArray, List.set_cons_zero, List.set_cons_succ]))
  refine wpL_two ?_ ?_
  · skip
    refine wpL_C rfl (by rfl) ?_
    go_simp
    refine (HO.out _).mono ?_
    rintro e w1 ⟨rfl, hb1⟩
    refine ⟨below_chg hb1, ?_⟩
    try simp only [Act.put, List.setIfInBounds_toArray, List.set_cons_zero, List.set_cons_succ]
    refine wpL_two ?_ ?_
    · skip
      refine wpL_C rfl (by rfl) ?_
      go_simp
      refine ⟨(Chg.refl _ _).alloc _, ?_⟩
      try simp only [Act.put, List.setIfInBounds_toArray, List.set_cons_zero, List.set_cons_succ]
      repeat (first | (refine wpL_F (v := ?_) rfl (by rfl) (fun w' hL => ?_) ?_; rotate_left; (solve | (go_simp; with_reducible rfl) | go_simp); try simp only [Act.put, List.setIfInBounds_toArray, List.set_cons_zero, List.set_cons_succ]) | (refine wpL_G rfl (by rfl) ?_; try simp only [Act.put, List.setIfInBounds_toArray, List.set_cons_zero, List.set_cons_succ]))
      refine wpL_C rfl (by rfl) ?_
      go_simp
      refine ⟨(Chg.refl _ _).alloc _, ?_⟩
      try simp only [Act.put, List.setIfInBounds_toArray, List.set_cons_zero, List.set_cons_succ]
      obtain ⟨W3, hW3⟩ : ∃ W3, (w1.alloc (.cells #[.int .i64 2, .int .u8 0, .int .i64 0, .string ⟨#[]⟩, .string ⟨#[]⟩, .string ⟨#[97]⟩, .string ⟨#[]⟩, .slice none 0 0, .int .i64 1, .int .u8 1, .int .i64 1, .string ⟨#[]⟩, .string ⟨#[]⟩, .string ⟨#[]⟩, .string ⟨#[]⟩, .slice none 0 0] 39)).alloc (.cells #[.int .i64 0, .int .u8 0, .int .i64 0, .string ⟨#[]⟩, .string ⟨#[]⟩, .string ⟨#[]⟩, .string ⟨#[]⟩, .slice none 0 0] 39) = W3 := ⟨_, rfl⟩
      try rw [hW3]
      have hEnd := al_end (w := w) (W3 := W3) (B := w1.heap.size + 1) (A := w1.heap.size) (by rw [← hW3]; have := Blk.new (w1.alloc (.cells #[.int .i64 2, .int .u8 0, .int .i64 0, .string ⟨#[]⟩, .string ⟨#[]⟩, .string ⟨#[97]⟩, .string ⟨#[]⟩, .slice none 0 0, .int .i64 1, .int .u8 1, .int .i64 1, .string ⟨#[]⟩, .string ⟨#[]⟩, .string ⟨#[]⟩, .string ⟨#[]⟩, .slice none 0 0] 39)) 39 zeroXc; rw [show (w1.alloc (.cells #[.int .i64 2, .int .u8 0, .int .i64 0, .string ⟨#[]⟩, .string ⟨#[]⟩, .string ⟨#[97]⟩, .string ⟨#[]⟩, .slice none 0 0, .int .i64 1, .int .u8 1, .int .i64 1, .string ⟨#[]⟩, .string ⟨#[]⟩, .string ⟨#[]⟩, .string ⟨#[]⟩, .slice none 0 0] 39)).heap.size = w1.heap.size + 1 by simp] at this; exact this) (fun j v hj => by rw [← hW3]; exact ((((Below.refl _ (w1.alloc (.cells #[.int .i64 2, .int .u8 0, .int .i64 0, .string ⟨#[]⟩, .string ⟨#[]⟩, .string ⟨#[97]⟩, .string ⟨#[]⟩, .slice none 0 0, .int .i64 1, .int .u8 1, .int .i64 1, .string ⟨#[]⟩, .string ⟨#[]⟩, .string ⟨#[]⟩, .string ⟨#[]⟩, .slice none 0 0] 39))).alloc (Nat.le_refl _) _).cell (p := ⟨w1.heap.size, j, none⟩) (by simp))).trans (by rw [World.cell?_alloc_at _ _ _ _ rfl]; simpa using hj)) (by rw [← hW3]; simp; omega) (by omega) (by rw [← hW3]; have h1 := hb1.size; have h2 : w0.drew.heap.size = w0.heap.size := rfl; have h3 := HZ.out; exact ((HB0.out.drew.trans (hb1.mono HB0.out.drew.size)).alloc (by omega) _).alloc (by simp; omega) _) (by have h1 := hb1.size; have h2 : w0.drew.heap.size = w0.heap.size := rfl; have h3 := HZ.out; omega)
      have HSt := Lib.hid hEnd.1
      have HE := Lib.hid hEnd.2
      clear hEnd hb1 b0 b1 b2 b3 b4 b5 b6 b7
      refine wpL_X rfl (by rfl) ?_
      refine wp_skp (exec_store rfl rfl rfl HSt.out) ?_
      try simp only [Act.put, List.setIfInBounds_toArray, List.set_cons_zero, List.set_cons_succ]
      refine wpL_nil ?_
      try go_simp
      try simp only [NoPanic]
      obtain ⟨x0q, x1q, x2q, x3q, x4q, x5q, x6q, x7q⟩ := HE.out.box
      go_wp2_with fail
      refine (HWr.out _ _ _ HE.out).mono ?_
      rintro e x1 ⟨rfl, hb1⟩
      have HE1 := Lib.hid (HE.out.later hb1)
      clear x0q x1q x2q x3q x4q x5q x6q x7q hb1
      obtain ⟨x0q, x1q, x2q, x3q, x4q, x5q, x6q, x7q⟩ := HE1.out.box
      go_wp2_with fail
      refine (HCo.out _ _ _ HE1.out).mono ?_
      rintro e x2 ⟨ac, cc, rfl, hb2⟩
      have HE2 := Lib.hid (HE1.out.later hb2)
      clear x0q x1q x2q x3q x4q x5q x6q x7q hb2 HE1
      go_wp2_with fail
      refine (HSe.out _ HE2.out.bel).mono ?_
      rintro e x3 ⟨rfl, hb3⟩
      have HE3 := Lib.hid (HE2.out.later hb3)
      clear hb3 HE2
      obtain ⟨x0q, x1q, x2q, x3q, x4q, x5q, x6q, x7q⟩ := HE3.out.box
      go_wp2_with fail
      refine (HDe.out _ _ _ HE3.out).mono ?_
      rintro e x4 ⟨rfl, hb4⟩
      have HE4 := Lib.hid (HE3.out.later hb4)
      clear x0q x1q x2q x3q x4q x5q x6q x7q hb4 HE3
      go_wp2_with fail
      refine (HOf.out _).mono ?_
      rintro e x5 ⟨rfl, rfl⟩
      go_wp2_with fail
      refine (HRa.out _).mono ?_
      rintro e x6 ⟨rfl, rfl⟩
      go_wp2
      go_ret
      exact ⟨rfl, HE4.out.bel⟩
    · skip
      refine wpL_C rfl (by rfl) ?_
      go_simp
      refine ⟨(Chg.refl _ _).alloc _, ?_⟩
      try simp only [Act.put, List.setIfInBounds_toArray, List.set_cons_zero, List.set_cons_succ]
      refine wpL_C rfl (by rfl) ?_
      go_simp
      refine ⟨(Chg.refl _ _).alloc _, ?_⟩
      try simp only [Act.put, List.setIfInBounds_toArray, List.set_cons_zero, List.set_cons_succ]
      repeat (first | (refine wpL_F (v := ?_) rfl (by rfl) (fun w' hL => ?_) ?_; rotate_left; (solve | (go_simp; with_reducible rfl) | go_simp); try simp only [Act.put, List.setIfInBounds_toArray, List.set_cons_zero, List.set_cons_succ]) | (refine wpL_G rfl (by rfl) ?_; try simp only [Act.put, List.setIfInBounds_toArray, List.set_cons_zero, List.set_cons_succ]))
      obtain ⟨W3, hW3⟩ : ∃ W3, (w1.alloc (.cells #[.int .i64 0, .int .u8 0, .int .i64 0, .string ⟨#[]⟩, .string ⟨#[]⟩, .string ⟨#[]⟩, .string ⟨#[]⟩, .slice none 0 0] 39)).alloc (.cells #[.int .i64 2, .int .u8 0, .int .i64 0, .string ⟨#[]⟩, .string ⟨#[]⟩, .string ⟨#[97]⟩, .string ⟨#[]⟩, .slice none 0 0, .int .i64 1, .int .u8 1, .int .i64 1, .string ⟨#[]⟩, .string ⟨#[]⟩, .string ⟨#[]⟩, .string ⟨#[]⟩, .slice none 0 0] 39) = W3 := ⟨_, rfl⟩
      try rw [hW3]
      have hEnd := al_end (w := w) (W3 := W3) (B := w1.heap.size) (A := w1.heap.size + 1) (by rw [← hW3]; exact (Blk.new w1 39 zeroXc).alloc _) (fun j v hj => by rw [← hW3, World.cell?_alloc_at (w := w1.alloc (.cells #[.int .i64 0, .int .u8 0, .int .i64 0, .string ⟨#[]⟩, .string ⟨#[]⟩, .string ⟨#[]⟩, .string ⟨#[]⟩, .slice none 0 0] 39)) _ _ _ _ (show w1.heap.size + 1 = (w1.alloc (.cells #[.int .i64 0, .int .u8 0, .int .i64 0, .string ⟨#[]⟩, .string ⟨#[]⟩, .string ⟨#[]⟩, .string ⟨#[]⟩, .slice none 0 0] 39)).heap.size by simp)]; simpa using hj) (by rw [← hW3]; simp) (by omega) (by rw [← hW3]; have h1 := hb1.size; have h2 : w0.drew.heap.size = w0.heap.size := rfl; have h3 := HZ.out; exact ((HB0.out.drew.trans (hb1.mono HB0.out.drew.size)).alloc (by omega) _).alloc (by simp; omega) _) (by have h1 := hb1.size; have h2 : w0.drew.heap.size = w0.heap.size := rfl; have h3 := HZ.out; omega)
      have HSt := Lib.hid hEnd.1
      have HE := Lib.hid hEnd.2
      clear hEnd hb1 b0 b1 b2 b3 b4 b5 b6 b7
      refine wpL_X rfl (by rfl) ?_
      refine wp_skp (exec_store rfl rfl rfl HSt.out) ?_
      try simp only [Act.put, List.setIfInBounds_toArray, List.set_cons_zero, List.set_cons_succ]
      refine wpL_nil ?_
      try go_simp
      try simp only [NoPanic]
      obtain ⟨x0q, x1q, x2q, x3q, x4q, x5q, x6q, x7q⟩ := HE.out.box
      go_wp2_with fail
      refine (HWr.out _ _ _ HE.out).mono ?_
      rintro e x1 ⟨rfl, hb1⟩
      have HE1 := Lib.hid (HE.out.later hb1)
      clear x0q x1q x2q x3q x4q x5q x6q x7q hb1
      obtain ⟨x0q, x1q, x2q, x3q, x4q, x5q, x6q, x7q⟩ := HE1.out.box
      go_wp2_with fail
      refine (HCo.out _ _ _ HE1.out).mono ?_
      rintro e x2 ⟨ac, cc, rfl, hb2⟩
      have HE2 := Lib.hid (HE1.out.later hb2)
      clear x0q x1q x2q x3q x4q x5q x6q x7q hb2 HE1
      go_wp2_with fail
      refine (HSe.out _ HE2.out.bel).mono ?_
      rintro e x3 ⟨rfl, hb3⟩
      have HE3 := Lib.hid (HE2.out.later hb3)
      clear hb3 HE2
      obtain ⟨x0q, x1q, x2q, x3q, x4q, x5q, x6q, x7q⟩ := HE3.out.box
      go_wp2_with fail
      refine (HDe.out _ _ _ HE3.out).mono ?_
      rintro e x4 ⟨rfl, hb4⟩
      have HE4 := Lib.hid (HE3.out.later hb4)
      clear x0q x1q x2q x3q x4q x5q x6q x7q hb4 HE3
      go_wp2_with fail
      refine (HOf.out _).mono ?_
      rintro e x5 ⟨rfl, rfl⟩
      go_wp2_with fail
      refine (HRa.out _).mono ?_
      rintro e x6 ⟨rfl, rfl⟩
      go_wp2
      go_ret
      exact ⟨rfl, HE4.out.bel⟩
  · skip
    refine wpL_C rfl (by rfl) ?_
    go_simp
    refine ⟨(Chg.refl _ _).alloc _, ?_⟩
    try simp only [Act.put, List.setIfInBounds_toArray, List.set_cons_zero, List.set_cons_succ]
    obtain ⟨wz, hwz⟩ : ∃ wz, (w0.alloc (.cells #[.int .i64 0, .int .u8 0, .int .i64 0, .string ⟨#[]⟩, .string ⟨#[]⟩, .string ⟨#[]⟩, .string ⟨#[]⟩, .slice none 0 0] 39)).drew = wz := ⟨_, rfl⟩
    try rw [hwz]
    refine wpL_C rfl (by rfl) ?_
    go_simp
    refine (HO.out _).mono ?_
    rintro e w1 ⟨rfl, hb1⟩
    refine ⟨below_chg hb1, ?_⟩
    try simp only [Act.put, List.setIfInBounds_toArray, List.set_cons_zero, List.set_cons_succ]
    refine wpL_C rfl (by rfl) ?_
    go_simp
    refine ⟨(Chg.refl _ _).alloc _, ?_⟩
    try simp only [Act.put, List.setIfInBounds_toArray, List.set_cons_zero, List.set_cons_succ]
    repeat (first | (refine wpL_F (v := ?_) rfl (by rfl) (fun w' hL => ?_) ?_; rotate_left; (solve | (go_simp; with_reducible rfl) | go_simp); try simp only [Act.put, List.setIfInBounds_toArray, List.set_cons_zero, List.set_cons_succ]) | (refine wpL_G rfl (by rfl) ?_; try simp only [Act.put, List.setIfInBounds_toArray, List.set_cons_zero, List.set_cons_succ]))
    obtain ⟨W3, hW3⟩ : ∃ W3, w1.alloc (.cells #[.int .i64 2, .int .u8 0, .int .i64 0, .string ⟨#[]⟩, .string ⟨#[]⟩, .string ⟨#[97]⟩, .string ⟨#[]⟩, .slice none 0 0, .int .i64 1, .int .u8 1, .int .i64 1, .string ⟨#[]⟩, .string ⟨#[]⟩, .string ⟨#[]⟩, .string ⟨#[]⟩, .slice none 0 0] 39) = W3 := ⟨_, rfl⟩
    try rw [hW3]
    have hEnd := al_end (w := w) (W3 := W3) (B := w0.heap.size) (A := w1.heap.size) (by rw [← hW3]; have h4 : Blk wz w0.heap.size 39 zeroXc := (by rw [← hwz]; exact (Blk.new w0 39 zeroXc)); exact Blk.alloc (show Blk w1 w0.heap.size 39 zeroXc from (hb1.block _ h4.lt).trans h4) _) (fun j v hj => by rw [← hW3, World.cell?_alloc_at _ _ _ _ rfl]; simpa using hj) (by rw [← hW3]; simp) (by have h1 := hb1.size; have : w0.heap.size < wz.heap.size := (by rw [← hwz]; show w0.heap.size < (w0.alloc _).heap.size; simp); omega) (by rw [← hW3]; have h1 := hb1.size; have h5 : Below w.heap.size w wz := (by rw [← hwz]; exact (HB0.out.alloc HB0.out.size _).drew); exact (h5.trans (hb1.mono h5.size)).alloc (Nat.le_trans h5.size h1) _) (by have h3 := HZ.out; omega)
    have HSt := Lib.hid hEnd.1
    have HE := Lib.hid hEnd.2
    clear hEnd hb1 b0 b1 b2 b3 b4 b5 b6 b7
    refine wpL_X rfl (by rfl) ?_
    refine wp_skp (exec_store rfl rfl rfl HSt.out) ?_
    try simp only [Act.put, List.setIfInBounds_toArray, List.set_cons_zero, List.set_cons_succ]
    refine wpL_nil ?_
    try go_simp
    try simp only [NoPanic]
    obtain ⟨x0q, x1q, x2q, x3q, x4q, x5q, x6q, x7q⟩ := HE.out.box
    go_wp2_with fail
    refine (HWr.out _ _ _ HE.out).mono ?_
    rintro e x1 ⟨rfl, hb1⟩
    have HE1 := Lib.hid (HE.out.later hb1)
    clear x0q x1q x2q x3q x4q x5q x6q x7q hb1
    obtain ⟨x0q, x1q, x2q, x3q, x4q, x5q, x6q, x7q⟩ := HE1.out.box
    go_wp2_with fail
    refine (HCo.out _ _ _ HE1.out).mono ?_
    rintro e x2 ⟨ac, cc, rfl, hb2⟩
    have HE2 := Lib.hid (HE1.out.later hb2)
    clear x0q x1q x2q x3q x4q x5q x6q x7q hb2 HE1
    go_wp2_with fail
    refine (HSe.out _ HE2.out.bel).mono ?_
    rintro e x3 ⟨rfl, hb3⟩
    have HE3 := Lib.hid (HE2.out.later hb3)
    clear hb3 HE2
    obtain ⟨x0q, x1q, x2q, x3q, x4q, x5q, x6q, x7q⟩ := HE3.out.box
    go_wp2_with fail
    refine (HDe.out _ _ _ HE3.out).mono ?_
    rintro e x4 ⟨rfl, hb4⟩
    have HE4 := Lib.hid (HE3.out.later hb4)
    clear x0q x1q x2q x3q x4q x5q x6q x7q hb4 HE3
    go_wp2_with fail
    refine (HOf.out _).mono ?_
    rintro e x5 ⟨rfl, rfl⟩
    go_wp2_with fail
    refine (HRa.out _).mono ?_
    rintro e x6 ⟨rfl, rfl⟩
    go_wp2
    go_ret
    exact ⟨rfl, HE4.out.bel⟩
end Go.Proofs.YtjhdlbkcpdfpcaaDoor

/- The walk of the law SyntaxDepths. -/
set_option linter.unusedSimpArgs false
set_option linter.unusedVariables false
set_option maxRecDepth 100000
namespace Go.Proofs.YtjhdlbkcpdfpcaaDoor
open Go.RowKit

/-- 'not' around an expression. -/
def aroundT (e : Ex) : Ex := .mk ⟨3, vZ, ⟨#[]⟩, ⟨#[]⟩, ⟨#[110, 111, 116]⟩⟩ [e]
theorem around_depth (e : Ex) : (aroundT e).depth = e.depth + 1 := by
  rw [Rose.depth_eq]; simp [aroundT, Rose.args, maxL]; omega
theorem around_ok : Lb.ok ⟨3, vZ, ⟨#[]⟩, ⟨#[]⟩, ⟨#[110, 111, 116]⟩⟩ 1 = true := by decide +kernel
theorem around_right (e : Ex) : rightX 20 (aroundT e) = (rightX 20 e && decide (min e.depth 21 < 20)) := by
  rw [rightX_eq, rightX_eq, around_depth, Rose.allB_eq]
  show (Lb.ok ⟨3, vZ, ⟨#[]⟩, ⟨#[]⟩, ⟨#[110, 111, 116]⟩⟩ 1 && [e].all (Rose.allB Lb.ok) && _) = _
  rw [around_ok]
  simp only [List.all_cons, List.all_nil, Bool.and_true, Bool.true_and]
  cases e.allB Lb.ok with
  | false => rfl
  | true =>
    rw [Bool.eq_iff_iff]
    simp only [Bool.true_and, Bool.and_eq_true, decide_eq_true_iff]
    omega

/-- The expression and what is around it lie there. -/
structure DepE (w W : World) (n A C : Nat) (x : XM) : Prop where
  e : Slot8 W w.heap.size (.int .i64 x.t.lab.kd) (.int .u8 x.t.lab.v.k) (.int .i64 x.t.lab.v.n) (.string x.t.lab.v.s) (.string x.t.lab.tb) (.string x.t.lab.nm) (.string x.t.lab.op) (.slice x.a x.t.args.length x.cap)
  a : Slot8 W C (.int .i64 3) (.int .u8 0) (.int .i64 0) (.string ⟨#[]⟩) (.string ⟨#[]⟩) (.string ⟨#[]⟩) (.string ⟨#[110, 111, 116]⟩) (.slice (some ⟨A, 0, none⟩) 1 1)
  lt : w.heap.size < W.heap.size ∧ C < W.heap.size
  xat : XAt W.heap.size W n x
  aat : XAt W.heap.size W (n + 1) ⟨aroundT x.t, some ⟨A, 0, none⟩, 1⟩
  bel : Below w.heap.size w W
theorem DepE.later {w W W' : World} {n A C : Nat} {x : XM} (h : DepE w W n A C x) (hb : Below W.heap.size W W') : DepE w W' n A C x :=
  ⟨h.e.later h.lt.1 hb, h.a.later h.lt.2 hb, ⟨Nat.lt_of_lt_of_le h.lt.1 hb.size, Nat.lt_of_lt_of_le h.lt.2 hb.size⟩, h.xat.later hb, h.aat.later hb, h.bel.trans (hb.mono h.bel.size)⟩
theorem DepE.new {w W : World} {n : Nat} {x : XM} (he : Slot8 W w.heap.size (.int .i64 x.t.lab.kd) (.int .u8 x.t.lab.v.k) (.int .i64 x.t.lab.v.n) (.string x.t.lab.v.s) (.string x.t.lab.tb) (.string x.t.lab.nm) (.string x.t.lab.op) (.slice x.a x.t.args.length x.cap)) (hlt : w.heap.size < W.heap.size) (hx : XAt W.heap.size W n x) (hb : Below w.heap.size w W) :
    DepE w ((W.alloc (.cells #[.int .i64 x.t.lab.kd, .int .u8 x.t.lab.v.k, .int .i64 x.t.lab.v.n, .string x.t.lab.v.s, .string x.t.lab.tb, .string x.t.lab.nm, .string x.t.lab.op, .slice x.a x.t.args.length x.cap] 39)).alloc (.cells #[.int .i64 3, .int .u8 0, .int .i64 0, .string ⟨#[]⟩, .string ⟨#[]⟩, .string ⟨#[]⟩, .string ⟨#[110, 111, 116]⟩, .slice (some ⟨W.heap.size, 0, none⟩) 1 1] 39)) n W.heap.size (W.heap.size + 1) x := by
  have b1 : Below W.heap.size W (W.alloc (.cells #[.int .i64 x.t.lab.kd, .int .u8 x.t.lab.v.k, .int .i64 x.t.lab.v.n, .string x.t.lab.v.s, .string x.t.lab.tb, .string x.t.lab.nm, .string x.t.lab.op, .slice x.a x.t.args.length x.cap] 39)) := (Below.refl _ W).alloc (Nat.le_refl _) _
  have hs1 : (W.alloc (.cells #[.int .i64 x.t.lab.kd, .int .u8 x.t.lab.v.k, .int .i64 x.t.lab.v.n, .string x.t.lab.v.s, .string x.t.lab.tb, .string x.t.lab.nm, .string x.t.lab.op, .slice x.a x.t.args.length x.cap] 39)).heap.size = W.heap.size + 1 := by simp
  have b2 : Below (W.alloc (.cells #[.int .i64 x.t.lab.kd, .int .u8 x.t.lab.v.k, .int .i64 x.t.lab.v.n, .string x.t.lab.v.s, .string x.t.lab.tb, .string x.t.lab.nm, .string x.t.lab.op, .slice x.a x.t.args.length x.cap] 39)).heap.size (W.alloc (.cells #[.int .i64 x.t.lab.kd, .int .u8 x.t.lab.v.k, .int .i64 x.t.lab.v.n, .string x.t.lab.v.s, .string x.t.lab.tb, .string x.t.lab.nm, .string x.t.lab.op, .slice x.a x.t.args.length x.cap] 39)) ((W.alloc (.cells #[.int .i64 x.t.lab.kd, .int .u8 x.t.lab.v.k, .int .i64 x.t.lab.v.n, .string x.t.lab.v.s, .string x.t.lab.tb, .string x.t.lab.nm, .string x.t.lab.op, .slice x.a x.t.args.length x.cap] 39)).alloc (.cells #[.int .i64 3, .int .u8 0, .int .i64 0, .string ⟨#[]⟩, .string ⟨#[]⟩, .string ⟨#[]⟩, .string ⟨#[110, 111, 116]⟩, .slice (some ⟨W.heap.size, 0, none⟩) 1 1] 39)) := (Below.refl _ _).alloc (Nat.le_refl _) _
  have b3 := b1.trans (b2.mono b1.size)
  have hn := Slot8.new (W.alloc (.cells #[.int .i64 x.t.lab.kd, .int .u8 x.t.lab.v.k, .int .i64 x.t.lab.v.n, .string x.t.lab.v.s, .string x.t.lab.tb, .string x.t.lab.nm, .string x.t.lab.op, .slice x.a x.t.args.length x.cap] 39)) 39 (.int .i64 3) (.int .u8 0) (.int .i64 0) (.string ⟨#[]⟩) (.string ⟨#[]⟩) (.string ⟨#[]⟩) (.string ⟨#[110, 111, 116]⟩) (.slice (some ⟨W.heap.size, 0, none⟩) 1 1)
  rw [hs1] at hn
  have hm := Slot8.new W 39 (.int .i64 x.t.lab.kd) (.int .u8 x.t.lab.v.k) (.int .i64 x.t.lab.v.n) (.string x.t.lab.v.s) (.string x.t.lab.tb) (.string x.t.lab.nm) (.string x.t.lab.op) (.slice x.a x.t.args.length x.cap)
  have hx3 := hx.later b3
  refine ⟨he.later hlt b3, hn, by simp; omega, hx3, ⟨al_fair _ _ _ _ _ (by decide) (by decide) (by decide), (show (1 : Nat) ≤ 1 by decide), (show (1 : Nat) ≤ 9223372036854775807 by decide), [x], rfl, .inr ⟨W.heap.size, 0, rfl, by simp; omega, fun i v hi => ?_⟩, fun y hy => by rw [List.mem_singleton.1 hy]; exact hx3⟩, hb.trans (b3.mono hb.size)⟩
  have hi2 : (cellsX x)[i]? = some v := by have h9 := hi; simp only [cellsOf, List.flatMap_cons, List.flatMap_nil, List.append_nil] at h9; exact h9
  rw [Nat.zero_add]
  refine (b2.cell (p := ⟨W.heap.size, i, none⟩) (by rw [hs1]; show W.heap.size < W.heap.size + 1; omega)).trans ?_
  rw [World.cell?_alloc_at _ _ _ _ rfl]
  rw [← hi2]; simp [cellsX, cellsR, Lb.cells]

set_option maxHeartbeats 8000000 in
theorem depths_walk (x : XM) (n : Nat) (w : World) (h : XAt w.heap.size w n x) (hT : Pre4 w) :
    Calls Tryd.prog 6 #[x.v] w fun e w' => e = .returned (.bool true) ∧ Below w.heap.size w w' := by
  rw [XM.v_eq]
  have HAl := Lib.hid (fun W (hb : Below w.heap.size w W) => alive20_any W (hT.below hb))
  have HX := Lib.hid (Slot8.new w 39 (.int .i64 x.t.lab.kd) (.int .u8 x.t.lab.v.k) (.int .i64 x.t.lab.v.n) (.string x.t.lab.v.s) (.string x.t.lab.tb) (.string x.t.lab.nm) (.string x.t.lab.op) (.slice x.a x.t.args.length x.cap))
  obtain ⟨w0, hw0⟩ : ∃ w0, w.alloc (.cells #[.int .i64 x.t.lab.kd, .int .u8 x.t.lab.v.k, .int .i64 x.t.lab.v.n, .string x.t.lab.v.s, .string x.t.lab.tb, .string x.t.lab.nm, .string x.t.lab.op, .slice x.a x.t.args.length x.cap] 39) = w0 := ⟨_, rfl⟩
  have HB0 : Hid (Below w.heap.size w w0) := by rw [← hw0]; exact (Below.refl _ w).alloc (Nat.le_refl _) _
  have hs0 : w0.heap.size = w.heap.size + 1 := by rw [← hw0]; simp
  rw [hw0] at HX
  have HZ := Lib.hid hs0
  have HXA := Lib.hid h
  have HCn : Hid (∀ (W : World), XAt W.heap.size W n x → Calls Tryd.prog 12 #[.agg #[.int .i64 x.t.lab.kd, .int .u8 x.t.lab.v.k, .int .i64 x.t.lab.v.n, .string x.t.lab.v.s, .string x.t.lab.tb, .string x.t.lab.nm, .string x.t.lab.op, .slice x.a x.t.args.length x.cap], .int .i64 0] W fun e w' => e = .returned (.int .i64 ((min (0 + x.t.count) 3000 : Nat) : Int)) ∧ Below W.heap.size W w') := fun W hW => by
    have := xCnt_any n x W 0 hW (by omega); rw [XM.v_eq] at this; exact this
  obtain ⟨c, hc⟩ : ∃ c, min (0 + x.t.count) 3000 = c := ⟨_, rfl⟩
  rw [hc] at HCn
  have HGr : Hid (∀ (W : World), XAt W.heap.size W n x → Calls Tryd.prog 13 #[.agg #[.int .i64 x.t.lab.kd, .int .u8 x.t.lab.v.k, .int .i64 x.t.lab.v.n, .string x.t.lab.v.s, .string x.t.lab.tb, .string x.t.lab.nm, .string x.t.lab.op, .slice x.a x.t.args.length x.cap], .int .i64 24] W fun e w' => e = .returned (.bool (greatX 24 x.t)) ∧ Below W.heap.size W w') := fun W hW => by
    have := Great_any n x W 24 hW (by omega); rw [XM.v_eq] at this; exact this
  obtain ⟨g, hg⟩ : ∃ g, greatX 24 x.t = g := ⟨_, rfl⟩
  rw [hg] at HGr
  clear h hT hs0
  obtain ⟨x0, x1, x2, x3, x4, x5, x6, x7⟩ := HX.out
  by_cases hbig : 500 < c
  · have q1 : decide ((500 : Int) < (c : Int)) = true := by simp; omega
    clear hg hc HGr
    go_enter Tryd.func6, Tryd.ntmps6
    go_wp2_with fail
    refine (HCn.out _ (HXA.out.later HB0.out)).mono ?_
    rintro e w1 ⟨rfl, hb1⟩
    have HB1 := Lib.hid (HB0.out.trans (hb1.mono HB0.out.size))
    clear hb1 x0 x1 x2 x3 x4 x5 x6 x7
    go_wp2_with fail
    refine (HAl.out _ HB1.out).mono ?_
    rintro e w2 ⟨rfl, hb2⟩
    have HB2 := Lib.hid (HB1.out.trans (hb2.mono HB1.out.size))
    clear hb2
    go_wp2
    go_ret
    exact ⟨rfl, HB2.out⟩
  have q1 : decide ((500 : Int) < (c : Int)) = false := by simp; omega
  cases g with
  | true =>
    clear hg hc
    go_enter Tryd.func6, Tryd.ntmps6
    go_wp2_with fail
    refine (HCn.out _ (HXA.out.later HB0.out)).mono ?_
    rintro e w1 ⟨rfl, hb1⟩
    have HB1 := Lib.hid (HB0.out.trans (hb1.mono HB0.out.size))
    clear x0 x1 x2 x3 x4 x5 x6 x7
    obtain ⟨x0, x1, x2, x3, x4, x5, x6, x7⟩ := HX.out.later (by have := HZ.out; omega) hb1
    clear hb1
    go_wp2_with fail
    refine (HGr.out _ (HXA.out.later HB1.out)).mono ?_
    rintro e w2 ⟨rfl, hb2⟩
    have HB2 := Lib.hid (HB1.out.trans (hb2.mono HB1.out.size))
    clear hb2 x0 x1 x2 x3 x4 x5 x6 x7
    go_wp2_with fail
    refine (HAl.out _ HB2.out).mono ?_
    rintro e w3 ⟨rfl, hb3⟩
    have HB3 := Lib.hid (HB2.out.trans (hb3.mono HB2.out.size))
    clear hb3
    go_wp2
    go_ret
    exact ⟨rfl, HB3.out⟩
  | false =>
    have hcc : x.t.count = c := by omega
    have hdc := x.t.depth_le_count
    have hdp := x.t.depth_pos
    have har := around_right x.t
    have had := around_depth x.t
    have HDp : Hid (∀ (W : World), XAt W.heap.size W n x → Calls Tryd.prog 21 #[.agg #[.int .i64 x.t.lab.kd, .int .u8 x.t.lab.v.k, .int .i64 x.t.lab.v.n, .string x.t.lab.v.s, .string x.t.lab.tb, .string x.t.lab.nm, .string x.t.lab.op, .slice x.a x.t.args.length x.cap]] W fun e w' => e = .returned (.int .i64 ((min x.t.depth 21 : Nat) : Int)) ∧ Below W.heap.size W w') := fun W hW => by
      have := Deep_any n x W hW; rw [XM.v_eq] at this; exact this
    have HDa : Hid (∀ (W : World) (A C : Nat), DepE w W n A C x → Calls Tryd.prog 21 #[.agg #[.int .i64 3, .int .u8 0, .int .i64 0, .string ⟨#[]⟩, .string ⟨#[]⟩, .string ⟨#[]⟩, .string ⟨#[110, 111, 116]⟩, .slice (some ⟨A, 0, none⟩) 1 1]] W fun e w' => e = .returned (.int .i64 ((min (aroundT x.t).depth 21 : Nat) : Int)) ∧ Below W.heap.size W w') := fun W A C hW => by
      have := Deep_any (n + 1) _ W hW.aat; rw [XM.v_eq] at this; exact this
    have HRa : Hid (∀ (W : World) (A C : Nat), DepE w W n A C x → Calls Tryd.prog 22 #[.agg #[.int .i64 3, .int .u8 0, .int .i64 0, .string ⟨#[]⟩, .string ⟨#[]⟩, .string ⟨#[]⟩, .string ⟨#[110, 111, 116]⟩, .slice (some ⟨A, 0, none⟩) 1 1]] W fun e w' => e = .returned (.bool (rightX 20 (aroundT x.t))) ∧ Below W.heap.size W w') := fun W A C hW => by
      have := Right_any20 (n + 1) _ W hW.aat; rw [XM.v_eq] at this; exact this
    have HRe : Hid (∀ (W : World), XAt W.heap.size W n x → Calls Tryd.prog 22 #[.agg #[.int .i64 x.t.lab.kd, .int .u8 x.t.lab.v.k, .int .i64 x.t.lab.v.n, .string x.t.lab.v.s, .string x.t.lab.tb, .string x.t.lab.nm, .string x.t.lab.op, .slice x.a x.t.args.length x.cap]] W fun e w' => e = .returned (.bool (rightX 20 x.t)) ∧ Below W.heap.size W w') := fun W hW => by
      have := Right_any20 n x W hW; rw [XM.v_eq] at this; exact this
    rw [had] at HDa
    rw [har] at HRa
    obtain ⟨d, hd⟩ : ∃ d, min x.t.depth 21 = d := ⟨_, rfl⟩
    obtain ⟨v, hv⟩ : ∃ v, min (x.t.depth + 1) 21 = v := ⟨_, rfl⟩
    rw [hd] at HDp HRa
    rw [hv] at HDa
    have hd1 : 1 ≤ d ∧ d ≤ 21 ∧ d ≤ c := by omega
    have hvd : (d = 21 ∧ v = 21) ∨ (d ≤ 20 ∧ v = d + 1) := by omega
    generalize rightX 20 x.t = r at *
    obtain ⟨f, hf⟩ : ∃ f, decide (d < 20) = f := ⟨_, rfl⟩
    rw [hf] at HRa
    have qf : decide ((d : Int) < 20) = f := by rw [← hf]; rw [Bool.eq_iff_iff]; simp; omega
    have q3 : decide ((1 : Int) ≤ (d : Int)) = true := by simp; omega
    have q4 : decide (d ≤ c) = true := by simp; omega
    have q5 : decide ((d : Int) ≤ (c : Int)) = true := by simp; omega
    have hd21 : d ≤ 21 := by omega
    clear hg hc hcc hdc hdp har had hd hv hf hd1 hbig
    rcases hvd with ⟨hd21e, rfl⟩ | ⟨hd20, rfl⟩
    · have q6 : decide ((21 : Int) < (d : Int) + 1) = true := by simp; omega
      clear hd21e
      cases r with
      | false =>
        go_enter Tryd.func6, Tryd.ntmps6
        go_wp2_with fail
        refine (HCn.out _ (HXA.out.later HB0.out)).mono ?_
        rintro e w1 ⟨rfl, hb1⟩
        have HB1 := Lib.hid (HB0.out.trans (hb1.mono HB0.out.size))
        have HX1 := Lib.hid (HX.out.later (by have := HZ.out; omega) hb1)
        have HL1 : Hid (w.heap.size < w1.heap.size) := by have := HZ.out; have := hb1.size; show _ < _; omega
        clear x0 x1 x2 x3 x4 x5 x6 x7
        obtain ⟨x0, x1, x2, x3, x4, x5, x6, x7⟩ := HX1.out
        clear hb1
        go_wp2_with fail
        refine (HGr.out _ (HXA.out.later HB1.out)).mono ?_
        rintro e w2 ⟨rfl, hb2⟩
        have HB2 := Lib.hid (HB1.out.trans (hb2.mono HB1.out.size))
        have HX2 := Lib.hid (HX1.out.later HL1.out hb2)
        have HL2 : Hid (w.heap.size < w2.heap.size) := Nat.lt_of_lt_of_le HL1.out hb2.size
        clear x0 x1 x2 x3 x4 x5 x6 x7
        obtain ⟨x0, x1, x2, x3, x4, x5, x6, x7⟩ := HX2.out
        clear hb2
        go_wp2_with fail
        refine (HDp.out _ (HXA.out.later HB2.out)).mono ?_
        rintro e x1w ⟨rfl, hb3⟩
        have HB3 := Lib.hid (HB2.out.trans (hb3.mono HB2.out.size))
        have HX3 := Lib.hid (HX2.out.later HL2.out hb3)
        have HL3 : Hid (w.heap.size < x1w.heap.size) := Nat.lt_of_lt_of_le HL2.out hb3.size
        clear x0 x1 x2 x3 x4 x5 x6 x7
        obtain ⟨x0, x1, x2, x3, x4, x5, x6, x7⟩ := HX3.out
        have HD0 := Lib.hid (DepE.new HX3.out HL3.out (HXA.out.later HB3.out) HB3.out)
        obtain ⟨V0, hV0⟩ : ∃ V0, (x1w.alloc (.cells #[.int .i64 x.t.lab.kd, .int .u8 x.t.lab.v.k, .int .i64 x.t.lab.v.n, .string x.t.lab.v.s, .string x.t.lab.tb, .string x.t.lab.nm, .string x.t.lab.op, .slice x.a x.t.args.length x.cap] 39)).alloc (.cells #[.int .i64 3, .int .u8 0, .int .i64 0, .string ⟨#[]⟩, .string ⟨#[]⟩, .string ⟨#[]⟩, .string ⟨#[110, 111, 116]⟩, .slice (some ⟨x1w.heap.size, 0, none⟩) 1 1] 39) = V0 := ⟨_, rfl⟩
        rw [hV0] at HD0
        have HV0 := Lib.hid hV0
        clear hb3 hV0
        go_wp2_with fail
        rw [HV0.out]
        clear x0 x1 x2 x3 x4 x5 x6 x7
        refine wp_region_ord [(0, false), (1, true), (2, true), (3, true), (4, true), (5, true), (6, true), (7, true), (8, false), (9, true), (10, true), (11, true), (12, true), (14, true), (13, false), (15, true), (16, true), (17, true), (18, true), (20, true), (19, false), (21, false), (22, true), (23, true), (24, true), (25, true), (26, true), (27, true), (28, true)] (by kernel_rfl) (by kernel_rfl) (by kernel_rfl) (by kernel_rfl) ?_
        refine wpO_C rfl (by rfl) ?_
        go_simp
        refine (HAl.out _ HD0.out.bel.drew).mono ?_
        rintro e y1 ⟨rfl, hb4⟩
        refine ⟨hb4, ?_⟩
        try simp only [Act.put, List.setIfInBounds_toArray, List.set_cons_zero, List.set_cons_succ]
        have HD1 := Lib.hid (HD0.out.later ((Below.refl _ V0).drew.trans hb4))
        clear hb4
        have e0 : ∀ V, Later y1 V → V.cell? ⟨w.heap.size, 0, none⟩ = some (.int .i64 x.t.lab.kd) := fun V hV => (HD1.out.e.later HD1.out.lt.1 (hV)).c0
        have a0 : ∀ V, Later y1 V → V.cell? ⟨x1w.heap.size + 1, 0, none⟩ = some (.int .i64 3) := fun V hV => (HD1.out.a.later HD1.out.lt.2 (hV)).c0
        have e1 : ∀ V, Later y1 V → V.cell? ⟨w.heap.size, 1, none⟩ = some (.int .u8 x.t.lab.v.k) := fun V hV => (HD1.out.e.later HD1.out.lt.1 (hV)).c1
        have a1 : ∀ V, Later y1 V → V.cell? ⟨x1w.heap.size + 1, 1, none⟩ = some (.int .u8 0) := fun V hV => (HD1.out.a.later HD1.out.lt.2 (hV)).c1
        have e2 : ∀ V, Later y1 V → V.cell? ⟨w.heap.size, 2, none⟩ = some (.int .i64 x.t.lab.v.n) := fun V hV => (HD1.out.e.later HD1.out.lt.1 (hV)).c2
        have a2 : ∀ V, Later y1 V → V.cell? ⟨x1w.heap.size + 1, 2, none⟩ = some (.int .i64 0) := fun V hV => (HD1.out.a.later HD1.out.lt.2 (hV)).c2
        have e3 : ∀ V, Later y1 V → V.cell? ⟨w.heap.size, 3, none⟩ = some (.string x.t.lab.v.s) := fun V hV => (HD1.out.e.later HD1.out.lt.1 (hV)).c3
        have a3 : ∀ V, Later y1 V → V.cell? ⟨x1w.heap.size + 1, 3, none⟩ = some (.string ⟨#[]⟩) := fun V hV => (HD1.out.a.later HD1.out.lt.2 (hV)).c3
        have e4 : ∀ V, Later y1 V → V.cell? ⟨w.heap.size, 4, none⟩ = some (.string x.t.lab.tb) := fun V hV => (HD1.out.e.later HD1.out.lt.1 (hV)).c4
        have a4 : ∀ V, Later y1 V → V.cell? ⟨x1w.heap.size + 1, 4, none⟩ = some (.string ⟨#[]⟩) := fun V hV => (HD1.out.a.later HD1.out.lt.2 (hV)).c4
        have e5 : ∀ V, Later y1 V → V.cell? ⟨w.heap.size, 5, none⟩ = some (.string x.t.lab.nm) := fun V hV => (HD1.out.e.later HD1.out.lt.1 (hV)).c5
        have a5 : ∀ V, Later y1 V → V.cell? ⟨x1w.heap.size + 1, 5, none⟩ = some (.string ⟨#[]⟩) := fun V hV => (HD1.out.a.later HD1.out.lt.2 (hV)).c5
        have e6 : ∀ V, Later y1 V → V.cell? ⟨w.heap.size, 6, none⟩ = some (.string x.t.lab.op) := fun V hV => (HD1.out.e.later HD1.out.lt.1 (hV)).c6
        have a6 : ∀ V, Later y1 V → V.cell? ⟨x1w.heap.size + 1, 6, none⟩ = some (.string ⟨#[110, 111, 116]⟩) := fun V hV => (HD1.out.a.later HD1.out.lt.2 (hV)).c6
        have e7 : ∀ V, Later y1 V → V.cell? ⟨w.heap.size, 7, none⟩ = some (.slice x.a x.t.args.length x.cap) := fun V hV => (HD1.out.e.later HD1.out.lt.1 (hV)).c7
        have a7 : ∀ V, Later y1 V → V.cell? ⟨x1w.heap.size + 1, 7, none⟩ = some (.slice (some ⟨x1w.heap.size, 0, none⟩) 1 1) := fun V hV => (HD1.out.a.later HD1.out.lt.2 (hV)).c7
        repeat (first | (refine wpO_F (v := ?_) rfl (by rfl) (fun w' hL => ?_) ?_; rotate_left; (solve | (go_simp; with_reducible rfl) | go_simp); try simp only [Act.put, List.setIfInBounds_toArray, List.set_cons_zero, List.set_cons_succ]) | (refine wpO_G rfl (by rfl) ?_; try simp only [Act.put, List.setIfInBounds_toArray, List.set_cons_zero, List.set_cons_succ]))
        refine wpO_C rfl (by rfl) ?_
        go_simp
        refine (HCn.out _ HD1.out.xat).mono ?_
        rintro e y2 ⟨rfl, hb5⟩
        refine ⟨hb5, ?_⟩
        try simp only [Act.put, List.setIfInBounds_toArray, List.set_cons_zero, List.set_cons_succ]
        have HD2 := Lib.hid (HD1.out.later hb5)
        clear hb5
        clear e0 a0 e1 a1 e2 a2 e3 a3 e4 a4 e5 a5 e6 a6 e7 a7
        have e0 : ∀ V, Later y2 V → V.cell? ⟨w.heap.size, 0, none⟩ = some (.int .i64 x.t.lab.kd) := fun V hV => (HD2.out.e.later HD2.out.lt.1 (hV)).c0
        have a0 : ∀ V, Later y2 V → V.cell? ⟨x1w.heap.size + 1, 0, none⟩ = some (.int .i64 3) := fun V hV => (HD2.out.a.later HD2.out.lt.2 (hV)).c0
        have e1 : ∀ V, Later y2 V → V.cell? ⟨w.heap.size, 1, none⟩ = some (.int .u8 x.t.lab.v.k) := fun V hV => (HD2.out.e.later HD2.out.lt.1 (hV)).c1
        have a1 : ∀ V, Later y2 V → V.cell? ⟨x1w.heap.size + 1, 1, none⟩ = some (.int .u8 0) := fun V hV => (HD2.out.a.later HD2.out.lt.2 (hV)).c1
        have e2 : ∀ V, Later y2 V → V.cell? ⟨w.heap.size, 2, none⟩ = some (.int .i64 x.t.lab.v.n) := fun V hV => (HD2.out.e.later HD2.out.lt.1 (hV)).c2
        have a2 : ∀ V, Later y2 V → V.cell? ⟨x1w.heap.size + 1, 2, none⟩ = some (.int .i64 0) := fun V hV => (HD2.out.a.later HD2.out.lt.2 (hV)).c2
        have e3 : ∀ V, Later y2 V → V.cell? ⟨w.heap.size, 3, none⟩ = some (.string x.t.lab.v.s) := fun V hV => (HD2.out.e.later HD2.out.lt.1 (hV)).c3
        have a3 : ∀ V, Later y2 V → V.cell? ⟨x1w.heap.size + 1, 3, none⟩ = some (.string ⟨#[]⟩) := fun V hV => (HD2.out.a.later HD2.out.lt.2 (hV)).c3
        have e4 : ∀ V, Later y2 V → V.cell? ⟨w.heap.size, 4, none⟩ = some (.string x.t.lab.tb) := fun V hV => (HD2.out.e.later HD2.out.lt.1 (hV)).c4
        have a4 : ∀ V, Later y2 V → V.cell? ⟨x1w.heap.size + 1, 4, none⟩ = some (.string ⟨#[]⟩) := fun V hV => (HD2.out.a.later HD2.out.lt.2 (hV)).c4
        have e5 : ∀ V, Later y2 V → V.cell? ⟨w.heap.size, 5, none⟩ = some (.string x.t.lab.nm) := fun V hV => (HD2.out.e.later HD2.out.lt.1 (hV)).c5
        have a5 : ∀ V, Later y2 V → V.cell? ⟨x1w.heap.size + 1, 5, none⟩ = some (.string ⟨#[]⟩) := fun V hV => (HD2.out.a.later HD2.out.lt.2 (hV)).c5
        have e6 : ∀ V, Later y2 V → V.cell? ⟨w.heap.size, 6, none⟩ = some (.string x.t.lab.op) := fun V hV => (HD2.out.e.later HD2.out.lt.1 (hV)).c6
        have a6 : ∀ V, Later y2 V → V.cell? ⟨x1w.heap.size + 1, 6, none⟩ = some (.string ⟨#[110, 111, 116]⟩) := fun V hV => (HD2.out.a.later HD2.out.lt.2 (hV)).c6
        have e7 : ∀ V, Later y2 V → V.cell? ⟨w.heap.size, 7, none⟩ = some (.slice x.a x.t.args.length x.cap) := fun V hV => (HD2.out.e.later HD2.out.lt.1 (hV)).c7
        have a7 : ∀ V, Later y2 V → V.cell? ⟨x1w.heap.size + 1, 7, none⟩ = some (.slice (some ⟨x1w.heap.size, 0, none⟩) 1 1) := fun V hV => (HD2.out.a.later HD2.out.lt.2 (hV)).c7
        repeat (first | (refine wpO_F (v := ?_) rfl (by rfl) (fun w' hL => ?_) ?_; rotate_left; (solve | (go_simp; with_reducible rfl) | go_simp); try simp only [Act.put, List.setIfInBounds_toArray, List.set_cons_zero, List.set_cons_succ]) | (refine wpO_G rfl (by rfl) ?_; try simp only [Act.put, List.setIfInBounds_toArray, List.set_cons_zero, List.set_cons_succ]))
        refine wpO_C rfl (by rfl) ?_
        go_simp
        refine (HDa.out _ _ _ HD2.out).mono ?_
        rintro e y3 ⟨rfl, hb6⟩
        refine ⟨hb6, ?_⟩
        try simp only [Act.put, List.setIfInBounds_toArray, List.set_cons_zero, List.set_cons_succ]
        have HD3 := Lib.hid (HD2.out.later hb6)
        clear hb6
        clear e0 a0 e1 a1 e2 a2 e3 a3 e4 a4 e5 a5 e6 a6 e7 a7
        have e0 : ∀ V, Later y3 V → V.cell? ⟨w.heap.size, 0, none⟩ = some (.int .i64 x.t.lab.kd) := fun V hV => (HD3.out.e.later HD3.out.lt.1 (hV)).c0
        have a0 : ∀ V, Later y3 V → V.cell? ⟨x1w.heap.size + 1, 0, none⟩ = some (.int .i64 3) := fun V hV => (HD3.out.a.later HD3.out.lt.2 (hV)).c0
        have e1 : ∀ V, Later y3 V → V.cell? ⟨w.heap.size, 1, none⟩ = some (.int .u8 x.t.lab.v.k) := fun V hV => (HD3.out.e.later HD3.out.lt.1 (hV)).c1
        have a1 : ∀ V, Later y3 V → V.cell? ⟨x1w.heap.size + 1, 1, none⟩ = some (.int .u8 0) := fun V hV => (HD3.out.a.later HD3.out.lt.2 (hV)).c1
        have e2 : ∀ V, Later y3 V → V.cell? ⟨w.heap.size, 2, none⟩ = some (.int .i64 x.t.lab.v.n) := fun V hV => (HD3.out.e.later HD3.out.lt.1 (hV)).c2
        have a2 : ∀ V, Later y3 V → V.cell? ⟨x1w.heap.size + 1, 2, none⟩ = some (.int .i64 0) := fun V hV => (HD3.out.a.later HD3.out.lt.2 (hV)).c2
        have e3 : ∀ V, Later y3 V → V.cell? ⟨w.heap.size, 3, none⟩ = some (.string x.t.lab.v.s) := fun V hV => (HD3.out.e.later HD3.out.lt.1 (hV)).c3
        have a3 : ∀ V, Later y3 V → V.cell? ⟨x1w.heap.size + 1, 3, none⟩ = some (.string ⟨#[]⟩) := fun V hV => (HD3.out.a.later HD3.out.lt.2 (hV)).c3
        have e4 : ∀ V, Later y3 V → V.cell? ⟨w.heap.size, 4, none⟩ = some (.string x.t.lab.tb) := fun V hV => (HD3.out.e.later HD3.out.lt.1 (hV)).c4
        have a4 : ∀ V, Later y3 V → V.cell? ⟨x1w.heap.size + 1, 4, none⟩ = some (.string ⟨#[]⟩) := fun V hV => (HD3.out.a.later HD3.out.lt.2 (hV)).c4
        have e5 : ∀ V, Later y3 V → V.cell? ⟨w.heap.size, 5, none⟩ = some (.string x.t.lab.nm) := fun V hV => (HD3.out.e.later HD3.out.lt.1 (hV)).c5
        have a5 : ∀ V, Later y3 V → V.cell? ⟨x1w.heap.size + 1, 5, none⟩ = some (.string ⟨#[]⟩) := fun V hV => (HD3.out.a.later HD3.out.lt.2 (hV)).c5
        have e6 : ∀ V, Later y3 V → V.cell? ⟨w.heap.size, 6, none⟩ = some (.string x.t.lab.op) := fun V hV => (HD3.out.e.later HD3.out.lt.1 (hV)).c6
        have a6 : ∀ V, Later y3 V → V.cell? ⟨x1w.heap.size + 1, 6, none⟩ = some (.string ⟨#[110, 111, 116]⟩) := fun V hV => (HD3.out.a.later HD3.out.lt.2 (hV)).c6
        have e7 : ∀ V, Later y3 V → V.cell? ⟨w.heap.size, 7, none⟩ = some (.slice x.a x.t.args.length x.cap) := fun V hV => (HD3.out.e.later HD3.out.lt.1 (hV)).c7
        have a7 : ∀ V, Later y3 V → V.cell? ⟨x1w.heap.size + 1, 7, none⟩ = some (.slice (some ⟨x1w.heap.size, 0, none⟩) 1 1) := fun V hV => (HD3.out.a.later HD3.out.lt.2 (hV)).c7
        repeat (first | (refine wpO_F (v := ?_) rfl (by rfl) (fun w' hL => ?_) ?_; rotate_left; (solve | (go_simp; with_reducible rfl) | go_simp); try simp only [Act.put, List.setIfInBounds_toArray, List.set_cons_zero, List.set_cons_succ]) | (refine wpO_G rfl (by rfl) ?_; try simp only [Act.put, List.setIfInBounds_toArray, List.set_cons_zero, List.set_cons_succ]))
        refine wpO_C rfl (by rfl) ?_
        go_simp
        refine (HRa.out _ _ _ HD3.out).mono ?_
        rintro e y4 ⟨rfl, hb7⟩
        refine ⟨hb7, ?_⟩
        try simp only [Act.put, List.setIfInBounds_toArray, List.set_cons_zero, List.set_cons_succ]
        have HD4 := Lib.hid (HD3.out.later hb7)
        clear hb7
        clear e0 a0 e1 a1 e2 a2 e3 a3 e4 a4 e5 a5 e6 a6 e7 a7
        have e0 : ∀ V, Later y4 V → V.cell? ⟨w.heap.size, 0, none⟩ = some (.int .i64 x.t.lab.kd) := fun V hV => (HD4.out.e.later HD4.out.lt.1 (hV)).c0
        have a0 : ∀ V, Later y4 V → V.cell? ⟨x1w.heap.size + 1, 0, none⟩ = some (.int .i64 3) := fun V hV => (HD4.out.a.later HD4.out.lt.2 (hV)).c0
        have e1 : ∀ V, Later y4 V → V.cell? ⟨w.heap.size, 1, none⟩ = some (.int .u8 x.t.lab.v.k) := fun V hV => (HD4.out.e.later HD4.out.lt.1 (hV)).c1
        have a1 : ∀ V, Later y4 V → V.cell? ⟨x1w.heap.size + 1, 1, none⟩ = some (.int .u8 0) := fun V hV => (HD4.out.a.later HD4.out.lt.2 (hV)).c1
        have e2 : ∀ V, Later y4 V → V.cell? ⟨w.heap.size, 2, none⟩ = some (.int .i64 x.t.lab.v.n) := fun V hV => (HD4.out.e.later HD4.out.lt.1 (hV)).c2
        have a2 : ∀ V, Later y4 V → V.cell? ⟨x1w.heap.size + 1, 2, none⟩ = some (.int .i64 0) := fun V hV => (HD4.out.a.later HD4.out.lt.2 (hV)).c2
        have e3 : ∀ V, Later y4 V → V.cell? ⟨w.heap.size, 3, none⟩ = some (.string x.t.lab.v.s) := fun V hV => (HD4.out.e.later HD4.out.lt.1 (hV)).c3
        have a3 : ∀ V, Later y4 V → V.cell? ⟨x1w.heap.size + 1, 3, none⟩ = some (.string ⟨#[]⟩) := fun V hV => (HD4.out.a.later HD4.out.lt.2 (hV)).c3
        have e4 : ∀ V, Later y4 V → V.cell? ⟨w.heap.size, 4, none⟩ = some (.string x.t.lab.tb) := fun V hV => (HD4.out.e.later HD4.out.lt.1 (hV)).c4
        have a4 : ∀ V, Later y4 V → V.cell? ⟨x1w.heap.size + 1, 4, none⟩ = some (.string ⟨#[]⟩) := fun V hV => (HD4.out.a.later HD4.out.lt.2 (hV)).c4
        have e5 : ∀ V, Later y4 V → V.cell? ⟨w.heap.size, 5, none⟩ = some (.string x.t.lab.nm) := fun V hV => (HD4.out.e.later HD4.out.lt.1 (hV)).c5
        have a5 : ∀ V, Later y4 V → V.cell? ⟨x1w.heap.size + 1, 5, none⟩ = some (.string ⟨#[]⟩) := fun V hV => (HD4.out.a.later HD4.out.lt.2 (hV)).c5
        have e6 : ∀ V, Later y4 V → V.cell? ⟨w.heap.size, 6, none⟩ = some (.string x.t.lab.op) := fun V hV => (HD4.out.e.later HD4.out.lt.1 (hV)).c6
        have a6 : ∀ V, Later y4 V → V.cell? ⟨x1w.heap.size + 1, 6, none⟩ = some (.string ⟨#[110, 111, 116]⟩) := fun V hV => (HD4.out.a.later HD4.out.lt.2 (hV)).c6
        have e7 : ∀ V, Later y4 V → V.cell? ⟨w.heap.size, 7, none⟩ = some (.slice x.a x.t.args.length x.cap) := fun V hV => (HD4.out.e.later HD4.out.lt.1 (hV)).c7
        have a7 : ∀ V, Later y4 V → V.cell? ⟨x1w.heap.size + 1, 7, none⟩ = some (.slice (some ⟨x1w.heap.size, 0, none⟩) 1 1) := fun V hV => (HD4.out.a.later HD4.out.lt.2 (hV)).c7
        repeat (first | (refine wpO_F (v := ?_) rfl (by rfl) (fun w' hL => ?_) ?_; rotate_left; (solve | (go_simp; with_reducible rfl) | go_simp); try simp only [Act.put, List.setIfInBounds_toArray, List.set_cons_zero, List.set_cons_succ]) | (refine wpO_G rfl (by rfl) ?_; try simp only [Act.put, List.setIfInBounds_toArray, List.set_cons_zero, List.set_cons_succ]))
        refine wpO_C rfl (by rfl) ?_
        go_simp
        refine (HRe.out _ HD4.out.xat).mono ?_
        rintro e y5 ⟨rfl, hb8⟩
        refine ⟨hb8, ?_⟩
        try simp only [Act.put, List.setIfInBounds_toArray, List.set_cons_zero, List.set_cons_succ]
        have HD5 := Lib.hid (HD4.out.later hb8)
        clear hb8
        clear e0 a0 e1 a1 e2 a2 e3 a3 e4 a4 e5 a5 e6 a6 e7 a7
        repeat (first | (refine wpO_F (v := ?_) rfl (by rfl) (fun w' hL => ?_) ?_; rotate_left; (solve | (go_simp; with_reducible rfl) | go_simp); try simp only [Act.put, List.setIfInBounds_toArray, List.set_cons_zero, List.set_cons_succ]) | (refine wpO_G rfl (by rfl) ?_; try simp only [Act.put, List.setIfInBounds_toArray, List.set_cons_zero, List.set_cons_succ]))
        refine wpO_nil ?_
        go_wp2
        go_ret
        exact ⟨ret_b (by simp), HD5.out.bel⟩
      | true =>
        go_enter Tryd.func6, Tryd.ntmps6
        go_wp2_with fail
        refine (HCn.out _ (HXA.out.later HB0.out)).mono ?_
        rintro e w1 ⟨rfl, hb1⟩
        have HB1 := Lib.hid (HB0.out.trans (hb1.mono HB0.out.size))
        have HX1 := Lib.hid (HX.out.later (by have := HZ.out; omega) hb1)
        have HL1 : Hid (w.heap.size < w1.heap.size) := by have := HZ.out; have := hb1.size; show _ < _; omega
        clear x0 x1 x2 x3 x4 x5 x6 x7
        obtain ⟨x0, x1, x2, x3, x4, x5, x6, x7⟩ := HX1.out
        clear hb1
        go_wp2_with fail
        refine (HGr.out _ (HXA.out.later HB1.out)).mono ?_
        rintro e w2 ⟨rfl, hb2⟩
        have HB2 := Lib.hid (HB1.out.trans (hb2.mono HB1.out.size))
        have HX2 := Lib.hid (HX1.out.later HL1.out hb2)
        have HL2 : Hid (w.heap.size < w2.heap.size) := Nat.lt_of_lt_of_le HL1.out hb2.size
        clear x0 x1 x2 x3 x4 x5 x6 x7
        obtain ⟨x0, x1, x2, x3, x4, x5, x6, x7⟩ := HX2.out
        clear hb2
        go_wp2_with fail
        refine (HDp.out _ (HXA.out.later HB2.out)).mono ?_
        rintro e x1w ⟨rfl, hb3⟩
        have HB3 := Lib.hid (HB2.out.trans (hb3.mono HB2.out.size))
        have HX3 := Lib.hid (HX2.out.later HL2.out hb3)
        have HL3 : Hid (w.heap.size < x1w.heap.size) := Nat.lt_of_lt_of_le HL2.out hb3.size
        clear x0 x1 x2 x3 x4 x5 x6 x7
        obtain ⟨x0, x1, x2, x3, x4, x5, x6, x7⟩ := HX3.out
        have HD0 := Lib.hid (DepE.new HX3.out HL3.out (HXA.out.later HB3.out) HB3.out)
        obtain ⟨V0, hV0⟩ : ∃ V0, (x1w.alloc (.cells #[.int .i64 x.t.lab.kd, .int .u8 x.t.lab.v.k, .int .i64 x.t.lab.v.n, .string x.t.lab.v.s, .string x.t.lab.tb, .string x.t.lab.nm, .string x.t.lab.op, .slice x.a x.t.args.length x.cap] 39)).alloc (.cells #[.int .i64 3, .int .u8 0, .int .i64 0, .string ⟨#[]⟩, .string ⟨#[]⟩, .string ⟨#[]⟩, .string ⟨#[110, 111, 116]⟩, .slice (some ⟨x1w.heap.size, 0, none⟩) 1 1] 39) = V0 := ⟨_, rfl⟩
        rw [hV0] at HD0
        have HV0 := Lib.hid hV0
        clear hb3 hV0
        go_wp2_with fail
        rw [HV0.out]
        clear x0 x1 x2 x3 x4 x5 x6 x7
        refine wp_region_ord [(0, false), (1, true), (2, true), (3, true), (4, true), (5, true), (6, true), (7, true), (8, false), (9, true), (10, true), (11, true), (12, true), (14, true), (13, false), (15, true), (16, true), (17, true), (18, true), (20, true), (19, false), (21, false), (22, true), (23, true), (24, true), (25, true), (26, true), (27, true), (28, true)] (by kernel_rfl) (by kernel_rfl) (by kernel_rfl) (by kernel_rfl) ?_
        refine wpO_C rfl (by rfl) ?_
        go_simp
        refine (HAl.out _ HD0.out.bel.drew).mono ?_
        rintro e y1 ⟨rfl, hb4⟩
        refine ⟨hb4, ?_⟩
        try simp only [Act.put, List.setIfInBounds_toArray, List.set_cons_zero, List.set_cons_succ]
        have HD1 := Lib.hid (HD0.out.later ((Below.refl _ V0).drew.trans hb4))
        clear hb4
        have e0 : ∀ V, Later y1 V → V.cell? ⟨w.heap.size, 0, none⟩ = some (.int .i64 x.t.lab.kd) := fun V hV => (HD1.out.e.later HD1.out.lt.1 (hV)).c0
        have a0 : ∀ V, Later y1 V → V.cell? ⟨x1w.heap.size + 1, 0, none⟩ = some (.int .i64 3) := fun V hV => (HD1.out.a.later HD1.out.lt.2 (hV)).c0
        have e1 : ∀ V, Later y1 V → V.cell? ⟨w.heap.size, 1, none⟩ = some (.int .u8 x.t.lab.v.k) := fun V hV => (HD1.out.e.later HD1.out.lt.1 (hV)).c1
        have a1 : ∀ V, Later y1 V → V.cell? ⟨x1w.heap.size + 1, 1, none⟩ = some (.int .u8 0) := fun V hV => (HD1.out.a.later HD1.out.lt.2 (hV)).c1
        have e2 : ∀ V, Later y1 V → V.cell? ⟨w.heap.size, 2, none⟩ = some (.int .i64 x.t.lab.v.n) := fun V hV => (HD1.out.e.later HD1.out.lt.1 (hV)).c2
        have a2 : ∀ V, Later y1 V → V.cell? ⟨x1w.heap.size + 1, 2, none⟩ = some (.int .i64 0) := fun V hV => (HD1.out.a.later HD1.out.lt.2 (hV)).c2
        have e3 : ∀ V, Later y1 V → V.cell? ⟨w.heap.size, 3, none⟩ = some (.string x.t.lab.v.s) := fun V hV => (HD1.out.e.later HD1.out.lt.1 (hV)).c3
        have a3 : ∀ V, Later y1 V → V.cell? ⟨x1w.heap.size + 1, 3, none⟩ = some (.string ⟨#[]⟩) := fun V hV => (HD1.out.a.later HD1.out.lt.2 (hV)).c3
        have e4 : ∀ V, Later y1 V → V.cell? ⟨w.heap.size, 4, none⟩ = some (.string x.t.lab.tb) := fun V hV => (HD1.out.e.later HD1.out.lt.1 (hV)).c4
        have a4 : ∀ V, Later y1 V → V.cell? ⟨x1w.heap.size + 1, 4, none⟩ = some (.string ⟨#[]⟩) := fun V hV => (HD1.out.a.later HD1.out.lt.2 (hV)).c4
        have e5 : ∀ V, Later y1 V → V.cell? ⟨w.heap.size, 5, none⟩ = some (.string x.t.lab.nm) := fun V hV => (HD1.out.e.later HD1.out.lt.1 (hV)).c5
        have a5 : ∀ V, Later y1 V → V.cell? ⟨x1w.heap.size + 1, 5, none⟩ = some (.string ⟨#[]⟩) := fun V hV => (HD1.out.a.later HD1.out.lt.2 (hV)).c5
        have e6 : ∀ V, Later y1 V → V.cell? ⟨w.heap.size, 6, none⟩ = some (.string x.t.lab.op) := fun V hV => (HD1.out.e.later HD1.out.lt.1 (hV)).c6
        have a6 : ∀ V, Later y1 V → V.cell? ⟨x1w.heap.size + 1, 6, none⟩ = some (.string ⟨#[110, 111, 116]⟩) := fun V hV => (HD1.out.a.later HD1.out.lt.2 (hV)).c6
        have e7 : ∀ V, Later y1 V → V.cell? ⟨w.heap.size, 7, none⟩ = some (.slice x.a x.t.args.length x.cap) := fun V hV => (HD1.out.e.later HD1.out.lt.1 (hV)).c7
        have a7 : ∀ V, Later y1 V → V.cell? ⟨x1w.heap.size + 1, 7, none⟩ = some (.slice (some ⟨x1w.heap.size, 0, none⟩) 1 1) := fun V hV => (HD1.out.a.later HD1.out.lt.2 (hV)).c7
        repeat (first | (refine wpO_F (v := ?_) rfl (by rfl) (fun w' hL => ?_) ?_; rotate_left; (solve | (go_simp; with_reducible rfl) | go_simp); try simp only [Act.put, List.setIfInBounds_toArray, List.set_cons_zero, List.set_cons_succ]) | (refine wpO_G rfl (by rfl) ?_; try simp only [Act.put, List.setIfInBounds_toArray, List.set_cons_zero, List.set_cons_succ]))
        refine wpO_C rfl (by rfl) ?_
        go_simp
        refine (HCn.out _ HD1.out.xat).mono ?_
        rintro e y2 ⟨rfl, hb5⟩
        refine ⟨hb5, ?_⟩
        try simp only [Act.put, List.setIfInBounds_toArray, List.set_cons_zero, List.set_cons_succ]
        have HD2 := Lib.hid (HD1.out.later hb5)
        clear hb5
        clear e0 a0 e1 a1 e2 a2 e3 a3 e4 a4 e5 a5 e6 a6 e7 a7
        have e0 : ∀ V, Later y2 V → V.cell? ⟨w.heap.size, 0, none⟩ = some (.int .i64 x.t.lab.kd) := fun V hV => (HD2.out.e.later HD2.out.lt.1 (hV)).c0
        have a0 : ∀ V, Later y2 V → V.cell? ⟨x1w.heap.size + 1, 0, none⟩ = some (.int .i64 3) := fun V hV => (HD2.out.a.later HD2.out.lt.2 (hV)).c0
        have e1 : ∀ V, Later y2 V → V.cell? ⟨w.heap.size, 1, none⟩ = some (.int .u8 x.t.lab.v.k) := fun V hV => (HD2.out.e.later HD2.out.lt.1 (hV)).c1
        have a1 : ∀ V, Later y2 V → V.cell? ⟨x1w.heap.size + 1, 1, none⟩ = some (.int .u8 0) := fun V hV => (HD2.out.a.later HD2.out.lt.2 (hV)).c1
        have e2 : ∀ V, Later y2 V → V.cell? ⟨w.heap.size, 2, none⟩ = some (.int .i64 x.t.lab.v.n) := fun V hV => (HD2.out.e.later HD2.out.lt.1 (hV)).c2
        have a2 : ∀ V, Later y2 V → V.cell? ⟨x1w.heap.size + 1, 2, none⟩ = some (.int .i64 0) := fun V hV => (HD2.out.a.later HD2.out.lt.2 (hV)).c2
        have e3 : ∀ V, Later y2 V → V.cell? ⟨w.heap.size, 3, none⟩ = some (.string x.t.lab.v.s) := fun V hV => (HD2.out.e.later HD2.out.lt.1 (hV)).c3
        have a3 : ∀ V, Later y2 V → V.cell? ⟨x1w.heap.size + 1, 3, none⟩ = some (.string ⟨#[]⟩) := fun V hV => (HD2.out.a.later HD2.out.lt.2 (hV)).c3
        have e4 : ∀ V, Later y2 V → V.cell? ⟨w.heap.size, 4, none⟩ = some (.string x.t.lab.tb) := fun V hV => (HD2.out.e.later HD2.out.lt.1 (hV)).c4
        have a4 : ∀ V, Later y2 V → V.cell? ⟨x1w.heap.size + 1, 4, none⟩ = some (.string ⟨#[]⟩) := fun V hV => (HD2.out.a.later HD2.out.lt.2 (hV)).c4
        have e5 : ∀ V, Later y2 V → V.cell? ⟨w.heap.size, 5, none⟩ = some (.string x.t.lab.nm) := fun V hV => (HD2.out.e.later HD2.out.lt.1 (hV)).c5
        have a5 : ∀ V, Later y2 V → V.cell? ⟨x1w.heap.size + 1, 5, none⟩ = some (.string ⟨#[]⟩) := fun V hV => (HD2.out.a.later HD2.out.lt.2 (hV)).c5
        have e6 : ∀ V, Later y2 V → V.cell? ⟨w.heap.size, 6, none⟩ = some (.string x.t.lab.op) := fun V hV => (HD2.out.e.later HD2.out.lt.1 (hV)).c6
        have a6 : ∀ V, Later y2 V → V.cell? ⟨x1w.heap.size + 1, 6, none⟩ = some (.string ⟨#[110, 111, 116]⟩) := fun V hV => (HD2.out.a.later HD2.out.lt.2 (hV)).c6
        have e7 : ∀ V, Later y2 V → V.cell? ⟨w.heap.size, 7, none⟩ = some (.slice x.a x.t.args.length x.cap) := fun V hV => (HD2.out.e.later HD2.out.lt.1 (hV)).c7
        have a7 : ∀ V, Later y2 V → V.cell? ⟨x1w.heap.size + 1, 7, none⟩ = some (.slice (some ⟨x1w.heap.size, 0, none⟩) 1 1) := fun V hV => (HD2.out.a.later HD2.out.lt.2 (hV)).c7
        repeat (first | (refine wpO_F (v := ?_) rfl (by rfl) (fun w' hL => ?_) ?_; rotate_left; (solve | (go_simp; with_reducible rfl) | go_simp); try simp only [Act.put, List.setIfInBounds_toArray, List.set_cons_zero, List.set_cons_succ]) | (refine wpO_G rfl (by rfl) ?_; try simp only [Act.put, List.setIfInBounds_toArray, List.set_cons_zero, List.set_cons_succ]))
        refine wpO_C rfl (by rfl) ?_
        go_simp
        refine (HDa.out _ _ _ HD2.out).mono ?_
        rintro e y3 ⟨rfl, hb6⟩
        refine ⟨hb6, ?_⟩
        try simp only [Act.put, List.setIfInBounds_toArray, List.set_cons_zero, List.set_cons_succ]
        have HD3 := Lib.hid (HD2.out.later hb6)
        clear hb6
        clear e0 a0 e1 a1 e2 a2 e3 a3 e4 a4 e5 a5 e6 a6 e7 a7
        have e0 : ∀ V, Later y3 V → V.cell? ⟨w.heap.size, 0, none⟩ = some (.int .i64 x.t.lab.kd) := fun V hV => (HD3.out.e.later HD3.out.lt.1 (hV)).c0
        have a0 : ∀ V, Later y3 V → V.cell? ⟨x1w.heap.size + 1, 0, none⟩ = some (.int .i64 3) := fun V hV => (HD3.out.a.later HD3.out.lt.2 (hV)).c0
        have e1 : ∀ V, Later y3 V → V.cell? ⟨w.heap.size, 1, none⟩ = some (.int .u8 x.t.lab.v.k) := fun V hV => (HD3.out.e.later HD3.out.lt.1 (hV)).c1
        have a1 : ∀ V, Later y3 V → V.cell? ⟨x1w.heap.size + 1, 1, none⟩ = some (.int .u8 0) := fun V hV => (HD3.out.a.later HD3.out.lt.2 (hV)).c1
        have e2 : ∀ V, Later y3 V → V.cell? ⟨w.heap.size, 2, none⟩ = some (.int .i64 x.t.lab.v.n) := fun V hV => (HD3.out.e.later HD3.out.lt.1 (hV)).c2
        have a2 : ∀ V, Later y3 V → V.cell? ⟨x1w.heap.size + 1, 2, none⟩ = some (.int .i64 0) := fun V hV => (HD3.out.a.later HD3.out.lt.2 (hV)).c2
        have e3 : ∀ V, Later y3 V → V.cell? ⟨w.heap.size, 3, none⟩ = some (.string x.t.lab.v.s) := fun V hV => (HD3.out.e.later HD3.out.lt.1 (hV)).c3
        have a3 : ∀ V, Later y3 V → V.cell? ⟨x1w.heap.size + 1, 3, none⟩ = some (.string ⟨#[]⟩) := fun V hV => (HD3.out.a.later HD3.out.lt.2 (hV)).c3
        have e4 : ∀ V, Later y3 V → V.cell? ⟨w.heap.size, 4, none⟩ = some (.string x.t.lab.tb) := fun V hV => (HD3.out.e.later HD3.out.lt.1 (hV)).c4
        have a4 : ∀ V, Later y3 V → V.cell? ⟨x1w.heap.size + 1, 4, none⟩ = some (.string ⟨#[]⟩) := fun V hV => (HD3.out.a.later HD3.out.lt.2 (hV)).c4
        have e5 : ∀ V, Later y3 V → V.cell? ⟨w.heap.size, 5, none⟩ = some (.string x.t.lab.nm) := fun V hV => (HD3.out.e.later HD3.out.lt.1 (hV)).c5
        have a5 : ∀ V, Later y3 V → V.cell? ⟨x1w.heap.size + 1, 5, none⟩ = some (.string ⟨#[]⟩) := fun V hV => (HD3.out.a.later HD3.out.lt.2 (hV)).c5
        have e6 : ∀ V, Later y3 V → V.cell? ⟨w.heap.size, 6, none⟩ = some (.string x.t.lab.op) := fun V hV => (HD3.out.e.later HD3.out.lt.1 (hV)).c6
        have a6 : ∀ V, Later y3 V → V.cell? ⟨x1w.heap.size + 1, 6, none⟩ = some (.string ⟨#[110, 111, 116]⟩) := fun V hV => (HD3.out.a.later HD3.out.lt.2 (hV)).c6
        have e7 : ∀ V, Later y3 V → V.cell? ⟨w.heap.size, 7, none⟩ = some (.slice x.a x.t.args.length x.cap) := fun V hV => (HD3.out.e.later HD3.out.lt.1 (hV)).c7
        have a7 : ∀ V, Later y3 V → V.cell? ⟨x1w.heap.size + 1, 7, none⟩ = some (.slice (some ⟨x1w.heap.size, 0, none⟩) 1 1) := fun V hV => (HD3.out.a.later HD3.out.lt.2 (hV)).c7
        repeat (first | (refine wpO_F (v := ?_) rfl (by rfl) (fun w' hL => ?_) ?_; rotate_left; (solve | (go_simp; with_reducible rfl) | go_simp); try simp only [Act.put, List.setIfInBounds_toArray, List.set_cons_zero, List.set_cons_succ]) | (refine wpO_G rfl (by rfl) ?_; try simp only [Act.put, List.setIfInBounds_toArray, List.set_cons_zero, List.set_cons_succ]))
        refine wpO_C rfl (by rfl) ?_
        go_simp
        refine (HRa.out _ _ _ HD3.out).mono ?_
        rintro e y4 ⟨rfl, hb7⟩
        refine ⟨hb7, ?_⟩
        try simp only [Act.put, List.setIfInBounds_toArray, List.set_cons_zero, List.set_cons_succ]
        have HD4 := Lib.hid (HD3.out.later hb7)
        clear hb7
        clear e0 a0 e1 a1 e2 a2 e3 a3 e4 a4 e5 a5 e6 a6 e7 a7
        have e0 : ∀ V, Later y4 V → V.cell? ⟨w.heap.size, 0, none⟩ = some (.int .i64 x.t.lab.kd) := fun V hV => (HD4.out.e.later HD4.out.lt.1 (hV)).c0
        have a0 : ∀ V, Later y4 V → V.cell? ⟨x1w.heap.size + 1, 0, none⟩ = some (.int .i64 3) := fun V hV => (HD4.out.a.later HD4.out.lt.2 (hV)).c0
        have e1 : ∀ V, Later y4 V → V.cell? ⟨w.heap.size, 1, none⟩ = some (.int .u8 x.t.lab.v.k) := fun V hV => (HD4.out.e.later HD4.out.lt.1 (hV)).c1
        have a1 : ∀ V, Later y4 V → V.cell? ⟨x1w.heap.size + 1, 1, none⟩ = some (.int .u8 0) := fun V hV => (HD4.out.a.later HD4.out.lt.2 (hV)).c1
        have e2 : ∀ V, Later y4 V → V.cell? ⟨w.heap.size, 2, none⟩ = some (.int .i64 x.t.lab.v.n) := fun V hV => (HD4.out.e.later HD4.out.lt.1 (hV)).c2
        have a2 : ∀ V, Later y4 V → V.cell? ⟨x1w.heap.size + 1, 2, none⟩ = some (.int .i64 0) := fun V hV => (HD4.out.a.later HD4.out.lt.2 (hV)).c2
        have e3 : ∀ V, Later y4 V → V.cell? ⟨w.heap.size, 3, none⟩ = some (.string x.t.lab.v.s) := fun V hV => (HD4.out.e.later HD4.out.lt.1 (hV)).c3
        have a3 : ∀ V, Later y4 V → V.cell? ⟨x1w.heap.size + 1, 3, none⟩ = some (.string ⟨#[]⟩) := fun V hV => (HD4.out.a.later HD4.out.lt.2 (hV)).c3
        have e4 : ∀ V, Later y4 V → V.cell? ⟨w.heap.size, 4, none⟩ = some (.string x.t.lab.tb) := fun V hV => (HD4.out.e.later HD4.out.lt.1 (hV)).c4
        have a4 : ∀ V, Later y4 V → V.cell? ⟨x1w.heap.size + 1, 4, none⟩ = some (.string ⟨#[]⟩) := fun V hV => (HD4.out.a.later HD4.out.lt.2 (hV)).c4
        have e5 : ∀ V, Later y4 V → V.cell? ⟨w.heap.size, 5, none⟩ = some (.string x.t.lab.nm) := fun V hV => (HD4.out.e.later HD4.out.lt.1 (hV)).c5
        have a5 : ∀ V, Later y4 V → V.cell? ⟨x1w.heap.size + 1, 5, none⟩ = some (.string ⟨#[]⟩) := fun V hV => (HD4.out.a.later HD4.out.lt.2 (hV)).c5
        have e6 : ∀ V, Later y4 V → V.cell? ⟨w.heap.size, 6, none⟩ = some (.string x.t.lab.op) := fun V hV => (HD4.out.e.later HD4.out.lt.1 (hV)).c6
        have a6 : ∀ V, Later y4 V → V.cell? ⟨x1w.heap.size + 1, 6, none⟩ = some (.string ⟨#[110, 111, 116]⟩) := fun V hV => (HD4.out.a.later HD4.out.lt.2 (hV)).c6
        have e7 : ∀ V, Later y4 V → V.cell? ⟨w.heap.size, 7, none⟩ = some (.slice x.a x.t.args.length x.cap) := fun V hV => (HD4.out.e.later HD4.out.lt.1 (hV)).c7
        have a7 : ∀ V, Later y4 V → V.cell? ⟨x1w.heap.size + 1, 7, none⟩ = some (.slice (some ⟨x1w.heap.size, 0, none⟩) 1 1) := fun V hV => (HD4.out.a.later HD4.out.lt.2 (hV)).c7
        repeat (first | (refine wpO_F (v := ?_) rfl (by rfl) (fun w' hL => ?_) ?_; rotate_left; (solve | (go_simp; with_reducible rfl) | go_simp); try simp only [Act.put, List.setIfInBounds_toArray, List.set_cons_zero, List.set_cons_succ]) | (refine wpO_G rfl (by rfl) ?_; try simp only [Act.put, List.setIfInBounds_toArray, List.set_cons_zero, List.set_cons_succ]))
        refine wpO_C rfl (by rfl) ?_
        go_simp
        refine (HRe.out _ HD4.out.xat).mono ?_
        rintro e y5 ⟨rfl, hb8⟩
        refine ⟨hb8, ?_⟩
        try simp only [Act.put, List.setIfInBounds_toArray, List.set_cons_zero, List.set_cons_succ]
        have HD5 := Lib.hid (HD4.out.later hb8)
        clear hb8
        clear e0 a0 e1 a1 e2 a2 e3 a3 e4 a4 e5 a5 e6 a6 e7 a7
        repeat (first | (refine wpO_F (v := ?_) rfl (by rfl) (fun w' hL => ?_) ?_; rotate_left; (solve | (go_simp; with_reducible rfl) | go_simp); try simp only [Act.put, List.setIfInBounds_toArray, List.set_cons_zero, List.set_cons_succ]) | (refine wpO_G rfl (by rfl) ?_; try simp only [Act.put, List.setIfInBounds_toArray, List.set_cons_zero, List.set_cons_succ]))
        refine wpO_nil ?_
        go_wp2
        go_ret
        exact ⟨ret_b (by simp), HD5.out.bel⟩
    · have q6 : decide ((21 : Int) < (d : Int) + 1) = false := by simp; omega
      have q7 : (((d + 1 : Nat) : Int) == (d : Int) + 1) = true := by simp
      cases r with
      | false =>
        go_enter Tryd.func6, Tryd.ntmps6
        go_wp2_with fail
        refine (HCn.out _ (HXA.out.later HB0.out)).mono ?_
        rintro e w1 ⟨rfl, hb1⟩
        have HB1 := Lib.hid (HB0.out.trans (hb1.mono HB0.out.size))
        have HX1 := Lib.hid (HX.out.later (by have := HZ.out; omega) hb1)
        have HL1 : Hid (w.heap.size < w1.heap.size) := by have := HZ.out; have := hb1.size; show _ < _; omega
        clear x0 x1 x2 x3 x4 x5 x6 x7
        obtain ⟨x0, x1, x2, x3, x4, x5, x6, x7⟩ := HX1.out
        clear hb1
        go_wp2_with fail
        refine (HGr.out _ (HXA.out.later HB1.out)).mono ?_
        rintro e w2 ⟨rfl, hb2⟩
        have HB2 := Lib.hid (HB1.out.trans (hb2.mono HB1.out.size))
        have HX2 := Lib.hid (HX1.out.later HL1.out hb2)
        have HL2 : Hid (w.heap.size < w2.heap.size) := Nat.lt_of_lt_of_le HL1.out hb2.size
        clear x0 x1 x2 x3 x4 x5 x6 x7
        obtain ⟨x0, x1, x2, x3, x4, x5, x6, x7⟩ := HX2.out
        clear hb2
        go_wp2_with fail
        refine (HDp.out _ (HXA.out.later HB2.out)).mono ?_
        rintro e x1w ⟨rfl, hb3⟩
        have HB3 := Lib.hid (HB2.out.trans (hb3.mono HB2.out.size))
        have HX3 := Lib.hid (HX2.out.later HL2.out hb3)
        have HL3 : Hid (w.heap.size < x1w.heap.size) := Nat.lt_of_lt_of_le HL2.out hb3.size
        clear x0 x1 x2 x3 x4 x5 x6 x7
        obtain ⟨x0, x1, x2, x3, x4, x5, x6, x7⟩ := HX3.out
        have HD0 := Lib.hid (DepE.new HX3.out HL3.out (HXA.out.later HB3.out) HB3.out)
        obtain ⟨V0, hV0⟩ : ∃ V0, (x1w.alloc (.cells #[.int .i64 x.t.lab.kd, .int .u8 x.t.lab.v.k, .int .i64 x.t.lab.v.n, .string x.t.lab.v.s, .string x.t.lab.tb, .string x.t.lab.nm, .string x.t.lab.op, .slice x.a x.t.args.length x.cap] 39)).alloc (.cells #[.int .i64 3, .int .u8 0, .int .i64 0, .string ⟨#[]⟩, .string ⟨#[]⟩, .string ⟨#[]⟩, .string ⟨#[110, 111, 116]⟩, .slice (some ⟨x1w.heap.size, 0, none⟩) 1 1] 39) = V0 := ⟨_, rfl⟩
        rw [hV0] at HD0
        have HV0 := Lib.hid hV0
        clear hb3 hV0
        go_wp2_with fail
        rw [HV0.out]
        clear x0 x1 x2 x3 x4 x5 x6 x7
        refine wp_region_ord [(0, false), (1, true), (2, true), (3, true), (4, true), (5, true), (6, true), (7, true), (8, false), (9, true), (10, true), (11, true), (12, true), (14, true), (13, false), (15, true), (16, true), (17, true), (18, true), (20, true), (19, false), (21, false), (22, true), (23, true), (24, true), (25, true), (26, true), (27, true), (28, true)] (by kernel_rfl) (by kernel_rfl) (by kernel_rfl) (by kernel_rfl) ?_
        refine wpO_C rfl (by rfl) ?_
        go_simp
        refine (HAl.out _ HD0.out.bel.drew).mono ?_
        rintro e y1 ⟨rfl, hb4⟩
        refine ⟨hb4, ?_⟩
        try simp only [Act.put, List.setIfInBounds_toArray, List.set_cons_zero, List.set_cons_succ]
        have HD1 := Lib.hid (HD0.out.later ((Below.refl _ V0).drew.trans hb4))
        clear hb4
        have e0 : ∀ V, Later y1 V → V.cell? ⟨w.heap.size, 0, none⟩ = some (.int .i64 x.t.lab.kd) := fun V hV => (HD1.out.e.later HD1.out.lt.1 (hV)).c0
        have a0 : ∀ V, Later y1 V → V.cell? ⟨x1w.heap.size + 1, 0, none⟩ = some (.int .i64 3) := fun V hV => (HD1.out.a.later HD1.out.lt.2 (hV)).c0
        have e1 : ∀ V, Later y1 V → V.cell? ⟨w.heap.size, 1, none⟩ = some (.int .u8 x.t.lab.v.k) := fun V hV => (HD1.out.e.later HD1.out.lt.1 (hV)).c1
        have a1 : ∀ V, Later y1 V → V.cell? ⟨x1w.heap.size + 1, 1, none⟩ = some (.int .u8 0) := fun V hV => (HD1.out.a.later HD1.out.lt.2 (hV)).c1
        have e2 : ∀ V, Later y1 V → V.cell? ⟨w.heap.size, 2, none⟩ = some (.int .i64 x.t.lab.v.n) := fun V hV => (HD1.out.e.later HD1.out.lt.1 (hV)).c2
        have a2 : ∀ V, Later y1 V → V.cell? ⟨x1w.heap.size + 1, 2, none⟩ = some (.int .i64 0) := fun V hV => (HD1.out.a.later HD1.out.lt.2 (hV)).c2
        have e3 : ∀ V, Later y1 V → V.cell? ⟨w.heap.size, 3, none⟩ = some (.string x.t.lab.v.s) := fun V hV => (HD1.out.e.later HD1.out.lt.1 (hV)).c3
        have a3 : ∀ V, Later y1 V → V.cell? ⟨x1w.heap.size + 1, 3, none⟩ = some (.string ⟨#[]⟩) := fun V hV => (HD1.out.a.later HD1.out.lt.2 (hV)).c3
        have e4 : ∀ V, Later y1 V → V.cell? ⟨w.heap.size, 4, none⟩ = some (.string x.t.lab.tb) := fun V hV => (HD1.out.e.later HD1.out.lt.1 (hV)).c4
        have a4 : ∀ V, Later y1 V → V.cell? ⟨x1w.heap.size + 1, 4, none⟩ = some (.string ⟨#[]⟩) := fun V hV => (HD1.out.a.later HD1.out.lt.2 (hV)).c4
        have e5 : ∀ V, Later y1 V → V.cell? ⟨w.heap.size, 5, none⟩ = some (.string x.t.lab.nm) := fun V hV => (HD1.out.e.later HD1.out.lt.1 (hV)).c5
        have a5 : ∀ V, Later y1 V → V.cell? ⟨x1w.heap.size + 1, 5, none⟩ = some (.string ⟨#[]⟩) := fun V hV => (HD1.out.a.later HD1.out.lt.2 (hV)).c5
        have e6 : ∀ V, Later y1 V → V.cell? ⟨w.heap.size, 6, none⟩ = some (.string x.t.lab.op) := fun V hV => (HD1.out.e.later HD1.out.lt.1 (hV)).c6
        have a6 : ∀ V, Later y1 V → V.cell? ⟨x1w.heap.size + 1, 6, none⟩ = some (.string ⟨#[110, 111, 116]⟩) := fun V hV => (HD1.out.a.later HD1.out.lt.2 (hV)).c6
        have e7 : ∀ V, Later y1 V → V.cell? ⟨w.heap.size, 7, none⟩ = some (.slice x.a x.t.args.length x.cap) := fun V hV => (HD1.out.e.later HD1.out.lt.1 (hV)).c7
        have a7 : ∀ V, Later y1 V → V.cell? ⟨x1w.heap.size + 1, 7, none⟩ = some (.slice (some ⟨x1w.heap.size, 0, none⟩) 1 1) := fun V hV => (HD1.out.a.later HD1.out.lt.2 (hV)).c7
        repeat (first | (refine wpO_F (v := ?_) rfl (by rfl) (fun w' hL => ?_) ?_; rotate_left; (solve | (go_simp; with_reducible rfl) | go_simp); try simp only [Act.put, List.setIfInBounds_toArray, List.set_cons_zero, List.set_cons_succ]) | (refine wpO_G rfl (by rfl) ?_; try simp only [Act.put, List.setIfInBounds_toArray, List.set_cons_zero, List.set_cons_succ]))
        refine wpO_C rfl (by rfl) ?_
        go_simp
        refine (HCn.out _ HD1.out.xat).mono ?_
        rintro e y2 ⟨rfl, hb5⟩
        refine ⟨hb5, ?_⟩
        try simp only [Act.put, List.setIfInBounds_toArray, List.set_cons_zero, List.set_cons_succ]
        have HD2 := Lib.hid (HD1.out.later hb5)
        clear hb5
        clear e0 a0 e1 a1 e2 a2 e3 a3 e4 a4 e5 a5 e6 a6 e7 a7
        have e0 : ∀ V, Later y2 V → V.cell? ⟨w.heap.size, 0, none⟩ = some (.int .i64 x.t.lab.kd) := fun V hV => (HD2.out.e.later HD2.out.lt.1 (hV)).c0
        have a0 : ∀ V, Later y2 V → V.cell? ⟨x1w.heap.size + 1, 0, none⟩ = some (.int .i64 3) := fun V hV => (HD2.out.a.later HD2.out.lt.2 (hV)).c0
        have e1 : ∀ V, Later y2 V → V.cell? ⟨w.heap.size, 1, none⟩ = some (.int .u8 x.t.lab.v.k) := fun V hV => (HD2.out.e.later HD2.out.lt.1 (hV)).c1
        have a1 : ∀ V, Later y2 V → V.cell? ⟨x1w.heap.size + 1, 1, none⟩ = some (.int .u8 0) := fun V hV => (HD2.out.a.later HD2.out.lt.2 (hV)).c1
        have e2 : ∀ V, Later y2 V → V.cell? ⟨w.heap.size, 2, none⟩ = some (.int .i64 x.t.lab.v.n) := fun V hV => (HD2.out.e.later HD2.out.lt.1 (hV)).c2
        have a2 : ∀ V, Later y2 V → V.cell? ⟨x1w.heap.size + 1, 2, none⟩ = some (.int .i64 0) := fun V hV => (HD2.out.a.later HD2.out.lt.2 (hV)).c2
        have e3 : ∀ V, Later y2 V → V.cell? ⟨w.heap.size, 3, none⟩ = some (.string x.t.lab.v.s) := fun V hV => (HD2.out.e.later HD2.out.lt.1 (hV)).c3
        have a3 : ∀ V, Later y2 V → V.cell? ⟨x1w.heap.size + 1, 3, none⟩ = some (.string ⟨#[]⟩) := fun V hV => (HD2.out.a.later HD2.out.lt.2 (hV)).c3
        have e4 : ∀ V, Later y2 V → V.cell? ⟨w.heap.size, 4, none⟩ = some (.string x.t.lab.tb) := fun V hV => (HD2.out.e.later HD2.out.lt.1 (hV)).c4
        have a4 : ∀ V, Later y2 V → V.cell? ⟨x1w.heap.size + 1, 4, none⟩ = some (.string ⟨#[]⟩) := fun V hV => (HD2.out.a.later HD2.out.lt.2 (hV)).c4
        have e5 : ∀ V, Later y2 V → V.cell? ⟨w.heap.size, 5, none⟩ = some (.string x.t.lab.nm) := fun V hV => (HD2.out.e.later HD2.out.lt.1 (hV)).c5
        have a5 : ∀ V, Later y2 V → V.cell? ⟨x1w.heap.size + 1, 5, none⟩ = some (.string ⟨#[]⟩) := fun V hV => (HD2.out.a.later HD2.out.lt.2 (hV)).c5
        have e6 : ∀ V, Later y2 V → V.cell? ⟨w.heap.size, 6, none⟩ = some (.string x.t.lab.op) := fun V hV => (HD2.out.e.later HD2.out.lt.1 (hV)).c6
        have a6 : ∀ V, Later y2 V → V.cell? ⟨x1w.heap.size + 1, 6, none⟩ = some (.string ⟨#[110, 111, 116]⟩) := fun V hV => (HD2.out.a.later HD2.out.lt.2 (hV)).c6
        have e7 : ∀ V, Later y2 V → V.cell? ⟨w.heap.size, 7, none⟩ = some (.slice x.a x.t.args.length x.cap) := fun V hV => (HD2.out.e.later HD2.out.lt.1 (hV)).c7
        have a7 : ∀ V, Later y2 V → V.cell? ⟨x1w.heap.size + 1, 7, none⟩ = some (.slice (some ⟨x1w.heap.size, 0, none⟩) 1 1) := fun V hV => (HD2.out.a.later HD2.out.lt.2 (hV)).c7
        repeat (first | (refine wpO_F (v := ?_) rfl (by rfl) (fun w' hL => ?_) ?_; rotate_left; (solve | (go_simp; with_reducible rfl) | go_simp); try simp only [Act.put, List.setIfInBounds_toArray, List.set_cons_zero, List.set_cons_succ]) | (refine wpO_G rfl (by rfl) ?_; try simp only [Act.put, List.setIfInBounds_toArray, List.set_cons_zero, List.set_cons_succ]))
        refine wpO_C rfl (by rfl) ?_
        go_simp
        refine (HDa.out _ _ _ HD2.out).mono ?_
        rintro e y3 ⟨rfl, hb6⟩
        refine ⟨hb6, ?_⟩
        try simp only [Act.put, List.setIfInBounds_toArray, List.set_cons_zero, List.set_cons_succ]
        have HD3 := Lib.hid (HD2.out.later hb6)
        clear hb6
        clear e0 a0 e1 a1 e2 a2 e3 a3 e4 a4 e5 a5 e6 a6 e7 a7
        have e0 : ∀ V, Later y3 V → V.cell? ⟨w.heap.size, 0, none⟩ = some (.int .i64 x.t.lab.kd) := fun V hV => (HD3.out.e.later HD3.out.lt.1 (hV)).c0
        have a0 : ∀ V, Later y3 V → V.cell? ⟨x1w.heap.size + 1, 0, none⟩ = some (.int .i64 3) := fun V hV => (HD3.out.a.later HD3.out.lt.2 (hV)).c0
        have e1 : ∀ V, Later y3 V → V.cell? ⟨w.heap.size, 1, none⟩ = some (.int .u8 x.t.lab.v.k) := fun V hV => (HD3.out.e.later HD3.out.lt.1 (hV)).c1
        have a1 : ∀ V, Later y3 V → V.cell? ⟨x1w.heap.size + 1, 1, none⟩ = some (.int .u8 0) := fun V hV => (HD3.out.a.later HD3.out.lt.2 (hV)).c1
        have e2 : ∀ V, Later y3 V → V.cell? ⟨w.heap.size, 2, none⟩ = some (.int .i64 x.t.lab.v.n) := fun V hV => (HD3.out.e.later HD3.out.lt.1 (hV)).c2
        have a2 : ∀ V, Later y3 V → V.cell? ⟨x1w.heap.size + 1, 2, none⟩ = some (.int .i64 0) := fun V hV => (HD3.out.a.later HD3.out.lt.2 (hV)).c2
        have e3 : ∀ V, Later y3 V → V.cell? ⟨w.heap.size, 3, none⟩ = some (.string x.t.lab.v.s) := fun V hV => (HD3.out.e.later HD3.out.lt.1 (hV)).c3
        have a3 : ∀ V, Later y3 V → V.cell? ⟨x1w.heap.size + 1, 3, none⟩ = some (.string ⟨#[]⟩) := fun V hV => (HD3.out.a.later HD3.out.lt.2 (hV)).c3
        have e4 : ∀ V, Later y3 V → V.cell? ⟨w.heap.size, 4, none⟩ = some (.string x.t.lab.tb) := fun V hV => (HD3.out.e.later HD3.out.lt.1 (hV)).c4
        have a4 : ∀ V, Later y3 V → V.cell? ⟨x1w.heap.size + 1, 4, none⟩ = some (.string ⟨#[]⟩) := fun V hV => (HD3.out.a.later HD3.out.lt.2 (hV)).c4
        have e5 : ∀ V, Later y3 V → V.cell? ⟨w.heap.size, 5, none⟩ = some (.string x.t.lab.nm) := fun V hV => (HD3.out.e.later HD3.out.lt.1 (hV)).c5
        have a5 : ∀ V, Later y3 V → V.cell? ⟨x1w.heap.size + 1, 5, none⟩ = some (.string ⟨#[]⟩) := fun V hV => (HD3.out.a.later HD3.out.lt.2 (hV)).c5
        have e6 : ∀ V, Later y3 V → V.cell? ⟨w.heap.size, 6, none⟩ = some (.string x.t.lab.op) := fun V hV => (HD3.out.e.later HD3.out.lt.1 (hV)).c6
        have a6 : ∀ V, Later y3 V → V.cell? ⟨x1w.heap.size + 1, 6, none⟩ = some (.string ⟨#[110, 111, 116]⟩) := fun V hV => (HD3.out.a.later HD3.out.lt.2 (hV)).c6
        have e7 : ∀ V, Later y3 V → V.cell? ⟨w.heap.size, 7, none⟩ = some (.slice x.a x.t.args.length x.cap) := fun V hV => (HD3.out.e.later HD3.out.lt.1 (hV)).c7
        have a7 : ∀ V, Later y3 V → V.cell? ⟨x1w.heap.size + 1, 7, none⟩ = some (.slice (some ⟨x1w.heap.size, 0, none⟩) 1 1) := fun V hV => (HD3.out.a.later HD3.out.lt.2 (hV)).c7
        repeat (first | (refine wpO_F (v := ?_) rfl (by rfl) (fun w' hL => ?_) ?_; rotate_left; (solve | (go_simp; with_reducible rfl) | go_simp); try simp only [Act.put, List.setIfInBounds_toArray, List.set_cons_zero, List.set_cons_succ]) | (refine wpO_G rfl (by rfl) ?_; try simp only [Act.put, List.setIfInBounds_toArray, List.set_cons_zero, List.set_cons_succ]))
        refine wpO_C rfl (by rfl) ?_
        go_simp
        refine (HRa.out _ _ _ HD3.out).mono ?_
        rintro e y4 ⟨rfl, hb7⟩
        refine ⟨hb7, ?_⟩
        try simp only [Act.put, List.setIfInBounds_toArray, List.set_cons_zero, List.set_cons_succ]
        have HD4 := Lib.hid (HD3.out.later hb7)
        clear hb7
        clear e0 a0 e1 a1 e2 a2 e3 a3 e4 a4 e5 a5 e6 a6 e7 a7
        have e0 : ∀ V, Later y4 V → V.cell? ⟨w.heap.size, 0, none⟩ = some (.int .i64 x.t.lab.kd) := fun V hV => (HD4.out.e.later HD4.out.lt.1 (hV)).c0
        have a0 : ∀ V, Later y4 V → V.cell? ⟨x1w.heap.size + 1, 0, none⟩ = some (.int .i64 3) := fun V hV => (HD4.out.a.later HD4.out.lt.2 (hV)).c0
        have e1 : ∀ V, Later y4 V → V.cell? ⟨w.heap.size, 1, none⟩ = some (.int .u8 x.t.lab.v.k) := fun V hV => (HD4.out.e.later HD4.out.lt.1 (hV)).c1
        have a1 : ∀ V, Later y4 V → V.cell? ⟨x1w.heap.size + 1, 1, none⟩ = some (.int .u8 0) := fun V hV => (HD4.out.a.later HD4.out.lt.2 (hV)).c1
        have e2 : ∀ V, Later y4 V → V.cell? ⟨w.heap.size, 2, none⟩ = some (.int .i64 x.t.lab.v.n) := fun V hV => (HD4.out.e.later HD4.out.lt.1 (hV)).c2
        have a2 : ∀ V, Later y4 V → V.cell? ⟨x1w.heap.size + 1, 2, none⟩ = some (.int .i64 0) := fun V hV => (HD4.out.a.later HD4.out.lt.2 (hV)).c2
        have e3 : ∀ V, Later y4 V → V.cell? ⟨w.heap.size, 3, none⟩ = some (.string x.t.lab.v.s) := fun V hV => (HD4.out.e.later HD4.out.lt.1 (hV)).c3
        have a3 : ∀ V, Later y4 V → V.cell? ⟨x1w.heap.size + 1, 3, none⟩ = some (.string ⟨#[]⟩) := fun V hV => (HD4.out.a.later HD4.out.lt.2 (hV)).c3
        have e4 : ∀ V, Later y4 V → V.cell? ⟨w.heap.size, 4, none⟩ = some (.string x.t.lab.tb) := fun V hV => (HD4.out.e.later HD4.out.lt.1 (hV)).c4
        have a4 : ∀ V, Later y4 V → V.cell? ⟨x1w.heap.size + 1, 4, none⟩ = some (.string ⟨#[]⟩) := fun V hV => (HD4.out.a.later HD4.out.lt.2 (hV)).c4
        have e5 : ∀ V, Later y4 V → V.cell? ⟨w.heap.size, 5, none⟩ = some (.string x.t.lab.nm) := fun V hV => (HD4.out.e.later HD4.out.lt.1 (hV)).c5
        have a5 : ∀ V, Later y4 V → V.cell? ⟨x1w.heap.size + 1, 5, none⟩ = some (.string ⟨#[]⟩) := fun V hV => (HD4.out.a.later HD4.out.lt.2 (hV)).c5
        have e6 : ∀ V, Later y4 V → V.cell? ⟨w.heap.size, 6, none⟩ = some (.string x.t.lab.op) := fun V hV => (HD4.out.e.later HD4.out.lt.1 (hV)).c6
        have a6 : ∀ V, Later y4 V → V.cell? ⟨x1w.heap.size + 1, 6, none⟩ = some (.string ⟨#[110, 111, 116]⟩) := fun V hV => (HD4.out.a.later HD4.out.lt.2 (hV)).c6
        have e7 : ∀ V, Later y4 V → V.cell? ⟨w.heap.size, 7, none⟩ = some (.slice x.a x.t.args.length x.cap) := fun V hV => (HD4.out.e.later HD4.out.lt.1 (hV)).c7
        have a7 : ∀ V, Later y4 V → V.cell? ⟨x1w.heap.size + 1, 7, none⟩ = some (.slice (some ⟨x1w.heap.size, 0, none⟩) 1 1) := fun V hV => (HD4.out.a.later HD4.out.lt.2 (hV)).c7
        repeat (first | (refine wpO_F (v := ?_) rfl (by rfl) (fun w' hL => ?_) ?_; rotate_left; (solve | (go_simp; with_reducible rfl) | go_simp); try simp only [Act.put, List.setIfInBounds_toArray, List.set_cons_zero, List.set_cons_succ]) | (refine wpO_G rfl (by rfl) ?_; try simp only [Act.put, List.setIfInBounds_toArray, List.set_cons_zero, List.set_cons_succ]))
        refine wpO_C rfl (by rfl) ?_
        go_simp
        refine (HRe.out _ HD4.out.xat).mono ?_
        rintro e y5 ⟨rfl, hb8⟩
        refine ⟨hb8, ?_⟩
        try simp only [Act.put, List.setIfInBounds_toArray, List.set_cons_zero, List.set_cons_succ]
        have HD5 := Lib.hid (HD4.out.later hb8)
        clear hb8
        clear e0 a0 e1 a1 e2 a2 e3 a3 e4 a4 e5 a5 e6 a6 e7 a7
        repeat (first | (refine wpO_F (v := ?_) rfl (by rfl) (fun w' hL => ?_) ?_; rotate_left; (solve | (go_simp; with_reducible rfl) | go_simp); try simp only [Act.put, List.setIfInBounds_toArray, List.set_cons_zero, List.set_cons_succ]) | (refine wpO_G rfl (by rfl) ?_; try simp only [Act.put, List.setIfInBounds_toArray, List.set_cons_zero, List.set_cons_succ]))
        refine wpO_nil ?_
        go_wp2
        go_ret
        exact ⟨ret_b (by simp), HD5.out.bel⟩
      | true =>
        go_enter Tryd.func6, Tryd.ntmps6
        go_wp2_with fail
        refine (HCn.out _ (HXA.out.later HB0.out)).mono ?_
        rintro e w1 ⟨rfl, hb1⟩
        have HB1 := Lib.hid (HB0.out.trans (hb1.mono HB0.out.size))
        have HX1 := Lib.hid (HX.out.later (by have := HZ.out; omega) hb1)
        have HL1 : Hid (w.heap.size < w1.heap.size) := by have := HZ.out; have := hb1.size; show _ < _; omega
        clear x0 x1 x2 x3 x4 x5 x6 x7
        obtain ⟨x0, x1, x2, x3, x4, x5, x6, x7⟩ := HX1.out
        clear hb1
        go_wp2_with fail
        refine (HGr.out _ (HXA.out.later HB1.out)).mono ?_
        rintro e w2 ⟨rfl, hb2⟩
        have HB2 := Lib.hid (HB1.out.trans (hb2.mono HB1.out.size))
        have HX2 := Lib.hid (HX1.out.later HL1.out hb2)
        have HL2 : Hid (w.heap.size < w2.heap.size) := Nat.lt_of_lt_of_le HL1.out hb2.size
        clear x0 x1 x2 x3 x4 x5 x6 x7
        obtain ⟨x0, x1, x2, x3, x4, x5, x6, x7⟩ := HX2.out
        clear hb2
        go_wp2_with fail
        refine (HDp.out _ (HXA.out.later HB2.out)).mono ?_
        rintro e x1w ⟨rfl, hb3⟩
        have HB3 := Lib.hid (HB2.out.trans (hb3.mono HB2.out.size))
        have HX3 := Lib.hid (HX2.out.later HL2.out hb3)
        have HL3 : Hid (w.heap.size < x1w.heap.size) := Nat.lt_of_lt_of_le HL2.out hb3.size
        clear x0 x1 x2 x3 x4 x5 x6 x7
        obtain ⟨x0, x1, x2, x3, x4, x5, x6, x7⟩ := HX3.out
        have HD0 := Lib.hid (DepE.new HX3.out HL3.out (HXA.out.later HB3.out) HB3.out)
        obtain ⟨V0, hV0⟩ : ∃ V0, (x1w.alloc (.cells #[.int .i64 x.t.lab.kd, .int .u8 x.t.lab.v.k, .int .i64 x.t.lab.v.n, .string x.t.lab.v.s, .string x.t.lab.tb, .string x.t.lab.nm, .string x.t.lab.op, .slice x.a x.t.args.length x.cap] 39)).alloc (.cells #[.int .i64 3, .int .u8 0, .int .i64 0, .string ⟨#[]⟩, .string ⟨#[]⟩, .string ⟨#[]⟩, .string ⟨#[110, 111, 116]⟩, .slice (some ⟨x1w.heap.size, 0, none⟩) 1 1] 39) = V0 := ⟨_, rfl⟩
        rw [hV0] at HD0
        have HV0 := Lib.hid hV0
        clear hb3 hV0
        go_wp2_with fail
        rw [HV0.out]
        clear x0 x1 x2 x3 x4 x5 x6 x7
        refine wp_region_ord [(0, false), (1, true), (2, true), (3, true), (4, true), (5, true), (6, true), (7, true), (8, false), (9, true), (10, true), (11, true), (12, true), (14, true), (13, false), (15, true), (16, true), (17, true), (18, true), (20, true), (19, false), (21, false), (22, true), (23, true), (24, true), (25, true), (26, true), (27, true), (28, true)] (by kernel_rfl) (by kernel_rfl) (by kernel_rfl) (by kernel_rfl) ?_
        refine wpO_C rfl (by rfl) ?_
        go_simp
        refine (HAl.out _ HD0.out.bel.drew).mono ?_
        rintro e y1 ⟨rfl, hb4⟩
        refine ⟨hb4, ?_⟩
        try simp only [Act.put, List.setIfInBounds_toArray, List.set_cons_zero, List.set_cons_succ]
        have HD1 := Lib.hid (HD0.out.later ((Below.refl _ V0).drew.trans hb4))
        clear hb4
        have e0 : ∀ V, Later y1 V → V.cell? ⟨w.heap.size, 0, none⟩ = some (.int .i64 x.t.lab.kd) := fun V hV => (HD1.out.e.later HD1.out.lt.1 (hV)).c0
        have a0 : ∀ V, Later y1 V → V.cell? ⟨x1w.heap.size + 1, 0, none⟩ = some (.int .i64 3) := fun V hV => (HD1.out.a.later HD1.out.lt.2 (hV)).c0
        have e1 : ∀ V, Later y1 V → V.cell? ⟨w.heap.size, 1, none⟩ = some (.int .u8 x.t.lab.v.k) := fun V hV => (HD1.out.e.later HD1.out.lt.1 (hV)).c1
        have a1 : ∀ V, Later y1 V → V.cell? ⟨x1w.heap.size + 1, 1, none⟩ = some (.int .u8 0) := fun V hV => (HD1.out.a.later HD1.out.lt.2 (hV)).c1
        have e2 : ∀ V, Later y1 V → V.cell? ⟨w.heap.size, 2, none⟩ = some (.int .i64 x.t.lab.v.n) := fun V hV => (HD1.out.e.later HD1.out.lt.1 (hV)).c2
        have a2 : ∀ V, Later y1 V → V.cell? ⟨x1w.heap.size + 1, 2, none⟩ = some (.int .i64 0) := fun V hV => (HD1.out.a.later HD1.out.lt.2 (hV)).c2
        have e3 : ∀ V, Later y1 V → V.cell? ⟨w.heap.size, 3, none⟩ = some (.string x.t.lab.v.s) := fun V hV => (HD1.out.e.later HD1.out.lt.1 (hV)).c3
        have a3 : ∀ V, Later y1 V → V.cell? ⟨x1w.heap.size + 1, 3, none⟩ = some (.string ⟨#[]⟩) := fun V hV => (HD1.out.a.later HD1.out.lt.2 (hV)).c3
        have e4 : ∀ V, Later y1 V → V.cell? ⟨w.heap.size, 4, none⟩ = some (.string x.t.lab.tb) := fun V hV => (HD1.out.e.later HD1.out.lt.1 (hV)).c4
        have a4 : ∀ V, Later y1 V → V.cell? ⟨x1w.heap.size + 1, 4, none⟩ = some (.string ⟨#[]⟩) := fun V hV => (HD1.out.a.later HD1.out.lt.2 (hV)).c4
        have e5 : ∀ V, Later y1 V → V.cell? ⟨w.heap.size, 5, none⟩ = some (.string x.t.lab.nm) := fun V hV => (HD1.out.e.later HD1.out.lt.1 (hV)).c5
        have a5 : ∀ V, Later y1 V → V.cell? ⟨x1w.heap.size + 1, 5, none⟩ = some (.string ⟨#[]⟩) := fun V hV => (HD1.out.a.later HD1.out.lt.2 (hV)).c5
        have e6 : ∀ V, Later y1 V → V.cell? ⟨w.heap.size, 6, none⟩ = some (.string x.t.lab.op) := fun V hV => (HD1.out.e.later HD1.out.lt.1 (hV)).c6
        have a6 : ∀ V, Later y1 V → V.cell? ⟨x1w.heap.size + 1, 6, none⟩ = some (.string ⟨#[110, 111, 116]⟩) := fun V hV => (HD1.out.a.later HD1.out.lt.2 (hV)).c6
        have e7 : ∀ V, Later y1 V → V.cell? ⟨w.heap.size, 7, none⟩ = some (.slice x.a x.t.args.length x.cap) := fun V hV => (HD1.out.e.later HD1.out.lt.1 (hV)).c7
        have a7 : ∀ V, Later y1 V → V.cell? ⟨x1w.heap.size + 1, 7, none⟩ = some (.slice (some ⟨x1w.heap.size, 0, none⟩) 1 1) := fun V hV => (HD1.out.a.later HD1.out.lt.2 (hV)).c7
        repeat (first | (refine wpO_F (v := ?_) rfl (by rfl) (fun w' hL => ?_) ?_; rotate_left; (solve | (go_simp; with_reducible rfl) | go_simp); try simp only [Act.put, List.setIfInBounds_toArray, List.set_cons_zero, List.set_cons_succ]) | (refine wpO_G rfl (by rfl) ?_; try simp only [Act.put, List.setIfInBounds_toArray, List.set_cons_zero, List.set_cons_succ]))
        refine wpO_C rfl (by rfl) ?_
        go_simp
        refine (HCn.out _ HD1.out.xat).mono ?_
        rintro e y2 ⟨rfl, hb5⟩
        refine ⟨hb5, ?_⟩
        try simp only [Act.put, List.setIfInBounds_toArray, List.set_cons_zero, List.set_cons_succ]
        have HD2 := Lib.hid (HD1.out.later hb5)
        clear hb5
        clear e0 a0 e1 a1 e2 a2 e3 a3 e4 a4 e5 a5 e6 a6 e7 a7
        have e0 : ∀ V, Later y2 V → V.cell? ⟨w.heap.size, 0, none⟩ = some (.int .i64 x.t.lab.kd) := fun V hV => (HD2.out.e.later HD2.out.lt.1 (hV)).c0
        have a0 : ∀ V, Later y2 V → V.cell? ⟨x1w.heap.size + 1, 0, none⟩ = some (.int .i64 3) := fun V hV => (HD2.out.a.later HD2.out.lt.2 (hV)).c0
        have e1 : ∀ V, Later y2 V → V.cell? ⟨w.heap.size, 1, none⟩ = some (.int .u8 x.t.lab.v.k) := fun V hV => (HD2.out.e.later HD2.out.lt.1 (hV)).c1
        have a1 : ∀ V, Later y2 V → V.cell? ⟨x1w.heap.size + 1, 1, none⟩ = some (.int .u8 0) := fun V hV => (HD2.out.a.later HD2.out.lt.2 (hV)).c1
        have e2 : ∀ V, Later y2 V → V.cell? ⟨w.heap.size, 2, none⟩ = some (.int .i64 x.t.lab.v.n) := fun V hV => (HD2.out.e.later HD2.out.lt.1 (hV)).c2
        have a2 : ∀ V, Later y2 V → V.cell? ⟨x1w.heap.size + 1, 2, none⟩ = some (.int .i64 0) := fun V hV => (HD2.out.a.later HD2.out.lt.2 (hV)).c2
        have e3 : ∀ V, Later y2 V → V.cell? ⟨w.heap.size, 3, none⟩ = some (.string x.t.lab.v.s) := fun V hV => (HD2.out.e.later HD2.out.lt.1 (hV)).c3
        have a3 : ∀ V, Later y2 V → V.cell? ⟨x1w.heap.size + 1, 3, none⟩ = some (.string ⟨#[]⟩) := fun V hV => (HD2.out.a.later HD2.out.lt.2 (hV)).c3
        have e4 : ∀ V, Later y2 V → V.cell? ⟨w.heap.size, 4, none⟩ = some (.string x.t.lab.tb) := fun V hV => (HD2.out.e.later HD2.out.lt.1 (hV)).c4
        have a4 : ∀ V, Later y2 V → V.cell? ⟨x1w.heap.size + 1, 4, none⟩ = some (.string ⟨#[]⟩) := fun V hV => (HD2.out.a.later HD2.out.lt.2 (hV)).c4
        have e5 : ∀ V, Later y2 V → V.cell? ⟨w.heap.size, 5, none⟩ = some (.string x.t.lab.nm) := fun V hV => (HD2.out.e.later HD2.out.lt.1 (hV)).c5
        have a5 : ∀ V, Later y2 V → V.cell? ⟨x1w.heap.size + 1, 5, none⟩ = some (.string ⟨#[]⟩) := fun V hV => (HD2.out.a.later HD2.out.lt.2 (hV)).c5
        have e6 : ∀ V, Later y2 V → V.cell? ⟨w.heap.size, 6, none⟩ = some (.string x.t.lab.op) := fun V hV => (HD2.out.e.later HD2.out.lt.1 (hV)).c6
        have a6 : ∀ V, Later y2 V → V.cell? ⟨x1w.heap.size + 1, 6, none⟩ = some (.string ⟨#[110, 111, 116]⟩) := fun V hV => (HD2.out.a.later HD2.out.lt.2 (hV)).c6
        have e7 : ∀ V, Later y2 V → V.cell? ⟨w.heap.size, 7, none⟩ = some (.slice x.a x.t.args.length x.cap) := fun V hV => (HD2.out.e.later HD2.out.lt.1 (hV)).c7
        have a7 : ∀ V, Later y2 V → V.cell? ⟨x1w.heap.size + 1, 7, none⟩ = some (.slice (some ⟨x1w.heap.size, 0, none⟩) 1 1) := fun V hV => (HD2.out.a.later HD2.out.lt.2 (hV)).c7
        repeat (first | (refine wpO_F (v := ?_) rfl (by rfl) (fun w' hL => ?_) ?_; rotate_left; (solve | (go_simp; with_reducible rfl) | go_simp); try simp only [Act.put, List.setIfInBounds_toArray, List.set_cons_zero, List.set_cons_succ]) | (refine wpO_G rfl (by rfl) ?_; try simp only [Act.put, List.setIfInBounds_toArray, List.set_cons_zero, List.set_cons_succ]))
        refine wpO_C rfl (by rfl) ?_
        go_simp
        refine (HDa.out _ _ _ HD2.out).mono ?_
        rintro e y3 ⟨rfl, hb6⟩
        refine ⟨hb6, ?_⟩
        try simp only [Act.put, List.setIfInBounds_toArray, List.set_cons_zero, List.set_cons_succ]
        have HD3 := Lib.hid (HD2.out.later hb6)
        clear hb6
        clear e0 a0 e1 a1 e2 a2 e3 a3 e4 a4 e5 a5 e6 a6 e7 a7
        have e0 : ∀ V, Later y3 V → V.cell? ⟨w.heap.size, 0, none⟩ = some (.int .i64 x.t.lab.kd) := fun V hV => (HD3.out.e.later HD3.out.lt.1 (hV)).c0
        have a0 : ∀ V, Later y3 V → V.cell? ⟨x1w.heap.size + 1, 0, none⟩ = some (.int .i64 3) := fun V hV => (HD3.out.a.later HD3.out.lt.2 (hV)).c0
        have e1 : ∀ V, Later y3 V → V.cell? ⟨w.heap.size, 1, none⟩ = some (.int .u8 x.t.lab.v.k) := fun V hV => (HD3.out.e.later HD3.out.lt.1 (hV)).c1
        have a1 : ∀ V, Later y3 V → V.cell? ⟨x1w.heap.size + 1, 1, none⟩ = some (.int .u8 0) := fun V hV => (HD3.out.a.later HD3.out.lt.2 (hV)).c1
        have e2 : ∀ V, Later y3 V → V.cell? ⟨w.heap.size, 2, none⟩ = some (.int .i64 x.t.lab.v.n) := fun V hV => (HD3.out.e.later HD3.out.lt.1 (hV)).c2
        have a2 : ∀ V, Later y3 V → V.cell? ⟨x1w.heap.size + 1, 2, none⟩ = some (.int .i64 0) := fun V hV => (HD3.out.a.later HD3.out.lt.2 (hV)).c2
        have e3 : ∀ V, Later y3 V → V.cell? ⟨w.heap.size, 3, none⟩ = some (.string x.t.lab.v.s) := fun V hV => (HD3.out.e.later HD3.out.lt.1 (hV)).c3
        have a3 : ∀ V, Later y3 V → V.cell? ⟨x1w.heap.size + 1, 3, none⟩ = some (.string ⟨#[]⟩) := fun V hV => (HD3.out.a.later HD3.out.lt.2 (hV)).c3
        have e4 : ∀ V, Later y3 V → V.cell? ⟨w.heap.size, 4, none⟩ = some (.string x.t.lab.tb) := fun V hV => (HD3.out.e.later HD3.out.lt.1 (hV)).c4
        have a4 : ∀ V, Later y3 V → V.cell? ⟨x1w.heap.size + 1, 4, none⟩ = some (.string ⟨#[]⟩) := fun V hV => (HD3.out.a.later HD3.out.lt.2 (hV)).c4
        have e5 : ∀ V, Later y3 V → V.cell? ⟨w.heap.size, 5, none⟩ = some (.string x.t.lab.nm) := fun V hV => (HD3.out.e.later HD3.out.lt.1 (hV)).c5
        have a5 : ∀ V, Later y3 V → V.cell? ⟨x1w.heap.size + 1, 5, none⟩ = some (.string ⟨#[]⟩) := fun V hV => (HD3.out.a.later HD3.out.lt.2 (hV)).c5
        have e6 : ∀ V, Later y3 V → V.cell? ⟨w.heap.size, 6, none⟩ = some (.string x.t.lab.op) := fun V hV => (HD3.out.e.later HD3.out.lt.1 (hV)).c6
        have a6 : ∀ V, Later y3 V → V.cell? ⟨x1w.heap.size + 1, 6, none⟩ = some (.string ⟨#[110, 111, 116]⟩) := fun V hV => (HD3.out.a.later HD3.out.lt.2 (hV)).c6
        have e7 : ∀ V, Later y3 V → V.cell? ⟨w.heap.size, 7, none⟩ = some (.slice x.a x.t.args.length x.cap) := fun V hV => (HD3.out.e.later HD3.out.lt.1 (hV)).c7
        have a7 : ∀ V, Later y3 V → V.cell? ⟨x1w.heap.size + 1, 7, none⟩ = some (.slice (some ⟨x1w.heap.size, 0, none⟩) 1 1) := fun V hV => (HD3.out.a.later HD3.out.lt.2 (hV)).c7
        repeat (first | (refine wpO_F (v := ?_) rfl (by rfl) (fun w' hL => ?_) ?_; rotate_left; (solve | (go_simp; with_reducible rfl) | go_simp); try simp only [Act.put, List.setIfInBounds_toArray, List.set_cons_zero, List.set_cons_succ]) | (refine wpO_G rfl (by rfl) ?_; try simp only [Act.put, List.setIfInBounds_toArray, List.set_cons_zero, List.set_cons_succ]))
        refine wpO_C rfl (by rfl) ?_
        go_simp
        refine (HRa.out _ _ _ HD3.out).mono ?_
        rintro e y4 ⟨rfl, hb7⟩
        refine ⟨hb7, ?_⟩
        try simp only [Act.put, List.setIfInBounds_toArray, List.set_cons_zero, List.set_cons_succ]
        have HD4 := Lib.hid (HD3.out.later hb7)
        clear hb7
        clear e0 a0 e1 a1 e2 a2 e3 a3 e4 a4 e5 a5 e6 a6 e7 a7
        have e0 : ∀ V, Later y4 V → V.cell? ⟨w.heap.size, 0, none⟩ = some (.int .i64 x.t.lab.kd) := fun V hV => (HD4.out.e.later HD4.out.lt.1 (hV)).c0
        have a0 : ∀ V, Later y4 V → V.cell? ⟨x1w.heap.size + 1, 0, none⟩ = some (.int .i64 3) := fun V hV => (HD4.out.a.later HD4.out.lt.2 (hV)).c0
        have e1 : ∀ V, Later y4 V → V.cell? ⟨w.heap.size, 1, none⟩ = some (.int .u8 x.t.lab.v.k) := fun V hV => (HD4.out.e.later HD4.out.lt.1 (hV)).c1
        have a1 : ∀ V, Later y4 V → V.cell? ⟨x1w.heap.size + 1, 1, none⟩ = some (.int .u8 0) := fun V hV => (HD4.out.a.later HD4.out.lt.2 (hV)).c1
        have e2 : ∀ V, Later y4 V → V.cell? ⟨w.heap.size, 2, none⟩ = some (.int .i64 x.t.lab.v.n) := fun V hV => (HD4.out.e.later HD4.out.lt.1 (hV)).c2
        have a2 : ∀ V, Later y4 V → V.cell? ⟨x1w.heap.size + 1, 2, none⟩ = some (.int .i64 0) := fun V hV => (HD4.out.a.later HD4.out.lt.2 (hV)).c2
        have e3 : ∀ V, Later y4 V → V.cell? ⟨w.heap.size, 3, none⟩ = some (.string x.t.lab.v.s) := fun V hV => (HD4.out.e.later HD4.out.lt.1 (hV)).c3
        have a3 : ∀ V, Later y4 V → V.cell? ⟨x1w.heap.size + 1, 3, none⟩ = some (.string ⟨#[]⟩) := fun V hV => (HD4.out.a.later HD4.out.lt.2 (hV)).c3
        have e4 : ∀ V, Later y4 V → V.cell? ⟨w.heap.size, 4, none⟩ = some (.string x.t.lab.tb) := fun V hV => (HD4.out.e.later HD4.out.lt.1 (hV)).c4
        have a4 : ∀ V, Later y4 V → V.cell? ⟨x1w.heap.size + 1, 4, none⟩ = some (.string ⟨#[]⟩) := fun V hV => (HD4.out.a.later HD4.out.lt.2 (hV)).c4
        have e5 : ∀ V, Later y4 V → V.cell? ⟨w.heap.size, 5, none⟩ = some (.string x.t.lab.nm) := fun V hV => (HD4.out.e.later HD4.out.lt.1 (hV)).c5
        have a5 : ∀ V, Later y4 V → V.cell? ⟨x1w.heap.size + 1, 5, none⟩ = some (.string ⟨#[]⟩) := fun V hV => (HD4.out.a.later HD4.out.lt.2 (hV)).c5
        have e6 : ∀ V, Later y4 V → V.cell? ⟨w.heap.size, 6, none⟩ = some (.string x.t.lab.op) := fun V hV => (HD4.out.e.later HD4.out.lt.1 (hV)).c6
        have a6 : ∀ V, Later y4 V → V.cell? ⟨x1w.heap.size + 1, 6, none⟩ = some (.string ⟨#[110, 111, 116]⟩) := fun V hV => (HD4.out.a.later HD4.out.lt.2 (hV)).c6
        have e7 : ∀ V, Later y4 V → V.cell? ⟨w.heap.size, 7, none⟩ = some (.slice x.a x.t.args.length x.cap) := fun V hV => (HD4.out.e.later HD4.out.lt.1 (hV)).c7
        have a7 : ∀ V, Later y4 V → V.cell? ⟨x1w.heap.size + 1, 7, none⟩ = some (.slice (some ⟨x1w.heap.size, 0, none⟩) 1 1) := fun V hV => (HD4.out.a.later HD4.out.lt.2 (hV)).c7
        repeat (first | (refine wpO_F (v := ?_) rfl (by rfl) (fun w' hL => ?_) ?_; rotate_left; (solve | (go_simp; with_reducible rfl) | go_simp); try simp only [Act.put, List.setIfInBounds_toArray, List.set_cons_zero, List.set_cons_succ]) | (refine wpO_G rfl (by rfl) ?_; try simp only [Act.put, List.setIfInBounds_toArray, List.set_cons_zero, List.set_cons_succ]))
        refine wpO_C rfl (by rfl) ?_
        go_simp
        refine (HRe.out _ HD4.out.xat).mono ?_
        rintro e y5 ⟨rfl, hb8⟩
        refine ⟨hb8, ?_⟩
        try simp only [Act.put, List.setIfInBounds_toArray, List.set_cons_zero, List.set_cons_succ]
        have HD5 := Lib.hid (HD4.out.later hb8)
        clear hb8
        clear e0 a0 e1 a1 e2 a2 e3 a3 e4 a4 e5 a5 e6 a6 e7 a7
        repeat (first | (refine wpO_F (v := ?_) rfl (by rfl) (fun w' hL => ?_) ?_; rotate_left; (solve | (go_simp; with_reducible rfl) | go_simp); try simp only [Act.put, List.setIfInBounds_toArray, List.set_cons_zero, List.set_cons_succ]) | (refine wpO_G rfl (by rfl) ?_; try simp only [Act.put, List.setIfInBounds_toArray, List.set_cons_zero, List.set_cons_succ]))
        refine wpO_nil ?_
        go_wp2
        go_ret
        exact ⟨ret_b (by simp), HD5.out.bel⟩
end Go.Proofs.YtjhdlbkcpdfpcaaDoor

/- An expression that comes in as an argument. -/
set_option linter.unusedSimpArgs false
set_option linter.unusedVariables false
set_option maxRecDepth 100000
namespace Go.Proofs.YtjhdlbkcpdfpcaaDoor
open Go.RowKit Go.ChangeShapes Go.WideShapes Go.Deep Go.Joins

theorem weights_all_mem {H : Type} {P : Program} {e : TypeId} : ∀ {l : List (DataW H)} {d : DataW H}, d ∈ l → ∀ n ∈ d.weights P e, n ∈ DataW.weightsAll P e l
  | [], _, h, _, _ => by cases h
  | y :: r, d, h, n, hn => by
    simp only [DataW.weightsAll, List.mem_append]
    rcases List.mem_cons.1 h with rfl | h
    · exact .inl hn
    · exact .inr (weights_all_mem h n hn)

theorem ListR.of {α β : Type} (R : α → β → Prop) : ∀ (l : List α), (∀ x ∈ l, ∃ y, R x y) → ∃ m : List β, m.length = l.length ∧ ∀ (i : Nat) (x : α), l[i]? = some x → ∃ y, m[i]? = some y ∧ R x y
  | [], _ => ⟨[], rfl, fun i x h => by simp at h⟩
  | a :: r, h => by
    obtain ⟨y, hy⟩ := h a List.mem_cons_self
    obtain ⟨m, hm, hR⟩ := ListR.of R r (fun x hx => h x (List.mem_cons_of_mem _ hx))
    refine ⟨y :: m, by simp [hm], fun i x hi => ?_⟩
    cases i with
    | zero => simp at hi; subst hi; exact ⟨y, rfl, hy⟩
    | succ i => obtain ⟨z, h1, h2⟩ := hR i x (by simpa using hi); exact ⟨z, by simpa using h1, h2⟩

/-- What is asked of the sizes. -/
def Sized {H : Type} (T : TypeId) (d : DataW H) : Prop := ∀ n ∈ d.weights Tryd.prog T, n ≤ reachBytes

set_option maxRecDepth 100000 in
theorem trod_expr {T S : TypeId} {f0 f1 f2 f3 f4 f5 : Field} (hT : Tryd.prog.underlying T = some (.struct #[f0, f1, f2, f3, f4, f5])) (hS : Tryd.prog.underlying S = some (.slice T)) (hC : Tryd.prog.cellsOf T = 8) (c4 : Tryd.prog.cellsOf S = 1)
    (e0 : f0.type = 3 ∧ f0.offset = 0) (e1 : f1.type = 36 ∧ f1.offset = 1) (e2 : f2.type = 9 ∧ f2.offset = 4) (e3 : f3.type = 9 ∧ f3.offset = 5) (e4 : f4.type = 9 ∧ f4.offset = 6) (e5 : f5.type = S ∧ f5.offset = 7)
    {H : Type} {enc : TypeId × Value → H} {w : World} : ∀ (fuel : Nat) (cs : List Value) (x : DataW H × List MemPlace), DataW.trod enc Tryd.prog w 0 (fun _ => true) true fuel T cs = some x → Sized T x.1 →
    ∃ r : XM, cs = cellsX r ∧ XAt w.heap.size w fuel r := by
  intro fuel
  induction fuel using Nat.strongRecOn with
  | ind fuel ih =>
    intro cs x h hsz
    obtain ⟨xs, n, rfl, rfl, hl, hlen, hf⟩ := DataW.trod_struct hT h
    rw [hC] at hl
    match cs, hl with
    | [v0, v1, v2, v3, v4, v5, v6, v7], _ =>
      match xs, hlen with
      | [y0, y1, y2, y3, y4, y5], _ =>
        have c1 : Tryd.prog.cellsOf 3 = 1 := by kernel_rfl
        have c2 : Tryd.prog.cellsOf 36 = 3 := by kernel_rfl
        have c3 : Tryd.prog.cellsOf 9 = 1 := by kernel_rfl
        have g0 : DataW.trod enc Tryd.prog w 0 (fun _ => true) true n 3 [v0] = some y0 := by have := hf 0 f0 rfl; rw [e0.1, e0.2, c1] at this; exact this
        have g1 : DataW.trod enc Tryd.prog w 0 (fun _ => true) true n 36 [v1, v2, v3] = some y1 := by have := hf 1 f1 rfl; rw [e1.1, e1.2, c2] at this; exact this
        have g2 : DataW.trod enc Tryd.prog w 0 (fun _ => true) true n 9 [v4] = some y2 := by have := hf 2 f2 rfl; rw [e2.1, e2.2, c3] at this; exact this
        have g3 : DataW.trod enc Tryd.prog w 0 (fun _ => true) true n 9 [v5] = some y3 := by have := hf 3 f3 rfl; rw [e3.1, e3.2, c3] at this; exact this
        have g4 : DataW.trod enc Tryd.prog w 0 (fun _ => true) true n 9 [v6] = some y4 := by have := hf 4 f4 rfl; rw [e4.1, e4.2, c3] at this; exact this
        have g5 : DataW.trod enc Tryd.prog w 0 (fun _ => true) true n S [v7] = some y5 := by have := hf 5 f5 rfl; rw [e5.1, e5.2, c4] at this; exact this
        obtain ⟨z0, q0, p0, w0⟩ := DataW.trod_int Tryd.underlying3 g0
        obtain ⟨u0, u1, u2, n1, rfl, _, k0, k1, k2⟩ := trod_struct3 Tryd.underlying36 g1
        have m0 : DataW.trod enc Tryd.prog w 0 (fun _ => true) true n1 5 [v1] = some u0 := k0
        have m1 : DataW.trod enc Tryd.prog w 0 (fun _ => true) true n1 2 [v2] = some u1 := k1
        have m2 : DataW.trod enc Tryd.prog w 0 (fun _ => true) true n1 9 [v3] = some u2 := k2
        obtain ⟨b0, q1, p1, w1⟩ := DataW.trod_int Tryd.underlying5 m0
        obtain ⟨b1, q2, p2, w2⟩ := DataW.trod_int Tryd.underlying2 m1
        obtain ⟨s3, q3, p3, w3⟩ := DataW.trod_string Tryd.underlying9 m2
        obtain ⟨s4, q4, p4, w4⟩ := DataW.trod_string Tryd.underlying9 g2
        obtain ⟨s5, q5, p5, w5⟩ := DataW.trod_string Tryd.underlying9 g3
        obtain ⟨s6, q6, p6, w6⟩ := DataW.trod_string Tryd.underlying9 g4
        simp only [List.cons.injEq, and_true] at q0 q1 q2 q3 q4 q5 q6
        subst q0 q1 q2 q3 q4 q5 q6
        obtain ⟨kk, rfl, hkk⟩ := nat_u8 w1
        have hW : ∀ m, (m ∈ (u2.1).weights Tryd.prog 9 ∨ m ∈ y2.1.weights Tryd.prog 9 ∨ m ∈ y3.1.weights Tryd.prog 9 ∨ m ∈ y4.1.weights Tryd.prog 9 ∨ m ∈ y5.1.weights Tryd.prog S) → m ≤ reachBytes := by
          intro m hm
          refine hsz m ?_
          simp only [DataW.weights, hT, List.map_cons, List.map_nil, DataW.weightsEach, e0.1, e1.1, e2.1, e3.1, e4.1, e5.1, List.mem_append, Tryd.underlying36]
          simp
          rcases hm with h | h | h | h | h <;> simp [h]
        have B3 : s3.size ≤ 140737488351232 := by have := hW s3.data.toList.length (by rw [p3]; simp [DataW.weights]); unfold reachBytes at this; simpa using this
        have B4 : s4.size ≤ 140737488351232 := by have := hW s4.data.toList.length (by rw [p4]; simp [DataW.weights]); unfold reachBytes at this; simpa using this
        have B5 : s5.size ≤ 140737488351232 := by have := hW s5.data.toList.length (by rw [p5]; simp [DataW.weights]); unfold reachBytes at this; simpa using this
        have B6 : s6.size ≤ 140737488351232 := by have := hW s6.data.toList.length (by rw [p6]; simp [DataW.weights]); unfold reachBytes at this; simpa using this
        have HL : Lb.fair ⟨z0, ⟨kk, b1, s3⟩, s4, s5, s6⟩ := ⟨bd_i64 w0, hkk, bd_i64 w2, B3, B4, B5, B6⟩
        rcases DataW.trod_slice hS g5 with ⟨hcs, _⟩ | ⟨a, len, cap, elems, rest, n2, hn, hcs, hy5, hb, hlc, hcm, hel, hel2, -, -⟩
        · simp only [List.cons.injEq, and_true] at hcs
          subst hcs
          exact ⟨⟨.mk ⟨z0, ⟨kk, b1, s3⟩, s4, s5, s6⟩ [], none, 0⟩, rfl, HL, Nat.le_refl _, by simp, [], rfl, .inl rfl, fun y hy => by cases hy⟩
        · simp only [List.cons.injEq, and_true] at hcs
          subst hcs hn
          have hkid : ∀ i : Fin len, ∃ r : XM, XAt w.heap.size w n2 r ∧ ∀ (j : Nat) (v : Value), (cellsX r)[j]? = some v → w.cell? ((a.add (i.1 * 8)).add j) = some v := by
            intro i
            have hi := hel2 i.1 i.2
            rw [hC] at hi
            have hil : i.1 < elems.length := by rw [hel]; exact i.2
            rw [List.getElem?_eq_getElem hil] at hi
            obtain ⟨cs', hc', ht'⟩ := Option.bind_eq_some_iff.1 hi
            obtain ⟨_, hlen, hat⟩ := World.cells?_some hc'
            obtain ⟨r, rfl, hr⟩ := ih n2 (by omega) cs' _ ht' (fun m hm => hW m (.inr (.inr (.inr (.inr (by
              rw [hy5]
              simp only [DataW.weights, hS, List.mem_cons, List.mem_append]
              exact .inr (.inl (weights_all_mem (List.mem_map.2 ⟨_, List.getElem_mem hil, rfl⟩) m hm))))))))
            exact ⟨r, hr, fun j v hj => by rw [hat j (by have h9 := (List.getElem?_eq_some_iff.1 hj).1; rw [cellsX_len] at h9; exact h9)]; exact hj⟩
          obtain ⟨L, h1, h2, h3⟩ := row_of cellsX 8 (by omega) cellsX_len (fun r => XAt w.heap.size w n2 r) w a len hkid
          unfold maxLen at hcm
          refine ⟨⟨.mk ⟨z0, ⟨kk, b1, s3⟩, s4, s5, s6⟩ (L.map (·.t)), some a, cap⟩, ?_, HL, ?_, by simp only; omega, L, rfl, h2, fun y hy => RoseAt.up (h3 y hy)⟩
          · subst h1; simp [cellsX, cellsR, Lb.cells, Rose.lab, Rose.args]
          · simp [Rose.args]; omega

set_option maxRecDepth 100000 in
theorem open_expr {H : Type} {enc : TypeId × Value → H} {w : World} {r : Reach} {b0 : Nat} {v : Value} {d : DataW H} {p : List MemPlace} (hv : Value.okWide Tryd.prog w r b0 39 v) (h : DataW.Trod enc Tryd.prog w 0 (fun _ => true) true 39 v d p)
    (hs : Sized 39 d) : ∃ (x : XM) (n : Nat), v = x.v ∧ XAt w.heap.size w n x := by
  obtain ⟨cs, rfl, _⟩ := okWide_struct Tryd.underlying39 hv
  obtain ⟨fuel, hf⟩ := h
  obtain ⟨x, hx, hA⟩ := trod_expr Tryd.underlying39 Tryd.underlying37 (by kernel_rfl) (by kernel_rfl) ⟨rfl, rfl⟩ ⟨rfl, rfl⟩ ⟨rfl, rfl⟩ ⟨rfl, rfl⟩ ⟨rfl, rfl⟩ ⟨rfl, rfl⟩ fuel cs.toList (d, p) hf hs
  refine ⟨x, fuel, ?_, hA⟩
  unfold XM.v
  rw [← hx]
end Go.Proofs.YtjhdlbkcpdfpcaaDoor
