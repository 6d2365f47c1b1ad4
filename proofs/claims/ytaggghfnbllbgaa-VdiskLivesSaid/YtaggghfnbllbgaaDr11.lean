/- VdiskLives: the walk. -/
import Derived.Test.YtaggghfnbllbgaaDr10
namespace Go.Proofs.Ytaggghfnbllbgaa
set_option linter.unusedSimpArgs false
open Go.RowKit

/-- A world behind another: as long as no memory was made, what lay in the first N blocks lies there; behind that nothing changes. -/
def Phase (N s0 : Nat) (a b : World) : Prop := (a.heap.size = s0 → ∀ k, k < N → b.heap[k]? = a.heap[k]?) ∧ (a.heap.size ≠ s0 → b = a)
theorem Phase.refl (N s0 : Nat) (a : World) : Phase N s0 a a := ⟨fun _ _ _ => rfl, fun _ => rfl⟩
theorem Phase.trans {N s0 : Nat} {a b c : World} (h : Phase N s0 a b) (k : Phase N s0 b c) : Phase N s0 a c := by
  by_cases ha : a.heap.size = s0
  · refine ⟨fun _ j hj => ?_, fun hn => absurd ha hn⟩
    by_cases hb : b.heap.size = s0
    · exact (k.1 hb j hj).trans (h.1 ha j hj)
    · rw [k.2 hb]; exact h.1 ha j hj
  · have e := h.2 ha
    subst e
    exact k
theorem Phase.cell {N s0 : Nat} {a b : World} (h : Phase N s0 a b) (ha : a.heap.size = s0) {g o : Nat} (hg : g < N) : b.cell? ⟨g, o, none⟩ = a.cell? ⟨g, o, none⟩ := World.cell?_of_block (w := a) (a := ⟨g, o, none⟩) (h.1 ha g hg)

theorem wp_region_phase {P : Program} {ops : Array Oper} {Q : Exit → Act → World → Prop} {id : Nat} {a : Act} {w : World} (N s0 : Nat) (ord : List (Nat × Bool)) (hm : P.follows .mixedOrders = true) (hs : Region.noSelect ops = true)
    (hl : decide (ord.length ≤ ops.size) = true) (hc : checkO .any ops ord (Array.replicate ops.size false) = true) (h : wpO P ops (NoPanic Q) (Phase N s0) ord a w.drew) : (Code.region id ops true).wp P Q a w :=
  wp_region_noPanic (wp_region_held hm (wpO_sound (Phase.refl N s0) Phase.trans hs (NoPanic.put Q) ord ops.size _ a w.drew (of_decide_eq_true hl) hc h))

theorem lenI_two (d : DS) : d.lenI 2 = 0 := rfl
theorem lenI_n (d : DS) (f : Nat) (hf : f < 2) : d.lenI (f : Int) = (d.vis.len f : Int) := by
  unfold DS.lenI
  match f, hf with
  | 0, _ => rfl
  | 1, _ => rfl

set_option maxRecDepth 100000 in
set_option maxHeartbeats 16000000 in
theorem lives_main (q : Int) (a : Option Addr) (len cap : Nat) (L : List DOp) (w : World) (hO : OpsIn w a len cap L) :
    Calls Try.prog 3 #[.int .i64 q, .slice a len cap] w fun e w' => e = .returned (.bool true) ∧ Below w.heap.size w w' := by
  have HAl := Lib.hid alive7_any
  have HO := Lib.hid hO
  have hlen : len ≤ 9223372036854775807 := Nat.le_trans hO.2.1 hO.2.2.1
  clear hO
  go_enter Try.func3, Try.ntmps3
  go_wp2_with fail
  refine (New_any q w).mono ?_
  rintro e w1 ⟨hb1, ⟨hq, rfl⟩ | ⟨hq, B, Mv, Md, rfl, hD, hf⟩⟩
  · have HR := Lib.hid (RNew q w1)
    go_wp2_with fail
    refine HR.out.mono ?_
    rintro e w2 ⟨hb2, ⟨_, rfl⟩ | ⟨hq', _⟩⟩
    rotate_left
    · rw [hq] at hq'; cases hq'
    have hb : Hid (Below w.heap.size w w2) := hb1.trans (hb2.mono hb1.size)
    clear hb1 hb2 HR hq
    go_wp2_with fail
    go_loopw [9] (fun iv wr => iv = .int .i64 0 ∧ wr = w2) (fun _ _ => 0)
    case atStart => exact ⟨rfl, rfl⟩
    case round =>
      obtain ⟨rfl, rfl⟩ := hrel
      by_cases hl0 : len = 0
      · subst hl0
        go_wp2_with (refine (HAl.out _).mono ?_; rintro e w9 ⟨rfl, b9⟩)
        go_ret
        exact ⟨rfl, hb.out.trans (b9.mono hb.out.size)⟩
      · have q5 : decide ((0 : Int) < (len : Int)) = true := by rw [decide_eq_true_eq]; omega
        have q5' : decide (0 < len) = true := by rw [decide_eq_true_eq]; omega
        go_wp2_with (refine (HAl.out _).mono ?_; rintro e w9 ⟨rfl, b9⟩)
        go_ret
        exact ⟨rfl, hb.out.trans (b9.mono hb.out.size)⟩
  · have hq1 : 1 ≤ q ∧ q ≤ 65536 := by unfold isQuotaB at hq; simpa using hq
    have HR := Lib.hid (RNew q w1)
    have HD := Lib.hid (And.intro hD hf)
    clear hD hf
    go_wp2_with fail
    refine HR.out.mono ?_
    rintro e w2 ⟨hb2, ⟨hq', _⟩ | ⟨_, D, rfl, hR, hDge⟩⟩
    · rw [hq] at hq'; cases hq'
    have HP : Hid (Pair w w2 B D (DS.new q.toNat) ⟨q, [], 0, -1, false⟩ (footD B Mv Md (.slice none 0 0)) (.slice none 0 0) []) := by
      have hI : IsDisk w1 B (footD B Mv Md (.slice none 0 0)) (DS.new q.toNat) := ⟨Mv, Md, _, HD.out.1, rfl⟩
      refine ⟨hb1.trans (hb2.mono hb1.size), hI.chg (T := []) (Below.chg0 hb2 []) (by simp), hR, fun k hk hm => ?_, HD.out.2, fun k hk => ?_⟩
      · have h1 := hI.lt k hk
        simp [footR, Value.ownBlock] at hm
        omega
      · simp [footR, Value.ownBlock] at hk
        have := hb1.size
        omega
    have HT : Hid (Twin (DS.new q.toNat) ⟨q, [], 0, -1, false⟩) := by
      have := Twin.new q.toNat
      rw [show ((q.toNat : Nat) : Int) = q by omega] at this
      exact this
    clear hb1 hb2 hR hDge HR HD hq hq1
    go_wp2_with fail
    go_loopw [9] (fun iv wr => ∃ (k : Nat) (d : DS) (x : RS) (S : List Nat) (lv : Value) (M : List MR), k ≤ len ∧ k ≤ 100 ∧ iv = .int .i64 k ∧ Hid (Pair w wr B D d x S lv M) ∧ Hid (Twin d x) ∧ Hid (d.calls ≤ k ∧ x.L.length ≤ k)) (fun iv _ => len - (intOf iv).toNat)
    case atStart => exact ⟨0, _, _, _, _, _, by omega, by omega, rfl, HP.out, HT.out, by simp [DS.new], by simp⟩
    case round =>
      obtain ⟨k, d, x, S, lv, M, hk, hk2, rfl, HP0, HT0, HB0⟩ := hrel
      clear HP HT
      have hb0 := HP0.out.bel
      by_cases hlt : k < len
      · have q1 : decide ((k : Int) < (len : Int)) = true := by rw [decide_eq_true_eq]; omega
        by_cases hlt2 : k < 100
        · have q2 : decide ((k : Int) < 100) = true := by rw [decide_eq_true_eq]; omega
          have hkL : k < L.length := by have := HO.out.1; omega
          obtain ⟨o, ho⟩ : ∃ o, L[k]? = some o := ⟨_, List.getElem?_eq_getElem hkL⟩
          have hfair := HO.out.2.2.2.2 o (List.mem_of_getElem? ho)
          obtain ⟨b, off, rfl, hbN, hcells⟩ : ∃ b off, a = some ⟨b, off, none⟩ ∧ b < w.heap.size ∧ ∀ (j : Nat) (v : Value), o.cells[j]? = some v → w.cell? ⟨b, off + k * 6 + j, none⟩ = some v := by
            rcases HO.out.2.2.2.1 with h | ⟨b, off, h1, h2, h3⟩
            · rw [h] at hkL; simp at hkL
            · exact ⟨b, off, h1, h2, h3 k o ho⟩
          have hcl : ∀ (W : World), Below w.heap.size w W → ∀ (j : Nat) (v : Value), o.cells[j]? = some v → W.cell? ⟨b, off + k * 6 + j, none⟩ = some v := fun W hW j v hv => (hW.cell (p := ⟨b, off + k * 6 + j, none⟩) hbN).trans (hcells j v hv)
          have HCL := Lib.hid hcl
          have HFair := Lib.hid hfair
          clear hcells hfair ho hkL hcl
          have c5 := HCL.out wr hb0 5 _ rfl
          by_cases h100 : 100 < o.len
          · have q3 : decide ((100 : Int) < (o.len : Int)) = true := by rw [decide_eq_true_eq]; omega
            have q3' : decide (100 < o.len) = true := by rw [decide_eq_true_eq]; omega
            go_wp2_with (refine (HAl.out _).mono ?_; rintro e w9 ⟨rfl, b9⟩)
            go_ret
            exact ⟨rfl, hb0.trans (b9.mono hb0.size)⟩
          · have q3 : decide ((100 : Int) < (o.len : Int)) = false := by rw [decide_eq_false_iff_not]; omega
            have q3' : decide (100 < o.len) = false := by rw [decide_eq_false_iff_not]; omega
            go_wp2_with fail
            clear c5
            have hPh := fun (j : Nat) (v : Value) (hv : o.cells[j]? = some v) W (h : Phase w.heap.size wr.heap.size wr.drew W) => (h.cell rfl hbN).trans (show wr.drew.cell? ⟨b, off + k * 6 + j, none⟩ = some v from HCL.out wr hb0 j v hv)
            have p0 : ∀ W, Phase w.heap.size wr.heap.size wr.drew W → W.cell? ⟨b, off + k * 6, none⟩ = some (.int .i64 o.kind) := hPh 0 _ rfl
            have p1 := hPh 1 _ rfl
            have p2 := hPh 2 _ rfl
            have p3 := hPh 3 _ rfl
            have p4 := hPh 4 _ rfl
            have p5 := hPh 5 _ rfl
            have HPd := Lib.hid (HP0.out.below ((Below.refl _ _).drew))
            refine wp_region_phase w.heap.size wr.heap.size [(0, true), (1, true), (2, true), (3, true), (4, true), (5, true), (6, false), (7, true), (8, true), (9, true), (11, true), (10, false), (12, false), (13, true), (14, true), (15, true), (16, true), (18, true), (19, true), (20, true), (21, true), (17, false), (22, true), (23, true), (24, true), (25, true), (27, true), (28, true), (29, true), (30, true), (26, false), (31, true), (32, true), (33, true), (34, true), (36, true), (35, false), (37, false), (38, true), (39, true), (40, true), (41, true), (43, true), (42, false), (44, false), (45, true), (46, true), (47, true), (48, true), (49, false), (50, true), (51, true)] (by kernel_rfl) (by kernel_rfl) (by kernel_rfl) (by kernel_rfl) ?_
            repeat (first | (refine wpO_F (v := ?_) rfl (by rfl) (fun w' hL => ?_) ?_; rotate_left; (solve | (go_simp; with_reducible rfl) | go_simp); try simp only [Act.put, List.setIfInBounds_toArray, List.set_cons_zero, List.set_cons_succ]) | (refine wpO_G rfl (by rfl) ?_; try simp only [Act.put, List.setIfInBounds_toArray, List.set_cons_zero, List.set_cons_succ]))
            refine wpO_C rfl (by rfl) ?_
            go_simp
            refine (one_any HPd.out HT0.out HB0.out.1 HB0.out.2 (by omega) o HFair.out (by omega)).mono ?_
            rintro e w3 ⟨rfl, hsz, d', x', S', lv', M', hP, hT, hc', hl'⟩
            refine ⟨⟨fun _ j hj => (hP.bel.block j hj).trans (HPd.out.bel.block j hj).symm, fun hn => absurd rfl hn⟩, ?_⟩
            try simp only [Act.put, List.setIfInBounds_toArray, List.set_cons_zero, List.set_cons_succ]
            have hne : w3.heap.size ≠ wr.heap.size := by have : wr.heap.size < w3.heap.size := hsz; omega
            have K1 := DWaits hP.disk
            rw [hT.pend] at K1
            have K2 := RWaits hP.ref
            have K3 := DCalls hP.disk
            rw [← hT.calls] at K3
            have K4 := DDown hP.disk
            rw [← hT.down] at K4
            have K5 := DLen hP.disk ((0 : Nat) : Int)
            rw [lenI_n d' 0 (by omega), hT.vlen] at K5
            have K6 := RLen hP.ref 0
            have K7 := DLen hP.disk ((1 : Nat) : Int)
            rw [lenI_n d' 1 (by omega), hT.vlen] at K7
            have K8 := RLen hP.ref 1
            have K9 := DLen hP.disk 2
            rw [lenI_two] at K9
            have y2 : ∀ W, Phase w.heap.size wr.heap.size w3 W → W.cell? ⟨D, 2, none⟩ = some (.int .i64 (x'.calls : Int)) := fun W h => by rw [h.2 hne]; exact hP.ref.cells.2.2.1
            have y4 : ∀ W, Phase w.heap.size wr.heap.size w3 W → W.cell? ⟨D, 4, none⟩ = some (.bool x'.down) := fun W h => by rw [h.2 hne]; exact hP.ref.cells.2.2.2.2
            have HK := Lib.hid (And.intro K1 (And.intro K2 (And.intro K3 (And.intro K4 (And.intro K5 (And.intro K6 (And.intro K7 (And.intro K8 K9))))))))
            have HP3 := Lib.hid hP
            have HT3 := Lib.hid hT
            have HB3 := Lib.hid (And.intro hc' hl')
            clear K1 K2 K3 K4 K5 K6 K7 K8 K9 hP hT hc' hl' hsz p0 p1 p2 p3 p4 p5 hPh
            repeat (first | (refine wpO_F (v := ?_) rfl (by rfl) (fun w' hL => ?_) ?_; rotate_left; (solve | (go_simp; with_reducible rfl) | go_simp); try simp only [Act.put, List.setIfInBounds_toArray, List.set_cons_zero, List.set_cons_succ]) | (refine wpO_G rfl (by rfl) ?_; try simp only [Act.put, List.setIfInBounds_toArray, List.set_cons_zero, List.set_cons_succ]))
            refine wpO_C rfl (by rfl) ?_
            go_simp
            refine (HK.out.1).mono ?_
            rintro e W ⟨rfl, hW⟩
            subst hW
            refine ⟨Phase.refl _ _ _, ?_⟩
            try simp only [Act.put, List.setIfInBounds_toArray, List.set_cons_zero, List.set_cons_succ]
            repeat (first | (refine wpO_F (v := ?_) rfl (by rfl) (fun w' hL => ?_) ?_; rotate_left; (solve | (go_simp; with_reducible rfl) | go_simp); try simp only [Act.put, List.setIfInBounds_toArray, List.set_cons_zero, List.set_cons_succ]) | (refine wpO_G rfl (by rfl) ?_; try simp only [Act.put, List.setIfInBounds_toArray, List.set_cons_zero, List.set_cons_succ]))
            refine wpO_C rfl (by rfl) ?_
            go_simp
            refine (HK.out.2.1).mono ?_
            rintro e W ⟨rfl, hW⟩
            subst hW
            refine ⟨Phase.refl _ _ _, ?_⟩
            try simp only [Act.put, List.setIfInBounds_toArray, List.set_cons_zero, List.set_cons_succ]
            repeat (first | (refine wpO_F (v := ?_) rfl (by rfl) (fun w' hL => ?_) ?_; rotate_left; (solve | (go_simp; with_reducible rfl) | go_simp); try simp only [Act.put, List.setIfInBounds_toArray, List.set_cons_zero, List.set_cons_succ]) | (refine wpO_G rfl (by rfl) ?_; try simp only [Act.put, List.setIfInBounds_toArray, List.set_cons_zero, List.set_cons_succ]))
            refine wpO_C rfl (by rfl) ?_
            go_simp
            refine (HK.out.2.2.1).mono ?_
            rintro e W ⟨rfl, hW⟩
            subst hW
            refine ⟨Phase.refl _ _ _, ?_⟩
            try simp only [Act.put, List.setIfInBounds_toArray, List.set_cons_zero, List.set_cons_succ]
            repeat (first | (refine wpO_F (v := ?_) rfl (by rfl) (fun w' hL => ?_) ?_; rotate_left; (solve | (go_simp; with_reducible rfl) | go_simp); try simp only [Act.put, List.setIfInBounds_toArray, List.set_cons_zero, List.set_cons_succ]) | (refine wpO_G rfl (by rfl) ?_; try simp only [Act.put, List.setIfInBounds_toArray, List.set_cons_zero, List.set_cons_succ]))
            refine wpO_C rfl (by rfl) ?_
            go_simp
            refine (HK.out.2.2.2.1).mono ?_
            rintro e W ⟨rfl, hW⟩
            subst hW
            refine ⟨Phase.refl _ _ _, ?_⟩
            try simp only [Act.put, List.setIfInBounds_toArray, List.set_cons_zero, List.set_cons_succ]
            repeat (first | (refine wpO_F (v := ?_) rfl (by rfl) (fun w' hL => ?_) ?_; rotate_left; (solve | (go_simp; with_reducible rfl) | go_simp); try simp only [Act.put, List.setIfInBounds_toArray, List.set_cons_zero, List.set_cons_succ]) | (refine wpO_G rfl (by rfl) ?_; try simp only [Act.put, List.setIfInBounds_toArray, List.set_cons_zero, List.set_cons_succ]))
            refine wpO_C rfl (by rfl) ?_
            go_simp
            refine (HK.out.2.2.2.2.1).mono ?_
            rintro e W ⟨rfl, hW⟩
            subst hW
            refine ⟨Phase.refl _ _ _, ?_⟩
            try simp only [Act.put, List.setIfInBounds_toArray, List.set_cons_zero, List.set_cons_succ]
            repeat (first | (refine wpO_F (v := ?_) rfl (by rfl) (fun w' hL => ?_) ?_; rotate_left; (solve | (go_simp; with_reducible rfl) | go_simp); try simp only [Act.put, List.setIfInBounds_toArray, List.set_cons_zero, List.set_cons_succ]) | (refine wpO_G rfl (by rfl) ?_; try simp only [Act.put, List.setIfInBounds_toArray, List.set_cons_zero, List.set_cons_succ]))
            refine wpO_C rfl (by rfl) ?_
            go_simp
            refine (HK.out.2.2.2.2.2.1).mono ?_
            rintro e W ⟨rfl, hW⟩
            subst hW
            refine ⟨Phase.refl _ _ _, ?_⟩
            try simp only [Act.put, List.setIfInBounds_toArray, List.set_cons_zero, List.set_cons_succ]
            repeat (first | (refine wpO_F (v := ?_) rfl (by rfl) (fun w' hL => ?_) ?_; rotate_left; (solve | (go_simp; with_reducible rfl) | go_simp); try simp only [Act.put, List.setIfInBounds_toArray, List.set_cons_zero, List.set_cons_succ]) | (refine wpO_G rfl (by rfl) ?_; try simp only [Act.put, List.setIfInBounds_toArray, List.set_cons_zero, List.set_cons_succ]))
            refine wpO_C rfl (by rfl) ?_
            go_simp
            refine (HK.out.2.2.2.2.2.2.1).mono ?_
            rintro e W ⟨rfl, hW⟩
            subst hW
            refine ⟨Phase.refl _ _ _, ?_⟩
            try simp only [Act.put, List.setIfInBounds_toArray, List.set_cons_zero, List.set_cons_succ]
            repeat (first | (refine wpO_F (v := ?_) rfl (by rfl) (fun w' hL => ?_) ?_; rotate_left; (solve | (go_simp; with_reducible rfl) | go_simp); try simp only [Act.put, List.setIfInBounds_toArray, List.set_cons_zero, List.set_cons_succ]) | (refine wpO_G rfl (by rfl) ?_; try simp only [Act.put, List.setIfInBounds_toArray, List.set_cons_zero, List.set_cons_succ]))
            refine wpO_C rfl (by rfl) ?_
            go_simp
            refine (HK.out.2.2.2.2.2.2.2.1).mono ?_
            rintro e W ⟨rfl, hW⟩
            subst hW
            refine ⟨Phase.refl _ _ _, ?_⟩
            try simp only [Act.put, List.setIfInBounds_toArray, List.set_cons_zero, List.set_cons_succ]
            repeat (first | (refine wpO_F (v := ?_) rfl (by rfl) (fun w' hL => ?_) ?_; rotate_left; (solve | (go_simp; with_reducible rfl) | go_simp); try simp only [Act.put, List.setIfInBounds_toArray, List.set_cons_zero, List.set_cons_succ]) | (refine wpO_G rfl (by rfl) ?_; try simp only [Act.put, List.setIfInBounds_toArray, List.set_cons_zero, List.set_cons_succ]))
            refine wpO_C rfl (by rfl) ?_
            go_simp
            refine (HK.out.2.2.2.2.2.2.2.2).mono ?_
            rintro e W ⟨rfl, hW⟩
            subst hW
            refine ⟨Phase.refl _ _ _, ?_⟩
            try simp only [Act.put, List.setIfInBounds_toArray, List.set_cons_zero, List.set_cons_succ]
            repeat (first | (refine wpO_F (v := ?_) rfl (by rfl) (fun w' hL => ?_) ?_; rotate_left; (solve | (go_simp; with_reducible rfl) | go_simp); try simp only [Act.put, List.setIfInBounds_toArray, List.set_cons_zero, List.set_cons_succ]) | (refine wpO_G rfl (by rfl) ?_; try simp only [Act.put, List.setIfInBounds_toArray, List.set_cons_zero, List.set_cons_succ]))
            refine wpO_nil ?_
            try simp only [NoPanic]
            go_wp2_with fail
            go_roundw
            case rel => exact ⟨k + 1, d', x', S', lv', M', by omega, by omega, by go_num, HP3.out, HT3.out, HB3.out⟩
            case measure => first | (simp [intOf]; done) | (simp [intOf]; omega)
        · have q2 : decide ((k : Int) < 100) = false := by rw [decide_eq_false_iff_not]; omega
          go_wp2_with (refine (HAl.out _).mono ?_; rintro e w9 ⟨rfl, b9⟩)
          go_ret
          exact ⟨rfl, hb0.trans (b9.mono hb0.size)⟩
      · have q1 : decide ((k : Int) < (len : Int)) = false := by rw [decide_eq_false_iff_not]; omega
        go_wp2_with (refine (HAl.out _).mono ?_; rintro e w9 ⟨rfl, b9⟩)
        go_ret
        exact ⟨rfl, hb0.trans (b9.mono hb0.size)⟩
end Go.Proofs.Ytaggghfnbllbgaa
