/- Several texts of one proof, one behind the other. -/
import Derived.Test.YtinddipgeldbpaaSPk17
import Derived.ChangeKeysEq
import Derived.MapKept
set_option linter.unusedSimpArgs false
set_option linter.unusedVariables false

/- The reference of layer 15: the walk of columns. -/
set_option linter.unusedSimpArgs false
set_option linter.unusedVariables false
set_option maxRecDepth 100000
namespace Go.Proofs.Ytinddipgeldbpaa
open Go.RowKit

theorem nodup_find {l : List Col} (h : (l.map Col.nm).Nodup) (k : Nat) (hk : k < l.length) : findC l l[k].nm = k := by
  refine findC_hit hk rfl fun c hc he => ?_
  rw [List.mem_take_iff_getElem] at hc
  obtain ⟨j, hj, rfl⟩ := hc
  have hjk : j < k := by omega
  have := (List.pairwise_iff_getElem.1 h) j k (by simpa using (show j < l.length by omega)) (by simpa using hk) hjk
  apply this
  simpa using he
theorem find_nodup {l : List Col} (h : ∀ (k : Nat) (hk : k < l.length), findC l l[k].nm = k) : (l.map Col.nm).Nodup := by
  refine List.pairwise_iff_getElem.2 ?_
  intro i j hi hj hij he
  have hj' : j < l.length := by simpa using hj
  have hi' : i < l.length := by simpa using hi
  have he : l[i].nm = l[j].nm := by simpa using he
  have e1 := h i hi'
  have e2 := h j hj'
  rw [he] at e1
  rw [e1] at e2
  omega

set_option maxHeartbeats 4000000 in
theorem rColumns_any (t : Tb) (m : TM) (w : World) (h : TAt w t m) :
    Calls Try.prog 38 #[m.v t] w fun e w' => e = .returned (.bool (colsOk t.cols)) ∧ Below w.heap.size w w' := by
  have hcmax := h.cmax
  have hcl := h.hc
  have HV := Lib.hid h.carr
  have HF := Lib.hid h.fair.cols
  have HFi := Lib.hid (fun s W (hb : Below w.heap.size w W) => rFind_any t m s W (h.later hb))
  obtain ⟨ca, cl, cc, ka, kl, kc⟩ := m
  clear h
  dsimp only at hcmax hcl HV
  subst hcl
  have HB0 : Hid (Below w.heap.size w (w.alloc (.cells (TM.cs ⟨ca, t.cols.length, cc, ka, kl, kc⟩ t) 30))) := (Below.refl _ w).alloc (Nat.le_refl _) _
  have HX0 : Hid (TBox (w.alloc (.cells (TM.cs ⟨ca, t.cols.length, cc, ka, kl, kc⟩ t) 30)) w.heap.size ⟨ca, t.cols.length, cc, ka, kl, kc⟩ t) := TBox.new w _ t _
  have hs0 : w.heap.size < (w.alloc (.cells (TM.cs ⟨ca, t.cols.length, cc, ka, kl, kc⟩ t) 30)).heap.size := by simp
  obtain ⟨R, hR⟩ : ∃ R, colsOk t.cols = R := ⟨_, rfl⟩
  rw [hR]
  have HBad : Hid (∀ (k : Nat) (hk : k < t.cols.length), (t.cols[k].ok = false ∨ findC t.cols t.cols[k].nm ≠ k) → R = false) := fun k hk hh => by
    rw [← hR]
    refine colsOk_false (fun H => ?_)
    rcases hh with h1 | h1
    · have := H.2.2.1 _ (List.getElem_mem hk); rw [h1] at this; cases this
    · exact h1 (nodup_find H.2.2.2 k hk)
  have HEnd : Hid ((∀ (k : Nat) (hk : k < t.cols.length), t.cols[k].ok = true ∧ findC t.cols t.cols[k].nm = k) → R = (decide (1 ≤ t.cols.length) && decide (t.cols.length ≤ 16))) := fun hh => by
    rw [← hR, Bool.eq_iff_iff, colsOk_iff]
    simp only [Bool.and_eq_true, decide_eq_true_eq]
    constructor
    · exact fun H => ⟨H.1, H.2.1⟩
    · rintro ⟨h1, h2⟩
      refine ⟨h1, h2, fun c hc => ?_, find_nodup fun k hk => (hh k hk).2⟩
      obtain ⟨k, hk, rfl⟩ := List.getElem_of_mem hc
      exact (hh k hk).1
  clear hR
  go_enter Try.func38, Try.ntmps38
  go_wp2
  go_loopw [3] (fun i wr => ∃ k : Nat, k ≤ t.cols.length ∧ i = .int .i64 k ∧ Hid (∀ (j : Nat) (hj : j < t.cols.length), j < k → t.cols[j].ok = true ∧ findC t.cols t.cols[j].nm = j) ∧ Below w.heap.size w wr ∧ Hid (TBox wr w.heap.size ⟨ca, t.cols.length, cc, ka, kl, kc⟩ t) ∧ w.heap.size < wr.heap.size) (fun i _ => t.cols.length - (intOf i).toNat)
  case atStart => exact ⟨0, by omega, rfl, (by intro j hj h0; omega), HB0.out, HX0, hs0⟩
  case round =>
    clear HX0 HB0 hs0
    obtain ⟨k, hk, rfl, HI, hb, HX, hsz⟩ := hrel
    obtain ⟨x0, x1, x2, x3, x4, x5, x6, x7⟩ := HX.out
    dsimp only at x0 x1 x2 x3 x4 x5 x6 x7
    by_cases hlt : k < t.cols.length
    · obtain ⟨b, o, rfl, hbN, c0, c1, c2⟩ := colAt HV.out hlt
      replace c0 := (hb.cell (p := ⟨b, o + k * 3, none⟩) hbN).trans c0
      replace c1 := (hb.cell (p := ⟨b, o + k * 3 + 1, none⟩) hbN).trans c1
      replace c2 := (hb.cell (p := ⟨b, o + k * 3 + 2, none⟩) hbN).trans c2
      have hfx := HF.out _ (List.getElem_mem hlt)
      have HB1 := Lib.hid (HBad.out k hlt)
      have HNx : Hid (t.cols[k].ok = true → findC t.cols t.cols[k].nm = k → ∀ (j : Nat) (hj : j < t.cols.length), j < k + 1 → t.cols[j].ok = true ∧ findC t.cols t.cols[j].nm = j) := fun h1 h2 j hj hjk => by
        by_cases hik : j = k
        · subst hik; exact ⟨h1, h2⟩
        · exact HI.out j hj (by omega)
      generalize t.cols[k] = x at *
      clear HI hbN HBad HEnd
      obtain ⟨nm, kd, nn⟩ := x
      dsimp only at c0 c1 c2 hfx HB1 HNx
      have HN := Lib.hid (fun W => rIsName_any nm W hfx.1)
      have HFn := Lib.hid (fun W hb => HFi.out nm W hb)
      have hkd := hfx.2
      have HKs : Hid (∀ W, Below (wr.heap.size + 1) (wr.alloc (.cells #[.string nm, .int .u8 (kd : Int), .bool nn] 69)) W → W.cell? ⟨wr.heap.size, 0, none⟩ = some (.string nm) ∧ W.cell? ⟨wr.heap.size, 1, none⟩ = some (.int .u8 (kd : Int)) ∧ TBox W w.heap.size ⟨some ⟨b, o, none⟩, t.cols.length, cc, ka, kl, kc⟩ t ∧ Below w.heap.size w W ∧ w.heap.size < W.heap.size) := fun W hB => by
        have hk0 := Blk.new wr 69 #[.string nm, .int .u8 (kd : Int), .bool nn]
        have hb1 := hB.cell (p := ⟨wr.heap.size, 0, none⟩) (by show wr.heap.size < _; omega)
        have hb2 := hB.cell (p := ⟨wr.heap.size, 1, none⟩) (by show wr.heap.size < _; omega)
        have h3 : Below wr.heap.size wr W := ((Below.refl _ wr).alloc (Nat.le_refl _) _).trans (hB.mono (by omega))
        exact ⟨hb1.trans ((hk0.cell 0).trans rfl), hb2.trans ((hk0.cell 1).trans rfl), HX.out.later hsz h3, hb.trans (h3.mono (by omega)), by have := h3.size; omega⟩
      clear HX hb
      obtain ⟨F, hF⟩ : ∃ F, findC t.cols nm = F := ⟨_, rfl⟩
      rw [hF] at HFn HB1 HNx
      clear hF
      obtain ⟨bN, hbN⟩ : ∃ bN, isNm nm = bN := ⟨_, rfl⟩
      have hokE : (⟨nm, kd, nn⟩ : Col).ok = (bN && !decide (nm = sysF) && !decide (nm = sysT) && decide (1 ≤ kd) && decide (kd ≤ 3)) := by unfold Col.ok; rw [hbN]
      have HOK := Lib.hid hokE
      rw [hbN] at HN
      clear hbN hokE hfx
      cases bN with
      | false =>
        have HB2 := Lib.hid (HB1.out (.inl (by rw [HOK.out]; rfl)))
        clear HB1 HNx HOK 
        go_wp2_with fail
        refine (HN.out _).mono ?_
        rintro e w1 ⟨rfl, hb1⟩
        have hB1 : Below (wr.heap.size + 1) (wr.alloc (.cells #[.string nm, .int .u8 (kd : Int), .bool nn] 69)) w1 := hb1.mono (by simp)
        obtain ⟨d0, d1, hX1, hbw, hsz1⟩ := HKs.out w1 hB1
        obtain ⟨y0, y1, y2, y3, y4, y5, y6, y7⟩ := hX1
        dsimp only at y0 y1 y2 y3 y4 y5 y6 y7
        clear c0 c1 c2 x0 x1 x2 x3 x4 x5 x6 x7 HN hb1
        have HBw := Lib.hid hbw
        clear hB1 HKs hbw
        go_wp2
        go_ret
        exact ⟨ret_b HB2.out.symm, HBw.out⟩
      | true =>
        by_cases hF : nm = sysF
        · have HB2 := Lib.hid (HB1.out (.inl (by rw [HOK.out, decide_eq_true hF]; rfl)))
          have qF : (nm.toList == [115, 121, 115, 95, 102, 114, 111, 109]) = true := by rw [hF]; decide +kernel
          have qF2 : nm.toList = [115, 121, 115, 95, 102, 114, 111, 109] := by rw [hF]; decide +kernel
          clear HB1 HNx HOK hF
          go_wp2_with fail
          refine (HN.out _).mono ?_
          rintro e w1 ⟨rfl, hb1⟩
          have hB1 : Below (wr.heap.size + 1) (wr.alloc (.cells #[.string nm, .int .u8 (kd : Int), .bool nn] 69)) w1 := hb1.mono (by simp)
          obtain ⟨d0, d1, hX1, hbw, hsz1⟩ := HKs.out w1 hB1
          obtain ⟨y0, y1, y2, y3, y4, y5, y6, y7⟩ := hX1
          dsimp only at y0 y1 y2 y3 y4 y5 y6 y7
          clear c0 c1 c2 x0 x1 x2 x3 x4 x5 x6 x7 HN hb1
          have HBw := Lib.hid hbw
          clear hB1 HKs hbw
          go_wp2
          go_ret
          exact ⟨ret_b HB2.out.symm, HBw.out⟩
        · have qF : (nm.toList == [115, 121, 115, 95, 102, 114, 111, 109]) = false := by rw [beq_eq_false_iff_ne]; exact fun h => hF (toList_inj (h.trans (by decide +kernel)))
          have qF2 : ¬ nm.toList = [115, 121, 115, 95, 102, 114, 111, 109] := fun h => hF (toList_inj (h.trans (by decide +kernel)))
          by_cases hT : nm = sysT
          · have HB2 := Lib.hid (HB1.out (.inl (by rw [HOK.out, decide_eq_true hT]; simp)))
            have qT : (nm.toList == [115, 121, 115, 95, 116, 111]) = true := by rw [hT]; decide +kernel
            have qT2 : nm.toList = [115, 121, 115, 95, 116, 111] := by rw [hT]; decide +kernel
            clear HB1 HNx HOK hF hT
            go_wp2_with fail
            refine (HN.out _).mono ?_
            rintro e w1 ⟨rfl, hb1⟩
            have hB1 : Below (wr.heap.size + 1) (wr.alloc (.cells #[.string nm, .int .u8 (kd : Int), .bool nn] 69)) w1 := hb1.mono (by simp)
            obtain ⟨d0, d1, hX1, hbw, hsz1⟩ := HKs.out w1 hB1
            obtain ⟨y0, y1, y2, y3, y4, y5, y6, y7⟩ := hX1
            dsimp only at y0 y1 y2 y3 y4 y5 y6 y7
            clear c0 c1 c2 x0 x1 x2 x3 x4 x5 x6 x7 HN hb1
            have HBw := Lib.hid hbw
            clear hB1 HKs hbw
            go_wp2
            go_ret
            exact ⟨ret_b HB2.out.symm, HBw.out⟩
          · have qT : (nm.toList == [115, 121, 115, 95, 116, 111]) = false := by rw [beq_eq_false_iff_ne]; exact fun h => hT (toList_inj (h.trans (by decide +kernel)))
            have qT2 : ¬ nm.toList = [115, 121, 115, 95, 116, 111] := fun h => hT (toList_inj (h.trans (by decide +kernel)))
            by_cases hk3 : 1 ≤ kd ∧ kd ≤ 3
            · have HOk2 : Hid ((⟨nm, kd, nn⟩ : Col).ok = true) := by
                show _ = _
                rw [HOK.out, decide_eq_false hF, decide_eq_false hT, decide_eq_true hk3.1, decide_eq_true hk3.2]; rfl
              have hk1 : kd = 1 ∨ kd = 2 ∨ kd = 3 := by omega
              clear hF hT HOK hk3 hkd
              rcases hk1 with hk1 | hk1 | hk1
              · have qk1 : ((kd : Int) != 1) = false := by simp; omega
                clear hk1
                go_wp2_with fail
                refine (HN.out _).mono ?_
                rintro e w1 ⟨rfl, hb1⟩
                have hB1 : Below (wr.heap.size + 1) (wr.alloc (.cells #[.string nm, .int .u8 (kd : Int), .bool nn] 69)) w1 := hb1.mono (by simp)
                obtain ⟨d0, d1, hX1, hbw, hsz1⟩ := HKs.out w1 hB1
                obtain ⟨y0, y1, y2, y3, y4, y5, y6, y7⟩ := hX1
                dsimp only at y0 y1 y2 y3 y4 y5 y6 y7
                clear c0 c1 c2 x0 x1 x2 x3 x4 x5 x6 x7 HN hb1
                go_wp2_with fail
                refine (HFn.out _ hbw).mono ?_
                rintro e w2 ⟨rfl, hb2⟩
                obtain ⟨e0, e1, hX2, hbw2, hsz2⟩ := HKs.out w2 (hB1.trans (hb2.mono (by have := hB1.size; simp at this; omega)))
                have HXx := Lib.hid hX2
                clear d0 d1 y0 y1 y2 y3 y4 y5 y6 y7 hX2 HKs HFn hb2 hB1
                by_cases hFk : F = (k : Int)
                · have qf : (F != (k : Int)) = false := by simp [hFk]
                  have HA := Lib.hid (HNx.out HOk2.out hFk)
                  clear hFk HB1 HNx HOk2
                  go_wp2
                  go_roundw
                  case rel => exact ⟨k + 1, by omega, by go_num, HA.out, hbw2, HXx, hsz2⟩
                  case measure => simp [intOf]; omega
                · have qf : (F != (k : Int)) = true := by simpa using hFk
                  have HB2 := Lib.hid (HB1.out (.inr hFk))
                  have HBw := Lib.hid hbw2
                  clear hFk HB1 HNx HOk2 hbw hbw2 HXx
                  go_wp2
                  go_ret
                  exact ⟨ret_b HB2.out.symm, HBw.out⟩
              · have qk1 : ((kd : Int) != 1) = true := by simp; omega
                have qk2 : ((kd : Int) != 2) = false := by simp; omega
                clear hk1
                go_wp2_with fail
                refine (HN.out _).mono ?_
                rintro e w1 ⟨rfl, hb1⟩
                have hB1 : Below (wr.heap.size + 1) (wr.alloc (.cells #[.string nm, .int .u8 (kd : Int), .bool nn] 69)) w1 := hb1.mono (by simp)
                obtain ⟨d0, d1, hX1, hbw, hsz1⟩ := HKs.out w1 hB1
                obtain ⟨y0, y1, y2, y3, y4, y5, y6, y7⟩ := hX1
                dsimp only at y0 y1 y2 y3 y4 y5 y6 y7
                clear c0 c1 c2 x0 x1 x2 x3 x4 x5 x6 x7 HN hb1
                go_wp2_with fail
                refine (HFn.out _ hbw).mono ?_
                rintro e w2 ⟨rfl, hb2⟩
                obtain ⟨e0, e1, hX2, hbw2, hsz2⟩ := HKs.out w2 (hB1.trans (hb2.mono (by have := hB1.size; simp at this; omega)))
                have HXx := Lib.hid hX2
                clear d0 d1 y0 y1 y2 y3 y4 y5 y6 y7 hX2 HKs HFn hb2 hB1
                by_cases hFk : F = (k : Int)
                · have qf : (F != (k : Int)) = false := by simp [hFk]
                  have HA := Lib.hid (HNx.out HOk2.out hFk)
                  clear hFk HB1 HNx HOk2
                  go_wp2
                  go_roundw
                  case rel => exact ⟨k + 1, by omega, by go_num, HA.out, hbw2, HXx, hsz2⟩
                  case measure => simp [intOf]; omega
                · have qf : (F != (k : Int)) = true := by simpa using hFk
                  have HB2 := Lib.hid (HB1.out (.inr hFk))
                  have HBw := Lib.hid hbw2
                  clear hFk HB1 HNx HOk2 hbw hbw2 HXx
                  go_wp2
                  go_ret
                  exact ⟨ret_b HB2.out.symm, HBw.out⟩
              · have qk1 : ((kd : Int) != 1) = true := by simp; omega
                have qk2 : ((kd : Int) != 2) = true := by simp; omega
                have qk3 : ((kd : Int) != 3) = false := by simp; omega
                clear hk1
                go_wp2_with fail
                refine (HN.out _).mono ?_
                rintro e w1 ⟨rfl, hb1⟩
                have hB1 : Below (wr.heap.size + 1) (wr.alloc (.cells #[.string nm, .int .u8 (kd : Int), .bool nn] 69)) w1 := hb1.mono (by simp)
                obtain ⟨d0, d1, hX1, hbw, hsz1⟩ := HKs.out w1 hB1
                obtain ⟨y0, y1, y2, y3, y4, y5, y6, y7⟩ := hX1
                dsimp only at y0 y1 y2 y3 y4 y5 y6 y7
                clear c0 c1 c2 x0 x1 x2 x3 x4 x5 x6 x7 HN hb1
                go_wp2_with fail
                refine (HFn.out _ hbw).mono ?_
                rintro e w2 ⟨rfl, hb2⟩
                obtain ⟨e0, e1, hX2, hbw2, hsz2⟩ := HKs.out w2 (hB1.trans (hb2.mono (by have := hB1.size; simp at this; omega)))
                have HXx := Lib.hid hX2
                clear d0 d1 y0 y1 y2 y3 y4 y5 y6 y7 hX2 HKs HFn hb2 hB1
                by_cases hFk : F = (k : Int)
                · have qf : (F != (k : Int)) = false := by simp [hFk]
                  have HA := Lib.hid (HNx.out HOk2.out hFk)
                  clear hFk HB1 HNx HOk2
                  go_wp2
                  go_roundw
                  case rel => exact ⟨k + 1, by omega, by go_num, HA.out, hbw2, HXx, hsz2⟩
                  case measure => simp [intOf]; omega
                · have qf : (F != (k : Int)) = true := by simpa using hFk
                  have HB2 := Lib.hid (HB1.out (.inr hFk))
                  have HBw := Lib.hid hbw2
                  clear hFk HB1 HNx HOk2 hbw hbw2 HXx
                  go_wp2
                  go_ret
                  exact ⟨ret_b HB2.out.symm, HBw.out⟩
            · have qk1 : ((kd : Int) != 1) = true := by simp; omega
              have qk2 : ((kd : Int) != 2) = true := by simp; omega
              have qk3 : ((kd : Int) != 3) = true := by simp; omega
              have HB2 := Lib.hid (HB1.out (.inl (by rw [HOK.out, Bool.eq_false_iff]; intro hh; simp only [Bool.and_eq_true, decide_eq_true_eq] at hh; omega)))
              clear HB1 HNx HOK hF hT hk3
              go_wp2_with fail
              refine (HN.out _).mono ?_
              rintro e w1 ⟨rfl, hb1⟩
              have hB1 : Below (wr.heap.size + 1) (wr.alloc (.cells #[.string nm, .int .u8 (kd : Int), .bool nn] 69)) w1 := hb1.mono (by simp)
              obtain ⟨d0, d1, hX1, hbw, hsz1⟩ := HKs.out w1 hB1
              obtain ⟨y0, y1, y2, y3, y4, y5, y6, y7⟩ := hX1
              dsimp only at y0 y1 y2 y3 y4 y5 y6 y7
              clear c0 c1 c2 x0 x1 x2 x3 x4 x5 x6 x7 HN hb1
              have HBw := Lib.hid hbw
              clear hB1 HKs hbw
              go_wp2
              go_ret
              exact ⟨ret_b HB2.out.symm, HBw.out⟩
    · have HA := Lib.hid (HEnd.out (fun j hj => HI.out j hj (by omega)))
      have HBw := Lib.hid hb
      obtain ⟨g1, hg1⟩ : ∃ g, decide (1 ≤ t.cols.length) = g := ⟨_, rfl⟩
      obtain ⟨g2, hg2⟩ : ∃ g, decide (t.cols.length ≤ 16) = g := ⟨_, rfl⟩
      have p1 : decide ((1 : Int) ≤ (t.cols.length : Int)) = g1 := by rw [← hg1, Bool.eq_iff_iff]; simp; omega
      have p2 : decide ((t.cols.length : Int) ≤ 16) = g2 := by rw [← hg2, Bool.eq_iff_iff]; simp; omega
      rw [hg1, hg2] at HA
      clear hg1 hg2 HI HBad HEnd hb HX
      cases g1 with
      | true =>
        go_wp2
        go_ret
        exact ⟨ret_b (by rw [HA.out]; rfl), HBw.out⟩
      | false =>
        go_wp2
        go_ret
        exact ⟨ret_b (by rw [HA.out]; rfl), HBw.out⟩
end Go.Proofs.Ytinddipgeldbpaa

/- The reference of layer 15: the walk of Right. -/
set_option linter.unusedSimpArgs false
set_option linter.unusedVariables false
set_option maxRecDepth 100000
namespace Go.Proofs.Ytinddipgeldbpaa
open Go.RowKit

theorem edge_kind {l : List Col} {j : Nat} (h : j < l.length) (hs : l[j].nn = true) : edgeB l j = decide (l[j].kd = 1) := by rw [edgeB_eq h, hs, Bool.and_true]
theorem edge_sound {l : List Col} {i : Int} (h : soundB l i = false) : edgeB l i = false := edgeB_false (fun ⟨h1, c, h2, h3, _⟩ => by
  have := soundB_iff.2 ⟨h1, c, h2, h3⟩
  rw [h] at this; cases this)

set_option maxHeartbeats 8000000 in
theorem rRight_any (t : Tb) (m : TM) (w : World) (h : TAt w t m) :
    Calls Try.prog 13 #[m.v t] w fun e w' => e = .returned (.bool t.ok) ∧ Below w.heap.size w w' := by
  have hkmax := h.kmax
  have hcmax := h.cmax
  have hcl := h.hc
  have hkl := h.hk
  have hcap := h.kcap
  have HCol := Lib.hid h.carr
  have HKey := Lib.hid h.karr
  have HN := Lib.hid (fun W => rIsName_any t.name W h.fair.nm)
  have HC := Lib.hid (fun W (hb : Below w.heap.size w W) => rColumns_any t m W (h.later hb))
  have HS := Lib.hid (fun i W (hb : Below w.heap.size w W) => rSound_any t m i W (h.later hb))
  have HNp := Lib.hid (fun W => rIsName_any t.per W h.fair.per)
  have HFp := Lib.hid (fun W (hb : Below w.heap.size w W) => rFind_any t m t.per W (h.later hb))
  have HAm := Lib.hid (fun x W (hb : Below w.heap.size w W) => rAmong_any t.key x m.ka m.kl m.kc W (h.karr.later (N := 0) hb) hkl (by omega))
  have HSlice := Lib.hid (fun k (hk : k ≤ m.kl) => (h.karr.frontS 23 3 1 Try.underlying23 sizeOf_intS m.kl m.kc k (by rw [cellsI_len, hkl]) hk hcap).2)
  have HCon := Lib.hid (fun k x (hk : k ≤ m.kl) W (hb : Below w.heap.size w W) => rAmong_any (t.key.take k) x m.ka k m.kc W (by
    have := (h.karr.frontS 23 3 1 Try.underlying23 sizeOf_intS m.kl m.kc k (by rw [cellsI_len, hkl]) hk hcap).1
    unfold cellsI at this
    rw [← cellsOf_take _ 1 (fun _ => rfl)] at this
    exact this.later (N := 0) hb) (by rw [List.length_take]; omega) (by omega))
  have HX0 : Hid (TBox (w.alloc (.cells (m.cs t) 30)) w.heap.size m t) := TBox.new w m t _
  have HB0 : Hid (Below w.heap.size w (w.alloc (.cells (m.cs t) 30))) := (Below.refl _ w).alloc (Nat.le_refl _) _
  have hs0 : w.heap.size < (w.alloc (.cells (m.cs t) 30)).heap.size := by simp
  have hok := Tb.ok_eq t
  have hper := perOk_eq t
  have hap := apOk_eq t
  obtain ⟨T, hT⟩ : ∃ T, t.ok = T := ⟨_, rfl⟩
  obtain ⟨b1, h1'⟩ : ∃ b, isNm t.name = b := ⟨_, rfl⟩
  obtain ⟨b2, h2'⟩ : ∃ b, colsOk t.cols = b := ⟨_, rfl⟩
  obtain ⟨K, hK'⟩ : ∃ b, keyOkB t.cols t.key = b := ⟨_, rfl⟩
  obtain ⟨Pb, hP'⟩ : ∃ b, perOk t = b := ⟨_, rfl⟩
  obtain ⟨Ab, hA'⟩ : ∃ b, apOk t = b := ⟨_, rfl⟩
  rw [hT, h1', h2', hK', hP', hA'] at hok
  rw [hP'] at hper
  rw [hA'] at hap
  have HKF : Hid (¬ KeyOk t.cols t.key → K = false) := fun hh => by rw [← hK']; exact keyOk_false hh
  have HKT : Hid (KeyOk t.cols t.key → K = true) := fun hh => by rw [← hK']; exact keyOk_iff.2 hh
  rw [h1'] at HN
  rw [h2'] at HC
  rw [hT]
  have HOk := Lib.hid hok
  have HPer := Lib.hid hper
  have HAp := Lib.hid hap
  obtain ⟨ca, cl, cc, ka, kl, kc⟩ := m
  dsimp only at hkmax hcmax hcl hkl hcap HCol HKey
  subst hcl hkl
  clear h hT h1' h2' hK' hP' hA' hok hper hap
  obtain ⟨c1, hc1⟩ : ∃ c, decide (t.key.length < 1) = c := ⟨_, rfl⟩
  obtain ⟨c2, hc2⟩ : ∃ c, decide (8 < t.key.length) = c := ⟨_, rfl⟩
  have q1 : decide ((t.key.length : Int) < 1) = c1 := by rw [← hc1, Bool.eq_iff_iff, decide_eq_true_iff, decide_eq_true_iff]; omega
  have q2 : decide ((8 : Int) < (t.key.length : Int)) = c2 := by rw [← hc2, Bool.eq_iff_iff]; simp; omega
  go_enter Try.func13, Try.ntmps13
  go_wp2_with fail
  refine (HN.out _).mono ?_
  rintro e w1 ⟨rfl, hb1⟩
  have hX1 := HX0.out.later hs0 hb1
  have hs1 := Nat.lt_of_lt_of_le hs0 hb1.size
  have HB1 := Lib.hid (HB0.out.trans (hb1.mono (Nat.le_of_lt hs0)))
  have HX1 := Lib.hid hX1
  clear hb1 hs0 HX0 HB0
  obtain ⟨x0, x1, x2, x3, x4, x5, x6, x7⟩ := hX1
  dsimp only at x0 x1 x2 x3 x4 x5 x6 x7
  cases b1 with
  | false =>
    go_wp2
    go_ret
    exact ⟨ret_b (by rw [HOk.out]; simp), HB1.out⟩
  | true =>
    go_wp2_with fail
    refine (HC.out _ HB1.out).mono ?_
    rintro e w2 ⟨rfl, hb2⟩
    have hX2 := HX1.out.later hs1 hb2
    have hs2 := Nat.lt_of_lt_of_le hs1 hb2.size
    have HB2 := Lib.hid (HB1.out.trans (hb2.mono (Nat.le_of_lt hs1)))
    have HX2 := Lib.hid hX2
    clear hb2 hs1 HX1 HB1 x0 x1 x2 x3 x4 x5 x6 x7
    obtain ⟨x0, x1, x2, x3, x4, x5, x6, x7⟩ := hX2
    dsimp only at x0 x1 x2 x3 x4 x5 x6 x7
    cases b2 with
    | false =>
      go_wp2
      go_ret
      exact ⟨ret_b (by rw [HOk.out]; simp), HB2.out⟩
    | true =>
      cases c1 with
      | true =>
        have HA := Lib.hid (HKF.out (fun H => by have := H.1; have := of_decide_eq_true hc1; omega))
        go_wp2
        go_ret
        exact ⟨ret_b (by rw [HOk.out, HA.out]; simp), HB2.out⟩
      | false =>
        cases c2 with
        | true =>
          have HA := Lib.hid (HKF.out (fun H => by have := H.2.1; have := of_decide_eq_true hc2; omega))
          go_wp2
          go_ret
          exact ⟨ret_b (by rw [HOk.out, HA.out]; simp), HB2.out⟩
        | false =>
          have hl1 : 1 ≤ t.key.length := by have := of_decide_eq_false hc1; omega
          have hl8 : t.key.length ≤ 8 := by have := of_decide_eq_false hc2; omega
          clear hc1 hc2
          go_wp2_with fail
          go_loopw [3] (fun i wr => ∃ k : Nat, k ≤ t.key.length ∧ i = .int .i64 k ∧ Hid (∀ (i : Nat) x, i < k → t.key[i]? = some x → SoundAt t.cols x ∧ x ∉ t.key.take i) ∧ Below w.heap.size w wr ∧ Hid (TBox wr w.heap.size ⟨ca, t.cols.length, cc, ka, t.key.length, kc⟩ t) ∧ w.heap.size < wr.heap.size) (fun i _ => t.key.length - (intOf i).toNat)
          case atStart => exact ⟨0, by omega, rfl, (by intro i x hi; omega), HB2.out, HX2, hs2⟩
          case round =>
            clear x0 x1 x2 x3 x4 x5 x6 x7 HX2 HB2 hs2
            obtain ⟨k, hk, rfl, HI, hb, HX, hsz⟩ := hrel
            obtain ⟨x0, x1, x2, x3, x4, x5, x6, x7⟩ := HX.out
            dsimp only at x0 x1 x2 x3 x4 x5 x6 x7
            by_cases hlt : k < t.key.length
            · obtain ⟨b, o, rfl, hbN, c0⟩ := intAt HKey.out hlt
              have hg := List.getElem?_eq_getElem hlt
              have hsl := HSlice.out k hk
              have HC2 := Lib.hid (fun x W hb => HCon.out k x hk W hb)
              obtain ⟨x, hx⟩ : ∃ x, x = t.key[k] := ⟨_, rfl⟩
              rw [← hx] at c0 hg
              clear hx
              have HNo : Hid (¬ (SoundAt t.cols x ∧ x ∉ t.key.take k) → T = false) := fun h1 => by rw [HOk.out, HKF.out (fun H => h1 (H.2.2 k x hg))]; simp
              have HYes : Hid (SoundAt t.cols x ∧ x ∉ t.key.take k → ∀ (i : Nat) y, i < k + 1 → t.key[i]? = some y → SoundAt t.cols y ∧ y ∉ t.key.take i) := by
                intro h1 i y hi hy
                by_cases hik : i = k
                · subst hik
                  rw [hg] at hy; injection hy with hy; subst hy; exact h1
                · exact HI.out i y (by omega) hy
              have HL : Hid (∀ W, Later wr.drew W → TBox W w.heap.size ⟨ca, t.cols.length, cc, some ⟨b, o, none⟩, t.key.length, kc⟩ t ∧ W.cell? ⟨b, o + k, none⟩ = some (.int .i64 x) ∧ Below w.heap.size w W ∧ w.heap.size < W.heap.size) := fun W hW => by
                have h1 := Later.undrew hW
                have h2 : Below w.heap.size w W := hb.trans (Below.mono h1 (by omega))
                exact ⟨HX.out.later hsz h1, (h2.cell (p := ⟨b, o + k, none⟩) hbN).trans c0, h2, by have := h1.size; omega⟩
              clear hg HI c0 hbN HCon HSlice
              obtain ⟨bs, hbs⟩ : ∃ bs, soundB t.cols x = bs := ⟨_, rfl⟩
              obtain ⟨bi, hbi⟩ : ∃ bi, decide (x ∈ t.key.take k) = bi := ⟨_, rfl⟩
              have HSx := Lib.hid (HS.out x)
              have HCx := Lib.hid (HC2.out x)
              rw [hbs] at HSx
              rw [hbi] at HCx
              have HBs := Lib.hid hbs
              have HBi := Lib.hid hbi
              clear hbs hbi HC2
              have e0 := fun W hW => (HL.out W hW).1.c0
              have e1 := fun W hW => (HL.out W hW).1.c1
              have e2 := fun W hW => (HL.out W hW).1.c2
              have e3 := fun W hW => (HL.out W hW).1.c3
              have e4 := fun W hW => (HL.out W hW).1.c4
              have e5 := fun W hW => (HL.out W hW).1.c5
              have e6 := fun W hW => (HL.out W hW).1.c6
              have e7 := fun W hW => (HL.out W hW).1.c7
              have e8 := fun W hW => (HL.out W hW).2.1
              dsimp only at e0 e1 e2 e3 e4 e5 e6 e7
              cases bs with
              | false =>
                have HA := Lib.hid (HNo.out (fun H => by have := soundB_iff.2 H.1; rw [HBs.out] at this; cases this))
                clear HNo HYes HX
                go_wp2_with fail
                clear x0 x1 x2 x3 x4 x5 x6 x7
                refine wp_region_ord [(0, true), (1, true), (2, true), (3, true), (4, true), (5, true), (6, false), (7, true), (8, true), (9, true), (10, true), (11, true), (12, true), (13, true), (14, true), (15, true), (16, true), (17, true), (18, false), (19, true)] (by kernel_rfl) (by kernel_rfl) (by kernel_rfl) (by kernel_rfl) ?_
                repeat (first | (refine wpO_F (v := ?_) rfl (by rfl) (fun w' hL => ?_) ?_; rotate_left; (solve | (go_simp; with_reducible rfl) | go_simp); try simp only [Act.put, List.setIfInBounds_toArray, List.set_cons_zero, List.set_cons_succ]) | (refine wpO_G rfl (by rfl) ?_; try simp only [Act.put, List.setIfInBounds_toArray, List.set_cons_zero, List.set_cons_succ]))
                refine wpO_C rfl (by rfl) ?_
                go_simp
                refine (HSx.out _ (HL.out _ (Later.refl _)).2.2.1).mono ?_
                rintro e w3 ⟨rfl, hb3⟩
                refine ⟨hb3, ?_⟩
                try simp only [Act.put, List.setIfInBounds_toArray, List.set_cons_zero, List.set_cons_succ]
                have HBw := Lib.hid (HL.out w3 hb3).2.2.1
                clear e0 e1 e2 e3 e4 e5 e6 e7 e8
                repeat (first | (refine wpO_F (v := ?_) rfl (by rfl) (fun w' hL => ?_) ?_; rotate_left; (solve | (go_simp; with_reducible rfl) | go_simp); try simp only [Act.put, List.setIfInBounds_toArray, List.set_cons_zero, List.set_cons_succ]) | (refine wpO_G rfl (by rfl) ?_; try simp only [Act.put, List.setIfInBounds_toArray, List.set_cons_zero, List.set_cons_succ]))
                refine wpO_nil ?_
                go_wp2
                go_ret
                exact ⟨ret_b HA.out.symm, HBw.out⟩
              | true =>
                go_wp2_with fail
                clear x0 x1 x2 x3 x4 x5 x6 x7
                refine wp_region_ord [(0, true), (1, true), (2, true), (3, true), (4, true), (5, true), (6, false), (7, true), (8, true), (9, true), (10, true), (11, true), (12, true), (13, true), (14, true), (15, true), (16, true), (17, true), (18, false), (19, true)] (by kernel_rfl) (by kernel_rfl) (by kernel_rfl) (by kernel_rfl) ?_
                repeat (first | (refine wpO_F (v := ?_) rfl (by rfl) (fun w' hL => ?_) ?_; rotate_left; (solve | (go_simp; with_reducible rfl) | go_simp); try simp only [Act.put, List.setIfInBounds_toArray, List.set_cons_zero, List.set_cons_succ]) | (refine wpO_G rfl (by rfl) ?_; try simp only [Act.put, List.setIfInBounds_toArray, List.set_cons_zero, List.set_cons_succ]))
                refine wpO_C rfl (by rfl) ?_
                go_simp
                refine (HSx.out _ (HL.out _ (Later.refl _)).2.2.1).mono ?_
                rintro e w3 ⟨rfl, hb3⟩
                refine ⟨hb3, ?_⟩
                try simp only [Act.put, List.setIfInBounds_toArray, List.set_cons_zero, List.set_cons_succ]
                clear e0 e1 e2 e3 e4 e5 e6 e7 e8
                have k2 := fun W (hW : Later w3 W) => (HL.out W (Later.trans hb3 hW)).1.c2
                have k8 := fun W (hW : Later w3 W) => (HL.out W (Later.trans hb3 hW)).2.1
                dsimp only at k2
                have HEn := Lib.hid (HL.out w3 hb3)
                clear HX HL
                repeat (first | (refine wpO_F (v := ?_) rfl (by rfl) (fun w' hL => ?_) ?_; rotate_left; (solve | (go_simp; with_reducible rfl) | go_simp); try simp only [Act.put, List.setIfInBounds_toArray, List.set_cons_zero, List.set_cons_succ]) | (refine wpO_G rfl (by rfl) ?_; try simp only [Act.put, List.setIfInBounds_toArray, List.set_cons_zero, List.set_cons_succ]))
                refine wpO_C rfl (by rfl) ?_
                go_simp
                refine (HCx.out _ HEn.out.2.2.1).mono ?_
                rintro e w4 ⟨rfl, hw4⟩
                refine ⟨(by subst hw4; exact Later.refl _), ?_⟩
                try simp only [Act.put, List.setIfInBounds_toArray, List.set_cons_zero, List.set_cons_succ]
                subst hw4
                repeat (first | (refine wpO_F (v := ?_) rfl (by rfl) (fun w' hL => ?_) ?_; rotate_left; (solve | (go_simp; with_reducible rfl) | go_simp); try simp only [Act.put, List.setIfInBounds_toArray, List.set_cons_zero, List.set_cons_succ]) | (refine wpO_G rfl (by rfl) ?_; try simp only [Act.put, List.setIfInBounds_toArray, List.set_cons_zero, List.set_cons_succ]))
                refine wpO_nil ?_
                clear k2 k8
                cases bi with
                | true =>
                  have HA := Lib.hid (HNo.out (fun H => H.2 (of_decide_eq_true HBi.out)))
                  clear HNo HYes
                  go_wp2
                  go_ret
                  exact ⟨ret_b HA.out.symm, HEn.out.2.2.1⟩
                | false =>
                  have HA := Lib.hid (HYes.out ⟨soundB_iff.1 HBs.out, of_decide_eq_false HBi.out⟩)
                  clear HNo HYes
                  go_wp2
                  go_roundw
                  case rel => exact ⟨k + 1, by omega, by go_num, HA.out, HEn.out.2.2.1, HEn.out.1, HEn.out.2.2.2⟩
                  case measure => simp [intOf]; omega
            · have hKt := HKT.out ⟨hl1, hl8, fun i x hi => HI.out i x (by have := (List.getElem?_eq_some_iff.1 hi).1; omega) hi⟩
              subst hKt
              have HBk := Lib.hid hb
              clear HI HKF HKT HCon HSlice
              have hs5 := hsz
              have HB5 := HBk
              have HX5 := HX
              clear hb hsz HX HBk
              by_cases hp : t.per.size = 0
              · have hpe : t.per = ⟨#[]⟩ := size0 hp
                have qp : (t.per.toList == []) = true := by rw [hpe]; decide +kernel
                have qp2 : t.per.toList = [] := by rw [hpe]; decide +kernel
                obtain ⟨c4, hc4⟩ : ∃ c, decide (t.fr = -1) = c := ⟨_, rfl⟩
                obtain ⟨c5, hc5⟩ : ∃ c, decide (t.tt = -1) = c := ⟨_, rfl⟩
                have q4 : (t.fr == -1) = c4 := by rw [← hc4]; rfl
                have q5 : (t.tt == -1) = c5 := by rw [← hc5]; rfl
                have HP := HPer.out
                rw [if_pos hp, hc4, hc5] at HP
                have HA := HAp.out
                rw [show decide (t.per.size ≠ 0) = false by simp [hp]] at HA
                have HOk2 : Hid (T = ((c4 && c5) && (!t.apart || false))) := by
                  show _ = _
                  rw [HOk.out, HP, HA]; simp
                clear HP HA hpe hp hc4 hc5 HPer HAp HOk
                cases c4 with
                | false =>
                  go_wp2
                  go_ret
                  exact ⟨ret_b (by rw [HOk2.out]; simp), HB5.out⟩
                | true =>
                  cases c5 with
                  | false =>
                    go_wp2
                    go_ret
                    exact ⟨ret_b (by rw [HOk2.out]; simp), HB5.out⟩
                  | true =>
                    go_wp2
                    go_ret
                    exact ⟨ret_b (by rw [HOk2.out]; simp), HB5.out⟩
              · have qp2 : ¬ t.per.toList = [] := by
                  intro h
                  have : t.per = ⟨#[]⟩ := toList_inj (by rw [h]; decide +kernel)
                  rw [this] at hp; exact hp rfl
                have qp : (t.per.toList == []) = false := by rw [beq_eq_false_iff_ne]; exact qp2
                obtain ⟨n6, hn6⟩ : ∃ c, isNm t.per = c := ⟨_, rfl⟩
                obtain ⟨r, hr'⟩ : ∃ r, findC t.cols t.per = r := ⟨_, rfl⟩
                obtain ⟨f7, hf7⟩ : ∃ c, decide (r = -1) = c := ⟨_, rfl⟩
                obtain ⟨d8, hd8⟩ : ∃ c, decide (t.fr ≠ t.tt) = c := ⟨_, rfl⟩
                obtain ⟨g1, hg1⟩ : ∃ c, edgeB t.cols t.fr = c := ⟨_, rfl⟩
                obtain ⟨g2, hg2⟩ : ∃ c, edgeB t.cols t.tt = c := ⟨_, rfl⟩
                obtain ⟨u1, hu1⟩ : ∃ c, soundB t.cols t.fr = c := ⟨_, rfl⟩
                obtain ⟨u2, hu2⟩ : ∃ c, soundB t.cols t.tt = c := ⟨_, rfl⟩
                have q7 : (r != -1) = !f7 := by rw [← hf7, Bool.eq_iff_iff]; simp
                have q8 : (t.fr == t.tt) = !d8 := by rw [← hd8, Bool.eq_iff_iff]; simp
                have HP := HPer.out
                rw [if_neg hp, hn6, hr', hf7, hd8, hg1, hg2] at HP
                have HA := HAp.out
                rw [show decide (t.per.size ≠ 0) = true by simp [hp], Bool.true_and] at HA
                have HOk2 : Hid (T = ((n6 && (f7 && (d8 && (g1 && g2)))) && (!t.apart || Ab))) := by
                  show _ = _
                  rw [HOk.out, HP]; simp
                have HA2 := Lib.hid HA
                have HS1 := Lib.hid (HS.out t.fr)
                have HS2 := Lib.hid (HS.out t.tt)
                rw [hn6] at HNp
                rw [hr'] at HFp
                rw [hu1] at HS1
                rw [hu2] at HS2
                have HU1 := Lib.hid hu1
                have HU2 := Lib.hid hu2
                have HG1 := Lib.hid hg1
                have HG2 := Lib.hid hg2
                clear HP HA hp hn6 hr' hf7 hd8 hg1 hg2 hu1 hu2 HPer HAp HOk HS
                go_wp2_with fail
                refine (HNp.out _).mono ?_
                rintro e w6 ⟨rfl, hb6⟩
                have hX6 := HX5.out.later hs5 hb6
                have hs6 := Nat.lt_of_lt_of_le hs5 hb6.size
                have HB6 := Lib.hid (HB5.out.trans (hb6.mono (Nat.le_of_lt hs5)))
                have HX6 := Lib.hid hX6
                clear hb6 hs5 HX5 HB5 x0 x1 x2 x3 x4 x5 x6 x7
                obtain ⟨x0, x1, x2, x3, x4, x5, x6, x7⟩ := hX6
                dsimp only at x0 x1 x2 x3 x4 x5 x6 x7
                cases n6 with
                | false =>
                  go_wp2
                  go_ret
                  exact ⟨ret_b (by rw [HOk2.out]; simp), HB6.out⟩
                | true =>
                  go_wp2_with fail
                  refine (HFp.out _ HB6.out).mono ?_
                  rintro e w7 ⟨rfl, hb7⟩
                  have hX7 := HX6.out.later hs6 hb7
                  have hs7 := Nat.lt_of_lt_of_le hs6 hb7.size
                  have HB7 := Lib.hid (HB6.out.trans (hb7.mono (Nat.le_of_lt hs6)))
                  have HX7 := Lib.hid hX7
                  clear hb7 hs6 HX6 HB6 x0 x1 x2 x3 x4 x5 x6 x7
                  obtain ⟨x0, x1, x2, x3, x4, x5, x6, x7⟩ := hX7
                  dsimp only at x0 x1 x2 x3 x4 x5 x6 x7
                  cases f7 with
                  | false =>
                    simp only [Bool.not_false] at q7
                    go_wp2
                    go_ret
                    exact ⟨ret_b (by rw [HOk2.out]; simp), HB7.out⟩
                  | true =>
                    simp only [Bool.not_true] at q7
                    go_wp2_with fail
                    refine (HS1.out _ HB7.out).mono ?_
                    rintro e w8 ⟨rfl, hb8⟩
                    have hX8 := HX7.out.later hs7 hb8
                    have hs8 := Nat.lt_of_lt_of_le hs7 hb8.size
                    have HB8 := Lib.hid (HB7.out.trans (hb8.mono (Nat.le_of_lt hs7)))
                    have HX8 := Lib.hid hX8
                    clear hb8 hs7 HX7 HB7 x0 x1 x2 x3 x4 x5 x6 x7
                    obtain ⟨x0, x1, x2, x3, x4, x5, x6, x7⟩ := hX8
                    dsimp only at x0 x1 x2 x3 x4 x5 x6 x7
                    cases u1 with
                    | false =>
                      have HZ : Hid (g1 = false) := by rw [Hid, ← HG1.out]; exact edge_sound HU1.out
                      go_wp2
                      go_ret
                      exact ⟨ret_b (by rw [HOk2.out, HZ.out]; simp), HB8.out⟩
                    | true =>
                      go_wp2_with fail
                      refine (HS2.out _ HB8.out).mono ?_
                      rintro e w9 ⟨rfl, hb9⟩
                      have hX9 := HX8.out.later hs8 hb9
                      have hs9 := Nat.lt_of_lt_of_le hs8 hb9.size
                      have HB9 := Lib.hid (HB8.out.trans (hb9.mono (Nat.le_of_lt hs8)))
                      have HX9 := Lib.hid hX9
                      clear hb9 hs8 HX8 HB8 x0 x1 x2 x3 x4 x5 x6 x7
                      obtain ⟨x0, x1, x2, x3, x4, x5, x6, x7⟩ := hX9
                      dsimp only at x0 x1 x2 x3 x4 x5 x6 x7
                      cases u2 with
                      | false =>
                        have HZ : Hid (g2 = false) := by rw [Hid, ← HG2.out]; exact edge_sound HU2.out
                        go_wp2
                        go_ret
                        exact ⟨ret_b (by rw [HOk2.out, HZ.out]; simp), HB9.out⟩
                      | true =>
                        cases d8 with
                        | false =>
                          simp only [Bool.not_false] at q8
                          go_wp2
                          go_ret
                          exact ⟨ret_b (by rw [HOk2.out]; simp), HB9.out⟩
                        | true =>
                          simp only [Bool.not_true] at q8
                          obtain ⟨i, hfi, hil⟩ := (soundB_iff.1 HU1.out).nat
                          obtain ⟨j, hfj, hjl⟩ := (soundB_iff.1 HU2.out).nat
                          have hg1 := HG1.out
                          have hg2 := HG2.out
                          have hn1 := HU1.out
                          have hn2 := HU2.out
                          rw [hfi] at hg1 hn1 x4
                          rw [hfj] at hg2 hn2 x5
                          rw [soundB_eq hil] at hn1
                          rw [soundB_eq hjl] at hn2
                          rw [edge_kind hil hn1] at hg1
                          rw [edge_kind hjl hn2] at hg2
                          have HA3 := HA2.out
                          rw [hfi, hfj] at HA3 q8
                          obtain ⟨b, o, hca, hbN, -, k1, -⟩ := colAt HCol.out hil
                          obtain ⟨b', o', hca', hbN', -, k2, -⟩ := colAt HCol.out hjl
                          subst hca
                          simp only [Option.some.injEq, Addr.mk.injEq, and_true] at hca'
                          obtain ⟨rfl, rfl⟩ := hca'
                          replace k1 := (HB9.out.cell (p := ⟨b, o + i * 3 + 1, none⟩) hbN).trans k1
                          replace k2 := (HB9.out.cell (p := ⟨b, o + j * 3 + 1, none⟩) hbN).trans k2
                          have z1 : ((t.cols[i].kd : Int) != 1) = !g1 := by rw [← hg1, Bool.eq_iff_iff]; simp; omega
                          have z2 : ((t.cols[j].kd : Int) != 1) = !g2 := by rw [← hg2, Bool.eq_iff_iff]; simp; omega
                          obtain ⟨a1, ha1⟩ : ∃ c, decide ((i : Int) ∈ t.key) = c := ⟨_, rfl⟩
                          obtain ⟨a2, ha2⟩ : ∃ c, decide ((j : Int) ∈ t.key) = c := ⟨_, rfl⟩
                          have HM1 := Lib.hid (HAm.out (i : Int))
                          have HM2 := Lib.hid (HAm.out (j : Int))
                          rw [ha1] at HM1 HA3
                          rw [ha2] at HM2 HA3
                          obtain ⟨ap, hap⟩ : ∃ c, t.apart = c := ⟨_, rfl⟩
                          rw [hap] at x6 HOk2
                          have HA4 := Lib.hid HA3
                          generalize t.cols[i].kd = kd1 at *
                          generalize t.cols[j].kd = kd2 at *
                          clear hg1 hg2 hn1 hn2 hfi hfj HA3 ha1 ha2 hap hbN hbN' HAm HA2 HU1 HU2 HG1 HG2
                          cases g1 with
                          | false =>
                            simp only [Bool.not_false] at z1
                            go_wp2
                            go_ret
                            exact ⟨ret_b (by rw [HOk2.out]; simp), HB9.out⟩
                          | true =>
                            simp only [Bool.not_true] at z1
                            cases g2 with
                            | false =>
                              simp only [Bool.not_false] at z2
                              go_wp2
                              go_ret
                              exact ⟨ret_b (by rw [HOk2.out]; simp), HB9.out⟩
                            | true =>
                              simp only [Bool.not_true] at z2
                              cases ap with
                              | false =>
                                go_wp2
                                go_ret
                                exact ⟨ret_b (by rw [HOk2.out]; simp), HB9.out⟩
                              | true =>
                                go_wp2_with fail
                                refine (HM1.out _ HB9.out).mono ?_
                                rintro e wy ⟨rfl, rfl⟩
                                cases a1 with
                                | true =>
                                  go_wp2
                                  go_ret
                                  exact ⟨ret_b (by rw [HOk2.out, HA4.out]; simp), HB9.out⟩
                                | false =>
                                  go_wp2_with fail
                                  refine (HM2.out _ HB9.out).mono ?_
                                  rintro e wz ⟨rfl, rfl⟩
                                  go_wp2
                                  go_ret
                                  exact ⟨ret_b (by rw [HOk2.out, HA4.out]; simp), HB9.out⟩
end Go.Proofs.Ytinddipgeldbpaa

/- The reference of layer 15: the walk of Same. -/
set_option linter.unusedSimpArgs false
set_option linter.unusedVariables false
set_option maxRecDepth 100000
namespace Go.Proofs.Ytinddipgeldbpaa
open Go.RowKit

@[go_sem high] theorem eqColR (n n' : Int) (s s' : ByteArray) (p p' : Bool) (w : World) : (Op.equalIn 10000 69 (.agg #[.string s, .int .u8 n, .bool p]) (.agg #[.string s', .int .u8 n', .bool p'])).run Try.prog w = .ok (s.toList == s'.toList && (n == n' && p == p')) w := by
  have hS : Try.prog.underlying 69 = some (.struct (Try.prog.fieldsOf 69)) := by kernel_rfl
  have hp : Try.prog.stoodInHeld 69 = false := by kernel_rfl
  rw [show (10000 : Nat) = 9999 + 1 from rfl, run_equalIn_agg w 9999 69 _ _ hS hp]
  simp only [Program.fieldsOf, Try.underlying69]
  go_simp
  by_cases h1 : n = n' <;> by_cases h2 : s.toList = s'.toList <;> by_cases h3 : p = p' <;> simp [h1, h2, h3]
@[go_sem] theorem eqGuardColR : Try.prog.eqGuardType Try.prog.depth 69 = false := by kernel_rfl

set_option maxHeartbeats 4000000 in
theorem rSame_any (t u : Tb) (m n : TM) (w : World) (h : TAt w t m) (h' : TAt w u n) :
    Calls Try.prog 17 #[m.v t, n.v u] w fun e w' => e = .returned (.bool (decide (t = u))) ∧ Below w.heap.size w w' := by
  have HTC := Lib.hid h.carr
  have HUC := Lib.hid h'.carr
  have HTK := Lib.hid h.karr
  have HUK := Lib.hid h'.karr
  have hcl := h.hc
  have hcl' := h'.hc
  have hkl := h.hk
  have hkl' := h'.hk
  have hcm := h.cmax
  have hkm := h.kmax
  have hcm' := h'.cmax
  have hkm' := h'.kmax
  have hd : decide (t = u) = (decide (t.name = u.name) && (decide (t.cols = u.cols) && (decide (t.key = u.key) && (decide (t.per = u.per) && (decide (t.fr = u.fr) && (decide (t.tt = u.tt) && (decide (t.apart = u.apart) && decide (t.vers = u.vers)))))))) := by
    obtain ⟨a1, a2, a3, a4, a5, a6, a7, a8⟩ := t
    obtain ⟨b1, b2, b3, b4, b5, b6, b7, b8⟩ := u
    rw [Bool.eq_iff_iff]
    simp
  rw [hd]
  obtain ⟨W0, hW0⟩ : ∃ W0, W0 = (w.alloc (.cells (m.cs t) 30)).alloc (.cells (n.cs u) 30) := ⟨_, rfl⟩
  have hBW : Below w.heap.size w W0 := by rw [hW0]; exact ((Below.refl _ w).alloc (Nat.le_refl _) _).alloc (by simp) _
  have hX0 : TBox W0 w.heap.size m t := by rw [hW0]; exact (TBox.new w m t _).later (N := w.heap.size + 1) (by omega) ((Below.refl _ _).alloc (by simp) _)
  have hY0 : TBox W0 (w.heap.size + 1) n u := by
    rw [hW0]
    have := TBox.new (w.alloc (.cells (m.cs t) 30)) n u 30
    rw [show (w.alloc (.cells (m.cs t) 30)).heap.size = w.heap.size + 1 by simp] at this
    exact this
  have hs0 : w.heap.size + 1 < W0.heap.size := by rw [hW0]; simp
  clear hd h h'
  obtain ⟨c1, q1⟩ : ∃ c, decide (t.name = u.name) = c := ⟨_, rfl⟩
  obtain ⟨c2, q2⟩ : ∃ c, decide (t.cols = u.cols) = c := ⟨_, rfl⟩
  obtain ⟨c3, q3⟩ : ∃ c, decide (t.key = u.key) = c := ⟨_, rfl⟩
  obtain ⟨c4, q4⟩ : ∃ c, decide (t.per = u.per) = c := ⟨_, rfl⟩
  obtain ⟨c5, q5⟩ : ∃ c, decide (t.fr = u.fr) = c := ⟨_, rfl⟩
  obtain ⟨c6, q6⟩ : ∃ c, decide (t.tt = u.tt) = c := ⟨_, rfl⟩
  obtain ⟨c7, q7⟩ : ∃ c, decide (t.apart = u.apart) = c := ⟨_, rfl⟩
  obtain ⟨c8, q8⟩ : ∃ c, decide (t.vers = u.vers) = c := ⟨_, rfl⟩
  have p1 : (t.name.toList == u.name.toList) = c1 := by rw [← q1, Bool.eq_iff_iff, beq_iff_eq, decide_eq_true_iff]; exact ⟨fun h => toList_inj h, fun h => by rw [h]⟩
  have p4 : (t.per.toList == u.per.toList) = c4 := by rw [← q4, Bool.eq_iff_iff, beq_iff_eq, decide_eq_true_iff]; exact ⟨fun h => toList_inj h, fun h => by rw [h]⟩
  have p5 : (t.fr == u.fr) = c5 := by rw [← q5]; rfl
  have p6 : (t.tt == u.tt) = c6 := by rw [← q6]; rfl
  have p7 : (t.apart == u.apart) = c7 := by rw [← q7]; rfl
  have p8 : (t.vers == u.vers) = c8 := by rw [← q8]; rfl
  rw [q1, q2, q3, q4, q5, q6, q7, q8]
  have Q2 := Lib.hid q2
  have Q3 := Lib.hid q3
  have HB0 := Lib.hid hBW
  have HX0 := Lib.hid hX0
  have HY0 := Lib.hid hY0
  have HTL := Lib.hid (fun W W' (hX : TBox W w.heap.size m t) (hY : TBox W (w.heap.size + 1) n u) (hlt : w.heap.size + 1 < W.heap.size) (hb : Below W.heap.size W W') => And.intro (TBox.later hX (N := W.heap.size) (by omega) hb) (TBox.later hY hlt hb))
  have p1' := p1
  clear q1 q2 q3 q4 q5 q6 q7 q8 hBW hX0 hY0 p1 HTL
  obtain ⟨ca, cl, cc, ka, kl, kc⟩ := m
  obtain ⟨ca', cl', cc', ka', kl', kc'⟩ := n
  dsimp only at hcl hcl' hkl hkl' hcm hkm hcm' hkm' HTC HUC HTK HUK
  subst hcl hcl' hkl hkl'
  obtain ⟨x0, x1, x2, x3, x4, x5, x6, x7⟩ := HX0.out
  obtain ⟨y0, y1, y2, y3, y4, y5, y6, y7⟩ := HY0.out
  dsimp only at x0 x1 x2 x3 x4 x5 x6 x7 y0 y1 y2 y3 y4 y5 y6 y7
  subst hW0
  go_enter Try.func17, Try.ntmps17
  cases c1 with
  | false =>
    have hnb2 : ¬ t.name.toList = u.name.toList := by simpa using p1'
    go_wp2
    go_ret
    exact ⟨ret_b (by simp), HB0.out⟩
  | true =>
    have hnb2 : t.name.toList = u.name.toList := by simpa using p1'
    by_cases hlc : t.cols.length = u.cols.length
    · have ql : ((t.cols.length : Int) != (u.cols.length : Int)) = false := by simp [hlc]
      have HLC := Lib.hid hlc
      clear hlc
      by_cases hlk : t.key.length = u.key.length
      · have qk : ((t.key.length : Int) != (u.key.length : Int)) = false := by simp [hlk]
        have HLK := Lib.hid hlk
        clear hlk
        go_wp2_with fail
        go_loopw [5] (fun i wr => ∃ k : Nat, k ≤ t.cols.length ∧ i = .int .i64 k ∧ Hid (t.cols.take k = u.cols.take k) ∧ Below w.heap.size w wr ∧ Hid (TBox wr w.heap.size ⟨ca, t.cols.length, cc, ka, t.key.length, kc⟩ t ∧ TBox wr (w.heap.size + 1) ⟨ca', u.cols.length, cc', ka', u.key.length, kc'⟩ u) ∧ w.heap.size + 1 < wr.heap.size) (fun i _ => t.cols.length - (intOf i).toNat)
        case atStart => exact ⟨0, by omega, rfl, (by simp [Hid]), HB0.out, ⟨HX0.out, HY0.out⟩, hs0⟩
        case round =>
          clear x0 x1 x2 x3 x4 x5 x6 x7 y0 y1 y2 y3 y4 y5 y6 y7 HX0 HY0 HB0 hs0
          obtain ⟨k, hk, rfl, HI, hb, HXY, hsz⟩ := hrel
          obtain ⟨x0, x1, x2, x3, x4, x5, x6, x7⟩ := HXY.out.1
          obtain ⟨y0, y1, y2, y3, y4, y5, y6, y7⟩ := HXY.out.2
          dsimp only at x0 x1 x2 x3 x4 x5 x6 x7 y0 y1 y2 y3 y4 y5 y6 y7
          by_cases hlt : k < t.cols.length
          · have hku : k < u.cols.length := by have := HLC.out; omega
            obtain ⟨b, o, rfl, hbN, g0, g1, g2⟩ := colAt HTC.out hlt
            obtain ⟨b', o', rfl, hbN', z0, z1, z2⟩ := colAt HUC.out hku
            have HL : Hid (∀ W, Later wr.drew W → Below w.heap.size w W ∧ W.cell? ⟨w.heap.size, 1, none⟩ = some (.slice (some ⟨b, o, none⟩) t.cols.length cc) ∧ W.cell? ⟨w.heap.size + 1, 1, none⟩ = some (.slice (some ⟨b', o', none⟩) u.cols.length cc')) := fun W hW => by
              have h1 := Later.undrew hW
              exact ⟨hb.trans (Below.mono h1 (by omega)), (Below.cell h1 (p := ⟨w.heap.size, 1, none⟩) (by show w.heap.size < wr.heap.size; omega)).trans x1, (Below.cell h1 (p := ⟨w.heap.size + 1, 1, none⟩) hsz).trans y1⟩
            have e1 := fun W hW => (HL.out W hW).2.1
            have e2 := fun W hW => (HL.out W hW).2.2
            have d0 : ∀ W, Later wr.drew W → W.cell? ⟨b, o + k * 3, none⟩ = some (.string t.cols[k].nm) := fun W hW => ((HL.out W hW).1.cell (p := ⟨b, o + k * 3, none⟩) hbN).trans g0
            have d1 : ∀ W, Later wr.drew W → W.cell? ⟨b, o + k * 3 + 1, none⟩ = some (.int .u8 (t.cols[k].kd : Int)) := fun W hW => ((HL.out W hW).1.cell (p := ⟨b, o + k * 3 + 1, none⟩) hbN).trans g1
            have d2 : ∀ W, Later wr.drew W → W.cell? ⟨b, o + k * 3 + 2, none⟩ = some (.bool t.cols[k].nn) := fun W hW => ((HL.out W hW).1.cell (p := ⟨b, o + k * 3 + 2, none⟩) hbN).trans g2
            have d3 : ∀ W, Later wr.drew W → W.cell? ⟨b', o' + k * 3, none⟩ = some (.string u.cols[k].nm) := fun W hW => ((HL.out W hW).1.cell (p := ⟨b', o' + k * 3, none⟩) hbN').trans z0
            have d4 : ∀ W, Later wr.drew W → W.cell? ⟨b', o' + k * 3 + 1, none⟩ = some (.int .u8 (u.cols[k].kd : Int)) := fun W hW => ((HL.out W hW).1.cell (p := ⟨b', o' + k * 3 + 1, none⟩) hbN').trans z1
            have d5 : ∀ W, Later wr.drew W → W.cell? ⟨b', o' + k * 3 + 2, none⟩ = some (.bool u.cols[k].nn) := fun W hW => ((HL.out W hW).1.cell (p := ⟨b', o' + k * 3 + 2, none⟩) hbN').trans z2
            have HT : Hid (t.cols[k] = u.cols[k] → t.cols.take (k + 1) = u.cols.take (k + 1)) := fun h => take_stepS hlt hku HI.out h
            have HF : Hid (t.cols[k] ≠ u.cols[k] → c2 = false) := fun h => by rw [← Q2.out]; exact decide_eq_false (ne_of_getS hlt hku h)
            generalize t.cols[k] = x at *
            generalize u.cols[k] = y at *
            clear g0 g1 g2 z0 z1 z2 hbN hbN' HI
            by_cases hxy : x = y
            · subst hxy
              have HT2 := Lib.hid (HT.out rfl)
              clear HT HF
              go_wp2_with fail
              clear x0 x1 x2 x3 x4 x5 x6 x7 y0 y1 y2 y3 y4 y5 y6 y7
              refine wp_region_ord [(0, true), (1, true), (2, true), (3, true), (4, true), (5, true), (6, true), (7, true), (8, true), (9, true), (10, true)] (by kernel_rfl) (by kernel_rfl) (by kernel_rfl) (by kernel_rfl) ?_
              repeat (first | (refine wpO_F (v := ?_) rfl (by rfl) (fun w' hL => ?_) ?_; rotate_left; (solve | (go_simp; with_reducible rfl) | go_simp); try simp only [Act.put, List.setIfInBounds_toArray, List.set_cons_zero, List.set_cons_succ]) | (refine wpO_G rfl (by rfl) ?_; try simp only [Act.put, List.setIfInBounds_toArray, List.set_cons_zero, List.set_cons_succ]))
              refine wpO_nil ?_
              clear d0 d1 d2 d3 d4 d5 e1 e2
              go_wp2
              go_roundw
              case rel => exact ⟨k + 1, by omega, by go_num, HT2, hb.drew, ⟨⟨HXY.out.1.c0, HXY.out.1.c1, HXY.out.1.c2, HXY.out.1.c3, HXY.out.1.c4, HXY.out.1.c5, HXY.out.1.c6, HXY.out.1.c7⟩, ⟨HXY.out.2.c0, HXY.out.2.c1, HXY.out.2.c2, HXY.out.2.c3, HXY.out.2.c4, HXY.out.2.c5, HXY.out.2.c6, HXY.out.2.c7⟩⟩, hsz⟩
              case measure => simp [intOf]; omega
            · have HF2 := Lib.hid (HF.out hxy)
              obtain ⟨xn, xk, xb⟩ := x
              obtain ⟨yn, yk, yb⟩ := y
              have hnb := ne_colS xn yn xk yk xb yb hxy
              simp only at d0 d1 d2 d3 d4 d5
              have HBw := Lib.hid hb
              clear HT HF hxy hb HXY
              go_wp2_with fail
              clear x0 x1 x2 x3 x4 x5 x6 x7 y0 y1 y2 y3 y4 y5 y6 y7
              refine wp_region_ord [(0, true), (1, true), (2, true), (3, true), (4, true), (5, true), (6, true), (7, true), (8, true), (9, true), (10, true)] (by kernel_rfl) (by kernel_rfl) (by kernel_rfl) (by kernel_rfl) ?_
              repeat (first | (refine wpO_F (v := ?_) rfl (by rfl) (fun w' hL => ?_) ?_; rotate_left; (solve | (go_simp; with_reducible rfl) | go_simp); try simp only [Act.put, List.setIfInBounds_toArray, List.set_cons_zero, List.set_cons_succ]) | (refine wpO_G rfl (by rfl) ?_; try simp only [Act.put, List.setIfInBounds_toArray, List.set_cons_zero, List.set_cons_succ]))
              refine wpO_nil ?_
              clear d0 d1 d2 d3 d4 d5 e1 e2
              go_wp2
              go_ret
              exact ⟨ret_b (by rw [HF2.out]; simp), HBw.out.drew⟩
          · have hce : t.cols = u.cols := by
              have h1 : t.cols.take k = t.cols := List.take_of_length_le (by omega)
              have h2 : u.cols.take k = u.cols := List.take_of_length_le (by have := HLC.out; omega)
              have := HI.out
              rw [h1, h2] at this; exact this
            have hc2 : c2 = true := by rw [← Q2.out]; exact decide_eq_true hce
            subst hc2
            clear HI hce HTC HUC
            go_wp2_with fail
            go_loopw [6] (fun i wr => ∃ k : Nat, k ≤ t.key.length ∧ i = .int .i64 k ∧ Hid (t.key.take k = u.key.take k) ∧ Below w.heap.size w wr ∧ Hid (TBox wr w.heap.size ⟨ca, t.cols.length, cc, ka, t.key.length, kc⟩ t ∧ TBox wr (w.heap.size + 1) ⟨ca', u.cols.length, cc', ka', u.key.length, kc'⟩ u) ∧ w.heap.size + 1 < wr.heap.size) (fun i _ => t.key.length - (intOf i).toNat)
            case atStart => exact ⟨0, by omega, rfl, (by simp [Hid]), hb, HXY, hsz⟩
            case round =>
              clear x0 x1 x2 x3 x4 x5 x6 x7 y0 y1 y2 y3 y4 y5 y6 y7 HXY hb hsz
              obtain ⟨k, hk, rfl, HI, hb, HXY, hsz⟩ := hrel
              obtain ⟨x0, x1, x2, x3, x4, x5, x6, x7⟩ := HXY.out.1
              obtain ⟨y0, y1, y2, y3, y4, y5, y6, y7⟩ := HXY.out.2
              dsimp only at x0 x1 x2 x3 x4 x5 x6 x7 y0 y1 y2 y3 y4 y5 y6 y7
              by_cases hlt : k < t.key.length
              · have hku : k < u.key.length := by have := HLK.out; omega
                obtain ⟨b, o, rfl, hbN, g0⟩ := intAt HTK.out hlt
                obtain ⟨b', o', rfl, hbN', z0⟩ := intAt HUK.out hku
                have HL : Hid (∀ W, Later wr.drew W → Below w.heap.size w W ∧ W.cell? ⟨w.heap.size, 2, none⟩ = some (.slice (some ⟨b, o, none⟩) t.key.length kc) ∧ W.cell? ⟨w.heap.size + 1, 2, none⟩ = some (.slice (some ⟨b', o', none⟩) u.key.length kc')) := fun W hW => by
                  have h1 := Later.undrew hW
                  exact ⟨hb.trans (Below.mono h1 (by omega)), (Below.cell h1 (p := ⟨w.heap.size, 2, none⟩) (by show w.heap.size < wr.heap.size; omega)).trans x2, (Below.cell h1 (p := ⟨w.heap.size + 1, 2, none⟩) hsz).trans y2⟩
                have e1 := fun W hW => (HL.out W hW).2.1
                have e2 := fun W hW => (HL.out W hW).2.2
                have d0 : ∀ W, Later wr.drew W → W.cell? ⟨b, o + k, none⟩ = some (.int .i64 t.key[k]) := fun W hW => ((HL.out W hW).1.cell (p := ⟨b, o + k, none⟩) hbN).trans g0
                have d3 : ∀ W, Later wr.drew W → W.cell? ⟨b', o' + k, none⟩ = some (.int .i64 u.key[k]) := fun W hW => ((HL.out W hW).1.cell (p := ⟨b', o' + k, none⟩) hbN').trans z0
                have HT : Hid (t.key[k] = u.key[k] → t.key.take (k + 1) = u.key.take (k + 1)) := fun h => take_stepS hlt hku HI.out h
                have HF : Hid (t.key[k] ≠ u.key[k] → c3 = false) := fun h => by rw [← Q3.out]; exact decide_eq_false (ne_of_getS hlt hku h)
                generalize t.key[k] = x at *
                generalize u.key[k] = y at *
                clear g0 z0 hbN hbN' HI
                by_cases hxy : x = y
                · subst hxy
                  have HT2 := Lib.hid (HT.out rfl)
                  clear HT HF
                  go_wp2_with fail
                  clear x0 x1 x2 x3 x4 x5 x6 x7 y0 y1 y2 y3 y4 y5 y6 y7
                  refine wp_region_ord [(0, true), (1, true), (2, true), (3, true), (4, true), (5, true), (6, true), (7, true), (8, true), (9, true), (10, true)] (by kernel_rfl) (by kernel_rfl) (by kernel_rfl) (by kernel_rfl) ?_
                  repeat (first | (refine wpO_F (v := ?_) rfl (by rfl) (fun w' hL => ?_) ?_; rotate_left; (solve | (go_simp; with_reducible rfl) | go_simp); try simp only [Act.put, List.setIfInBounds_toArray, List.set_cons_zero, List.set_cons_succ]) | (refine wpO_G rfl (by rfl) ?_; try simp only [Act.put, List.setIfInBounds_toArray, List.set_cons_zero, List.set_cons_succ]))
                  refine wpO_nil ?_
                  clear d0 d3 e1 e2
                  go_wp2
                  go_roundw
                  case rel => exact ⟨k + 1, by omega, by go_num, HT2, hb.drew, ⟨⟨HXY.out.1.c0, HXY.out.1.c1, HXY.out.1.c2, HXY.out.1.c3, HXY.out.1.c4, HXY.out.1.c5, HXY.out.1.c6, HXY.out.1.c7⟩, ⟨HXY.out.2.c0, HXY.out.2.c1, HXY.out.2.c2, HXY.out.2.c3, HXY.out.2.c4, HXY.out.2.c5, HXY.out.2.c6, HXY.out.2.c7⟩⟩, hsz⟩
                  case measure => simp [intOf]; omega
                · have HF2 := Lib.hid (HF.out hxy)
                  have hnb : (x == y) = false := by simpa using hxy
                  have hnb2 : (x != y) = true := by simpa using hxy
                  have HBw := Lib.hid hb
                  clear HT HF hxy hb HXY
                  go_wp2_with fail
                  clear x0 x1 x2 x3 x4 x5 x6 x7 y0 y1 y2 y3 y4 y5 y6 y7
                  refine wp_region_ord [(0, true), (1, true), (2, true), (3, true), (4, true), (5, true), (6, true), (7, true), (8, true), (9, true), (10, true)] (by kernel_rfl) (by kernel_rfl) (by kernel_rfl) (by kernel_rfl) ?_
                  repeat (first | (refine wpO_F (v := ?_) rfl (by rfl) (fun w' hL => ?_) ?_; rotate_left; (solve | (go_simp; with_reducible rfl) | go_simp); try simp only [Act.put, List.setIfInBounds_toArray, List.set_cons_zero, List.set_cons_succ]) | (refine wpO_G rfl (by rfl) ?_; try simp only [Act.put, List.setIfInBounds_toArray, List.set_cons_zero, List.set_cons_succ]))
                  refine wpO_nil ?_
                  clear d0 d3 e1 e2
                  go_wp2
                  go_ret
                  exact ⟨ret_b (by rw [HF2.out]; simp), HBw.out.drew⟩
              · have hce : t.key = u.key := by
                  have h1 : t.key.take k = t.key := List.take_of_length_le (by omega)
                  have h2 : u.key.take k = u.key := List.take_of_length_le (by have := HLK.out; omega)
                  have := HI.out
                  rw [h1, h2] at this; exact this
                have hc3 : c3 = true := by rw [← Q3.out]; exact decide_eq_true hce
                subst hc3
                have HBw := Lib.hid hb
                clear HI hce HTK HUK hb HXY
                cases c4 with
                | false =>
                  go_wp2
                  go_ret
                  exact ⟨ret_b (by simp), HBw.out⟩
                | true =>
                  cases c5 with
                  | false =>
                    go_wp2
                    go_ret
                    exact ⟨ret_b (by simp), HBw.out⟩
                  | true =>
                    cases c6 with
                    | false =>
                      go_wp2
                      go_ret
                      exact ⟨ret_b (by simp), HBw.out⟩
                    | true =>
                      cases c7 with
                      | false =>
                        go_wp2
                        go_ret
                        exact ⟨ret_b (by simp), HBw.out⟩
                      | true =>
                        go_wp2
                        go_ret
                        exact ⟨ret_b (by simp), HBw.out⟩
      · have qk : ((t.key.length : Int) != (u.key.length : Int)) = true := by simp; omega
        have hc3 : c3 = false := by rw [← Q3.out]; exact decide_eq_false (by intro h; rw [h] at hlk; exact hlk rfl)
        subst hc3
        clear hlk
        go_wp2
        go_ret
        exact ⟨ret_b (by simp), HB0.out⟩
    · have ql : ((t.cols.length : Int) != (u.cols.length : Int)) = true := by simp; omega
      have hc2 : c2 = false := by rw [← Q2.out]; exact decide_eq_false (by intro h; rw [h] at hlc; exact hlc rfl)
      subst hc2
      clear hlc
      go_wp2
      go_ret
      exact ⟨ret_b (by simp), HB0.out⟩
end Go.Proofs.Ytinddipgeldbpaa

/- A region that draws its order, walked along a tree of orders: as Ord's, but where two operations may come up at once both ways are walked. -/
set_option linter.unusedSimpArgs false
set_option linter.unusedVariables false
set_option maxRecDepth 100000
namespace Go.Proofs.Ytinddipgeldbpaa
open Go.RowKit

theorem undrewL {a w : World} (h : Later a.drew w) : Later a w := ⟨h.os, h.tape, h.output, h.size, h.block⟩

/-- A tree of orders. -/
inductive OT where
  | nil : OT
  | free : Nat → OT → OT
  | one : Nat → OT → OT
  | two : Nat → Nat → OT → OT → OT
  | three : Nat → Nat → Nat → OT → OT → OT → OT

section
variable {P : Program} {ops : Array Oper} {Q : Exit → Act → World → Prop} {md : Region.Mode}

def wpT (P : Program) (ops : Array Oper) (Q : Exit → Act → World → Prop) (L : World → World → Prop) : OT → Act → World → Prop
  | .nil, a, w => Q .normal a w
  | .free i r, a, w => ∃ o v, ops[i]? = some o ∧ YieldsIf P ops (L w) o v a ∧ wpT P ops Q L r (a.put o.dst v) w
  | .one i r, a, w => wpOp P ops Q i (fun a' w' => L w w' ∧ wpT P ops Q L r a' w') a w
  | .two i j r s, a, w => wpOp P ops Q i (fun a' w' => L w w' ∧ wpT P ops Q L r a' w') a w ∧ wpOp P ops Q j (fun a' w' => L w w' ∧ wpT P ops Q L s a' w') a w
  | .three i j k r s t, a, w => wpOp P ops Q i (fun a' w' => L w w' ∧ wpT P ops Q L r a' w') a w ∧ wpOp P ops Q j (fun a' w' => L w w' ∧ wpT P ops Q L s a' w') a w ∧ wpOp P ops Q k (fun a' w' => L w w' ∧ wpT P ops Q L t a' w') a w

def OT.high : OT → Nat
  | .nil => 0
  | .free _ r => r.high + 1
  | .one _ r => r.high + 1
  | .two _ _ r s => max r.high s.high + 1
  | .three _ _ _ r s t => max r.high (max s.high t.high) + 1

def checkT (md : Region.Mode) (ops : Array Oper) : OT → Array Bool → Bool
  | .nil, l => Region.ready md ops l == []
  | .free i r, l => Region.free md ops l i && (Region.ready md ops l).contains i && checkT md ops r (l.setIfInBounds i true)
  | .one i r, l => Region.ready md ops l == [i] && checkT md ops r (l.setIfInBounds i true)
  | .two i j r s, l => Region.ready md ops l == [i, j] && checkT md ops r (l.setIfInBounds i true) && checkT md ops s (l.setIfInBounds j true)
  | .three i j k r s t, l => Region.ready md ops l == [i, j, k] && checkT md ops r (l.setIfInBounds i true) && checkT md ops s (l.setIfInBounds j true) && checkT md ops t (l.setIfInBounds k true)

theorem wpT_sound {L : World → World → Prop} (Lr : ∀ w, L w w) (Lt : ∀ {a b c}, L a b → L b c → L a c) (hs : Region.noSelect ops = true) (hQ : ∀ c (a : Act) d v w, Q (.panic c) (a.put d v) w → Q (.panic c) a w) :
    ∀ (t : OT) (fuel : Nat) (listed : Array Bool) (a : Act) (w : World), t.high ≤ fuel → checkT md ops t listed = true → wpT P ops Q L t a w → wpAnyH P md ops Q (L w) fuel listed a w
  | .nil, fuel, listed, a, w, _, hc, h => wpAnyH_done (by simpa [checkT] using hc) h fuel
  | .free i r, fuel, listed, a, w, hf, hc, h => by
    obtain ⟨o, v, ho, hy, h⟩ := h
    simp only [checkT, Bool.and_eq_true] at hc
    cases fuel with
    | zero => simp [OT.high] at hf
    | succ fuel =>
      exact wpAnyH_take ho hs hc.1.1 hc.1.2 (fun c a w => hQ c a o.dst v w) hy (Lr w) (wpT_sound Lr Lt hs hQ r fuel _ _ w (by simpa [OT.high] using hf) hc.2 h)
  | .one i r, fuel, listed, a, w, hf, hc, h => by
    simp only [checkT, Bool.and_eq_true, beq_iff_eq] at hc
    cases fuel with
    | zero => simp [OT.high] at hf
    | succ fuel =>
      refine wpAnyH_all (rs := [i]) hc.1 (by simp) ?_
      intro j hj
      rw [List.mem_singleton.1 hj]
      exact wpOp_mono (fun a' w' h' => ⟨h'.1, wpAnyH_stronger (fun x hx => Lt h'.1 hx) fuel _ _ _ (wpT_sound Lr Lt hs hQ r fuel _ a' w' (by simpa [OT.high] using hf) hc.2 h'.2)⟩) h
  | .two i j r s, fuel, listed, a, w, hf, hc, h => by
    simp only [checkT, Bool.and_eq_true, beq_iff_eq] at hc
    cases fuel with
    | zero => simp [OT.high] at hf
    | succ fuel =>
      refine wpAnyH_all (rs := [i, j]) hc.1.1 (by simp) ?_
      have hf1 : r.high ≤ fuel ∧ s.high ≤ fuel := by simp [OT.high] at hf; omega
      intro k hk
      rcases List.mem_cons.1 hk with hk | hk
      · rw [hk]
        exact wpOp_mono (fun a' w' h' => ⟨h'.1, wpAnyH_stronger (fun x hx => Lt h'.1 hx) fuel _ _ _ (wpT_sound Lr Lt hs hQ r fuel _ a' w' hf1.1 hc.1.2 h'.2)⟩) h.1
      · rw [List.mem_singleton.1 hk]
        exact wpOp_mono (fun a' w' h' => ⟨h'.1, wpAnyH_stronger (fun x hx => Lt h'.1 hx) fuel _ _ _ (wpT_sound Lr Lt hs hQ s fuel _ a' w' hf1.2 hc.2 h'.2)⟩) h.2
  | .three i j k r s t, fuel, listed, a, w, hf, hc, h => by
    simp only [checkT, Bool.and_eq_true, beq_iff_eq] at hc
    cases fuel with
    | zero => simp [OT.high] at hf
    | succ fuel =>
      refine wpAnyH_all (rs := [i, j, k]) hc.1.1.1 (by simp) ?_
      have hf1 : r.high ≤ fuel ∧ s.high ≤ fuel ∧ t.high ≤ fuel := by simp [OT.high] at hf; omega
      intro x hx
      rcases List.mem_cons.1 hx with hx | hx
      · rw [hx]
        exact wpOp_mono (fun a' w' h' => ⟨h'.1, wpAnyH_stronger (fun x hx => Lt h'.1 hx) fuel _ _ _ (wpT_sound Lr Lt hs hQ r fuel _ a' w' hf1.1 hc.1.1.2 h'.2)⟩) h.1
      rcases List.mem_cons.1 hx with hx | hx
      · rw [hx]
        exact wpOp_mono (fun a' w' h' => ⟨h'.1, wpAnyH_stronger (fun x hx => Lt h'.1 hx) fuel _ _ _ (wpT_sound Lr Lt hs hQ s fuel _ a' w' hf1.2.1 hc.1.2 h'.2)⟩) h.2.1
      · rw [List.mem_singleton.1 hx]
        exact wpOp_mono (fun a' w' h' => ⟨h'.1, wpAnyH_stronger (fun x hx => Lt h'.1 hx) fuel _ _ _ (wpT_sound Lr Lt hs hQ t fuel _ a' w' hf1.2.2 hc.2 h'.2)⟩) h.2.2

/-- The beginning, where blocks S may be written. -/
theorem wp_region_tree {id : Nat} {a : Act} {w : World} (S : List Nat) (t : OT) (hm : P.follows .mixedOrders = true) (hs : Region.noSelect ops = true)
    (hl : decide (t.high ≤ ops.size) = true) (hc : checkT .any ops t (Array.replicate ops.size false) = true) (h : wpT P ops (NoPanic Q) (Chg S) t a w.drew) : (Code.region id ops true).wp P Q a w :=
  wp_region_noPanic (wp_region_held hm (wpT_sound (Chg.refl S) Chg.trans hs (NoPanic.put Q) t ops.size _ a w.drew (of_decide_eq_true hl) hc h))

variable {L : World → World → Prop}
theorem wpT_nil {a : Act} {w : World} (h : Q .normal a w) : wpT P ops (NoPanic Q) L .nil a w := h
theorem wpT_F {i : Nat} {r : OT} {a : Act} {w : World} {o : Oper} {v : Value} (ho : nth ops.toList i = some o) (hw : Region.wanted o (yielded ops a.tmps) = true)
    (hv : ∀ w', L w w' → (execOp a.eval o).run P w' = .ok (.value v) w') (h : wpT P ops Q L r (a.put o.dst v) w) : wpT P ops Q L (.free i r) a w :=
  ⟨o, v, nth_ops ho, .inl ⟨hw, hv⟩, h⟩
theorem wpT_G {i : Nat} {r : OT} {a : Act} {w : World} {o : Oper} (ho : nth ops.toList i = some o) (hw : Region.wanted o (yielded ops a.tmps) = false)
    (h : wpT P ops Q L r (a.put o.dst undef) w) : wpT P ops Q L (.free i r) a w :=
  ⟨o, undef, nth_ops ho, .inr ⟨hw, rfl⟩, h⟩
theorem wpT_skip (Lr : ∀ w, L w w) {i : Nat} {r : OT} {a : Act} {w : World} {o : Oper} (ho : nth ops.toList i = some o) (hw : Region.wanted o (yielded ops a.tmps) = false)
    (h : wpT P ops Q L r (a.put o.dst undef) w) : wpT P ops Q L (.one i r) a w := by
  show wpOp P ops Q i _ a w
  unfold wpOp
  simp only [nth_ops ho, hw]
  exact ⟨Lr w, h⟩
theorem wpT_C {i : Nat} {r : OT} {a : Act} {w : World} {o : Oper} (ho : nth ops.toList i = some o) (hw : Region.wanted o (yielded ops a.tmps) = true)
    (h : o.wp P a w (fun a' w' => L w w' ∧ wpT P ops Q L r a' w') Q) : wpT P ops Q L (.one i r) a w := by
  show wpOp P ops Q i _ a w
  unfold wpOp
  simp only [nth_ops ho, hw]
  exact .inl h
theorem wpT_two {i j : Nat} {r s : OT} {a : Act} {w : World} (h1 : wpT P ops Q L (.one i r) a w) (h2 : wpT P ops Q L (.one j s) a w) : wpT P ops Q L (.two i j r s) a w := ⟨h1, h2⟩
theorem wpT_three {i j k : Nat} {r s t : OT} {a : Act} {w : World} (h1 : wpT P ops Q L (.one i r) a w) (h2 : wpT P ops Q L (.one j s) a w) (h3 : wpT P ops Q L (.one k t) a w) : wpT P ops Q L (.three i j k r s t) a w := ⟨h1, h2, h3⟩
end
attribute [irreducible] wpT
end Go.Proofs.Ytinddipgeldbpaa

/- A region that draws its order and in which several chains of operations run side by side: each chain is walked by itself, in worlds that may have gone on between its steps; what the chains told is put together behind them. -/
set_option linter.unusedSimpArgs false
set_option linter.unusedVariables false
set_option maxRecDepth 100000
namespace Go.Proofs.Ytinddipgeldbpaa
open Go.RowKit

/-- What operations left in their slots. -/
abbrev Outs := List (Option Tmp × Value)
def puts (a : Act) (M : Outs) : Act := M.foldl (fun a p => a.put p.1 p.2) a
theorem puts_nil (a : Act) : puts a [] = a := rfl
theorem puts_cons (a : Act) (p : Option Tmp × Value) (M : Outs) : puts a (p :: M) = puts (a.put p.1 p.2) M := rfl
theorem puts_app (a : Act) (M N : Outs) : puts a (M ++ N) = puts (puts a M) N := by unfold puts; rw [List.foldl_append]
theorem puts_put : ∀ (M : Outs) (a : Act) (x : Option Tmp) (v : Value), (∀ p ∈ M, ∀ d, p.1 = some d → x ≠ some d) → puts (a.put x v) M = (puts a M).put x v
  | [], _, _, _, _ => rfl
  | p :: M, a, x, v, h => by
    rw [puts_cons, puts_cons, Act.put_comm a (x := x) (y := p.1) v p.2 (fun d hd hp => h p (List.mem_cons_self) d hp hd)]
    exact puts_put M _ x v fun q hq => h q (List.mem_cons_of_mem _ hq)
def Dj (M N : Outs) : Prop := ∀ p ∈ M, ∀ q ∈ N, ∀ d, p.1 = some d → q.1 ≠ some d
theorem puts_swap (M : Outs) : ∀ (N : Outs) (a : Act), Dj M N → puts (puts a M) N = puts (puts a N) M
  | [], _, _ => rfl
  | q :: N, a, h => by
    rw [puts_cons, puts_cons, ← puts_put M a q.1 q.2 (fun p hp d hd => h p hp q (List.mem_cons_self) d hd)]
    exact puts_swap M N _ fun p hp r hr => h p hp r (List.mem_cons_of_mem _ hr)

section
variable {P : Program} {ops : Array Oper} {Q : Exit → Act → World → Prop} {md : Region.Mode} {L : World → World → Prop}

theorem exec_puts (o : Oper) (hs : ∀ cs b, o.op ≠ .select cs b) : ∀ (M : Outs) (a : Act), (∀ p ∈ M, ∀ d, p.1 = some d → d ∉ o.looksAt ops) → execOp (puts a M).eval o = execOp a.eval o
  | [], _, _ => rfl
  | p :: M, a, h => by
    rw [puts_cons, exec_puts o hs M _ fun q hq => h q (List.mem_cons_of_mem _ hq)]
    exact execOp_put o hs a p.1 p.2 fun d hd => h p (List.mem_cons_self) d hd
theorem wanted_puts (o : Oper) : ∀ (M : Outs) (a : Act), (∀ p ∈ M, ∀ d, p.1 = some d → d ∉ o.looksAt ops) → Region.wanted o (yielded ops (puts a M).tmps) = Region.wanted o (yielded ops a.tmps)
  | [], _, _ => rfl
  | p :: M, a, h => by
    rw [puts_cons, wanted_puts o M _ fun q hq => h q (List.mem_cons_of_mem _ hq)]
    exact wanted_put o a p.1 p.2 fun d hd => h p (List.mem_cons_self) d hd
theorem puts_defers : ∀ (M : Outs) (a : Act) (d : Deferred), ({ puts a M with defers := d :: (puts a M).defers } : Act) = puts { a with defers := d :: a.defers } M
  | [], _, _ => rfl
  | p :: M, a, d => by
    rw [puts_cons, puts_cons, puts_defers M]
    rw [Act.put_defers]

/-- An operation does not see what lies in slots that it neither reads nor writes. -/
theorem wp_puts {o : Oper} (hs : ∀ cs b, o.op ≠ .select cs b) (M : Outs) (a : Act) (w : World) (h1 : ∀ p ∈ M, ∀ d, p.1 = some d → d ∉ o.looksAt ops) (h2 : ∀ p ∈ M, ∀ d, p.1 = some d → o.dst ≠ some d) {K : Act → World → Prop}
    (h : o.wp P a w (fun a' w' => K (puts a' M) w') (NoPanic Q)) : o.wp P (puts a M) w K (NoPanic Q) := by
  unfold Oper.wp at *
  rw [exec_puts (ops := ops) o hs M a h1]
  generalize (execOp a.eval o).run P w = r at *
  cases r with
  | ok n w' =>
    cases n <;> simp only [Oper.upon] at h ⊢
    case value u => rw [← puts_put M a _ _ h2]; exact h
    case skip => rw [← puts_put M a _ _ h2]; exact h
    case defer d => rw [puts_defers, ← puts_put M _ _ _ h2]; exact h
    case enter f args =>
      refine Calls.mono h fun e w'' he => ?_
      cases e with
      | returned u =>
        show K ((puts a M).put o.dst u) w''
        rw [← puts_put M a _ _ h2]; exact he
      | panicked c => exact he
      | outgrown => exact he
    case row row args => exact Rows.mono h fun u w'' he => by rw [← puts_put M a _ _ h2]; exact he
  | halt x w' =>
    cases x <;> simp only [Oper.upon] at h ⊢
    case panic u => exact h

/-- What the steps of the other chains keep (R), and what a step of this chain keeps (G). -/
structure RG where
  R : World → World → Prop
  G : World → World → Prop
/-- A chain: each of its steps is walked in whatever world the others may have brought about; at its end E holds of what it told, whatever the others did since. -/
def Rob (P : Program) (ops : Array Oper) (Q : Exit → Act → World → Prop) (X : RG) (a : Act) : List Nat → Outs → (Outs → World → Prop) → World → Prop
  | [], l, E, w => ∀ w', X.R w w' → E l w'
  | i :: r, l, E, w => ∀ w', X.R w w' → ∃ o, ops[i]? = some o ∧
      ((Region.wanted o (yielded ops (puts a l).tmps) = true ∧ o.wp P (puts a l) w' (fun a' w'' => X.G w' w'' ∧ ∃ v, a' = (puts a l).put o.dst v ∧ Rob P ops Q X a r (l ++ [(o.dst, v)]) E w'') Q) ∨
       (Region.wanted o (yielded ops (puts a l).tmps) = false ∧ Rob P ops Q X a r (l ++ [(o.dst, undef)]) E w'))
theorem Rob.later {X : RG} (Lt : ∀ {a b c}, X.R a b → X.R b c → X.R a c) {a : Act} {t : List Nat} {l : Outs} {E : Outs → World → Prop} {w w' : World} (h : Rob P ops Q X a t l E w) (hL : X.R w w') : Rob P ops Q X a t l E w' := by
  cases t with
  | nil => exact fun w2 h2 => h w2 (Lt hL h2)
  | cons i r => exact fun w2 h2 => h w2 (Lt hL h2)

/-- A chain on its way. -/
structure Ch where
  all : List Nat
  todo : List Nat
  out : Outs
  E : Outs → World → Prop
  X : RG
def RG.Ok (L : World → World → Prop) (X : RG) : Prop := (∀ w, X.R w w) ∧ (∀ a b c, X.R a b → X.R b c → X.R a c) ∧ ∀ w w', X.G w w' → L w w'
def RG.With (X Y : RG) : Prop := (∀ w w', X.G w w' → Y.R w w') ∧ ∀ w w', Y.G w w' → X.R w w'
theorem RG.With.symm {X Y : RG} (h : X.With Y) : Y.With X := ⟨h.2, h.1⟩

def Ch.Fine (ops : Array Oper) (c : Ch) : Prop := (∀ i ∈ c.todo, i ∈ c.all) ∧ ∀ p ∈ c.out, ∃ i ∈ c.all, ∃ o, ops[i]? = some o ∧ p.1 = o.dst
def apartB (ops : Array Oper) (i j : Nat) : Bool := match ops[i]?, ops[j]? with
  | some x, some y => x.apart ops y
  | _, _ => true
def sideB (ops : Array Oper) (c d : List Nat) : Bool := c.all fun i => d.all fun j => apartB ops i j
def pairB (ops : Array Oper) : List (List Nat) → Bool
  | [] => true
  | c :: r => r.all (sideB ops c) && pairB ops r
theorem sideB_spec {c d : List Nat} (h : sideB ops c d = true) {i j : Nat} (hi : i ∈ c) (hj : j ∈ d) {x y : Oper} (hx : ops[i]? = some x) (hy : ops[j]? = some y) : x.apart ops y = true := by
  unfold sideB at h
  have := List.all_eq_true.1 (List.all_eq_true.1 h i hi) j hj
  unfold apartB at this
  rw [hx, hy] at this
  exact this
/-- Chains that lie beside each other. -/
def Beside (ops : Array Oper) (c d : Ch) : Prop := ∀ i ∈ c.all, ∀ j ∈ d.all, ∀ x y, ops[i]? = some x → ops[j]? = some y → (∀ t, x.dst = some t → t ∉ y.looksAt ops) ∧ (∀ t, x.dst = some t → y.dst ≠ some t) ∧ (∀ t, y.dst = some t → t ∉ x.looksAt ops)
theorem Beside.symm {c d : Ch} (h : Beside ops c d) : Beside ops d c := fun i hi j hj x y hx hy => by
  obtain ⟨h1, h2, h3⟩ := h j hj i hi y x hy hx
  exact ⟨h3, fun t ht he => h2 t he ht, h1⟩
theorem beside_of : ∀ {cs : List Ch}, pairB ops (cs.map Ch.all) = true → cs.Pairwise (Beside ops)
  | [], _ => List.Pairwise.nil
  | c :: r, h => by
    simp only [List.map_cons, pairB, Bool.and_eq_true] at h
    refine List.Pairwise.cons (fun d hd i hi j hj x y hx hy => ?_) (beside_of h.2)
    exact Oper.apart_spec (sideB_spec (List.all_eq_true.1 h.1 d.all (List.mem_map_of_mem hd)) hi hj hx hy)

def checkP (md : Region.Mode) (ops : Array Oper) (fin : Array Bool → Bool) : Nat → List (List Nat) → Array Bool → Bool
  | 0, ts, l => ts.all List.isEmpty && fin l
  | f + 1, ts, l => if ts.all List.isEmpty then fin l else
      Region.ready md ops l != [] && (Region.ready md ops l).all fun i => (List.range ts.length).any fun c => match ts[c]? with
        | some (j :: t) => j == i && checkP md ops fin f (ts.set c t) (l.setIfInBounds i true)
        | _ => false

def Told : List Ch → List Outs → World → Prop
  | [], [], _ => True
  | c :: cs, o :: os, w => c.E o w ∧ Told cs os w
  | _, _, _ => False

theorem told_done {a : Act} : ∀ {cs : List Ch} {w : World}, (∀ c ∈ cs, c.X.Ok L) → (∀ c ∈ cs, Rob P ops Q c.X a c.todo c.out c.E w) → (cs.map Ch.todo).all List.isEmpty = true → Told cs (cs.map Ch.out) w
  | [], _, _, _, _ => trivial
  | c :: cs, w, hx, h, he => by
    simp only [List.map_cons, List.all_cons, Bool.and_eq_true] at he
    refine ⟨?_, told_done (fun d hd => hx d (List.mem_cons_of_mem _ hd)) (fun d hd => h d (List.mem_cons_of_mem _ hd)) he.2⟩
    have h1 := h c List.mem_cons_self
    have : c.todo = [] := by simpa using he.1
    rw [this] at h1
    exact h1 w ((hx c List.mem_cons_self).1 w)

theorem set_at {α : Type} : ∀ {l : List α} {k : Nat} {x : α}, l[k]? = some x → ∃ p s, l = p ++ x :: s ∧ p.length = k
  | [], _, _, h => by simp at h
  | y :: r, 0, x, h => by simp at h; subst h; exact ⟨[], r, rfl, rfl⟩
  | y :: r, k + 1, x, h => by
    obtain ⟨p, s, h1, h2⟩ := set_at (l := r) (k := k) (x := x) (by simpa using h)
    exact ⟨y :: p, s, by rw [h1]; rfl, by simp [h2]⟩
theorem told_map {E : Ch → Ch} : ∀ {cs ds : List Ch} {os : List Outs} {w : World}, cs.map Ch.E = ds.map Ch.E → Told cs os w → Told ds os w
  | [], [], _, _, _, h => h
  | [], _ :: _, _, _, he, _ => by simp at he
  | _ :: _, [], _, _, he, _ => by simp at he
  | c :: cs, d :: ds, [], _, _, h => h.elim
  | c :: cs, d :: ds, o :: os, w, he, h => by
    simp only [List.map_cons, List.cons.injEq] at he
    exact ⟨he.1 ▸ h.1, told_map (E := E) he.2 h.2⟩

theorem par_sound (Lr : ∀ w, L w w) (Lt : ∀ {a b c}, L a b → L b c → L a c) (hs : Region.noSelect ops = true) (a : Act) (fin : Array Bool → Bool) (n : Nat) :
    ∀ (f : Nat) (cs : List Ch) (l : Array Bool) (w : World), (∀ c ∈ cs, c.X.Ok L) → (cs.map Ch.X).Pairwise RG.With → (∀ c ∈ cs, c.Fine ops) → cs.Pairwise (Beside ops) → (∀ c ∈ cs, Rob P ops (NoPanic Q) c.X a c.todo c.out c.E w) → checkP md ops fin f (cs.map Ch.todo) l = true →
      (∀ l' os w' m, n ≤ m → fin l' = true → L w w' → Told cs os w' → wpAnyH P md ops (NoPanic Q) (L w') m l' (puts a os.flatten) w') →
      wpAnyH P md ops (NoPanic Q) (L w) (f + n) l (puts a (cs.map Ch.out).flatten) w
  | 0, cs, l, w, hx, _, _, _, hr, hc, hrest => by
    simp only [checkP, Bool.and_eq_true] at hc
    exact hrest l _ w _ (by omega) hc.2 (Lr w) (told_done hx hr hc.1)
  | f + 1, cs, l, w, hx, hxp, hf, hp, hr, hc, hrest => by
    by_cases he : (cs.map Ch.todo).all List.isEmpty = true
    · simp only [checkP, he, if_true] at hc
      exact hrest l _ w _ (by omega) hc (Lr w) (told_done hx hr he)
    · simp only [checkP, he, if_false, Bool.and_eq_true, Bool.false_eq_true] at hc
      obtain ⟨hne, hall⟩ := hc
      have e1 : f + 1 + n = (f + n) + 1 := by omega
      rw [e1]
      refine wpAnyH_all (rs := Region.ready md ops l) rfl (by simpa using hne) ?_
      intro i hi
      have h1 := List.all_eq_true.1 hall i hi
      obtain ⟨k, _, hk⟩ := List.any_eq_true.1 h1
      cases hck : cs[k]? with
      | none => rw [List.getElem?_map, hck] at hk; simp at hk
      | some c =>
        rw [List.getElem?_map, hck] at hk
        simp only [Option.map_some] at hk
        cases ht : c.todo with
        | nil => rw [ht] at hk; simp at hk
        | cons j t =>
          rw [ht] at hk
          simp only [Bool.and_eq_true, beq_iff_eq] at hk
          obtain ⟨rfl, hk⟩ := hk
          obtain ⟨ps, ss, hcs, hpl⟩ := set_at hck
          have hcm : c ∈ cs := by rw [hcs]; simp
          have hrc := hr c hcm
          rw [ht] at hrc
          obtain ⟨o, ho, hw⟩ := hrc w ((hx c hcm).1 w)
          have hjall : j ∈ c.all := (hf c hcm).1 j (by rw [ht]; exact List.mem_cons_self)
          have hsel := Region.noSelect_spec hs j o
          have hsel2 : ∀ cs b, o.op ≠ .select cs b := fun x b => hsel x b ho
          rw [hcs] at hp hxp
          have hp2 := List.pairwise_append.1 hp
          rw [List.map_append, List.map_cons] at hxp
          have hxp2 := List.pairwise_append.1 hxp
          have hwith : ∀ d ∈ ps ++ ss, ∀ w1 w2, c.X.G w1 w2 → d.X.R w1 w2 := by
            intro d hd
            rcases List.mem_append.1 hd with hd | hd
            · exact (hxp2.2.2 d.X (List.mem_map_of_mem hd) c.X List.mem_cons_self).2
            · exact ((List.pairwise_cons.1 hxp2.2.1).1 d.X (List.mem_map_of_mem hd)).1
          have hbes : ∀ d ∈ ps ++ ss, Beside ops d c := by
            intro d hd
            rcases List.mem_append.1 hd with hd | hd
            · exact hp2.2.2 d hd c List.mem_cons_self
            · exact ((List.pairwise_cons.1 hp2.2.1).1 d hd).symm
          obtain ⟨M, hM⟩ : ∃ M, M = (ps.map Ch.out).flatten ++ (ss.map Ch.out).flatten := ⟨_, rfl⟩
          have hMm : ∀ p ∈ M, ∃ d ∈ ps ++ ss, p ∈ d.out := by
            intro p hpm
            rw [hM] at hpm
            rcases List.mem_append.1 hpm with h | h
            · obtain ⟨x, hx, hpx⟩ := List.mem_flatten.1 h
              obtain ⟨d, hd, rfl⟩ := List.mem_map.1 hx
              exact ⟨d, List.mem_append_left _ hd, hpx⟩
            · obtain ⟨x, hx, hpx⟩ := List.mem_flatten.1 h
              obtain ⟨d, hd, rfl⟩ := List.mem_map.1 hx
              exact ⟨d, List.mem_append_right _ hd, hpx⟩
          have hin : ∀ d ∈ ps ++ ss, d ∈ cs := by
            intro d hd
            rw [hcs]
            rcases List.mem_append.1 hd with h | h
            · exact List.mem_append_left _ h
            · exact List.mem_append_right _ (List.mem_cons_of_mem _ h)
          have hMo : ∀ p ∈ M, ∃ d ∈ ps ++ ss, ∃ i ∈ d.all, ∃ x, ops[i]? = some x ∧ p.1 = x.dst := by
            intro p hpm
            obtain ⟨d, hd, hpd⟩ := hMm p hpm
            obtain ⟨i, hi, x, hx, hpx⟩ := (hf d (hin d hd)).2 p hpd
            exact ⟨d, hd, i, hi, x, hx, hpx⟩
          have hlook : ∀ p ∈ M, ∀ t, p.1 = some t → t ∉ o.looksAt ops := by
            intro p hpm t ht
            obtain ⟨d, hd, i, hi, x, hx, hpx⟩ := hMo p hpm
            exact (hbes d hd i hi j hjall x o hx ho).1 t (by rw [← hpx]; exact ht)
          have hdst : ∀ p ∈ M, ∀ t, p.1 = some t → o.dst ≠ some t := by
            intro p hpm t ht
            obtain ⟨d, hd, i, hi, x, hx, hpx⟩ := hMo p hpm
            exact (hbes d hd i hi j hjall x o hx ho).2.1 t (by rw [← hpx]; exact ht)
          -- what the chain told lies apart from what the others told
          have hdj : ∀ N : Outs, (∀ p ∈ N, ∃ i ∈ c.all, ∃ x, ops[i]? = some x ∧ p.1 = x.dst) → Dj (ps.map Ch.out).flatten N := by
            intro N hN p hpm q hq t ht
            obtain ⟨d, hd, i, hi, x, hx, hpx⟩ := hMo p (by rw [hM]; exact List.mem_append_left _ hpm)
            obtain ⟨i2, hi2, y, hy, hqy⟩ := hN q hq
            rw [hqy]
            exact (hbes d hd i hi i2 hi2 x y hx hy).2.1 t (by rw [← hpx]; exact ht)
          have hbig : ∀ N : Outs, (∀ p ∈ N, ∃ i ∈ c.all, ∃ x, ops[i]? = some x ∧ p.1 = x.dst) → puts a ((ps.map Ch.out).flatten ++ (N ++ (ss.map Ch.out).flatten)) = puts (puts a N) M := by
            intro N hN
            rw [puts_app, puts_app, puts_swap _ N a (hdj N hN), hM, puts_app]
          have hout := (hf c hcm).2
          have hflat : (cs.map Ch.out).flatten = (ps.map Ch.out).flatten ++ (c.out ++ (ss.map Ch.out).flatten) := by rw [hcs]; simp
          rw [hflat, hbig c.out hout]
          -- the state behind the step
          have hstep : ∀ v w2, (∀ d ∈ ps ++ ss, d.X.R w w2) → L w w2 → Rob P ops (NoPanic Q) c.X a t (c.out ++ [(o.dst, v)]) c.E w2 → wpAnyH P md ops (NoPanic Q) (L w) (f + n) (l.setIfInBounds j true) ((puts (puts a c.out) M).put o.dst v) w2 := by
            intro v w2 hRl hL hR
            obtain ⟨c', hc'⟩ : ∃ c' : Ch, c' = ⟨c.all, t, c.out ++ [(o.dst, v)], c.E, c.X⟩ := ⟨_, rfl⟩
            have hN : ∀ p ∈ c.out ++ [(o.dst, v)], ∃ i ∈ c.all, ∃ x, ops[i]? = some x ∧ p.1 = x.dst := by
              intro p hpm
              rcases List.mem_append.1 hpm with h | h
              · exact hout p h
              · simp only [List.mem_singleton] at h
                subst h
                exact ⟨j, hjall, o, ho, rfl⟩
            have hact : (puts (puts a c.out) M).put o.dst v = puts a ((ps ++ c' :: ss).map Ch.out).flatten := by
              have : ((ps ++ c' :: ss).map Ch.out).flatten = (ps.map Ch.out).flatten ++ ((c.out ++ [(o.dst, v)]) ++ (ss.map Ch.out).flatten) := by rw [hc']; simp
              rw [this, hbig _ hN, puts_app]
              exact (puts_put M (puts a c.out) o.dst v hdst).symm
            rw [hact]
            refine wpAnyH_stronger (fun x hx => Lt hL hx) _ _ _ _ (par_sound Lr Lt hs a fin n f (ps ++ c' :: ss) (l.setIfInBounds j true) w2 ?_ ?_ ?_ ?_ ?_ ?_ ?_)
            · intro d hd
              rcases List.mem_append.1 hd with h | h
              · exact hx d (hin d (List.mem_append_left _ h))
              · rcases List.mem_cons.1 h with h | h
                · rw [h, hc']; exact hx c hcm
                · exact hx d (hin d (List.mem_append_right _ h))
            · rw [List.map_append, List.map_cons, hc']; exact hxp
            · intro d hd
              rcases List.mem_append.1 hd with h | h
              · exact hf d (hin d (List.mem_append_left _ h))
              · rcases List.mem_cons.1 h with h | h
                · rw [h, hc']
                  exact ⟨fun i hi => (hf c hcm).1 i (by rw [ht]; exact List.mem_cons_of_mem _ hi), hN⟩
                · exact hf d (hin d (List.mem_append_right _ h))
            · refine List.pairwise_append.2 ⟨hp2.1, List.pairwise_cons.2 ⟨fun d hd => ?_, (List.pairwise_cons.1 hp2.2.1).2⟩, fun d hd e he => ?_⟩
              · have := (List.pairwise_cons.1 hp2.2.1).1 d hd
                intro i hi
                exact this i (by rw [hc'] at hi; exact hi)
              · rcases List.mem_cons.1 he with h | h
                · have := hp2.2.2 d hd c List.mem_cons_self
                  intro i hi j2 hj2
                  exact this i hi j2 (by rw [h, hc'] at hj2; exact hj2)
                · exact hp2.2.2 d hd e (List.mem_cons_of_mem _ h)
            · intro d hd
              rcases List.mem_append.1 hd with h | h
              · exact Rob.later (X := d.X) (w := w) (w' := w2) (fun {a b c} h1 h2 => (hx d (hin d (List.mem_append_left _ h))).2.1 a b c h1 h2) (hr d (hin d (List.mem_append_left _ h))) (hRl d (List.mem_append_left _ h))
              · rcases List.mem_cons.1 h with h | h
                · rw [h, hc']; exact hR
                · exact Rob.later (X := d.X) (w := w) (w' := w2) (fun {a b c} h1 h2 => (hx d (hin d (List.mem_append_right _ h))).2.1 a b c h1 h2) (hr d (hin d (List.mem_append_right _ h))) (hRl d (List.mem_append_right _ h))
            · have : (ps ++ c' :: ss).map Ch.todo = (cs.map Ch.todo).set k t := by
                rw [hcs, List.map_append, List.map_append, List.set_append_right _ _ (by rw [List.length_map]; omega), List.length_map, hpl, Nat.sub_self, hc']
                rfl
              rw [this]; exact hk
            · intro l' os w' m hm hfin hL' hT
              exact hrest l' os w' m hm hfin (Lt hL hL') (told_map (E := id) (by rw [hcs, hc']; simp) hT)
          unfold wpOp
          simp only [ho]
          rw [wanted_puts o M _ hlook]
          rcases hw with ⟨hw, hwp⟩ | ⟨hw, hR⟩
          · rw [if_pos hw]
            refine .inl (wp_puts hsel2 M _ w hlook hdst (Oper.wp_mono ?_ hwp))
            rintro a' w2 ⟨hG, v, rfl, hR⟩
            rw [puts_put M _ _ _ hdst]
            have hL := (hx c hcm).2.2 w w2 hG
            exact ⟨hL, hstep v w2 (fun d hd => hwith d hd w w2 hG) hL hR⟩
          · rw [hw]
            exact ⟨Lr w, hstep undef w (fun d hd => (hx d (hin d hd)).1 w) (Lr w) hR⟩
/-- An order with chains side by side. -/
inductive It where
  | f : Nat → It
  | c : Nat → It
  | p : List (List Nat) → It
def total (cs : List (List Nat)) : Nat := (cs.map List.length).sum
def It.len : It → Nat
  | .f _ => 1
  | .c _ => 1
  | .p cs => total cs
def lenI (l : List It) : Nat := (l.map It.len).sum

def TellAll : List (Outs → World → Prop) → List Outs → World → Prop
  | [], [], _ => True
  | E :: es, o :: os, w => E o w ∧ TellAll es os w
  | _, _, _ => False

def wpP (P : Program) (ops : Array Oper) (Q : Exit → Act → World → Prop) (L : World → World → Prop) : List It → Act → World → Prop
  | [], a, w => Q .normal a w
  | .f i :: r, a, w => ∃ o v, ops[i]? = some o ∧ YieldsIf P ops (L w) o v a ∧ wpP P ops Q L r (a.put o.dst v) w
  | .c i :: r, a, w => wpOp P ops Q i (fun a' w' => L w w' ∧ wpP P ops Q L r a' w') a w
  | .p cs :: r, a, w => ∃ es : List ((Outs → World → Prop) × RG), es.length = cs.length ∧ (∀ e ∈ es, e.2.Ok L) ∧ (es.map Prod.snd).Pairwise RG.With ∧ (∀ c ∈ cs.zip es, Rob P ops Q c.2.2 a c.1 [] c.2.1 w) ∧ ∀ os w', L w w' → TellAll (es.map Prod.fst) os w' → wpP P ops Q L r (puts a os.flatten) w'

def checkI (md : Region.Mode) (ops : Array Oper) : List It → Array Bool → Bool
  | [], l => Region.ready md ops l == []
  | .f i :: r, l => Region.free md ops l i && (Region.ready md ops l).contains i && checkI md ops r (l.setIfInBounds i true)
  | .c i :: r, l => Region.ready md ops l == [i] && checkI md ops r (l.setIfInBounds i true)
  | .p cs :: r, l => pairB ops cs && checkP md ops (checkI md ops r) (total cs) cs l

def mkC (c : List Nat × ((Outs → World → Prop) × RG)) : Ch := ⟨c.1, c.1, [], c.2.1, c.2.2⟩
theorem zip_fst {α β : Type} : ∀ {l : List α} {m : List β}, m.length = l.length → (l.zip m).map Prod.fst = l
  | [], _, _ => rfl
  | _ :: _, [], h => by simp at h
  | _ :: l, _ :: m, h => by simp [zip_fst (l := l) (m := m) (by simpa using h)]
theorem zip_snd {α β γ : Type} (f : β → γ) : ∀ {l : List α} {m : List β}, m.length = l.length → (l.zip m).map (fun c => f c.2) = m.map f
  | [], [], _ => rfl
  | [], _ :: _, h => by simp at h
  | _ :: _, [], h => by simp at h
  | _ :: l, _ :: m, h => by simp [zip_snd f (l := l) (m := m) (by simpa using h)]
theorem told_tell : ∀ {cs : List (List Nat)} {es : List ((Outs → World → Prop) × RG)} {os : List Outs} {w : World}, es.length = cs.length → Told ((cs.zip es).map mkC) os w → TellAll (es.map Prod.fst) os w
  | [], [], [], _, _, _ => trivial
  | [], [], _ :: _, _, _, h => h.elim
  | [], _ :: _, _, _, h, _ => by simp at h
  | _ :: _, [], _, _, h, _ => by simp at h
  | _ :: _, _ :: _, [], _, _, h => h.elim
  | c :: cs, e :: es, o :: os, w, hl, h => ⟨h.1, told_tell (cs := cs) (es := es) (by simpa using hl) h.2⟩

theorem wpP_sound (Lr : ∀ w, L w w) (Lt : ∀ {a b c}, L a b → L b c → L a c) (hs : Region.noSelect ops = true) :
    ∀ (ord : List It) (fuel : Nat) (l : Array Bool) (a : Act) (w : World), lenI ord ≤ fuel → checkI md ops ord l = true → wpP P ops (NoPanic Q) L ord a w → wpAnyH P md ops (NoPanic Q) (L w) fuel l a w
  | [], fuel, l, a, w, _, hc, h => wpAnyH_done (by simpa [checkI] using hc) h fuel
  | .f i :: r, fuel, l, a, w, hf, hc, h => by
    obtain ⟨o, v, ho, hy, h⟩ := h
    simp only [checkI, Bool.and_eq_true] at hc
    simp only [lenI, List.map_cons, List.sum_cons, It.len] at hf
    cases fuel with
    | zero => omega
    | succ fuel =>
      exact wpAnyH_take ho hs hc.1.1 hc.1.2 (fun c a w => NoPanic.put Q c a o.dst v w) hy (Lr w) (wpP_sound Lr Lt hs r fuel _ _ w (by unfold lenI; omega) hc.2 h)
  | .c i :: r, fuel, l, a, w, hf, hc, h => by
    simp only [checkI, Bool.and_eq_true, beq_iff_eq] at hc
    simp only [lenI, List.map_cons, List.sum_cons, It.len] at hf
    cases fuel with
    | zero => omega
    | succ fuel =>
      refine wpAnyH_all (rs := [i]) hc.1 (by simp) ?_
      intro j hj
      rw [List.mem_singleton.1 hj]
      exact wpOp_mono (fun a' w' h' => ⟨h'.1, wpAnyH_stronger (fun x hx => Lt h'.1 hx) fuel _ _ _ (wpP_sound Lr Lt hs r fuel _ a' w' (by unfold lenI; omega) hc.2 h'.2)⟩) h
  | .p cs :: r, fuel, l, a, w, hf, hc, h => by
    obtain ⟨es, hl, hok, hwi, hr, hrest⟩ := h
    simp only [checkI, Bool.and_eq_true] at hc
    simp only [lenI, List.map_cons, List.sum_cons, It.len] at hf
    have e1 : fuel = total cs + (fuel - total cs) := by omega
    have em : ((cs.zip es).map mkC).map Ch.all = cs := by
      rw [List.map_map]
      exact (List.map_congr_left fun c _ => rfl).trans (zip_fst hl)
    have et : ((cs.zip es).map mkC).map Ch.todo = cs := by
      rw [List.map_map]
      exact (List.map_congr_left fun c _ => rfl).trans (zip_fst hl)
    have eo : (((cs.zip es).map mkC).map Ch.out).flatten = [] := by
      rw [List.map_map]
      apply List.eq_nil_iff_forall_not_mem.2
      intro x hx
      obtain ⟨y, hy, hxy⟩ := List.mem_flatten.1 hx
      obtain ⟨c, _, rfl⟩ := List.mem_map.1 hy
      cases hxy
    have := par_sound (P := P) (ops := ops) (Q := Q) (md := md) Lr Lt hs a (checkI md ops r) (fuel - total cs) (total cs) ((cs.zip es).map mkC) l w ?_ ?_ ?_ (beside_of (by rw [em]; exact hc.1)) ?_ (by rw [et]; exact hc.2) ?_
    · rw [eo, puts_nil, ← e1] at this; exact this
    · intro c hc'
      obtain ⟨x, hx, rfl⟩ := List.mem_map.1 hc'
      exact hok x.2 (List.of_mem_zip hx).2
    · rw [List.map_map]
      have := zip_snd (l := cs) (m := es) Prod.snd hl
      rw [show ((cs.zip es).map (Ch.X ∘ mkC)) = (cs.zip es).map (fun c => c.2.2) from rfl, this]
      exact hwi
    · intro c hc'
      obtain ⟨x, _, rfl⟩ := List.mem_map.1 hc'
      exact ⟨fun i hi => hi, fun p hp => by cases hp⟩
    · intro c hc'
      obtain ⟨x, hx, rfl⟩ := List.mem_map.1 hc'
      exact hr x hx
    · intro l' os w' m hm hfin hL hT
      exact wpP_sound Lr Lt hs r m l' _ w' (by unfold lenI; omega) hfin (hrest os w' hL (told_tell hl hT))

/-- The beginning, where blocks S may be written. -/
theorem wp_region_par {id : Nat} {a : Act} {w : World} (S : List Nat) (ord : List It) (hm : P.follows .mixedOrders = true) (hs : Region.noSelect ops = true)
    (hl : decide (lenI ord ≤ ops.size) = true) (hc : checkI .any ops ord (Array.replicate ops.size false) = true) (h : wpP P ops (NoPanic Q) (Chg S) ord a w.drew) : (Code.region id ops true).wp P Q a w :=
  wp_region_noPanic (wp_region_held hm (wpP_sound (Chg.refl S) Chg.trans hs ord ops.size _ a w.drew (of_decide_eq_true hl) hc h))

/-- The same, where all that was made since may be written. -/
theorem wp_region_parN {id : Nat} {a : Act} {w : World} (N : Nat) (ord : List It) (hm : P.follows .mixedOrders = true) (hs : Region.noSelect ops = true)
    (hl : decide (lenI ord ≤ ops.size) = true) (hc : checkI .any ops ord (Array.replicate ops.size false) = true) (h : wpP P ops (NoPanic Q) (Below N) ord a w.drew) : (Code.region id ops true).wp P Q a w :=
  wp_region_noPanic (wp_region_held hm (wpP_sound (Below.refl N) Below.trans hs ord ops.size _ a w.drew (of_decide_eq_true hl) hc h))

theorem wpP_nil {a : Act} {w : World} (h : Q .normal a w) : wpP P ops (NoPanic Q) L [] a w := h
theorem wpP_F {i : Nat} {r : List It} {a : Act} {w : World} {o : Oper} {v : Value} (ho : nth ops.toList i = some o) (hw : Region.wanted o (yielded ops a.tmps) = true)
    (hv : ∀ w', L w w' → (execOp a.eval o).run P w' = .ok (.value v) w') (h : wpP P ops Q L r (a.put o.dst v) w) : wpP P ops Q L (.f i :: r) a w :=
  ⟨o, v, nth_ops ho, .inl ⟨hw, hv⟩, h⟩
theorem wpP_G {i : Nat} {r : List It} {a : Act} {w : World} {o : Oper} (ho : nth ops.toList i = some o) (hw : Region.wanted o (yielded ops a.tmps) = false)
    (h : wpP P ops Q L r (a.put o.dst undef) w) : wpP P ops Q L (.f i :: r) a w := ⟨o, undef, nth_ops ho, .inr ⟨hw, rfl⟩, h⟩
theorem wpP_skip (Lr : ∀ w, L w w) {i : Nat} {r : List It} {a : Act} {w : World} {o : Oper} (ho : nth ops.toList i = some o) (hw : Region.wanted o (yielded ops a.tmps) = false)
    (h : wpP P ops Q L r (a.put o.dst undef) w) : wpP P ops Q L (.c i :: r) a w := by
  show wpOp P ops Q i _ a w
  unfold wpOp
  simp only [nth_ops ho, hw]
  exact ⟨Lr w, h⟩
theorem wpP_C {i : Nat} {r : List It} {a : Act} {w : World} {o : Oper} (ho : nth ops.toList i = some o) (hw : Region.wanted o (yielded ops a.tmps) = true)
    (h : o.wp P a w (fun a' w' => L w w' ∧ wpP P ops Q L r a' w') Q) : wpP P ops Q L (.c i :: r) a w := by
  show wpOp P ops Q i _ a w
  unfold wpOp
  simp only [nth_ops ho, hw]
  exact .inl h
theorem wpP_two {c d : List Nat} {r : List It} {a : Act} {w : World} (X Y : RG) (E F : Outs → World → Prop) (hX : X.Ok L) (hY : Y.Ok L) (hXY : X.With Y) (h1 : Rob P ops Q X a c [] E w) (h2 : Rob P ops Q Y a d [] F w)
    (h : ∀ o1 o2 w', L w w' → E o1 w' → F o2 w' → wpP P ops Q L r (puts a (o1 ++ o2)) w') : wpP P ops Q L (.p [c, d] :: r) a w := by
  refine ⟨[(E, X), (F, Y)], rfl, ?_, ?_, fun x hx => ?_, fun os w' hL hT => ?_⟩
  · intro e he
    simp only [List.mem_cons, List.not_mem_nil, or_false] at he
    rcases he with rfl | rfl <;> assumption
  · simpa using hXY
  · simp only [List.zip_cons_cons, List.zip_nil_left, List.mem_cons, List.not_mem_nil, or_false] at hx
    rcases hx with rfl | rfl
    · exact h1
    · exact h2
  · match os, hT with
    | [o1, o2], hT => simpa using h o1 o2 w' hL hT.1 hT.2.1
theorem wpP_three {c d g : List Nat} {r : List It} {a : Act} {w : World} (X Y Z : RG) (E F H : Outs → World → Prop) (hX : X.Ok L) (hY : Y.Ok L) (hZ : Z.Ok L) (hXY : X.With Y) (hXZ : X.With Z) (hYZ : Y.With Z)
    (h1 : Rob P ops Q X a c [] E w) (h2 : Rob P ops Q Y a d [] F w) (h3 : Rob P ops Q Z a g [] H w)
    (h : ∀ o1 o2 o3 w', L w w' → E o1 w' → F o2 w' → H o3 w' → wpP P ops Q L r (puts a (o1 ++ (o2 ++ o3))) w') : wpP P ops Q L (.p [c, d, g] :: r) a w := by
  refine ⟨[(E, X), (F, Y), (H, Z)], rfl, ?_, ?_, fun x hx => ?_, fun os w' hL hT => ?_⟩
  · intro e he
    simp only [List.mem_cons, List.not_mem_nil, or_false] at he
    rcases he with rfl | rfl | rfl <;> assumption
  · simp only [List.map_cons, List.map_nil, List.pairwise_cons, List.mem_cons, List.not_mem_nil, or_false, forall_eq_or_imp, forall_eq, List.Pairwise.nil, and_true, false_implies, implies_true]
    exact ⟨⟨hXY, hXZ⟩, hYZ⟩
  · simp only [List.zip_cons_cons, List.zip_nil_left, List.mem_cons, List.not_mem_nil, or_false] at hx
    rcases hx with rfl | rfl | rfl
    · exact h1
    · exact h2
    · exact h3
  · match os, hT with
    | [o1, o2, o3], hT => simpa using h o1 o2 o3 w' hL hT.1 hT.2.1 hT.2.2.1
/-- Chains that make memory alone. -/
def onlyNew (S : List Nat) : RG := ⟨Chg S, Chg S⟩
theorem onlyNew_ok (S : List Nat) : (onlyNew S).Ok (Chg S) := ⟨Chg.refl S, fun _ _ _ => Chg.trans, fun _ _ h => h⟩
theorem onlyNew_with (S : List Nat) : (onlyNew S).With (onlyNew S) := ⟨fun _ _ h => h, fun _ _ h => h⟩
theorem wpP_two' {S : List Nat} {c d : List Nat} {r : List It} {a : Act} {w : World} (E F : Outs → World → Prop) (h1 : Rob P ops Q (onlyNew S) a c [] E w) (h2 : Rob P ops Q (onlyNew S) a d [] F w)
    (h : ∀ o1 o2 w', Chg S w w' → E o1 w' → F o2 w' → wpP P ops Q (Chg S) r (puts a (o1 ++ o2)) w') : wpP P ops Q (Chg S) (.p [c, d] :: r) a w :=
  wpP_two _ _ E F (onlyNew_ok S) (onlyNew_ok S) (onlyNew_with S) h1 h2 h
theorem rob_C {X : RG} {i : Nat} {r : List Nat} {l : Outs} {E : Outs → World → Prop} {a : Act} {w : World} {o : Oper} (ho : nth ops.toList i = some o) (hw : Region.wanted o (yielded ops (puts a l).tmps) = true)
    (h : ∀ w', X.R w w' → ∀ K : Act → World → Prop, Hid (∀ v w'' b, b = (puts a l).put o.dst v → X.G w' w'' → Rob P ops Q X a r (l ++ [(o.dst, v)]) E w'' → K b w'') → o.wp P (puts a l) w' K Q) : Rob P ops Q X a (i :: r) l E w :=
  fun w' hL => ⟨o, nth_ops ho, .inl ⟨hw, h w' hL _ (fun v w'' b hb hL2 hR => ⟨hL2, v, hb, hR⟩)⟩⟩
theorem rob_G {X : RG} {i : Nat} {r : List Nat} {l : Outs} {E : Outs → World → Prop} {a : Act} {w : World} {o : Oper} (ho : nth ops.toList i = some o) (hw : Region.wanted o (yielded ops (puts a l).tmps) = false)
    (h : ∀ w', X.R w w' → Rob P ops Q X a r (l ++ [(o.dst, undef)]) E w') : Rob P ops Q X a (i :: r) l E w :=
  fun w' hL => ⟨o, nth_ops ho, .inr ⟨hw, h w' hL⟩⟩
theorem rob_nil {X : RG} {l : Outs} {E : Outs → World → Prop} {a : Act} {w : World} (h : ∀ w', X.R w w' → E l w') : Rob P ops Q X a [] l E w := h
theorem Rob.step {X : RG} {a : Act} {i : Nat} {r : List Nat} {l : Outs} {E : Outs → World → Prop} {w : World} (h : Rob P ops Q X a (i :: r) l E w) : ∀ w', X.R w w' → ∃ o, ops[i]? = some o ∧
      ((Region.wanted o (yielded ops (puts a l).tmps) = true ∧ o.wp P (puts a l) w' (fun a' w'' => X.G w' w'' ∧ ∃ v, a' = (puts a l).put o.dst v ∧ Rob P ops Q X a r (l ++ [(o.dst, v)]) E w'') Q) ∨
       (Region.wanted o (yielded ops (puts a l).tmps) = false ∧ Rob P ops Q X a r (l ++ [(o.dst, undef)]) E w')) := h
theorem Rob.done {X : RG} {a : Act} {l : Outs} {E : Outs → World → Prop} {w : World} (h : Rob P ops Q X a [] l E w) : ∀ w', X.R w w' → E l w' := h
end
attribute [irreducible] wpP Rob
end Go.Proofs.Ytinddipgeldbpaa

/- Maps whose keys and elements are arrays of integers. -/
set_option linter.unusedSimpArgs false
set_option linter.unusedVariables false
set_option maxRecDepth 100000
namespace Go.Proofs.Ytinddipgeldbpaa
open Go.RowKit

/-- An array of integers of kind k, by value. -/
def arrN (k : IntKind) (l : List Nat) : Value := .agg (l.map fun (c : Nat) => Value.int k (c : Int)).toArray

theorem run_part_arr {P : Program} {e : TypeId} {k : IntKind} (he : P.underlying e = some (.int k)) (l : List Nat) (i : Nat) (x : Nat) (hi : l[i]? = some x) (w : World) :
    (part e (l.map fun (c : Nat) => Value.int k (c : Int)).toArray i).run P w = .ok (.int k (x : Int)) w := by
  simp [part, isAgg, run_underlying he, hi]

theorem run_eqItems_arr {P : Program} {e : TypeId} {k : IntKind} (he : P.underlying e = some (.int k)) (hc : P.cellsOf e = 1) (d : Nat) (w : World) :
    ∀ (xs ys px py : List Nat), xs.length = ys.length → px.length = py.length →
    (Op.eqItems (d + 1) e (P.cellsOf e) ((px ++ xs).map fun (c : Nat) => Value.int k (c : Int)).toArray ((py ++ ys).map fun (c : Nat) => Value.int k (c : Int)).toArray (List.range' px.length xs.length)).run P w = .ok (xs == ys) w
  | [], [], _, _, _, _ => by simp [Op.eqItems]
  | [], y :: ys, _, _, h, _ => by simp at h
  | x :: xs, [], _, _, h, _ => by simp at h
  | x :: xs, y :: ys, px, py, h, hp => by
    have ih := run_eqItems_arr he hc d w xs ys (px ++ [x]) (py ++ [y]) (by simpa using h) (by simp [hp])
    rw [List.append_assoc, List.append_assoc, List.singleton_append, List.singleton_append, List.length_append, List.length_singleton] at ih
    rw [List.length_cons, List.range'_succ]
    have p1 := run_part_arr he (px ++ x :: xs) px.length x (by simp) w
    have p2 := run_part_arr he (py ++ y :: ys) px.length y (by rw [hp]; simp) w
    have p3 := run_equalIn_int (P := P) w d e k k (x : Int) (y : Int) he
    simp only [Op.eqItems, hc, Nat.mul_one, Sem.run_bind, p1, p2, p3, Result.andThen_ok]
    rw [hc] at ih
    by_cases hxy : x = y
    · subst hxy
      simp only [beq_self_eq_true, Bool.not_true, Bool.false_eq_true, if_false]
      rw [ih]
      simp
    · have e1 : ((x : Int) == (y : Int)) = false := by simp; omega
      have e2 : (x :: xs == y :: ys) = false := by simp [hxy]
      rw [e1, e2]
      simp

/-- Two arrays are the same. -/
theorem run_equalIn_arrN {P : Program} {t e : TypeId} {k : IntKind} {n : Nat} (ht : P.underlying t = some (.array n e)) (he : P.underlying e = some (.int k)) (hc : P.cellsOf e = 1)
    (d : Nat) (xs ys : List Nat) (hx : xs.length = n) (hy : ys.length = n) (w : World) : (Op.equalIn (d + 2) t (arrN k xs) (arrN k ys)).run P w = .ok (xs == ys) w := by
  obtain ⟨i, hi⟩ := info_of_underlying he
  unfold arrN
  rw [run_equalIn_array w (d + 1) _ _ ht hi, List.range_eq_range']
  have := run_eqItems_arr he hc d w xs ys [] [] (by omega) rfl
  simpa [hx] using this

theorem run_equal_arrN {P : Program} {t e : TypeId} {k : IntKind} {n : Nat} (ht : P.underlying t = some (.array n e)) (he : P.underlying e = some (.int k)) (hc : P.cellsOf e = 1)
    (xs ys : List Nat) (hx : xs.length = n) (hy : ys.length = n) (w : World) : (Op.equal t (arrN k xs) (arrN k ys)).run P w = .ok (xs == ys) w :=
  run_equalIn_arrN ht he hc 9998 xs ys hx hy w

/-- What an association list has at a key. -/
def alGet : List (List Nat × List Nat) → List Nat → Option (List Nat)
  | [], _ => none
  | p :: r, x => if p.1 == x then some p.2 else alGet r x
/-- The list with v at key x. -/
def alPut : List (List Nat × List Nat) → List Nat → List Nat → List (List Nat × List Nat)
  | [], x, v => [(x, v)]
  | p :: r, x, v => if p.1 == x then (x, v) :: r else p :: alPut r x v
theorem alGet_put : ∀ (l : List (List Nat × List Nat)) (x v y : List Nat), alGet (alPut l x v) y = if x == y then some v else alGet l y
  | [], x, v, y => by simp [alGet, alPut]
  | p :: r, x, v, y => by
    unfold alPut
    by_cases h : p.1 == x
    · rw [if_pos h]
      simp only [alGet]
      by_cases h2 : x == y
      · simp [h2]
      · have h3 : (p.1 == y) = false := by
          rw [eq_of_beq h]
          simpa using h2
        simp [h2, h3]
    · rw [if_neg h]
      simp only [alGet, alGet_put r x v y]
      by_cases h2 : p.1 == y
      · have h3 : (x == y) = false := by
          rw [← eq_of_beq h2]
          simp only [beq_eq_false_iff_ne, ne_eq]
          intro e
          subst e
          simp at h
        simp [h2, h3]
      · simp [h2]
/-- Where the key is. -/
def alFind : List (List Nat × List Nat) → List Nat → Nat → Option (Nat × List Nat)
  | [], _, _ => none
  | p :: r, x, i => if p.1 == x then some (i, p.2) else alFind r x (i + 1)
theorem alFind_get : ∀ (l : List (List Nat × List Nat)) (x : List Nat) (i : Nat), (alFind l x i).map (·.2) = alGet l x
  | [], _, _ => rfl
  | p :: r, x, i => by
    unfold alFind alGet
    split
    · rfl
    · exact alFind_get r x (i + 1)

/-- The entries of a map of arrays. -/
def EntsA (k kv : IntKind) (n : Nat) (es : List MapEntry) (al : List (List Nat × List Nat)) : Prop :=
  es.map (fun e => (e.key, e.val)) = al.map (fun p => (arrN k p.1, arrN kv p.2)) ∧ ∀ p ∈ al, p.1.length = n

theorem run_findAsking_arr {P : Program} {t e : TypeId} {k kv : IntKind} {n : Nat} (ht : P.underlying t = some (.array n e)) (he : P.underlying e = some (.int k)) (hc : P.cellsOf e = 1) (x : List Nat) (hx : x.length = n) (w : World) :
    ∀ (es : List MapEntry) (al : List (List Nat × List Nat)) (i : Nat), EntsA k kv n es al → (Instr.findAsking t (arrN k x) es i).run P w = .ok ((alFind al x i).map fun p => (p.1, arrN kv p.2)) w
  | [], [], _, _ => by simp [Instr.findAsking, alFind]
  | [], p :: al, _, h => by simp [EntsA] at h
  | m :: es, [], _, h => by simp [EntsA] at h
  | m :: es, p :: al, i, h => by
    obtain ⟨h1, h2⟩ := h
    simp only [List.map_cons, List.cons.injEq, Prod.mk.injEq] at h1
    have ih := run_findAsking_arr ht he hc x hx w es al (i + 1) ⟨h1.2, fun q hq => h2 q (by simp [hq])⟩
    have heq := run_equal_arrN ht he hc x p.1 hx (h2 p (by simp)) w
    unfold Instr.findAsking alFind
    simp only [Sem.run_bind, h1.1.1, heq, Result.andThen_ok]
    by_cases hxp : p.1 == x
    · have e1 := eq_of_beq hxp
      have : (x == p.1) = true := by rw [e1]; simp
      rw [if_pos hxp, this]
      simp [h1.1.2]
    · have : (x == p.1) = false := by
        simp only [beq_eq_false_iff_ne, ne_eq]
        intro e2
        subst e2
        simp at hxp
      rw [if_neg hxp, this]
      simpa using ih

theorem run_findKey_arr {P : Program} {t e : TypeId} {k kv : IntKind} {n : Nat} (ht : P.underlying t = some (.array n e)) (he : P.underlying e = some (.int k)) (hc : P.cellsOf e = 1) (x : List Nat) (hx : x.length = n) (w : World)
    (es : List MapEntry) (al : List (List Nat × List Nat)) (h : EntsA k kv n es al) : (Instr.findKey t (arrN k x) es).run P w = .ok ((alFind al x 0).map fun p => (p.1, arrN kv p.2)) w := by
  have hA := run_findAsking_arr ht he hc x hx w es al 0 h
  unfold Instr.findKey
  simp only [Sem.run_bind, run_underlying ht, Result.andThen_ok]
  cases es with
  | nil =>
    simp only [Instr.findNow]
    cases al with
    | nil => simp [alFind]
    | cons p al => simp [EntsA] at h
  | cons m es => simpa [Instr.findNow, Instr.sameNow] using hA

theorem run_checkKey_arr {P : Program} {t e : TypeId} {k : IntKind} {n : Nat} (ht : P.underlying t = some (.array n e)) (he : P.underlying e = some (.int k)) (hc : P.cellsOf e = 1) (x : List Nat) (hx : x.length = n) (w : World) (em : Bool) :
    (Instr.checkKey em 10000 t (arrN k x)).run P w = .ok () w := by
  obtain ⟨i, hi⟩ := info_of_underlying he
  unfold Instr.checkKey
  simp only [Sem.run_bind, run_underlying ht, Result.andThen_ok, arrN]
  simp only [Std.Legacy.Range.forIn_eq_forIn_range', Std.Legacy.Range.size, Nat.sub_zero, Nat.add_one_sub_one, Nat.div_one]
  have key : ∀ (is : List Nat), (∀ j ∈ is, j < n) → (forIn is PUnit.unit fun i (_ : PUnit) => do
      let n ← Go.sizeOf e
      let v ← part e (x.map fun (c : Nat) => Value.int k (c : Int)).toArray (i * n)
      Instr.checkKey em 9999 e v
      pure (ForInStep.yield PUnit.unit) : Sem PUnit).run P w = .ok PUnit.unit w := by
    intro is
    induction is with
    | nil => intro _; simp
    | cons j is ih =>
      intro hj
      have hjn : j < x.length := by have := hj j (by simp); omega
      simp only [List.forIn_cons, Sem.run_bind, run_sizeOf w hi, Result.andThen_ok, hc, Nat.mul_one]
      rw [run_part_arr he x j x[j] (List.getElem?_eq_getElem hjn)]
      simp only [Result.andThen_ok]
      rw [Go.MapKept.run_checkKey (d := .int k) he (k := .int k (x[j] : Int)) (by simp [Go.MapKept.IsKey]) em 9998]
      simp only [Result.andThen_ok, Sem.run_pure]
      exact ih (fun i hi => hj i (by simp [hi]))
  have := key (List.range' 0 n) (fun j hj => by simp [List.mem_range'] at hj; omega)
  simp only [bind_pure_comp] at this
  simp only [bind_pure_comp]
  rw [this]
  rfl

/-- Block g is a map of arrays: at key x it has g x. -/
def MapA (k kv : IntKind) (n : Nat) (w : World) (b : Nat) (g : List Nat → Option (List Nat)) : Prop :=
  ∃ (es : Array MapEntry) (clk : Nat) (al : List (List Nat × List Nat)), MapB w b es clk ∧ EntsA k kv n es.toList al ∧ ∀ x, alGet al x = g x

theorem MapA.chg {k kv : IntKind} {n : Nat} {w w' : World} {b : Nat} {g : List Nat → Option (List Nat)} {S : List Nat} (h : MapA k kv n w b g) (hc : Chg S w w') (hn : b ∉ S) : MapA k kv n w' b g := by
  obtain ⟨es, clk, al, h1, h2⟩ := h
  exact ⟨es, clk, al, h1.chg hc hn, h2⟩
theorem MapA.lt {k kv : IntKind} {n : Nat} {w : World} {b : Nat} {g : List Nat → Option (List Nat)} (h : MapA k kv n w b g) : b < w.heap.size := by
  obtain ⟨es, clk, al, h1, h2⟩ := h
  exact h1.lt
theorem MapA.setCell {k kv : IntKind} {n : Nat} {w : World} {b : Nat} {g : List Nat → Option (List Nat)} (h : MapA k kv n w b g) (c o : Nat) (u : Value) : MapA k kv n (w.setCell ⟨c, o, none⟩ u) b g := by
  obtain ⟨es, clk, al, h1, h2⟩ := h
  exact ⟨es, clk, al, h1.setCell u, h2⟩
theorem MapA.alloc {k kv : IntKind} {n : Nat} {w : World} {b : Nat} {g : List Nat → Option (List Nat)} (h : MapA k kv n w b g) (o : Obj) : MapA k kv n (w.alloc o) b g :=
  h.chg (S := []) ((Chg.refl _ _).alloc o) (by simp)
theorem MapA.drew {k kv : IntKind} {n : Nat} {w : World} {b : Nat} {g : List Nat → Option (List Nat)} (h : MapA k kv n w b g) : MapA k kv n w.drew b g := h
theorem MapA.ne_blk {k kv : IntKind} {n : Nat} {w : World} {b g' : Nat} {g : List Nat → Option (List Nat)} {t : TypeId} {cs : Array Value} (h : MapA k kv n w b g) (h' : Blk w g' t cs) : b ≠ g' := by
  obtain ⟨es, clk, al, h1, h2⟩ := h
  exact h1.ne_blk h'
theorem MapA.new (k kv : IntKind) (n : Nat) (w : World) : MapA k kv n (w.alloc (.map #[] 0)) w.heap.size fun _ => none :=
  ⟨#[], 0, [], heap_alloc_new w _, ⟨rfl, by simp⟩, fun _ => rfl⟩

/-- 'm[x]'. -/
theorem MapA.lookup {P : Program} {k kv : IntKind} {n : Nat} {w : World} {b : Nat} {g : List Nat → Option (List Nat)} (h : MapA k kv n w b g) {T t te e : TypeId} {z : Value} (hT : P.underlying T = some (.map t te)) (ht : P.underlying t = some (.array n e)) (he : P.underlying e = some (.int k)) (hc : P.cellsOf e = 1)
    (hz : ∀ W, (zeroValue te).run P W = .ok z W) (x : List Nat) (hx : x.length = n) : (Instr.lookup T (.map (some b)) (arrN k x) false).run P w = .ok (((g x).map (arrN kv)).getD z) w := by
  obtain ⟨es, clk, al, h1, h2, h3⟩ := h
  unfold Instr.lookup
  simp only [Sem.run_bind, run_underlying hT, Result.andThen_ok, Go.MapKept.run_getObj_map h1, Sem.run_pure, run_checkKey_arr ht he hc x hx, run_findKey_arr ht he hc x hx w _ al h2]
  rw [← h3 x, ← alFind_get al x 0]
  cases alFind al x 0 with
  | none => simp [hz]
  | some p => simp

theorem sameBits_arr (m : Nat) (k : IntKind) : ∀ x : List Nat, Instr.sameBits (m + 2) (arrN k x) (arrN k x) = true := by
  intro x
  unfold arrN Instr.sameBits
  simp only [beq_self_eq_true, Bool.true_and]
  rw [List.all_eq_true]
  intro p hp
  have : p.1 = p.2 ∧ ∃ c : Nat, p.1 = .int k (c : Int) := by
    have h1 : p ∈ (x.map fun (c : Nat) => Value.int k (c : Int)).zip (x.map fun (c : Nat) => Value.int k (c : Int)) := by simpa using hp
    rw [List.mem_iff_getElem] at h1
    obtain ⟨i, hi, rfl⟩ := h1
    exact ⟨by simp, x[i]'(by simpa using hi), by simp⟩
  obtain ⟨e1, c, e2⟩ := this
  rw [← e1, e2]
  simp [Instr.sameBits]

/-- 'm[x] = v'. -/
theorem MapA.update {P : Program} {k kv : IntKind} {n : Nat} {w : World} {b : Nat} {g : List Nat → Option (List Nat)} (h : MapA k kv n w b g) {T t te e : TypeId} (hT : P.underlying T = some (.map t te)) (ht : P.underlying t = some (.array n e)) (he : P.underlying e = some (.int k)) (hc : P.cellsOf e = 1)
    (x v : List Nat) (hx : x.length = n) : ∃ o, (Instr.mapUpdate T (.map (some b)) (arrN k x) (arrN kv v)).run P w = .ok () (putObj w b o) ∧ ∀ w', w'.heap[b]? = some o → MapA k kv n w' b fun y => if x == y then some v else g y := by
  obtain ⟨es, clk, al, h1, h2, h3⟩ := h
  have hfin : ∀ (es' : Array MapEntry) (clk' : Nat), EntsA k kv n es'.toList (alPut al x v) → ∀ w' : World, w'.heap[b]? = some (.map es' clk') → MapA k kv n w' b fun y => if x == y then some v else g y := by
    intro es' clk' he' w' hw'
    refine ⟨es', clk', _, hw', he', fun y => ?_⟩
    rw [alGet_put, h3]
  unfold Instr.mapUpdate
  simp only [Sem.run_bind, run_underlying hT, Result.andThen_ok, Go.MapKept.run_getObj_map h1, Sem.run_pure, run_checkKey_arr ht he hc x hx, run_findKey_arr ht he hc x hx w _ al h2]
  have hf : ∀ (es : List MapEntry) (al : List (List Nat × List Nat)) (i : Nat), EntsA k kv n es al →
      (alFind al x i = none ∧ (∀ m : MapEntry, m.key = arrN k x → m.val = arrN kv v → EntsA k kv n (es ++ [m]) (alPut al x v))) ∨
      (∃ j u m, alFind al x i = some (i + j, u) ∧ es[j]? = some m ∧ m.key = arrN k x ∧ (∀ m' : MapEntry, m'.key = arrN k x → m'.val = arrN kv v → EntsA k kv n (es.set j m') (alPut al x v))) := by
    intro es
    induction es with
    | nil =>
      intro al i h
      cases al with
      | cons p al => simp [EntsA] at h
      | nil => exact .inl ⟨rfl, fun m h1 h2 => ⟨by simp [alPut, h1, h2], by simp [alPut, hx]⟩⟩
    | cons m es ih =>
      intro al i h
      cases al with
      | nil => simp [EntsA] at h
      | cons p al =>
        obtain ⟨q1, q2⟩ := h
        simp only [List.map_cons, List.cons.injEq, Prod.mk.injEq] at q1
        have h' : EntsA k kv n es al := ⟨q1.2, fun q hq => q2 q (by simp [hq])⟩
        by_cases hxp : p.1 == x
        · right
          refine ⟨0, p.2, m, by simp [alFind, hxp], rfl, by rw [q1.1.1, eq_of_beq hxp], fun m' h1 h2 => ?_⟩
          unfold alPut
          rw [if_pos hxp]
          refine ⟨by simp [h1, h2, q1.2], fun q hq => ?_⟩
          rw [List.mem_cons] at hq
          rcases hq with rfl | hq
          · exact hx
          · exact q2 q (by simp [hq])
        · have e2 : alFind (p :: al) x i = alFind al x (i + 1) := by simp [alFind, hxp]
          have e3 : alPut (p :: al) x v = p :: alPut al x v := by simp [alPut, hxp]
          rw [e2, e3]
          rcases ih al (i + 1) h' with ⟨g1, g2⟩ | ⟨j, u, m1, g1, g2, g3, g4⟩
          · left
            refine ⟨g1, fun m' k1 k2 => ?_⟩
            obtain ⟨r1, r2⟩ := g2 m' k1 k2
            refine ⟨?_, fun q hq => ?_⟩
            · rw [List.cons_append, List.map_cons, List.map_cons, r1, q1.1.1, q1.1.2]
            · rw [List.mem_cons] at hq
              rcases hq with rfl | hq
              · exact q2 _ (by simp)
              · exact r2 q hq
          · right
            refine ⟨j + 1, u, m1, by rw [g1]; congr 2; omega, by simpa using g2, g3, fun m' k1 k2 => ?_⟩
            obtain ⟨r1, r2⟩ := g4 m' k1 k2
            refine ⟨?_, fun q hq => ?_⟩
            · rw [List.set_cons_succ, List.map_cons, List.map_cons, r1, q1.1.1, q1.1.2]
            · rw [List.mem_cons] at hq
              rcases hq with rfl | hq
              · exact q2 _ (by simp)
              · exact r2 q hq
  rcases hf es.toList al 0 h2 with ⟨e1, e2⟩ | ⟨j, u, m, e1, e2, e3, e4⟩
  · rw [e1]
    simp only [Option.map_none]
    refine ⟨_, Go.MapKept.run_setObj_map _ h1, hfin _ _ ?_⟩
    rw [Array.toList_push]
    exact e2 _ rfl rfl
  · rw [e1]
    simp only [Option.map_some, Nat.zero_add]
    have hm : es[j]? = some m := by rw [← Array.getElem?_toList]; exact e2
    simp only [hm, Option.map_some, Option.getD_some, e3]
    have hstay : (Instr.keyThatStays (arrN k x) (arrN k x)).run P w = .ok (arrN k x) w := by
      unfold Instr.keyThatStays
      rw [if_pos (sameBits_arr 9998 k x)]
      simp
    rw [Sem.run_bind, hstay]
    simp only [Result.andThen_ok]
    refine ⟨_, Go.MapKept.run_setObj_map _ h1, hfin _ _ ?_⟩
    have hset : (es.modify j fun e => { e with key := arrN k x, val := arrN kv v }).toList = es.toList.set j { m with key := arrN k x, val := arrN kv v } := by
      apply List.ext_getElem?
      intro i
      rw [Array.getElem?_toList, Array.getElem?_modify, List.getElem?_set]
      by_cases hij : j = i
      · subst hij
        have hlt : j < es.toList.length := (List.getElem?_eq_some_iff.1 e2).1
        rw [if_pos rfl, if_pos rfl, if_pos hlt, hm]
        rfl
      · rw [if_neg hij, if_neg hij, Array.getElem?_toList]
    rw [hset]
    exact e4 _ rfl rfl
end Go.Proofs.Ytinddipgeldbpaa
