/- Several texts of one proof, one behind the other. -/
import Derived.Test.YthfgjkmfabmipaaJQk14
set_option linter.unusedSimpArgs false
set_option linter.unusedVariables false

/- Journal: the walk of the law JournalHot. -/
set_option linter.unusedSimpArgs false
set_option linter.unusedVariables false
set_option maxRecDepth 100000
namespace Go.Proofs.Ythfgjkmfabmipaa
open Go.RowKit

theorem saveK_room (f g : Nat → Nat) (k : Nat) (hk : k ≤ 3) : ((oldK g (DS.begin f) k).2.save (oldE g k none) 6).2.room 10 := by
  have h := (oldI_all f g k hk).room
  generalize (oldK g (DS.begin f) k).2 = D at *
  unfold DS.save
  split
  · have h1 := writes_room 1 ((oldE g k none).flatMap En.secs) D 1 13 (h.mono (by rw [flat5]; simp [oldE]))
    unfold thenD
    split
    · have h2 := sync_room 1 (n := 12) h1
      dsimp only
      split
      · exact seal_room (n := 10) _ h2
      · exact h2.mono (by omega)
    · exact h1.mono (by omega)
  · exact h.mono (by omega)
theorem and_mask63 (a : Int) : ∃ f : Nat, f < 256 ∧ bits .and .u8 a 63 = (f : Int) := by
  refine ⟨(BitVec.ofInt 8 a &&& BitVec.ofInt 8 63).toNat, (BitVec.ofInt 8 a &&& BitVec.ofInt 8 63).isLt, ?_⟩
  show IntKind.u8.wrap (((BitVec.ofInt 8 a &&& BitVec.ofInt 8 63).toNat : Nat) : Int) = _
  have := (BitVec.ofInt 8 a &&& BitVec.ofInt 8 63).isLt
  generalize (BitVec.ofInt 8 a &&& BitVec.ofInt 8 63).toNat = m at *
  simp [IntKind.wrap, IntKind.bits, IntKind.signed]
  omega
theorem oldK_zero (g : Nat → Nat) (D : DS) : (oldK g D 0).2 = D := rfl

set_option maxRecDepth 100000 in
set_option maxHeartbeats 16000000 in
theorem journalHot_walk (a0 : Option Addr) (n0 c0 : Nat) (z0 : List Int) (a1 : Option Addr) (n1 c1 : Nat) (z1 : List Int) (x2 : Int) (a3 : Option Addr) (n3 c3 : Nat) (z3 : List Int) (w : World) (w0 : IsRow .u8 w a0 n0 c0 z0) (w1 : IsRow .u8 w a1 n1 c1 z1) (w2 : (Lit.int .u8 x2).wf = true) (w3 : IsRow .u8 w a3 n3 c3 z3) :
    Calls Try.prog 6 #[.slice a0 n0 c0, .slice a1 n1 c1, .int .u8 x2, .slice a3 n3 c3] w fun e w' => e = .returned (.bool true) ∧ Below w.heap.size w w' := by
  obtain ⟨l0, rfl, hB0, hc0, hm0⟩ := w0.bs
  obtain ⟨l1, rfl, hB1, hc1, hm1⟩ := w1.bs
  obtain ⟨l3, rfl, hB3, hc3, hm3⟩ := w3.bs
  obtain ⟨m2, rfl, hm2⟩ := nat_u8 w2
  have HAl := Lib.hid (fun W => alive8_any W)
  have HBg := Lib.hid (begin_any l0 a0 l0.length c0 w hB0 rfl hm0 hc0)
  have HB1 := Lib.hid hB1
  have HB3 := Lib.hid hB3
  clear w0 w1 w2 w3 hB0 hB1 hB3
  by_cases h100 : 100 < l3.length
  · have q3 : decide ((100 : Int) < (l3.length : Int)) = true := by simp; omega
    clear HB1 HB3
    go_enter Try.func6, Try.ntmps6
    go_wp2_with fail
    refine HBg.out.mono ?_
    rintro e w1 ⟨B, ea, ec, E, rfl, -, hH⟩
    have HH := Lib.hid hH.disk.1
    clear hH HBg
    go_wp2_with fail
    refine (HAl.out _).mono ?_
    rintro e w2 ⟨rfl, hb2⟩
    have HB2 := Lib.hid (HH.out.trans (hb2.mono HH.out.size))
    clear hb2 HH HAl
    go_wp2
    go_ret
    exact ⟨rfl, HB2.out⟩
  · have q3 : decide ((100 : Int) < (l3.length : Int)) = false := by simp; omega
    have HPg := Lib.hid (fun c (hc : c < 256) W => Page_any c hc W)
    obtain ⟨g, hg⟩ : ∃ g : Nat → Nat, g = fun k => l1.getD k 0 := ⟨_, rfl⟩
    have HG : Hid (∀ k W, k < l1.length → Below w.heap.size w W → g k < 256 ∧ ∃ b o, a1 = some ⟨b, o, none⟩ ∧ W.cell? ⟨b, o + k, none⟩ = some (.int .u8 ((g k : Nat) : Int))) := fun k W hk hb => by
      have hBW := HB1.out.below hb
      obtain ⟨b, o, ha, -, hc⟩ := hBW.2.resolve_left (by intro h0; rw [h0] at hk; simp at hk)
      have hi : l1[k]? = some (g k) := by
        rw [hg]
        show l1[k]? = some (l1.getD k 0)
        rw [List.getD_eq_getElem?_getD, List.getElem?_eq_getElem hk]; rfl
      exact ⟨hBW.1 _ (List.mem_of_getElem? hi), b, o, ha, hc k _ hi⟩
    clear hg HB1
    go_enter Try.func6, Try.ntmps6
    go_wp2_with fail
    refine HBg.out.mono ?_
    rintro e w1 ⟨B, ea, ec, E, rfl, hEx, hH⟩
    generalize begC l0 = f at *
    have HEx := Lib.hid hEx
    have HH1 : Hid (Has w w1 B (oldK g (DS.begin f) 0).2 (.slice ea 6 ec) E) := by rw [oldK_zero]; exact hH
    clear hEx hH HBg
    go_wp2
    go_loopw [12] (fun i wr => ∃ k : Nat, k ≤ 3 ∧ i = .int .i64 (k : Int) ∧ Hid (Has w wr B (oldK g (DS.begin f) k).2 (.slice ea 6 ec) E)) (fun i _ => 3 - (intOf i).toNat)
    case atStart => exact ⟨0, by omega, rfl, HH1⟩
    case round =>
      clear HH1
      obtain ⟨k, hk, rfl, HH⟩ := hrel
      by_cases hlt : k < l1.length ∧ k < 3
      · obtain ⟨hk1, hk3⟩ := hlt
        obtain ⟨hg256, b, o, hab, hcell⟩ := HG.out k wr hk1 HH.out.disk.1
        subst hab
        have HPk := Lib.hid (HPg.out (g k) hg256)
        have HG256 := Lib.hid hg256
        go_wp2_with fail
        refine (HPk.out _).mono ?_
        rintro e w2 ⟨g2, rfl, hg2, b2, K2⟩
        have HH2 := Lib.hid (HH.out.below b2)
        obtain ⟨w3, hw3⟩ : ∃ w3, w2.alloc (.cells #[.int .i64 (k : Int), .slice (some ⟨g2, 0, none⟩) 512 512] 63) = w3 := ⟨_, rfl⟩
        have b3 : Below w2.heap.size w2 w3 := by rw [← hw3]; exact (Below.refl _ _).alloc (Nat.le_refl _) _
        have X3 : Blk w3 w2.heap.size 63 (cellsE (oldE g k (some ⟨g2, 0, none⟩))).toArray := by rw [← hw3]; exact Blk.new _ _ _
        have R3 : Arr w3.heap.size w3 (some ⟨w2.heap.size, 0, none⟩) (cellsE (oldE g k (some ⟨g2, 0, none⟩))) := by
          refine .inr ⟨w2.heap.size, 0, rfl, by rw [← hw3]; simp, fun i v hi => ?_⟩
          rw [X3.cell, Nat.zero_add]
          simpa using hi
        have HSv := Lib.hid ((HH2.out.below b3).old g k g2 w2.heap.size (by omega) R3 X3 (K2.keep b3) HG256.out ((oldI_all f g k hk).room.mono (by omega)))
        rw [oldSave_all f g k hk3] at HSv
        clear R3 X3 b3 K2 b2 hg2 HH2 HH hg256 hcell HPk
        go_wp2_with fail
        refine HSv.out.mono ?_
        rintro e w4 ⟨rfl, h4⟩
        have hr4 : ((oldK g (DS.begin f) k).2.save (oldE g k none) 6).2.room 10 := saveK_room f g k hk
        have HCl := Lib.hid (h4.clear hr4)
        rw [← oldK_succ f g k hk3, (oldI_all f g (k + 1) (by omega)).ok] at HCl
        clear h4 hr4 HSv hw3
        go_wp2_with fail
        refine HCl.out.mono ?_
        rintro e w5 ⟨rfl, h5⟩
        have HH5 := Lib.hid h5
        clear h5 HCl
        go_wp2
        go_roundw
        case rel => exact ⟨k + 1, by omega, by go_num, HH5⟩
        case measure => simp [intOf]; omega
      · obtain ⟨ff, hff, hbit⟩ := and_mask63 (m2 : Int)
        have hlen : E.length = 6 := by have := congrArg List.length HEx.out; rw [List.length_map, pagesE_len] at this; exact this
        have HLn := Lib.hid hlen
        have hHa := hot_all f g k hk ff E l3 HEx.out (fun x hx => by
          obtain ⟨_, h1, h2, h3, h4, h5, h6, h7, h8⟩ := HH.out.good x hx
          exact ⟨h5, h2, h6⟩)
        have HFl := Lib.hid (HH.out.fail (ff : Int) (by omega))
        have HBw := Lib.hid HH.out.disk.1
        generalize (oldK g (DS.begin f) k).2 = D at *
        obtain ⟨hroom, hcase, hpg⟩ := hHa
        generalize (D.fail (ff : Int)).2 = F at *
        have HRoom := Lib.hid hroom
        have HCase := Lib.hid hcase
        have HPgs := Lib.hid hpg
        clear HH HG HPg hlen hroom hcase hpg
        by_cases hk1 : k < l1.length
        · have hk3 : k = 3 := by omega
          subst hk3
          go_wp2_with fail
          refine HFl.out.mono ?_
          rintro e w5 ⟨rfl, h5⟩
          have HSv := Lib.hid (h5.save HLn.out HRoom.out)
          clear h5 HFl hbit hff
          go_wp2_with fail
          refine HSv.out.mono ?_
          rintro e w6 ⟨rfl, h6⟩
          have HCr := Lib.hid (h6.crash l3 a3 l3.length c3 w.heap.size (HB3.out.below h6.disk.1) h6.disk.1.size rfl (by omega))
          clear h6 HSv
          generalize (F.save E 6).2.crash l3 = X at *
          generalize (F.save E 6).1 = r1 at *
          go_wp2_with fail
          refine HCr.out.mono ?_
          rintro e w7 ⟨rfl, h7⟩
          have HH7 := Lib.hid h7
          have HLd : Hid (Calls Try.prog 20 #[.pointer (some ⟨B, 0, none⟩)] w7 (RetLd w7 X.load)) := by
            obtain ⟨hb1, S, hD, hS⟩ := h7.disk
            exact Load_any hD
          clear h7 HCr
          rcases HCase.out with ⟨hr, hl⟩ | hl
          · rw [hl] at HLd
            have qr : ((r1 : Int) == 0) = false := by simp; omega
            go_wp2_with fail
            refine HLd.out.mono ?_
            rintro e w8 ⟨hb8, ⟨n, hx, -⟩ | ⟨-, rfl⟩ | ⟨E', p', a', cap', hx, -⟩⟩
            · cases hx
            · have HH8 := Lib.hid (HH7.out.below hb8)
              clear hb8 HLd HH7 hl hr
              go_wp2_with fail
              refine (HAl.out _).mono ?_
              rintro e w9 ⟨rfl, hb9⟩
              have HH9 := Lib.hid (HH8.out.below hb9)
              clear hb9 HH8
              go_wp2_with fail
              refine (same_any HH9.out HEx.out HPgs.out).mono ?_
              rintro e w10 ⟨rfl, hb10⟩
              have HB10 := Lib.hid (HH9.out.disk.1.trans (hb10.mono HH9.out.disk.1.size))
              clear hb10 HH9
              go_wp2
              go_ret
              exact ⟨rfl, HB10.out⟩
            · cases hx
          · rw [hl] at HLd
            go_wp2_with fail
            refine HLd.out.mono ?_
            rintro e w8 ⟨hb8, ⟨n, hx, -⟩ | ⟨hx, -⟩ | ⟨E', p', a', cap', hx, hlE, rfl, hown, hgood⟩⟩
            · cases hx
            · cases hx
            · injection hx with hx; injection hx with hx; injection hx with hx1 hx2
              subst hx2
              have hl6 : E'.length = 6 := by have := congrArg List.length hx1; rw [List.length_map, pagesE_len] at this; exact this.symm
              have HH8 := Lib.hid (HH7.out.below hb8)
              have HC1 := Lib.hid (rowFacts HH8.out.row HH8.out.good HEx.out)
              rw [hl6] at hown ⊢
              have HC2 := Lib.hid (rowFacts hown hgood hx1.symm)
              clear hb8 HLd HH7 hl hown hgood hx1 hl6 hlE
              obtain ⟨b1, o1, ha1, hR1⟩ := HC1.out
              obtain ⟨b2, o2, ha2, hR2⟩ := HC2.out
              have HD1 := Lib.hid hR1
              have HD2 := Lib.hid hR2
              clear HC1 HC2 hR1 hR2
              subst ha1 ha2
              obtain ⟨bq, hq⟩ : ∃ bq, ((r1 : Int) == 0) = bq := ⟨_, rfl⟩
              cases bq with
              | true =>
                go_wp2
                go_loopw [18] (fun i wr => ∃ k : Nat, k ≤ 6 ∧ i = .int .i64 (k : Int) ∧ Hid (Below w8.heap.size w8 wr)) (fun i _ => 6 - (intOf i).toNat)
                case atStart => exact ⟨0, by omega, rfl, Below.refl _ _⟩
                case round =>
                  obtain ⟨k, hk, rfl, HBr⟩ := hrel
                  by_cases hlt : k < 6
                  · obtain ⟨-, y1, p2, p3⟩ := rowAt HBr.out HD1.out k hlt
                    obtain ⟨s1, y2, s2, s3⟩ := rowAt HBr.out HD2.out k hlt
                    go_wp2_with fail
                    go_quiet (fail)
                    go_wp2
                    go_roundw
                    case rel => exact ⟨k + 1, by omega, by go_num, HBr.out.trans ⟨rfl, rfl, rfl, Nat.le_refl _, fun _ _ => rfl⟩⟩
                    case measure => simp [intOf]; omega
                  · have HH9 := Lib.hid (HH8.out.below HBr.out)
                    clear HH8 HBr HD1 HD2
                    go_wp2_with fail
                    refine (HAl.out _).mono ?_
                    rintro e w9 ⟨rfl, hb9⟩
                    have HHa := Lib.hid (HH9.out.below hb9)
                    clear hb9 HH9
                    go_wp2_with fail
                    refine (same_any HHa.out HEx.out HPgs.out).mono ?_
                    rintro e w10 ⟨rfl, hb10⟩
                    have HB10 := Lib.hid (HHa.out.disk.1.trans (hb10.mono HHa.out.disk.1.size))
                    clear hb10 HHa
                    go_wp2
                    go_ret
                    exact ⟨rfl, HB10.out⟩
              | false =>
                go_wp2
                go_loopw [18] (fun i wr => ∃ k : Nat, k ≤ 6 ∧ i = .int .i64 (k : Int) ∧ Hid (Below w8.heap.size w8 wr)) (fun i _ => 6 - (intOf i).toNat)
                case atStart => exact ⟨0, by omega, rfl, Below.refl _ _⟩
                case round =>
                  obtain ⟨k, hk, rfl, HBr⟩ := hrel
                  by_cases hlt : k < 6
                  · obtain ⟨-, y1, p2, p3⟩ := rowAt HBr.out HD1.out k hlt
                    obtain ⟨s1, y2, s2, s3⟩ := rowAt HBr.out HD2.out k hlt
                    go_wp2_with fail
                    go_quiet (fail)
                    go_wp2
                    go_roundw
                    case rel => exact ⟨k + 1, by omega, by go_num, HBr.out.trans ⟨rfl, rfl, rfl, Nat.le_refl _, fun _ _ => rfl⟩⟩
                    case measure => simp [intOf]; omega
                  · have HH9 := Lib.hid (HH8.out.below HBr.out)
                    clear HH8 HBr HD1 HD2
                    go_wp2_with fail
                    refine (HAl.out _).mono ?_
                    rintro e w9 ⟨rfl, hb9⟩
                    have HHa := Lib.hid (HH9.out.below hb9)
                    clear hb9 HH9
                    go_wp2_with fail
                    refine (same_any HHa.out HEx.out HPgs.out).mono ?_
                    rintro e w10 ⟨rfl, hb10⟩
                    have HB10 := Lib.hid (HHa.out.disk.1.trans (hb10.mono HHa.out.disk.1.size))
                    clear hb10 HHa
                    go_wp2
                    go_ret
                    exact ⟨rfl, HB10.out⟩
        · have q1 : decide ((k : Int) < (l1.length : Int)) = false := by simp; omega
          go_wp2_with fail
          refine HFl.out.mono ?_
          rintro e w5 ⟨rfl, h5⟩
          have HSv := Lib.hid (h5.save HLn.out HRoom.out)
          clear h5 HFl hbit hff
          go_wp2_with fail
          refine HSv.out.mono ?_
          rintro e w6 ⟨rfl, h6⟩
          have HCr := Lib.hid (h6.crash l3 a3 l3.length c3 w.heap.size (HB3.out.below h6.disk.1) h6.disk.1.size rfl (by omega))
          clear h6 HSv
          generalize (F.save E 6).2.crash l3 = X at *
          generalize (F.save E 6).1 = r1 at *
          go_wp2_with fail
          refine HCr.out.mono ?_
          rintro e w7 ⟨rfl, h7⟩
          have HH7 := Lib.hid h7
          have HLd : Hid (Calls Try.prog 20 #[.pointer (some ⟨B, 0, none⟩)] w7 (RetLd w7 X.load)) := by
            obtain ⟨hb1, S, hD, hS⟩ := h7.disk
            exact Load_any hD
          clear h7 HCr
          rcases HCase.out with ⟨hr, hl⟩ | hl
          · rw [hl] at HLd
            have qr : ((r1 : Int) == 0) = false := by simp; omega
            go_wp2_with fail
            refine HLd.out.mono ?_
            rintro e w8 ⟨hb8, ⟨n, hx, -⟩ | ⟨-, rfl⟩ | ⟨E', p', a', cap', hx, -⟩⟩
            · cases hx
            · have HH8 := Lib.hid (HH7.out.below hb8)
              clear hb8 HLd HH7 hl hr
              go_wp2_with fail
              refine (HAl.out _).mono ?_
              rintro e w9 ⟨rfl, hb9⟩
              have HH9 := Lib.hid (HH8.out.below hb9)
              clear hb9 HH8
              go_wp2_with fail
              refine (same_any HH9.out HEx.out HPgs.out).mono ?_
              rintro e w10 ⟨rfl, hb10⟩
              have HB10 := Lib.hid (HH9.out.disk.1.trans (hb10.mono HH9.out.disk.1.size))
              clear hb10 HH9
              go_wp2
              go_ret
              exact ⟨rfl, HB10.out⟩
            · cases hx
          · rw [hl] at HLd
            go_wp2_with fail
            refine HLd.out.mono ?_
            rintro e w8 ⟨hb8, ⟨n, hx, -⟩ | ⟨hx, -⟩ | ⟨E', p', a', cap', hx, hlE, rfl, hown, hgood⟩⟩
            · cases hx
            · cases hx
            · injection hx with hx; injection hx with hx; injection hx with hx1 hx2
              subst hx2
              have hl6 : E'.length = 6 := by have := congrArg List.length hx1; rw [List.length_map, pagesE_len] at this; exact this.symm
              have HH8 := Lib.hid (HH7.out.below hb8)
              have HC1 := Lib.hid (rowFacts HH8.out.row HH8.out.good HEx.out)
              rw [hl6] at hown ⊢
              have HC2 := Lib.hid (rowFacts hown hgood hx1.symm)
              clear hb8 HLd HH7 hl hown hgood hx1 hl6 hlE
              obtain ⟨b1, o1, ha1, hR1⟩ := HC1.out
              obtain ⟨b2, o2, ha2, hR2⟩ := HC2.out
              have HD1 := Lib.hid hR1
              have HD2 := Lib.hid hR2
              clear HC1 HC2 hR1 hR2
              subst ha1 ha2
              obtain ⟨bq, hq⟩ : ∃ bq, ((r1 : Int) == 0) = bq := ⟨_, rfl⟩
              cases bq with
              | true =>
                go_wp2
                go_loopw [18] (fun i wr => ∃ k : Nat, k ≤ 6 ∧ i = .int .i64 (k : Int) ∧ Hid (Below w8.heap.size w8 wr)) (fun i _ => 6 - (intOf i).toNat)
                case atStart => exact ⟨0, by omega, rfl, Below.refl _ _⟩
                case round =>
                  obtain ⟨k, hk, rfl, HBr⟩ := hrel
                  by_cases hlt : k < 6
                  · obtain ⟨-, y1, p2, p3⟩ := rowAt HBr.out HD1.out k hlt
                    obtain ⟨s1, y2, s2, s3⟩ := rowAt HBr.out HD2.out k hlt
                    go_wp2_with fail
                    go_quiet (fail)
                    go_wp2
                    go_roundw
                    case rel => exact ⟨k + 1, by omega, by go_num, HBr.out.trans ⟨rfl, rfl, rfl, Nat.le_refl _, fun _ _ => rfl⟩⟩
                    case measure => simp [intOf]; omega
                  · have HH9 := Lib.hid (HH8.out.below HBr.out)
                    clear HH8 HBr HD1 HD2
                    go_wp2_with fail
                    refine (HAl.out _).mono ?_
                    rintro e w9 ⟨rfl, hb9⟩
                    have HHa := Lib.hid (HH9.out.below hb9)
                    clear hb9 HH9
                    go_wp2_with fail
                    refine (same_any HHa.out HEx.out HPgs.out).mono ?_
                    rintro e w10 ⟨rfl, hb10⟩
                    have HB10 := Lib.hid (HHa.out.disk.1.trans (hb10.mono HHa.out.disk.1.size))
                    clear hb10 HHa
                    go_wp2
                    go_ret
                    exact ⟨rfl, HB10.out⟩
              | false =>
                go_wp2
                go_loopw [18] (fun i wr => ∃ k : Nat, k ≤ 6 ∧ i = .int .i64 (k : Int) ∧ Hid (Below w8.heap.size w8 wr)) (fun i _ => 6 - (intOf i).toNat)
                case atStart => exact ⟨0, by omega, rfl, Below.refl _ _⟩
                case round =>
                  obtain ⟨k, hk, rfl, HBr⟩ := hrel
                  by_cases hlt : k < 6
                  · obtain ⟨-, y1, p2, p3⟩ := rowAt HBr.out HD1.out k hlt
                    obtain ⟨s1, y2, s2, s3⟩ := rowAt HBr.out HD2.out k hlt
                    go_wp2_with fail
                    go_quiet (fail)
                    go_wp2
                    go_roundw
                    case rel => exact ⟨k + 1, by omega, by go_num, HBr.out.trans ⟨rfl, rfl, rfl, Nat.le_refl _, fun _ _ => rfl⟩⟩
                    case measure => simp [intOf]; omega
                  · have HH9 := Lib.hid (HH8.out.below HBr.out)
                    clear HH8 HBr HD1 HD2
                    go_wp2_with fail
                    refine (HAl.out _).mono ?_
                    rintro e w9 ⟨rfl, hb9⟩
                    have HHa := Lib.hid (HH9.out.below hb9)
                    clear hb9 HH9
                    go_wp2_with fail
                    refine (same_any HHa.out HEx.out HPgs.out).mono ?_
                    rintro e w10 ⟨rfl, hb10⟩
                    have HB10 := Lib.hid (HHa.out.disk.1.trans (hb10.mono HHa.out.disk.1.size))
                    clear hb10 HHa
                    go_wp2
                    go_ret
                    exact ⟨rfl, HB10.out⟩
end Go.Proofs.Ythfgjkmfabmipaa
