/- The reference's disk: Write, its walk. -/
import Derived.Test.YtaggghfnbllbgaaDr5
namespace Go.Proofs.Ytaggghfnbllbgaa
set_option linter.unusedSimpArgs false
open Go.RowKit

theorem lenAt_all_le {w : World} {D : Nat} {x : RS} {lv : Value} {M : List MR} (h : RefAt w D x lv M) (f : Nat) : lenAt (allW x.L) f ≤ 65536 := by
  rw [allW_M h.list]
  refine lenAt_le _ _ (fun y hy => ?_)
  obtain ⟨m, hm, rfl⟩ := List.mem_map.1 hy
  exact (h.bytes m hm).2.2.1

set_option maxRecDepth 100000 in
set_option maxHeartbeats 16000000 in
theorem RWrite {w : World} {D : Nat} {x : RS} {lv : Value} {M : List MR} (h : RefAt w D x lv M) (f s : Int) (l : List Nat) (a : Option Addr) (n cap N : Nat) (hB : Bs N w a l) (hN : N ≤ w.heap.size) (hNS : ∀ W, Chg [D] w W → Bs W.heap.size W a l)
    (hn : n = l.length) (hnm : n ≤ 1000000000000) (hcs : x.calls < 1000000000) (hmw : M.length < 1000000) :
    Calls Try.prog 45 #[.pointer (some ⟨D, 0, none⟩), .int .i64 f, .int .i64 s, .slice a n cap] w (RetR w D lv M (x.write f s l)) := by
  obtain ⟨c0, c1, c2, c3, c4⟩ := h.cells
  have HSame := Lib.hid (fun (e : Ending) (n : Nat) (he : e = .returned (.int .i64 (n : Int))) => (show RetR w D lv M (n, x) e w from ⟨he, lv, M, h, Chg.refl _ _, fun k hk => .inl hk⟩))
  have HSame2 := Lib.hid (fun (e : Ending) (n : Nat) (he : e = .returned (.int .i64 (n : Int))) => (show RetR w D lv M (n, x) e w.drew from ⟨he, lv, M, h.below ((Below.refl _ _).drew), (Chg.refl _ _).drew, fun k hk => .inl hk⟩))
  by_cases hbad : (f ≠ 0 ∧ f ≠ 1) ∨ s < 0 ∨ 65535 < s ∨ l.length ≠ 128
  · have hr : x.write f s l = (1, x) := by unfold RS.write; rw [if_pos hbad]
    rw [hr]
    have hways : ((f != 0) = true ∧ (f != 1) = true) ∨ ((f = 0 ∨ f = 1) ∧ (decide (s < 0) = true ∨ (decide (s < 0) = false ∧ (decide ((65535 : Int) < s) = true ∨ (decide ((65535 : Int) < s) = false ∧ ((n : Int) != 128) = true))))) := by
      simp only [decide_eq_true_eq, decide_eq_false_iff_not, bne_iff_ne, ne_eq]
      omega
    clear hr hbad h hB hn c0 c1 c2 c3 c4 HSame2
    rcases hways with ⟨q1, q2⟩ | ⟨rfl | rfl, q2 | ⟨q2, q3 | ⟨q3, q4⟩⟩⟩
    all_goals
      go_enter Try.func45, Try.ntmps45
      go_wp2
      go_ret
      exact HSame.out _ 1 rfl
  · obtain ⟨s, rfl⟩ : ∃ t : Nat, s = (t : Int) := ⟨s.toNat, by omega⟩
    have hl : l.length = 128 := by omega
    have hs : s ≤ 65535 := by omega
    have hf : f = 0 ∨ f = 1 := by omega
    obtain rfl : n = 128 := by omega
    obtain ⟨b0, o0, rfl⟩ : ∃ b0 o0, a = some ⟨b0, o0, none⟩ := by
      rcases hB.2 with h0 | ⟨b, o, hab, _⟩
      · rw [h0] at hl; simp at hl
      · exact ⟨b, o, hab⟩
    have HOk : Hid (SecOk l) := ⟨hl, hB.1⟩
    have HLen := Lib.hid hl
    have HBS : Hid (∀ W, Chg [D] w.drew W → Bs W.heap.size W (some ⟨b0, o0, none⟩) l) := fun W hW => hNS W (Chg.undrew hW)
    have q1 : decide ((s : Int) < 0) = false := by rw [decide_eq_false_iff_not]; omega
    have q2 : decide ((65535 : Int) < (s : Int)) = false := by rw [decide_eq_false_iff_not]; omega
    clear hB hN hNS hn hnm hl
    rcases hf with rfl | rfl
    · have HL1 := Lib.hid (RLen (h.below ((Below.refl _ _).drew)) 0)
      have HL2 := Lib.hid (RLen (h.below ((Below.refl _ _).drew)) (1 - 0))
      cases hd : x.down with
      | true =>
        have hr : x.write (0 : Int) (s : Int) l = (51, x) := by unfold RS.write; rw [if_neg hbad, if_pos hd]
        rw [hr]
        rw [hd] at c4
        clear hr hbad h hd HL1 HL2
        go_enter Try.func45, Try.ntmps45
        go_wp2
        go_ret
        exact HSame.out _ 51 rfl
      | false =>
        rw [hd] at c4
        obtain ⟨l1, hl1⟩ : ∃ l1, lenAt (allW x.L) 0 = l1 := ⟨_, rfl⟩
        obtain ⟨l2, hl2⟩ : ∃ l2, lenAt (allW x.L) (1 - 0) = l2 := ⟨_, rfl⟩
        have b1 := lenAt_all_le h 0
        have b2 := lenAt_all_le h (1 - 0)
        rw [hl1] at HL1 b1
        rw [hl2] at HL2 b2
        by_cases hfull : (l1 : Int) ≤ (s : Int) ∧ x.quota < (s : Int) + 1 + (l2 : Int)
        · have hr : x.write (0 : Int) (s : Int) l = (50, x) := by
            unfold RS.write; rw [if_neg hbad, hd, if_neg (by simp), if_pos]
            rw [show ((0 : Int)).toNat = 0 from rfl, hl1, hl2]; exact hfull
          rw [hr]
          have q5 : decide ((l1 : Int) ≤ (s : Int)) = true := by rw [decide_eq_true_eq]; exact hfull.1
          have q5' : decide (l1 ≤ s) = true := by rw [decide_eq_true_eq]; omega
          have q6 : decide (x.quota < (s : Int) + 1 + (l2 : Int)) = true := by rw [decide_eq_true_eq]; exact hfull.2
          have hw1 : IntKind.i64.wrap ((s : Int) + 1) = (s : Int) + 1 := by simp [IntKind.wrap, IntKind.bits, IntKind.signed]; omega
          have hw2 : IntKind.i64.wrap ((s : Int) + 1 + (l2 : Int)) = (s : Int) + 1 + (l2 : Int) := by simp [IntKind.wrap, IntKind.bits, IntKind.signed]; omega
          have hw3 : IntKind.i64.wrap 1 = 1 := by decide
          have hw4 : IntKind.i64.wrap 0 = 0 := by decide
          have k0 : ∀ W, Later w.drew W → W.cell? ⟨D, 0, none⟩ = some (.int .i64 x.quota) := fun W hW => (hW.cell (p := ⟨D, 0, none⟩) (show D < w.drew.heap.size from h.blk.lt)).trans (h.blk.cell 0)
          clear hr hbad h hd hl1 hl2 hfull
          go_enter Try.func45, Try.ntmps45
          go_wp2_with fail
          refine wp_region_ord [(0, true), (1, true), (2, true), (3, false), (4, true), (5, true), (6, true), (7, true), (8, true), (9, true), (10, true), (13, true), (14, true), (15, true), (16, true), (11, false), (12, true), (17, true), (18, true)] (by kernel_rfl) (by kernel_rfl) (by kernel_rfl) (by kernel_rfl) ?_
          repeat (first | (refine wpO_F (v := ?_) rfl (by rfl) (fun w' hL => ?_) ?_; rotate_left; (solve | (go_simp; with_reducible rfl) | go_simp); try simp only [Act.put, List.setIfInBounds_toArray, List.set_cons_zero, List.set_cons_succ]) | (refine wpO_G rfl (by rfl) ?_; try simp only [Act.put, List.setIfInBounds_toArray, List.set_cons_zero, List.set_cons_succ]))
          refine wpO_C rfl (by rfl) ?_
          go_simp
          refine (HL1.out).mono ?_
          rintro e W ⟨rfl, hW⟩
          refine ⟨(by subst hW; exact Later.refl _), ?_⟩
          try simp only [Act.put, List.setIfInBounds_toArray, List.set_cons_zero, List.set_cons_succ]
          subst hW
          repeat (first | (refine wpO_F (v := ?_) rfl (by rfl) (fun w' hL => ?_) ?_; rotate_left; (solve | (go_simp; with_reducible rfl) | go_simp); try simp only [Act.put, List.setIfInBounds_toArray, List.set_cons_zero, List.set_cons_succ]) | (refine wpO_G rfl (by rfl) ?_; try simp only [Act.put, List.setIfInBounds_toArray, List.set_cons_zero, List.set_cons_succ]))
          refine wpO_C rfl (by rfl) ?_
          go_simp
          refine (HL2.out).mono ?_
          rintro e W ⟨rfl, hW⟩
          refine ⟨(by subst hW; exact Later.refl _), ?_⟩
          try simp only [Act.put, List.setIfInBounds_toArray, List.set_cons_zero, List.set_cons_succ]
          subst hW
          repeat (first | (refine wpO_F (v := ?_) rfl (by rfl) (fun w' hL => ?_) ?_; rotate_left; (solve | (go_simp; with_reducible rfl) | go_simp); try simp only [Act.put, List.setIfInBounds_toArray, List.set_cons_zero, List.set_cons_succ]) | (refine wpO_G rfl (by rfl) ?_; try simp only [Act.put, List.setIfInBounds_toArray, List.set_cons_zero, List.set_cons_succ]))
          refine wpO_nil ?_
          try simp only [NoPanic]
          go_wp2
          go_ret
          exact HSame2.out _ 50 rfl
        · have hfit : ∀ r x', x.change = (x', r) → x.write (0 : Int) (s : Int) l = if r then (0, { x' with L := x'.L ++ [⟨⟨0, s, l⟩, false⟩] }) else (51, x') := by
            intro r x' hch
            unfold RS.write; rw [if_neg hbad, hd, if_neg (by simp), if_neg, hch]
            · cases r <;> rfl
            · rw [show ((0 : Int)).toNat = 0 from rfl, hl1, hl2]; exact hfull
          rcases hch : x.change with ⟨x', go⟩
          have hr := hfit go x' hch
          rw [hr]
          have HC := Lib.hid (Rchange (h.below ((Below.refl _ _).drew)) hcs)
          rw [hch] at HC
          have hw1 : IntKind.i64.wrap ((s : Int) + 1) = (s : Int) + 1 := by simp [IntKind.wrap, IntKind.bits, IntKind.signed]; omega
          have hw2 : IntKind.i64.wrap ((s : Int) + 1 + (l2 : Int)) = (s : Int) + 1 + (l2 : Int) := by simp [IntKind.wrap, IntKind.bits, IntKind.signed]; omega
          have hw3 : IntKind.i64.wrap 1 = 1 := by decide
          have hw4 : IntKind.i64.wrap 0 = 0 := by decide
          have k0 : ∀ W, Later w.drew W → W.cell? ⟨D, 0, none⟩ = some (.int .i64 x.quota) := fun W hW => (hW.cell (p := ⟨D, 0, none⟩) (show D < w.drew.heap.size from h.blk.lt)).trans (h.blk.cell 0)
          have hways : decide ((l1 : Int) ≤ (s : Int)) = false ∧ decide (l1 ≤ s) = false ∨ (decide ((l1 : Int) ≤ (s : Int)) = true ∧ decide (l1 ≤ s) = true ∧ decide (x.quota < (s : Int) + 1 + (l2 : Int)) = false) := by
            simp only [decide_eq_true_eq, decide_eq_false_iff_not]
            omega
          clear hr hbad h hd hl1 hl2 hfull hfit hch
          cases go with
          | false =>
            rw [if_neg (by simp)]
            rcases hways with ⟨q5, q5'⟩ | ⟨q5, q5', q6⟩
            · as_aux_lemma =>
                go_enter Try.func45, Try.ntmps45
                go_wp2_with fail
                refine wp_region_ord [(0, true), (1, true), (2, true), (3, false), (4, true), (5, true), (6, true), (7, true), (8, true), (9, true), (10, true), (13, true), (14, true), (15, true), (16, true), (11, false), (12, true), (17, true), (18, true)] (by kernel_rfl) (by kernel_rfl) (by kernel_rfl) (by kernel_rfl) ?_
                repeat (first | (refine wpO_F (v := ?_) rfl (by rfl) (fun w' hL => ?_) ?_; rotate_left; (solve | (go_simp; with_reducible rfl) | go_simp); try simp only [Act.put, List.setIfInBounds_toArray, List.set_cons_zero, List.set_cons_succ]) | (refine wpO_G rfl (by rfl) ?_; try simp only [Act.put, List.setIfInBounds_toArray, List.set_cons_zero, List.set_cons_succ]))
                refine wpO_C rfl (by rfl) ?_
                go_simp
                refine (HL1.out).mono ?_
                rintro e W ⟨rfl, hW⟩
                refine ⟨(by subst hW; exact Later.refl _), ?_⟩
                try simp only [Act.put, List.setIfInBounds_toArray, List.set_cons_zero, List.set_cons_succ]
                subst hW
                repeat (first | (refine wpO_F (v := ?_) rfl (by rfl) (fun w' hL => ?_) ?_; rotate_left; (solve | (go_simp; with_reducible rfl) | go_simp); try simp only [Act.put, List.setIfInBounds_toArray, List.set_cons_zero, List.set_cons_succ]) | (refine wpO_G rfl (by rfl) ?_; try simp only [Act.put, List.setIfInBounds_toArray, List.set_cons_zero, List.set_cons_succ]))
                refine wpO_nil ?_
                try simp only [NoPanic]

                go_wp2_with fail
                refine HC.out.mono ?_
                rintro e w2 ⟨rfl, hR, hg⟩
                have HR := Lib.hid hR
                clear hR
                go_wp2
                go_ret
                exact ⟨rfl, lv, M, HR.out, (Chg.undrew hg).sub (fun k hk => List.mem_cons.2 (.inl (by simpa using hk))), fun k hk => .inl hk⟩
            · as_aux_lemma =>
                go_enter Try.func45, Try.ntmps45
                go_wp2_with fail
                refine wp_region_ord [(0, true), (1, true), (2, true), (3, false), (4, true), (5, true), (6, true), (7, true), (8, true), (9, true), (10, true), (13, true), (14, true), (15, true), (16, true), (11, false), (12, true), (17, true), (18, true)] (by kernel_rfl) (by kernel_rfl) (by kernel_rfl) (by kernel_rfl) ?_
                repeat (first | (refine wpO_F (v := ?_) rfl (by rfl) (fun w' hL => ?_) ?_; rotate_left; (solve | (go_simp; with_reducible rfl) | go_simp); try simp only [Act.put, List.setIfInBounds_toArray, List.set_cons_zero, List.set_cons_succ]) | (refine wpO_G rfl (by rfl) ?_; try simp only [Act.put, List.setIfInBounds_toArray, List.set_cons_zero, List.set_cons_succ]))
                refine wpO_C rfl (by rfl) ?_
                go_simp
                refine (HL1.out).mono ?_
                rintro e W ⟨rfl, hW⟩
                refine ⟨(by subst hW; exact Later.refl _), ?_⟩
                try simp only [Act.put, List.setIfInBounds_toArray, List.set_cons_zero, List.set_cons_succ]
                subst hW
                repeat (first | (refine wpO_F (v := ?_) rfl (by rfl) (fun w' hL => ?_) ?_; rotate_left; (solve | (go_simp; with_reducible rfl) | go_simp); try simp only [Act.put, List.setIfInBounds_toArray, List.set_cons_zero, List.set_cons_succ]) | (refine wpO_G rfl (by rfl) ?_; try simp only [Act.put, List.setIfInBounds_toArray, List.set_cons_zero, List.set_cons_succ]))
                refine wpO_C rfl (by rfl) ?_
                go_simp
                refine (HL2.out).mono ?_
                rintro e W ⟨rfl, hW⟩
                refine ⟨(by subst hW; exact Later.refl _), ?_⟩
                try simp only [Act.put, List.setIfInBounds_toArray, List.set_cons_zero, List.set_cons_succ]
                subst hW
                repeat (first | (refine wpO_F (v := ?_) rfl (by rfl) (fun w' hL => ?_) ?_; rotate_left; (solve | (go_simp; with_reducible rfl) | go_simp); try simp only [Act.put, List.setIfInBounds_toArray, List.set_cons_zero, List.set_cons_succ]) | (refine wpO_G rfl (by rfl) ?_; try simp only [Act.put, List.setIfInBounds_toArray, List.set_cons_zero, List.set_cons_succ]))
                refine wpO_nil ?_
                try simp only [NoPanic]

                go_wp2_with fail
                refine HC.out.mono ?_
                rintro e w2 ⟨rfl, hR, hg⟩
                have HR := Lib.hid hR
                clear hR
                go_wp2
                go_ret
                exact ⟨rfl, lv, M, HR.out, (Chg.undrew hg).sub (fun k hk => List.mem_cons.2 (.inl (by simpa using hk))), fun k hk => .inl hk⟩
          | true =>
            rw [if_pos rfl]
            rcases hways with ⟨q5, q5'⟩ | ⟨q5, q5', q6⟩
            · as_aux_lemma =>
                go_enter Try.func45, Try.ntmps45
                go_wp2_with fail
                refine wp_region_ord [(0, true), (1, true), (2, true), (3, false), (4, true), (5, true), (6, true), (7, true), (8, true), (9, true), (10, true), (13, true), (14, true), (15, true), (16, true), (11, false), (12, true), (17, true), (18, true)] (by kernel_rfl) (by kernel_rfl) (by kernel_rfl) (by kernel_rfl) ?_
                repeat (first | (refine wpO_F (v := ?_) rfl (by rfl) (fun w' hL => ?_) ?_; rotate_left; (solve | (go_simp; with_reducible rfl) | go_simp); try simp only [Act.put, List.setIfInBounds_toArray, List.set_cons_zero, List.set_cons_succ]) | (refine wpO_G rfl (by rfl) ?_; try simp only [Act.put, List.setIfInBounds_toArray, List.set_cons_zero, List.set_cons_succ]))
                refine wpO_C rfl (by rfl) ?_
                go_simp
                refine (HL1.out).mono ?_
                rintro e W ⟨rfl, hW⟩
                refine ⟨(by subst hW; exact Later.refl _), ?_⟩
                try simp only [Act.put, List.setIfInBounds_toArray, List.set_cons_zero, List.set_cons_succ]
                subst hW
                repeat (first | (refine wpO_F (v := ?_) rfl (by rfl) (fun w' hL => ?_) ?_; rotate_left; (solve | (go_simp; with_reducible rfl) | go_simp); try simp only [Act.put, List.setIfInBounds_toArray, List.set_cons_zero, List.set_cons_succ]) | (refine wpO_G rfl (by rfl) ?_; try simp only [Act.put, List.setIfInBounds_toArray, List.set_cons_zero, List.set_cons_succ]))
                refine wpO_nil ?_
                try simp only [NoPanic]

                go_wp2_with fail
                refine HC.out.mono ?_
                rintro e w2 ⟨rfl, hR, hg⟩
                have HR := Lib.hid hR
                have HG := Lib.hid hg
                have hbs2 : Bs w2.heap.size w2 (some ⟨b0, o0, none⟩) l := HBS.out w2 hg
                have HB2 := Lib.hid hbs2
                clear hR hg hbs2 HC
                go_wp2_with fail
                have hDlt := HR.out.blk.lt
                have hDl : D ∉ lv.ownBlock.toList := fun hm => own_ne HR.out.row HR.out.blk (by decide) (by simpa using hm)
                have k1 : ∀ W, Chg lv.ownBlock.toList w2.drew W → W.cell? ⟨D, 1, none⟩ = some lv := fun W h => (h.cell (b := D) hDlt hDl).trans (HR.out.blk.cell 1)
                obtain ⟨i0, hi0, ha0, ha1, ha2⟩ := info_parts info_by
                obtain ⟨i1, hi1, hb0, hb1, hb2⟩ := info_parts info_mr
                have HI0 := Lib.hid (And.intro hi0 (And.intro ha0 (And.intro ha1 ha2)))
                have HI1 := Lib.hid (And.intro hi1 (And.intro hb0 (And.intro hb1 hb2)))
                have hnews : Hid (∀ j u, (cellsB l)[j]? = some u → w2.drew.cell? ((⟨b0, o0, none⟩ : Addr).add j) = some u) := by
                  intro j u hj
                  unfold cellsB at hj
                  rw [List.getElem?_map] at hj
                  cases hc : l[j]? with
                  | none => rw [hc] at hj; cases hj
                  | some c =>
                    rw [hc] at hj
                    obtain rfl := Option.some.inj hj
                    rcases HB2.out.2 with h0 | ⟨b, o, hab, _, hcell⟩
                    · rw [h0] at hc; simp at hc
                    · injection hab with hab
                      injection hab with h1 h2 _
                      subst h1 h2
                      rw [Addr.add_mid]
                      exact hcell j c hc
                clear hi0 ha0 ha1 ha2 hi1 hb0 hb1 hb2
                refine wp_region_ordX (lv.ownBlock.toList) 15 [(0, true), (1, true), (2, true), (3, true), (4, true), (5, true), (6, true), (7, true), (8, true), (9, false), (10, true), (11, false), (12, false), (13, true), (14, true)] (by kernel_rfl) (by kernel_rfl) (by kernel_rfl) (by kernel_rfl) ?_
                repeat (first | (refine wpOX_F (v := ?_) rfl (by rfl) (fun w' hL => ?_) ?_; rotate_left; (solve | (go_simp; with_reducible rfl) | go_simp); try simp only [Act.put, List.setIfInBounds_toArray, List.set_cons_zero, List.set_cons_succ]) | (refine wpOX_G (Chg.refl _) rfl (by rfl) ?_; try simp only [Act.put, List.setIfInBounds_toArray, List.set_cons_zero, List.set_cons_succ]))
                refine wpOX_C rfl (by rfl) ?_
                refine wp_append_lies _ (.tmp 64) (.tmp 65) 30 rfl 0 5 i0 (.int .u8 0) 1 1 Try.underlying30 HI0.out.1 HI0.out.2.1 HI0.out.2.2.1 HI0.out.2.2.2 rfl (by omega) (.slice none 0 0) 0 [] rfl (World.ownsRow_nil _ _ _ _) ⟨b0, o0, none⟩ 128 cap (cellsB l) rfl (by rw [cellsB_len, HLen.out]) hnews.out (fun u hu => by unfold cellsB at hu; obtain ⟨c, _, rfl⟩ := List.mem_map.1 hu; rfl) (by omega) (by unfold maxLen; omega) (by omega) (Nat.zero_le _) _ rfl ?_
                intro g1 cap1 w5 hown1 hgr1 hlies1 hlt1
                have hg5 : Chg [] w2.drew w5 := Chg.ofGrown hgr1
                have hg1 : Hid (g1 = w2.heap.size) := by
                  rcases hlies1 with h0 | h0
                  · cases h0
                  · exact h0
                refine ⟨hg5.sub (by simp), ?_⟩
                try simp only [Act.put, List.setIfInBounds_toArray, List.set_cons_zero, List.set_cons_succ]
                have HOW : Hid (w5.ownsRow 0 5 1 (.slice (some ⟨g1, 0, none⟩) 128 cap1) 128 (cellsB l)) := hown1
                repeat (first | (refine wpOX_F (v := ?_) rfl (by rfl) (fun w' hL => ?_) ?_; rotate_left; (solve | (go_simp; with_reducible rfl) | go_simp); try simp only [Act.put, List.setIfInBounds_toArray, List.set_cons_zero, List.set_cons_succ]) | (refine wpOX_G (Chg.refl _) rfl (by rfl) ?_; try simp only [Act.put, List.setIfInBounds_toArray, List.set_cons_zero, List.set_cons_succ]))
                refine wpOX_C rfl (by rfl) ?_
                refine wp_val (exec_buildSlice1 (t := 36) (vx := .agg (MR.cells ⟨⟨⟨0, s, l⟩, false⟩, g1, cap1⟩).toArray) rfl rfl (bslice_mr ⟨⟨⟨0, s, l⟩, false⟩, g1, cap1⟩ _)) ?_
                refine ⟨(Chg.refl _ _).alloc _, ?_⟩
                try simp only [Act.put, List.setIfInBounds_toArray, List.set_cons_zero, List.set_cons_succ]
                obtain ⟨w7, hw7⟩ : ∃ W, w5.alloc (.cells (MR.cells ⟨⟨⟨0, s, l⟩, false⟩, g1, cap1⟩).toArray 92) = W := ⟨_, rfl⟩
                have hg7 : Chg [] w5 w7 := by rw [← hw7]; exact (Chg.refl _ _).alloc _
                have hnews2 : ∀ j u, (MR.cells ⟨⟨⟨0, s, l⟩, false⟩, g1, cap1⟩)[j]? = some u → w7.cell? ((⟨w5.heap.size, 0, none⟩ : Addr).add j) = some u := by
                  intro j u hj
                  rw [← hw7, Addr.add_mid, Nat.zero_add, World.cell?_alloc_new]
                  simpa using hj
                have hrow7 : w7.ownsRow 0 92 4 lv M.length (cellsM M) := own_chg HR.out.row ((((Chg.refl [] w2).drew).trans hg5).trans hg7) (by simp)
                rw [hw7]
                refine wpOX_C rfl (by rfl) ?_
                refine wp_append_lies _ (.tmp 61) (.tmp 68) 36 rfl 0 92 i1 (.agg zeroM) 4 48 Try.underlying36 HI1.out.1 HI1.out.2.1 HI1.out.2.2.1 HI1.out.2.2.2 rfl (by omega) lv M.length (cellsM M) rfl hrow7 ⟨w5.heap.size, 0, none⟩ 1 1 (MR.cells ⟨⟨⟨0, s, l⟩, false⟩, g1, cap1⟩) rfl rfl hnews2 (MR.cells_one _) (by omega) (by unfold maxLen; omega) (by omega) (Nat.zero_le _) _ rfl ?_
                intro g6 cap6 w6 hown6 hgr6 hlies6 hlt6
                have hg6 : Chg lv.ownBlock.toList w7 w6 := Chg.ofGrown hgr6
                refine ⟨hg6, ?_⟩
                try simp only [Act.put, List.setIfInBounds_toArray, List.set_cons_zero, List.set_cons_succ]
                have h27 : Chg [] w2 w7 := (((Chg.refl [] w2).drew).trans hg5).trans hg7
                have hblk6 := (HR.out.blk.chg h27 (by simp)).chg hg6 hDl
                have t1 := hblk6.cell 1
                have t2 := hblk6.frozen 1
                have t3 := hblk6.lt
                have hsz7 := h27.size
                have HAPP := Lib.hid (HR.out.app (m := ⟨⟨⟨0, s, l⟩, false⟩, g1, cap1⟩) ⟨show (0 : Nat) < 2 by omega, show s < 65536 by omega, HOk.out⟩ hmw h27 (by show _ ≤ g1; have := hg1.out; omega) (own_chg HOW.out hg7 (by simp)) hg6 hown6 (by
                  rcases hlies6 with h0 | h0
                  · exact .inl h0.symm
                  · exact .inr (fun g hg => by
                      have e : g6 = g := by simpa [Value.ownBlock] using hg
                      rw [← e, h0]; exact hsz7)))
                have HG2 := Lib.hid HG.out.size
                unfold rowR at t1
                simp only [List.getElem?_toArray, List.getElem?_cons_succ, List.getElem?_cons_zero] at t1
                clear k1 hnews HI0 HI1 hown1 hgr1 hlies1 hg5 HOW hw7 hg7 hnews2 hrow7 hown6 hgr6 hlies6 hg6 h27 hblk6 hsz7 hDlt hDl HB2
                repeat (first | (refine wpOX_F (v := ?_) rfl (by rfl) (fun w' hL => ?_) ?_; rotate_left; (solve | (go_simp; with_reducible rfl) | go_simp); try simp only [Act.put, List.setIfInBounds_toArray, List.set_cons_zero, List.set_cons_succ]) | (refine wpOX_G (Chg.refl _) rfl (by rfl) ?_; try simp only [Act.put, List.setIfInBounds_toArray, List.set_cons_zero, List.set_cons_succ]))
                refine wpOX_end rfl (by rfl) ?_
                go_simp
                try simp only [NoPanic, Act.put]
                go_wp2
                go_ret
                exact ⟨rfl, _, _, HAPP.out.1, ((Chg.undrew HG.out).sub (fun k hk => List.mem_cons.2 (.inl (by simpa using hk)))).trans HAPP.out.2.1, fun k hk => (HAPP.out.2.2 k hk).imp id (fun h => Nat.le_trans HG2.out h)⟩
            · as_aux_lemma =>
                go_enter Try.func45, Try.ntmps45
                go_wp2_with fail
                refine wp_region_ord [(0, true), (1, true), (2, true), (3, false), (4, true), (5, true), (6, true), (7, true), (8, true), (9, true), (10, true), (13, true), (14, true), (15, true), (16, true), (11, false), (12, true), (17, true), (18, true)] (by kernel_rfl) (by kernel_rfl) (by kernel_rfl) (by kernel_rfl) ?_
                repeat (first | (refine wpO_F (v := ?_) rfl (by rfl) (fun w' hL => ?_) ?_; rotate_left; (solve | (go_simp; with_reducible rfl) | go_simp); try simp only [Act.put, List.setIfInBounds_toArray, List.set_cons_zero, List.set_cons_succ]) | (refine wpO_G rfl (by rfl) ?_; try simp only [Act.put, List.setIfInBounds_toArray, List.set_cons_zero, List.set_cons_succ]))
                refine wpO_C rfl (by rfl) ?_
                go_simp
                refine (HL1.out).mono ?_
                rintro e W ⟨rfl, hW⟩
                refine ⟨(by subst hW; exact Later.refl _), ?_⟩
                try simp only [Act.put, List.setIfInBounds_toArray, List.set_cons_zero, List.set_cons_succ]
                subst hW
                repeat (first | (refine wpO_F (v := ?_) rfl (by rfl) (fun w' hL => ?_) ?_; rotate_left; (solve | (go_simp; with_reducible rfl) | go_simp); try simp only [Act.put, List.setIfInBounds_toArray, List.set_cons_zero, List.set_cons_succ]) | (refine wpO_G rfl (by rfl) ?_; try simp only [Act.put, List.setIfInBounds_toArray, List.set_cons_zero, List.set_cons_succ]))
                refine wpO_C rfl (by rfl) ?_
                go_simp
                refine (HL2.out).mono ?_
                rintro e W ⟨rfl, hW⟩
                refine ⟨(by subst hW; exact Later.refl _), ?_⟩
                try simp only [Act.put, List.setIfInBounds_toArray, List.set_cons_zero, List.set_cons_succ]
                subst hW
                repeat (first | (refine wpO_F (v := ?_) rfl (by rfl) (fun w' hL => ?_) ?_; rotate_left; (solve | (go_simp; with_reducible rfl) | go_simp); try simp only [Act.put, List.setIfInBounds_toArray, List.set_cons_zero, List.set_cons_succ]) | (refine wpO_G rfl (by rfl) ?_; try simp only [Act.put, List.setIfInBounds_toArray, List.set_cons_zero, List.set_cons_succ]))
                refine wpO_nil ?_
                try simp only [NoPanic]

                go_wp2_with fail
                refine HC.out.mono ?_
                rintro e w2 ⟨rfl, hR, hg⟩
                have HR := Lib.hid hR
                have HG := Lib.hid hg
                have hbs2 : Bs w2.heap.size w2 (some ⟨b0, o0, none⟩) l := HBS.out w2 hg
                have HB2 := Lib.hid hbs2
                clear hR hg hbs2 HC
                go_wp2_with fail
                have hDlt := HR.out.blk.lt
                have hDl : D ∉ lv.ownBlock.toList := fun hm => own_ne HR.out.row HR.out.blk (by decide) (by simpa using hm)
                have k1 : ∀ W, Chg lv.ownBlock.toList w2.drew W → W.cell? ⟨D, 1, none⟩ = some lv := fun W h => (h.cell (b := D) hDlt hDl).trans (HR.out.blk.cell 1)
                obtain ⟨i0, hi0, ha0, ha1, ha2⟩ := info_parts info_by
                obtain ⟨i1, hi1, hb0, hb1, hb2⟩ := info_parts info_mr
                have HI0 := Lib.hid (And.intro hi0 (And.intro ha0 (And.intro ha1 ha2)))
                have HI1 := Lib.hid (And.intro hi1 (And.intro hb0 (And.intro hb1 hb2)))
                have hnews : Hid (∀ j u, (cellsB l)[j]? = some u → w2.drew.cell? ((⟨b0, o0, none⟩ : Addr).add j) = some u) := by
                  intro j u hj
                  unfold cellsB at hj
                  rw [List.getElem?_map] at hj
                  cases hc : l[j]? with
                  | none => rw [hc] at hj; cases hj
                  | some c =>
                    rw [hc] at hj
                    obtain rfl := Option.some.inj hj
                    rcases HB2.out.2 with h0 | ⟨b, o, hab, _, hcell⟩
                    · rw [h0] at hc; simp at hc
                    · injection hab with hab
                      injection hab with h1 h2 _
                      subst h1 h2
                      rw [Addr.add_mid]
                      exact hcell j c hc
                clear hi0 ha0 ha1 ha2 hi1 hb0 hb1 hb2
                refine wp_region_ordX (lv.ownBlock.toList) 15 [(0, true), (1, true), (2, true), (3, true), (4, true), (5, true), (6, true), (7, true), (8, true), (9, false), (10, true), (11, false), (12, false), (13, true), (14, true)] (by kernel_rfl) (by kernel_rfl) (by kernel_rfl) (by kernel_rfl) ?_
                repeat (first | (refine wpOX_F (v := ?_) rfl (by rfl) (fun w' hL => ?_) ?_; rotate_left; (solve | (go_simp; with_reducible rfl) | go_simp); try simp only [Act.put, List.setIfInBounds_toArray, List.set_cons_zero, List.set_cons_succ]) | (refine wpOX_G (Chg.refl _) rfl (by rfl) ?_; try simp only [Act.put, List.setIfInBounds_toArray, List.set_cons_zero, List.set_cons_succ]))
                refine wpOX_C rfl (by rfl) ?_
                refine wp_append_lies _ (.tmp 64) (.tmp 65) 30 rfl 0 5 i0 (.int .u8 0) 1 1 Try.underlying30 HI0.out.1 HI0.out.2.1 HI0.out.2.2.1 HI0.out.2.2.2 rfl (by omega) (.slice none 0 0) 0 [] rfl (World.ownsRow_nil _ _ _ _) ⟨b0, o0, none⟩ 128 cap (cellsB l) rfl (by rw [cellsB_len, HLen.out]) hnews.out (fun u hu => by unfold cellsB at hu; obtain ⟨c, _, rfl⟩ := List.mem_map.1 hu; rfl) (by omega) (by unfold maxLen; omega) (by omega) (Nat.zero_le _) _ rfl ?_
                intro g1 cap1 w5 hown1 hgr1 hlies1 hlt1
                have hg5 : Chg [] w2.drew w5 := Chg.ofGrown hgr1
                have hg1 : Hid (g1 = w2.heap.size) := by
                  rcases hlies1 with h0 | h0
                  · cases h0
                  · exact h0
                refine ⟨hg5.sub (by simp), ?_⟩
                try simp only [Act.put, List.setIfInBounds_toArray, List.set_cons_zero, List.set_cons_succ]
                have HOW : Hid (w5.ownsRow 0 5 1 (.slice (some ⟨g1, 0, none⟩) 128 cap1) 128 (cellsB l)) := hown1
                repeat (first | (refine wpOX_F (v := ?_) rfl (by rfl) (fun w' hL => ?_) ?_; rotate_left; (solve | (go_simp; with_reducible rfl) | go_simp); try simp only [Act.put, List.setIfInBounds_toArray, List.set_cons_zero, List.set_cons_succ]) | (refine wpOX_G (Chg.refl _) rfl (by rfl) ?_; try simp only [Act.put, List.setIfInBounds_toArray, List.set_cons_zero, List.set_cons_succ]))
                refine wpOX_C rfl (by rfl) ?_
                refine wp_val (exec_buildSlice1 (t := 36) (vx := .agg (MR.cells ⟨⟨⟨0, s, l⟩, false⟩, g1, cap1⟩).toArray) rfl rfl (bslice_mr ⟨⟨⟨0, s, l⟩, false⟩, g1, cap1⟩ _)) ?_
                refine ⟨(Chg.refl _ _).alloc _, ?_⟩
                try simp only [Act.put, List.setIfInBounds_toArray, List.set_cons_zero, List.set_cons_succ]
                obtain ⟨w7, hw7⟩ : ∃ W, w5.alloc (.cells (MR.cells ⟨⟨⟨0, s, l⟩, false⟩, g1, cap1⟩).toArray 92) = W := ⟨_, rfl⟩
                have hg7 : Chg [] w5 w7 := by rw [← hw7]; exact (Chg.refl _ _).alloc _
                have hnews2 : ∀ j u, (MR.cells ⟨⟨⟨0, s, l⟩, false⟩, g1, cap1⟩)[j]? = some u → w7.cell? ((⟨w5.heap.size, 0, none⟩ : Addr).add j) = some u := by
                  intro j u hj
                  rw [← hw7, Addr.add_mid, Nat.zero_add, World.cell?_alloc_new]
                  simpa using hj
                have hrow7 : w7.ownsRow 0 92 4 lv M.length (cellsM M) := own_chg HR.out.row ((((Chg.refl [] w2).drew).trans hg5).trans hg7) (by simp)
                rw [hw7]
                refine wpOX_C rfl (by rfl) ?_
                refine wp_append_lies _ (.tmp 61) (.tmp 68) 36 rfl 0 92 i1 (.agg zeroM) 4 48 Try.underlying36 HI1.out.1 HI1.out.2.1 HI1.out.2.2.1 HI1.out.2.2.2 rfl (by omega) lv M.length (cellsM M) rfl hrow7 ⟨w5.heap.size, 0, none⟩ 1 1 (MR.cells ⟨⟨⟨0, s, l⟩, false⟩, g1, cap1⟩) rfl rfl hnews2 (MR.cells_one _) (by omega) (by unfold maxLen; omega) (by omega) (Nat.zero_le _) _ rfl ?_
                intro g6 cap6 w6 hown6 hgr6 hlies6 hlt6
                have hg6 : Chg lv.ownBlock.toList w7 w6 := Chg.ofGrown hgr6
                refine ⟨hg6, ?_⟩
                try simp only [Act.put, List.setIfInBounds_toArray, List.set_cons_zero, List.set_cons_succ]
                have h27 : Chg [] w2 w7 := (((Chg.refl [] w2).drew).trans hg5).trans hg7
                have hblk6 := (HR.out.blk.chg h27 (by simp)).chg hg6 hDl
                have t1 := hblk6.cell 1
                have t2 := hblk6.frozen 1
                have t3 := hblk6.lt
                have hsz7 := h27.size
                have HAPP := Lib.hid (HR.out.app (m := ⟨⟨⟨0, s, l⟩, false⟩, g1, cap1⟩) ⟨show (0 : Nat) < 2 by omega, show s < 65536 by omega, HOk.out⟩ hmw h27 (by show _ ≤ g1; have := hg1.out; omega) (own_chg HOW.out hg7 (by simp)) hg6 hown6 (by
                  rcases hlies6 with h0 | h0
                  · exact .inl h0.symm
                  · exact .inr (fun g hg => by
                      have e : g6 = g := by simpa [Value.ownBlock] using hg
                      rw [← e, h0]; exact hsz7)))
                have HG2 := Lib.hid HG.out.size
                unfold rowR at t1
                simp only [List.getElem?_toArray, List.getElem?_cons_succ, List.getElem?_cons_zero] at t1
                clear k1 hnews HI0 HI1 hown1 hgr1 hlies1 hg5 HOW hw7 hg7 hnews2 hrow7 hown6 hgr6 hlies6 hg6 h27 hblk6 hsz7 hDlt hDl HB2
                repeat (first | (refine wpOX_F (v := ?_) rfl (by rfl) (fun w' hL => ?_) ?_; rotate_left; (solve | (go_simp; with_reducible rfl) | go_simp); try simp only [Act.put, List.setIfInBounds_toArray, List.set_cons_zero, List.set_cons_succ]) | (refine wpOX_G (Chg.refl _) rfl (by rfl) ?_; try simp only [Act.put, List.setIfInBounds_toArray, List.set_cons_zero, List.set_cons_succ]))
                refine wpOX_end rfl (by rfl) ?_
                go_simp
                try simp only [NoPanic, Act.put]
                go_wp2
                go_ret
                exact ⟨rfl, _, _, HAPP.out.1, ((Chg.undrew HG.out).sub (fun k hk => List.mem_cons.2 (.inl (by simpa using hk)))).trans HAPP.out.2.1, fun k hk => (HAPP.out.2.2 k hk).imp id (fun h => Nat.le_trans HG2.out h)⟩
    · have HL1 := Lib.hid (RLen (h.below ((Below.refl _ _).drew)) 1)
      have HL2 := Lib.hid (RLen (h.below ((Below.refl _ _).drew)) (1 - 1))
      cases hd : x.down with
      | true =>
        have hr : x.write (1 : Int) (s : Int) l = (51, x) := by unfold RS.write; rw [if_neg hbad, if_pos hd]
        rw [hr]
        rw [hd] at c4
        clear hr hbad h hd HL1 HL2
        go_enter Try.func45, Try.ntmps45
        go_wp2
        go_ret
        exact HSame.out _ 51 rfl
      | false =>
        rw [hd] at c4
        obtain ⟨l1, hl1⟩ : ∃ l1, lenAt (allW x.L) 1 = l1 := ⟨_, rfl⟩
        obtain ⟨l2, hl2⟩ : ∃ l2, lenAt (allW x.L) (1 - 1) = l2 := ⟨_, rfl⟩
        have b1 := lenAt_all_le h 1
        have b2 := lenAt_all_le h (1 - 1)
        rw [hl1] at HL1 b1
        rw [hl2] at HL2 b2
        by_cases hfull : (l1 : Int) ≤ (s : Int) ∧ x.quota < (s : Int) + 1 + (l2 : Int)
        · have hr : x.write (1 : Int) (s : Int) l = (50, x) := by
            unfold RS.write; rw [if_neg hbad, hd, if_neg (by simp), if_pos]
            rw [show ((1 : Int)).toNat = 1 from rfl, hl1, hl2]; exact hfull
          rw [hr]
          have q5 : decide ((l1 : Int) ≤ (s : Int)) = true := by rw [decide_eq_true_eq]; exact hfull.1
          have q5' : decide (l1 ≤ s) = true := by rw [decide_eq_true_eq]; omega
          have q6 : decide (x.quota < (s : Int) + 1 + (l2 : Int)) = true := by rw [decide_eq_true_eq]; exact hfull.2
          have hw1 : IntKind.i64.wrap ((s : Int) + 1) = (s : Int) + 1 := by simp [IntKind.wrap, IntKind.bits, IntKind.signed]; omega
          have hw2 : IntKind.i64.wrap ((s : Int) + 1 + (l2 : Int)) = (s : Int) + 1 + (l2 : Int) := by simp [IntKind.wrap, IntKind.bits, IntKind.signed]; omega
          have hw3 : IntKind.i64.wrap 1 = 1 := by decide
          have hw4 : IntKind.i64.wrap 0 = 0 := by decide
          have k0 : ∀ W, Later w.drew W → W.cell? ⟨D, 0, none⟩ = some (.int .i64 x.quota) := fun W hW => (hW.cell (p := ⟨D, 0, none⟩) (show D < w.drew.heap.size from h.blk.lt)).trans (h.blk.cell 0)
          clear hr hbad h hd hl1 hl2 hfull
          go_enter Try.func45, Try.ntmps45
          go_wp2_with fail
          refine wp_region_ord [(0, true), (1, true), (2, true), (3, false), (4, true), (5, true), (6, true), (7, true), (8, true), (9, true), (10, true), (13, true), (14, true), (15, true), (16, true), (11, false), (12, true), (17, true), (18, true)] (by kernel_rfl) (by kernel_rfl) (by kernel_rfl) (by kernel_rfl) ?_
          repeat (first | (refine wpO_F (v := ?_) rfl (by rfl) (fun w' hL => ?_) ?_; rotate_left; (solve | (go_simp; with_reducible rfl) | go_simp); try simp only [Act.put, List.setIfInBounds_toArray, List.set_cons_zero, List.set_cons_succ]) | (refine wpO_G rfl (by rfl) ?_; try simp only [Act.put, List.setIfInBounds_toArray, List.set_cons_zero, List.set_cons_succ]))
          refine wpO_C rfl (by rfl) ?_
          go_simp
          refine (HL1.out).mono ?_
          rintro e W ⟨rfl, hW⟩
          refine ⟨(by subst hW; exact Later.refl _), ?_⟩
          try simp only [Act.put, List.setIfInBounds_toArray, List.set_cons_zero, List.set_cons_succ]
          subst hW
          repeat (first | (refine wpO_F (v := ?_) rfl (by rfl) (fun w' hL => ?_) ?_; rotate_left; (solve | (go_simp; with_reducible rfl) | go_simp); try simp only [Act.put, List.setIfInBounds_toArray, List.set_cons_zero, List.set_cons_succ]) | (refine wpO_G rfl (by rfl) ?_; try simp only [Act.put, List.setIfInBounds_toArray, List.set_cons_zero, List.set_cons_succ]))
          refine wpO_C rfl (by rfl) ?_
          go_simp
          refine (HL2.out).mono ?_
          rintro e W ⟨rfl, hW⟩
          refine ⟨(by subst hW; exact Later.refl _), ?_⟩
          try simp only [Act.put, List.setIfInBounds_toArray, List.set_cons_zero, List.set_cons_succ]
          subst hW
          repeat (first | (refine wpO_F (v := ?_) rfl (by rfl) (fun w' hL => ?_) ?_; rotate_left; (solve | (go_simp; with_reducible rfl) | go_simp); try simp only [Act.put, List.setIfInBounds_toArray, List.set_cons_zero, List.set_cons_succ]) | (refine wpO_G rfl (by rfl) ?_; try simp only [Act.put, List.setIfInBounds_toArray, List.set_cons_zero, List.set_cons_succ]))
          refine wpO_nil ?_
          try simp only [NoPanic]
          go_wp2
          go_ret
          exact HSame2.out _ 50 rfl
        · have hfit : ∀ r x', x.change = (x', r) → x.write (1 : Int) (s : Int) l = if r then (0, { x' with L := x'.L ++ [⟨⟨1, s, l⟩, false⟩] }) else (51, x') := by
            intro r x' hch
            unfold RS.write; rw [if_neg hbad, hd, if_neg (by simp), if_neg, hch]
            · cases r <;> rfl
            · rw [show ((1 : Int)).toNat = 1 from rfl, hl1, hl2]; exact hfull
          rcases hch : x.change with ⟨x', go⟩
          have hr := hfit go x' hch
          rw [hr]
          have HC := Lib.hid (Rchange (h.below ((Below.refl _ _).drew)) hcs)
          rw [hch] at HC
          have hw1 : IntKind.i64.wrap ((s : Int) + 1) = (s : Int) + 1 := by simp [IntKind.wrap, IntKind.bits, IntKind.signed]; omega
          have hw2 : IntKind.i64.wrap ((s : Int) + 1 + (l2 : Int)) = (s : Int) + 1 + (l2 : Int) := by simp [IntKind.wrap, IntKind.bits, IntKind.signed]; omega
          have hw3 : IntKind.i64.wrap 1 = 1 := by decide
          have hw4 : IntKind.i64.wrap 0 = 0 := by decide
          have k0 : ∀ W, Later w.drew W → W.cell? ⟨D, 0, none⟩ = some (.int .i64 x.quota) := fun W hW => (hW.cell (p := ⟨D, 0, none⟩) (show D < w.drew.heap.size from h.blk.lt)).trans (h.blk.cell 0)
          have hways : decide ((l1 : Int) ≤ (s : Int)) = false ∧ decide (l1 ≤ s) = false ∨ (decide ((l1 : Int) ≤ (s : Int)) = true ∧ decide (l1 ≤ s) = true ∧ decide (x.quota < (s : Int) + 1 + (l2 : Int)) = false) := by
            simp only [decide_eq_true_eq, decide_eq_false_iff_not]
            omega
          clear hr hbad h hd hl1 hl2 hfull hfit hch
          cases go with
          | false =>
            rw [if_neg (by simp)]
            rcases hways with ⟨q5, q5'⟩ | ⟨q5, q5', q6⟩
            · as_aux_lemma =>
                go_enter Try.func45, Try.ntmps45
                go_wp2_with fail
                refine wp_region_ord [(0, true), (1, true), (2, true), (3, false), (4, true), (5, true), (6, true), (7, true), (8, true), (9, true), (10, true), (13, true), (14, true), (15, true), (16, true), (11, false), (12, true), (17, true), (18, true)] (by kernel_rfl) (by kernel_rfl) (by kernel_rfl) (by kernel_rfl) ?_
                repeat (first | (refine wpO_F (v := ?_) rfl (by rfl) (fun w' hL => ?_) ?_; rotate_left; (solve | (go_simp; with_reducible rfl) | go_simp); try simp only [Act.put, List.setIfInBounds_toArray, List.set_cons_zero, List.set_cons_succ]) | (refine wpO_G rfl (by rfl) ?_; try simp only [Act.put, List.setIfInBounds_toArray, List.set_cons_zero, List.set_cons_succ]))
                refine wpO_C rfl (by rfl) ?_
                go_simp
                refine (HL1.out).mono ?_
                rintro e W ⟨rfl, hW⟩
                refine ⟨(by subst hW; exact Later.refl _), ?_⟩
                try simp only [Act.put, List.setIfInBounds_toArray, List.set_cons_zero, List.set_cons_succ]
                subst hW
                repeat (first | (refine wpO_F (v := ?_) rfl (by rfl) (fun w' hL => ?_) ?_; rotate_left; (solve | (go_simp; with_reducible rfl) | go_simp); try simp only [Act.put, List.setIfInBounds_toArray, List.set_cons_zero, List.set_cons_succ]) | (refine wpO_G rfl (by rfl) ?_; try simp only [Act.put, List.setIfInBounds_toArray, List.set_cons_zero, List.set_cons_succ]))
                refine wpO_nil ?_
                try simp only [NoPanic]

                go_wp2_with fail
                refine HC.out.mono ?_
                rintro e w2 ⟨rfl, hR, hg⟩
                have HR := Lib.hid hR
                clear hR
                go_wp2
                go_ret
                exact ⟨rfl, lv, M, HR.out, (Chg.undrew hg).sub (fun k hk => List.mem_cons.2 (.inl (by simpa using hk))), fun k hk => .inl hk⟩
            · as_aux_lemma =>
                go_enter Try.func45, Try.ntmps45
                go_wp2_with fail
                refine wp_region_ord [(0, true), (1, true), (2, true), (3, false), (4, true), (5, true), (6, true), (7, true), (8, true), (9, true), (10, true), (13, true), (14, true), (15, true), (16, true), (11, false), (12, true), (17, true), (18, true)] (by kernel_rfl) (by kernel_rfl) (by kernel_rfl) (by kernel_rfl) ?_
                repeat (first | (refine wpO_F (v := ?_) rfl (by rfl) (fun w' hL => ?_) ?_; rotate_left; (solve | (go_simp; with_reducible rfl) | go_simp); try simp only [Act.put, List.setIfInBounds_toArray, List.set_cons_zero, List.set_cons_succ]) | (refine wpO_G rfl (by rfl) ?_; try simp only [Act.put, List.setIfInBounds_toArray, List.set_cons_zero, List.set_cons_succ]))
                refine wpO_C rfl (by rfl) ?_
                go_simp
                refine (HL1.out).mono ?_
                rintro e W ⟨rfl, hW⟩
                refine ⟨(by subst hW; exact Later.refl _), ?_⟩
                try simp only [Act.put, List.setIfInBounds_toArray, List.set_cons_zero, List.set_cons_succ]
                subst hW
                repeat (first | (refine wpO_F (v := ?_) rfl (by rfl) (fun w' hL => ?_) ?_; rotate_left; (solve | (go_simp; with_reducible rfl) | go_simp); try simp only [Act.put, List.setIfInBounds_toArray, List.set_cons_zero, List.set_cons_succ]) | (refine wpO_G rfl (by rfl) ?_; try simp only [Act.put, List.setIfInBounds_toArray, List.set_cons_zero, List.set_cons_succ]))
                refine wpO_C rfl (by rfl) ?_
                go_simp
                refine (HL2.out).mono ?_
                rintro e W ⟨rfl, hW⟩
                refine ⟨(by subst hW; exact Later.refl _), ?_⟩
                try simp only [Act.put, List.setIfInBounds_toArray, List.set_cons_zero, List.set_cons_succ]
                subst hW
                repeat (first | (refine wpO_F (v := ?_) rfl (by rfl) (fun w' hL => ?_) ?_; rotate_left; (solve | (go_simp; with_reducible rfl) | go_simp); try simp only [Act.put, List.setIfInBounds_toArray, List.set_cons_zero, List.set_cons_succ]) | (refine wpO_G rfl (by rfl) ?_; try simp only [Act.put, List.setIfInBounds_toArray, List.set_cons_zero, List.set_cons_succ]))
                refine wpO_nil ?_
                try simp only [NoPanic]

                go_wp2_with fail
                refine HC.out.mono ?_
                rintro e w2 ⟨rfl, hR, hg⟩
                have HR := Lib.hid hR
                clear hR
                go_wp2
                go_ret
                exact ⟨rfl, lv, M, HR.out, (Chg.undrew hg).sub (fun k hk => List.mem_cons.2 (.inl (by simpa using hk))), fun k hk => .inl hk⟩
          | true =>
            rw [if_pos rfl]
            rcases hways with ⟨q5, q5'⟩ | ⟨q5, q5', q6⟩
            · as_aux_lemma =>
                go_enter Try.func45, Try.ntmps45
                go_wp2_with fail
                refine wp_region_ord [(0, true), (1, true), (2, true), (3, false), (4, true), (5, true), (6, true), (7, true), (8, true), (9, true), (10, true), (13, true), (14, true), (15, true), (16, true), (11, false), (12, true), (17, true), (18, true)] (by kernel_rfl) (by kernel_rfl) (by kernel_rfl) (by kernel_rfl) ?_
                repeat (first | (refine wpO_F (v := ?_) rfl (by rfl) (fun w' hL => ?_) ?_; rotate_left; (solve | (go_simp; with_reducible rfl) | go_simp); try simp only [Act.put, List.setIfInBounds_toArray, List.set_cons_zero, List.set_cons_succ]) | (refine wpO_G rfl (by rfl) ?_; try simp only [Act.put, List.setIfInBounds_toArray, List.set_cons_zero, List.set_cons_succ]))
                refine wpO_C rfl (by rfl) ?_
                go_simp
                refine (HL1.out).mono ?_
                rintro e W ⟨rfl, hW⟩
                refine ⟨(by subst hW; exact Later.refl _), ?_⟩
                try simp only [Act.put, List.setIfInBounds_toArray, List.set_cons_zero, List.set_cons_succ]
                subst hW
                repeat (first | (refine wpO_F (v := ?_) rfl (by rfl) (fun w' hL => ?_) ?_; rotate_left; (solve | (go_simp; with_reducible rfl) | go_simp); try simp only [Act.put, List.setIfInBounds_toArray, List.set_cons_zero, List.set_cons_succ]) | (refine wpO_G rfl (by rfl) ?_; try simp only [Act.put, List.setIfInBounds_toArray, List.set_cons_zero, List.set_cons_succ]))
                refine wpO_nil ?_
                try simp only [NoPanic]

                go_wp2_with fail
                refine HC.out.mono ?_
                rintro e w2 ⟨rfl, hR, hg⟩
                have HR := Lib.hid hR
                have HG := Lib.hid hg
                have hbs2 : Bs w2.heap.size w2 (some ⟨b0, o0, none⟩) l := HBS.out w2 hg
                have HB2 := Lib.hid hbs2
                clear hR hg hbs2 HC
                go_wp2_with fail
                have hDlt := HR.out.blk.lt
                have hDl : D ∉ lv.ownBlock.toList := fun hm => own_ne HR.out.row HR.out.blk (by decide) (by simpa using hm)
                have k1 : ∀ W, Chg lv.ownBlock.toList w2.drew W → W.cell? ⟨D, 1, none⟩ = some lv := fun W h => (h.cell (b := D) hDlt hDl).trans (HR.out.blk.cell 1)
                obtain ⟨i0, hi0, ha0, ha1, ha2⟩ := info_parts info_by
                obtain ⟨i1, hi1, hb0, hb1, hb2⟩ := info_parts info_mr
                have HI0 := Lib.hid (And.intro hi0 (And.intro ha0 (And.intro ha1 ha2)))
                have HI1 := Lib.hid (And.intro hi1 (And.intro hb0 (And.intro hb1 hb2)))
                have hnews : Hid (∀ j u, (cellsB l)[j]? = some u → w2.drew.cell? ((⟨b0, o0, none⟩ : Addr).add j) = some u) := by
                  intro j u hj
                  unfold cellsB at hj
                  rw [List.getElem?_map] at hj
                  cases hc : l[j]? with
                  | none => rw [hc] at hj; cases hj
                  | some c =>
                    rw [hc] at hj
                    obtain rfl := Option.some.inj hj
                    rcases HB2.out.2 with h0 | ⟨b, o, hab, _, hcell⟩
                    · rw [h0] at hc; simp at hc
                    · injection hab with hab
                      injection hab with h1 h2 _
                      subst h1 h2
                      rw [Addr.add_mid]
                      exact hcell j c hc
                clear hi0 ha0 ha1 ha2 hi1 hb0 hb1 hb2
                refine wp_region_ordX (lv.ownBlock.toList) 15 [(0, true), (1, true), (2, true), (3, true), (4, true), (5, true), (6, true), (7, true), (8, true), (9, false), (10, true), (11, false), (12, false), (13, true), (14, true)] (by kernel_rfl) (by kernel_rfl) (by kernel_rfl) (by kernel_rfl) ?_
                repeat (first | (refine wpOX_F (v := ?_) rfl (by rfl) (fun w' hL => ?_) ?_; rotate_left; (solve | (go_simp; with_reducible rfl) | go_simp); try simp only [Act.put, List.setIfInBounds_toArray, List.set_cons_zero, List.set_cons_succ]) | (refine wpOX_G (Chg.refl _) rfl (by rfl) ?_; try simp only [Act.put, List.setIfInBounds_toArray, List.set_cons_zero, List.set_cons_succ]))
                refine wpOX_C rfl (by rfl) ?_
                refine wp_append_lies _ (.tmp 64) (.tmp 65) 30 rfl 0 5 i0 (.int .u8 0) 1 1 Try.underlying30 HI0.out.1 HI0.out.2.1 HI0.out.2.2.1 HI0.out.2.2.2 rfl (by omega) (.slice none 0 0) 0 [] rfl (World.ownsRow_nil _ _ _ _) ⟨b0, o0, none⟩ 128 cap (cellsB l) rfl (by rw [cellsB_len, HLen.out]) hnews.out (fun u hu => by unfold cellsB at hu; obtain ⟨c, _, rfl⟩ := List.mem_map.1 hu; rfl) (by omega) (by unfold maxLen; omega) (by omega) (Nat.zero_le _) _ rfl ?_
                intro g1 cap1 w5 hown1 hgr1 hlies1 hlt1
                have hg5 : Chg [] w2.drew w5 := Chg.ofGrown hgr1
                have hg1 : Hid (g1 = w2.heap.size) := by
                  rcases hlies1 with h0 | h0
                  · cases h0
                  · exact h0
                refine ⟨hg5.sub (by simp), ?_⟩
                try simp only [Act.put, List.setIfInBounds_toArray, List.set_cons_zero, List.set_cons_succ]
                have HOW : Hid (w5.ownsRow 0 5 1 (.slice (some ⟨g1, 0, none⟩) 128 cap1) 128 (cellsB l)) := hown1
                repeat (first | (refine wpOX_F (v := ?_) rfl (by rfl) (fun w' hL => ?_) ?_; rotate_left; (solve | (go_simp; with_reducible rfl) | go_simp); try simp only [Act.put, List.setIfInBounds_toArray, List.set_cons_zero, List.set_cons_succ]) | (refine wpOX_G (Chg.refl _) rfl (by rfl) ?_; try simp only [Act.put, List.setIfInBounds_toArray, List.set_cons_zero, List.set_cons_succ]))
                refine wpOX_C rfl (by rfl) ?_
                refine wp_val (exec_buildSlice1 (t := 36) (vx := .agg (MR.cells ⟨⟨⟨1, s, l⟩, false⟩, g1, cap1⟩).toArray) rfl rfl (bslice_mr ⟨⟨⟨1, s, l⟩, false⟩, g1, cap1⟩ _)) ?_
                refine ⟨(Chg.refl _ _).alloc _, ?_⟩
                try simp only [Act.put, List.setIfInBounds_toArray, List.set_cons_zero, List.set_cons_succ]
                obtain ⟨w7, hw7⟩ : ∃ W, w5.alloc (.cells (MR.cells ⟨⟨⟨1, s, l⟩, false⟩, g1, cap1⟩).toArray 92) = W := ⟨_, rfl⟩
                have hg7 : Chg [] w5 w7 := by rw [← hw7]; exact (Chg.refl _ _).alloc _
                have hnews2 : ∀ j u, (MR.cells ⟨⟨⟨1, s, l⟩, false⟩, g1, cap1⟩)[j]? = some u → w7.cell? ((⟨w5.heap.size, 0, none⟩ : Addr).add j) = some u := by
                  intro j u hj
                  rw [← hw7, Addr.add_mid, Nat.zero_add, World.cell?_alloc_new]
                  simpa using hj
                have hrow7 : w7.ownsRow 0 92 4 lv M.length (cellsM M) := own_chg HR.out.row ((((Chg.refl [] w2).drew).trans hg5).trans hg7) (by simp)
                rw [hw7]
                refine wpOX_C rfl (by rfl) ?_
                refine wp_append_lies _ (.tmp 61) (.tmp 68) 36 rfl 0 92 i1 (.agg zeroM) 4 48 Try.underlying36 HI1.out.1 HI1.out.2.1 HI1.out.2.2.1 HI1.out.2.2.2 rfl (by omega) lv M.length (cellsM M) rfl hrow7 ⟨w5.heap.size, 0, none⟩ 1 1 (MR.cells ⟨⟨⟨1, s, l⟩, false⟩, g1, cap1⟩) rfl rfl hnews2 (MR.cells_one _) (by omega) (by unfold maxLen; omega) (by omega) (Nat.zero_le _) _ rfl ?_
                intro g6 cap6 w6 hown6 hgr6 hlies6 hlt6
                have hg6 : Chg lv.ownBlock.toList w7 w6 := Chg.ofGrown hgr6
                refine ⟨hg6, ?_⟩
                try simp only [Act.put, List.setIfInBounds_toArray, List.set_cons_zero, List.set_cons_succ]
                have h27 : Chg [] w2 w7 := (((Chg.refl [] w2).drew).trans hg5).trans hg7
                have hblk6 := (HR.out.blk.chg h27 (by simp)).chg hg6 hDl
                have t1 := hblk6.cell 1
                have t2 := hblk6.frozen 1
                have t3 := hblk6.lt
                have hsz7 := h27.size
                have HAPP := Lib.hid (HR.out.app (m := ⟨⟨⟨1, s, l⟩, false⟩, g1, cap1⟩) ⟨show (1 : Nat) < 2 by omega, show s < 65536 by omega, HOk.out⟩ hmw h27 (by show _ ≤ g1; have := hg1.out; omega) (own_chg HOW.out hg7 (by simp)) hg6 hown6 (by
                  rcases hlies6 with h0 | h0
                  · exact .inl h0.symm
                  · exact .inr (fun g hg => by
                      have e : g6 = g := by simpa [Value.ownBlock] using hg
                      rw [← e, h0]; exact hsz7)))
                have HG2 := Lib.hid HG.out.size
                unfold rowR at t1
                simp only [List.getElem?_toArray, List.getElem?_cons_succ, List.getElem?_cons_zero] at t1
                clear k1 hnews HI0 HI1 hown1 hgr1 hlies1 hg5 HOW hw7 hg7 hnews2 hrow7 hown6 hgr6 hlies6 hg6 h27 hblk6 hsz7 hDlt hDl HB2
                repeat (first | (refine wpOX_F (v := ?_) rfl (by rfl) (fun w' hL => ?_) ?_; rotate_left; (solve | (go_simp; with_reducible rfl) | go_simp); try simp only [Act.put, List.setIfInBounds_toArray, List.set_cons_zero, List.set_cons_succ]) | (refine wpOX_G (Chg.refl _) rfl (by rfl) ?_; try simp only [Act.put, List.setIfInBounds_toArray, List.set_cons_zero, List.set_cons_succ]))
                refine wpOX_end rfl (by rfl) ?_
                go_simp
                try simp only [NoPanic, Act.put]
                go_wp2
                go_ret
                exact ⟨rfl, _, _, HAPP.out.1, ((Chg.undrew HG.out).sub (fun k hk => List.mem_cons.2 (.inl (by simpa using hk)))).trans HAPP.out.2.1, fun k hk => (HAPP.out.2.2 k hk).imp id (fun h => Nat.le_trans HG2.out h)⟩
            · as_aux_lemma =>
                go_enter Try.func45, Try.ntmps45
                go_wp2_with fail
                refine wp_region_ord [(0, true), (1, true), (2, true), (3, false), (4, true), (5, true), (6, true), (7, true), (8, true), (9, true), (10, true), (13, true), (14, true), (15, true), (16, true), (11, false), (12, true), (17, true), (18, true)] (by kernel_rfl) (by kernel_rfl) (by kernel_rfl) (by kernel_rfl) ?_
                repeat (first | (refine wpO_F (v := ?_) rfl (by rfl) (fun w' hL => ?_) ?_; rotate_left; (solve | (go_simp; with_reducible rfl) | go_simp); try simp only [Act.put, List.setIfInBounds_toArray, List.set_cons_zero, List.set_cons_succ]) | (refine wpO_G rfl (by rfl) ?_; try simp only [Act.put, List.setIfInBounds_toArray, List.set_cons_zero, List.set_cons_succ]))
                refine wpO_C rfl (by rfl) ?_
                go_simp
                refine (HL1.out).mono ?_
                rintro e W ⟨rfl, hW⟩
                refine ⟨(by subst hW; exact Later.refl _), ?_⟩
                try simp only [Act.put, List.setIfInBounds_toArray, List.set_cons_zero, List.set_cons_succ]
                subst hW
                repeat (first | (refine wpO_F (v := ?_) rfl (by rfl) (fun w' hL => ?_) ?_; rotate_left; (solve | (go_simp; with_reducible rfl) | go_simp); try simp only [Act.put, List.setIfInBounds_toArray, List.set_cons_zero, List.set_cons_succ]) | (refine wpO_G rfl (by rfl) ?_; try simp only [Act.put, List.setIfInBounds_toArray, List.set_cons_zero, List.set_cons_succ]))
                refine wpO_C rfl (by rfl) ?_
                go_simp
                refine (HL2.out).mono ?_
                rintro e W ⟨rfl, hW⟩
                refine ⟨(by subst hW; exact Later.refl _), ?_⟩
                try simp only [Act.put, List.setIfInBounds_toArray, List.set_cons_zero, List.set_cons_succ]
                subst hW
                repeat (first | (refine wpO_F (v := ?_) rfl (by rfl) (fun w' hL => ?_) ?_; rotate_left; (solve | (go_simp; with_reducible rfl) | go_simp); try simp only [Act.put, List.setIfInBounds_toArray, List.set_cons_zero, List.set_cons_succ]) | (refine wpO_G rfl (by rfl) ?_; try simp only [Act.put, List.setIfInBounds_toArray, List.set_cons_zero, List.set_cons_succ]))
                refine wpO_nil ?_
                try simp only [NoPanic]

                go_wp2_with fail
                refine HC.out.mono ?_
                rintro e w2 ⟨rfl, hR, hg⟩
                have HR := Lib.hid hR
                have HG := Lib.hid hg
                have hbs2 : Bs w2.heap.size w2 (some ⟨b0, o0, none⟩) l := HBS.out w2 hg
                have HB2 := Lib.hid hbs2
                clear hR hg hbs2 HC
                go_wp2_with fail
                have hDlt := HR.out.blk.lt
                have hDl : D ∉ lv.ownBlock.toList := fun hm => own_ne HR.out.row HR.out.blk (by decide) (by simpa using hm)
                have k1 : ∀ W, Chg lv.ownBlock.toList w2.drew W → W.cell? ⟨D, 1, none⟩ = some lv := fun W h => (h.cell (b := D) hDlt hDl).trans (HR.out.blk.cell 1)
                obtain ⟨i0, hi0, ha0, ha1, ha2⟩ := info_parts info_by
                obtain ⟨i1, hi1, hb0, hb1, hb2⟩ := info_parts info_mr
                have HI0 := Lib.hid (And.intro hi0 (And.intro ha0 (And.intro ha1 ha2)))
                have HI1 := Lib.hid (And.intro hi1 (And.intro hb0 (And.intro hb1 hb2)))
                have hnews : Hid (∀ j u, (cellsB l)[j]? = some u → w2.drew.cell? ((⟨b0, o0, none⟩ : Addr).add j) = some u) := by
                  intro j u hj
                  unfold cellsB at hj
                  rw [List.getElem?_map] at hj
                  cases hc : l[j]? with
                  | none => rw [hc] at hj; cases hj
                  | some c =>
                    rw [hc] at hj
                    obtain rfl := Option.some.inj hj
                    rcases HB2.out.2 with h0 | ⟨b, o, hab, _, hcell⟩
                    · rw [h0] at hc; simp at hc
                    · injection hab with hab
                      injection hab with h1 h2 _
                      subst h1 h2
                      rw [Addr.add_mid]
                      exact hcell j c hc
                clear hi0 ha0 ha1 ha2 hi1 hb0 hb1 hb2
                refine wp_region_ordX (lv.ownBlock.toList) 15 [(0, true), (1, true), (2, true), (3, true), (4, true), (5, true), (6, true), (7, true), (8, true), (9, false), (10, true), (11, false), (12, false), (13, true), (14, true)] (by kernel_rfl) (by kernel_rfl) (by kernel_rfl) (by kernel_rfl) ?_
                repeat (first | (refine wpOX_F (v := ?_) rfl (by rfl) (fun w' hL => ?_) ?_; rotate_left; (solve | (go_simp; with_reducible rfl) | go_simp); try simp only [Act.put, List.setIfInBounds_toArray, List.set_cons_zero, List.set_cons_succ]) | (refine wpOX_G (Chg.refl _) rfl (by rfl) ?_; try simp only [Act.put, List.setIfInBounds_toArray, List.set_cons_zero, List.set_cons_succ]))
                refine wpOX_C rfl (by rfl) ?_
                refine wp_append_lies _ (.tmp 64) (.tmp 65) 30 rfl 0 5 i0 (.int .u8 0) 1 1 Try.underlying30 HI0.out.1 HI0.out.2.1 HI0.out.2.2.1 HI0.out.2.2.2 rfl (by omega) (.slice none 0 0) 0 [] rfl (World.ownsRow_nil _ _ _ _) ⟨b0, o0, none⟩ 128 cap (cellsB l) rfl (by rw [cellsB_len, HLen.out]) hnews.out (fun u hu => by unfold cellsB at hu; obtain ⟨c, _, rfl⟩ := List.mem_map.1 hu; rfl) (by omega) (by unfold maxLen; omega) (by omega) (Nat.zero_le _) _ rfl ?_
                intro g1 cap1 w5 hown1 hgr1 hlies1 hlt1
                have hg5 : Chg [] w2.drew w5 := Chg.ofGrown hgr1
                have hg1 : Hid (g1 = w2.heap.size) := by
                  rcases hlies1 with h0 | h0
                  · cases h0
                  · exact h0
                refine ⟨hg5.sub (by simp), ?_⟩
                try simp only [Act.put, List.setIfInBounds_toArray, List.set_cons_zero, List.set_cons_succ]
                have HOW : Hid (w5.ownsRow 0 5 1 (.slice (some ⟨g1, 0, none⟩) 128 cap1) 128 (cellsB l)) := hown1
                repeat (first | (refine wpOX_F (v := ?_) rfl (by rfl) (fun w' hL => ?_) ?_; rotate_left; (solve | (go_simp; with_reducible rfl) | go_simp); try simp only [Act.put, List.setIfInBounds_toArray, List.set_cons_zero, List.set_cons_succ]) | (refine wpOX_G (Chg.refl _) rfl (by rfl) ?_; try simp only [Act.put, List.setIfInBounds_toArray, List.set_cons_zero, List.set_cons_succ]))
                refine wpOX_C rfl (by rfl) ?_
                refine wp_val (exec_buildSlice1 (t := 36) (vx := .agg (MR.cells ⟨⟨⟨1, s, l⟩, false⟩, g1, cap1⟩).toArray) rfl rfl (bslice_mr ⟨⟨⟨1, s, l⟩, false⟩, g1, cap1⟩ _)) ?_
                refine ⟨(Chg.refl _ _).alloc _, ?_⟩
                try simp only [Act.put, List.setIfInBounds_toArray, List.set_cons_zero, List.set_cons_succ]
                obtain ⟨w7, hw7⟩ : ∃ W, w5.alloc (.cells (MR.cells ⟨⟨⟨1, s, l⟩, false⟩, g1, cap1⟩).toArray 92) = W := ⟨_, rfl⟩
                have hg7 : Chg [] w5 w7 := by rw [← hw7]; exact (Chg.refl _ _).alloc _
                have hnews2 : ∀ j u, (MR.cells ⟨⟨⟨1, s, l⟩, false⟩, g1, cap1⟩)[j]? = some u → w7.cell? ((⟨w5.heap.size, 0, none⟩ : Addr).add j) = some u := by
                  intro j u hj
                  rw [← hw7, Addr.add_mid, Nat.zero_add, World.cell?_alloc_new]
                  simpa using hj
                have hrow7 : w7.ownsRow 0 92 4 lv M.length (cellsM M) := own_chg HR.out.row ((((Chg.refl [] w2).drew).trans hg5).trans hg7) (by simp)
                rw [hw7]
                refine wpOX_C rfl (by rfl) ?_
                refine wp_append_lies _ (.tmp 61) (.tmp 68) 36 rfl 0 92 i1 (.agg zeroM) 4 48 Try.underlying36 HI1.out.1 HI1.out.2.1 HI1.out.2.2.1 HI1.out.2.2.2 rfl (by omega) lv M.length (cellsM M) rfl hrow7 ⟨w5.heap.size, 0, none⟩ 1 1 (MR.cells ⟨⟨⟨1, s, l⟩, false⟩, g1, cap1⟩) rfl rfl hnews2 (MR.cells_one _) (by omega) (by unfold maxLen; omega) (by omega) (Nat.zero_le _) _ rfl ?_
                intro g6 cap6 w6 hown6 hgr6 hlies6 hlt6
                have hg6 : Chg lv.ownBlock.toList w7 w6 := Chg.ofGrown hgr6
                refine ⟨hg6, ?_⟩
                try simp only [Act.put, List.setIfInBounds_toArray, List.set_cons_zero, List.set_cons_succ]
                have h27 : Chg [] w2 w7 := (((Chg.refl [] w2).drew).trans hg5).trans hg7
                have hblk6 := (HR.out.blk.chg h27 (by simp)).chg hg6 hDl
                have t1 := hblk6.cell 1
                have t2 := hblk6.frozen 1
                have t3 := hblk6.lt
                have hsz7 := h27.size
                have HAPP := Lib.hid (HR.out.app (m := ⟨⟨⟨1, s, l⟩, false⟩, g1, cap1⟩) ⟨show (1 : Nat) < 2 by omega, show s < 65536 by omega, HOk.out⟩ hmw h27 (by show _ ≤ g1; have := hg1.out; omega) (own_chg HOW.out hg7 (by simp)) hg6 hown6 (by
                  rcases hlies6 with h0 | h0
                  · exact .inl h0.symm
                  · exact .inr (fun g hg => by
                      have e : g6 = g := by simpa [Value.ownBlock] using hg
                      rw [← e, h0]; exact hsz7)))
                have HG2 := Lib.hid HG.out.size
                unfold rowR at t1
                simp only [List.getElem?_toArray, List.getElem?_cons_succ, List.getElem?_cons_zero] at t1
                clear k1 hnews HI0 HI1 hown1 hgr1 hlies1 hg5 HOW hw7 hg7 hnews2 hrow7 hown6 hgr6 hlies6 hg6 h27 hblk6 hsz7 hDlt hDl HB2
                repeat (first | (refine wpOX_F (v := ?_) rfl (by rfl) (fun w' hL => ?_) ?_; rotate_left; (solve | (go_simp; with_reducible rfl) | go_simp); try simp only [Act.put, List.setIfInBounds_toArray, List.set_cons_zero, List.set_cons_succ]) | (refine wpOX_G (Chg.refl _) rfl (by rfl) ?_; try simp only [Act.put, List.setIfInBounds_toArray, List.set_cons_zero, List.set_cons_succ]))
                refine wpOX_end rfl (by rfl) ?_
                go_simp
                try simp only [NoPanic, Act.put]
                go_wp2
                go_ret
                exact ⟨rfl, _, _, HAPP.out.1, ((Chg.undrew HG.out).sub (fun k hk => List.mem_cons.2 (.inl (by simpa using hk)))).trans HAPP.out.2.1, fun k hk => (HAPP.out.2.2 k hk).imp id (fun h => Nat.le_trans HG2.out h)⟩
end Go.Proofs.Ytaggghfnbllbgaa
