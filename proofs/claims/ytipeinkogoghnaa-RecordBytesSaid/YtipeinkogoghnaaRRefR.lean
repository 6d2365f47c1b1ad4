/- The walk of the reference's Read of rows. -/
import Derived.Test.YtipeinkogoghnaaROne
import Derived.Test.YtipeinkogoghnaaCTotM
namespace Go.Proofs.Ytipeinkogoghnaa
open Go.RowKit

theorem strN_ne {a b : List Nat} (h : a.length ≠ b.length) : ((strN a).toList == (strN b).toList) = false := by
  rw [Bool.eq_false_iff]
  intro hh
  have := congrArg ByteArray.size (toList_inj (eq_of_beq hh))
  rw [strN_size, strN_size] at this
  exact h this

set_option maxHeartbeats 4000000 in
theorem rRead_any (l : List Nat) (a : Option Addr) (len cap : Nat) (w : World) (hB : Bs w.heap.size w a l) (hlen : len = l.length) (hcap : len ≤ cap) (hmax : len ≤ 1000000) :
    Calls Try.prog 26 #[.slice a len cap] w (RetVE w (readV l)) := by
  have HB := Lib.hid hB
  have HL := Lib.hid hlen
  by_cases hlong : 8192 < len
  · have HR : Hid (readV l = ([], 2)) := readV_long (by omega)
    clear hB hlen
    go_enter Try.func26, Try.ntmps26
    go_wp2
    go_ret2
    rw [HR.out]
    exact ⟨none, 0, rfl, by simp, .inl rfl, Below.refl _ _⟩
  · have ql : decide ((8192 : Int) < (len : Int)) = false := by simp; omega
    rcases first_byte l hB.1 with ⟨hnil, he⟩ | ⟨c, r, hcr, h16, hg⟩ | ⟨c, r, hcr, h16, he⟩
    · have HRd : Hid (readV l = ([], 3)) := readV_head (by omega) (.inl he)
      have h0 : len ≤ 0 := by rw [hlen, hnil]; simp
      have q0 : ((len : Int) == 0) = true := by simp; omega
      clear hB hlen hnil he
      go_enter Try.func26, Try.ntmps26
      go_wp2
      go_ret2
      rw [HRd.out]
      exact ⟨none, 0, rfl, by simp, .inl rfl, Below.refl _ _⟩
    · have hpos : 0 < len := by rw [hlen, hcr]; simp
      have q0 : ((len : Int) == 0) = false := by simp; omega
      have q16 : decide ((16 : Int) < (c : Int)) = false := by simp; omega
      obtain ⟨h256, hcell⟩ := hB
      rcases hcell with hnil | ⟨b, o, rfl, hN, hcell⟩
      · rw [hnil] at hcr; simp at hcr
      · have c0 := hcell 0 c (by rw [hcr]; rfl)
        simp only [Nat.add_zero] at c0
        have HC0 := Lib.hid c0
        have HGo := Lib.hid (readV_go (p := 1) (show ¬ 8192 < l.length by omega) hg (by omega))
        have HCR := Lib.hid hcr
        obtain ⟨i0, hi, hz0, hz1, hz2⟩ := info_parts Try.info23
        clear hcell h256 hlen hcr hg
        go_enter Try.func26, Try.ntmps26
        go_wp2
        clear c0
        go_loopw [4, 5, 6] (fun v t j wr => ∃ (i qq : Nat) (acc : List Vl), i ≤ c ∧ j = .int .i64 i ∧ qq ≤ len ∧ t = .int .i64 qq ∧ OwnV wr w.heap.size 23 v acc ∧ Hid (readN l 1 i = some (acc, qq) ∧ acc.length = i) ∧ Below w.heap.size w wr) (fun _ _ j _ => c - (intOf j).toNat)
        case atStart => exact ⟨0, 1, [], by omega, rfl, by omega, rfl, OwnV.nil _ _ _, ⟨rfl, rfl⟩, Below.refl _ _⟩
        case round =>
          obtain ⟨i, qq, acc, hi2, rfl, hqq, rfl, hown, HN, hb⟩ := hrel
          have hsz := hb.size
          have c0 := (hb.cell (p := ⟨b, o, none⟩) hN).trans HC0.out
          by_cases hlt : i < c
          · have HD := Lib.hid (fun W (hW : Below w.heap.size w W) => one_any l (some ⟨b, o, none⟩) len cap qq W ((HB.out.below hW).mono hW.size) HL.out hcap hmax (by omega))
            have hal : acc.length = i := HN.out.2
            go_wp2_with fail
            refine (HD.out _ hb).mono ?_
            rintro e w1 ⟨hb1, ⟨hnone, k, n, s, m, rfl⟩ | ⟨x, n, hsome, rfl⟩⟩
            · have HRd : Hid (readV l = ([], 3)) := by
                rw [HGo.out, readN_none (readN_fail HN.out.1 hnone) c (by omega)]; rfl
              clear HD hnone
              go_wp2
              go_ret2
              rw [HRd.out]
              exact ⟨none, 0, rfl, by simp, .inl rfl, (hb.trans (hb1.mono hsz)).alloc (by have := hb1.size; omega) _⟩
            · have HN2 : Hid (readN l 1 (i + 1) = some (acc ++ [x], n) ∧ (acc ++ [x]).length = i + 1) := ⟨readN_step HN.out.1 hsome, by rw [List.length_append, hal]; rfl⟩
              have hnl : n ≤ len := by
                have := enc_decV l HB.out.1 (by have := HL.out; omega) qq x n hsome
                have := HL.out; omega
              have hbw := hb.trans (hb1.mono hsz)
              have hszw := hbw.size
              have hown1 := (hown.below (Nat.le_refl _) hb1).below (Nat.le_refl _) (Below.box w1 (.cells #[.int .u8 x.k, .int .i64 x.n, .string x.s] 23))
              have hbw2 := hbw.alloc hszw (.cells #[.int .u8 x.k, .int .i64 x.n, .string x.s] 23)
              have hal2 : acc.length < 1000000000000 := by omega
              clear HD hsome hown c0
              go_wp2_with (at_builtin; refine wpList_appV1 rfl _ _ 32 rfl w.heap.size 23 i0 _ 32 Try.underlying32 hi hz0 rfl hz1 hz2 (by omega) _ acc _ hown1 rfl _ _ _ x rfl rfl rfl (by simp; rfl) hal2 (by simp; omega) ?_; intro v3 w3 hown3 hb3 hsz3)
              go_roundw
              case rel => exact ⟨i + 1, n, acc ++ [x], by omega, by go_num, hnl, rfl, hown3, HN2, hbw2.trans hb3⟩
              case measure => simp [intOf]; omega
          · have hic : i = c := by omega
            subst hic
            have HRd : Hid (readV l = if qq ≠ l.length then ([], 3) else (acc, 0)) := by
              rw [HGo.out, HN.out.1]; rfl
            obtain ⟨e1, e2, e3, e4, e5, e6, e7⟩ := enc_readN l HB.out.1 (by have := HL.out; omega) 1 (by have := HL.out; omega) i acc qq HN.out.1
            have hwv : writeV acc = (l.take qq, 0) := by
              have hr : rowOk acc = true := (rowOk_iff acc).2 ⟨by omega, e2⟩
              have hl : (encL acc).length ≤ qq - 1 := by rw [e7, List.length_take]; omega
              rw [writeV_good hr (by have := HL.out; omega), e7, e1, HCR.out]
              obtain ⟨q', rfl⟩ : ∃ q', qq = q' + 1 := ⟨qq - 1, by omega⟩
              simp
            obtain ⟨a5, c5, rfl, hcap5, hV5⟩ := hown.slice
            have HW := Lib.hid (fun W (hW : Below wr.heap.size wr W) => rWrite_any acc a5 acc.length c5 W ((hV5.below hW).mono hW.size) rfl (by omega) e3 (fun x hx => by have := e4 x hx; have := HL.out; omega))
            rw [hwv] at HW
            have HV5 := Lib.hid hV5
            obtain ⟨m5, hm5⟩ : ∃ m5, m5 = acc.length := ⟨_, rfl⟩
            rw [← hm5] at hcap5 HW
            have HM5 := Lib.hid hm5
            obtain ⟨tq, htq⟩ : ∃ tq, tq = (l.take qq).length := ⟨_, rfl⟩
            have HTQ := Lib.hid htq
            clear hown hV5 hm5 hwv e1 e2 e3 e4 e5 e6 e7 htq
            rw [← HM5.out]
            go_wp2_with fail
            refine (HW.out _ (Below.refl _ _)).mono ?_
            rintro e w1 ⟨a6, c6, rfl, hcap6, hB6, hb6⟩
            dsimp only at hcap6 hB6 ⊢
            have hbw := hb.trans (hb6.mono hsz)
            have hcv6 := hB6.str (l.take qq).length c6 rfl
            have hcvb := (HB.out.below hbw).str len cap HL.out
            have HV6 := Lib.hid (HV5.out.below hb6)
            have hsz6 := hb6.size
            clear hcap6 hB6 HW c0
            by_cases hqe : qq = len
            · have HRd2 : Hid (readV l = (acc, 0)) := by
                rw [HRd.out, if_neg (by have := HL.out; omega)]; rfl
              have ht : l.take qq = l := List.take_of_length_le (by have := HL.out; omega)
              rw [ht] at hcv6 ⊢
              clear HRd hqe ht HTQ
              go_wp2
              go_ret2
              rw [HRd2.out]
              refine ⟨a5, c5, ?_, by rw [← HM5.out]; exact hcap5, HV6.out.mono hsz6, hbw⟩
              rw [← HM5.out]; rfl
            · have HRd2 : Hid (readV l = ([], 3)) := by
                rw [HRd.out, if_pos (by have := HL.out; omega)]; rfl
              have hne := strN_ne (a := l.take qq) (b := l) (by rw [List.length_take]; have := HL.out; omega)
              obtain ⟨X, hX⟩ : ∃ X, X = strN (l.take qq) := ⟨_, rfl⟩
              obtain ⟨Y, hY⟩ : ∃ Y, Y = strN l := ⟨_, rfl⟩
              rw [← hX] at hcv6 hne
              rw [← hY] at hcvb hne
              have hne2 : (X.toList != Y.toList) = true := by simp only [bne, hne]; rfl
              rw [← HTQ.out] at hcv6 ⊢
              clear HRd hqe hX hY
              go_wp2
              go_ret2
              rw [HRd2.out]
              exact ⟨none, 0, rfl, by simp, .inl rfl, hbw⟩
    · have HRd : Hid (readV l = ([], 3)) := readV_head (by omega) he
      have hpos : 0 < len := by rw [hlen, hcr]; simp
      have q0 : ((len : Int) == 0) = false := by simp; omega
      have q16 : decide ((16 : Int) < (c : Int)) = true := by simp; omega
      obtain ⟨h256, hcell⟩ := hB
      rcases hcell with hnil | ⟨b, o, rfl, hN, hcell⟩
      · rw [hnil] at hcr; simp at hcr
      · have c0 := hcell 0 c (by rw [hcr]; rfl)
        simp only [Nat.add_zero] at c0
        clear hcell h256 hlen hcr he
        go_enter Try.func26, Try.ntmps26
        go_wp2
        go_ret2
        rw [HRd.out]
        exact ⟨none, 0, rfl, by simp, .inl rfl, Below.refl _ _⟩
end Go.Proofs.Ytipeinkogoghnaa
