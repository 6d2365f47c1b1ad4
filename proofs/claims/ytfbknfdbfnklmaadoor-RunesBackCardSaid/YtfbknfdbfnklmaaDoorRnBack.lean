/- The walk of the law RunesBack. -/
import Derived.Test.YtfbknfdbfnklmaaDoorRnAlive
import Derived.Test.YtfbknfdbfnklmaaDoorRnJoin
import Derived.Test.YtfbknfdbfnklmaaDoorRnBackM
import Derived.Test.YtfbknfdbfnklmaaDoorOrd
namespace Go.Proofs.YtfbknfdbfnklmaaDoor
set_option linter.unusedSimpArgs false
open Go.RowKit

set_option maxRecDepth 100000 in
set_option maxHeartbeats 8000000 in
theorem back5_any (s : ByteArray) (l : List Int) (a : Option Addr) (len cap : Nat) (n : Int) (w : World) (hT : Pre5 w) (hr : ∀ c ∈ l, -2147483648 ≤ c ∧ c ≤ 2147483647) (hV : Rs .i32 w.heap.size w a l) (hlen : len = l.length) (hcap : len ≤ cap) (hcap2 : cap ≤ 9223372036854775807)
    (hn : -9223372036854775808 ≤ n ∧ n ≤ 9223372036854775807) (hs : s.size ≤ 140737488351232) :
    Calls Tryd.prog 6 #[.string s, .slice a len cap, .int .i64 n] w fun e w' => e = .returned (.bool true) ∧ Below w.heap.size w w' := by
  have HA := Lib.hid (fun W (h : Below w.heap.size w W) => alive5_any W (hT.below h))
  by_cases hbig : 1000 < s.size ∨ 300 < len
  · have hbig' : 1000 < s.size ∨ (¬ 1000 < s.size ∧ 300 < len) := by omega
    clear hbig hT hV hr hlen
    go_enter Tryd.func6, Tryd.ntmps6
    rcases hbig' with h | ⟨h, h2⟩
    all_goals
      go_wp2_with fail
      refine (HA.out _ (Below.refl _ _)).mono ?_
      rintro e w1 ⟨rfl, hb⟩
      go_wp2
      go_ret
      exact ⟨rfl, hb⟩
  · have g1 : s.size ≤ 1000 := by omega
    have g2 : len ≤ 300 := by omega
    have HS := Lib.hid (fun W (h : Below w.heap.size w W) => Split_any s W (by omega) (hT.below h).tabs)
    have HJ := Lib.hid (fun W (h : Below w.heap.size w W) => Join_any l hr a len cap W ((hV.below h).mono h.size) hlen (by omega))
    have hjv : (l.any badPt = true ∧ joinV l = (⟨#[]⟩, 3)) ∨ ∃ q, l = ptsZ q ∧ (∀ v ∈ q, okP v = true) ∧ joinV l = (strP q, 0) := by
      cases hb : l.any badPt with
      | true => exact .inl ⟨rfl, by unfold joinV; rw [if_pos hb]⟩
      | false =>
        obtain ⟨h1, h2⟩ := good_pts hb
        exact .inr ⟨l.map Int.toNat, h1, h2, by unfold joinV; rw [if_neg (by rw [hb]; simp)]⟩
    have HQ := Lib.hid (fun W (h : Below w.heap.size w W) => Quote_any s W (hT.below h) (by omega))
    have hqs := quote_size s
    have HU := Lib.hid (fun W (h : Below w.heap.size w W) => Unquote_any (quoteS s) W (hT.below h) (by omega))
    have HD := Lib.hid (fun W (h : Below w.heap.size w W) => Digits_any n W (hT.below h) hn.1 hn.2)
    have HNm : 0 ≤ n → Hid (∀ W, Below w.heap.size w W → Calls Tryd.prog 23 #[.string (baL (Lib.itoa n))] W fun e w' => e = .returned (.tuple #[.int .i64 n, .int .i64 0]) ∧ Below W.heap.size W w') := by
      intro h0 W h
      obtain ⟨e1, e2⟩ := num_digits n h0 hn.2
      have := Number_any (baL (Lib.itoa n)) W (hT.below h) (by omega)
      rw [e1] at this
      exact this
    rw [unq_quote] at HU
    have hsb := @strP_back s
    have HP : Hid (∀ p, decS (bytesU s) = some p → ∀ W (a : Option Addr) (cap : Nat), Rs .i32 W.heap.size W a (ptsZ p) → Calls Tryd.prog 14 #[.slice a p.length cap] W fun e w' => e = .returned (.tuple #[.string s, .int .i64 0]) ∧ Below W.heap.size W w') := by
      intro p hp W a cap hR
      obtain ⟨h1, h2⟩ := hsb hp
      obtain ⟨h3, h4⟩ := pts_good h2
      have hlp : p.length ≤ 1000 := by
        have e1 := ((decS_iff (bytesU_lt s) p).1 hp).2
        have e2 := (encS_len p).1
        rw [e1, bytesU_len] at e2
        omega
      have := Join_any (ptsZ p) h4 a p.length cap W hR (ptsZ_len p).symm (by omega)
      rw [h3, h1] at this
      exact this
    have HSp : Hid (∀ q, l = ptsZ q → (∀ v ∈ q, okP v = true) → ∀ W, Below w.heap.size w W → Calls Tryd.prog 9 #[.string (strP q)] W (RetSp W (some q))) := by
      intro q hl hq W h
      obtain ⟨h1, h2⟩ := split_strP hq
      have hlq : q.length = len := by rw [hlen, hl, ptsZ_len]
      have := Split_any (strP q) W (by omega) (hT.below h).tabs
      rw [h1] at this
      exact this
    obtain ⟨o, ho⟩ : ∃ o, decS (bytesU s) = o := ⟨_, rfl⟩
    rw [ho] at HS HP
    obtain ⟨u, hu⟩ : ∃ u, quoteS s = u := ⟨_, rfl⟩
    rw [hu] at HQ HU
    obtain ⟨d, hd⟩ : ∃ d, baL (Lib.itoa n) = d := ⟨_, rfl⟩
    rw [hd] at HD HNm
    obtain ⟨J, hJ⟩ : ∃ J, joinV l = J := ⟨_, rfl⟩
    rw [hJ] at HJ hjv
    obtain ⟨t, f⟩ := J
    have HJV := Lib.hid hjv
    have HV := Lib.hid hV
    have HL := Lib.hid hlen
    have qs : (s.toList == s.toList) = true := by simp
    have hnn : n < 0 ∨ 0 ≤ n := by omega
    dsimp only at HJ HU
    clear hV hlen hr hT hsb hqs ho hu hd hJ hjv hbig
    go_enter Tryd.func6, Tryd.ntmps6
    go_wp2_with fail
    refine (HS.out _ (Below.refl _ _)).mono ?_
    rintro e w1 ⟨b1, hways⟩
    rcases hways with ⟨rfl, rfl⟩ | ⟨p, ax, cx, rfl, rfl, hcx, hRx⟩
    · clear HP
      go_wp2_with fail
      refine (HJ.out _ b1).mono ?_
      rintro e w3 ⟨rfl, b3⟩
      replace b3 := b1.trans (b3.mono b1.size)
      have hjv := HJV.out
      clear HJV
      rcases hjv with ⟨_, hj⟩ | ⟨q, hl, hq, hj⟩
      · cases hj
        go_wp2_with fail
        refine (HQ.out _ b3).mono ?_
        rintro e wA ⟨rfl, bA⟩
        replace bA := b3.trans (bA.mono b3.size)
        go_wp2_with fail
        refine (HU.out _ bA).mono ?_
        rintro e wB ⟨rfl, bB⟩
        replace bB := bA.trans (bB.mono bA.size)
        rcases hnn with hneg | hpos
        · go_wp2_with fail
          refine (HA.out _ bB).mono ?_
          rintro e wC ⟨rfl, bC⟩
          replace bC := bB.trans (bC.mono bB.size)
          go_wp2
          go_ret
          exact ⟨rfl, bC⟩
        · have q0 : ¬ n < 0 := by omega
          go_wp2_with fail
          refine (HD.out _ bB).mono ?_
          rintro e wC ⟨rfl, bC⟩
          replace bC := bB.trans (bC.mono bB.size)
          go_wp2_with fail
          refine ((HNm hpos).out _ bC).mono ?_
          rintro e wD ⟨rfl, bD⟩
          replace bD := bC.trans (bD.mono bC.size)
          go_wp2_with fail
          refine (HA.out _ bD).mono ?_
          rintro e wE ⟨rfl, bE⟩
          replace bE := bD.trans (bE.mono bD.size)
          go_wp2
          go_ret
          exact ⟨rfl, bE⟩
      · cases hj
        have hsp := HSp.out q hl hq
        have hlq : q.length = len := by rw [HL.out, hl, ptsZ_len]
        clear HSp
        go_wp2_with fail
        refine (hsp _ b3).mono ?_
        rintro e w4 ⟨b4, hways4⟩
        clear hsp
        rcases hways4 with ⟨h4, _⟩ | ⟨q4, ay, cy, h4, rfl, hcy, hRy⟩
        · cases h4
        · cases h4
          replace b4 := b3.trans (b4.mono b3.size)
          have hRl := HV.out
          rw [hl] at hRl
          clear HV HL
          have hqq : q.length = len := hlq
          rw [hqq] at hcy ⊢
          go_wp2
          go_loopw [15] (fun i wr => ∃ k : Nat, k ≤ len ∧ i = .int .i64 k ∧ Below w4.heap.size w4 wr) (fun i _ => len - (intOf i).toNat)
          case atStart => exact ⟨0, by omega, rfl, Below.refl _ _⟩
          case round =>
            obtain ⟨k, hk, rfl, hbk⟩ := hrel
            have b5 := b4.trans (Below.mono hbk b4.size)
            have hsz5 := b5.size
            by_cases hlt : k < len
            · have hkp : k < (ptsZ q).length := by rw [ptsZ_len]; omega
              obtain ⟨c1, o1, rfl, hc1, d1⟩ := (hRy.below hbk).at_ hkp
              obtain ⟨c2, o2, rfl, hc2, d2⟩ := (hRl.below b5).at_ hkp
              have hz4 := hbk.size
              obtain ⟨y, hy⟩ : ∃ y, (ptsZ q)[k] = y := ⟨_, rfl⟩
              rw [hy] at d1 d2
              have e1 : ∀ W, Later wr.drew W → W.cell? ⟨c1, o1 + k, none⟩ = some (.int .i32 y) := fun W h => (Below.cell (show Below wr.heap.size wr W from (Below.refl _ wr).drew.trans h) (by show c1 < wr.heap.size; omega)).trans d1
              have e2 : ∀ W, Later wr.drew W → W.cell? ⟨c2, o2 + k, none⟩ = some (.int .i32 y) := fun W h => (Below.cell (show Below wr.heap.size wr W from (Below.refl _ wr).drew.trans h) (by show c2 < wr.heap.size; omega)).trans d2
              have qy : (y != y) = false := by simp
              clear d1 d2 hy hkp
              go_wp2_with fail
              refine wp_region_ord [(0, true), (1, true), (2, true), (3, true), (4, true), (5, true), (6, true), (7, true), (8, true)] (by kernel_rfl) (by kernel_rfl) (by kernel_rfl) (by kernel_rfl) ?_
              repeat (first | (refine wpO_F (v := ?_) rfl (by rfl) (fun w' hL => ?_) ?_; rotate_left; (solve | (go_simp; with_reducible rfl) | go_simp); try simp only [Act.put, List.setIfInBounds_toArray, List.set_cons_zero, List.set_cons_succ]) | (refine wpO_G rfl (by rfl) ?_; try simp only [Act.put, List.setIfInBounds_toArray, List.set_cons_zero, List.set_cons_succ]))
              refine wpO_nil ?_
              clear e1 e2
              go_wp2
              go_roundw
              case rel => exact ⟨k + 1, by omega, by go_num, hbk.drew⟩
              case measure => simp [intOf]; omega
            · clear hRl hRy
              go_wp2_with fail
              refine (HQ.out _ b5).mono ?_
              rintro e wA ⟨rfl, bA⟩
              replace bA := b5.trans (bA.mono b5.size)
              go_wp2_with fail
              refine (HU.out _ bA).mono ?_
              rintro e wB ⟨rfl, bB⟩
              replace bB := bA.trans (bB.mono bA.size)
              rcases hnn with hneg | hpos
              · go_wp2_with fail
                refine (HA.out _ bB).mono ?_
                rintro e wC ⟨rfl, bC⟩
                replace bC := bB.trans (bC.mono bB.size)
                go_wp2
                go_ret
                exact ⟨rfl, bC⟩
              · have q0 : ¬ n < 0 := by omega
                go_wp2_with fail
                refine (HD.out _ bB).mono ?_
                rintro e wC ⟨rfl, bC⟩
                replace bC := bB.trans (bC.mono bB.size)
                go_wp2_with fail
                refine ((HNm hpos).out _ bC).mono ?_
                rintro e wD ⟨rfl, bD⟩
                replace bD := bC.trans (bD.mono bC.size)
                go_wp2_with fail
                refine (HA.out _ bD).mono ?_
                rintro e wE ⟨rfl, bE⟩
                replace bE := bD.trans (bE.mono bD.size)
                go_wp2
                go_ret
                exact ⟨rfl, bE⟩
    · have hJp := HP.out p rfl _ ax cx hRx
      clear HP
      go_wp2_with fail
      refine hJp.mono ?_
      rintro e w2 ⟨rfl, b2⟩
      replace b2 := b1.trans (b2.mono b1.size)
      clear hJp
      go_wp2_with fail
      refine (HJ.out _ b2).mono ?_
      rintro e w3 ⟨rfl, b3⟩
      replace b3 := b2.trans (b3.mono b2.size)
      have hjv := HJV.out
      clear HJV
      rcases hjv with ⟨_, hj⟩ | ⟨q, hl, hq, hj⟩
      · cases hj
        go_wp2_with fail
        refine (HQ.out _ b3).mono ?_
        rintro e wA ⟨rfl, bA⟩
        replace bA := b3.trans (bA.mono b3.size)
        go_wp2_with fail
        refine (HU.out _ bA).mono ?_
        rintro e wB ⟨rfl, bB⟩
        replace bB := bA.trans (bB.mono bA.size)
        rcases hnn with hneg | hpos
        · go_wp2_with fail
          refine (HA.out _ bB).mono ?_
          rintro e wC ⟨rfl, bC⟩
          replace bC := bB.trans (bC.mono bB.size)
          go_wp2
          go_ret
          exact ⟨rfl, bC⟩
        · have q0 : ¬ n < 0 := by omega
          go_wp2_with fail
          refine (HD.out _ bB).mono ?_
          rintro e wC ⟨rfl, bC⟩
          replace bC := bB.trans (bC.mono bB.size)
          go_wp2_with fail
          refine ((HNm hpos).out _ bC).mono ?_
          rintro e wD ⟨rfl, bD⟩
          replace bD := bC.trans (bD.mono bC.size)
          go_wp2_with fail
          refine (HA.out _ bD).mono ?_
          rintro e wE ⟨rfl, bE⟩
          replace bE := bD.trans (bE.mono bD.size)
          go_wp2
          go_ret
          exact ⟨rfl, bE⟩
      · cases hj
        have hsp := HSp.out q hl hq
        have hlq : q.length = len := by rw [HL.out, hl, ptsZ_len]
        clear HSp
        go_wp2_with fail
        refine (hsp _ b3).mono ?_
        rintro e w4 ⟨b4, hways4⟩
        clear hsp
        rcases hways4 with ⟨h4, _⟩ | ⟨q4, ay, cy, h4, rfl, hcy, hRy⟩
        · cases h4
        · cases h4
          replace b4 := b3.trans (b4.mono b3.size)
          have hRl := HV.out
          rw [hl] at hRl
          clear HV HL
          have hqq : q.length = len := hlq
          rw [hqq] at hcy ⊢
          go_wp2
          go_loopw [15] (fun i wr => ∃ k : Nat, k ≤ len ∧ i = .int .i64 k ∧ Below w4.heap.size w4 wr) (fun i _ => len - (intOf i).toNat)
          case atStart => exact ⟨0, by omega, rfl, Below.refl _ _⟩
          case round =>
            obtain ⟨k, hk, rfl, hbk⟩ := hrel
            have b5 := b4.trans (Below.mono hbk b4.size)
            have hsz5 := b5.size
            by_cases hlt : k < len
            · have hkp : k < (ptsZ q).length := by rw [ptsZ_len]; omega
              obtain ⟨c1, o1, rfl, hc1, d1⟩ := (hRy.below hbk).at_ hkp
              obtain ⟨c2, o2, rfl, hc2, d2⟩ := (hRl.below b5).at_ hkp
              have hz4 := hbk.size
              obtain ⟨y, hy⟩ : ∃ y, (ptsZ q)[k] = y := ⟨_, rfl⟩
              rw [hy] at d1 d2
              have e1 : ∀ W, Later wr.drew W → W.cell? ⟨c1, o1 + k, none⟩ = some (.int .i32 y) := fun W h => (Below.cell (show Below wr.heap.size wr W from (Below.refl _ wr).drew.trans h) (by show c1 < wr.heap.size; omega)).trans d1
              have e2 : ∀ W, Later wr.drew W → W.cell? ⟨c2, o2 + k, none⟩ = some (.int .i32 y) := fun W h => (Below.cell (show Below wr.heap.size wr W from (Below.refl _ wr).drew.trans h) (by show c2 < wr.heap.size; omega)).trans d2
              have qy : (y != y) = false := by simp
              clear d1 d2 hy hkp
              go_wp2_with fail
              refine wp_region_ord [(0, true), (1, true), (2, true), (3, true), (4, true), (5, true), (6, true), (7, true), (8, true)] (by kernel_rfl) (by kernel_rfl) (by kernel_rfl) (by kernel_rfl) ?_
              repeat (first | (refine wpO_F (v := ?_) rfl (by rfl) (fun w' hL => ?_) ?_; rotate_left; (solve | (go_simp; with_reducible rfl) | go_simp); try simp only [Act.put, List.setIfInBounds_toArray, List.set_cons_zero, List.set_cons_succ]) | (refine wpO_G rfl (by rfl) ?_; try simp only [Act.put, List.setIfInBounds_toArray, List.set_cons_zero, List.set_cons_succ]))
              refine wpO_nil ?_
              clear e1 e2
              go_wp2
              go_roundw
              case rel => exact ⟨k + 1, by omega, by go_num, hbk.drew⟩
              case measure => simp [intOf]; omega
            · clear hRl hRy
              go_wp2_with fail
              refine (HQ.out _ b5).mono ?_
              rintro e wA ⟨rfl, bA⟩
              replace bA := b5.trans (bA.mono b5.size)
              go_wp2_with fail
              refine (HU.out _ bA).mono ?_
              rintro e wB ⟨rfl, bB⟩
              replace bB := bA.trans (bB.mono bA.size)
              rcases hnn with hneg | hpos
              · go_wp2_with fail
                refine (HA.out _ bB).mono ?_
                rintro e wC ⟨rfl, bC⟩
                replace bC := bB.trans (bC.mono bB.size)
                go_wp2
                go_ret
                exact ⟨rfl, bC⟩
              · have q0 : ¬ n < 0 := by omega
                go_wp2_with fail
                refine (HD.out _ bB).mono ?_
                rintro e wC ⟨rfl, bC⟩
                replace bC := bB.trans (bC.mono bB.size)
                go_wp2_with fail
                refine ((HNm hpos).out _ bC).mono ?_
                rintro e wD ⟨rfl, bD⟩
                replace bD := bC.trans (bD.mono bC.size)
                go_wp2_with fail
                refine (HA.out _ bD).mono ?_
                rintro e wE ⟨rfl, bE⟩
                replace bE := bD.trans (bE.mono bD.size)
                go_wp2
                go_ret
                exact ⟨rfl, bE⟩
end Go.Proofs.YtfbknfdbfnklmaaDoor
