/- The walk of the law RunesPoints. -/
import Derived.Test.YtfbknfdbfnklmaaDoorRnAlive
import Derived.Test.YtfbknfdbfnklmaaDoorRnJoin
import Derived.Test.YtfbknfdbfnklmaaDoorURSplit
import Derived.Test.YtfbknfdbfnklmaaDoorURWrite
import Derived.Test.YtfbknfdbfnklmaaDoorOrd
namespace Go.Proofs.YtfbknfdbfnklmaaDoor
set_option linter.unusedSimpArgs false
open Go.RowKit

def wantL (l : List Int) : List Nat := l.flatMap encZ

theorem wantL_take (l : List Int) (k : Nat) (hk : k < l.length) : wantL (l.take (k + 1)) = wantL (l.take k) ++ encZ l[k] := by
  unfold wantL
  rw [List.take_add_one, List.getElem?_eq_getElem hk, List.flatMap_append]
  simp
theorem strN_cat (a b : List Nat) : strN a ++ strN b = strN (a ++ b) := by
  apply ByteArray.ext
  simp [strN]

theorem wrapI64 (n : Int) (h1 : -9223372036854775808 ≤ n) (h2 : n ≤ 9223372036854775807) : IntKind.i64.wrap n = n := by
  have := IntWalk.wrap64_in n ⟨h1, h2⟩
  unfold wrap64 at this
  simp [IntKind.wrap, IntKind.signed, IntKind.bits]
  omega

theorem okZ_good (c : Int) : okZ c = !badPt c := by
  unfold badPt
  rw [Bool.not_not, Bool.eq_iff_iff, okZ_iff]
  unfold Lib.validRune
  rw [decide_eq_true_iff]
  omega
theorem encZ_len (c : Int) : (encZ c).length ≤ 4 ∧ (okZ c = true → 1 ≤ (encZ c).length) ∧ (okZ c = false → encZ c = []) := by
  unfold encZ
  cases h : okZ c with
  | true =>
    have := encP_len c.toNat
    refine ⟨by simpa using this.2, fun _ => by simpa using this.1, fun h => by simp at h⟩
  | false => exact ⟨by simp, fun h => by simp at h, fun _ => by simp⟩

theorem want_join {l : List Int} (h : l.any badPt = false) : joinV l = (strN (wantL l), 0) := by
  unfold joinV
  rw [if_neg (by rw [h]; simp)]
  have e : wantL l = encS (l.map Int.toNat) := by
    unfold wantL encS
    rw [List.flatMap_map]
    have hb : ∀ c ∈ l, encZ c = encP c.toNat := by
      intro c hc
      have h1 := List.any_eq_false.1 h c hc
      unfold encZ
      rw [if_pos (by rw [okZ_good]; simpa using h1)]
    clear h
    induction l with
    | nil => rfl
    | cons c l ih =>
      rw [List.flatMap_cons, List.flatMap_cons, hb c (by simp), ih fun x hx => hb x (by simp [hx])]
  rw [e]; rfl
theorem any_snoc (l : List Int) (k : Nat) (hk : k < l.length) : (l.take (k + 1)).any badPt = ((l.take k).any badPt || badPt l[k]) := by
  rw [List.take_add_one, List.getElem?_eq_getElem hk, List.any_append]; simp

set_option maxRecDepth 100000 in
set_option maxHeartbeats 8000000 in
theorem points5_any (s : ByteArray) (l : List Int) (a : Option Addr) (len cap : Nat) (w : World) (hT : Pre5 w) (hr : ∀ c ∈ l, -2147483648 ≤ c ∧ c ≤ 2147483647) (hV : Rs .i32 w.heap.size w a l) (hlen : len = l.length) (hcap : len ≤ cap) (hcap2 : cap ≤ 9223372036854775807)
    (hs : s.size ≤ 140737488351232) :
    Calls Tryd.prog 3 #[.string s, .slice a len cap] w fun e w' => e = .returned (.bool true) ∧ Below w.heap.size w w' := by
  have HA := Lib.hid (fun W (h : Below w.heap.size w W) => alive5_any W (hT.below h))
  by_cases hbig : 1000 < s.size ∨ 300 < len
  · have hbig' : 1000 < s.size ∨ (¬ 1000 < s.size ∧ 300 < len) := by omega
    clear hbig hT hV hr hlen
    go_enter Tryd.func3, Tryd.ntmps3
    rcases hbig' with h | ⟨h, h2⟩
    all_goals
      go_wp2_with fail
      refine (HA.out _ (Below.refl _ _)).mono ?_
      rintro e w1 ⟨rfl, hb⟩
      go_wp2
      go_ret
      exact ⟨rfl, hb⟩
  · have g1 : s.size ≤ 1000 := by omega
    have g2 : len ≤ 300 := by omega
    have HS := Lib.hid (fun W (h : Below w.heap.size w W) => Split_any s W (by omega) (hT.below h).tabs)
    have HRS := Lib.hid (fun W => rSplit_any s W (by omega))
    have HC := Lib.hid (fun W (h : Below w.heap.size w W) => Count_any s W (hT.below h) (by omega))
    have HRt := Lib.hid (fun W (h : Below w.heap.size w W) => Right_any s W (by omega) (hT.below h).tabs)
    have HJ := Lib.hid (fun W (h : Below w.heap.size w W) => Join_any l hr a len cap W ((hV.below h).mono h.size) hlen (by omega))
    have hcv : countV s = match decS (bytesU s) with
      | none => (0, 3)
      | some p => ((p.length : Int), 0) := rfl
    rw [hcv] at HC
    have hpl : ∀ p, decS (bytesU s) = some p → p.length ≤ 1000 := by
      intro p hp
      have e1 := ((decS_iff (bytesU_lt s) p).1 hp).2
      have e2 := (encS_len p).1
      rw [e1, bytesU_len] at e2
      omega
    have hpk : ∀ p, decS (bytesU s) = some p → ∀ v ∈ p, v ≤ 1114111 := fun p hp v hv => okP_le (((decS_iff (bytesU_lt s) p).1 hp).1 v hv)
    obtain ⟨o, ho⟩ : ∃ o, decS (bytesU s) = o := ⟨_, rfl⟩
    rw [ho] at HS HRS HC HRt hpl hpk
    have HV := Lib.hid hV
    have HL := Lib.hid hlen
    have HRR := Lib.hid hr
    cases o with
    | none =>
      dsimp only at HC HRt
      clear hV hlen hr hT ho hcv hbig hpl hpk
      go_enter Tryd.func3, Tryd.ntmps3
      go_wp2_with fail
      refine (HS.out _ (Below.refl _ _)).mono ?_
      rintro e w1 ⟨b1, h | ⟨_, _, _, h, _⟩⟩
      rotate_left
      · cases h
      obtain ⟨_, rfl⟩ := h
      go_wp2_with fail
      refine (HRS.out _).mono ?_
      rintro e w2 ⟨b2, h | ⟨_, _, _, h, _⟩⟩
      rotate_left
      · cases h
      obtain ⟨_, rfl⟩ := h
      replace b2 := b1.trans (b2.mono b1.size)
      clear b1
      go_wp2_with fail
      refine (HC.out _ b2).mono ?_
      rintro e w3 ⟨rfl, b3⟩
      replace b3 := b2.trans (b3.mono b2.size)
      clear b2
      go_wp2_with fail
      refine (HRt.out _ b3).mono ?_
      rintro e w4 ⟨rfl, b4⟩
      replace b4 := b3.trans (b4.mono b3.size)
      clear b3
      clear HS HRS HC HRt
      go_wp2
      go_loopw [11] (fun i wr => i = .int .i64 0 ∧ w4 = wr) (fun _ _ => 0)
      case atStart => exact ⟨rfl, rfl⟩
      case round =>
        obtain ⟨rfl, rfl⟩ := hrel
        go_wp2
        go_loopw [12, 13, 14] (fun tv gv i wr => ∃ (k : Nat) (g : Int), k ≤ len ∧ tv = .string (strN (wantL (l.take k))) ∧ gv = .int .i64 g ∧ i = .int .i64 k ∧ Hid ((g = 0 ∧ (l.take k).any badPt = false) ∨ (g = 3 ∧ (l.take k).any badPt = true)) ∧ (strN (wantL (l.take k))).size ≤ 4 * k ∧ Below w.heap.size w wr) (fun _ _ i _ => len - (intOf i).toNat)
        case atStart => exact ⟨0, 0, by omega, rfl, rfl, rfl, .inl ⟨rfl, rfl⟩, (by show (strN []).size ≤ 4 * 0; decide), b4⟩
        case round =>
          obtain ⟨k2, g, hk2, rfl, rfl, rfl, HG, hts, hb2⟩ := hrel
          have hsz2 := hb2.size
          by_cases hlt2 : k2 < len
          · have hkl : k2 < l.length := by have := HL.out; omega
            obtain ⟨c3, o3, rfl, hc3, d3⟩ := (HV.out.below hb2).at_ hkl
            have hyr := HRR.out _ (List.getElem_mem hkl)
            have hwt := wantL_take l k2 hkl
            have hat := any_snoc l k2 hkl
            obtain ⟨z, hz⟩ : ∃ z, l[k2] = z := ⟨_, rfl⟩
            rw [hz] at d3 hyr hwt hat
            have hez := encZ_len z
            have hgood := okZ_good z
            have HW := Lib.hid (fun W => rWrite_any z W (by omega) (by omega))
            obtain ⟨t, ht⟩ : ∃ t, strN (wantL (l.take k2)) = t := ⟨_, rfl⟩
            obtain ⟨E, hE⟩ : ∃ E, encZ z = E := ⟨_, rfl⟩
            have hcat : t ++ strN E = strN (wantL (l.take (k2 + 1))) := by rw [← ht, strN_cat, hwt, hE]
            have hes := strN_size E
            obtain ⟨u, hu⟩ : ∃ u, strN E = u := ⟨_, rfl⟩
            obtain ⟨t2, ht2⟩ : ∃ t2, strN (wantL (l.take (k2 + 1))) = t2 := ⟨_, rfl⟩
            rw [ht] at hts ⊢
            rw [hE] at HW hez
            rw [hu] at hcat hes
            rw [ht2] at hcat
            obtain ⟨m, hm⟩ : ∃ m, E.length = m := ⟨_, rfl⟩
            rw [hm] at hez hes
            have hlong : ¬ 9223372036854775807 < t.size + u.size := by omega
            have hts2 : t2.size ≤ 4 * (k2 + 1) := by
              have := congrArg ByteArray.size hcat
              rw [ByteArray.size_append] at this
              omega
            have HT2 := Lib.hid ht2
            have HU := Lib.hid hu
            have HM := Lib.hid hm
            have HAT := Lib.hid hat
            have hnb : badPt z = !okZ z := by rw [hgood, Bool.not_not]
            have hways : (okZ z = true ∧ 1 ≤ m ∧ badPt z = false) ∨ (okZ z = false ∧ m = 0 ∧ badPt z = true) := by
              cases hok : okZ z with
              | true => exact .inl ⟨rfl, hez.2.1 hok, by rw [hnb, hok]; rfl⟩
              | false => exact .inr ⟨rfl, by rw [← hm, hez.2.2 hok]; rfl, by rw [hnb, hok]; rfl⟩
            clear hz ht hE hu ht2 hwt hat hes hez hgood hkl hm hnb
            go_wp2_with fail
            refine (HW.out _).mono ?_
            rintro e w6 ⟨b6, a6, c6, rfl, hB6⟩
            have hcv6 := hB6.conv (P := Tryd.prog) 33 5 Tryd.underlying33 Tryd.underlying5 9 Tryd.underlying9 m c6 HM.out.symm
            rw [HU.out] at hcv6
            rw [HM.out]
            replace b6 := hb2.trans (b6.mono hb2.size)
            clear hB6 HW d3
            rcases hways with ⟨_, h1, hbad⟩ | ⟨_, rfl, hbad⟩
            · have q0 : ((m : Int) == 0) = false := by simp; omega
              have HG2 : Hid ((g = 0 ∧ (l.take (k2 + 1)).any badPt = false) ∨ (g = 3 ∧ (l.take (k2 + 1)).any badPt = true)) := by
                rw [HAT.out, hbad, Bool.or_false]; exact HG.out
              clear HG
              go_wp2
              go_roundw
              case rel => exact ⟨k2 + 1, g, by omega, by rw [HT2.out], rfl, by go_num, HG2, by rw [HT2.out]; exact hts2, b6⟩
              case measure => simp [intOf]; omega
            · have HG2 : Hid ((l.take (k2 + 1)).any badPt = true) := by
                rw [HAT.out, hbad]; simp [Hid]
              clear HG
              go_wp2
              go_roundw
              case rel => exact ⟨k2 + 1, 3, by omega, by rw [HT2.out], rfl, by go_num, .inr ⟨rfl, HG2.out⟩, by rw [HT2.out]; exact hts2, b6⟩
              case measure => simp [intOf]; omega
          · have hall : l.take k2 = l := List.take_of_length_le (by have := HL.out; omega)
            rw [hall] at HG hts ⊢
            have hwj := @want_join l
            have hbj : l.any badPt = true → joinV l = (⟨#[]⟩, 3) := fun h => by unfold joinV; rw [if_pos h]
            obtain ⟨t, ht⟩ : ∃ t, strN (wantL l) = t := ⟨_, rfl⟩
            rw [ht] at hwj hts ⊢
            have hg := HG.out
            clear HG hall ht
            rcases hg with ⟨rfl, hg⟩ | ⟨rfl, hg⟩
            · rw [hwj hg] at HJ
              have qt : (t.toList == t.toList) = true := by simp
              dsimp only at HJ
              clear hwj hbj
              go_wp2_with fail
              refine (HJ.out _ hb2).mono ?_
              rintro e w7 ⟨rfl, b7⟩
              replace b7 := hb2.trans (b7.mono hb2.size)
              clear hb2
              go_wp2_with fail
              refine (HA.out _ b7).mono ?_
              rintro e w8 ⟨rfl, b8⟩
              replace b8 := b7.trans (b8.mono b7.size)
              go_wp2
              go_ret
              exact ⟨rfl, b8⟩
            · rw [hbj hg] at HJ
              dsimp only at HJ
              clear hwj hbj
              go_wp2_with fail
              refine (HJ.out _ hb2).mono ?_
              rintro e w7 ⟨rfl, b7⟩
              replace b7 := hb2.trans (b7.mono hb2.size)
              clear hb2
              go_wp2_with fail
              refine (HA.out _ b7).mono ?_
              rintro e w8 ⟨rfl, b8⟩
              replace b8 := b7.trans (b8.mono b7.size)
              go_wp2
              go_ret
              exact ⟨rfl, b8⟩
    | some p =>
      have hp1 := hpl p rfl
      have HPK := Lib.hid (hpk p rfl)
      have qn : ((p.length : Int) != (p.length : Int)) = false := by simp
      dsimp only at HC HRt
      clear hV hlen hr hT ho hcv hbig hpl hpk
      go_enter Tryd.func3, Tryd.ntmps3
      go_wp2_with fail
      refine (HS.out _ (Below.refl _ _)).mono ?_
      rintro e w1 ⟨b1, ⟨h, _⟩ | ⟨p1, ax, cx, h, rfl, hcx, hRx⟩⟩
      · cases h
      cases h
      go_wp2_with fail
      refine (HRS.out _).mono ?_
      rintro e w2 ⟨b2, ⟨h, _⟩ | ⟨p2, ay, cy, h, rfl, hcy, hRy⟩⟩
      · cases h
      cases h
      have hRx2 := (hRx.below b2).mono b2.size
      replace b2 := b1.trans (b2.mono b1.size)
      clear b1 hRx
      go_wp2_with fail
      refine (HC.out _ b2).mono ?_
      rintro e w3 ⟨rfl, b3⟩
      have hRx3 := (hRx2.below b3).mono b3.size
      have hRy3 := (hRy.below b3).mono b3.size
      replace b3 := b2.trans (b3.mono b2.size)
      clear b2 hRx2 hRy
      go_wp2_with fail
      refine (HRt.out _ b3).mono ?_
      rintro e w4 ⟨rfl, b4⟩
      have hRx4 := (hRx3.below b4).mono b4.size
      have hRy4 := (hRy3.below b4).mono b4.size
      replace b4 := b3.trans (b4.mono b3.size)
      clear b3 hRx3 hRy3
      clear HS HRS HC HRt
      obtain ⟨n, hn⟩ : ∃ n, p.length = n := ⟨_, rfl⟩
      rw [hn] at hcx hcy hp1 qn ⊢
      go_wp2
      go_loopw [11] (fun i wr => ∃ k : Nat, k ≤ n ∧ i = .int .i64 k ∧ Below w4.heap.size w4 wr) (fun i _ => n - (intOf i).toNat)
      case atStart => exact ⟨0, by omega, rfl, Below.refl _ _⟩
      case round =>
        obtain ⟨k, hk, rfl, hbk⟩ := hrel
        have b5 := b4.trans (Below.mono hbk b4.size)
        have hsz5 := b5.size
        by_cases hlt : k < n
        · have hkp : k < (ptsZ p).length := by rw [ptsZ_len, hn]; exact hlt
          have hkp2 : k < p.length := by rw [hn]; exact hlt
          have hval := HPK.out _ (List.getElem_mem hkp2)
          obtain ⟨c1, o1, rfl, hc1, d1⟩ := (hRx4.below hbk).at_ hkp
          obtain ⟨c2, o2, rfl, hc2, d2⟩ := (hRy4.below hbk).at_ (l := p.map fun (n : Nat) => (n : Int)) hkp
          have hz4 := hbk.size
          have ee : (ptsZ p)[k] = ((p[k] : Nat) : Int) := by simp [ptsZ]
          have ee2 : (p.map fun (n : Nat) => (n : Int))[k]'hkp = ((p[k] : Nat) : Int) := ee
          rw [ee] at d1
          rw [ee2] at d2
          obtain ⟨y, hy⟩ : ∃ y, p[k] = y := ⟨_, rfl⟩
          rw [hy] at d1 d2 hval
          have e1 : ∀ W, Later wr.drew W → W.cell? ⟨c1, o1 + k, none⟩ = some (.int .i32 (y : Int)) := fun W h => (Below.cell (show Below wr.heap.size wr W from (Below.refl _ wr).drew.trans h) (by show c1 < wr.heap.size; omega)).trans d1
          have e2 : ∀ W, Later wr.drew W → W.cell? ⟨c2, o2 + k, none⟩ = some (.int .i64 (y : Int)) := fun W h => (Below.cell (show Below wr.heap.size wr W from (Below.refl _ wr).drew.trans h) (by show c2 < wr.heap.size; omega)).trans d2
          have qy : ((y : Int) != (y : Int)) = false := by simp
          have hwr : IntKind.i64.wrap (y : Int) = (y : Int) := wrapI64 _ (by omega) (by omega)
          clear d1 d2 hy hkp hkp2 ee ee2
          go_wp2_with fail
          refine wp_region_ord [(0, true), (1, true), (2, true), (3, true), (4, true), (5, true), (6, true), (7, true), (8, true), (9, true)] (by kernel_rfl) (by kernel_rfl) (by kernel_rfl) (by kernel_rfl) ?_
          repeat (first | (refine wpO_F (v := ?_) rfl (by rfl) (fun w' hL => ?_) ?_; rotate_left; (solve | (go_simp; with_reducible rfl) | go_simp); try simp only [Act.put, List.setIfInBounds_toArray, List.set_cons_zero, List.set_cons_succ]) | (refine wpO_G rfl (by rfl) ?_; try simp only [Act.put, List.setIfInBounds_toArray, List.set_cons_zero, List.set_cons_succ]))
          refine wpO_nil ?_
          clear e1 e2
          go_wp2
          go_roundw
          case rel => exact ⟨k + 1, by omega, by go_num, hbk.drew⟩
          case measure => simp [intOf]; omega
        · clear hRx4 hRy4
          go_wp2
          go_loopw [12, 13, 14] (fun tv gv i wr => ∃ (k : Nat) (g : Int), k ≤ len ∧ tv = .string (strN (wantL (l.take k))) ∧ gv = .int .i64 g ∧ i = .int .i64 k ∧ Hid ((g = 0 ∧ (l.take k).any badPt = false) ∨ (g = 3 ∧ (l.take k).any badPt = true)) ∧ (strN (wantL (l.take k))).size ≤ 4 * k ∧ Below w.heap.size w wr) (fun _ _ i _ => len - (intOf i).toNat)
          case atStart => exact ⟨0, 0, by omega, rfl, rfl, rfl, .inl ⟨rfl, rfl⟩, (by show (strN []).size ≤ 4 * 0; decide), b5⟩
          case round =>
            obtain ⟨k2, g, hk2, rfl, rfl, rfl, HG, hts, hb2⟩ := hrel
            have hsz2 := hb2.size
            by_cases hlt2 : k2 < len
            · have hkl : k2 < l.length := by have := HL.out; omega
              obtain ⟨c3, o3, rfl, hc3, d3⟩ := (HV.out.below hb2).at_ hkl
              have hyr := HRR.out _ (List.getElem_mem hkl)
              have hwt := wantL_take l k2 hkl
              have hat := any_snoc l k2 hkl
              obtain ⟨z, hz⟩ : ∃ z, l[k2] = z := ⟨_, rfl⟩
              rw [hz] at d3 hyr hwt hat
              have hez := encZ_len z
              have hgood := okZ_good z
              have HW := Lib.hid (fun W => rWrite_any z W (by omega) (by omega))
              obtain ⟨t, ht⟩ : ∃ t, strN (wantL (l.take k2)) = t := ⟨_, rfl⟩
              obtain ⟨E, hE⟩ : ∃ E, encZ z = E := ⟨_, rfl⟩
              have hcat : t ++ strN E = strN (wantL (l.take (k2 + 1))) := by rw [← ht, strN_cat, hwt, hE]
              have hes := strN_size E
              obtain ⟨u, hu⟩ : ∃ u, strN E = u := ⟨_, rfl⟩
              obtain ⟨t2, ht2⟩ : ∃ t2, strN (wantL (l.take (k2 + 1))) = t2 := ⟨_, rfl⟩
              rw [ht] at hts ⊢
              rw [hE] at HW hez
              rw [hu] at hcat hes
              rw [ht2] at hcat
              obtain ⟨m, hm⟩ : ∃ m, E.length = m := ⟨_, rfl⟩
              rw [hm] at hez hes
              have hlong : ¬ 9223372036854775807 < t.size + u.size := by omega
              have hts2 : t2.size ≤ 4 * (k2 + 1) := by
                have := congrArg ByteArray.size hcat
                rw [ByteArray.size_append] at this
                omega
              have HT2 := Lib.hid ht2
              have HU := Lib.hid hu
              have HM := Lib.hid hm
              have HAT := Lib.hid hat
              have hnb : badPt z = !okZ z := by rw [hgood, Bool.not_not]
              have hways : (okZ z = true ∧ 1 ≤ m ∧ badPt z = false) ∨ (okZ z = false ∧ m = 0 ∧ badPt z = true) := by
                cases hok : okZ z with
                | true => exact .inl ⟨rfl, hez.2.1 hok, by rw [hnb, hok]; rfl⟩
                | false => exact .inr ⟨rfl, by rw [← hm, hez.2.2 hok]; rfl, by rw [hnb, hok]; rfl⟩
              clear hz ht hE hu ht2 hwt hat hes hez hgood hkl hm hnb
              go_wp2_with fail
              refine (HW.out _).mono ?_
              rintro e w6 ⟨b6, a6, c6, rfl, hB6⟩
              have hcv6 := hB6.conv (P := Tryd.prog) 33 5 Tryd.underlying33 Tryd.underlying5 9 Tryd.underlying9 m c6 HM.out.symm
              rw [HU.out] at hcv6
              rw [HM.out]
              replace b6 := hb2.trans (b6.mono hb2.size)
              clear hB6 HW d3
              rcases hways with ⟨_, h1, hbad⟩ | ⟨_, rfl, hbad⟩
              · have q0 : ((m : Int) == 0) = false := by simp; omega
                have HG2 : Hid ((g = 0 ∧ (l.take (k2 + 1)).any badPt = false) ∨ (g = 3 ∧ (l.take (k2 + 1)).any badPt = true)) := by
                  rw [HAT.out, hbad, Bool.or_false]; exact HG.out
                clear HG
                go_wp2
                go_roundw
                case rel => exact ⟨k2 + 1, g, by omega, by rw [HT2.out], rfl, by go_num, HG2, by rw [HT2.out]; exact hts2, b6⟩
                case measure => simp [intOf]; omega
              · have HG2 : Hid ((l.take (k2 + 1)).any badPt = true) := by
                  rw [HAT.out, hbad]; simp [Hid]
                clear HG
                go_wp2
                go_roundw
                case rel => exact ⟨k2 + 1, 3, by omega, by rw [HT2.out], rfl, by go_num, .inr ⟨rfl, HG2.out⟩, by rw [HT2.out]; exact hts2, b6⟩
                case measure => simp [intOf]; omega
            · have hall : l.take k2 = l := List.take_of_length_le (by have := HL.out; omega)
              rw [hall] at HG hts ⊢
              have hwj := @want_join l
              have hbj : l.any badPt = true → joinV l = (⟨#[]⟩, 3) := fun h => by unfold joinV; rw [if_pos h]
              obtain ⟨t, ht⟩ : ∃ t, strN (wantL l) = t := ⟨_, rfl⟩
              rw [ht] at hwj hts ⊢
              have hg := HG.out
              clear HG hall ht
              rcases hg with ⟨rfl, hg⟩ | ⟨rfl, hg⟩
              · rw [hwj hg] at HJ
                have qt : (t.toList == t.toList) = true := by simp
                dsimp only at HJ
                clear hwj hbj
                go_wp2_with fail
                refine (HJ.out _ hb2).mono ?_
                rintro e w7 ⟨rfl, b7⟩
                replace b7 := hb2.trans (b7.mono hb2.size)
                clear hb2
                go_wp2_with fail
                refine (HA.out _ b7).mono ?_
                rintro e w8 ⟨rfl, b8⟩
                replace b8 := b7.trans (b8.mono b7.size)
                go_wp2
                go_ret
                exact ⟨rfl, b8⟩
              · rw [hbj hg] at HJ
                dsimp only at HJ
                clear hwj hbj
                go_wp2_with fail
                refine (HJ.out _ hb2).mono ?_
                rintro e w7 ⟨rfl, b7⟩
                replace b7 := hb2.trans (b7.mono hb2.size)
                clear hb2
                go_wp2_with fail
                refine (HA.out _ b7).mono ?_
                rintro e w8 ⟨rfl, b8⟩
                replace b8 := b7.trans (b8.mono b7.size)
                go_wp2
                go_ret
                exact ⟨rfl, b8⟩
end Go.Proofs.YtfbknfdbfnklmaaDoor
