/- Several texts of one proof, one behind the other. -/
import Derived.Test.YtialpfdhdcjpaaaSPk15
import Derived.OpenShut
import Derived.Lib.SmallJoins
set_option linter.unusedSimpArgs false
set_option linter.unusedVariables false

/- The walk of schema.KeyOf. -/
set_option linter.unusedSimpArgs false
set_option linter.unusedVariables false
set_option maxRecDepth 100000
namespace Go.Proofs.Ytialpfdhdcjpaaa
open Go.RowKit

/-- A row that came in. -/
structure RowAt (w : World) (l : List Vl) (a : Option Addr) (len cap : Nat) : Prop where
  vs : Vs w.heap.size w a l
  len_ : len = l.length
  max : len ≤ 1000000
  fair : ∀ x ∈ l, x.fair
theorem RowAt.later {w w' : World} {l : List Vl} {a : Option Addr} {len cap : Nat} (h : RowAt w l a len cap) (hb : Below w.heap.size w w') : RowAt w' l a len cap := ⟨(h.vs.below hb).mono hb.size, h.len_, h.max, h.fair⟩
theorem zeroVl_fair : zeroVl.fair := ⟨by decide, by decide, by decide⟩
theorem getD_fair {l : List Vl} (h : ∀ x ∈ l, x.fair) (i : Nat) : (l.getD i zeroVl).fair := by
  rw [List.getD_eq_getElem?_getD]
  cases hi : l[i]? with
  | none => exact zeroVl_fair
  | some x => exact h x (List.mem_of_getElem? hi)
theorem frontV_fair {ks : List Int} {l : List Vl} (h : ∀ x ∈ l, x.fair) : ∀ x ∈ frontV ks l, x.fair := fun x hx => by
  obtain ⟨k, -, rfl⟩ := List.mem_map.1 hx
  exact getD_fair h _
theorem partsV_fair {t : Tb} {l : List Vl} (h : ∀ x ∈ l, x.fair) : ∀ x ∈ partsV t l, x.fair := fun x hx => by
  rcases List.mem_append.1 hx with hx | hx
  · exact frontV_fair h x hx
  · split at hx
    · simp at hx; subst hx; exact getD_fair h _
    · simp at hx

set_option maxHeartbeats 8000000 in
theorem sKeyOf_any (t : Tb) (m : TM) (l : List Vl) (a : Option Addr) (len cap : Nat) (w : World) (h : TAt w t m) (hr : RowAt w l a len cap) :
    Calls Try.prog 19 #[m.v t, .slice a len cap] w (RetBE w (keyOf t l)) := by
  obtain ⟨i0, hi, hz0, hz1, hz2⟩ := info_parts info_valS
  have HR := Lib.hid (fun W (hb : Below w.heap.size w W) => sRight_any t m W (h.later hb))
  have hs0 : w.heap.size < (w.alloc (.cells (m.cs t) 25)).heap.size := by simp
  have HX0 : Hid (TBox (w.alloc (.cells (m.cs t) 25)) w.heap.size m t) := TBox.new w m t _
  have HB0 : Hid (Below w.heap.size w (w.alloc (.cells (m.cs t) 25))) := (Below.refl _ w).alloc (Nat.le_refl _) _
  by_cases ht : t.ok = true
  · rw [ht] at HR
    have hOk := Tb.ok_iff.1 ht
    have hcl := h.hc
    have hcm := h.cmax
    have hrl := hr.len_
    have hrm := hr.max
    by_cases hlen : len = m.cl
    · have hll : l.length = t.cols.length := by omega
      have hql : ((len : Int) != (m.cl : Int)) = false := by simp; omega
      have HCol := Lib.hid h.carr
      have HRow := Lib.hid hr
      have HTA := Lib.hid h
      have HOk := Lib.hid hOk
      have HT := Lib.hid ht
      have HLL := Lib.hid hll
      have HCL := Lib.hid hcl
      have HRL := Lib.hid hrl
      obtain ⟨ca, cl, cc, ka, kl, kc⟩ := m
      dsimp only at hlen HCol hql hcm HCL
      subst hlen
      clear h hr ht hOk hcl hrl hll
      go_enter Try.func19, Try.ntmps19
      go_wp2_with fail
      refine (HR.out _ HB0.out).mono ?_
      rintro e w1 ⟨rfl, hb1⟩
      have hlt1 : w.heap.size < w1.heap.size := Nat.lt_of_lt_of_le hs0 hb1.size
      have HBw : Hid (Below w.heap.size w w1) := HB0.out.trans (hb1.mono (Nat.le_of_lt hs0))
      have HX1 := Lib.hid (HX0.out.later hs0 hb1)
      clear hb1 HX0 HB0 hs0 HR
      obtain ⟨x0, x1, x2, x3, x4, x5, x6, x7⟩ := HX1.out
      dsimp only at x0 x1 x2 x3 x4 x5 x6 x7
      go_wp2_with fail
      go_loopw [26] (fun i wr => ∃ k : Nat, k ≤ len ∧ i = .int .i64 k ∧ Hid (∀ (i : Nat) c x, i < k → t.cols[i]? = some c → l[i]? = some x → chkV c x = 0) ∧ Below w.heap.size w wr ∧ Hid (TBox wr w.heap.size ⟨ca, len, cc, ka, kl, kc⟩ t) ∧ w.heap.size < wr.heap.size) (fun i _ => len - (intOf i).toNat)
      case atStart => exact ⟨0, by omega, rfl, (by intro i c x hi; omega), HBw.out, HX1, hlt1⟩
      case round =>
        clear x0 x1 x2 x3 x4 x5 x6 x7
        obtain ⟨k, hk, rfl, HI, hb, HX, hsz⟩ := hrel
        by_cases hlt : k < len
        · have hkc : k < t.cols.length := by have := HCL.out; omega
          have hkx : k < l.length := by have := HRL.out; omega
          obtain ⟨b, o, rfl, hbN, c0, c1, c2⟩ := colAt HCol.out hkc
          obtain ⟨b2, o2, rfl, hbN2, v0, v1, v2⟩ := HRow.out.vs.at_ hkx
          replace c0 := (hb.cell (p := ⟨b, o + k * 3, none⟩) hbN).trans c0
          replace c1 := (hb.cell (p := ⟨b, o + k * 3 + 1, none⟩) hbN).trans c1
          replace c2 := (hb.cell (p := ⟨b, o + k * 3 + 2, none⟩) hbN).trans c2
          replace v0 := (hb.cell (p := ⟨b2, o2 + k * 3, none⟩) hbN2).trans v0
          replace v1 := (hb.cell (p := ⟨b2, o2 + k * 3 + 1, none⟩) hbN2).trans v1
          replace v2 := (hb.cell (p := ⟨b2, o2 + k * 3 + 2, none⟩) hbN2).trans v2
          have HFst : Hid (chkV t.cols[k] l[k] ≠ 0 → keyOf t l = ([], chkV t.cols[k] l[k])) := fun hne => by
            have e := rowErr_first t.cols l k hkc hkx (fun i c x hi h1 h2 => HI.out i c x hi h1 h2) hne
            exact keyOf_bad (by rw [rowE3 HT.out HLL.out (by rw [e]; exact hne), e]) hne
          have HNx : Hid (chkV t.cols[k] l[k] = 0 → ∀ (i : Nat) c x, i < k + 1 → t.cols[i]? = some c → l[i]? = some x → chkV c x = 0) := fun h0 i c x hi h1 h2 => by
            by_cases hik : i = k
            · subst hik
              rw [List.getElem?_eq_getElem hkc] at h1
              rw [List.getElem?_eq_getElem hkx] at h2
              injection h1 with h1; injection h2 with h2
              rw [← h1, ← h2]; exact h0
            · exact HI.out i c x (by omega) h1 h2
          have HC := Lib.hid (fun W => sCheckC_any t.cols[k] l[k] W)
          obtain ⟨cx, hcx⟩ : ∃ x, x = t.cols[k] := ⟨_, rfl⟩
          obtain ⟨vx, hvx⟩ : ∃ x, x = l[k] := ⟨_, rfl⟩
          rw [← hcx] at c0 c1 c2 HC HFst HNx
          rw [← hvx] at v0 v1 v2 HC HFst HNx
          clear hcx hvx HI
          generalize chkV cx vx = q at *
          obtain ⟨nm, kd, nn⟩ := cx
          obtain ⟨vk, vn, vs⟩ := vx
          dsimp only at c0 c1 c2 v0 v1 v2 HC
          have HF : Hid (∀ W, Later (wr.alloc (.cells #[.string nm, .int .u8 (kd : Int), .bool nn] 68)).drew W → W.cell? ⟨wr.heap.size, 0, none⟩ = some (.string nm) ∧ W.cell? ⟨wr.heap.size, 1, none⟩ = some (.int .u8 (kd : Int)) ∧ W.cell? ⟨wr.heap.size, 2, none⟩ = some (.bool nn) ∧ Below wr.heap.size wr W) := fun W hW => by
            have h1 := Later.undrew hW
            have hb0 := Blk.new wr 68 #[.string nm, .int .u8 (kd : Int), .bool nn]
            have hb1 := hb0.belS h1 (by simp)
            exact ⟨(hb1.cell 0).trans rfl, (hb1.cell 1).trans rfl, (hb1.cell 2).trans rfl, ((Below.refl _ wr).alloc (Nat.le_refl _) _).trans (Below.mono h1 (by simp))⟩
          have e0 := fun W hW => (HF.out W hW).1
          have e1 := fun W hW => (HF.out W hW).2.1
          have e2 := fun W hW => (HF.out W hW).2.2.1
          have e3 : ∀ W, Later (wr.alloc (.cells #[.string nm, .int .u8 (kd : Int), .bool nn] 68)).drew W → W.cell? ⟨b2, o2 + k * 3, none⟩ = some (.int .u8 (vk : Int)) := fun W hW => ((HF.out W hW).2.2.2.cell (p := ⟨b2, o2 + k * 3, none⟩) (by show b2 < wr.heap.size; omega)).trans v0
          have e4 : ∀ W, Later (wr.alloc (.cells #[.string nm, .int .u8 (kd : Int), .bool nn] 68)).drew W → W.cell? ⟨b2, o2 + k * 3 + 1, none⟩ = some (.int .i64 vn) := fun W hW => ((HF.out W hW).2.2.2.cell (p := ⟨b2, o2 + k * 3 + 1, none⟩) (by show b2 < wr.heap.size; omega)).trans v1
          have e5 : ∀ W, Later (wr.alloc (.cells #[.string nm, .int .u8 (kd : Int), .bool nn] 68)).drew W → W.cell? ⟨b2, o2 + k * 3 + 2, none⟩ = some (.string vs) := fun W hW => ((HF.out W hW).2.2.2.cell (p := ⟨b2, o2 + k * 3 + 2, none⟩) (by show b2 < wr.heap.size; omega)).trans v2
          have HN : Hid (∀ W, Later (wr.alloc (.cells #[.string nm, .int .u8 (kd : Int), .bool nn] 68)).drew W → Below w.heap.size w W ∧ TBox W w.heap.size ⟨some ⟨b, o, none⟩, len, cc, ka, kl, kc⟩ t ∧ w.heap.size < W.heap.size) := fun W hW => by
            have h1 := (HF.out W hW).2.2.2
            exact ⟨hb.trans (h1.mono (by omega)), HX.out.later hsz h1, by have := h1.size; omega⟩
          clear hbN hbN2 v0 v1 v2 HF
          go_wp2_with fail
          refine wp_region_ord [(0, true), (1, true), (2, true), (3, true), (4, true), (5, false), (6, true)] (by kernel_rfl) (by kernel_rfl) (by kernel_rfl) (by kernel_rfl) ?_
          repeat (first | (refine wpO_F (v := ?_) rfl (by rfl) (fun w' hL => ?_) ?_; rotate_left; (solve | (go_simp; with_reducible rfl) | go_simp); try simp only [Act.put, List.setIfInBounds_toArray, List.set_cons_zero, List.set_cons_succ]) | (refine wpO_G rfl (by rfl) ?_; try simp only [Act.put, List.setIfInBounds_toArray, List.set_cons_zero, List.set_cons_succ]))
          refine wpO_C rfl (by rfl) ?_
          go_simp
          refine (HC.out _).mono ?_
          rintro e w2 ⟨rfl, hb2⟩
          refine ⟨hb2, ?_⟩
          try simp only [Act.put, List.setIfInBounds_toArray, List.set_cons_zero, List.set_cons_succ]
          repeat (first | (refine wpO_F (v := ?_) rfl (by rfl) (fun w' hL => ?_) ?_; rotate_left; (solve | (go_simp; with_reducible rfl) | go_simp); try simp only [Act.put, List.setIfInBounds_toArray, List.set_cons_zero, List.set_cons_succ]) | (refine wpO_G rfl (by rfl) ?_; try simp only [Act.put, List.setIfInBounds_toArray, List.set_cons_zero, List.set_cons_succ]))
          refine wpO_nil ?_
          have hN := HN.out w2 hb2
          have HN2 := Lib.hid hN
          clear e0 e1 e2 e3 e4 e5 hN HN hb2 HX
          by_cases hq : q = 0
          · subst hq
            have HA := Lib.hid (HNx.out rfl)
            clear HFst HNx
            go_wp2
            go_roundw
            case rel => exact ⟨k + 1, by omega, by go_num, HA.out, HN2.out.1, HN2.out.2.1, HN2.out.2.2⟩
            case measure => simp [intOf]; omega
          · have q1 : (q != 0) = true := by simpa using hq
            have HA := Lib.hid (HFst.out hq)
            clear HFst HNx
            go_wp2
            (try rw [Exit.noGoto_ret])
            go_ret2
            rw [HA.out]
            exact ⟨none, 0, rfl, Nat.le_refl _, ⟨by simp, .inl rfl⟩, HN2.out.1⟩
        · have hErr : rowErr t.cols l = 0 := rowErr_none _ _ (fun i c x h1 h2 => HI.out i c x (by have := (List.getElem?_eq_some_iff.1 h1).1; have := HCL.out; omega) h1 h2)
          have HKy : Hid (¬ (t.per.size ≠ 0 ∧ ¬ (l.getD t.fr.toNat zeroVl).n < (l.getD t.tt.toNat zeroVl).n) → ∀ M q, writeK (partsV t l) = (M, q) → (q ≠ 0 ∨ 80 < M.length → keyOf t l = ([], 2)) ∧ (q = 0 → ¬ 80 < M.length → keyOf t l = (M, 0))) := by
            intro h4 M q hM
            have e := rowE5 HT.out HLL.out hErr h4
            rw [hM] at e
            dsimp only at e
            refine ⟨fun h => keyOf_bad (by rw [e, if_pos h]) (by decide), fun h1 h2 => ?_⟩
            rw [if_neg (by rintro (h | h); exact h h1; exact h2 h)] at e
            rw [keyOf_good e, hM]
          have HNo : Hid (t.per.size ≠ 0 → ¬ (l.getD t.fr.toNat zeroVl).n < (l.getD t.tt.toNat zeroVl).n → keyOf t l = ([], 26)) := fun h1 h2 => keyOf_bad (rowE4 HT.out HLL.out hErr ⟨h1, h2⟩) (by decide)
          have HPer := Lib.hid (fun (hp : t.per.size ≠ 0) => HOk.out.edges hp)
          have HApE := Lib.hid (fun (ha : t.apart = true) => HOk.out.apartEdge ha)
          have HKs : Hid (∀ k ∈ t.key, 0 ≤ k ∧ k.toNat < l.length) := fun k hk => by have := HOk.out.keys k hk; have := HLL.out; omega
          have HHas := Lib.hid (fun W => hasPeriod_any t ⟨ca, len, cc, ka, kl, kc⟩ W)
          have HFr := Lib.hid (fun W (hb : Below w.heap.size w W) => sFront_any t ⟨ca, len, cc, ka, kl, kc⟩ l a len cap W (HTA.out.later hb) (HRow.out.later hb).vs HRL.out HKs.out hrm)
          have HSp := Lib.hid (fun i j hi hj h1 h2 W (hb : Below w.heap.size w W) => sSpan_any t ⟨ca, len, cc, ka, kl, kc⟩ l a len cap i j W (HRow.out.later hb).vs HRL.out hi hj h1 h2 hrm)
          have HPF := Lib.hid (partsV_fair (t := t) HRow.out.fair)
          have HTL := Lib.hid (fun W W' (hX : TBox W w.heap.size ⟨ca, len, cc, ka, kl, kc⟩ t) (hlt : w.heap.size < W.heap.size) (hb : Below W.heap.size W W') => TBox.later hX hlt hb)
          have HTK : Hid (t.key.length ≤ 1000000) := HTA.out.fair.kl
          clear HI hErr HCol HOk HT HTA
          have hs0 := hsz
          have HB0 := Lib.hid hb
          have HX0 := HX
          clear hb hsz HX
          obtain ⟨x00, x01, x02, x03, x04, x05, x06, x07⟩ := HX0.out
          dsimp only at x00 x01 x02 x03 x04 x05 x06 x07
          by_cases hp : t.per.size = 0
          · have hpd : decide (t.per.size ≠ 0) = false := by simp [hp]
            have HH := Lib.hid (fun W => HHas.out W)
            rw [hpd] at HH
            go_wp2_with fail
            refine (HH.out _).mono ?_
            rintro e w11 ⟨rfl, hb1⟩
            have hX1 := HTL.out _ _ HX0.out hs0 hb1
            have hs1 := Nat.lt_of_lt_of_le hs0 hb1.size
            have HB1 := Lib.hid (HB0.out.trans (hb1.mono (Nat.le_of_lt hs0)))
            have HX1 := Lib.hid hX1
            clear hb1 hs0 HX0 HB0 x00 x01 x02 x03 x04 x05 x06 x07
            obtain ⟨x10, x11, x12, x13, x14, x15, x16, x17⟩ := hX1
            dsimp only at x10 x11 x12 x13 x14 x15 x16 x17
            have HK4 := Lib.hid (HKy.out (fun h => h.1 hp))
            clear HKy HNo HPer HSp
            have HB1S : Hid (w.heap.size ≤ w11.heap.size) := HB1.out.size
            go_wp2_with fail
            refine (HFr.out _ HB1.out).mono ?_
            rintro e w12 ⟨v, rfl, hown, hb2⟩
            have hsE := hb2.size
            have hX2 := HTL.out _ _ HX1.out hs1 hb2
            have hs2 := Nat.lt_of_lt_of_le hs1 hb2.size
            have HB2 := Lib.hid (HB1.out.trans (hb2.mono (Nat.le_of_lt hs1)))
            have HX2 := Lib.hid hX2
            clear hb2 hs1 HX1 HB1 x10 x11 x12 x13 x14 x15 x16 x17
            obtain ⟨x20, x21, x22, x23, x24, x25, x26, x27⟩ := hX2
            dsimp only at x20 x21 x22 x23 x24 x25 x26 x27
            obtain ⟨af, cf, hv, hcf, hVf⟩ := hown.slice
            have hfl : (frontV t.key l).length ≤ 1000000 := by unfold frontV; rw [List.length_map]; have := HTK.out; omega
            have HOwn := Lib.hid hown
            have hf3 := HPF.out
            clear hown
            obtain ⟨M, q, hM⟩ : ∃ M q, writeK (partsV t l) = (M, q) := ⟨_, _, rfl⟩
            have HMq := Lib.hid hM
            by_cases hap : t.apart = true
            · rw [hap] at x26
              obtain ⟨i, hfi, hil⟩ := HApE.out hap
              rw [hfi] at x24
              have hil2 : i < l.length := by have := HLL.out; omega
              have him : i < len := by have := HRL.out; omega
              have HV2 := Lib.hid (HRow.out.later HB2.out).vs
              have hgd : l.getD i zeroVl = l[i] := by simp [List.getD_eq_getElem?_getD, List.getElem?_eq_getElem hil2]
              have HPt : partsV t l = frontV t.key l ++ [l[i]] := by
                unfold partsV
                rw [if_pos hap, hfi, Int.toNat_natCast, hgd]
              obtain ⟨b2, o2, rfl, hbN2, g0, g1, g2⟩ := HV2.out.at_ hil2
              obtain ⟨y, hy⟩ : ∃ y, y = l[i] := ⟨_, rfl⟩
              rw [← hy] at g0 g1 g2 HPt
              rw [HPt] at hM hf3
              have hown2 := HOwn.out
              clear hy hgd hil hil2 hfi hap hbN2 HPt HV2 HOwn hVf hcf HApE HKs HFr HHas HPF HTL
              generalize frontV t.key l = F at *
              subst hv
              go_wp2_with (first | (at_builtin; refine wpList_appV1 rfl _ _ 42 rfl w11.heap.size 52 i0 _ 32 Try.underlying42 hi hz0 rfl hz1 hz2 (by omega) _ F w12 hown2 rfl _ _ _ y rfl rfl rfl rfl (by omega) hsE ?_; intro v3 w30 hown3 hb30 hsz30; obtain ⟨a3, c3, hv3, hc3, hV3⟩ := hown3.slice; have HW3 := Lib.hid (KWrite_any (F ++ [y]) a3 (F ++ [y]).length c3 w30 hV3 rfl (by simp; omega) hf3); rw [hM] at HW3; generalize (F ++ [y]).length = k3 at hv3 HW3; subst hv3; have HB30 := Lib.hid (HB2.out.trans (hb30.mono HB1S.out)); clear hown3 hb30 hsz30 hc3 hV3 hown2 hM hf3))
              go_wp2_with fail
              refine HW3.out.mono ?_
              rintro e w31 ⟨aw, cw, rfl, hcap, hBs, hb31⟩
              have HBE := Lib.hid (HB30.out.trans (hb31.mono HB30.out.size))
              have HBs := Lib.hid hBs
              have HCap := Lib.hid hcap
              clear hb31 hBs hcap HW3 HB30
              by_cases hq : q = 0
              · subst hq
                by_cases h80 : 80 < M.length
                · have HA := Lib.hid ((HK4.out M 0 HMq.out).1 (.inr h80))
                  have q80 : decide ((80 : Int) < (M.length : Int)) = true := by simp; omega
                  clear h80 HMq HK4
                  go_wp2
                  (try rw [Exit.noGoto_ret])
                  go_ret2
                  rw [HA.out]
                  exact ⟨none, 0, rfl, Nat.le_refl _, ⟨by simp, .inl rfl⟩, HBE.out⟩
                · have HA := Lib.hid ((HK4.out M 0 HMq.out).2 rfl h80)
                  have q80 : decide ((80 : Int) < (M.length : Int)) = false := by simp; omega
                  clear h80 HMq HK4
                  go_wp2
                  (try rw [Exit.noGoto_ret])
                  go_ret2
                  rw [HA.out]
                  exact ⟨aw, cw, rfl, HCap.out, HBs.out, HBE.out⟩
              · have q1 : (q != 0) = true := by simpa using hq
                have HA := Lib.hid ((HK4.out M q HMq.out).1 (.inl hq))
                clear hq HMq HK4
                go_wp2
                (try rw [Exit.noGoto_ret])
                go_ret2
                rw [HA.out]
                exact ⟨none, 0, rfl, Nat.le_refl _, ⟨by simp, .inl rfl⟩, HBE.out⟩
            · have hap2 : t.apart = false := by simpa using hap
              rw [hap2] at x26
              have HPt : partsV t l = frontV t.key l := by
                unfold partsV
                rw [hap2]; simp
              rw [HPt] at hM hf3
              have HW3 := Lib.hid (KWrite_any (frontV t.key l) af (frontV t.key l).length cf w12 hVf rfl (by omega) hf3)
              rw [hM] at HW3
              have HB30 := HB2
              generalize (frontV t.key l).length = k3 at hv HW3
              subst hv
              clear hap hap2 HPt HOwn hVf hcf HApE HKs HFr HHas HPF HTL hM hf3 hfl
              go_wp2_with fail
              refine HW3.out.mono ?_
              rintro e w31 ⟨aw, cw, rfl, hcap, hBs, hb31⟩
              have HBE := Lib.hid (HB30.out.trans (hb31.mono HB30.out.size))
              have HBs := Lib.hid hBs
              have HCap := Lib.hid hcap
              clear hb31 hBs hcap HW3 HB30
              by_cases hq : q = 0
              · subst hq
                by_cases h80 : 80 < M.length
                · have HA := Lib.hid ((HK4.out M 0 HMq.out).1 (.inr h80))
                  have q80 : decide ((80 : Int) < (M.length : Int)) = true := by simp; omega
                  clear h80 HMq HK4
                  go_wp2
                  (try rw [Exit.noGoto_ret])
                  go_ret2
                  rw [HA.out]
                  exact ⟨none, 0, rfl, Nat.le_refl _, ⟨by simp, .inl rfl⟩, HBE.out⟩
                · have HA := Lib.hid ((HK4.out M 0 HMq.out).2 rfl h80)
                  have q80 : decide ((80 : Int) < (M.length : Int)) = false := by simp; omega
                  clear h80 HMq HK4
                  go_wp2
                  (try rw [Exit.noGoto_ret])
                  go_ret2
                  rw [HA.out]
                  exact ⟨aw, cw, rfl, HCap.out, HBs.out, HBE.out⟩
              · have q1 : (q != 0) = true := by simpa using hq
                have HA := Lib.hid ((HK4.out M q HMq.out).1 (.inl hq))
                clear hq HMq HK4
                go_wp2
                (try rw [Exit.noGoto_ret])
                go_ret2
                rw [HA.out]
                exact ⟨none, 0, rfl, Nat.le_refl _, ⟨by simp, .inl rfl⟩, HBE.out⟩
          · have hpd : decide (t.per.size ≠ 0) = true := by simp [hp]
            have HH := Lib.hid (fun W => HHas.out W)
            rw [hpd] at HH
            obtain ⟨pi, pj, hpi, hpj, hil, hjl⟩ := HPer.out hp
            have HS2 := Lib.hid (fun W hb => HSp.out pi pj hpi hpj (by have := HLL.out; omega) (by have := HLL.out; omega) W hb)
            have HNo2 := Lib.hid (HNo.out hp)
            rw [hpi, hpj, Int.toNat_natCast, Int.toNat_natCast] at HNo2
            have HYes2 : Hid ((l.getD pi zeroVl).n < (l.getD pj zeroVl).n → ¬ (t.per.size ≠ 0 ∧ ¬ (l.getD t.fr.toNat zeroVl).n < (l.getD t.tt.toNat zeroVl).n)) := by
              rw [hpi, hpj, Int.toNat_natCast, Int.toNat_natCast]
              exact fun h1 h2 => h2.2 h1
            clear hpi hpj hil hjl hp hpd
            go_wp2_with fail
            refine (HH.out _).mono ?_
            rintro e w11 ⟨rfl, hb1⟩
            have hX1 := HTL.out _ _ HX0.out hs0 hb1
            have hs1 := Nat.lt_of_lt_of_le hs0 hb1.size
            have HB1 := Lib.hid (HB0.out.trans (hb1.mono (Nat.le_of_lt hs0)))
            have HX1 := Lib.hid hX1
            clear hb1 hs0 HX0 HB0 x00 x01 x02 x03 x04 x05 x06 x07
            obtain ⟨x10, x11, x12, x13, x14, x15, x16, x17⟩ := hX1
            dsimp only at x10 x11 x12 x13 x14 x15 x16 x17
            go_wp2_with fail
            refine (HS2.out _ HB1.out).mono ?_
            rintro e w12 ⟨rfl, hb2⟩
            have hX2 := HTL.out _ _ HX1.out hs1 hb2
            have hs2 := Nat.lt_of_lt_of_le hs1 hb2.size
            have HB2 := Lib.hid (HB1.out.trans (hb2.mono (Nat.le_of_lt hs1)))
            have HX2 := Lib.hid hX2
            clear hb2 hs1 HX1 HB1 x10 x11 x12 x13 x14 x15 x16 x17
            obtain ⟨x20, x21, x22, x23, x24, x25, x26, x27⟩ := hX2
            dsimp only at x20 x21 x22 x23 x24 x25 x26 x27
            generalize (l.getD pi zeroVl).n = nx at *
            generalize (l.getD pj zeroVl).n = ny at *
            have HPR := Lib.hid (fun W => PRight_any nx ny W)
            by_cases hxy : nx < ny
            · have HYes := Lib.hid (HYes2.out hxy)
              rw [decide_eq_true hxy] at HPR
              clear hxy HNo2 HYes2 HS2
              go_wp2_with fail
              refine (HPR.out _).mono ?_
              rintro e w13 ⟨rfl, hb3⟩
              have hX3 := HTL.out _ _ HX2.out hs2 hb3
              have hs3 := Nat.lt_of_lt_of_le hs2 hb3.size
              have HB3 := Lib.hid (HB2.out.trans (hb3.mono (Nat.le_of_lt hs2)))
              have HX3 := Lib.hid hX3
              clear hb3 hs2 HX2 HB2 x20 x21 x22 x23 x24 x25 x26 x27
              obtain ⟨x30, x31, x32, x33, x34, x35, x36, x37⟩ := hX3
              dsimp only at x30 x31 x32 x33 x34 x35 x36 x37
              have HK4 := Lib.hid (HKy.out (HYes.out))
              clear HKy HNo HPer HSp
              have HB3S : Hid (w.heap.size ≤ w13.heap.size) := HB3.out.size
              go_wp2_with fail
              refine (HFr.out _ HB3.out).mono ?_
              rintro e w14 ⟨v, rfl, hown, hb4⟩
              have hsE := hb4.size
              have hX4 := HTL.out _ _ HX3.out hs3 hb4
              have hs4 := Nat.lt_of_lt_of_le hs3 hb4.size
              have HB4 := Lib.hid (HB3.out.trans (hb4.mono (Nat.le_of_lt hs3)))
              have HX4 := Lib.hid hX4
              clear hb4 hs3 HX3 HB3 x30 x31 x32 x33 x34 x35 x36 x37
              obtain ⟨x40, x41, x42, x43, x44, x45, x46, x47⟩ := hX4
              dsimp only at x40 x41 x42 x43 x44 x45 x46 x47
              obtain ⟨af, cf, hv, hcf, hVf⟩ := hown.slice
              have hfl : (frontV t.key l).length ≤ 1000000 := by unfold frontV; rw [List.length_map]; have := HTK.out; omega
              have HOwn := Lib.hid hown
              have hf3 := HPF.out
              clear hown
              obtain ⟨M, q, hM⟩ : ∃ M q, writeK (partsV t l) = (M, q) := ⟨_, _, rfl⟩
              have HMq := Lib.hid hM
              by_cases hap : t.apart = true
              · rw [hap] at x46
                obtain ⟨i, hfi, hil⟩ := HApE.out hap
                rw [hfi] at x44
                have hil2 : i < l.length := by have := HLL.out; omega
                have him : i < len := by have := HRL.out; omega
                have HV2 := Lib.hid (HRow.out.later HB4.out).vs
                have hgd : l.getD i zeroVl = l[i] := by simp [List.getD_eq_getElem?_getD, List.getElem?_eq_getElem hil2]
                have HPt : partsV t l = frontV t.key l ++ [l[i]] := by
                  unfold partsV
                  rw [if_pos hap, hfi, Int.toNat_natCast, hgd]
                obtain ⟨b2, o2, rfl, hbN2, g0, g1, g2⟩ := HV2.out.at_ hil2
                obtain ⟨y, hy⟩ : ∃ y, y = l[i] := ⟨_, rfl⟩
                rw [← hy] at g0 g1 g2 HPt
                rw [HPt] at hM hf3
                have hown2 := HOwn.out
                clear hy hgd hil hil2 hfi hap hbN2 HPt HV2 HOwn hVf hcf HApE HKs HFr HHas HPF HTL
                generalize frontV t.key l = F at *
                subst hv
                go_wp2_with (first | (at_builtin; refine wpList_appV1 rfl _ _ 42 rfl w13.heap.size 52 i0 _ 32 Try.underlying42 hi hz0 rfl hz1 hz2 (by omega) _ F w14 hown2 rfl _ _ _ y rfl rfl rfl rfl (by omega) hsE ?_; intro v3 w30 hown3 hb30 hsz30; obtain ⟨a3, c3, hv3, hc3, hV3⟩ := hown3.slice; have HW3 := Lib.hid (KWrite_any (F ++ [y]) a3 (F ++ [y]).length c3 w30 hV3 rfl (by simp; omega) hf3); rw [hM] at HW3; generalize (F ++ [y]).length = k3 at hv3 HW3; subst hv3; have HB30 := Lib.hid (HB4.out.trans (hb30.mono HB3S.out)); clear hown3 hb30 hsz30 hc3 hV3 hown2 hM hf3))
                go_wp2_with fail
                refine HW3.out.mono ?_
                rintro e w31 ⟨aw, cw, rfl, hcap, hBs, hb31⟩
                have HBE := Lib.hid (HB30.out.trans (hb31.mono HB30.out.size))
                have HBs := Lib.hid hBs
                have HCap := Lib.hid hcap
                clear hb31 hBs hcap HW3 HB30
                by_cases hq : q = 0
                · subst hq
                  by_cases h80 : 80 < M.length
                  · have HA := Lib.hid ((HK4.out M 0 HMq.out).1 (.inr h80))
                    have q80 : decide ((80 : Int) < (M.length : Int)) = true := by simp; omega
                    clear h80 HMq HK4
                    go_wp2
                    (try rw [Exit.noGoto_ret])
                    go_ret2
                    rw [HA.out]
                    exact ⟨none, 0, rfl, Nat.le_refl _, ⟨by simp, .inl rfl⟩, HBE.out⟩
                  · have HA := Lib.hid ((HK4.out M 0 HMq.out).2 rfl h80)
                    have q80 : decide ((80 : Int) < (M.length : Int)) = false := by simp; omega
                    clear h80 HMq HK4
                    go_wp2
                    (try rw [Exit.noGoto_ret])
                    go_ret2
                    rw [HA.out]
                    exact ⟨aw, cw, rfl, HCap.out, HBs.out, HBE.out⟩
                · have q1 : (q != 0) = true := by simpa using hq
                  have HA := Lib.hid ((HK4.out M q HMq.out).1 (.inl hq))
                  clear hq HMq HK4
                  go_wp2
                  (try rw [Exit.noGoto_ret])
                  go_ret2
                  rw [HA.out]
                  exact ⟨none, 0, rfl, Nat.le_refl _, ⟨by simp, .inl rfl⟩, HBE.out⟩
              · have hap2 : t.apart = false := by simpa using hap
                rw [hap2] at x46
                have HPt : partsV t l = frontV t.key l := by
                  unfold partsV
                  rw [hap2]; simp
                rw [HPt] at hM hf3
                have HW3 := Lib.hid (KWrite_any (frontV t.key l) af (frontV t.key l).length cf w14 hVf rfl (by omega) hf3)
                rw [hM] at HW3
                have HB30 := HB4
                generalize (frontV t.key l).length = k3 at hv HW3
                subst hv
                clear hap hap2 HPt HOwn hVf hcf HApE HKs HFr HHas HPF HTL hM hf3 hfl
                go_wp2_with fail
                refine HW3.out.mono ?_
                rintro e w31 ⟨aw, cw, rfl, hcap, hBs, hb31⟩
                have HBE := Lib.hid (HB30.out.trans (hb31.mono HB30.out.size))
                have HBs := Lib.hid hBs
                have HCap := Lib.hid hcap
                clear hb31 hBs hcap HW3 HB30
                by_cases hq : q = 0
                · subst hq
                  by_cases h80 : 80 < M.length
                  · have HA := Lib.hid ((HK4.out M 0 HMq.out).1 (.inr h80))
                    have q80 : decide ((80 : Int) < (M.length : Int)) = true := by simp; omega
                    clear h80 HMq HK4
                    go_wp2
                    (try rw [Exit.noGoto_ret])
                    go_ret2
                    rw [HA.out]
                    exact ⟨none, 0, rfl, Nat.le_refl _, ⟨by simp, .inl rfl⟩, HBE.out⟩
                  · have HA := Lib.hid ((HK4.out M 0 HMq.out).2 rfl h80)
                    have q80 : decide ((80 : Int) < (M.length : Int)) = false := by simp; omega
                    clear h80 HMq HK4
                    go_wp2
                    (try rw [Exit.noGoto_ret])
                    go_ret2
                    rw [HA.out]
                    exact ⟨aw, cw, rfl, HCap.out, HBs.out, HBE.out⟩
                · have q1 : (q != 0) = true := by simpa using hq
                  have HA := Lib.hid ((HK4.out M q HMq.out).1 (.inl hq))
                  clear hq HMq HK4
                  go_wp2
                  (try rw [Exit.noGoto_ret])
                  go_ret2
                  rw [HA.out]
                  exact ⟨none, 0, rfl, Nat.le_refl _, ⟨by simp, .inl rfl⟩, HBE.out⟩
            · have HA := Lib.hid (HNo2.out (by omega))
              rw [decide_eq_false hxy] at HPR
              clear hxy HNo2 HYes2 HS2
              go_wp2_with fail
              refine (HPR.out _).mono ?_
              rintro e w13 ⟨rfl, hb3⟩
              have hX3 := HTL.out _ _ HX2.out hs2 hb3
              have hs3 := Nat.lt_of_lt_of_le hs2 hb3.size
              have HB3 := Lib.hid (HB2.out.trans (hb3.mono (Nat.le_of_lt hs2)))
              have HX3 := Lib.hid hX3
              clear hb3 hs2 HX2 HB2 x20 x21 x22 x23 x24 x25 x26 x27
              obtain ⟨x30, x31, x32, x33, x34, x35, x36, x37⟩ := hX3
              dsimp only at x30 x31 x32 x33 x34 x35 x36 x37
              go_wp2
              (try rw [Exit.noGoto_ret])
              go_ret2
              rw [HA.out]
              exact ⟨none, 0, rfl, Nat.le_refl _, ⟨by simp, .inl rfl⟩, HB3.out⟩
    · have hql : ((len : Int) != (m.cl : Int)) = true := by simp; omega
      have hk := keyOf_bad (rowE2 (l := l) ht (by omega)) (by decide)
      rw [hk]
      clear h hr ht hOk hcl hrl hk
      go_enter Try.func19, Try.ntmps19
      go_wp2_with fail
      refine (HR.out _ HB0.out).mono ?_
      rintro e w1 ⟨rfl, hb1⟩
      have HBw : Hid (Below w.heap.size w w1) := HB0.out.trans (hb1.mono (Nat.le_of_lt hs0))
      obtain ⟨x0, x1, x2, x3, x4, x5, x6, x7⟩ := HX0.out.later hs0 hb1
      clear hb1
      go_wp2
      go_ret2
      exact ⟨none, 0, rfl, Nat.le_refl _, ⟨by simp, .inl rfl⟩, HBw.out⟩
  · have ht2 : t.ok = false := by simpa using ht
    have hk := keyOf_bad (rowE1 (l := l) ht2) (by decide)
    rw [hk]
    rw [ht2] at HR
    clear h hr ht hk
    go_enter Try.func19, Try.ntmps19
    go_wp2_with fail
    refine (HR.out _ HB0.out).mono ?_
    rintro e w1 ⟨rfl, hb1⟩
    have HBw : Hid (Below w.heap.size w w1) := HB0.out.trans (hb1.mono (Nat.le_of_lt hs0))
    go_wp2
    go_ret2
    exact ⟨none, 0, rfl, Nat.le_refl _, ⟨by simp, .inl rfl⟩, HBw.out⟩
end Go.Proofs.Ytialpfdhdcjpaaa

/- The walks of Check, FrontOf and SpanOf. -/
set_option linter.unusedSimpArgs false
set_option linter.unusedVariables false
set_option maxRecDepth 100000
namespace Go.Proofs.Ytialpfdhdcjpaaa
open Go.RowKit

theorem keyOf_err (t : Tb) (l : List Vl) : (keyOf t l).2 = rowE t l := by
  unfold keyOf
  split
  · rename_i h; exact h.symm
  · rfl

set_option maxHeartbeats 1000000 in
theorem sCheck_any (t : Tb) (m : TM) (l : List Vl) (a : Option Addr) (len cap : Nat) (w : World) (h : TAt w t m) (hr : RowAt w l a len cap) :
    Calls Try.prog 23 #[m.v t, .slice a len cap] w fun e w' => e = .returned (.int .i64 (rowE t l)) ∧ Below w.heap.size w w' := by
  have HB0 : Hid (Below w.heap.size w (w.alloc (.cells (m.cs t) 25))) := (Below.refl _ w).alloc (Nat.le_refl _) _
  have HK := Lib.hid (fun W (hb : Below w.heap.size w W) => sKeyOf_any t m l a len cap W (h.later hb) (hr.later hb))
  have he := keyOf_err t l
  rw [← he]
  generalize keyOf t l = X at *
  obtain ⟨M, q⟩ := X
  clear h hr he
  go_enter Try.func23, Try.ntmps23
  go_wp2_with fail
  refine (HK.out _ HB0.out).mono ?_
  rintro e w1 ⟨a1, c1, rfl, hc1, hB1, hb1⟩
  have HB1 := Lib.hid (HB0.out.trans (hb1.mono HB0.out.size))
  clear hb1 hB1 hc1
  go_wp2
  go_ret
  exact ⟨rfl, HB1.out⟩

set_option maxHeartbeats 2000000 in
theorem sFrontOf_any (t : Tb) (m : TM) (l : List Vl) (a : Option Addr) (len cap : Nat) (w : World) (h : TAt w t m) (hr : RowAt w l a len cap) :
    Calls Try.prog 21 #[m.v t, .slice a len cap] w (RetBE w (frontOf t l)) := by
  have HB0 : Hid (Below w.heap.size w (w.alloc (.cells (m.cs t) 25))) := (Below.refl _ w).alloc (Nat.le_refl _) _
  have HX0 : Hid (TBox (w.alloc (.cells (m.cs t) 25)) w.heap.size m t) := TBox.new w m t _
  have hs0 : w.heap.size < (w.alloc (.cells (m.cs t) 25)).heap.size := by simp
  have HC := Lib.hid (fun W (hb : Below w.heap.size w W) => sCheck_any t m l a len cap W (h.later hb) (hr.later hb))
  by_cases h0 : rowE t l = 0
  · have hfo : frontOf t l = writeK (frontV t.key l) := if_pos h0
    rw [hfo]
    rw [h0] at HC
    have hOk : t.Ok := by
      by_cases ht : t.ok = true
      · exact Tb.ok_iff.1 ht
      · rw [rowE1 (by simpa using ht)] at h0; cases h0
    have hll : l.length = t.cols.length := by
      by_cases hll : l.length = t.cols.length
      · exact hll
      · rw [rowE2 (Tb.ok_iff.2 hOk) hll] at h0; cases h0
    have HFr := Lib.hid (fun W (hb : Below w.heap.size w W) => sFront_any t m l a len cap W (h.later hb) (hr.later hb).vs hr.len_ (fun k hk => by have := hOk.keys k hk; omega) hr.max)
    have HPF := Lib.hid (frontV_fair (ks := t.key) hr.fair)
    have hfl : (frontV t.key l).length ≤ 1000000 := by unfold frontV; rw [List.length_map]; exact h.fair.kl
    clear h hr hll hfo hOk h0
    go_enter Try.func21, Try.ntmps21
    go_wp2_with fail
    refine (HC.out _ HB0.out).mono ?_
    rintro e w1 ⟨rfl, hb1⟩
    have HB1 := Lib.hid (HB0.out.trans (hb1.mono (Nat.le_of_lt hs0)))
    obtain ⟨x0, x1, x2, x3, x4, x5, x6, x7⟩ := HX0.out.later hs0 hb1
    clear hb1
    go_wp2_with fail
    refine (HFr.out _ HB1.out).mono ?_
    rintro e w2 ⟨v, rfl, hown, hb2⟩
    have HB2 := Lib.hid (HB1.out.trans (hb2.mono HB1.out.size))
    obtain ⟨af, cf, hv, hcf, hVf⟩ := hown.slice
    have HW := Lib.hid (KWrite_any (frontV t.key l) af (frontV t.key l).length cf w2 hVf rfl (by omega) HPF.out)
    generalize writeK (frontV t.key l) = X at *
    generalize (frontV t.key l).length = k3 at *
    obtain ⟨M, q⟩ := X
    subst hv
    clear hown hb2 hcf hVf x0 x1 x2 x3 x4 x5 x6 x7 HFr HPF
    go_wp2_with fail
    refine HW.out.mono ?_
    rintro e w3 ⟨aw, cw, rfl, hcap, hBs, hb3⟩
    have HB3 := Lib.hid (HB2.out.trans (hb3.mono HB2.out.size))
    have HBs := Lib.hid hBs
    have HCap := Lib.hid hcap
    clear hb3 hBs hcap
    go_wp2
    go_ret2
    exact ⟨aw, cw, rfl, HCap.out, HBs.out, HB3.out⟩
  · have hfo : frontOf t l = ([], rowE t l) := if_neg h0
    rw [hfo]
    generalize rowE t l = q at *
    have q1 : (q != 0) = true := by simpa using h0
    clear h hr hfo h0
    go_enter Try.func21, Try.ntmps21
    go_wp2_with fail
    refine (HC.out _ HB0.out).mono ?_
    rintro e w1 ⟨rfl, hb1⟩
    have HB1 := Lib.hid (HB0.out.trans (hb1.mono (Nat.le_of_lt hs0)))
    clear hb1
    go_wp2
    go_ret2
    exact ⟨none, 0, rfl, Nat.le_refl _, ⟨by simp, .inl rfl⟩, HB1.out⟩
end Go.Proofs.Ytialpfdhdcjpaaa

/- The walks of slices.Equal and of Same. -/
set_option linter.unusedSimpArgs false
set_option linter.unusedVariables false
set_option maxRecDepth 100000
namespace Go.Proofs.Ytialpfdhdcjpaaa
open Go.RowKit

theorem take_stepS {α : Type} {l m : List α} {k : Nat} (hk : k < l.length) (hm : k < m.length) (h : l.take k = m.take k) (he : l[k] = m[k]) : l.take (k + 1) = m.take (k + 1) := by
  rw [List.take_succ_eq_append_getElem hk, List.take_succ_eq_append_getElem hm, h, he]
theorem ne_of_getS {α : Type} {l m : List α} {k : Nat} (hk : k < l.length) (hm : k < m.length) (he : l[k] ≠ m[k]) : l ≠ m := by
  rintro rfl; exact he rfl
theorem ne_colS (s s' : ByteArray) (n n' : Nat) (p p' : Bool) (h : (⟨s, n, p⟩ : Col) ≠ ⟨s', n', p'⟩) : (s.toList == s'.toList && ((n : Int) == (n' : Int) && p == p')) = false := by
  rw [Bool.eq_false_iff]
  intro hb
  simp only [Bool.and_eq_true, beq_iff_eq] at hb
  obtain ⟨h1, h2, rfl⟩ := hb
  exact h (by rw [toList_inj h1, show n = n' by omega])

set_option maxHeartbeats 2000000 in
theorem sEqualI_any (l m : List Int) (a : Option Addr) (len cap : Nat) (a' : Option Addr) (len' cap' : Nat) (w : World) (hV : Arr w.heap.size w a (cellsI l)) (hlen : len = l.length) (hV' : Arr w.heap.size w a' (cellsI m)) (hlen' : len' = m.length)
    (hmax : len ≤ 140737488355328) (hmax' : len' ≤ 140737488355328) :
    Calls Try.prog 44 #[.slice a len cap, .slice a' len' cap'] w fun e w' => e = .returned (.bool (decide (l = m))) ∧ Below w.heap.size w w' := by
  have HV := Lib.hid hV
  have HV' := Lib.hid hV'
  have HL := Lib.hid hlen
  have HL' := Lib.hid hlen'
  by_cases hne : len = len'
  · subst hne
    clear hV hV' hlen hlen'
    go_enter Try.func44, Try.ntmps44
    go_wp2
    go_loopw [13] (fun i wr => ∃ k : Nat, k ≤ len ∧ i = .int .i64 k ∧ Hid (l.take k = m.take k) ∧ Below w.heap.size w wr) (fun i _ => len - (intOf i).toNat)
    case atStart => exact ⟨0, by omega, rfl, by simp [Hid], Below.refl _ _⟩
    case round =>
      obtain ⟨k, hk, rfl, HI, hb⟩ := hrel
      have hsz := hb.size
      by_cases hlt : k < len
      · have hkl : k < l.length := by have := HL.out; omega
        have hkm : k < m.length := by have := HL'.out; omega
        obtain ⟨b, o, rfl, hbN, c0⟩ := intAt HV.out hkl
        obtain ⟨b', o', rfl, hbN', g0⟩ := intAt HV'.out hkm
        have d0 : ∀ W, Later wr.drew W → W.cell? ⟨b, o + k, none⟩ = some (.int .i64 l[k]) := fun W h => ((Later.undrew h : Below wr.heap.size wr W).cell (p := ⟨b, o + k, none⟩) (by show b < wr.heap.size; omega)).trans ((hb.cell (p := ⟨b, o + k, none⟩) hbN).trans c0)
        have e0 : ∀ W, Later wr.drew W → W.cell? ⟨b', o' + k, none⟩ = some (.int .i64 m[k]) := fun W h => ((Later.undrew h : Below wr.heap.size wr W).cell (p := ⟨b', o' + k, none⟩) (by show b' < wr.heap.size; omega)).trans ((hb.cell (p := ⟨b', o' + k, none⟩) hbN').trans g0)
        clear c0 g0
        have HT : Hid (l[k] = m[k] → l.take (k + 1) = m.take (k + 1)) := fun h => take_stepS hkl hkm HI.out h
        have HF : Hid (l[k] ≠ m[k] → decide (l = m) = false) := fun h => decide_eq_false (ne_of_getS hkl hkm h)
        obtain ⟨x, hx⟩ : ∃ x, x = l[k] := ⟨_, rfl⟩
        obtain ⟨y, hy⟩ : ∃ y, y = m[k] := ⟨_, rfl⟩
        rw [← hx] at d0 HT HF
        rw [← hy] at e0 HT HF
        clear hx hy
        by_cases hxy : x = y
        · subst hxy
          have HT2 := Lib.hid (HT.out rfl)
          clear HT HF
          go_wp2_with fail
          refine wp_region_ord [(0, true), (1, true), (2, true), (3, true), (4, true), (5, true), (6, true), (7, true), (8, true)] (by kernel_rfl) (by kernel_rfl) (by kernel_rfl) (by kernel_rfl) ?_
          repeat (first | (refine wpO_F (v := ?_) rfl (by rfl) (fun w' hL => ?_) ?_; rotate_left; (solve | (go_simp; with_reducible rfl) | go_simp); try simp only [Act.put, List.setIfInBounds_toArray, List.set_cons_zero, List.set_cons_succ]) | (refine wpO_G rfl (by rfl) ?_; try simp only [Act.put, List.setIfInBounds_toArray, List.set_cons_zero, List.set_cons_succ]))
          refine wpO_nil ?_
          clear d0 e0
          go_wp2
          go_roundw
          case rel => exact ⟨k + 1, by omega, by go_num, HT2, hb.drew⟩
          case measure => simp [intOf]; omega
        · have HF2 := Lib.hid (HF.out hxy)
          have hnb : (x == y) = false := by simpa using hxy
          have hnb2 : (x != y) = true := by simpa using hxy
          clear HT HF hxy
          go_wp2_with fail
          refine wp_region_ord [(0, true), (1, true), (2, true), (3, true), (4, true), (5, true), (6, true), (7, true), (8, true)] (by kernel_rfl) (by kernel_rfl) (by kernel_rfl) (by kernel_rfl) ?_
          repeat (first | (refine wpO_F (v := ?_) rfl (by rfl) (fun w' hL => ?_) ?_; rotate_left; (solve | (go_simp; with_reducible rfl) | go_simp); try simp only [Act.put, List.setIfInBounds_toArray, List.set_cons_zero, List.set_cons_succ]) | (refine wpO_G rfl (by rfl) ?_; try simp only [Act.put, List.setIfInBounds_toArray, List.set_cons_zero, List.set_cons_succ]))
          refine wpO_nil ?_
          clear d0 e0
          go_wp2
          go_ret
          exact ⟨ret_b HF2.out.symm, hb.drew⟩
      · have hall : l = m := by
          have h1 : l.take k = l := List.take_of_length_le (by have := HL.out; omega)
          have h2 : m.take k = m := List.take_of_length_le (by have := HL'.out; omega)
          have := HI.out
          rw [h1, h2] at this; exact this
        have HA : Hid (decide (l = m) = true) := decide_eq_true hall
        clear hall
        go_wp2
        go_ret
        exact ⟨ret_b HA.out.symm, hb⟩
  · have HA : Hid (decide (l = m) = false) := decide_eq_false (by rintro rfl; exact hne (hlen.trans hlen'.symm))
    have hne' : ((len : Int) != (len' : Int)) = true := by simp; omega
    clear hV hV' hlen hlen'
    go_enter Try.func44, Try.ntmps44
    go_wp2
    go_ret
    exact ⟨ret_b HA.out.symm, Below.refl _ _⟩

set_option maxHeartbeats 2000000 in
theorem sEqualC_any (l m : List Col) (a : Option Addr) (len cap : Nat) (a' : Option Addr) (len' cap' : Nat) (w : World) (hV : Arr w.heap.size w a (cellsO l)) (hlen : len = l.length) (hV' : Arr w.heap.size w a' (cellsO m)) (hlen' : len' = m.length)
    (hmax : len ≤ 140737488355328) (hmax' : len' ≤ 140737488355328) :
    Calls Try.prog 43 #[.slice a len cap, .slice a' len' cap'] w fun e w' => e = .returned (.bool (decide (l = m))) ∧ Below w.heap.size w w' := by
  have HV := Lib.hid hV
  have HV' := Lib.hid hV'
  have HL := Lib.hid hlen
  have HL' := Lib.hid hlen'
  by_cases hne : len = len'
  · subst hne
    clear hV hV' hlen hlen'
    go_enter Try.func43, Try.ntmps43
    go_wp2
    go_loopw [13] (fun i wr => ∃ k : Nat, k ≤ len ∧ i = .int .i64 k ∧ Hid (l.take k = m.take k) ∧ Below w.heap.size w wr) (fun i _ => len - (intOf i).toNat)
    case atStart => exact ⟨0, by omega, rfl, by simp [Hid], Below.refl _ _⟩
    case round =>
      obtain ⟨k, hk, rfl, HI, hb⟩ := hrel
      have hsz := hb.size
      by_cases hlt : k < len
      · have hkl : k < l.length := by have := HL.out; omega
        have hkm : k < m.length := by have := HL'.out; omega
        obtain ⟨b, o, rfl, hbN, c0, c1, c2⟩ := colAt HV.out hkl
        obtain ⟨b', o', rfl, hbN', g0, g1, g2⟩ := colAt HV'.out hkm
        have d0 : ∀ W, Later wr.drew W → W.cell? ⟨b, o + k * 3, none⟩ = some (.string l[k].nm) := fun W h => ((Later.undrew h : Below wr.heap.size wr W).cell (p := ⟨b, o + k * 3, none⟩) (by show b < wr.heap.size; omega)).trans ((hb.cell (p := ⟨b, o + k * 3, none⟩) hbN).trans c0)
        have d1 : ∀ W, Later wr.drew W → W.cell? ⟨b, o + k * 3 + 1, none⟩ = some (.int .u8 (l[k].kd : Int)) := fun W h => ((Later.undrew h : Below wr.heap.size wr W).cell (p := ⟨b, o + k * 3 + 1, none⟩) (by show b < wr.heap.size; omega)).trans ((hb.cell (p := ⟨b, o + k * 3 + 1, none⟩) hbN).trans c1)
        have d2 : ∀ W, Later wr.drew W → W.cell? ⟨b, o + k * 3 + 2, none⟩ = some (.bool l[k].nn) := fun W h => ((Later.undrew h : Below wr.heap.size wr W).cell (p := ⟨b, o + k * 3 + 2, none⟩) (by show b < wr.heap.size; omega)).trans ((hb.cell (p := ⟨b, o + k * 3 + 2, none⟩) hbN).trans c2)
        have e0 : ∀ W, Later wr.drew W → W.cell? ⟨b', o' + k * 3, none⟩ = some (.string m[k].nm) := fun W h => ((Later.undrew h : Below wr.heap.size wr W).cell (p := ⟨b', o' + k * 3, none⟩) (by show b' < wr.heap.size; omega)).trans ((hb.cell (p := ⟨b', o' + k * 3, none⟩) hbN').trans g0)
        have e1 : ∀ W, Later wr.drew W → W.cell? ⟨b', o' + k * 3 + 1, none⟩ = some (.int .u8 (m[k].kd : Int)) := fun W h => ((Later.undrew h : Below wr.heap.size wr W).cell (p := ⟨b', o' + k * 3 + 1, none⟩) (by show b' < wr.heap.size; omega)).trans ((hb.cell (p := ⟨b', o' + k * 3 + 1, none⟩) hbN').trans g1)
        have e2 : ∀ W, Later wr.drew W → W.cell? ⟨b', o' + k * 3 + 2, none⟩ = some (.bool m[k].nn) := fun W h => ((Later.undrew h : Below wr.heap.size wr W).cell (p := ⟨b', o' + k * 3 + 2, none⟩) (by show b' < wr.heap.size; omega)).trans ((hb.cell (p := ⟨b', o' + k * 3 + 2, none⟩) hbN').trans g2)
        clear c0 g0 c1 g1 c2 g2
        have HT : Hid (l[k] = m[k] → l.take (k + 1) = m.take (k + 1)) := fun h => take_stepS hkl hkm HI.out h
        have HF : Hid (l[k] ≠ m[k] → decide (l = m) = false) := fun h => decide_eq_false (ne_of_getS hkl hkm h)
        obtain ⟨x, hx⟩ : ∃ x, x = l[k] := ⟨_, rfl⟩
        obtain ⟨y, hy⟩ : ∃ y, y = m[k] := ⟨_, rfl⟩
        rw [← hx] at d0 d1 d2 HT HF
        rw [← hy] at e0 e1 e2 HT HF
        clear hx hy
        by_cases hxy : x = y
        · subst hxy
          have HT2 := Lib.hid (HT.out rfl)
          clear HT HF
          go_wp2_with fail
          refine wp_region_ord [(0, true), (1, true), (2, true), (3, true), (4, true), (5, true), (6, true), (7, true), (8, true)] (by kernel_rfl) (by kernel_rfl) (by kernel_rfl) (by kernel_rfl) ?_
          repeat (first | (refine wpO_F (v := ?_) rfl (by rfl) (fun w' hL => ?_) ?_; rotate_left; (solve | (go_simp; with_reducible rfl) | go_simp); try simp only [Act.put, List.setIfInBounds_toArray, List.set_cons_zero, List.set_cons_succ]) | (refine wpO_G rfl (by rfl) ?_; try simp only [Act.put, List.setIfInBounds_toArray, List.set_cons_zero, List.set_cons_succ]))
          refine wpO_nil ?_
          clear d0 d1 d2 e0 e1 e2
          go_wp2
          go_roundw
          case rel => exact ⟨k + 1, by omega, by go_num, HT2, hb.drew⟩
          case measure => simp [intOf]; omega
        · have HF2 := Lib.hid (HF.out hxy)
          obtain ⟨xn, xs, xp⟩ := x
          obtain ⟨yn, ys, yp⟩ := y
          have hnb := ne_colS xn yn xs ys xp yp hxy
          simp only at d0 d1 d2 e0 e1 e2
          clear HT HF hxy
          go_wp2_with fail
          refine wp_region_ord [(0, true), (1, true), (2, true), (3, true), (4, true), (5, true), (6, true), (7, true), (8, true)] (by kernel_rfl) (by kernel_rfl) (by kernel_rfl) (by kernel_rfl) ?_
          repeat (first | (refine wpO_F (v := ?_) rfl (by rfl) (fun w' hL => ?_) ?_; rotate_left; (solve | (go_simp; with_reducible rfl) | go_simp); try simp only [Act.put, List.setIfInBounds_toArray, List.set_cons_zero, List.set_cons_succ]) | (refine wpO_G rfl (by rfl) ?_; try simp only [Act.put, List.setIfInBounds_toArray, List.set_cons_zero, List.set_cons_succ]))
          refine wpO_nil ?_
          clear d0 d1 d2 e0 e1 e2
          go_wp2
          go_ret
          exact ⟨ret_b HF2.out.symm, hb.drew⟩
      · have hall : l = m := by
          have h1 : l.take k = l := List.take_of_length_le (by have := HL.out; omega)
          have h2 : m.take k = m := List.take_of_length_le (by have := HL'.out; omega)
          have := HI.out
          rw [h1, h2] at this; exact this
        have HA : Hid (decide (l = m) = true) := decide_eq_true hall
        clear hall
        go_wp2
        go_ret
        exact ⟨ret_b HA.out.symm, hb⟩
  · have HA : Hid (decide (l = m) = false) := decide_eq_false (by rintro rfl; exact hne (hlen.trans hlen'.symm))
    have hne' : ((len : Int) != (len' : Int)) = true := by simp; omega
    clear hV hV' hlen hlen'
    go_enter Try.func43, Try.ntmps43
    go_wp2
    go_ret
    exact ⟨ret_b HA.out.symm, Below.refl _ _⟩

set_option maxHeartbeats 4000000 in
theorem sSame_any (t u : Tb) (m n : TM) (w : World) (h : TAt w t m) (h' : TAt w u n) :
    Calls Try.prog 16 #[m.v t, n.v u] w fun e w' => e = .returned (.bool (decide (t = u))) ∧ Below w.heap.size w w' := by
  have HC := Lib.hid (fun W (hb : Below w.heap.size w W) => sEqualC_any t.cols u.cols m.ca m.cl m.cc n.ca n.cl n.cc W (h.later hb).carr h.hc (h'.later hb).carr h'.hc (by have := h.cmax; omega) (by have := h'.cmax; omega))
  have HI := Lib.hid (fun W (hb : Below w.heap.size w W) => sEqualI_any t.key u.key m.ka m.kl m.kc n.ka n.kl n.kc W (h.later hb).karr h.hk (h'.later hb).karr h'.hk (by have := h.kmax; omega) (by have := h'.kmax; omega))
  have hd : decide (t = u) = (decide (t.name = u.name) && (decide (t.cols = u.cols) && (decide (t.key = u.key) && (decide (t.per = u.per) && (decide (t.fr = u.fr) && (decide (t.tt = u.tt) && (decide (t.apart = u.apart) && decide (t.vers = u.vers)))))))) := by
    obtain ⟨a1, a2, a3, a4, a5, a6, a7, a8⟩ := t
    obtain ⟨b1, b2, b3, b4, b5, b6, b7, b8⟩ := u
    rw [Bool.eq_iff_iff]
    simp
  rw [hd]
  obtain ⟨W0, hW0⟩ : ∃ W0, W0 = (w.alloc (.cells (m.cs t) 25)).alloc (.cells (n.cs u) 25) := ⟨_, rfl⟩
  have hBW : Below w.heap.size w W0 := by rw [hW0]; exact ((Below.refl _ w).alloc (Nat.le_refl _) _).alloc (by simp) _
  have hX0 : TBox W0 w.heap.size m t := by rw [hW0]; exact (TBox.new w m t _).later (N := w.heap.size + 1) (by omega) ((Below.refl _ _).alloc (by simp) _)
  have hY0 : TBox W0 (w.heap.size + 1) n u := by
    rw [hW0]
    have := TBox.new (w.alloc (.cells (m.cs t) 25)) n u 25
    rw [show (w.alloc (.cells (m.cs t) 25)).heap.size = w.heap.size + 1 by simp] at this
    exact this
  have hs0 : w.heap.size + 1 < W0.heap.size := by rw [hW0]; simp
  clear hd h h'
  obtain ⟨c1, q1⟩ : ∃ c, decide (t.name = u.name) = c := ⟨_, rfl⟩
  obtain ⟨c2, q2⟩ : ∃ c, decide (t.cols = u.cols) = c := ⟨_, rfl⟩
  obtain ⟨c3, q3⟩ : ∃ c, decide (t.key = u.key) = c := ⟨_, rfl⟩
  obtain ⟨c4, q4⟩ : ∃ c, decide (t.per = u.per) = c := ⟨_, rfl⟩
  obtain ⟨c5, q5⟩ : ∃ c, decide (t.fr = u.fr) = c := ⟨_, rfl⟩
  obtain ⟨c6, q6⟩ : ∃ c, decide (t.tt = u.tt) = c := ⟨_, rfl⟩
  obtain ⟨c7, q7⟩ : ∃ c, decide (t.apart = u.apart) = c := ⟨_, rfl⟩
  obtain ⟨c8, q8⟩ : ∃ c, decide (t.vers = u.vers) = c := ⟨_, rfl⟩
  have p1 : (t.name.toList == u.name.toList) = c1 := by rw [← q1, Bool.eq_iff_iff, beq_iff_eq, decide_eq_true_iff]; exact ⟨fun h => toList_inj h, fun h => by rw [h]⟩
  have p4 : (t.per.toList == u.per.toList) = c4 := by rw [← q4, Bool.eq_iff_iff, beq_iff_eq, decide_eq_true_iff]; exact ⟨fun h => toList_inj h, fun h => by rw [h]⟩
  have p5 : (t.fr == u.fr) = c5 := by rw [← q5]; rfl
  have p6 : (t.tt == u.tt) = c6 := by rw [← q6]; rfl
  have p7 : (t.apart == u.apart) = c7 := by rw [← q7]; rfl
  have p8 : (t.vers == u.vers) = c8 := by rw [← q8]; rfl
  rw [q1, q2, q3, q4, q5, q6, q7, q8]
  rw [q2] at HC
  rw [q3] at HI
  have HB0 := Lib.hid hBW
  have HX0 := Lib.hid hX0
  have HY0 := Lib.hid hY0
  have HTL := Lib.hid (fun W W' (hX : TBox W w.heap.size m t) (hY : TBox W (w.heap.size + 1) n u) (hlt : w.heap.size + 1 < W.heap.size) (hb : Below W.heap.size W W') => And.intro (TBox.later hX (N := W.heap.size) (by omega) hb) (TBox.later hY hlt hb))
  clear q1 q2 q3 q4 q5 q6 q7 q8 hBW hX0 hY0
  obtain ⟨x0, x1, x2, x3, x4, x5, x6, x7⟩ := HX0.out
  obtain ⟨y0, y1, y2, y3, y4, y5, y6, y7⟩ := HY0.out
  subst hW0
  go_enter Try.func16, Try.ntmps16
  cases c1 with
  | false =>
    go_wp2
    go_ret
    exact ⟨ret_b (by simp), HB0.out⟩
  | true =>
    go_wp2_with fail
    refine (HC.out _ HB0.out).mono ?_
    rintro e w1 ⟨rfl, hb1⟩
    obtain ⟨hX1, hY1⟩ := HTL.out _ _ HX0.out HY0.out hs0 hb1
    have hs1 := Nat.lt_of_lt_of_le hs0 hb1.size
    have HB1 := Lib.hid (HB0.out.trans (hb1.mono (by omega)))
    have HX1 := Lib.hid hX1
    have HY1 := Lib.hid hY1
    clear x0 x1 x2 x3 x4 x5 x6 x7 y0 y1 y2 y3 y4 y5 y6 y7 hb1
    obtain ⟨x0, x1, x2, x3, x4, x5, x6, x7⟩ := hX1
    obtain ⟨y0, y1, y2, y3, y4, y5, y6, y7⟩ := hY1
    cases c2 with
    | false =>
      go_wp2
      go_ret
      exact ⟨ret_b (by simp), HB1.out⟩
    | true =>
      go_wp2_with fail
      refine (HI.out _ HB1.out).mono ?_
      rintro e w2 ⟨rfl, hb2⟩
      obtain ⟨hX2, hY2⟩ := HTL.out _ _ HX1.out HY1.out hs1 hb2
      have hs2 := Nat.lt_of_lt_of_le hs1 hb2.size
      have HB2 := Lib.hid (HB1.out.trans (hb2.mono (by omega)))
      have HX2 := Lib.hid hX2
      have HY2 := Lib.hid hY2
      clear x0 x1 x2 x3 x4 x5 x6 x7 y0 y1 y2 y3 y4 y5 y6 y7 hb2
      obtain ⟨x0, x1, x2, x3, x4, x5, x6, x7⟩ := hX2
      obtain ⟨y0, y1, y2, y3, y4, y5, y6, y7⟩ := hY2
      cases c3 with
      | false =>
        go_wp2
        go_ret
        exact ⟨ret_b (by simp), HB2.out⟩
      | true =>
        cases c4 with
        | false =>
          go_wp2
          go_ret
          exact ⟨ret_b (by simp), HB2.out⟩
        | true =>
          cases c5 with
          | false =>
            go_wp2
            go_ret
            exact ⟨ret_b (by simp), HB2.out⟩
          | true =>
            cases c6 with
            | false =>
              go_wp2
              go_ret
              exact ⟨ret_b (by simp), HB2.out⟩
            | true =>
              cases c7 with
              | false =>
                go_wp2
                go_ret
                exact ⟨ret_b (by simp), HB2.out⟩
              | true =>
                go_wp2
                go_ret
                exact ⟨ret_b (by simp), HB2.out⟩
end Go.Proofs.Ytialpfdhdcjpaaa

/- The walk of hindsightlaw15.alive. -/
set_option linter.unusedSimpArgs false
set_option linter.unusedVariables false
set_option maxRecDepth 100000
namespace Go.Proofs.Ytialpfdhdcjpaaa
open Go.RowKit

abbrev alCs : Array Value := #[.string ⟨#[97]⟩, .int .u8 1, .bool true, .string ⟨#[98]⟩, .int .u8 2, .bool false]
abbrev alTs (b : Nat) : Array Value := #[.string ⟨#[116]⟩, .slice (some ⟨b, 0, none⟩) 2 2, .slice (some ⟨b + 1, 0, none⟩) 1 1, .string ⟨#[]⟩, .int .i64 (-1), .int .i64 (-1), .bool false, .bool false]
def alM (b : Nat) : TM := ⟨some ⟨b, 0, none⟩, 2, 2, some ⟨b + 1, 0, none⟩, 1, 1⟩
/-- The worlds in which the table has been laid. -/
structure AlW (w W : World) : Prop where
  tab : TBox W (w.heap.size + 2) (alM w.heap.size) alT
  at_ : TAt W alT (alM w.heap.size)
  bel : Below w.heap.size w W
  lt : w.heap.size + 2 < W.heap.size
theorem AlW.later {w W W' : World} (h : AlW w W) (hb : Below W.heap.size W W') : AlW w W' := ⟨h.tab.later h.lt hb, h.at_.later hb, h.bel.trans (hb.mono h.bel.size), Nat.lt_of_lt_of_le h.lt hb.size⟩
theorem AlW.new (w : World) (T1 T2 T3 : TypeId) : AlW w (((w.alloc (.cells alCs T1)).alloc (.cells #[.int .i64 0] T2)).alloc (.cells (alTs w.heap.size) T3)) := by
  have hb1 : Below (w.heap.size + 1) (w.alloc (.cells alCs T1)) (((w.alloc (.cells alCs T1)).alloc (.cells #[.int .i64 0] T2)).alloc (.cells (alTs w.heap.size) T3)) := ((Below.refl _ _).alloc (by simp) _).alloc (by simp) _
  have hk1 := (Blk.new w T1 alCs).belS hb1 (by omega)
  have hk2 : Blk (((w.alloc (.cells alCs T1)).alloc (.cells #[.int .i64 0] T2)).alloc (.cells (alTs w.heap.size) T3)) (w.heap.size + 1) T2 #[.int .i64 0] := by
    have := (Blk.new (w.alloc (.cells alCs T1)) T2 #[.int .i64 0]).alloc (.cells (alTs w.heap.size) T3)
    rw [show (w.alloc (.cells alCs T1)).heap.size = w.heap.size + 1 by simp] at this
    exact this
  have hk3 : Blk (((w.alloc (.cells alCs T1)).alloc (.cells #[.int .i64 0] T2)).alloc (.cells (alTs w.heap.size) T3)) (w.heap.size + 2) T3 (alTs w.heap.size) := by
    have := Blk.new ((w.alloc (.cells alCs T1)).alloc (.cells #[.int .i64 0] T2)) T3 (alTs w.heap.size)
    rw [show ((w.alloc (.cells alCs T1)).alloc (.cells #[.int .i64 0] T2)).heap.size = w.heap.size + 2 by simp] at this
    exact this
  refine ⟨⟨(hk3.cell 0).trans rfl, (hk3.cell 1).trans rfl, (hk3.cell 2).trans rfl, (hk3.cell 3).trans rfl, (hk3.cell 4).trans rfl, (hk3.cell 5).trans rfl, (hk3.cell 6).trans rfl, (hk3.cell 7).trans rfl⟩, ⟨rfl, rfl, Nat.le_refl _, Nat.le_refl _, ?_, ?_, alT_fair⟩, ((((Below.refl _ w).alloc (Nat.le_refl _) _).alloc (by simp) _).alloc (by simp; omega) _), hk3.lt⟩
  · refine .inr ⟨w.heap.size, 0, rfl, by simp; omega, fun i v hi => ?_⟩
    rw [Nat.zero_add, hk1.cell i]
    have e : (cellsO alT.cols) = alCs.toList := rfl
    rw [e] at hi
    simpa using hi
  · refine .inr ⟨w.heap.size + 1, 0, rfl, by simp, fun i v hi => ?_⟩
    rw [Nat.zero_add, hk2.cell i]
    have e : (cellsI alT.key) = (#[.int .i64 0] : Array Value).toList := rfl
    rw [e] at hi
    simpa using hi
theorem row_new (W : World) (T : TypeId) (x y : Vl) (hx : x.fair) (hy : y.fair) : RowAt (W.alloc (.cells #[.int .u8 (x.k : Int), .int .i64 x.n, .string x.s, .int .u8 (y.k : Int), .int .i64 y.n, .string y.s] T)) [x, y] (some ⟨W.heap.size, 0, none⟩) 2 2 := by
  refine ⟨.inr ⟨W.heap.size, 0, rfl, by simp, fun i z hi => ?_⟩, rfl, by omega, ?_⟩
  · have hk := Blk.new W T #[.int .u8 (x.k : Int), .int .i64 x.n, .string x.s, .int .u8 (y.k : Int), .int .i64 y.n, .string y.s]
    match i, hi with
    | 0, hi => simp at hi; subst hi; exact ⟨(hk.cell 0).trans rfl, (hk.cell 1).trans rfl, (hk.cell 2).trans rfl⟩
    | 1, hi => simp at hi; subst hi; exact ⟨(hk.cell 3).trans rfl, (hk.cell 4).trans rfl, (hk.cell 5).trans rfl⟩
    | i + 2, hi => simp at hi
  · intro z hz
    simp at hz
    rcases hz with rfl | rfl
    · exact hx
    · exact hy

set_option maxHeartbeats 4000000 in
theorem alive15 (w : World) : Calls Try.prog 9 #[] w fun e w' => e = .returned (.bool true) ∧ Below w.heap.size w w' := by
  have HA0 : Hid (AlW w (((w.alloc (.cells alCs 68)).alloc (.cells #[.int .i64 0] 3)).alloc (.cells (alTs w.heap.size) 25))) := AlW.new w _ _ _
  have HC : Hid (∀ W a, TAt W alT (alM w.heap.size) → RowAt W alR1 a 2 2 → Calls Try.prog 23 #[.agg (alTs w.heap.size), .slice a 2 2] W fun e w' => e = .returned (.int .i64 23) ∧ Below W.heap.size W w') := fun W a h1 h2 => by
    have := sCheck_any alT (alM w.heap.size) alR1 a 2 2 W h1 h2
    rw [alR1_e] at this; exact this
  have HK : Hid (∀ W a, TAt W alT (alM w.heap.size) → RowAt W alR2 a 2 2 → Calls Try.prog 19 #[.agg (alTs w.heap.size), .slice a 2 2] W (RetBE W ([17, 128, 0, 0, 0, 0, 0, 0, 5], 0))) := fun W a h1 h2 => by
    have := sKeyOf_any alT (alM w.heap.size) alR2 a 2 2 W h1 h2
    rw [alR2_key] at this; exact this
  have HW : Hid (∀ W, TAt W alT (alM w.heap.size) → Calls Try.prog 11 #[.agg (alTs w.heap.size)] W (RetLW W (encT alT, 0))) := fun W h1 => by
    have := sWrite_any alT (alM w.heap.size) W h1
    rw [show writeT alT = (encT alT, 0) from if_pos alT_ok] at this; exact this
  have HR : Hid (∀ W, TAt W alT (alM w.heap.size) → Calls Try.prog 12 #[.agg (alTs w.heap.size)] W fun e w' => e = .returned (.bool true) ∧ Below W.heap.size W w') := fun W h1 => by
    have := sRight_any alT (alM w.heap.size) W h1
    rw [alT_ok] at this; exact this
  have HS : Hid (∀ W m, TAt W alT (alM w.heap.size) → TAt W alT m → Calls Try.prog 16 #[.agg (alTs w.heap.size), m.v alT] W fun e w' => e = .returned (.bool true) ∧ Below W.heap.size W w') := fun W m h1 h2 => by
    have := sSame_any alT alT (alM w.heap.size) m W h1 h2
    rw [decide_eq_true rfl] at this; exact this
  have HF : Hid (∀ W, TAt W alT (alM w.heap.size) → Calls Try.prog 14 #[.agg (alTs w.heap.size), .string ⟨#[98]⟩] W fun e w' => e = .returned (.int .i64 1) ∧ Below W.heap.size W w') := fun W h1 => by
    have := sFind_any alT (alM w.heap.size) ⟨#[98]⟩ W h1
    rw [alT_find] at this; exact this
  have HD : Hid (∀ W a c, Bs W.heap.size W a (encT alT) → (encT alT).length ≤ c → Calls Try.prog 27 #[.slice a (encT alT).length c] W fun e w' => ∃ m : TM, e = .returned (.tuple #[.agg #[.string ⟨#[116]⟩, .slice m.ca m.cl m.cc, .slice m.ka m.kl m.kc, .string ⟨#[]⟩, .int .i64 (-1), .int .i64 (-1), .bool false, .bool false], .int .i64 0]) ∧ TAt w' alT m ∧ Below W.heap.size W w') := fun W a c h1 h2 => by
    refine (sRead_at (encT alT) a _ c W h1 rfl h2 (by have := alT_len; omega)).mono ?_
    rintro e w' ⟨t, m, q, rfl, hT, hb, hor⟩
    have hd := decT_enc alT alT_fair alT_Ok
    rw [hd] at hor
    have hw : writeT alT = (encT alT, 0) := if_pos alT_ok
    rcases hor with ⟨rfl, -, rfl⟩ | ⟨-, h, -⟩
    · exact ⟨m, rfl, hT, hb⟩
    · exact absurd hw h
  have HRow : Hid (∀ (W : World) (a : Option Addr), a = some ⟨W.heap.size, 0, none⟩ → RowAt (W.alloc (.cells #[.int .u8 0, .int .i64 0, .string ⟨#[]⟩, .int .u8 0, .int .i64 0, .string ⟨#[]⟩] 52)) alR1 a 2 2) := fun W a ha => ha ▸ row_new W _ ⟨0, 0, ⟨#[]⟩⟩ ⟨0, 0, ⟨#[]⟩⟩ zeroVl_fair zeroVl_fair
  have HRow2 : Hid (∀ (W : World) (a : Option Addr), a = some ⟨W.heap.size, 0, none⟩ → RowAt (W.alloc (.cells #[.int .u8 1, .int .i64 5, .string ⟨#[]⟩, .int .u8 0, .int .i64 0, .string ⟨#[]⟩] 52)) alR2 a 2 2) := fun W a ha => ha ▸ row_new W _ ⟨1, 5, ⟨#[]⟩⟩ ⟨0, 0, ⟨#[]⟩⟩ ⟨by decide, by decide, by decide⟩ zeroVl_fair
  have HAl := Lib.hid (fun W o (h : AlW w W) => h.later ((Below.refl _ W).alloc (Nat.le_refl _) o))
  generalize encT alT = LT at *
  go_enter Try.func9, Try.ntmps9
  go_wp2_with fail
  refine (HC.out _ _ (HAl.out _ _ HA0.out).at_ (HRow.out _ _ (by simp))).mono ?_
  rintro e w1 ⟨rfl, hb1⟩
  have HA1 := Lib.hid ((HAl.out _ _ HA0.out).later hb1)
  clear hb1 HA0 HRow HC
  obtain ⟨x0, x1, x2, x3, x4, x5, x6, x7⟩ := HA1.out.tab
  dsimp only [alM, alT] at x0 x1 x2 x3 x4 x5 x6 x7
  go_wp2_with fail
  refine (HK.out _ _ (HAl.out _ _ HA1.out).at_ (HRow2.out _ _ (by simp))).mono ?_
  rintro e w2 ⟨a2, c2, rfl, hc2, hB2, hb2⟩
  have HA2 := Lib.hid ((HAl.out _ _ HA1.out).later hb2)
  clear hb2 HA1 HRow2 HK hc2 hB2
  clear x0 x1 x2 x3 x4 x5 x6 x7
  obtain ⟨x0, x1, x2, x3, x4, x5, x6, x7⟩ := HA2.out.tab
  dsimp only [alM, alT] at x0 x1 x2 x3 x4 x5 x6 x7
  go_wp2_with fail
  refine (HW.out _ HA2.out.at_).mono ?_
  rintro e w3 ⟨a3, c3, rfl, hc3, hB3, hb3⟩
  have HA3 := Lib.hid (HA2.out.later hb3)
  have HB3 := Lib.hid hB3
  have HC3 := Lib.hid hc3
  clear hb3 HA2 HW hc3 hB3
  clear x0 x1 x2 x3 x4 x5 x6 x7
  obtain ⟨x0, x1, x2, x3, x4, x5, x6, x7⟩ := HA3.out.tab
  dsimp only [alM, alT] at x0 x1 x2 x3 x4 x5 x6 x7
  go_wp2_with fail
  refine (HD.out _ a3 c3 HB3.out HC3.out).mono ?_
  rintro e w4 ⟨m, rfl, hT4, hb4⟩
  have HA4 := Lib.hid (HAl.out _ (.cells #[.string ⟨#[116]⟩, .slice m.ca m.cl m.cc, .slice m.ka m.kl m.kc, .string ⟨#[]⟩, .int .i64 (-1), .int .i64 (-1), .bool false, .bool false] 25) (HA3.out.later hb4))
  have HU4 : Hid (TBox (w4.alloc (.cells #[.string ⟨#[116]⟩, .slice m.ca m.cl m.cc, .slice m.ka m.kl m.kc, .string ⟨#[]⟩, .int .i64 (-1), .int .i64 (-1), .bool false, .bool false] 25)) w4.heap.size m alT) := TBox.new w4 m alT _
  have HT4 := Lib.hid (hT4.later ((Below.refl _ w4).alloc (Nat.le_refl _) (.cells #[.string ⟨#[116]⟩, .slice m.ca m.cl m.cc, .slice m.ka m.kl m.kc, .string ⟨#[]⟩, .int .i64 (-1), .int .i64 (-1), .bool false, .bool false] 25)))
  have hs4 : w4.heap.size < (w4.alloc (.cells #[.string ⟨#[116]⟩, .slice m.ca m.cl m.cc, .slice m.ka m.kl m.kc, .string ⟨#[]⟩, .int .i64 (-1), .int .i64 (-1), .bool false, .bool false] 25)).heap.size := by simp
  clear hb4 HA3 HD hT4 HB3 HC3
  clear x0 x1 x2 x3 x4 x5 x6 x7
  obtain ⟨x0, x1, x2, x3, x4, x5, x6, x7⟩ := HA4.out.tab
  dsimp only [alM, alT] at x0 x1 x2 x3 x4 x5 x6 x7
  go_wp2_with fail
  refine (HR.out _ HA4.out.at_).mono ?_
  rintro e w5 ⟨rfl, hb5⟩
  have HA5 := Lib.hid (HA4.out.later hb5)
  have HT5 := Lib.hid (HT4.out.later hb5)
  obtain ⟨y0, y1, y2, y3, y4, y5, y6, y7⟩ := HU4.out.later hs4 hb5
  dsimp only [alT] at y0 y1 y2 y3 y4 y5 y6 y7
  clear hb5 HA4 HT4 HU4 HR hs4
  clear x0 x1 x2 x3 x4 x5 x6 x7
  obtain ⟨x0, x1, x2, x3, x4, x5, x6, x7⟩ := HA5.out.tab
  dsimp only [alM, alT] at x0 x1 x2 x3 x4 x5 x6 x7
  go_wp2_with fail
  refine (HS.out _ m HA5.out.at_ HT5.out).mono ?_
  rintro e w6 ⟨rfl, hb6⟩
  have HA6 := Lib.hid (HA5.out.later hb6)
  clear hb6 HA5 HS y0 y1 y2 y3 y4 y5 y6 y7
  clear x0 x1 x2 x3 x4 x5 x6 x7
  obtain ⟨x0, x1, x2, x3, x4, x5, x6, x7⟩ := HA6.out.tab
  dsimp only [alM, alT] at x0 x1 x2 x3 x4 x5 x6 x7
  go_wp2_with fail
  refine (HF.out _ HA6.out.at_).mono ?_
  rintro e w7 ⟨rfl, hb7⟩
  have HA7 := Lib.hid (HA6.out.later hb7)
  clear hb7 HA6 HF x0 x1 x2 x3 x4 x5 x6 x7
  go_wp2
  go_ret
  exact ⟨rfl, HA7.out.bel⟩
end Go.Proofs.Ytialpfdhdcjpaaa

/- Rows of values that came in, element by element. -/
set_option linter.unusedSimpArgs false
set_option linter.unusedVariables false
set_option maxRecDepth 100000
namespace Go.Proofs.Ytialpfdhdcjpaaa
open Go.RowKit Go.ChangeShapes Go.WideShapes Go.Deep Go.Joins

theorem cellsOf_at {α : Type} (f : α → List Value) (z : Nat) (hz : 0 < z) (hf : ∀ x, (f x).length = z) : ∀ (l : List α) (i : Nat) (v : Value), (cellsOf f l)[i]? = some v → ∃ y, l[i / z]? = some y ∧ (f y)[i % z]? = some v
  | [], i, v, h => by simp [cellsOf] at h
  | x :: r, i, v, h => by
    have e : cellsOf f (x :: r) = f x ++ cellsOf f r := rfl
    rw [e] at h
    by_cases hi : i < z
    · rw [List.getElem?_append_left (by rw [hf]; exact hi)] at h
      exact ⟨x, by rw [Nat.div_eq_of_lt hi]; rfl, by rw [Nat.mod_eq_of_lt hi]; exact h⟩
    · rw [List.getElem?_append_right (by rw [hf]; omega), hf] at h
      obtain ⟨y, h1, h2⟩ := cellsOf_at f z hz hf r (i - z) v h
      have e1 : i = (i - z) + z := by omega
      refine ⟨y, ?_, ?_⟩
      · rw [e1, Nat.add_div_right _ hz]; exact h1
      · rw [e1, Nat.add_mod_right]; exact h2

/-- A row of values that came in, element by element. -/
theorem row_of {α : Type} (f : α → List Value) (z : Nat) (hz : 0 < z) (hf : ∀ x, (f x).length = z) (Q : α → Prop) (w : World) (x : Addr) (len : Nat)
    (hex : ∀ i : Fin len, ∃ y, Q y ∧ ∀ (j : Nat) (v : Value), (f y)[j]? = some v → w.cell? ((x.add (i.1 * z)).add j) = some v) :
    ∃ L : List α, L.length = len ∧ Arr w.heap.size w (some x) (cellsOf f L) ∧ ∀ y ∈ L, Q y := by
  obtain ⟨g, hg⟩ := Classical.axiomOfChoice hex
  refine ⟨List.ofFn g, by simp, ?_, ?_⟩
  · by_cases h0 : len = 0
    · left; subst h0; simp [cellsOf]
    · right
      obtain ⟨b, o, spot⟩ := x
      have hlen0 : 0 < (f (g ⟨0, by omega⟩)).length := by rw [hf]; exact hz
      have hc0 := (hg ⟨0, by omega⟩).2 0 _ (List.getElem?_eq_getElem hlen0)
      have hspot : spot = none := by
        have := World.cell?_spot hc0
        simpa [Addr.add] using this
      subst hspot
      have hblk := World.block_lt_of_cell? _ _ hc0
      refine ⟨b, o, rfl, by simpa [Addr.add] using hblk, fun i v hv => ?_⟩
      obtain ⟨y, h1, h2⟩ := cellsOf_at f z hz hf _ i v hv
      rw [List.getElem?_ofFn] at h1
      split at h1
      · rename_i hlt
        simp only [Option.some.injEq] at h1
        subst h1
        have hh := (hg ⟨i / z, hlt⟩).2 _ v h2
        have e1 : ((⟨b, o, none⟩ : Addr).add (i / z * z)).add (i % z) = ⟨b, o + i, none⟩ := by
          have : i / z * z + i % z = i := Nat.div_add_mod' i z
          simp only [Addr.add]
          split <;> split <;> simp_all <;> omega
        rw [e1] at hh
        exact hh
      · cases h1
  · intro y hy
    rw [List.mem_ofFn] at hy
    obtain ⟨i, rfl⟩ := hy
    exact (hg i).1

set_option maxRecDepth 100000 in
theorem trod_nums {H : Type} {enc : TypeId × Value → H} {w : World} {fuel : Nat} {cs : List Value} {x : DataW H × List MemPlace}
    (h : DataW.trod enc Try.prog w 0 (fun _ => true) true fuel 23 cs = some x) :
    ∃ (a : Option Addr) (len cap : Nat) (L : List Int), cs = [.slice a len cap] ∧ L.length = len ∧ len ≤ cap ∧ cap ≤ 9223372036854775807 ∧ Arr w.heap.size w a (cellsI L) ∧ ∀ p ∈ L, -9223372036854775808 ≤ p ∧ p ≤ 9223372036854775807 := by
  rcases open_slice Try.underlying23 h with ⟨hcs, _⟩ | ⟨x, l, c, m, n, D, Pl, hcs, _, hl, hm, hmm, _, hi⟩
  · exact ⟨none, 0, 0, [], hcs, rfl, by omega, by omega, .inl rfl, by simp⟩
  · have hmc : m = c := by simpa using hmm
    have hC : Try.prog.cellsOf 3 = 1 := by kernel_rfl
    unfold maxLen at hm
    obtain ⟨L, h1, h2, h3⟩ := row_of (fun n : Int => [Value.int .i64 n]) 1 (by omega) (fun _ => rfl) (fun p => -9223372036854775808 ≤ p ∧ p ≤ 9223372036854775807) w x l (fun i => by
      obtain ⟨cs', hc', ht'⟩ := hi i.1 (by have := i.2; omega)
      rw [hC] at hc'
      obtain ⟨_, hlen, hat⟩ := World.cells?_some hc'
      obtain ⟨s, e0, -, w0⟩ := DataW.trod_int Try.underlying3 ht'
      subst e0
      exact ⟨s, bd_i64 w0, fun j v hj => by rw [hat j (by have := (List.getElem?_eq_some_iff.1 hj).1; simpa using this)]; exact hj⟩)
    exact ⟨some x, l, c, L, hcs, h1, hl, by omega, h2, h3⟩
end Go.Proofs.Ytialpfdhdcjpaaa

/- A table that comes in as an argument. -/
set_option linter.unusedSimpArgs false
set_option linter.unusedVariables false
set_option maxRecDepth 100000
namespace Go.Proofs.Ytialpfdhdcjpaaa
open Go.RowKit Go.ChangeShapes Go.WideShapes Go.Deep Go.Joins

/-- What the walk is told of a table that came in. -/
structure TbIn (w : World) (t : Tb) (m : TM) : Prop where
  hc : m.cl = t.cols.length
  hk : m.kl = t.key.length
  ccap : m.cl ≤ m.cc
  kcap : m.kl ≤ m.kc
  cmax : m.cl ≤ 9223372036854775807
  kmax : m.kl ≤ 9223372036854775807
  carr : Arr w.heap.size w m.ca (cellsO t.cols)
  karr : Arr w.heap.size w m.ka (cellsI t.key)
  nm : t.name.size ≤ 9223372036854775807
  per : t.per.size ≤ 9223372036854775807
  fr : -9223372036854775808 ≤ t.fr ∧ t.fr ≤ 9223372036854775807
  tt : -9223372036854775808 ≤ t.tt ∧ t.tt ≤ 9223372036854775807
  cfair : ∀ c ∈ t.cols, c.nm.size ≤ 9223372036854775807 ∧ c.kd < 256
  kfair : ∀ k ∈ t.key, -9223372036854775808 ≤ k ∧ k ≤ 9223372036854775807

set_option maxRecDepth 100000 in
theorem trod_cols {H : Type} {enc : TypeId × Value → H} {w : World} {fuel : Nat} {cs : List Value} {x : DataW H × List MemPlace}
    (h : DataW.trod enc Try.prog w 0 (fun _ => true) true fuel 22 cs = some x) :
    ∃ (a : Option Addr) (len cap : Nat) (L : List Col), cs = [.slice a len cap] ∧ L.length = len ∧ len ≤ cap ∧ cap ≤ 9223372036854775807 ∧ Arr w.heap.size w a (cellsO L) ∧ ∀ c ∈ L, c.nm.size ≤ 9223372036854775807 ∧ c.kd < 256 := by
  rcases open_slice Try.underlying22 h with ⟨hcs, _⟩ | ⟨x, l, c, m, n, D, Pl, hcs, _, hl, hm, hmm, _, hi⟩
  · exact ⟨none, 0, 0, [], hcs, rfl, by omega, by omega, .inl rfl, by simp⟩
  · have hmc : m = c := by simpa using hmm
    have hC : Try.prog.cellsOf 68 = 3 := by kernel_rfl
    unfold maxLen at hm
    obtain ⟨L, h1, h2, h3⟩ := row_of (fun c : Col => [Value.string c.nm, .int .u8 (c.kd : Int), .bool c.nn]) 3 (by omega) (fun _ => rfl) (fun c => c.nm.size ≤ 9223372036854775807 ∧ c.kd < 256) w x l (fun i => by
      obtain ⟨cs', hc', ht'⟩ := hi i.1 (by have := i.2; omega)
      rw [hC] at hc'
      obtain ⟨_, hlen, hat⟩ := World.cells?_some hc'
      obtain ⟨y0, y1, y2, n', _, _, h0, h1, h2⟩ := trod_struct3 Try.underlying68 ht'
      match cs', hlen with
      | [v0, v1, v2], _ =>
        have g0 : DataW.trod enc Try.prog w 0 (fun _ => true) true n' 9 [v0] = some y0 := h0
        have g1 : DataW.trod enc Try.prog w 0 (fun _ => true) true n' 5 [v1] = some y1 := h1
        have g2 : DataW.trod enc Try.prog w 0 (fun _ => true) true n' 4 [v2] = some y2 := h2
        obtain ⟨s, e0, -, w0⟩ := DataW.trod_string Try.underlying9 g0
        obtain ⟨z, e1, -, w1⟩ := DataW.trod_int Try.underlying5 g1
        obtain ⟨b, e2, -⟩ := DataW.trod_bool Try.underlying4 g2
        simp only [List.cons.injEq, and_true] at e0 e1 e2
        subst e0 e1 e2
        unfold maxLen at w0
        obtain ⟨k, rfl, hk⟩ := nat_u8 w1
        exact ⟨⟨s, k, b⟩, ⟨w0, hk⟩, fun j v hj => by rw [hat j (by have := (List.getElem?_eq_some_iff.1 hj).1; simpa using this)]; exact hj⟩)
    exact ⟨some x, l, c, L, hcs, h1, hl, by omega, h2, h3⟩

set_option maxRecDepth 100000 in
theorem open_table {H : Type} {enc : TypeId × Value → H} {w : World} {r : Reach} {b0 : Nat} {v : Value} {d : DataW H} {p : List MemPlace} (hv : Value.okWide Try.prog w r b0 25 v) (h : DataW.Trod enc Try.prog w 0 (fun _ => true) true 25 v d p) :
    ∃ (t : Tb) (m : TM), v = m.v t ∧ TbIn w t m := by
  obtain ⟨cs, rfl, _⟩ := okWide_struct Try.underlying25 hv
  obtain ⟨fuel, hf⟩ := h
  have hf2 : DataW.trod enc Try.prog w 0 (fun _ => true) true fuel 25 cs.toList = some (d, p) := hf
  obtain ⟨xs, n, _, hx, hl, hlen, hfin⟩ := DataW.trod_struct Try.underlying25 hf2
  have hC : Try.prog.cellsOf 25 = 8 := by kernel_rfl
  rw [hC] at hl
  obtain ⟨cl, hcl⟩ : ∃ cl, cs.toList = cl := ⟨_, rfl⟩
  have hcs : cs = cl.toArray := by rw [← hcl]
  rw [hcl] at hl hfin
  subst hcs
  match cl, hl with
  | [v0, v1, v2, v3, v4, v5, v6, v7], _ =>
    match xs, hlen with
    | [y0, y1, y2, y3, y4, y5, y6, y7], _ =>
      have g0 : DataW.trod enc Try.prog w 0 (fun _ => true) true n 9 [v0] = some y0 := hfin 0 _ rfl
      have g1 : DataW.trod enc Try.prog w 0 (fun _ => true) true n 22 [v1] = some y1 := hfin 1 _ rfl
      have g2 : DataW.trod enc Try.prog w 0 (fun _ => true) true n 23 [v2] = some y2 := hfin 2 _ rfl
      have g3 : DataW.trod enc Try.prog w 0 (fun _ => true) true n 9 [v3] = some y3 := hfin 3 _ rfl
      have g4 : DataW.trod enc Try.prog w 0 (fun _ => true) true n 3 [v4] = some y4 := hfin 4 _ rfl
      have g5 : DataW.trod enc Try.prog w 0 (fun _ => true) true n 3 [v5] = some y5 := hfin 5 _ rfl
      have g6 : DataW.trod enc Try.prog w 0 (fun _ => true) true n 4 [v6] = some y6 := hfin 6 _ rfl
      have g7 : DataW.trod enc Try.prog w 0 (fun _ => true) true n 4 [v7] = some y7 := hfin 7 _ rfl
      obtain ⟨s0, e0, -, w0⟩ := DataW.trod_string Try.underlying9 g0
      obtain ⟨ca, cl, cc, cs, e1, c1, c2, c3, c4, c5⟩ := trod_cols g1
      obtain ⟨ka, kl, kc, ks, e2, k1, k2, k3, k4, k5⟩ := trod_nums g2
      obtain ⟨s3, e3, -, w3⟩ := DataW.trod_string Try.underlying9 g3
      obtain ⟨z4, e4, -, w4⟩ := DataW.trod_int Try.underlying3 g4
      obtain ⟨z5, e5, -, w5⟩ := DataW.trod_int Try.underlying3 g5
      obtain ⟨b6, e6, -⟩ := DataW.trod_bool Try.underlying4 g6
      obtain ⟨b7, e7, -⟩ := DataW.trod_bool Try.underlying4 g7
      simp only [List.cons.injEq, and_true] at e0 e1 e2 e3 e4 e5 e6 e7
      subst e0 e1 e2 e3 e4 e5 e6 e7
      unfold maxLen at w0 w3
      exact ⟨⟨s0, cs, ks, s3, z4, z5, b6, b7⟩, ⟨ca, cl, cc, ka, kl, kc⟩, rfl, ⟨c1.symm, k1.symm, c2, k2, by simp only; omega, by simp only; omega, c4, k4, w0, w3, bd_i64 w4, bd_i64 w5, c5, k5⟩⟩
end Go.Proofs.Ytialpfdhdcjpaaa
