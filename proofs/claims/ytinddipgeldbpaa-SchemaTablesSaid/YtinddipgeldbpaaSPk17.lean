/- Several texts of one proof, one behind the other. -/
import Derived.Test.YtinddipgeldbpaaSPk16
set_option linter.unusedSimpArgs false
set_option linter.unusedVariables false

/- The walk of hindsightlaw15.Great. -/
set_option linter.unusedSimpArgs false
set_option linter.unusedVariables false
set_option maxRecDepth 100000
namespace Go.Proofs.Ytinddipgeldbpaa
open Go.RowKit

/-- Too much for a statement. -/
def greatT (t : Tb) : Bool := t.cols.any (fun c => decide (40 < t.cols.length) || decide (100 < c.nm.size)) || (decide (40 < t.key.length) || (decide (100 < t.name.size) || decide (100 < t.per.size)))
theorem TbIn.at_ {w : World} {t : Tb} {m : TM} (h : TbIn w t m) (hg : greatT t = false) : TAt w t m := by
  unfold greatT at hg
  simp only [Bool.or_eq_false_iff, List.any_eq_false, decide_eq_false_iff_not, Bool.or_eq_true, decide_eq_true_eq, not_or] at hg
  obtain ⟨h1, h2, h3, h4⟩ := hg
  have hcl : t.cols.length ≤ 40 := by
    by_cases h0 : t.cols.length = 0
    · omega
    · have := (h1 _ (List.getElem_mem (show 0 < t.cols.length by omega))).1
      omega
  exact ⟨h.hc, h.hk, h.ccap, h.kcap, h.carr, h.karr, ⟨by omega, by omega, by omega, by omega, h.fr, h.tt, fun c hc => ⟨by have := (h1 c hc).2; omega, (h.cfair c hc).2⟩, h.kfair⟩⟩

theorem any_take_succ {α : Type} (p : α → Bool) (l : List α) (k : Nat) (h : k < l.length) : (l.take (k + 1)).any p = ((l.take k).any p || p l[k]) := by
  rw [List.take_succ_eq_append_getElem h, List.any_append]; simp
theorem any_hit {α : Type} (p : α → Bool) (l : List α) (k : Nat) (h : k < l.length) (hk : p l[k] = true) : l.any p = true := List.any_eq_true.2 ⟨_, List.getElem_mem h, hk⟩

set_option maxHeartbeats 4000000 in
theorem great15_any (t : Tb) (m : TM) (w : World) (h : TbIn w t m) :
    Calls Try.prog 8 #[m.v t] w fun e w' => e = .returned (.bool (greatT t)) ∧ Below w.heap.size w w' := by
  have hcm := h.cmax
  have hkm := h.kmax
  have hcl := h.hc
  have hkl := h.hk
  have HCol := Lib.hid h.carr
  have HCF := Lib.hid (fun c hc => (h.cfair c hc).1)
  have hnm := h.nm
  have hper := h.per
  obtain ⟨ca, cl, cc, ka, kl, kc⟩ := m
  dsimp only at hcm hkm hcl hkl HCol
  subst hcl hkl
  have HB0 : Hid (Below w.heap.size w (w.alloc (.cells (TM.cs ⟨ca, t.cols.length, cc, ka, t.key.length, kc⟩ t) 25))) := (Below.refl _ w).alloc (Nat.le_refl _) _
  obtain ⟨G, hG⟩ : ∃ G, greatT t = G := ⟨_, rfl⟩
  rw [hG]
  have HG := Lib.hid hG
  obtain ⟨p, hp⟩ : ∃ p : Col → Bool, (fun c => decide (40 < t.cols.length) || decide (100 < c.nm.size)) = p := ⟨_, rfl⟩
  have HT : Hid (t.cols.any p = true → G = true) := fun h1 => by rw [← HG.out]; unfold greatT; rw [hp, h1]; rfl
  have HE : Hid (t.cols.any p = false → G = (decide (40 < t.key.length) || (decide (100 < t.name.size) || decide (100 < t.per.size)))) := fun h1 => by rw [← HG.out]; unfold greatT; rw [hp, h1]; rfl
  have HP : Hid (∀ c, p c = (decide (40 < t.cols.length) || decide (100 < c.nm.size))) := fun c => by rw [← hp]
  clear h hG HG hp
  go_enter Try.func8, Try.ntmps8
  go_wp2
  go_loop [3] (fun i => ∃ k : Nat, k ≤ t.cols.length ∧ i = .int .i64 k ∧ Hid ((t.cols.take k).any p = false)) (fun i => t.cols.length - (intOf i).toNat)
  case atStart => exact ⟨0, by omega, rfl, by simp [Hid]⟩
  case round =>
    obtain ⟨k, hk, rfl, HI⟩ := hrel
    by_cases hlt : k < t.cols.length
    · obtain ⟨b, o, rfl, hbN, c0, -, -⟩ := colAt HCol.out hlt
      replace c0 := (HB0.out.cell (p := ⟨b, o + k * 3, none⟩) hbN).trans c0
      have hcf := HCF.out _ (List.getElem_mem hlt)
      have HHit : Hid (p t.cols[k] = true → G = true) := fun h1 => HT.out (any_hit p t.cols k hlt h1)
      have HNx : Hid (p t.cols[k] = false → (t.cols.take (k + 1)).any p = false) := fun h1 => by rw [any_take_succ p t.cols k hlt, HI.out, h1]; rfl
      rw [HP.out t.cols[k]] at HHit HNx
      obtain ⟨x, hx⟩ : ∃ x, x = t.cols[k].nm := ⟨_, rfl⟩
      rw [← hx] at c0 hcf HHit HNx
      clear hx hbN HI
      by_cases h40 : 40 < t.cols.length
      · have HA := Lib.hid (HHit.out (by rw [decide_eq_true h40]; rfl))
        clear HHit HNx
        go_wp2
        go_ret
        exact ⟨ret_b HA.out.symm, HB0.out⟩
      · have q40 : decide ((40 : Int) < (t.cols.length : Int)) = false := by simp; omega
        by_cases h100 : 100 < x.size
        · have HA := Lib.hid (HHit.out (by rw [decide_eq_true h100]; simp))
          clear HHit HNx
          go_wp2
          go_ret
          exact ⟨ret_b HA.out.symm, HB0.out⟩
        · have q100 : decide ((100 : Int) < (x.size : Int)) = false := by simp; omega
          have HA := Lib.hid (HNx.out (by rw [decide_eq_false h40, decide_eq_false h100]; rfl))
          clear HHit HNx
          go_wp2
          go_round
          case rel => exact ⟨k + 1, by omega, by go_num, HA⟩
          case measure => simp [intOf]; omega
    · have hA := HE.out (by have := HI.out; rwa [List.take_of_length_le (by omega)] at this)
      obtain ⟨g1, hg1⟩ : ∃ g, decide (40 < t.key.length) = g := ⟨_, rfl⟩
      obtain ⟨g2, hg2⟩ : ∃ g, decide (100 < t.name.size) = g := ⟨_, rfl⟩
      obtain ⟨g3, hg3⟩ : ∃ g, decide (100 < t.per.size) = g := ⟨_, rfl⟩
      rw [hg1, hg2, hg3] at hA
      have q1 : decide ((40 : Int) < (t.key.length : Int)) = g1 := by rw [← hg1, Bool.eq_iff_iff]; simp; omega
      have q2 : decide ((100 : Int) < (t.name.size : Int)) = g2 := by rw [← hg2, Bool.eq_iff_iff]; simp; omega
      have q3 : decide ((100 : Int) < (t.per.size : Int)) = g3 := by rw [← hg3, Bool.eq_iff_iff]; simp; omega
      have HA := Lib.hid hA
      clear hA hg1 hg2 hg3 HI HT HE
      cases g1 with
      | true =>
        go_wp2
        go_ret
        exact ⟨ret_b (by rw [HA.out]; rfl), HB0.out⟩
      | false =>
        cases g2 with
        | true =>
          go_wp2
          go_ret
          exact ⟨ret_b (by rw [HA.out]; rfl), HB0.out⟩
        | false =>
          go_wp2
          go_ret
          exact ⟨ret_b (by rw [HA.out]; rfl), HB0.out⟩
end Go.Proofs.Ytinddipgeldbpaa

/- The law SchemaBack: its walk. -/
set_option linter.unusedSimpArgs false
set_option linter.unusedVariables false
set_option maxRecDepth 100000
namespace Go.Proofs.Ytinddipgeldbpaa
open Go.RowKit

/-- What stays: the table's box, the table, the bytes. -/
structure BkW (w W : World) (t : Tb) (m : TM) (l : List Nat) (a : Option Addr) : Prop where
  tab : TBox W w.heap.size m t
  at_ : TAt W t m
  bs : Bs W.heap.size W a l
  bel : Below w.heap.size w W
  lt : w.heap.size < W.heap.size
theorem BkW.later {w W W' : World} {t : Tb} {m : TM} {l : List Nat} {a : Option Addr} (h : BkW w W t m l a) (hb : Below W.heap.size W W') : BkW w W' t m l a :=
  ⟨h.tab.later h.lt hb, h.at_.later hb, (h.bs.below hb).mono hb.size, h.bel.trans (hb.mono h.bel.size), Nat.lt_of_lt_of_le h.lt hb.size⟩

theorem textL_le (s : ByteArray) (h : s.size ≤ 1000000) : (textL s).length ≤ s.size + 10 := by
  have := putL_len10 (show s.size < 18446744073709551616 by omega)
  unfold textL; rw [List.length_append, bytesOf_len]; omega
theorem encT_small {t : Tb} (hf : t.Fair) (hg : greatT t = false) (ho : t.Ok) : (encT t).length ≤ 100000 := by
  unfold greatT at hg
  simp only [Bool.or_eq_false_iff, List.any_eq_false, decide_eq_false_iff_not, Bool.or_eq_true, decide_eq_true_eq, not_or] at hg
  obtain ⟨h1, h2, h3, h4⟩ := hg
  have l16 := ho.2.1.2.1
  have l8 := ho.2.2.1.2.1
  have e1 := flat_len encC 140 t.cols (fun c hc => by
    have a1 := textL_le c.nm (hf.cols c hc).1
    have a2 := intL_len (c.kd : Int) (by omega) (by have := (hf.cols c hc).2; omega)
    have a3 := flagL_len c.nn
    have a4 := (h1 c hc).2
    unfold encC
    rw [List.length_append, List.length_append]; omega)
  have e2 := flat_len intL 10 t.key (fun k hk => intL_len k (hf.key k hk).1 (hf.key k hk).2)
  have b1 := textL_le t.name hf.nm
  have b2 := textL_le t.per hf.per
  have b3 := intL_len (t.cols.length : Int) (by omega) (by omega)
  have b4 := intL_len (t.key.length : Int) (by omega) (by omega)
  have b5 := intL_len t.fr hf.fr.1 hf.fr.2
  have b6 := intL_len t.tt hf.tt.1 hf.tt.2
  have b7 := flagL_len t.apart
  have b8 := flagL_len t.vers
  have c1 : t.cols.length * 140 ≤ 16 * 140 := Nat.mul_le_mul_right _ l16
  have c2 : t.key.length * 10 ≤ 8 * 10 := Nat.mul_le_mul_right _ l8
  unfold encT
  simp only [List.length_append]
  omega

set_option maxHeartbeats 8000000 in
theorem schemaBack_walk (t : Tb) (m : TM) (a : Option Addr) (len cap : Nat) (z : List Int) (w : World) (h : TbIn w t m) (hz : IsRow .u8 w a len cap z) :
    Calls Try.prog 6 #[m.v t, .slice a len cap] w fun e w' => e = .returned (.bool true) ∧ Below w.heap.size w w' := by
  obtain ⟨l, hl, hB, hcap, hcm⟩ := hz.bs
  subst hl
  have HAl := Lib.hid (fun W => alive15 W)
  have HB0 : Hid (Below w.heap.size w (w.alloc (.cells (m.cs t) 25))) := (Below.refl _ w).alloc (Nat.le_refl _) _
  have HX0 : Hid (TBox (w.alloc (.cells (m.cs t) 25)) w.heap.size m t) := TBox.new w m t _
  have hs0 : w.heap.size < (w.alloc (.cells (m.cs t) 25)).heap.size := by simp
  have HG := Lib.hid (great15_any t m (w.alloc (.cells (m.cs t) 25)) ⟨h.hc, h.hk, h.ccap, h.kcap, h.cmax, h.kmax, h.carr.later (N := 0) HB0.out, h.karr.later (N := 0) HB0.out, h.nm, h.per, h.fr, h.tt, h.cfair, h.kfair⟩)
  cases hg : greatT t with
  | true =>
    rw [hg] at HG
    clear h hz hB
    go_enter Try.func6, Try.ntmps6
    go_wp2_with fail
    refine HG.out.mono ?_
    rintro e w1 ⟨rfl, hb1⟩
    have HB1 := Lib.hid (HB0.out.trans (hb1.mono (Nat.le_of_lt hs0)))
    clear hb1
    go_wp2_with fail
    refine (HAl.out _).mono ?_
    rintro e w2 ⟨rfl, hb2⟩
    have HB2 := Lib.hid (HB1.out.trans (hb2.mono HB1.out.size))
    clear hb2
    go_wp2
    go_ret
    exact ⟨rfl, HB2.out⟩
  | false =>
    rw [hg] at HG
    have hT := h.at_ hg
    by_cases h600 : 600 < l.length
    · have q6 : decide ((600 : Int) < (l.length : Int)) = true := by simp; omega
      clear h hz hB hT hg
      go_enter Try.func6, Try.ntmps6
      go_wp2_with fail
      refine HG.out.mono ?_
      rintro e w1 ⟨rfl, hb1⟩
      have HB1 := Lib.hid (HB0.out.trans (hb1.mono (Nat.le_of_lt hs0)))
      clear hb1
      go_wp2_with fail
      refine (HAl.out _).mono ?_
      rintro e w2 ⟨rfl, hb2⟩
      have HB2 := Lib.hid (HB1.out.trans (hb2.mono HB1.out.size))
      clear hb2
      go_wp2
      go_ret
      exact ⟨rfl, HB2.out⟩
    · have q6 : decide ((600 : Int) < (l.length : Int)) = false := by simp; omega
      have HK0 : Hid (BkW w (w.alloc (.cells (m.cs t) 25)) t m l a) := ⟨HX0.out, hT.later HB0.out, (hB.below HB0.out).mono HB0.out.size, HB0.out, hs0⟩
      have HW := Lib.hid (fun W (h1 : TAt W t m) => sWrite_any t m W h1)
      have HW2 := Lib.hid (fun u n W (h1 : TAt W u n) => sWrite_any u n W h1)
      have HR := Lib.hid (fun W (h1 : TAt W t m) => sRight_any t m W h1)
      have HS : Hid (∀ W n, TAt W t m → TAt W t n → Calls Try.prog 16 #[m.v t, n.v t] W fun e w' => e = .returned (.bool true) ∧ Below W.heap.size W w') := fun W n h1 h2 => by
        have := sSame_any t t m n W h1 h2
        rw [decide_eq_true rfl] at this; exact this
      have HD := Lib.hid (fun W (h1 : Bs W.heap.size W a l) => sRead_at l a l.length cap W h1 rfl hcap (by omega))
      have HD2 : Hid (∀ W b c, t.ok = true → Bs W.heap.size W b (encT t) → (encT t).length ≤ c → (encT t).length ≤ 1000000 → Calls Try.prog 27 #[.slice b (encT t).length c] W fun e w' => ∃ n : TM, e = .returned (.tuple #[.agg #[.string t.name, .slice n.ca n.cl n.cc, .slice n.ka n.kl n.kc, .string t.per, .int .i64 t.fr, .int .i64 t.tt, .bool t.apart, .bool t.vers], .int .i64 0]) ∧ TAt w' t n ∧ Below W.heap.size W w') := fun W b c ht h1 h2 h3 => by
        refine (sRead_at (encT t) b _ c W h1 rfl h2 h3).mono ?_
        rintro e w' ⟨u, n, q, rfl, hU, hb, hor⟩
        have hd := decT_enc t hT.fair (Tb.ok_iff.1 ht)
        rw [hd] at hor
        have hw : writeT t = (encT t, 0) := if_pos ht
        rcases hor with ⟨rfl, -, rfl⟩ | ⟨-, h, -⟩
        · exact ⟨n, rfl, hU, hb⟩
        · exact absurd hw h
      clear h hz hB HX0 hs0
      go_enter Try.func6, Try.ntmps6
      go_wp2_with fail
      refine HG.out.mono ?_
      rintro e w1 ⟨rfl, hb1⟩
      have HK := HK0
      have hK := HK.out.later hb1
      clear HK
      have HK := Lib.hid hK
      clear hK
      clear hb1 HK0 HB0 HG
      obtain ⟨x0, x1, x2, x3, x4, x5, x6, x7⟩ := HK.out.tab
      by_cases ht : t.ok = true
      · have hlen := encT_small hT.fair hg (Tb.ok_iff.1 ht)
        have HDx := Lib.hid (fun W b c h1 h2 => HD2.out W b c ht h1 h2 (by omega))
        have HWx := Lib.hid (HW.out _ HK.out.at_)
        rw [show writeT t = (encT t, 0) from if_pos ht] at HWx
        rw [ht] at HR
        have HSx := HS
        clear HW HD2 HS hT hg hlen ht
        generalize encT t = LT at *
        go_wp2_with fail
        refine HWx.out.mono ?_
        rintro e w2 ⟨a2, c2, rfl, hc2, hB2, hb2⟩
        have HB2 := Lib.hid hB2
        have HC2 := Lib.hid hc2
        have hK := HK.out.later hb2
        clear HK
        have HK := Lib.hid hK
        clear hK
        clear hb2 hB2 hc2 HWx
        clear x0 x1 x2 x3 x4 x5 x6 x7
        obtain ⟨x0, x1, x2, x3, x4, x5, x6, x7⟩ := HK.out.tab
        go_wp2_with fail
        refine (HDx.out _ a2 c2 HB2.out HC2.out).mono ?_
        rintro e w3 ⟨n0, rfl, hU0, hb3⟩
        have HV : Hid (TBox (w3.alloc (.cells #[.string t.name, .slice n0.ca n0.cl n0.cc, .slice n0.ka n0.kl n0.kc, .string t.per, .int .i64 t.fr, .int .i64 t.tt, .bool t.apart, .bool t.vers] 25)) w3.heap.size n0 t) := TBox.new w3 n0 t _
        have HBy : Hid (Below w3.heap.size w3 (w3.alloc (.cells #[.string t.name, .slice n0.ca n0.cl n0.cc, .slice n0.ka n0.kl n0.kc, .string t.per, .int .i64 t.fr, .int .i64 t.tt, .bool t.apart, .bool t.vers] 25))) := (Below.refl _ _).alloc (Nat.le_refl _) _
        have HU0 := Lib.hid (hU0.later HBy.out)
        have hK := (HK.out.later hb3).later HBy.out
        clear HK hb3 HBy hU0 HB2 HC2 HDx
        have HK := Lib.hid hK
        clear hK
        clear x0 x1 x2 x3 x4 x5 x6 x7
        obtain ⟨x0, x1, x2, x3, x4, x5, x6, x7⟩ := HK.out.tab
        obtain ⟨v0, v1, v2, v3, v4, v5, v6, v7⟩ := HV.out
        have HSy := Lib.hid (HSx.out _ n0 HK.out.at_ HU0.out)
        go_wp2_with fail
        refine HSy.out.mono ?_
        rintro e w4 ⟨rfl, hb4⟩
        have hK := HK.out.later hb4
        clear HK
        have HK := Lib.hid hK
        clear hK
        clear hb4 HSx HSy HU0 HV v0 v1 v2 v3 v4 v5 v6 v7
        clear x0 x1 x2 x3 x4 x5 x6 x7
        obtain ⟨x0, x1, x2, x3, x4, x5, x6, x7⟩ := HK.out.tab
        go_wp2_with fail
        refine (HD.out _ HK.out.bs).mono ?_
        rintro e w5 ⟨u, n, q, rfl, hU, hb, hor⟩
        have HUb : Hid (TBox (w5.alloc (.cells #[.string u.name, .slice n.ca n.cl n.cc, .slice n.ka n.kl n.kc, .string u.per, .int .i64 u.fr, .int .i64 u.tt, .bool u.apart, .bool u.vers] 25)) w5.heap.size n u) := TBox.new w5 n u _
        have HBx : Hid (Below w5.heap.size w5 (w5.alloc (.cells #[.string u.name, .slice n.ca n.cl n.cc, .slice n.ka n.kl n.kc, .string u.per, .int .i64 u.fr, .int .i64 u.tt, .bool u.apart, .bool u.vers] 25))) := (Below.refl _ _).alloc (Nat.le_refl _) _
        have HU := Lib.hid (hU.later HBx.out)
        have hsu : w5.heap.size < (w5.alloc (.cells #[.string u.name, .slice n.ca n.cl n.cc, .slice n.ka n.kl n.kc, .string u.per, .int .i64 u.fr, .int .i64 u.tt, .bool u.apart, .bool u.vers] 25)).heap.size := by simp
        have hncl := hU.hc
        have hK := (HK.out.later hb).later HBx.out
        clear HK hb HBx hU
        have HK := Lib.hid hK
        clear hK
        clear x0 x1 x2 x3 x4 x5 x6 x7
        obtain ⟨x0, x1, x2, x3, x4, x5, x6, x7⟩ := HK.out.tab
        rcases hor with ⟨hu, hw, rfl⟩ | ⟨hu, hw, rfl⟩
        · have HWu := Lib.hid (HW2.out u n _ HU.out)
          rw [show writeT u = (l, 0) by rw [hu]; exact hw] at HWu
          clear hu hw hncl HU HW2 HD
          go_wp2_with fail
          refine HWu.out.mono ?_
          rintro e w6 ⟨a5, c5, rfl, hc5, hB5, hb5⟩
          dsimp only at hB5
          have HB5 := Lib.hid hB5
          have hK := HK.out.later hb5
          clear HK
          have HK := Lib.hid hK
          clear hK
          have hY := HUb.out.later hsu hb5
          have hsv := Nat.lt_of_lt_of_le hsu hb5.size
          clear hb5 hB5 hc5 HWu HUb hsu
          clear x0 x1 x2 x3 x4 x5 x6 x7
          obtain ⟨x0, x1, x2, x3, x4, x5, x6, x7⟩ := HK.out.tab
          go_wp2_with fail
          refine (HAl.out _).mono ?_
          rintro e w7 ⟨rfl, hb6⟩
          have HB6 := Lib.hid ((HB5.out.below hb6).mono hb6.size)
          have hY2 := hY.later hsv hb6
          have hsx := Nat.lt_of_lt_of_le hsv hb6.size
          have hK := HK.out.later hb6
          clear HK
          have HK := Lib.hid hK
          clear hK
          clear hb6 HB5 hY hsv
          clear x0 x1 x2 x3 x4 x5 x6 x7
          obtain ⟨x0, x1, x2, x3, x4, x5, x6, x7⟩ := HK.out.tab
          go_wp2_with fail
          refine (HR.out _ HK.out.at_).mono ?_
          rintro e w8 ⟨rfl, hb7⟩
          have hs1 := ((HB6.out.below hb7).mono hb7.size).str _ c5 rfl
          have hY3 := hY2.later hsx hb7
          have hK := HK.out.later hb7
          clear HK
          have HK := Lib.hid hK
          clear hK
          have hs2 := HK.out.bs.str l.length cap rfl
          have HBe := Lib.hid HK.out.bel
          clear hb7 HB6 hY2 hsx HK x0 x1 x2 x3 x4 x5 x6 x7
          clear hY3
          go_wp2
          go_ret
          exact ⟨ret_b (by simp), HBe.out⟩
        · have HWu := Lib.hid (HW2.out u n _ HU.out)
          rw [show writeT u = ([], 3) by rw [hu]; unfold writeT; rw [zeroTb_ok]; rfl] at HWu
          have HZ0 : Hid (n.cl = 0) := by show _ = _; rw [hncl, hu]; rfl
          clear hu hw hncl HU HW2 HD
          go_wp2_with fail
          refine HWu.out.mono ?_
          rintro e w6 ⟨a5, c5, rfl, hc5, hB5, hb5⟩
          dsimp only at hB5
          have HB5 := Lib.hid hB5
          have hK := HK.out.later hb5
          clear HK
          have HK := Lib.hid hK
          clear hK
          have hY := HUb.out.later hsu hb5
          have hsv := Nat.lt_of_lt_of_le hsu hb5.size
          clear hb5 hB5 hc5 HWu HUb hsu
          clear x0 x1 x2 x3 x4 x5 x6 x7
          obtain ⟨x0, x1, x2, x3, x4, x5, x6, x7⟩ := HK.out.tab
          go_wp2_with fail
          refine (HAl.out _).mono ?_
          rintro e w7 ⟨rfl, hb6⟩
          have HB6 := Lib.hid ((HB5.out.below hb6).mono hb6.size)
          have hY2 := hY.later hsv hb6
          have hsx := Nat.lt_of_lt_of_le hsv hb6.size
          have hK := HK.out.later hb6
          clear HK
          have HK := Lib.hid hK
          clear hK
          clear hb6 HB5 hY hsv
          clear x0 x1 x2 x3 x4 x5 x6 x7
          obtain ⟨x0, x1, x2, x3, x4, x5, x6, x7⟩ := HK.out.tab
          go_wp2_with fail
          refine (HR.out _ HK.out.at_).mono ?_
          rintro e w8 ⟨rfl, hb7⟩
          have hs1 := ((HB6.out.below hb7).mono hb7.size).str _ c5 rfl
          have hY3 := hY2.later hsx hb7
          have hK := HK.out.later hb7
          clear HK
          have HK := Lib.hid hK
          clear hK
          have hs2 := HK.out.bs.str l.length cap rfl
          have HBe := Lib.hid HK.out.bel
          clear hb7 HB6 hY2 hsx HK x0 x1 x2 x3 x4 x5 x6 x7
          have y1 := hY3.c1
          rw [HZ0.out] at y1
          clear hY3 HZ0
          go_wp2
          go_ret
          exact ⟨rfl, HBe.out⟩
      · have ht2 : t.ok = false := by simpa using ht
        have HWx := Lib.hid (HW.out _ HK.out.at_)
        rw [show writeT t = ([], 3) from if_neg ht] at HWx
        rw [ht2] at HR
        clear HW HD2 HS hT hg ht ht2
        go_wp2_with fail
        refine HWx.out.mono ?_
        rintro e w2 ⟨a2, c2, rfl, hc2, hB2, hb2⟩
        have hK := HK.out.later hb2
        clear HK
        have HK := Lib.hid hK
        clear hK
        clear hb2 hB2 hc2 HWx
        clear x0 x1 x2 x3 x4 x5 x6 x7
        obtain ⟨x0, x1, x2, x3, x4, x5, x6, x7⟩ := HK.out.tab
        go_wp2_with fail
        refine (HD.out _ HK.out.bs).mono ?_
        rintro e w3 ⟨u, n, q, rfl, hU, hb, hor⟩
        have HUb : Hid (TBox (w3.alloc (.cells #[.string u.name, .slice n.ca n.cl n.cc, .slice n.ka n.kl n.kc, .string u.per, .int .i64 u.fr, .int .i64 u.tt, .bool u.apart, .bool u.vers] 25)) w3.heap.size n u) := TBox.new w3 n u _
        have HBx : Hid (Below w3.heap.size w3 (w3.alloc (.cells #[.string u.name, .slice n.ca n.cl n.cc, .slice n.ka n.kl n.kc, .string u.per, .int .i64 u.fr, .int .i64 u.tt, .bool u.apart, .bool u.vers] 25))) := (Below.refl _ _).alloc (Nat.le_refl _) _
        have HU := Lib.hid (hU.later HBx.out)
        have hsu : w3.heap.size < (w3.alloc (.cells #[.string u.name, .slice n.ca n.cl n.cc, .slice n.ka n.kl n.kc, .string u.per, .int .i64 u.fr, .int .i64 u.tt, .bool u.apart, .bool u.vers] 25)).heap.size := by simp
        have hncl := hU.hc
        have hK := (HK.out.later hb).later HBx.out
        clear HK hb HBx hU
        have HK := Lib.hid hK
        clear hK
        clear x0 x1 x2 x3 x4 x5 x6 x7
        obtain ⟨x0, x1, x2, x3, x4, x5, x6, x7⟩ := HK.out.tab
        rcases hor with ⟨hu, hw, rfl⟩ | ⟨hu, hw, rfl⟩
        · have HWu := Lib.hid (HW2.out u n _ HU.out)
          rw [show writeT u = (l, 0) by rw [hu]; exact hw] at HWu
          clear hu hw hncl HU HW2 HD
          go_wp2_with fail
          refine HWu.out.mono ?_
          rintro e w4 ⟨a5, c5, rfl, hc5, hB5, hb5⟩
          dsimp only at hB5
          have HB5 := Lib.hid hB5
          have hK := HK.out.later hb5
          clear HK
          have HK := Lib.hid hK
          clear hK
          have hY := HUb.out.later hsu hb5
          have hsv := Nat.lt_of_lt_of_le hsu hb5.size
          clear hb5 hB5 hc5 HWu HUb hsu
          clear x0 x1 x2 x3 x4 x5 x6 x7
          obtain ⟨x0, x1, x2, x3, x4, x5, x6, x7⟩ := HK.out.tab
          go_wp2_with fail
          refine (HAl.out _).mono ?_
          rintro e w5 ⟨rfl, hb6⟩
          have HB6 := Lib.hid ((HB5.out.below hb6).mono hb6.size)
          have hY2 := hY.later hsv hb6
          have hsx := Nat.lt_of_lt_of_le hsv hb6.size
          have hK := HK.out.later hb6
          clear HK
          have HK := Lib.hid hK
          clear hK
          clear hb6 HB5 hY hsv
          clear x0 x1 x2 x3 x4 x5 x6 x7
          obtain ⟨x0, x1, x2, x3, x4, x5, x6, x7⟩ := HK.out.tab
          go_wp2_with fail
          refine (HR.out _ HK.out.at_).mono ?_
          rintro e w6 ⟨rfl, hb7⟩
          have hs1 := ((HB6.out.below hb7).mono hb7.size).str _ c5 rfl
          have hY3 := hY2.later hsx hb7
          have hK := HK.out.later hb7
          clear HK
          have HK := Lib.hid hK
          clear hK
          have hs2 := HK.out.bs.str l.length cap rfl
          have HBe := Lib.hid HK.out.bel
          clear hb7 HB6 hY2 hsx HK x0 x1 x2 x3 x4 x5 x6 x7
          clear hY3
          go_wp2
          go_ret
          exact ⟨ret_b (by simp), HBe.out⟩
        · have HWu := Lib.hid (HW2.out u n _ HU.out)
          rw [show writeT u = ([], 3) by rw [hu]; unfold writeT; rw [zeroTb_ok]; rfl] at HWu
          have HZ0 : Hid (n.cl = 0) := by show _ = _; rw [hncl, hu]; rfl
          clear hu hw hncl HU HW2 HD
          go_wp2_with fail
          refine HWu.out.mono ?_
          rintro e w4 ⟨a5, c5, rfl, hc5, hB5, hb5⟩
          dsimp only at hB5
          have HB5 := Lib.hid hB5
          have hK := HK.out.later hb5
          clear HK
          have HK := Lib.hid hK
          clear hK
          have hY := HUb.out.later hsu hb5
          have hsv := Nat.lt_of_lt_of_le hsu hb5.size
          clear hb5 hB5 hc5 HWu HUb hsu
          clear x0 x1 x2 x3 x4 x5 x6 x7
          obtain ⟨x0, x1, x2, x3, x4, x5, x6, x7⟩ := HK.out.tab
          go_wp2_with fail
          refine (HAl.out _).mono ?_
          rintro e w5 ⟨rfl, hb6⟩
          have HB6 := Lib.hid ((HB5.out.below hb6).mono hb6.size)
          have hY2 := hY.later hsv hb6
          have hsx := Nat.lt_of_lt_of_le hsv hb6.size
          have hK := HK.out.later hb6
          clear HK
          have HK := Lib.hid hK
          clear hK
          clear hb6 HB5 hY hsv
          clear x0 x1 x2 x3 x4 x5 x6 x7
          obtain ⟨x0, x1, x2, x3, x4, x5, x6, x7⟩ := HK.out.tab
          go_wp2_with fail
          refine (HR.out _ HK.out.at_).mono ?_
          rintro e w6 ⟨rfl, hb7⟩
          have hs1 := ((HB6.out.below hb7).mono hb7.size).str _ c5 rfl
          have hY3 := hY2.later hsx hb7
          have hK := HK.out.later hb7
          clear HK
          have HK := Lib.hid hK
          clear hK
          have hs2 := HK.out.bs.str l.length cap rfl
          have HBe := Lib.hid HK.out.bel
          clear hb7 HB6 hY2 hsx HK x0 x1 x2 x3 x4 x5 x6 x7
          have y1 := hY3.c1
          rw [HZ0.out] at y1
          clear hY3 HZ0
          go_wp2
          go_ret
          exact ⟨rfl, HBe.out⟩
end Go.Proofs.Ytinddipgeldbpaa

/- The walk of schema.ReadIndex. -/
set_option linter.unusedSimpArgs false
set_option linter.unusedVariables false
set_option maxRecDepth 100000
namespace Go.Proofs.Ytinddipgeldbpaa
open Go.RowKit

def xNm (l : List Nat) : ByteArray := (sdS l 0).1
def xTb (l : List Nat) : ByteArray := (sdS l (sdS l 0).2).1
def xCol (l : List Nat) : Int := (sdI l (sdS l (sdS l 0).2).2).1
theorem xBd (l : List Nat) (h : ∀ c ∈ l, c < 256) (hl : l.length ≤ 1000000) : (xNm l).size ≤ 1000000 ∧ (xTb l).size ≤ 1000000 ∧ -9223372036854775808 ≤ xCol l ∧ xCol l ≤ 9223372036854775807 := by
  have h1 := sdS_bd l h 0 (by omega)
  have h2 := sdS_bd l h (sdS l 0).2 (by omega)
  have h3 := sdI_bd l h (sdS l (sdS l 0).2).2 (by omega)
  unfold xNm xTb xCol
  omega

set_option maxHeartbeats 4000000 in
theorem sReadX_any (l : List Nat) (a : Option Addr) (n c : Nat) (w : World) (hB : Bs w.heap.size w a l) (hn : n = l.length) (hcap : n ≤ c) (hmax : n ≤ 1000000) :
    Calls Try.prog 26 #[.slice a n c] w (RetEd w (writeX (xNm l) (xTb l) (xCol l)) l (.agg #[.string (xNm l), .string (xTb l), .int .i64 (xCol l)]) (.agg #[.string ⟨#[]⟩, .string ⟨#[]⟩, .int .i64 0])) := by
  have hbd := xBd l hB.1 (by omega)
  have HBel0 : Hid (Below w.heap.size w ((w.alloc (.cells #[.string ⟨#[]⟩, .string ⟨#[]⟩, .int .i64 0] 55)).alloc (.cells #[.slice a n c, .int .i64 0] 91))) := ((Below.refl _ w).alloc (Nat.le_refl _) _).alloc (by simp) _
  have HR0 : Hid (Blk ((w.alloc (.cells #[.string ⟨#[]⟩, .string ⟨#[]⟩, .int .i64 0] 55)).alloc (.cells #[.slice a n c, .int .i64 0] 91)) w.heap.size 55 #[.string ⟨#[]⟩, .string ⟨#[]⟩, .int .i64 0]) := (Blk.new w _ _).alloc _
  have HD0 : Hid (DecAt ((w.alloc (.cells #[.string ⟨#[]⟩, .string ⟨#[]⟩, .int .i64 0] 55)).alloc (.cells #[.slice a n c, .int .i64 0] 91)) (w.heap.size + 1) ⟨a, n, c⟩ l 0) := by
    have hb := Blk.new (w.alloc (.cells #[.string ⟨#[]⟩, .string ⟨#[]⟩, .int .i64 0] 55)) 91 #[.slice a n c, .int .i64 0]
    rw [show (w.alloc (.cells #[.string ⟨#[]⟩, .string ⟨#[]⟩, .int .i64 0] 55)).heap.size = w.heap.size + 1 by simp] at hb
    exact ⟨hb, (hB.below HBel0.out).mono (by omega), hn, hcap, hmax, by omega⟩
  have HT := Lib.hid (fun p W (h : DecAt W (w.heap.size + 1) ⟨a, n, c⟩ l p) => dText_any _ _ l p W h)
  have HN := Lib.hid (fun p W (h : DecAt W (w.heap.size + 1) ⟨a, n, c⟩ l p) => dNumber_any _ _ l p W h)
  have HE := Lib.hid (fun W (hb : Below w.heap.size w W) => sEncodedX_any (xNm l) (xTb l) (xCol l) l a n c W hbd.1 hbd.2.1 hbd.2.2.1 hbd.2.2.2 ((hB.below hb).mono hb.size) hn)
  have HS : Hid (∀ W new, Blk W w.heap.size 55 #[.string ⟨#[]⟩, .string ⟨#[]⟩, .int .i64 0] → Below w.heap.size w W → new.size = 3 → new.all (·.oneCell') = true → (storeVar 55 ⟨w.heap.size, 0, none⟩ (.agg new)).run Try.prog W = .ok () (W.setRow w.heap.size new) ∧
      (loadVar 55 ⟨w.heap.size, 0, none⟩).run Try.prog (W.setRow w.heap.size new) = .ok (.agg new) (W.setRow w.heap.size new) ∧ Below w.heap.size w (W.setRow w.heap.size new)) := fun W new hb hbl h1 h2 =>
    ⟨storeZ_sEncodedX_any hb rfl h1 h2, loadZ_sEncodedX_any (Blk.setRow (new := new) hb) h1, hbl.trans (Chg.below (S := [w.heap.size]) ((Chg.refl _ _).setRow (.inl (by simp)) _) hbl.size (by simp))⟩
  have hx1 : (sdS l 0).1 = xNm l := rfl
  have hx2 : (sdS l (sdS l 0).2).1 = xTb l := rfl
  have hx3 : (sdI l (sdS l (sdS l 0).2).2).1 = xCol l := rfl
  have HX1 := Lib.hid hx1
  have HX2 := Lib.hid hx2
  have HX3 := Lib.hid hx3
  clear hx1 hx2 hx3
  generalize xNm l = X1 at *
  generalize xTb l = X2 at *
  generalize xCol l = X3 at *
  have HBS := Lib.hid hB
  clear hB hn hbd
  have hlt0 : w.heap.size < ((w.alloc (.cells #[.string ⟨#[]⟩, .string ⟨#[]⟩, .int .i64 0] 55)).alloc (.cells #[.slice a n c, .int .i64 0] 91)).heap.size := by simp; omega
  go_enter Try.func26, Try.ntmps26
  go_wp2_with fail
  refine (HT.out 0 _ HD0.out).mono ?_
  rintro e w1 ⟨rfl, hD, hC⟩
  have HD1 := Lib.hid hD
  have HR1 := Lib.hid (HR0.out.chg hC (by simp))
  have HB1 := Lib.hid (HBel0.out.trans (hC.below (Nat.le_of_lt hlt0) (by simp)))
  have hlt1 := Nat.lt_of_lt_of_le hlt0 hC.size
  clear hD hC HD0 HR0 HBel0 hlt0
  rw [HX1.out]
  go_wp2_with fail
  refine (HT.out _ _ HD1.out).mono ?_
  rintro e w2 ⟨rfl, hD, hC⟩
  have HD2 := Lib.hid hD
  have HR2 := Lib.hid (HR1.out.chg hC (by simp))
  have HB2 := Lib.hid (HB1.out.trans (hC.below (Nat.le_of_lt hlt1) (by simp)))
  have hlt2 := Nat.lt_of_lt_of_le hlt1 hC.size
  clear hD hC HD1 HR1 HB1 hlt1
  rw [HX2.out]
  go_wp2_with fail
  refine (HN.out _ _ HD2.out).mono ?_
  rintro e w3 ⟨rfl, hD, hC⟩
  have HR3 := Lib.hid (HR2.out.chg hC (by simp))
  have HB3 := Lib.hid (HB2.out.trans (hC.below (Nat.le_of_lt hlt2) (by simp)))
  have hlt3 := Nat.lt_of_lt_of_le hlt2 hC.size
  clear hD hC HD2 HR2 HB2 hlt2
  rw [HX3.out]
  go_wp2_with fail
  refine (HE.out _ HB3.out).mono ?_
  rintro e w4 ⟨r, q, rfl, hor, hb4⟩
  have HR4 := Lib.hid (HR3.out.belS hb4 hlt3)
  have HB4 := Lib.hid (HB3.out.trans (hb4.mono (Nat.le_of_lt hlt3)))
  clear hb4 HR3 HB3 HE HT HN HBS
  rcases hor with ⟨h1, rfl, rfl⟩ | ⟨h1, rfl, rfl⟩
  · have HH := Lib.hid h1
    obtain ⟨s1, s2, s3⟩ := HS.out w4 #[.string X1, .string X2, .int .i64 X3] HR4.out HB4.out rfl (by simp [Value.oneCell'])
    have S1 := Lib.hid s1
    have S2 := Lib.hid s2
    have S3 := Lib.hid s3
    clear h1 s1 s2 s3
    go_wp2_with (first | (guard_target =~ wpList _ _ _ (Oper.mk _ (Op.store 55 _ _) _ _ _ _ :: _) _ _; refine wpList_skp rfl (exec_store rfl rfl rfl S1.out) ?_))
    exact bodyPost_ret (v := .tuple #[.agg #[.string X1, .string X2, .int .i64 X3], .int .i64 0]) (results_cell_tmp Try.results26 _ _ rfl rfl S2.out) rfl ⟨_, _, rfl, .inl ⟨HH.out, rfl, rfl⟩, S3.out⟩
  · have HH := Lib.hid h1
    obtain ⟨s1, s2, s3⟩ := HS.out w4 #[.string ⟨#[]⟩, .string ⟨#[]⟩, .int .i64 0] HR4.out HB4.out rfl (by simp [Value.oneCell'])
    have S1 := Lib.hid s1
    have S2 := Lib.hid s2
    have S3 := Lib.hid s3
    clear h1 s1 s2 s3
    go_wp2_with (first | (guard_target =~ wpList _ _ _ (Oper.mk _ (Op.store 55 _ _) _ _ _ _ :: _) _ _; refine wpList_skp rfl (exec_store rfl rfl rfl S1.out) ?_))
    exact bodyPost_ret (v := .tuple #[.agg #[.string ⟨#[]⟩, .string ⟨#[]⟩, .int .i64 0], .int .i64 52]) (results_cell_tmp Try.results26 _ _ rfl rfl S2.out) rfl ⟨_, _, rfl, .inr ⟨HH.out, rfl, rfl⟩, S3.out⟩
end Go.Proofs.Ytinddipgeldbpaa

/- The law SchemaIndexes: its walk. -/
set_option linter.unusedSimpArgs false
set_option linter.unusedVariables false
set_option maxRecDepth 100000
namespace Go.Proofs.Ytinddipgeldbpaa
open Go.RowKit

@[go_sem high] theorem eqIdx (n n' : Int) (s s' p p' : ByteArray) (w : World) : (Op.equalIn 10000 55 (.agg #[.string s, .string p, .int .i64 n]) (.agg #[.string s', .string p', .int .i64 n'])).run Try.prog w = .ok (s.toList == s'.toList && (p.toList == p'.toList && n == n')) w := by
  have hS : Try.prog.underlying 55 = some (.struct (Try.prog.fieldsOf 55)) := by kernel_rfl
  have hp : Try.prog.stoodInHeld 55 = false := by kernel_rfl
  rw [show (10000 : Nat) = 9999 + 1 from rfl, run_equalIn_agg w 9999 55 _ _ hS hp]
  simp only [Program.fieldsOf, Try.underlying55]
  go_simp
  by_cases h1 : n = n' <;> by_cases h2 : s.toList = s'.toList <;> by_cases h3 : p.toList = p'.toList <;> simp [h1, h2, h3]
@[go_sem] theorem eqGuardIdx : Try.prog.eqGuardType Try.prog.depth 55 = false := by kernel_rfl

theorem writeX_ok {n s : ByteArray} {c : Int} {l : List Nat} (h : writeX n s c = (l, 0)) : okX n s c = true ∧ encX n s c = l := by
  unfold writeX at h
  by_cases ht : okX n s c = true
  · rw [if_pos ht] at h; exact ⟨ht, congrArg Prod.fst h⟩
  · rw [if_neg ht] at h
    have := congrArg Prod.snd h
    simp at this
theorem okX_bd {n s : ByteArray} {c : Int} (h : okX n s c = true) : 0 ≤ c ∧ c < 16 := by
  unfold okX at h
  simp only [Bool.and_eq_true, Bool.not_eq_true', decide_eq_false_iff_not] at h
  omega
theorem encX_len {n s : ByteArray} {c : Int} (hn : n.size ≤ 1000) (hs : s.size ≤ 1000) (h1 : -9223372036854775808 ≤ c) (h2 : c ≤ 9223372036854775807) : (encX n s c).length ≤ 100000 := by
  have a1 := putL_len10 (show n.size < 18446744073709551616 by omega)
  have a2 := putL_len10 (show s.size < 18446744073709551616 by omega)
  have a3 := intL_len c h1 h2
  unfold encX textL
  simp only [List.length_append, bytesOf_len]
  omega
/-- What was written is read. -/
theorem decX_enc (n s : ByteArray) (c : Int) (hn : n.size ≤ 1000) (hs : s.size ≤ 1000) (h1 : -9223372036854775808 ≤ c) (h2 : c ≤ 9223372036854775807) : xNm (encX n s c) = n ∧ xTb (encX n s c) = s ∧ xCol (encX n s c) = c := by
  have e1 : sdS (encX n s c) 0 = (n, (textL n).length) := sdS_at [] _ n (by omega)
  have e2 : sdS (encX n s c) (textL n).length = (s, (textL n ++ textL s).length) := by
    have := sdS_at (textL n) (intL c) s (by omega)
    exact this
  have e3 : sdI (encX n s c) (textL n ++ textL s).length = (c, (textL n ++ textL s ++ intL c).length) := by
    have := sdI_at (textL n ++ textL s) [] c h1 h2
    rw [List.append_nil] at this
    unfold encX
    rw [← List.append_assoc]; exact this
  unfold xNm xTb xCol
  rw [e1]
  dsimp only
  rw [e2]
  dsimp only
  rw [e3]
  exact ⟨rfl, rfl, rfl⟩
theorem zeroX : writeX ⟨#[]⟩ ⟨#[]⟩ 0 = ([], 3) := by
  unfold writeX okX
  rw [show isNm ⟨#[]⟩ = false by unfold isNm; decide +kernel]
  rfl

/-- What stays. -/
structure IxW (w W : World) (n s : ByteArray) (c : Int) (l : List Nat) (a : Option Addr) : Prop where
  tab : Blk W w.heap.size 55 #[.string n, .string s, .int .i64 c]
  bs : Bs W.heap.size W a l
  bel : Below w.heap.size w W
theorem IxW.later {w W W' : World} {n s : ByteArray} {c : Int} {l : List Nat} {a : Option Addr} (h : IxW w W n s c l a) (hb : Below W.heap.size W W') : IxW w W' n s c l a :=
  ⟨h.tab.belS hb h.tab.lt, (h.bs.below hb).mono hb.size, h.bel.trans (hb.mono h.bel.size)⟩

set_option maxHeartbeats 8000000 in
theorem schemaIndexes_walk (n s : ByteArray) (c : Int) (a : Option Addr) (len cap : Nat) (z : List Int) (w : World) (hc : (Lit.int .i64 c).wf = true) (hn : n.size ≤ maxLen) (hs : s.size ≤ maxLen) (hz : IsRow .u8 w a len cap z) :
    Calls Try.prog 5 #[.agg #[.string n, .string s, .int .i64 c], .slice a len cap] w fun e w' => e = .returned (.bool true) ∧ Below w.heap.size w w' := by
  obtain ⟨l, hl, hB, hcap, hcm⟩ := hz.bs
  subst hl
  obtain ⟨hc1, hc2⟩ := bd_i64 hc
  unfold maxLen at hn hs
  have HAl := Lib.hid (fun W => alive15 W)
  have HK0 : Hid (IxW w (w.alloc (.cells #[.string n, .string s, .int .i64 c] 55)) n s c l a) := ⟨Blk.new _ _ _, (hB.below ((Below.refl _ w).alloc (Nat.le_refl _) _)).mono (by simp), (Below.refl _ w).alloc (Nat.le_refl _) _⟩
  obtain ⟨g1, hg1⟩ : ∃ g, decide (100 < n.size) = g := ⟨_, rfl⟩
  obtain ⟨g2, hg2⟩ : ∃ g, decide (100 < s.size) = g := ⟨_, rfl⟩
  obtain ⟨g3, hg3⟩ : ∃ g, decide (300 < l.length) = g := ⟨_, rfl⟩
  have q1 : decide ((100 : Int) < (n.size : Int)) = g1 := by rw [← hg1, Bool.eq_iff_iff]; simp; omega
  have q2 : decide ((100 : Int) < (s.size : Int)) = g2 := by rw [← hg2, Bool.eq_iff_iff]; simp; omega
  have q3 : decide ((300 : Int) < (l.length : Int)) = g3 := by rw [← hg3, Bool.eq_iff_iff]; simp; omega

  cases g1 with
  | true =>
    clear hz hB
    go_enter Try.func5, Try.ntmps5
    go_wp2_with fail
    refine (HAl.out _).mono ?_
    rintro e w2 ⟨rfl, hb2⟩
    have HB2 := Lib.hid (HK0.out.bel.trans (hb2.mono HK0.out.bel.size))
    clear hb2
    go_wp2
    go_ret
    exact ⟨rfl, HB2.out⟩
  | false =>
    cases g2 with
    | true =>
      clear hz hB
      go_enter Try.func5, Try.ntmps5
      go_wp2_with fail
      refine (HAl.out _).mono ?_
      rintro e w2 ⟨rfl, hb2⟩
      have HB2 := Lib.hid (HK0.out.bel.trans (hb2.mono HK0.out.bel.size))
      clear hb2
      go_wp2
      go_ret
      exact ⟨rfl, HB2.out⟩
    | false =>
      cases g3 with
      | true =>
        clear hz hB
        go_enter Try.func5, Try.ntmps5
        go_wp2_with fail
        refine (HAl.out _).mono ?_
        rintro e w2 ⟨rfl, hb2⟩
        have HB2 := Lib.hid (HK0.out.bel.trans (hb2.mono HK0.out.bel.size))
        clear hb2
        go_wp2
        go_ret
        exact ⟨rfl, HB2.out⟩
      | false =>
        have hn1 : n.size ≤ 100 := by simpa using hg1
        have hs1 : s.size ≤ 100 := by simpa using hg2
        have hl1 : l.length ≤ 300 := by simpa using hg3
        have HW := Lib.hid (fun W => sWriteX_any n s c W (by omega) (by omega) hc1 hc2)
        have HN1 := Lib.hid (fun W => rIsName_any n W (by omega))
        have HN2 := Lib.hid (fun W => rIsName_any s W (by omega))
        have hxb := xBd l hB.1 (by omega)
        have HD := Lib.hid (fun W (h1 : Bs W.heap.size W a l) => sReadX_any l a l.length cap W h1 rfl hcap (by omega))
        have HW2 := Lib.hid (fun W => sWriteX_any (xNm l) (xTb l) (xCol l) W hxb.1 hxb.2.1 hxb.2.2.1 hxb.2.2.2)
        have HW3 := Lib.hid (fun W => sWriteX_any ⟨#[]⟩ ⟨#[]⟩ 0 W (by decide) (by decide) (by decide) (by decide))
        rw [zeroX] at HW3
        have HD2 : Hid (okX n s c = true → ∀ W b c5, Bs W.heap.size W b (encX n s c) → (encX n s c).length ≤ c5 → Calls Try.prog 26 #[.slice b (encX n s c).length c5] W fun e w' => e = .returned (.tuple #[.agg #[.string n, .string s, .int .i64 c], .int .i64 0]) ∧ Below W.heap.size W w') := fun ho W b c5 h1 h2 => by
          refine (sReadX_any (encX n s c) b _ c5 W h1 rfl h2 (by have := encX_len (n := n) (s := s) (c := c) (by omega) (by omega) hc1 hc2; omega)).mono ?_
          rintro e w' ⟨r, q, rfl, hor, hb⟩
          obtain ⟨d1, d2, d3⟩ := decX_enc n s c (by omega) (by omega) hc1 hc2
          rw [d1, d2, d3] at hor
          have hw : writeX n s c = (encX n s c, 0) := if_pos ho
          rcases hor with ⟨-, rfl, rfl⟩ | ⟨h, -, -⟩
          · exact ⟨rfl, hb⟩
          · exact absurd hw h
        have HWe : Hid (writeX n s c = if okX n s c = true then (encX n s c, 0) else ([], 3)) := rfl
        have HO : Hid (okX n s c = (isNm n && (isNm s && (decide (0 ≤ c) && decide (c < 16))))) := by
          show _ = _
          unfold okX
          have e1 : (!decide (c < 0)) = decide (0 ≤ c) := by rw [Bool.eq_iff_iff]; simp
          have e2 : (!decide (16 ≤ c)) = decide (c < 16) := by rw [Bool.eq_iff_iff]; simp
          rw [e1, e2]
        obtain ⟨b1, hb1'⟩ : ∃ b, isNm n = b := ⟨_, rfl⟩
        obtain ⟨b2, hb2'⟩ : ∃ b, isNm s = b := ⟨_, rfl⟩
        obtain ⟨b3, p3⟩ : ∃ b, decide (0 ≤ c) = b := ⟨_, rfl⟩
        obtain ⟨b4, p4⟩ : ∃ b, decide (c < 16) = b := ⟨_, rfl⟩
        rw [hb1'] at HN1 HO
        rw [hb2'] at HN2 HO
        rw [p3, p4] at HO
        obtain ⟨B, hBo⟩ : ∃ B, okX n s c = B := ⟨_, rfl⟩
        have HOB : Hid (okX n s c = B) := hBo
        rw [hBo] at HO HWe HD2
        rw [HWe.out] at HW
        generalize encX n s c = LT at *
        clear hb1' hb2' hz hB hn1 hs1 hl1 hxb hBo HWe HOB hg1 hg2 hg3 hn hs hc hc1 hc2
        generalize xNm l = X1 at *
        generalize xTb l = X2 at *
        generalize xCol l = X3 at *
        have q0 : (X1.toList == X1.toList) = true := by simp
        go_enter Try.func5, Try.ntmps5
        have HK := HK0
        clear HK0
        have x0 := (HK.out.tab.cell 0).trans rfl
        have x1 := (HK.out.tab.cell 1).trans rfl
        have x2 := (HK.out.tab.cell 2).trans rfl
        cases B with
        | true =>
          have HDx := Lib.hid (HD2.out rfl)
          rw [if_pos rfl] at HW
          have hO := HO.out
          simp only [Bool.true_eq, Bool.and_eq_true] at hO
          obtain ⟨rfl, rfl, rfl, rfl⟩ := hO
          clear HD2 HO
          go_wp2_with fail
          refine (HW.out _).mono ?_
          rintro e w2 ⟨a2, c2, rfl, hc2, hB2, hb2⟩
          dsimp only at hB2 hc2
          have HB2 := Lib.hid hB2
          have HC2 := Lib.hid hc2
          have hK := HK.out.later hb2
          clear HK
          have HK := Lib.hid hK
          clear hK x0 x1 x2 hb2
          have x0 := (HK.out.tab.cell 0).trans rfl
          have x1 := (HK.out.tab.cell 1).trans rfl
          have x2 := (HK.out.tab.cell 2).trans rfl
          clear hB2 hc2 HW
          go_wp2_with fail
          refine (HN1.out _).mono ?_
          rintro e w3 ⟨rfl, hb3⟩
          have HB3 := Lib.hid ((HB2.out.below hb3).mono hb3.size)
          have hK := HK.out.later hb3
          clear HK
          have HK := Lib.hid hK
          clear hK x0 x1 x2 hb3
          have x0 := (HK.out.tab.cell 0).trans rfl
          have x1 := (HK.out.tab.cell 1).trans rfl
          have x2 := (HK.out.tab.cell 2).trans rfl
          clear HB2 HN1
          go_wp2_with fail
          refine (HN2.out _).mono ?_
          rintro e w4 ⟨rfl, hb4⟩
          have HB4 := Lib.hid ((HB3.out.below hb4).mono hb4.size)
          have hK := HK.out.later hb4
          clear HK
          have HK := Lib.hid hK
          clear hK x0 x1 x2 hb4
          have x0 := (HK.out.tab.cell 0).trans rfl
          have x1 := (HK.out.tab.cell 1).trans rfl
          have x2 := (HK.out.tab.cell 2).trans rfl
          clear HB3 HN2
          go_wp2_with fail
          refine (HDx.out _ a2 c2 HB4.out HC2.out).mono ?_
          rintro e w5 ⟨rfl, hb5⟩
          have hK := HK.out.later hb5
          clear HK
          have HK := Lib.hid hK
          clear hK x0 x1 x2 hb5
          have x0 := (HK.out.tab.cell 0).trans rfl
          have x1 := (HK.out.tab.cell 1).trans rfl
          have x2 := (HK.out.tab.cell 2).trans rfl
          have hbv : Below w5.heap.size w5 (w5.alloc (.cells #[.string n, .string s, .int .i64 c] 55)) := (Below.refl _ _).alloc (Nat.le_refl _) _
          have HVx := Lib.hid hbv
          have hK := HK.out.later hbv
          clear HK
          have HK := Lib.hid hK
          clear hK x0 x1 x2 hbv
          have x0 := (HK.out.tab.cell 0).trans rfl
          have x1 := (HK.out.tab.cell 1).trans rfl
          have x2 := (HK.out.tab.cell 2).trans rfl
          clear HB4 HC2 HDx
          have qn : (n.toList == n.toList) = true := by simp
          have qs : (s.toList == s.toList) = true := by simp
          go_wp2_with fail
          refine (HD.out _ HK.out.bs).mono ?_
          rintro e w6 ⟨r, q, rfl, hor, hb⟩
          have hK := HK.out.later hb
          clear HK
          have HK := Lib.hid hK
          clear hK x0 x1 x2 hb
          have x0 := (HK.out.tab.cell 0).trans rfl
          have x1 := (HK.out.tab.cell 1).trans rfl
          have x2 := (HK.out.tab.cell 2).trans rfl
          rcases hor with ⟨hw, rfl, rfl⟩ | ⟨hw, rfl, rfl⟩
          · have HWu := HW2
            rw [hw] at HWu
            clear hw HW2 HW3 HD
            have HBx : Hid (Below w6.heap.size w6 (w6.alloc (.cells #[.string X1, .string X2, .int .i64 X3] 55))) := (Below.refl _ _).alloc (Nat.le_refl _) _
            have HUb : Hid (Blk (w6.alloc (.cells #[.string X1, .string X2, .int .i64 X3] 55)) w6.heap.size 55 #[.string X1, .string X2, .int .i64 X3]) := Blk.new _ _ _
            have hbx := HBx.out
            have hK := HK.out.later hbx
            clear HK
            have HK := Lib.hid hK
            clear hK x0 x1 x2 hbx
            have x0 := (HK.out.tab.cell 0).trans rfl
            have x1 := (HK.out.tab.cell 1).trans rfl
            have x2 := (HK.out.tab.cell 2).trans rfl
            go_wp2_with fail
            refine (HWu.out _).mono ?_
            rintro e w7 ⟨a5, c5, rfl, hc5, hB5, hb5⟩
            dsimp only at hB5
            have HB5 := Lib.hid hB5
            have HY := Lib.hid (HUb.out.belS hb5 HUb.out.lt)
            have hK := HK.out.later hb5
            clear HK
            have HK := Lib.hid hK
            clear hK x0 x1 x2 hb5
            have x0 := (HK.out.tab.cell 0).trans rfl
            have x1 := (HK.out.tab.cell 1).trans rfl
            have x2 := (HK.out.tab.cell 2).trans rfl
            clear hB5 hc5 HWu HUb HBx
            go_wp2_with fail
            refine (HAl.out _).mono ?_
            rintro e w8 ⟨rfl, hb6⟩
            have hs1 := ((HB5.out.below hb6).mono hb6.size).str _ c5 rfl
            have hY := HY.out.belS hb6 HY.out.lt
            have y0 := (hY.cell 0).trans rfl
            have y1 := (hY.cell 1).trans rfl
            have y2 := (hY.cell 2).trans rfl
            have hK := HK.out.later hb6
            clear HK
            have HK := Lib.hid hK
            clear hK x0 x1 x2 hb6
            have x0 := (HK.out.tab.cell 0).trans rfl
            have x1 := (HK.out.tab.cell 1).trans rfl
            have x2 := (HK.out.tab.cell 2).trans rfl
            have hs2 := HK.out.bs.str l.length cap rfl
            have HBe := Lib.hid HK.out.bel
            clear HB5 HY hY HK x0 x1 x2
            go_wp2
            go_ret
            exact ⟨ret_b (by simp), HBe.out⟩
          · have HWu := HW3
            clear hw HW2 HW3 HD
            have HBx : Hid (Below w6.heap.size w6 (w6.alloc (.cells #[.string ⟨#[]⟩, .string ⟨#[]⟩, .int .i64 0] 55))) := (Below.refl _ _).alloc (Nat.le_refl _) _
            have HUb : Hid (Blk (w6.alloc (.cells #[.string ⟨#[]⟩, .string ⟨#[]⟩, .int .i64 0] 55)) w6.heap.size 55 #[.string ⟨#[]⟩, .string ⟨#[]⟩, .int .i64 0]) := Blk.new _ _ _
            have hbx := HBx.out
            have hK := HK.out.later hbx
            clear HK
            have HK := Lib.hid hK
            clear hK x0 x1 x2 hbx
            have x0 := (HK.out.tab.cell 0).trans rfl
            have x1 := (HK.out.tab.cell 1).trans rfl
            have x2 := (HK.out.tab.cell 2).trans rfl
            go_wp2_with fail
            refine (HWu.out _).mono ?_
            rintro e w7 ⟨a5, c5, rfl, hc5, hB5, hb5⟩
            dsimp only at hB5
            have HB5 := Lib.hid hB5
            have HY := Lib.hid (HUb.out.belS hb5 HUb.out.lt)
            have hK := HK.out.later hb5
            clear HK
            have HK := Lib.hid hK
            clear hK x0 x1 x2 hb5
            have x0 := (HK.out.tab.cell 0).trans rfl
            have x1 := (HK.out.tab.cell 1).trans rfl
            have x2 := (HK.out.tab.cell 2).trans rfl
            clear hB5 hc5 HWu HUb HBx
            go_wp2_with fail
            refine (HAl.out _).mono ?_
            rintro e w8 ⟨rfl, hb6⟩
            have hs1 := ((HB5.out.below hb6).mono hb6.size).str _ c5 rfl
            have hY := HY.out.belS hb6 HY.out.lt
            have y0 := (hY.cell 0).trans rfl
            have y1 := (hY.cell 1).trans rfl
            have y2 := (hY.cell 2).trans rfl
            have hK := HK.out.later hb6
            clear HK
            have HK := Lib.hid hK
            clear hK x0 x1 x2 hb6
            have x0 := (HK.out.tab.cell 0).trans rfl
            have x1 := (HK.out.tab.cell 1).trans rfl
            have x2 := (HK.out.tab.cell 2).trans rfl
            have hs2 := HK.out.bs.str l.length cap rfl
            have HBe := Lib.hid HK.out.bel
            clear HB5 HY hY HK x0 x1 x2
            go_wp2
            go_ret
            exact ⟨rfl, HBe.out⟩
        | false =>
          rw [if_neg (by simp)] at HW
          clear HD2
          go_wp2_with fail
          refine (HW.out _).mono ?_
          rintro e w2 ⟨a2, c2, rfl, hc2, hB2, hb2⟩
          have hK := HK.out.later hb2
          clear HK
          have HK := Lib.hid hK
          clear hK x0 x1 x2 hb2
          have x0 := (HK.out.tab.cell 0).trans rfl
          have x1 := (HK.out.tab.cell 1).trans rfl
          have x2 := (HK.out.tab.cell 2).trans rfl
          clear hB2 hc2 HW
          go_wp2_with fail
          refine (HN1.out _).mono ?_
          rintro e w3 ⟨rfl, hb3⟩
          have hK := HK.out.later hb3
          clear HK
          have HK := Lib.hid hK
          clear hK x0 x1 x2 hb3
          have x0 := (HK.out.tab.cell 0).trans rfl
          have x1 := (HK.out.tab.cell 1).trans rfl
          have x2 := (HK.out.tab.cell 2).trans rfl
          clear HN1
          cases b1 with
          | false =>
            clear HN2 HO
            go_wp2_with fail
            refine (HD.out _ HK.out.bs).mono ?_
            rintro e w4 ⟨r, q, rfl, hor, hb⟩
            have hK := HK.out.later hb
            clear HK
            have HK := Lib.hid hK
            clear hK x0 x1 x2 hb
            have x0 := (HK.out.tab.cell 0).trans rfl
            have x1 := (HK.out.tab.cell 1).trans rfl
            have x2 := (HK.out.tab.cell 2).trans rfl
            rcases hor with ⟨hw, rfl, rfl⟩ | ⟨hw, rfl, rfl⟩
            · have HWu := HW2
              rw [hw] at HWu
              clear hw HW2 HW3 HD
              have HBx : Hid (Below w4.heap.size w4 (w4.alloc (.cells #[.string X1, .string X2, .int .i64 X3] 55))) := (Below.refl _ _).alloc (Nat.le_refl _) _
              have HUb : Hid (Blk (w4.alloc (.cells #[.string X1, .string X2, .int .i64 X3] 55)) w4.heap.size 55 #[.string X1, .string X2, .int .i64 X3]) := Blk.new _ _ _
              have hbx := HBx.out
              have hK := HK.out.later hbx
              clear HK
              have HK := Lib.hid hK
              clear hK x0 x1 x2 hbx
              have x0 := (HK.out.tab.cell 0).trans rfl
              have x1 := (HK.out.tab.cell 1).trans rfl
              have x2 := (HK.out.tab.cell 2).trans rfl
              go_wp2_with fail
              refine (HWu.out _).mono ?_
              rintro e w5 ⟨a5, c5, rfl, hc5, hB5, hb5⟩
              dsimp only at hB5
              have HB5 := Lib.hid hB5
              have HY := Lib.hid (HUb.out.belS hb5 HUb.out.lt)
              have hK := HK.out.later hb5
              clear HK
              have HK := Lib.hid hK
              clear hK x0 x1 x2 hb5
              have x0 := (HK.out.tab.cell 0).trans rfl
              have x1 := (HK.out.tab.cell 1).trans rfl
              have x2 := (HK.out.tab.cell 2).trans rfl
              clear hB5 hc5 HWu HUb HBx
              go_wp2_with fail
              refine (HAl.out _).mono ?_
              rintro e w6 ⟨rfl, hb6⟩
              have hs1 := ((HB5.out.below hb6).mono hb6.size).str _ c5 rfl
              have hY := HY.out.belS hb6 HY.out.lt
              have y0 := (hY.cell 0).trans rfl
              have y1 := (hY.cell 1).trans rfl
              have y2 := (hY.cell 2).trans rfl
              have hK := HK.out.later hb6
              clear HK
              have HK := Lib.hid hK
              clear hK x0 x1 x2 hb6
              have x0 := (HK.out.tab.cell 0).trans rfl
              have x1 := (HK.out.tab.cell 1).trans rfl
              have x2 := (HK.out.tab.cell 2).trans rfl
              have hs2 := HK.out.bs.str l.length cap rfl
              have HBe := Lib.hid HK.out.bel
              clear HB5 HY hY HK x0 x1 x2
              go_wp2
              go_ret
              exact ⟨ret_b (by simp), HBe.out⟩
            · have HWu := HW3
              clear hw HW2 HW3 HD
              have HBx : Hid (Below w4.heap.size w4 (w4.alloc (.cells #[.string ⟨#[]⟩, .string ⟨#[]⟩, .int .i64 0] 55))) := (Below.refl _ _).alloc (Nat.le_refl _) _
              have HUb : Hid (Blk (w4.alloc (.cells #[.string ⟨#[]⟩, .string ⟨#[]⟩, .int .i64 0] 55)) w4.heap.size 55 #[.string ⟨#[]⟩, .string ⟨#[]⟩, .int .i64 0]) := Blk.new _ _ _
              have hbx := HBx.out
              have hK := HK.out.later hbx
              clear HK
              have HK := Lib.hid hK
              clear hK x0 x1 x2 hbx
              have x0 := (HK.out.tab.cell 0).trans rfl
              have x1 := (HK.out.tab.cell 1).trans rfl
              have x2 := (HK.out.tab.cell 2).trans rfl
              go_wp2_with fail
              refine (HWu.out _).mono ?_
              rintro e w5 ⟨a5, c5, rfl, hc5, hB5, hb5⟩
              dsimp only at hB5
              have HB5 := Lib.hid hB5
              have HY := Lib.hid (HUb.out.belS hb5 HUb.out.lt)
              have hK := HK.out.later hb5
              clear HK
              have HK := Lib.hid hK
              clear hK x0 x1 x2 hb5
              have x0 := (HK.out.tab.cell 0).trans rfl
              have x1 := (HK.out.tab.cell 1).trans rfl
              have x2 := (HK.out.tab.cell 2).trans rfl
              clear hB5 hc5 HWu HUb HBx
              go_wp2_with fail
              refine (HAl.out _).mono ?_
              rintro e w6 ⟨rfl, hb6⟩
              have hs1 := ((HB5.out.below hb6).mono hb6.size).str _ c5 rfl
              have hY := HY.out.belS hb6 HY.out.lt
              have y0 := (hY.cell 0).trans rfl
              have y1 := (hY.cell 1).trans rfl
              have y2 := (hY.cell 2).trans rfl
              have hK := HK.out.later hb6
              clear HK
              have HK := Lib.hid hK
              clear hK x0 x1 x2 hb6
              have x0 := (HK.out.tab.cell 0).trans rfl
              have x1 := (HK.out.tab.cell 1).trans rfl
              have x2 := (HK.out.tab.cell 2).trans rfl
              have hs2 := HK.out.bs.str l.length cap rfl
              have HBe := Lib.hid HK.out.bel
              clear HB5 HY hY HK x0 x1 x2
              go_wp2
              go_ret
              exact ⟨rfl, HBe.out⟩
          | true =>
            go_wp2_with fail
            refine (HN2.out _).mono ?_
            rintro e w4 ⟨rfl, hb4⟩
            have hK := HK.out.later hb4
            clear HK
            have HK := Lib.hid hK
            clear hK x0 x1 x2 hb4
            have x0 := (HK.out.tab.cell 0).trans rfl
            have x1 := (HK.out.tab.cell 1).trans rfl
            have x2 := (HK.out.tab.cell 2).trans rfl
            clear HN2
            cases b2 with
            | false =>
              clear HO
              go_wp2_with fail
              refine (HD.out _ HK.out.bs).mono ?_
              rintro e w5 ⟨r, q, rfl, hor, hb⟩
              have hK := HK.out.later hb
              clear HK
              have HK := Lib.hid hK
              clear hK x0 x1 x2 hb
              have x0 := (HK.out.tab.cell 0).trans rfl
              have x1 := (HK.out.tab.cell 1).trans rfl
              have x2 := (HK.out.tab.cell 2).trans rfl
              rcases hor with ⟨hw, rfl, rfl⟩ | ⟨hw, rfl, rfl⟩
              · have HWu := HW2
                rw [hw] at HWu
                clear hw HW2 HW3 HD
                have HBx : Hid (Below w5.heap.size w5 (w5.alloc (.cells #[.string X1, .string X2, .int .i64 X3] 55))) := (Below.refl _ _).alloc (Nat.le_refl _) _
                have HUb : Hid (Blk (w5.alloc (.cells #[.string X1, .string X2, .int .i64 X3] 55)) w5.heap.size 55 #[.string X1, .string X2, .int .i64 X3]) := Blk.new _ _ _
                have hbx := HBx.out
                have hK := HK.out.later hbx
                clear HK
                have HK := Lib.hid hK
                clear hK x0 x1 x2 hbx
                have x0 := (HK.out.tab.cell 0).trans rfl
                have x1 := (HK.out.tab.cell 1).trans rfl
                have x2 := (HK.out.tab.cell 2).trans rfl
                go_wp2_with fail
                refine (HWu.out _).mono ?_
                rintro e w6 ⟨a5, c5, rfl, hc5, hB5, hb5⟩
                dsimp only at hB5
                have HB5 := Lib.hid hB5
                have HY := Lib.hid (HUb.out.belS hb5 HUb.out.lt)
                have hK := HK.out.later hb5
                clear HK
                have HK := Lib.hid hK
                clear hK x0 x1 x2 hb5
                have x0 := (HK.out.tab.cell 0).trans rfl
                have x1 := (HK.out.tab.cell 1).trans rfl
                have x2 := (HK.out.tab.cell 2).trans rfl
                clear hB5 hc5 HWu HUb HBx
                go_wp2_with fail
                refine (HAl.out _).mono ?_
                rintro e w7 ⟨rfl, hb6⟩
                have hs1 := ((HB5.out.below hb6).mono hb6.size).str _ c5 rfl
                have hY := HY.out.belS hb6 HY.out.lt
                have y0 := (hY.cell 0).trans rfl
                have y1 := (hY.cell 1).trans rfl
                have y2 := (hY.cell 2).trans rfl
                have hK := HK.out.later hb6
                clear HK
                have HK := Lib.hid hK
                clear hK x0 x1 x2 hb6
                have x0 := (HK.out.tab.cell 0).trans rfl
                have x1 := (HK.out.tab.cell 1).trans rfl
                have x2 := (HK.out.tab.cell 2).trans rfl
                have hs2 := HK.out.bs.str l.length cap rfl
                have HBe := Lib.hid HK.out.bel
                clear HB5 HY hY HK x0 x1 x2
                go_wp2
                go_ret
                exact ⟨ret_b (by simp), HBe.out⟩
              · have HWu := HW3
                clear hw HW2 HW3 HD
                have HBx : Hid (Below w5.heap.size w5 (w5.alloc (.cells #[.string ⟨#[]⟩, .string ⟨#[]⟩, .int .i64 0] 55))) := (Below.refl _ _).alloc (Nat.le_refl _) _
                have HUb : Hid (Blk (w5.alloc (.cells #[.string ⟨#[]⟩, .string ⟨#[]⟩, .int .i64 0] 55)) w5.heap.size 55 #[.string ⟨#[]⟩, .string ⟨#[]⟩, .int .i64 0]) := Blk.new _ _ _
                have hbx := HBx.out
                have hK := HK.out.later hbx
                clear HK
                have HK := Lib.hid hK
                clear hK x0 x1 x2 hbx
                have x0 := (HK.out.tab.cell 0).trans rfl
                have x1 := (HK.out.tab.cell 1).trans rfl
                have x2 := (HK.out.tab.cell 2).trans rfl
                go_wp2_with fail
                refine (HWu.out _).mono ?_
                rintro e w6 ⟨a5, c5, rfl, hc5, hB5, hb5⟩
                dsimp only at hB5
                have HB5 := Lib.hid hB5
                have HY := Lib.hid (HUb.out.belS hb5 HUb.out.lt)
                have hK := HK.out.later hb5
                clear HK
                have HK := Lib.hid hK
                clear hK x0 x1 x2 hb5
                have x0 := (HK.out.tab.cell 0).trans rfl
                have x1 := (HK.out.tab.cell 1).trans rfl
                have x2 := (HK.out.tab.cell 2).trans rfl
                clear hB5 hc5 HWu HUb HBx
                go_wp2_with fail
                refine (HAl.out _).mono ?_
                rintro e w7 ⟨rfl, hb6⟩
                have hs1 := ((HB5.out.below hb6).mono hb6.size).str _ c5 rfl
                have hY := HY.out.belS hb6 HY.out.lt
                have y0 := (hY.cell 0).trans rfl
                have y1 := (hY.cell 1).trans rfl
                have y2 := (hY.cell 2).trans rfl
                have hK := HK.out.later hb6
                clear HK
                have HK := Lib.hid hK
                clear hK x0 x1 x2 hb6
                have x0 := (HK.out.tab.cell 0).trans rfl
                have x1 := (HK.out.tab.cell 1).trans rfl
                have x2 := (HK.out.tab.cell 2).trans rfl
                have hs2 := HK.out.bs.str l.length cap rfl
                have HBe := Lib.hid HK.out.bel
                clear HB5 HY hY HK x0 x1 x2
                go_wp2
                go_ret
                exact ⟨rfl, HBe.out⟩
            | true =>
              cases b3 with
              | false =>
                clear HO
                go_wp2_with fail
                refine (HD.out _ HK.out.bs).mono ?_
                rintro e w5 ⟨r, q, rfl, hor, hb⟩
                have hK := HK.out.later hb
                clear HK
                have HK := Lib.hid hK
                clear hK x0 x1 x2 hb
                have x0 := (HK.out.tab.cell 0).trans rfl
                have x1 := (HK.out.tab.cell 1).trans rfl
                have x2 := (HK.out.tab.cell 2).trans rfl
                rcases hor with ⟨hw, rfl, rfl⟩ | ⟨hw, rfl, rfl⟩
                · have HWu := HW2
                  rw [hw] at HWu
                  clear hw HW2 HW3 HD
                  have HBx : Hid (Below w5.heap.size w5 (w5.alloc (.cells #[.string X1, .string X2, .int .i64 X3] 55))) := (Below.refl _ _).alloc (Nat.le_refl _) _
                  have HUb : Hid (Blk (w5.alloc (.cells #[.string X1, .string X2, .int .i64 X3] 55)) w5.heap.size 55 #[.string X1, .string X2, .int .i64 X3]) := Blk.new _ _ _
                  have hbx := HBx.out
                  have hK := HK.out.later hbx
                  clear HK
                  have HK := Lib.hid hK
                  clear hK x0 x1 x2 hbx
                  have x0 := (HK.out.tab.cell 0).trans rfl
                  have x1 := (HK.out.tab.cell 1).trans rfl
                  have x2 := (HK.out.tab.cell 2).trans rfl
                  go_wp2_with fail
                  refine (HWu.out _).mono ?_
                  rintro e w6 ⟨a5, c5, rfl, hc5, hB5, hb5⟩
                  dsimp only at hB5
                  have HB5 := Lib.hid hB5
                  have HY := Lib.hid (HUb.out.belS hb5 HUb.out.lt)
                  have hK := HK.out.later hb5
                  clear HK
                  have HK := Lib.hid hK
                  clear hK x0 x1 x2 hb5
                  have x0 := (HK.out.tab.cell 0).trans rfl
                  have x1 := (HK.out.tab.cell 1).trans rfl
                  have x2 := (HK.out.tab.cell 2).trans rfl
                  clear hB5 hc5 HWu HUb HBx
                  go_wp2_with fail
                  refine (HAl.out _).mono ?_
                  rintro e w7 ⟨rfl, hb6⟩
                  have hs1 := ((HB5.out.below hb6).mono hb6.size).str _ c5 rfl
                  have hY := HY.out.belS hb6 HY.out.lt
                  have y0 := (hY.cell 0).trans rfl
                  have y1 := (hY.cell 1).trans rfl
                  have y2 := (hY.cell 2).trans rfl
                  have hK := HK.out.later hb6
                  clear HK
                  have HK := Lib.hid hK
                  clear hK x0 x1 x2 hb6
                  have x0 := (HK.out.tab.cell 0).trans rfl
                  have x1 := (HK.out.tab.cell 1).trans rfl
                  have x2 := (HK.out.tab.cell 2).trans rfl
                  have hs2 := HK.out.bs.str l.length cap rfl
                  have HBe := Lib.hid HK.out.bel
                  clear HB5 HY hY HK x0 x1 x2
                  go_wp2
                  go_ret
                  exact ⟨ret_b (by simp), HBe.out⟩
                · have HWu := HW3
                  clear hw HW2 HW3 HD
                  have HBx : Hid (Below w5.heap.size w5 (w5.alloc (.cells #[.string ⟨#[]⟩, .string ⟨#[]⟩, .int .i64 0] 55))) := (Below.refl _ _).alloc (Nat.le_refl _) _
                  have HUb : Hid (Blk (w5.alloc (.cells #[.string ⟨#[]⟩, .string ⟨#[]⟩, .int .i64 0] 55)) w5.heap.size 55 #[.string ⟨#[]⟩, .string ⟨#[]⟩, .int .i64 0]) := Blk.new _ _ _
                  have hbx := HBx.out
                  have hK := HK.out.later hbx
                  clear HK
                  have HK := Lib.hid hK
                  clear hK x0 x1 x2 hbx
                  have x0 := (HK.out.tab.cell 0).trans rfl
                  have x1 := (HK.out.tab.cell 1).trans rfl
                  have x2 := (HK.out.tab.cell 2).trans rfl
                  go_wp2_with fail
                  refine (HWu.out _).mono ?_
                  rintro e w6 ⟨a5, c5, rfl, hc5, hB5, hb5⟩
                  dsimp only at hB5
                  have HB5 := Lib.hid hB5
                  have HY := Lib.hid (HUb.out.belS hb5 HUb.out.lt)
                  have hK := HK.out.later hb5
                  clear HK
                  have HK := Lib.hid hK
                  clear hK x0 x1 x2 hb5
                  have x0 := (HK.out.tab.cell 0).trans rfl
                  have x1 := (HK.out.tab.cell 1).trans rfl
                  have x2 := (HK.out.tab.cell 2).trans rfl
                  clear hB5 hc5 HWu HUb HBx
                  go_wp2_with fail
                  refine (HAl.out _).mono ?_
                  rintro e w7 ⟨rfl, hb6⟩
                  have hs1 := ((HB5.out.below hb6).mono hb6.size).str _ c5 rfl
                  have hY := HY.out.belS hb6 HY.out.lt
                  have y0 := (hY.cell 0).trans rfl
                  have y1 := (hY.cell 1).trans rfl
                  have y2 := (hY.cell 2).trans rfl
                  have hK := HK.out.later hb6
                  clear HK
                  have HK := Lib.hid hK
                  clear hK x0 x1 x2 hb6
                  have x0 := (HK.out.tab.cell 0).trans rfl
                  have x1 := (HK.out.tab.cell 1).trans rfl
                  have x2 := (HK.out.tab.cell 2).trans rfl
                  have hs2 := HK.out.bs.str l.length cap rfl
                  have HBe := Lib.hid HK.out.bel
                  clear HB5 HY hY HK x0 x1 x2
                  go_wp2
                  go_ret
                  exact ⟨rfl, HBe.out⟩
              | true =>
                cases b4 with
                | false =>
                  clear HO
                  go_wp2_with fail
                  refine (HD.out _ HK.out.bs).mono ?_
                  rintro e w5 ⟨r, q, rfl, hor, hb⟩
                  have hK := HK.out.later hb
                  clear HK
                  have HK := Lib.hid hK
                  clear hK x0 x1 x2 hb
                  have x0 := (HK.out.tab.cell 0).trans rfl
                  have x1 := (HK.out.tab.cell 1).trans rfl
                  have x2 := (HK.out.tab.cell 2).trans rfl
                  rcases hor with ⟨hw, rfl, rfl⟩ | ⟨hw, rfl, rfl⟩
                  · have HWu := HW2
                    rw [hw] at HWu
                    clear hw HW2 HW3 HD
                    have HBx : Hid (Below w5.heap.size w5 (w5.alloc (.cells #[.string X1, .string X2, .int .i64 X3] 55))) := (Below.refl _ _).alloc (Nat.le_refl _) _
                    have HUb : Hid (Blk (w5.alloc (.cells #[.string X1, .string X2, .int .i64 X3] 55)) w5.heap.size 55 #[.string X1, .string X2, .int .i64 X3]) := Blk.new _ _ _
                    have hbx := HBx.out
                    have hK := HK.out.later hbx
                    clear HK
                    have HK := Lib.hid hK
                    clear hK x0 x1 x2 hbx
                    have x0 := (HK.out.tab.cell 0).trans rfl
                    have x1 := (HK.out.tab.cell 1).trans rfl
                    have x2 := (HK.out.tab.cell 2).trans rfl
                    go_wp2_with fail
                    refine (HWu.out _).mono ?_
                    rintro e w6 ⟨a5, c5, rfl, hc5, hB5, hb5⟩
                    dsimp only at hB5
                    have HB5 := Lib.hid hB5
                    have HY := Lib.hid (HUb.out.belS hb5 HUb.out.lt)
                    have hK := HK.out.later hb5
                    clear HK
                    have HK := Lib.hid hK
                    clear hK x0 x1 x2 hb5
                    have x0 := (HK.out.tab.cell 0).trans rfl
                    have x1 := (HK.out.tab.cell 1).trans rfl
                    have x2 := (HK.out.tab.cell 2).trans rfl
                    clear hB5 hc5 HWu HUb HBx
                    go_wp2_with fail
                    refine (HAl.out _).mono ?_
                    rintro e w7 ⟨rfl, hb6⟩
                    have hs1 := ((HB5.out.below hb6).mono hb6.size).str _ c5 rfl
                    have hY := HY.out.belS hb6 HY.out.lt
                    have y0 := (hY.cell 0).trans rfl
                    have y1 := (hY.cell 1).trans rfl
                    have y2 := (hY.cell 2).trans rfl
                    have hK := HK.out.later hb6
                    clear HK
                    have HK := Lib.hid hK
                    clear hK x0 x1 x2 hb6
                    have x0 := (HK.out.tab.cell 0).trans rfl
                    have x1 := (HK.out.tab.cell 1).trans rfl
                    have x2 := (HK.out.tab.cell 2).trans rfl
                    have hs2 := HK.out.bs.str l.length cap rfl
                    have HBe := Lib.hid HK.out.bel
                    clear HB5 HY hY HK x0 x1 x2
                    go_wp2
                    go_ret
                    exact ⟨ret_b (by simp), HBe.out⟩
                  · have HWu := HW3
                    clear hw HW2 HW3 HD
                    have HBx : Hid (Below w5.heap.size w5 (w5.alloc (.cells #[.string ⟨#[]⟩, .string ⟨#[]⟩, .int .i64 0] 55))) := (Below.refl _ _).alloc (Nat.le_refl _) _
                    have HUb : Hid (Blk (w5.alloc (.cells #[.string ⟨#[]⟩, .string ⟨#[]⟩, .int .i64 0] 55)) w5.heap.size 55 #[.string ⟨#[]⟩, .string ⟨#[]⟩, .int .i64 0]) := Blk.new _ _ _
                    have hbx := HBx.out
                    have hK := HK.out.later hbx
                    clear HK
                    have HK := Lib.hid hK
                    clear hK x0 x1 x2 hbx
                    have x0 := (HK.out.tab.cell 0).trans rfl
                    have x1 := (HK.out.tab.cell 1).trans rfl
                    have x2 := (HK.out.tab.cell 2).trans rfl
                    go_wp2_with fail
                    refine (HWu.out _).mono ?_
                    rintro e w6 ⟨a5, c5, rfl, hc5, hB5, hb5⟩
                    dsimp only at hB5
                    have HB5 := Lib.hid hB5
                    have HY := Lib.hid (HUb.out.belS hb5 HUb.out.lt)
                    have hK := HK.out.later hb5
                    clear HK
                    have HK := Lib.hid hK
                    clear hK x0 x1 x2 hb5
                    have x0 := (HK.out.tab.cell 0).trans rfl
                    have x1 := (HK.out.tab.cell 1).trans rfl
                    have x2 := (HK.out.tab.cell 2).trans rfl
                    clear hB5 hc5 HWu HUb HBx
                    go_wp2_with fail
                    refine (HAl.out _).mono ?_
                    rintro e w7 ⟨rfl, hb6⟩
                    have hs1 := ((HB5.out.below hb6).mono hb6.size).str _ c5 rfl
                    have hY := HY.out.belS hb6 HY.out.lt
                    have y0 := (hY.cell 0).trans rfl
                    have y1 := (hY.cell 1).trans rfl
                    have y2 := (hY.cell 2).trans rfl
                    have hK := HK.out.later hb6
                    clear HK
                    have HK := Lib.hid hK
                    clear hK x0 x1 x2 hb6
                    have x0 := (HK.out.tab.cell 0).trans rfl
                    have x1 := (HK.out.tab.cell 1).trans rfl
                    have x2 := (HK.out.tab.cell 2).trans rfl
                    have hs2 := HK.out.bs.str l.length cap rfl
                    have HBe := Lib.hid HK.out.bel
                    clear HB5 HY hY HK x0 x1 x2
                    go_wp2
                    go_ret
                    exact ⟨rfl, HBe.out⟩
                | true => exact absurd HO.out (by simp)
end Go.Proofs.Ytinddipgeldbpaa

/- The walk of hindsightlaw15.As. -/
set_option linter.unusedSimpArgs false
set_option linter.unusedVariables false
set_option maxRecDepth 100000
namespace Go.Proofs.Ytinddipgeldbpaa
open Go.RowKit

theorem info_colR : (Try.prog.info? 69).map (fun i => (i.zero, i.size, i.bytes)) = some (some (.agg #[.string ⟨#[]⟩, .int .u8 0, .bool false]), 3, 24) := by kernel_rfl
theorem infoRT : (Try.prog.info? 30).map (·.size) = some 8 := by kernel_rfl

/-- 'As' is at work. -/
structure AsIn (w W : World) (m : TM) (t : Tb) (cv : Value) (k : Nat) : Prop where
  out : Blk W (w.heap.size + 2) 30 (t.cs cv (.slice m.ka m.kl m.kc))
  row : W.ownsRow (w.heap.size + 3) 69 3 cv k (cellsO (t.cols.take k))
  tab : TBox W w.heap.size m t
  res : Blk W (w.heap.size + 1) 30 zeroTc
  bel : Below w.heap.size w W
theorem AsIn.new (w : World) (m : TM) (t : Tb) : AsIn w (((w.alloc (.cells (m.cs t) 25)).alloc (.cells zeroTc 30)).alloc (.cells (Tb.cs t (.slice none 0 0) (.slice m.ka m.kl m.kc)) 30)) m t (.slice none 0 0) 0 := by
  have e1 : (w.alloc (.cells (m.cs t) 25)).heap.size = w.heap.size + 1 := by simp
  have e2 : ((w.alloc (.cells (m.cs t) 25)).alloc (.cells zeroTc 30)).heap.size = w.heap.size + 2 := by simp
  refine ⟨?_, World.ownsRow_nil _ _ _ _, ?_, ?_, (((Below.refl _ w).alloc (Nat.le_refl _) _).alloc (by simp) _).alloc (by simp; omega) _⟩
  · have := Blk.new ((w.alloc (.cells (m.cs t) 25)).alloc (.cells zeroTc 30)) 30 (t.cs (.slice none 0 0) (.slice m.ka m.kl m.kc))
    rw [e2] at this; exact this
  · exact (TBox.new w m t _).later (N := w.heap.size + 1) (by omega) (((Below.refl _ _).alloc (by simp) _).alloc (by simp) _)
  · have := (Blk.new (w.alloc (.cells (m.cs t) 25)) 30 zeroTc).alloc (.cells (t.cs (.slice none 0 0) (.slice m.ka m.kl m.kc)) 30)
    rw [e1] at this; exact this
theorem AsIn.rowC {w W : World} {m : TM} {t : Tb} {cv : Value} {k : Nat} (h : AsIn w W m t cv k) {g : Nat} (hg : cv.ownBlock = some g) : w.heap.size + 2 < g := (h.row.lt g hg).1
theorem AsIn.drew {w W : World} {m : TM} {t : Tb} {cv : Value} {k : Nat} (h : AsIn w W m t cv k) : AsIn w W.drew m t cv k := ⟨h.out, h.row, ⟨h.tab.c0, h.tab.c1, h.tab.c2, h.tab.c3, h.tab.c4, h.tab.c5, h.tab.c6, h.tab.c7⟩, h.res, h.bel.drew⟩
theorem AsIn.add {w W W' : World} {m : TM} {t : Tb} {cv cv' : Value} {k : Nat} {T0 : TypeId} {cs : Array Value} (h : AsIn w W m t cv k) (hr : W'.ownsRow (w.heap.size + 3) 69 3 cv' (k + 1) (cellsO (t.cols.take (k + 1)))) (hc : Chg cv.ownBlock.toList (W.alloc (.cells cs T0)) W') :
    AsIn w (W'.setCell ⟨w.heap.size + 2, 1, none⟩ cv') m t cv' (k + 1) := by
  have hc0 : Chg cv.ownBlock.toList W W' := ((Chg.refl _ _).alloc _).trans hc
  have hgt : ∀ g ∈ cv.ownBlock.toList, w.heap.size + 2 < g := fun g hm => by rw [Option.mem_toList] at hm; exact h.rowC hm
  have hcS : Chg [w.heap.size + 2] W' (W'.setCell ⟨w.heap.size + 2, 1, none⟩ cv') := (Chg.refl _ _).setCell (.inl (by simp)) _
  have hlt := h.out.lt
  have hsz := hc0.size
  have hall : Below (w.heap.size + 2) W (W'.setCell ⟨w.heap.size + 2, 1, none⟩ cv') := (hc0.below (by omega) (fun g hm => by have := hgt g hm; omega)).trans (hcS.below (by omega) (by simp))
  exact ⟨(h.out.chg hc0 (fun hm => by have := hgt _ hm; omega)).set_ 1 cv', own_chg hr hcS (fun g hg => by have := (hr.lt g hg).1; simp; omega), h.tab.later (by omega) hall, (hall.block _ (by omega)).trans h.res, h.bel.trans (hall.mono (by omega))⟩

set_option maxHeartbeats 4000000 in
theorem as15_any (t : Tb) (m : TM) (w : World) (h : TAt w t m) :
    Calls Try.prog 10 #[m.v t] w fun e w' => ∃ n : TM, e = .returned (.agg #[.string t.name, .slice n.ca n.cl n.cc, .slice n.ka n.kl n.kc, .string t.per, .int .i64 t.fr, .int .i64 t.tt, .bool t.apart, .bool t.vers]) ∧ TAt w' t n ∧ (n.ka = m.ka ∧ n.kl = m.kl ∧ n.kc = m.kc ∧ n.cl = t.cols.length ∧ w'.ownsRow w.heap.size 69 3 (.slice n.ca n.cl n.cc) n.cl (cellsO t.cols)) ∧ Below w.heap.size w w' := by
  obtain ⟨iC, hiC, hzC, hsC, hbC⟩ := info_parts info_colR
  have HI0 := Lib.hid (AsIn.new w m t)
  have HTA := Lib.hid h
  have HCol := Lib.hid h.carr
  have hcl := h.hc
  have hcm := h.cmax
  obtain ⟨ca, cl, cc, ka, kl, kc⟩ := m
  dsimp only at hcl HCol hcm
  subst hcl
  clear h
  go_enter Try.func10, Try.ntmps10
  go_wp2_with fail
  go_loopw [4] (fun i wr => ∃ (k : Nat) (cv : Value), k ≤ t.cols.length ∧ i = .int .i64 k ∧ Hid (AsIn w wr ⟨ca, t.cols.length, cc, ka, kl, kc⟩ t cv k)) (fun i _ => t.cols.length - (intOf i).toNat)
  case atStart => exact ⟨0, _, by omega, rfl, HI0⟩
  case round =>
    clear HI0
    obtain ⟨k, cv, hk, rfl, HI⟩ := hrel
    have x1 := HI.out.tab.c1
    dsimp only at x1
    by_cases hlt : k < t.cols.length
    · obtain ⟨b, o, rfl, hbN, c0, c1, c2⟩ := colAt HCol.out hlt
      have hTlt := HI.out.out.lt
      have hTS : w.heap.size + 2 ∉ cv.ownBlock.toList := by
        intro hm; rw [Option.mem_toList] at hm
        have := HI.out.rowC hm; omega
      have hBS : w.heap.size ∉ cv.ownBlock.toList := by
        intro hm; rw [Option.mem_toList] at hm
        have := HI.out.rowC hm; omega
      have hbS : b ∉ cv.ownBlock.toList := by
        intro hm; rw [Option.mem_toList] at hm
        have := HI.out.rowC hm; omega
      have HSn : Hid (cellsO (t.cols.take (k + 1)) = cellsO (t.cols.take k) ++ [.string t.cols[k].nm, .int .u8 (t.cols[k].kd : Int), .bool t.cols[k].nn]) := by
        show _ = _
        rw [List.take_succ_eq_append_getElem hlt]; exact cellsOf_snoc _ _ _
      have e0 : ∀ W, Chg cv.ownBlock.toList wr.drew W → W.cell? ⟨w.heap.size + 2, 1, none⟩ = some cv := fun W hW => (hW.cell (b := w.heap.size + 2) hTlt hTS).trans ((HI.out.out.cell 1).trans rfl)
      have e1 : ∀ W, Chg cv.ownBlock.toList wr.drew W → W.cell? ⟨w.heap.size, 1, none⟩ = some (.slice (some ⟨b, o, none⟩) t.cols.length cc) := fun W hW => (hW.cell (b := w.heap.size) (by show w.heap.size < wr.heap.size; omega) hBS).trans x1
      have d0 : ∀ W, Chg cv.ownBlock.toList wr.drew W → W.cell? ⟨b, o + k * 3, none⟩ = some (.string t.cols[k].nm) := fun W hW => (hW.cell (b := b) (by show b < wr.heap.size; omega) hbS).trans ((HI.out.bel.cell (p := ⟨b, o + k * 3, none⟩) hbN).trans c0)
      have d1 : ∀ W, Chg cv.ownBlock.toList wr.drew W → W.cell? ⟨b, o + k * 3 + 1, none⟩ = some (.int .u8 (t.cols[k].kd : Int)) := fun W hW => (hW.cell (b := b) (by show b < wr.heap.size; omega) hbS).trans ((HI.out.bel.cell (p := ⟨b, o + k * 3 + 1, none⟩) hbN).trans c1)
      have d2 : ∀ W, Chg cv.ownBlock.toList wr.drew W → W.cell? ⟨b, o + k * 3 + 2, none⟩ = some (.bool t.cols[k].nn) := fun W hW => (hW.cell (b := b) (by show b < wr.heap.size; omega) hbS).trans ((HI.out.bel.cell (p := ⟨b, o + k * 3 + 2, none⟩) hbN).trans c2)
      generalize t.cols[k].nm = nm at *
      generalize t.cols[k].kd = kd at *
      generalize t.cols[k].nn = nn at *
      clear c0 c1 c2 hbN hBS hbS
      go_wp2_with fail
      clear x1
      refine wp_region_ordX cv.ownBlock.toList 24 [(0, true), (1, true), (2, true), (3, true), (4, true), (5, true), (6, true), (7, true), (8, true), (9, true), (10, true), (11, true), (12, true), (13, true), (14, true), (15, true), (16, true), (17, true), (18, true), (19, true), (20, true), (21, false), (22, false), (23, true)] (by kernel_rfl) (by kernel_rfl) (by kernel_rfl) (by kernel_rfl) ?_
      repeat (first | ((refine wpOX_F rfl (by rfl) (fun w' hL => exec_load rfl rfl (e0 w' hL)) ?_); try simp only [Act.put, List.setIfInBounds_toArray, List.set_cons_zero, List.set_cons_succ]) | ((refine wpOX_F rfl (by rfl) (fun w' hL => exec_load rfl rfl (e1 w' hL)) ?_); try simp only [Act.put, List.setIfInBounds_toArray, List.set_cons_zero, List.set_cons_succ]) | ((refine wpOX_F rfl (by rfl) (fun w' hL => exec_load rfl rfl (d0 w' hL)) ?_); try simp only [Act.put, List.setIfInBounds_toArray, List.set_cons_zero, List.set_cons_succ]) | ((refine wpOX_F rfl (by rfl) (fun w' hL => exec_load rfl rfl (d1 w' hL)) ?_); try simp only [Act.put, List.setIfInBounds_toArray, List.set_cons_zero, List.set_cons_succ]) | ((refine wpOX_F rfl (by rfl) (fun w' hL => exec_load rfl rfl (d2 w' hL)) ?_); try simp only [Act.put, List.setIfInBounds_toArray, List.set_cons_zero, List.set_cons_succ]) | (refine wpOX_F (v := ?_) rfl (by rfl) (fun w' hL => ?_) ?_; rotate_left; (solve | (go_simp; with_reducible rfl) | go_simp); try simp only [Act.put, List.setIfInBounds_toArray, List.set_cons_zero, List.set_cons_succ]) | (refine wpOX_G (Chg.refl _) rfl (by rfl) ?_; try simp only [Act.put, List.setIfInBounds_toArray, List.set_cons_zero, List.set_cons_succ]))
      refine wpOX_C rfl (by rfl) ?_
      go_simp
      refine ⟨(Chg.refl _ _).alloc _, ?_⟩
      try simp only [Act.put, List.setIfInBounds_toArray, List.set_cons_zero, List.set_cons_succ]
      have hr2 : wr.drew.ownsRow (w.heap.size + 3) 69 3 cv k (cellsO (t.cols.take k)) := HI.out.row
      have hbs : w.heap.size + 3 ≤ wr.drew.heap.size := HI.out.out.lt
      refine wpOX_C rfl (by rfl) ?_
      refine wp_appC (.tmp 28) (.tmp 48) 28 rfl (w.heap.size + 3) 69 iC (.agg #[.string ⟨#[]⟩, .int .u8 0, .bool false]) 3 24 Try.underlying28 hiC hzC rfl hsC (by omega) hbC (by omega) cv k _ [.string nm, .int .u8 (kd : Int), .bool nn] wr.drew hr2 rfl _ rfl rfl (by simp [Value.oneCell']) rfl (by omega) hbs ?_
      intro cv2 x4 hr4 hc4 hsz4
      refine ⟨hc4, ?_⟩
      try simp only [Act.put, List.setIfInBounds_toArray, List.set_cons_zero, List.set_cons_succ]
      obtain ⟨ac2, cc2, hcv2, -, -, -⟩ := own_slice hr4
      rw [← HSn.out] at hr4
      have hN := HI.out.drew.add hr4 hc4
      have htb := HI.out.drew.out.chg (((Chg.refl _ _).alloc _).trans hc4) hTS
      have pc := (htb.cell 1).trans rfl
      have pf := htb.frozen 1
      have pl := htb.lt
      have HN2 := Lib.hid hN
      generalize k + 1 = kk at hcv2
      subst hcv2
      clear hN htb hr4 hc4 hr2 e0 e1 d0 d1 d2 HI hTS hTlt
      repeat (first | (refine wpOX_F (v := ?_) rfl (by rfl) (fun w' hL => ?_) ?_; rotate_left; (solve | (go_simp; with_reducible rfl) | go_simp); try simp only [Act.put, List.setIfInBounds_toArray, List.set_cons_zero, List.set_cons_succ]) | (refine wpOX_G (Chg.refl _) rfl (by rfl) ?_; try simp only [Act.put, List.setIfInBounds_toArray, List.set_cons_zero, List.set_cons_succ]))
      refine wpOX_end rfl (by rfl) ?_
      go_simp
      simp only [NoPanic]
      go_wp2
      go_roundw
      case rel => exact ⟨k + 1, Value.slice ac2 kk cc2, by omega, by go_num, HN2⟩
      case measure => simp [intOf]; omega
    · have hke : k = t.cols.length := by omega
      subst hke
      have hrow := HI.out.row
      rw [List.take_length] at hrow
      obtain ⟨ac, acc, hcv, hac, -, hA⟩ := own_slice hrow
      subst hcv
      have y0 := (HI.out.out.cell 0).trans rfl
      have y1 := (HI.out.out.cell 1).trans rfl
      have y2 := (HI.out.out.cell 2).trans rfl
      have y3 := (HI.out.out.cell 3).trans rfl
      have y4 := (HI.out.out.cell 4).trans rfl
      have y5 := (HI.out.out.cell 5).trans rfl
      have y6 := (HI.out.out.cell 6).trans rfl
      have y7 := (HI.out.out.cell 7).trans rfl
      have HS : Hid ((storeVar 30 ⟨w.heap.size + 1, 0, none⟩ (.agg (t.cs (.slice ac t.cols.length acc) (.slice ka kl kc)))).run Try.prog wr = .ok () (wr.setRow (w.heap.size + 1) (t.cs (.slice ac t.cols.length acc) (.slice ka kl kc)))) :=
        run_storeVar_row _ _ _ 30 _ _ HI.out.res (by rw [infoRT]; rfl) rfl (by simp [Value.oneCell'])
      have HL : Hid ((loadVar 30 ⟨w.heap.size + 1, 0, none⟩).run Try.prog (wr.setRow (w.heap.size + 1) (t.cs (.slice ac t.cols.length acc) (.slice ka kl kc))) = .ok (.agg (t.cs (.slice ac t.cols.length acc) (.slice ka kl kc))) (wr.setRow (w.heap.size + 1) (t.cs (.slice ac t.cols.length acc) (.slice ka kl kc)))) :=
        run_loadVar_row _ _ _ 30 _ (0, 0) _ (Blk.setRow (new := t.cs (.slice ac t.cols.length acc) (.slice ka kl kc)) HI.out.res) Try.underlying30 rfl (by rw [infoRT]; rfl)
      have hcR : Chg [w.heap.size + 1] wr (wr.setRow (w.heap.size + 1) (t.cs (.slice ac t.cols.length acc) (.slice ka kl kc))) := (Chg.refl _ _).setRow (.inl (by simp)) _
      have hbR : Below w.heap.size w (wr.setRow (w.heap.size + 1) (t.cs (.slice ac t.cols.length acc) (.slice ka kl kc))) := HI.out.bel.trans (hcR.below HI.out.bel.size (by simp))
      have hrow2 := own_chg hrow hcR (fun g hg => by have := (hrow.lt g hg).1; simp; omega)
      obtain ⟨ac', acc', hcv', hac', -, hA'⟩ := own_slice hrow2
      injection hcv' with e1 e2 e3
      subst e1
      have HOw := Lib.hid (own_base hrow2 (show w.heap.size ≤ w.heap.size + 3 by omega))
      have HF := Lib.hid hbR
      have HAt : Hid (TAt (wr.setRow (w.heap.size + 1) (t.cs (.slice ac t.cols.length acc) (.slice ka kl kc))) t ⟨ac, t.cols.length, acc, ka, kl, kc⟩) :=
        ⟨rfl, HTA.out.hk, hac, HTA.out.kcap, hA', HTA.out.karr.later (N := 0) hbR, HTA.out.fair⟩
      clear HI hrow hac hA hcR hbR hrow2 hac' hA' e2 e3
      go_wp2_with (first | (guard_target =~ wpList _ _ _ (Oper.mk _ (Op.store 30 _ _) _ _ _ _ :: _) _ _; refine wpList_skp rfl (exec_store rfl rfl rfl HS.out) ?_))
      exact bodyPost_ret (v := .agg (t.cs (.slice ac t.cols.length acc) (.slice ka kl kc))) (results_cell1 Try.results10 _ _ rfl HL.out) rfl ⟨⟨ac, t.cols.length, acc, ka, kl, kc⟩, rfl, HAt.out, ⟨rfl, rfl, rfl, rfl, HOw.out⟩, HF.out⟩
end Go.Proofs.Ytinddipgeldbpaa

/- The reference of layer 15: the walks of sound, among and Find. -/
set_option linter.unusedSimpArgs false
set_option linter.unusedVariables false
set_option maxRecDepth 100000
namespace Go.Proofs.Ytinddipgeldbpaa
open Go.RowKit

open Classical in
noncomputable def soundB (l : List Col) (i : Int) : Bool := decide (SoundAt l i)
theorem soundB_false {l : List Col} {i : Int} (h : ¬ SoundAt l i) : soundB l i = false := by unfold soundB; simpa using h
theorem soundB_eq {l : List Col} {j : Nat} (h : j < l.length) : soundB l j = l[j].nn := by
  unfold soundB SoundAt
  rw [Int.toNat_natCast, List.getElem?_eq_getElem h, Bool.eq_iff_iff]
  simp
theorem soundB_iff {l : List Col} {i : Int} : soundB l i = true ↔ SoundAt l i := by unfold soundB; simp

set_option maxHeartbeats 2000000 in
theorem rSound_any (t : Tb) (m : TM) (i : Int) (w : World) (h : TAt w t m) :
    Calls Try.prog 39 #[m.v t, .int .i64 i] w fun e w' => e = .returned (.bool (soundB t.cols i)) ∧ Below w.heap.size w w' := by
  have hcmax := h.cmax
  have hcl := h.hc
  have harr := h.carr
  obtain ⟨ca, cl, cc, ka, kl, kc⟩ := m
  clear h
  dsimp only at hcmax hcl harr
  subst hcl
  have HB0 : Hid (Below w.heap.size w (w.alloc (.cells (TM.cs ⟨ca, t.cols.length, cc, ka, kl, kc⟩ t) 30))) := (Below.refl _ w).alloc (Nat.le_refl _) _
  by_cases h0 : 0 ≤ i
  · by_cases h1 : i < (t.cols.length : Int)
    · obtain ⟨j, rfl⟩ : ∃ j : Nat, i = j := ⟨i.toNat, by omega⟩
      have hjl : j < t.cols.length := by omega
      obtain ⟨b2, o2, rfl, hbN2, -, -, g2⟩ := colAt harr hjl
      have HE := Lib.hid (soundB_eq hjl)
      replace g2 := (HB0.out.cell (p := ⟨b2, o2 + j * 3 + 2, none⟩) hbN2).trans g2
      generalize t.cols[j].nn = nv at *
      clear harr hbN2
      go_enter Try.func39, Try.ntmps39
      go_wp2
      go_ret
      exact ⟨ret_b HE.out.symm, HB0.out⟩
    · have HE : Hid (soundB t.cols i = false) := soundB_false (fun ⟨_, c, h2, _⟩ => by have := (List.getElem?_eq_some_iff.1 h2).1; omega)
      have q1 : decide (i < (t.cols.length : Int)) = false := decide_eq_false h1
      clear harr
      go_enter Try.func39, Try.ntmps39
      go_wp2
      go_ret
      exact ⟨ret_b HE.out.symm, HB0.out⟩
  · have HE : Hid (soundB t.cols i = false) := soundB_false (fun ⟨h2, _⟩ => h0 h2)
    have q1 : decide (0 ≤ i) = false := decide_eq_false h0
    clear harr
    go_enter Try.func39, Try.ntmps39
    go_wp2
    go_ret
    exact ⟨ret_b HE.out.symm, HB0.out⟩

set_option maxHeartbeats 1000000 in
theorem rAmong_any (l : List Int) (key : Int) (a : Option Addr) (len cap : Nat) (w : World) (hV : Arr w.heap.size w a (cellsI l)) (hlen : len = l.length) (hmax : len ≤ 140737488355328) :
    Calls Try.prog 40 #[.slice a len cap, .int .i64 key] w fun e w' => e = .returned (.bool (decide (key ∈ l))) ∧ w = w' := by
  have HV := Lib.hid hV
  have HL := Lib.hid hlen
  clear hV hlen
  obtain ⟨R, hR⟩ : ∃ R, decide (key ∈ l) = R := ⟨_, rfl⟩
  rw [hR]
  have HR := Lib.hid hR
  clear hR
  go_enter Try.func40, Try.ntmps40
  go_wp2
  go_loop [5] (fun i => ∃ k : Nat, k ≤ len ∧ i = .int .i64 k ∧ Hid (key ∉ l.take k)) (fun i => len - (intOf i).toNat)
  case atStart => exact ⟨0, by omega, rfl, by simp [Hid]⟩
  case round =>
    obtain ⟨k, hk, rfl, HI⟩ := hrel
    by_cases hlt : k < len
    · have hkl : k < l.length := by have := HL.out; omega
      obtain ⟨b, o, rfl, hbN, c0⟩ := intAt HV.out hkl
      have hg := List.getElem?_eq_getElem hkl
      obtain ⟨y, hy⟩ : ∃ y, y = l[k] := ⟨_, rfl⟩
      rw [← hy] at c0 hg
      clear hy
      by_cases hky : y = key
      · subst hky
        have HG : Hid (R = true) := by rw [Hid, ← HR.out]; exact decide_eq_true (List.mem_of_getElem? hg)
        clear hg
        go_wp2
        go_ret
        exact ⟨ret_b HG.out.symm, rfl⟩
      · have q1 : (y == key) = false := by simpa using hky
        have HT : Hid (key ∉ l.take (k + 1)) := by
          intro hm
          rw [List.take_add_one, hg] at hm
          rcases List.mem_append.1 hm with hm | hm
          · exact HI.out hm
          · simp at hm; exact hky hm.symm
        clear hg hky
        go_wp2
        go_round
        case rel => exact ⟨k + 1, by omega, by go_num, HT⟩
        case measure => simp [intOf]; omega
    · have HG : Hid (R = false) := by rw [Hid, ← HR.out]; exact decide_eq_false (by have := HI.out; rwa [List.take_of_length_le (by have := HL.out; omega)] at this)
      go_wp2
      go_ret
      exact ⟨ret_b HG.out.symm, rfl⟩

set_option maxHeartbeats 1000000 in
theorem rFind_any (t : Tb) (m : TM) (s : ByteArray) (w : World) (h : TAt w t m) :
    Calls Try.prog 15 #[m.v t, .string s] w fun e w' => e = .returned (.int .i64 (findC t.cols s)) ∧ Below w.heap.size w w' := by
  have hcmax := h.cmax
  have hcl := h.hc
  have HV := Lib.hid h.carr
  obtain ⟨ca, cl, cc, ka, kl, kc⟩ := m
  clear h
  dsimp only at hcmax hcl HV
  subst hcl
  have HB0 : Hid (Below w.heap.size w (w.alloc (.cells (TM.cs ⟨ca, t.cols.length, cc, ka, kl, kc⟩ t) 30))) := (Below.refl _ w).alloc (Nat.le_refl _) _
  obtain ⟨R, hR⟩ : ∃ R, findC t.cols s = R := ⟨_, rfl⟩
  rw [hR]
  have HR := Lib.hid hR
  clear hR
  go_enter Try.func15, Try.ntmps15
  go_wp2
  go_loop [5] (fun i => ∃ k : Nat, k ≤ t.cols.length ∧ i = .int .i64 k ∧ Hid (∀ c ∈ t.cols.take k, c.nm ≠ s)) (fun i => t.cols.length - (intOf i).toNat)
  case atStart => exact ⟨0, by omega, rfl, by simp [Hid]⟩
  case round =>
    obtain ⟨k, hk, rfl, HI⟩ := hrel
    by_cases hlt : k < t.cols.length
    · obtain ⟨b, o, rfl, hbN, c0, -, -⟩ := colAt HV.out hlt
      replace c0 := (HB0.out.cell (p := ⟨b, o + k * 3, none⟩) hbN).trans c0
      have HF : Hid (t.cols[k].nm = s → R = k) := fun h => by rw [← HR.out]; exact findC_hit hlt h HI.out
      have HN : Hid (t.cols[k].nm ≠ s → ∀ c ∈ t.cols.take (k + 1), c.nm ≠ s) := fun h c hc => by
        rw [List.take_succ_eq_append_getElem hlt] at hc
        rcases List.mem_append.1 hc with h1 | h1
        · exact HI.out c h1
        · simp at h1; subst h1; exact h
      generalize t.cols[k].nm = nm at *
      clear hbN
      by_cases hxs : nm = s
      · have HA := Lib.hid (HF.out hxs)
        subst hxs
        clear HF HN
        go_wp2
        go_ret
        exact ⟨by rw [HA.out]; rfl, HB0.out⟩
      · have HA := Lib.hid (HN.out hxs)
        have hnb : (nm.toList == s.toList) = false := by rw [beq_eq_false_iff_ne]; exact fun h => hxs (toList_inj h)
        have hnb2 : ¬ nm.toList = s.toList := fun h => hxs (toList_inj h)
        clear HF HN hxs
        go_wp2
        go_round
        case rel => exact ⟨k + 1, by omega, by go_num, HA⟩
        case measure => simp [intOf]; omega
    · have HA : Hid (R = -1) := by rw [Hid, ← HR.out]; exact findC_none (by have := HI.out; rwa [List.take_of_length_le (by omega)] at this)
      go_wp2
      go_ret
      exact ⟨by rw [HA.out]; rfl, HB0.out⟩
end Go.Proofs.Ytinddipgeldbpaa
