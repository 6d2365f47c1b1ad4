/- Several texts of one proof, one behind the other. -/
import Derived.Test.YtbglchoamihdlaaKPk13

/- The walk of the law KeyBack. -/
namespace Go.Proofs.Ytbglchoamihdlaa
open Go.RowKit

theorem k_read_write {l : List Vl} {x : List Nat} (h : writeK l = (x, 0)) (hf : ∀ y ∈ l, y.fair) : readK x = (l, 0) := by
  cases hro : rowOk l with
  | false => rw [writeK_bad hro] at h; simp at h
  | true =>
    by_cases hl : 100 < (keyL l).length
    · rw [writeK_long hro hl] at h; simp at h
    · rw [writeK_good hro hl] at h
      simp only [Prod.mk.injEq, and_true] at h
      subst h
      obtain ⟨h16, hr⟩ := (rowOk_iff l).1 hro
      unfold readK tupK
      rw [if_neg hl, tup_enc l [] _ hr hf (by simpa using h16) (Nat.le_refl _)]
      rfl

theorem k_write_read (b : List Nat) (h256 : ∀ c ∈ b, c < 256) : ((readK b).2 ≠ 0 ∧ (readK b).1 = []) ∨
    ((readK b).2 = 0 ∧ writeK (readK b).1 = (b, 0) ∧ (∀ y ∈ (readK b).1, y.fair) ∧ (readK b).1.length ≤ 16) := by
  unfold readK
  by_cases hlong : 100 < b.length
  · left; rw [if_pos hlong]; exact ⟨by simp, rfl⟩
  · rw [if_neg hlong]
    cases hT : tupK b with
    | none => left; exact ⟨by simp, rfl⟩
    | some L =>
      right
      unfold tupK at hT
      obtain ⟨M, e1, e2, e3, e4, e5, e6⟩ := enc_tup b.length [] b h256 (Nat.le_refl _) (by omega) (by simp) L hT
      rw [List.nil_append] at e1
      subst e1
      refine ⟨rfl, ?_, e4, e5⟩
      have hr : rowOk L = true := (rowOk_iff L).2 ⟨e5, e3⟩
      simp only []
      rw [writeK_good hr (by rw [e2]; exact hlong), e2]

theorem writeK_len (l : List Vl) : (writeK l).1.length ≤ 100 := by
  cases hro : rowOk l with
  | false => rw [writeK_bad hro]; simp
  | true =>
    by_cases hl : 100 < (keyL l).length
    · rw [writeK_long hro hl]; simp
    · rw [writeK_good hro hl]; simp only []; omega

set_option maxHeartbeats 8000000 in
theorem kback_any (l : List Vl) (a : Option Addr) (len cap : Nat) (bl : List Nat) (a' : Option Addr) (len' cap' : Nat) (w : World) (h1 : RowIn w a len cap l) (hB : Bs w.heap.size w a' bl) (hlen' : len' = bl.length) (hcap' : len' ≤ cap') (hmax' : cap' ≤ 9223372036854775807) :
    Calls Try.prog 4 #[.slice a len cap, .slice a' len' cap'] w fun e w' => e = .returned (.bool true) ∧ Below w.heap.size w w' := by
  have H1 := Lib.hid h1
  have HB := Lib.hid hB
  have HL := Lib.hid hlen'
  clear h1 hB hlen'
  have HA := Lib.hid (fun W => alive4_any W)
  go_enter Try.func4, Try.ntmps4
  go_wp2_with fail
  refine H1.out.great.mono ?_
  rintro e w1 ⟨g, rfl, hg, rfl⟩
  cases g with
  | true =>
    clear hg
    go_wp2_with fail
    refine (HA.out _).mono ?_
    rintro e w1 ⟨rfl, hb⟩
    go_wp2
    go_ret
    exact ⟨rfl, hb⟩
  | false =>
    have S1 := Lib.hid (hg rfl)
    clear hg
    by_cases hbig : 300 < len'
    · go_wp2_with fail
      refine (HA.out _).mono ?_
      rintro e w1 ⟨rfl, hb⟩
      go_wp2
      go_ret
      exact ⟨rfl, hb⟩
    · have qb : decide ((300 : Int) < (len' : Int)) = false := by simp; omega
      have L1 : len ≤ 40 := by have := H1.out.1; have := S1.out.1; omega
      have hf : ∀ x ∈ l, x.fair := fun x hx => (H1.out.2.2.2.2 x hx).fair
      have HWr := Lib.hid (fun W (hb : Below w.heap.size w W) => KWrite_any l a len cap W (H1.out.later hb).2.2.2.1 H1.out.1 (by omega) hf)
      have HRd := Lib.hid (fun W (hb : Below w.heap.size w W) => KRead_any bl a' len' cap' W ((HB.out.below hb).mono hb.size) HL.out hcap' (by omega))
      have HRW := Lib.hid (fun x (h : writeK l = (x, 0)) => k_read_write h hf)
      have HXL := Lib.hid (writeK_len l)
      have hm := k_write_read bl HB.out.1
      obtain ⟨R, hR⟩ : ∃ R, readK bl = R := ⟨_, rfl⟩
      rw [hR] at HRd hm
      obtain ⟨M, f⟩ := R
      dsimp only at hm
      have hMf : (∀ y ∈ M, y.fair) ∧ M.length ≤ 16 := by
        rcases hm with ⟨_, h⟩ | ⟨_, _, h⟩
        · rw [h]; simp
        · exact h
      have HMF := Lib.hid hMf
      have HM : Hid ((f ≠ 0) ∨ (f = 0 ∧ writeK M = (bl, 0))) := by
        rcases hm with ⟨h, _⟩ | ⟨h1, h2, _⟩
        · exact .inl h
        · exact .inr ⟨h1, h2⟩
      obtain ⟨X, hX⟩ : ∃ X, writeK l = X := ⟨_, rfl⟩
      rw [hX] at HWr HRW HXL
      obtain ⟨xl, e0⟩ := X
      clear hf hm hMf hR hX
      dsimp only at HXL
      go_wp2_with fail
      refine (HWr.out _ (Below.refl _ _)).mono ?_
      rintro e w2 ⟨a2, c2, rfl, hcap2, hB2, hb2⟩
      dsimp only at hcap2 hB2 ⊢
      have hw : Below w.heap.size w w2 := hb2
      have HB2 := Lib.hid hB2
      obtain ⟨n2, hn2⟩ : ∃ n2, n2 = xl.length := ⟨_, rfl⟩
      rw [← hn2] at hcap2 ⊢
      have HN2 := Lib.hid hn2
      have hx2 : n2 ≤ 100 := by have := HXL.out; have := HN2.out; omega
      clear hb2 hB2 HWr HXL hn2
      -- what comes behind the first half
      have HT : ∀ (W : World), Below w.heap.size w W → Hid (Below w.heap.size w W) := fun _ h => h
      by_cases he : e0 = 0
      · subst he
        have HRX := Lib.hid (HRW.out xl rfl)
        have hRdX := KRead_any xl a2 n2 c2 w2 HB2.out HN2.out hcap2 (by omega)
        rw [HRX.out] at hRdX
        have HRdX := Lib.hid hRdX
        clear hRdX
        go_wp2_with fail
        refine HRdX.out.mono ?_
        rintro e w3 ⟨a3, c3, rfl, hcap3, hV3, hb3⟩
        dsimp only at hcap3 hV3 ⊢
        have hw3 := hw.trans (hb3.mono hw.size)
        have hSame := Same_any l l a len cap a3 l.length c3 w3 (H1.out.later hw3).2.2.2.1 H1.out.1 hV3 rfl (by omega) (by have := H1.out.1; omega)
        unfold RetS at hSame
        rw [decide_eq_true (rfl : l = l), ← H1.out.1] at hSame
        rw [← H1.out.1]
        have HSame := Lib.hid hSame
        clear hSame HRdX hV3 hcap3 hb3
        go_wp2_with fail
        refine HSame.out.mono ?_
        rintro e w4 ⟨rfl, hb4⟩
        have hw4 := hw3.trans (hb4.mono hw3.size)
        clear HSame hb4 hw3 hw HT
        go_wp2_with fail
        refine (HRd.out _ hw4).mono ?_
        rintro e w5 ⟨a5, c5, rfl, hcap5, hV5, hb5⟩
        dsimp only at hcap5 hV5 ⊢
        have hw5 := hw4.trans (hb5.mono hw4.size)
        have hWM := KWrite_any M a5 M.length c5 w5 hV5 rfl (by have := HMF.out.2; omega) HMF.out.1
        have HWM := Lib.hid hWM
        clear hWM hV5 hcap5 hb5 HRd hw4
        go_wp2_with fail
        refine HWM.out.mono ?_
        rintro e w6 ⟨a6, c6, rfl, hcap6, hB6, hb6⟩
        have hw6 := hw5.trans (hb6.mono hw5.size)
        clear HWM hw5 hb6
        have hm := HM.out
        clear HM
        rcases hm with hf | ⟨rfl, hwm⟩
        · have qf : (f != 0) = true := by simp [hf]
          have qf2 : (f == 0) = false := by simp [hf]
          obtain ⟨G, hG⟩ : ∃ G, writeK M = G := ⟨_, rfl⟩
          rw [hG] at hB6 hcap6 ⊢
          obtain ⟨al, gg⟩ := G
          clear hG hB6 hcap6
          go_wp2_with fail
          refine (HA.out _).mono ?_
          rintro e w7 ⟨rfl, hb7⟩
          have hw7 := hw6.trans (hb7.mono hw6.size)
          go_wp2
          go_ret
          exact ⟨rfl, hw7⟩
        · rw [hwm] at hB6 hcap6 ⊢
          dsimp only at hB6 ⊢
          clear hcap6 hwm
          go_wp2_with fail
          refine (HA.out _).mono ?_
          rintro e w7 ⟨rfl, hb7⟩
          have hw7 := hw6.trans (hb7.mono hw6.size)
          have hcv := (hB6.below hb7).str bl.length c6 rfl
          have hcv2 := (HB.out.below hw7).str len' cap' HL.out
          rw [← HL.out] at hcv ⊢
          clear hB6 hb7
          go_wp2
          go_ret
          exact ⟨rfl, hw7⟩
      · have qe : (e0 == 0) = false := by simp [he]
        clear HRW HT
        go_wp2_with fail
        refine (HRd.out _ hw).mono ?_
        rintro e w5 ⟨a5, c5, rfl, hcap5, hV5, hb5⟩
        dsimp only at hcap5 hV5 ⊢
        have hw5 := hw.trans (hb5.mono hw.size)
        have hWM := KWrite_any M a5 M.length c5 w5 hV5 rfl (by have := HMF.out.2; omega) HMF.out.1
        have HWM := Lib.hid hWM
        clear hWM hV5 hcap5 hb5 HRd hw
        go_wp2_with fail
        refine HWM.out.mono ?_
        rintro e w6 ⟨a6, c6, rfl, hcap6, hB6, hb6⟩
        have hw6 := hw5.trans (hb6.mono hw5.size)
        clear HWM hw5 hb6
        have hm := HM.out
        clear HM
        rcases hm with hf | ⟨rfl, hwm⟩
        · have qf : (f != 0) = true := by simp [hf]
          have qf2 : (f == 0) = false := by simp [hf]
          obtain ⟨G, hG⟩ : ∃ G, writeK M = G := ⟨_, rfl⟩
          rw [hG] at hB6 hcap6 ⊢
          obtain ⟨al, gg⟩ := G
          clear hG hB6 hcap6
          go_wp2_with fail
          refine (HA.out _).mono ?_
          rintro e w7 ⟨rfl, hb7⟩
          have hw7 := hw6.trans (hb7.mono hw6.size)
          go_wp2
          go_ret
          exact ⟨rfl, hw7⟩
        · rw [hwm] at hB6 hcap6 ⊢
          dsimp only at hB6 ⊢
          clear hcap6 hwm
          go_wp2_with fail
          refine (HA.out _).mono ?_
          rintro e w7 ⟨rfl, hb7⟩
          have hw7 := hw6.trans (hb7.mono hw6.size)
          have hcv := (hB6.below hb7).str bl.length c6 rfl
          have hcv2 := (HB.out.below hw7).str len' cap' HL.out
          rw [← HL.out] at hcv ⊢
          clear hB6 hb7
          go_wp2
          go_ret
          exact ⟨rfl, hw7⟩
end Go.Proofs.Ytbglchoamihdlaa

/- The walk of the law KeyOrder. -/
namespace Go.Proofs.Ytbglchoamihdlaa
open Go.RowKit

theorem writeK_ok {l : List Vl} {x : List Nat} (h : writeK l = (x, 0)) : x = keyL l ∧ l.length ≤ 16 ∧ ∀ y ∈ l, y.right = true := by
  cases hro : rowOk l with
  | false => rw [writeK_bad hro] at h; simp at h
  | true =>
    by_cases hl : 100 < (keyL l).length
    · rw [writeK_long hro hl] at h; simp at h
    · rw [writeK_good hro hl] at h
      simp only [Prod.mk.injEq, and_true] at h
      exact ⟨h.symm, (rowOk_iff l).1 hro⟩

/-- The order of two keys' strings. -/
theorem key_cmp {l m : List Vl} {x y : List Nat} (hx : writeK l = (x, 0)) (hy : writeK m = (y, 0)) (fl : ∀ v ∈ l, v.fair) (fm : ∀ v ∈ m, v.fair) (hx256 : ∀ c ∈ x, c < 256) (hy256 : ∀ c ∈ y, c < 256) :
    (strN x).toList < (strN y).toList ↔ lexO l m < 0 := by
  obtain ⟨rfl, _, hl⟩ := writeK_ok hx
  obtain ⟨rfl, _, hm⟩ := writeK_ok hy
  rw [bytes_lt_iff, bytesOf_strN _ hx256, bytesOf_strN _ hy256]
  exact keyL_order l m hl hm fl fm

theorem key_eq {l m : List Vl} {x y : List Nat} (hx : writeK l = (x, 0)) (hy : writeK m = (y, 0)) (fl : ∀ v ∈ l, v.fair) (fm : ∀ v ∈ m, v.fair) :
    x = y ↔ l = m := by
  obtain ⟨rfl, hl16, hl⟩ := writeK_ok hx
  obtain ⟨rfl, hm16, hm⟩ := writeK_ok hy
  exact ⟨fun h => keyL_inj l m hl hm fl fm hl16 hm16 h, fun h => by rw [h]⟩

set_option maxHeartbeats 8000000 in
theorem korder_any (l m : List Vl) (a : Option Addr) (len cap : Nat) (a' : Option Addr) (len' cap' : Nat) (w : World) (h1 : RowIn w a len cap l) (h2 : RowIn w a' len' cap' m) :
    Calls Try.prog 5 #[.slice a len cap, .slice a' len' cap'] w fun e w' => e = .returned (.bool true) ∧ Below w.heap.size w w' := by
  have H1 := Lib.hid h1
  have H2 := Lib.hid h2
  clear h1 h2
  have HA := Lib.hid (fun W => alive4_any W)
  go_enter Try.func5, Try.ntmps5
  go_wp2_with fail
  refine H1.out.great.mono ?_
  rintro e w1 ⟨g, rfl, hg, rfl⟩
  cases g with
  | true =>
    clear hg
    go_wp2_with fail
    refine (HA.out _).mono ?_
    rintro e w1 ⟨rfl, hb⟩
    go_wp2
    go_ret
    exact ⟨rfl, hb⟩
  | false =>
    have S1 := Lib.hid (hg rfl)
    clear hg
    go_wp2_with fail
    refine H2.out.great.mono ?_
    rintro e w1 ⟨g, rfl, hg, rfl⟩
    cases g with
    | true =>
      clear hg
      go_wp2_with fail
      refine (HA.out _).mono ?_
      rintro e w1 ⟨rfl, hb⟩
      go_wp2
      go_ret
      exact ⟨rfl, hb⟩
    | false =>
      have S2 := Lib.hid (hg rfl)
      clear hg
      have L1 : len ≤ 40 := by have := H1.out.1; have := S1.out.1; omega
      have L2 : len' ≤ 40 := by have := H2.out.1; have := S2.out.1; omega
      have hf : ∀ x ∈ l, x.fair := fun x hx => (H1.out.2.2.2.2 x hx).fair
      have hf2 : ∀ x ∈ m, x.fair := fun x hx => (H2.out.2.2.2.2 x hx).fair
      have HWa := Lib.hid (fun W (hb : Below w.heap.size w W) => KWrite_any l a len cap W (H1.out.later hb).2.2.2.1 H1.out.1 (by omega) hf)
      have HWb := Lib.hid (fun W (hb : Below w.heap.size w W) => KWrite_any m a' len' cap' W (H2.out.later hb).2.2.2.1 H2.out.1 (by omega) hf2)
      have HRo := Lib.hid (fun W (hb : Below w.heap.size w W) => ROrder_any l m a len cap a' len' cap' W (H1.out.later hb).2.2.2.1 H1.out.1 (H2.out.later hb).2.2.2.1 H2.out.1 (by omega) (by omega))
      have HC := Lib.hid (fun x y (hx : writeK l = (x, 0)) (hy : writeK m = (y, 0)) hx2 hy2 => key_cmp hx hy hf hf2 hx2 hy2)
      have HE := Lib.hid (fun x y (hx : writeK l = (x, 0)) (hy : writeK m = (y, 0)) => key_eq hx hy hf hf2)
      have HZ : Hid (∀ x y, writeK l = (x, 0) → writeK m = (y, 0) → (lexO l m = 0 ↔ l = m)) := fun x y hx hy => lexO_zero l m (writeK_ok hx).2.2 (writeK_ok hy).2.2
      obtain ⟨X, hX⟩ : ∃ X, writeK l = X := ⟨_, rfl⟩
      obtain ⟨Y, hY⟩ : ∃ Y, writeK m = Y := ⟨_, rfl⟩
      obtain ⟨r, hr⟩ : ∃ r, lexO l m = r := ⟨_, rfl⟩
      rw [hX] at HWa HC HE HZ
      rw [hY] at HWb HC HE HZ
      rw [hr] at HRo HC HZ
      obtain ⟨xl, e0⟩ := X
      obtain ⟨yl, e1⟩ := Y
      clear hf hf2 hX hY hr
      go_wp2_with fail
      refine (HWa.out _ (Below.refl _ _)).mono ?_
      rintro e w2 ⟨a2, c2, rfl, hcap2, hB2, hb2⟩
      dsimp only at hcap2 hB2 ⊢
      have hw : Below w.heap.size w w2 := hb2
      clear hb2 hcap2 HWa
      go_wp2_with fail
      refine (HWb.out _ hw).mono ?_
      rintro e w3 ⟨a3, c3, rfl, hcap3, hB3, hb3⟩
      dsimp only at hcap3 hB3 ⊢
      have hw3 := hw.trans (hb3.mono hw.size)
      have HB2 := Lib.hid ((hB2.below hb3).mono hb3.size)
      have HB3 := Lib.hid hB3
      obtain ⟨n2, hn2⟩ : ∃ n2, n2 = xl.length := ⟨_, rfl⟩
      obtain ⟨n3, hn3⟩ : ∃ n3, n3 = yl.length := ⟨_, rfl⟩
      rw [← hn2, ← hn3] 
      have HN2 := Lib.hid hn2
      have HN3 := Lib.hid hn3
      clear hB2 hb3 hcap3 hB3 hw HWb hn2 hn3
      by_cases he : e0 = 0
      · by_cases he1 : e1 = 0
        · subst he he1
          have hc := HC.out xl yl rfl rfl HB2.out.1 HB3.out.1
          have hz := (HZ.out xl yl rfl rfl).trans (HE.out xl yl rfl rfl).symm
          have hq1 : decide ((strN xl).toList < (strN yl).toList) = decide (r < 0) := by rw [Bool.eq_iff_iff, decide_eq_true_iff, decide_eq_true_iff]; exact hc
          have hq2 : ((strN xl).toList == (strN yl).toList) = (r == 0) := by
            rw [Bool.eq_iff_iff, beq_iff_eq, beq_iff_eq, hz]
            exact ⟨fun h => (strN_inj HB2.out.1 HB3.out.1).1 (toList_inj h), fun h => by rw [h]⟩
          have Q1 := Lib.hid hq1
          have Q2 := Lib.hid hq2
          clear hc hz hq1 hq2 HC HZ HE
          go_wp2_with fail
          refine (HRo.out _ hw3).mono ?_
          rintro e w4 ⟨rfl, hb4⟩
          have hw4 := hw3.trans (hb4.mono hw3.size)
          go_wp2_with fail
          refine (HA.out _).mono ?_
          rintro e w5 ⟨rfl, hb5⟩
          have hw5 := hw4.trans (hb5.mono hw4.size)
          have hb35 := hb4.trans (hb5.mono hb4.size)
          have hcv := (HB2.out.below hb35).str n2 c2 HN2.out
          have hcv2 := (HB3.out.below hb35).str n3 c3 HN3.out
          clear hb4 hb5 hb35
          have qq : Op.bytesLess (strN xl).toList (strN yl).toList = decide (r < 0) := by rw [bytesLess_eq]; exact Q1.out
          go_wp2
          go_ret
          exact ⟨by rw [Q2.out]; simp, hw5⟩
        · have qe : (e1 == 0) = false := by simp [he1]
          have qe2 : (e1 != 0) = true := by simp [he1]
          subst he
          go_wp2_with fail
          refine (HA.out _).mono ?_
          rintro e w5 ⟨rfl, hb5⟩
          have hw5 := hw3.trans (hb5.mono hw3.size)
          go_wp2
          go_ret
          exact ⟨rfl, hw5⟩
      · have qe : (e0 == 0) = false := by simp [he]
        have qe2 : (e0 != 0) = true := by simp [he]
        go_wp2_with fail
        refine (HA.out _).mono ?_
        rintro e w5 ⟨rfl, hb5⟩
        have hw5 := hw3.trans (hb5.mono hw3.size)
        go_wp2
        go_ret
        exact ⟨rfl, hw5⟩
end Go.Proofs.Ytbglchoamihdlaa

/- The walk of the law KeyNexts. -/
namespace Go.Proofs.Ytbglchoamihdlaa
open Go.RowKit

theorem below_drewNk {B : Nat} {a w : World} (h : Below B a w) : ∀ q, Below B a (w.drewN q)
  | 0 => h
  | q + 1 => (below_drewNk h q).drew

theorem pre_step (l m : List Nat) (k : Nat) (hk : k < m.length) (hkl : k < l.length) : decide (m.take (k + 1) <+: l) = (decide (m.take k <+: l) && decide (l[k] = m[k])) := by
  rw [Bool.eq_iff_iff, Bool.and_eq_true, decide_eq_true_iff, decide_eq_true_iff, decide_eq_true_iff]
  have h1 : m.take (k + 1) = m.take k ++ [m[k]] := by rw [List.take_add_one, List.getElem?_eq_getElem hk]; rfl
  have h2 : (m.take k).length = k := by rw [List.length_take]; omega
  have h3 : (m.take (k + 1)).length = k + 1 := by rw [List.length_take]; omega
  have h4 : l.take (k + 1) = l.take k ++ [l[k]] := by rw [List.take_add_one, List.getElem?_eq_getElem hkl]; rfl
  rw [List.prefix_iff_eq_take, List.prefix_iff_eq_take, h2, h3, h1, h4]
  constructor
  · intro h
    obtain ⟨e1, e2⟩ := List.append_inj' h rfl
    exact ⟨e1, by simpa using e2.symm⟩
  · rintro ⟨e1, e2⟩
    rw [e1, e2]

theorem pre_stop (l m : List Nat) (k : Nat) (h : decide (m.take k <+: l) = false) : decide (m <+: l) = false := by
  refine decide_eq_false fun hp => ?_
  have := decide_eq_false_iff_not.1 h
  exact this ((List.take_prefix k m).trans hp)

theorem pre_len (l m : List Nat) (h : l.length < m.length) : decide (m <+: l) = false := decide_eq_false fun hp => by have := hp.length_le; omega

set_option maxHeartbeats 8000000 in
theorem knexts_any (bl : List Nat) (a : Option Addr) (len cap : Nat) (fl : List Nat) (a' : Option Addr) (len' cap' : Nat) (w : World) (hB : Bs w.heap.size w a bl) (hlen : len = bl.length) (hcap : len ≤ cap) (hF : Bs w.heap.size w a' fl) (hlen' : len' = fl.length) (hcap' : len' ≤ cap') :
    Calls Try.prog 3 #[.slice a len cap, .slice a' len' cap'] w fun e w' => e = .returned (.bool true) ∧ Below w.heap.size w w' := by
  have HB := Lib.hid hB
  have HL := Lib.hid hlen
  have HF := Lib.hid hF
  have HLF := Lib.hid hlen'
  clear hB hlen hF hlen'
  have HA := Lib.hid (fun W => alive4_any W)
  go_enter Try.func3, Try.ntmps3
  by_cases hbig : 300 < len
  · go_wp2_with fail
    refine (HA.out _).mono ?_
    rintro e w1 ⟨rfl, hb⟩
    go_wp2
    go_ret
    exact ⟨rfl, hb⟩
  · have qb : decide ((300 : Int) < (len : Int)) = false := by simp; omega
    by_cases hbig2 : 300 < len'
    · go_wp2_with fail
      refine (HA.out _).mono ?_
      rintro e w1 ⟨rfl, hb⟩
      go_wp2
      go_ret
      exact ⟨rfl, hb⟩
    · have qb2 : decide ((300 : Int) < (len' : Int)) = false := by simp; omega
      have HN := Lib.hid (fun W (hb : Below w.heap.size w W) => Next_any bl a len cap W ((HB.out.below hb).mono hb.size) HL.out hcap (by omega))
      have HR := Lib.hid (fun W (hb : Below w.heap.size w W) => rnext_any bl a len cap W ((HB.out.below hb).mono hb.size) HL.out hcap (by omega))
      have HG := Lib.hid (fun W (hb : Below w.heap.size w W) => Begins_any bl fl a a' len cap len' cap' W ((HB.out.below hb).mono hb.size) ((HF.out.below hb).mono hb.size) HL.out HLF.out hcap)
      obtain ⟨X, hX⟩ : ∃ X, nextV bl = X := ⟨_, rfl⟩
      obtain ⟨g, hg⟩ : ∃ g, decide (fl <+: bl) = g := ⟨_, rfl⟩
      rw [hX] at HN HR
      rw [hg] at HG
      have HGG := Lib.hid hg
      obtain ⟨xl, some_⟩ := X
      clear hX hg
      go_wp2_with fail
      refine (HN.out _ (Below.refl _ _)).mono ?_
      rintro e w2 ⟨hb2, a2, c2, rfl, hcap2, hB2⟩
      dsimp only at hcap2 hB2 ⊢
      have hw : Below w.heap.size w w2 := hb2
      clear hb2 hcap2 HN
      go_wp2_with fail
      refine (HR.out _ hw).mono ?_
      rintro e w3 ⟨hb3, a3, c3, rfl, hcap3, hB3⟩
      dsimp only at hcap3 hB3 ⊢
      have hw3 := hw.trans (hb3.mono hw.size)
      have HB2 := Lib.hid ((hB2.below hb3).mono hb3.size)
      have HB3 := Lib.hid hB3
      obtain ⟨n2, hn2⟩ : ∃ n2, n2 = xl.length := ⟨_, rfl⟩
      rw [← hn2]
      have HN2 := Lib.hid hn2
      clear hB2 hb3 hcap3 hB3 hw HR hn2
      go_wp2_with fail
      go_loopw [9, 10] (fun g i wr => ∃ k : Nat, ∃ v : Bool, k ≤ len' ∧ i = .int .i64 k ∧ g = .bool v ∧ Hid (len' ≤ len → v = decide (fl.take k <+: bl)) ∧ Hid (len < len' → v = false) ∧ Below w3.heap.size w3 wr) (fun g i _ => len' - (intOf i).toNat)
      case atStart => 
        refine ⟨0, _, by omega, rfl, rfl, ?_, ?_, Below.refl _ _⟩
        · intro h; simp [h]
        · intro h; simp; omega
      case round =>
        obtain ⟨k, v, hk, rfl, rfl, HV1, HV2, hbr⟩ := hrel
        have hwr := hw3.trans (hbr.mono hw3.size)
        by_cases hgo : k < len' ∧ v = true
        · obtain ⟨hlt, rfl⟩ := hgo
          have hle : len' ≤ len := by
            by_cases h : len < len'
            · have := HV2.out h; simp at this
            · omega
          have hkb : k < bl.length := by have := HL.out; omega
          have hkf : k < fl.length := by have := HLF.out; omega
          have hps := pre_step bl fl k hkf hkb
          rw [← HV1.out hle, Bool.true_and] at hps
          rcases (HB.out.below hwr).2 with h0 | ⟨b, o, rfl, hbN, hcell⟩
          · rw [h0] at hkb; simp at hkb
          rcases (HF.out.below hwr).2 with h0 | ⟨b', o', rfl, hbN', hcell'⟩
          · rw [h0] at hkf; simp at hkf
          have hc := hcell k bl[k] (List.getElem?_eq_getElem hkb)
          have hc' := hcell' k fl[k] (List.getElem?_eq_getElem hkf)
          obtain ⟨x, hx⟩ : ∃ x, x = bl[k] := ⟨_, rfl⟩
          obtain ⟨y, hy⟩ : ∃ y, y = fl[k] := ⟨_, rfl⟩
          rw [← hx] at hc hps
          rw [← hy] at hc' hps
          have hlt2 : k < len := by omega
          have HPS : Hid (decide (x = y) = decide (fl.take (k + 1) <+: bl)) := hps.symm
          clear hcell hcell' hx hy hkb hkf hps HV1 HV2
          go_wp2
          go_quiet (fail)
          go_wp2
          go_roundw
          case rel => exact ⟨k + 1, _, by omega, by go_num, rfl, fun _ => by rw [← HPS.out, Bool.eq_iff_iff, beq_iff_eq, decide_eq_true_iff]; omega, fun h => absurd h (by omega), below_drewNk hbr _⟩
          case measure => simp [intOf]; omega
        · have HG2 : Hid (v = g) := by
            rw [← HGG.out]
            cases v with
            | false =>
              by_cases h : len' ≤ len
              · exact (pre_stop bl fl k (HV1.out h).symm).symm
              · exact (pre_len bl fl (by have := HL.out; have := HLF.out; omega)).symm
            | true =>
              have hkl : k = len' := by
                by_cases h : k < len'
                · exact absurd ⟨h, rfl⟩ hgo
                · omega
              have hle : len' ≤ len := by
                by_cases h : len < len'
                · have := HV2.out h; simp at this
                · omega
              have e := HV1.out hle
              rw [hkl, HLF.out, List.take_length] at e
              exact e
          clear HV1 HV2 HGG
          have hkv : k = len' ∨ v = false := by
            cases v with
            | false => exact .inr rfl
            | true =>
              left
              by_cases h : k < len'
              · exact absurd ⟨h, rfl⟩ hgo
              · omega
          clear hgo
          have HB2r := Lib.hid (HB2.out.below hbr)
          have HB3r := Lib.hid (HB3.out.below hbr)
          have hzr := hbr.size
          clear hbr
          by_cases hlt : k < len'
          · obtain rfl : v = false := hkv.resolve_left (by omega)
            clear hkv
            go_wp2_with fail
            refine (HA.out _).mono ?_
            rintro e w5 ⟨rfl, hb5⟩
            have hw5 := hwr.trans (hb5.mono hwr.size)
            have hcv := (HB2r.out.below (hb5.mono hzr)).str n2 c2 HN2.out
            have hcv2 := (HB3r.out.below (hb5.mono hzr)).str n2 c3 HN2.out
            clear hb5
            go_wp2_with fail
            refine (HG.out _ hw5).mono ?_
            rintro e w6 ⟨rfl, hb6⟩
            go_wp2
            go_ret
            exact ⟨by rw [← HG2.out]; rfl, hw5.trans (hb6.mono hw5.size)⟩
          · clear hkv
            go_wp2_with fail
            refine (HA.out _).mono ?_
            rintro e w5 ⟨rfl, hb5⟩
            have hw5 := hwr.trans (hb5.mono hwr.size)
            have hcv := (HB2r.out.below (hb5.mono hzr)).str n2 c2 HN2.out
            have hcv2 := (HB3r.out.below (hb5.mono hzr)).str n2 c3 HN2.out
            clear hb5
            go_wp2_with fail
            refine (HG.out _ hw5).mono ?_
            rintro e w6 ⟨rfl, hb6⟩
            go_wp2
            go_ret
            exact ⟨by rw [← HG2.out]; simp, hw5.trans (hb6.mono hw5.size)⟩
end Go.Proofs.Ytbglchoamihdlaa

/- The walk of the law KeyFronts. -/
namespace Go.Proofs.Ytbglchoamihdlaa
open Go.RowKit

theorem encK_head (x : Vl) (hr : x.right = true) : ∃ c r, encK x = c :: r ∧ c < 255 := by
  rcases right_kind hr with h | h | ⟨hk, h⟩
  · rw [h]; exact ⟨16, [], by simp [encK], by omega⟩
  · rw [h]; exact ⟨17, whole8 (up64 x.n), by simp [encK], by omega⟩
  · rw [h]; exact ⟨16 + x.k, escL (bytesOf x.s) ++ [0, 1], by unfold encK; rw [if_neg (by simp only; omega), if_neg (by simp only; omega)], by omega⟩

theorem fronts_math {l : List Vl} {m : Nat} {x : List Nat} (hm : m ≤ l.length) (h : writeK l = (x, 0)) (b : List Nat) (hb : ∀ c ∈ b, c < 256) :
    writeK (l.take m) = (keyL (l.take m), 0) ∧ (keyL (l.take m) <+: x) ∧ (nextV (keyL (l.take m))).2 = decide (0 < m) ∧
    ((¬ b < keyL (l.take m) ∧ ((nextV (keyL (l.take m))).2 = true → b < (nextV (keyL (l.take m))).1)) ↔ keyL (l.take m) <+: b) := by
  obtain ⟨rfl, h16, hr⟩ := writeK_ok h
  have hsplit : keyL l = keyL (l.take m) ++ keyL (l.drop m) := by
    have : l = l.take m ++ l.drop m := (List.take_append_drop m l).symm
    conv => lhs; rw [this]
    unfold keyL
    rw [List.flatMap_append]
  have hlen : (keyL l).length ≤ 100 := by have := writeK_len l; rw [h] at this; exact this
  have hrt : ∀ y ∈ l.take m, y.right = true := fun y hy => hr y (List.mem_of_mem_take hy)
  refine ⟨writeK_good ((rowOk_iff _).2 ⟨by rw [List.length_take]; omega, hrt⟩) ?_, ?_, ?_⟩
  · have := congrArg List.length hsplit
    rw [List.length_append] at this
    omega
  · rw [hsplit]; exact List.prefix_append _ _
  · by_cases h0 : m = 0
    · subst h0
      have e : keyL (l.take 0) = [] := by simp [keyL]
      rw [e]
      refine ⟨by simp [nextV], ?_⟩
      simp [nextV, List.not_lt_nil]
    · obtain ⟨v, r, hv⟩ : ∃ v r, l.take m = v :: r := by
        cases hT : l.take m with
        | nil => have := congrArg List.length hT; rw [List.length_take] at this; simp only [List.length_nil] at this; omega
        | cons v r => exact ⟨v, r, rfl⟩
      obtain ⟨c, q, hc, hlt⟩ := encK_head v (hrt v (by rw [hv]; simp))
      have hk : keyL (l.take m) = c :: (q ++ keyL r) := by rw [hv, keyL_cons, hc]; rfl
      rcases next_forms (keyL (l.take m)) with hall | ⟨p, d, e, h1, h2, h3⟩
      · have := hall c (by rw [hk]; simp); omega
      · have hn := nextV_some (a := p) h2 h3
        rw [← h1] at hn
        rw [hn]
        refine ⟨by simp; omega, ?_⟩
        rw [h1, ← inside_iff p d e b hb h2]
        simp

theorem Vs.upTo {P : Program} {N : Nat} {w : World} {a : Option Addr} {l : List Vl} (h : Vs N w a l) (t e : TypeId) (ht : P.underlying t = some (.slice e)) (hz : ∀ w, (Go.sizeOf e).run P w = .ok 3 w)
    (len cap m : Nat) (hlen : len = l.length) (hm : m ≤ len) (hcap : len ≤ cap) :
    ∃ a', Vs N w a' (l.take m) ∧ ∀ W, (Instr.slice t (.slice a len cap) none (some (.int .i64 (m : Int))) none).run P W = .ok (.slice a' m cap) W := by
  subst hlen
  have ht' : P.underlying t = some (.slice (P.elem t)) := by simp [Program.elem, ht]
  have hee : P.elem t = e := by simp [Program.elem, ht]
  refine ⟨if cap = 0 then a else a.map (·.add (0 * 3)), ?_, fun W => ?_⟩
  · rcases h with h2 | ⟨b, o, ha, hN, hc⟩
    · exact .inl (by simp [h2])
    · right
      refine ⟨b, o, ?_, hN, fun i c hi => ?_⟩
      · rw [ha]; split <;> simp [Addr.add]
      · rw [List.getElem?_take] at hi
        split at hi
        · exact hc _ _ hi
        · simp at hi
  · have := run_slice_h (P := P) W t a l.length cap ht' .i64 (m : Int) (by omega) (by omega)
    rw [this, hee, hz W]
    simp [Result.andThen, sliced]

set_option maxHeartbeats 8000000 in
theorem kfronts_any (l : List Vl) (a : Option Addr) (len cap : Nat) (n : Int) (bl : List Nat) (a' : Option Addr) (len' cap' : Nat) (w : World) (h1 : RowIn w a len cap l) (hB : Bs w.heap.size w a' bl) (hlen' : len' = bl.length) (hcap' : len' ≤ cap') :
    Calls Try.prog 6 #[.slice a len cap, .int .i64 n, .slice a' len' cap'] w fun e w' => e = .returned (.bool true) ∧ Below w.heap.size w w' := by
  have H1 := Lib.hid h1
  have HB := Lib.hid hB
  have HL := Lib.hid hlen'
  clear h1 hB hlen'
  have HA := Lib.hid (fun W => alive4_any W)
  go_enter Try.func6, Try.ntmps6
  go_wp2_with fail
  refine H1.out.great.mono ?_
  rintro e w1 ⟨g, rfl, hg, rfl⟩
  cases g with
  | true =>
    clear hg
    go_wp2_with fail
    refine (HA.out _).mono ?_
    rintro e w1 ⟨rfl, hb⟩
    go_wp2
    go_ret
    exact ⟨rfl, hb⟩
  | false =>
    have S1 := Lib.hid (hg rfl)
    clear hg
    have L1 : len ≤ 40 := by have := H1.out.1; have := S1.out.1; omega
    by_cases hbad : n < 0 ∨ (len : Int) < n ∨ 300 < len'
    · have hways : (n < 0) ∨ (¬ n < 0 ∧ (len : Int) < n) ∨ (¬ n < 0 ∧ ¬ (len : Int) < n ∧ 300 < len') := by omega
      clear hbad
      rcases hways with hw | ⟨hw, hw2⟩ | ⟨hw, hw2, hw3⟩
      all_goals
        go_wp2_with fail
        refine (HA.out _).mono ?_
        rintro e w1 ⟨rfl, hb⟩
        go_wp2
        go_ret
        exact ⟨rfl, hb⟩
    · obtain ⟨m, rfl⟩ : ∃ m : Nat, n = (m : Int) := ⟨n.toNat, by omega⟩
      have hml : m ≤ len := by omega
      have qn : decide ((m : Int) < 0) = false := by simp
      have qn2 : decide ((len : Int) < (m : Int)) = false := by simp; omega
      have qb : decide ((300 : Int) < (len' : Int)) = false := by simp; omega
      have hl3 : len' ≤ 300 := by omega
      clear hbad
      have hf : ∀ x ∈ l, x.fair := fun x hx => (H1.out.2.2.2.2 x hx).fair
      have HWr := Lib.hid (fun W (hb : Below w.heap.size w W) => KWrite_any l a len cap W (H1.out.later hb).2.2.2.1 H1.out.1 (by omega) hf)
      obtain ⟨a3, hV3, hsl⟩ := H1.out.2.2.2.1.upTo 27 39 Try.underlying27 Try.sizeOf39 len cap m H1.out.1 hml H1.out.2.1
      have HWt := Lib.hid (fun W (hb : Below w.heap.size w W) => KWrite_any (l.take m) a3 m cap W ((hV3.below hb).mono hb.size) (by rw [List.length_take]; have := H1.out.1; omega) (by omega) (fun x hx => hf x (List.mem_of_mem_take hx)))
      have HM := Lib.hid (fun x (h : writeK l = (x, 0)) => fronts_math (m := m) (by have := H1.out.1; omega) h bl HB.out.1)
      have HXL := Lib.hid (writeK_len l)
      obtain ⟨X, hX⟩ : ∃ X, writeK l = X := ⟨_, rfl⟩
      rw [hX] at HWr HM HXL
      obtain ⟨xl, e0⟩ := X
      dsimp only at HXL
      obtain ⟨y, hy⟩ : ∃ y, keyL (l.take m) = y := ⟨_, rfl⟩
      rw [hy] at HM
      clear hf hX hV3 hy
      go_wp2_with fail
      refine (HWr.out _ (Below.refl _ _)).mono ?_
      rintro e w2 ⟨a2, c2, rfl, hcap2, hB2, hb2⟩
      dsimp only at hcap2 hB2 ⊢
      have hw : Below w.heap.size w w2 := hb2
      obtain ⟨n2, hn2⟩ : ∃ n2, n2 = xl.length := ⟨_, rfl⟩
      rw [← hn2] at hcap2 ⊢
      have HN2 := Lib.hid hn2
      clear hb2 HWr hn2
      go_wp2_with fail
      by_cases he : e0 = 0
      · subst he
        obtain ⟨m1, m2, m3, m4⟩ := HM.out xl rfl
        have HK := HWt.out _ hw
        rw [m1] at HK
        have M2 := Lib.hid m2
        have M3 := Lib.hid m3
        have M4 := Lib.hid m4
        clear HM HWt m1 m2 m3 m4
        refine HK.mono ?_
        rintro e w3 ⟨a4, c4, rfl, hcap4, hB4, hb4⟩
        dsimp only at hcap4 hB4 ⊢
        have hw3 := hw.trans (hb4.mono hw.size)
        have HB2 := Lib.hid ((hB2.below hb4).mono hb4.size)
        have HB4 := Lib.hid hB4
        obtain ⟨n4, hn4⟩ : ∃ n4, n4 = y.length := ⟨_, rfl⟩
        rw [← hn4] at hcap4 ⊢
        have HN4 := Lib.hid hn4
        have hn4' : n4 ≤ 1000000 := by
          have := M2.out.length_le; have := HN2.out; have := HN4.out; have := HXL.out
          omega
        clear HK hB2 hB4 hb4 hw hn4
        go_wp2_with fail
        have hG := Begins_any xl y a2 a4 n2 c2 n4 c4 w3 HB2.out HB4.out HN2.out HN4.out hcap2
        rw [decide_eq_true M2.out] at hG
        have HG := Lib.hid hG
        clear hG
        refine HG.out.mono ?_
        rintro e w5 ⟨rfl, hb5⟩
        have hw5 := hw3.trans (hb5.mono hw3.size)
        have HB5 := Lib.hid ((HB4.out.below hb5).mono hb5.size)
        clear HG HB2 HB4 hb5 hw3
        go_wp2_with fail
        have HX := Lib.hid (Next_any y a4 n4 c4 w5 HB5.out HN4.out hcap4 hn4')
        obtain ⟨Z, hZ⟩ : ∃ Z, nextV y = Z := ⟨_, rfl⟩
        rw [hZ] at HX M3 M4
        obtain ⟨z, sm⟩ := Z
        clear hZ
        refine HX.out.mono ?_
        rintro e w6 ⟨hb6, a6, c6, rfl, hcap6, hB6⟩
        dsimp only at hcap6 hB6 ⊢
        have hw6 := hw5.trans (hb6.mono hw5.size)
        have HB6 := Lib.hid ((HB5.out.below hb6).mono hb6.size)
        have HBz := Lib.hid hB6
        clear HX HB5 hb6 hw5 hB6
        have hcb := ((HB.out.below hw6).mono hw6.size).str len' cap' HL.out
        have hcy := HB6.out.str n4 c4 HN4.out
        have hcz := HBz.out.str z.length c6 rfl
        have hp1 : Op.bytesLess (strN bl).toList (strN y).toList = decide (bl < y) := by
          rw [bytesLess_eq, Bool.eq_iff_iff, decide_eq_true_iff, decide_eq_true_iff, bytes_lt_iff, bytesOf_strN _ HB.out.1, bytesOf_strN _ HB6.out.1]
        have hp2 : Op.bytesLess (strN bl).toList (strN z).toList = decide (bl < z) := by
          rw [bytesLess_eq, Bool.eq_iff_iff, decide_eq_true_iff, decide_eq_true_iff, bytes_lt_iff, bytesOf_strN _ HB.out.1, bytesOf_strN _ HBz.out.1]
        have hm4 : (!decide (bl < y) && (!sm || decide (bl < z))) = decide (y <+: bl) := by
          rw [Bool.eq_iff_iff, decide_eq_true_iff, ← M4.out]
          cases sm <;> simp
        have HGb := Lib.hid (fun W (hb : Below w6.heap.size w6 W) => Begins_any bl y a' a4 len' cap' n4 c4 W ((HB.out.below (hw6.trans (hb.mono hw6.size))).mono (hw6.trans (hb.mono hw6.size)).size) ((HB6.out.below hb).mono hb.size) HL.out HN4.out hcap')
        rw [← hm4] at HGb
        have hm3 : (sm = false ∧ m = 0) ∨ (sm = true ∧ 0 < m) := by
          have := M3.out
          dsimp only at this
          rw [this]
          by_cases h : 0 < m
          · exact .inr ⟨decide_eq_true h, h⟩
          · exact .inl ⟨decide_eq_false h, by omega⟩
        obtain ⟨p, hp⟩ : ∃ p, decide (bl < y) = p := ⟨_, rfl⟩
        obtain ⟨q, hq⟩ : ∃ q, decide (bl < z) = q := ⟨_, rfl⟩
        rw [hp] at hp1 HGb
        rw [hq] at hp2 HGb
        clear hm4 hp hq M2 M3 M4
        clear hsl qn qn2
        rcases hm3 with ⟨rfl, rfl⟩ | ⟨rfl, hm0⟩
        · cases p <;> cases q
          all_goals
            go_wp2_with fail
            refine (HA.out _).mono ?_
            rintro e w7 ⟨rfl, hb7⟩
            go_wp2_with fail
            refine (HGb.out _ hb7).mono ?_
            rintro e w8 ⟨rfl, hb8⟩
            go_wp2
            go_ret
            exact ⟨rfl, (hw6.trans (hb7.mono hw6.size)).trans (hb8.mono (hw6.trans (hb7.mono hw6.size)).size)⟩
        · cases p <;> cases q
          all_goals
            go_wp2_with fail
            refine (HA.out _).mono ?_
            rintro e w7 ⟨rfl, hb7⟩
            go_wp2_with fail
            refine (HGb.out _ hb7).mono ?_
            rintro e w8 ⟨rfl, hb8⟩
            go_wp2
            go_ret
            exact ⟨rfl, (hw6.trans (hb7.mono hw6.size)).trans (hb8.mono (hw6.trans (hb7.mono hw6.size)).size)⟩
      · have qe : (e0 == 0) = false := by simp [he]
        have qe2 : (e0 != 0) = true := by simp [he]
        refine (HWt.out _ hw).mono ?_
        rintro e w3 ⟨a4, c4, rfl, hcap4, hB4, hb4⟩
        have hw3 := hw.trans (hb4.mono hw.size)
        clear HM HWt hB4 hb4 hcap4 hw
        go_wp2_with fail
        refine (HA.out _).mono ?_
        rintro e w5 ⟨rfl, hb5⟩
        go_wp2
        go_ret
        exact ⟨rfl, hw3.trans (hb5.mono hw3.size)⟩
end Go.Proofs.Ytbglchoamihdlaa
