/- The walk of the law RecordBack. -/
import Derived.Test.YtipeinkogoghnaaRLawO
namespace Go.Proofs.Ytipeinkogoghnaa
open Go.RowKit

theorem read_write {l : List Vl} {x : List Nat} (h : writeV l = (x, 0)) (hf : ∀ y ∈ l, y.fair) : readV x = (l, 0) := by
  cases hro : rowOk l with
  | false => rw [writeV_bad hro] at h; simp at h
  | true =>
    by_cases hl : 8192 < 1 + (encL l).length
    · rw [writeV_long hro hl] at h; simp at h
    · rw [writeV_good hro hl] at h
      simp only [Prod.mk.injEq, and_true] at h
      subst h
      obtain ⟨h16, hr⟩ := (rowOk_iff l).1 hro
      have hg : getR (l.length :: encL l) 0 = (l.length, ((1 : Nat) : Int), 0) := by
        unfold getR
        rw [if_neg (by simp; omega)]
        simp [getS, show l.length < 128 by omega]
      have hn := readN_enc [l.length] [] l hr hf l.length (Nat.le_refl _)
      rw [List.append_nil, List.take_length] at hn
      have e : [l.length] ++ encL l = l.length :: encL l := rfl
      rw [e] at hn
      rw [readV_go (by simp; omega) hg (by omega)]
      have e2 : [l.length].length = 1 := rfl
      rw [e2] at hn
      rw [hn]
      simp only []
      rw [if_neg (by simp; omega)]

theorem write_read (b : List Nat) (h256 : ∀ c ∈ b, c < 256) : ((readV b).2 ≠ 0 ∧ (readV b).1 = []) ∨
    ((readV b).2 = 0 ∧ writeV (readV b).1 = (b, 0) ∧ (∀ y ∈ (readV b).1, y.fair) ∧ (readV b).1.length ≤ 16) := by
  by_cases hlong : 8192 < b.length
  · left; rw [readV_long hlong]; exact ⟨by simp, rfl⟩
  · rcases first_byte b h256 with ⟨hnil, he⟩ | ⟨c, r, hcr, h16, hg⟩ | ⟨c, r, hcr, h16, he⟩
    · left; rw [readV_head hlong (.inl he)]; exact ⟨by simp, rfl⟩
    · rw [readV_go (p := 1) hlong hg (by omega)]
      cases hR : readN b 1 c with
      | none => left; exact ⟨by simp, rfl⟩
      | some R =>
        obtain ⟨acc, q⟩ := R
        simp only []
        by_cases hq : q = b.length
        · right
          rw [if_neg (by simp [hq])]
          obtain ⟨e1, e2, e3, e4, e5, e6, e7⟩ := enc_readN b h256 (by omega) 1 (by rw [hcr]; simp) c acc q hR
          refine ⟨rfl, ?_, e3, by simp only; omega⟩
          have hr : rowOk acc = true := (rowOk_iff acc).2 ⟨by omega, e2⟩
          have hl : (encL acc).length ≤ q - 1 := by rw [e7, List.length_take]; omega
          have hp : 0 < b.length := by rw [hcr]; simp
          simp only []
          rw [writeV_good hr (by omega), e7, e1, hq]
          rw [hcr]
          simp
        · left
          rw [if_pos hq]; exact ⟨by simp, rfl⟩
    · left; rw [readV_head hlong he]; exact ⟨by simp, rfl⟩

theorem writeV_len (l : List Vl) : (writeV l).1.length ≤ 8192 := by
  unfold writeV
  split
  · simp
  · split
    · simp
    · simp; omega

theorem writeV_lt (l : List Vl) (hf : ∀ x ∈ l, x.fair) : ∀ c ∈ (writeV l).1, c < 256 := by
  intro c hc
  cases hro : rowOk l with
  | false => rw [writeV_bad hro] at hc; simp at hc
  | true =>
    by_cases h : 8192 < 1 + (encL l).length
    · rw [writeV_long hro h] at hc; simp at hc
    · rw [writeV_good hro h] at hc
      rcases List.mem_cons.1 hc with rfl | hc
      · have := ((rowOk_iff l).1 hro).1; omega
      · exact encL_lt l (fun x hx => (hf x hx).1) c hc

set_option maxHeartbeats 8000000 in
theorem back3_any (l : List Vl) (a : Option Addr) (len cap : Nat) (bl : List Nat) (a' : Option Addr) (len' cap' : Nat) (w : World) (h1 : RowIn w a len cap l) (hB : Bs w.heap.size w a' bl) (hlen' : len' = bl.length) (hcap' : len' ≤ cap') (hmax' : cap' ≤ 9223372036854775807) :
    Calls Try.prog 6 #[.slice a len cap, .slice a' len' cap'] w fun e w' => e = .returned (.bool true) ∧ Below w.heap.size w w' := by
  have H1 := Lib.hid h1
  have HB := Lib.hid hB
  have HL := Lib.hid hlen'
  clear h1 hB hlen'
  have HA := Lib.hid (fun W => alive3_any W)
  go_enter Try.func6, Try.ntmps6
  go_wp2_with fail
  refine H1.out.great.mono ?_
  rintro e w1 ⟨g, rfl, hg, rfl⟩
  cases g with
  | true =>
    clear hg
    go_wp2_with fail
    refine (HA.out _).mono ?_
    rintro e w1 ⟨rfl, hb⟩
    go_wp2
    go_ret
    exact ⟨rfl, hb⟩
  | false =>
    have S1 := Lib.hid (hg rfl)
    clear hg
    by_cases hbig : 9000 < len'
    · go_wp2_with fail
      refine (HA.out _).mono ?_
      rintro e w1 ⟨rfl, hb⟩
      go_wp2
      go_ret
      exact ⟨rfl, hb⟩
    · have qb : decide ((9000 : Int) < (len' : Int)) = false := by simp; omega
      have L1 : len ≤ 40 := by have := H1.out.1; have := S1.out.1; omega
      have hf : ∀ x ∈ l, x.fair := fun x hx => (H1.out.2.2.2.2 x hx).fair
      have HWr := Lib.hid (fun W (hb : Below w.heap.size w W) => Write_any l a len cap W (H1.out.later hb).2.2.2.1 H1.out.1 (by omega) hf)
      have HRt := Lib.hid (fun W (hb : Below w.heap.size w W) => Right_any l a len cap W (H1.out.later hb).2.2.2.1 H1.out.1 (by omega) hf)
      have HRd := Lib.hid (fun W (hb : Below w.heap.size w W) => Read_any bl a' len' cap' W ((HB.out.below hb).mono hb.size) HL.out hcap' (by omega))
      have HRW := Lib.hid (fun x (h : writeV l = (x, 0)) => read_write h hf)
      have HXL := Lib.hid (writeV_len l)
      have hm := write_read bl HB.out.1
      obtain ⟨R, hR⟩ : ∃ R, readV bl = R := ⟨_, rfl⟩
      rw [hR] at HRd hm
      obtain ⟨M, f⟩ := R
      dsimp only at hm
      have hMf : (∀ y ∈ M, y.fair) ∧ M.length ≤ 16 := by
        rcases hm with ⟨_, h⟩ | ⟨_, _, h⟩
        · rw [h]; simp
        · exact h
      have HMF := Lib.hid hMf
      have HM : Hid ((f ≠ 0) ∨ (f = 0 ∧ writeV M = (bl, 0))) := by
        rcases hm with ⟨h, _⟩ | ⟨h1, h2, _⟩
        · exact .inl h
        · exact .inr ⟨h1, h2⟩
      obtain ⟨X, hX⟩ : ∃ X, writeV l = X := ⟨_, rfl⟩
      rw [hX] at HWr HRt HRW HXL
      obtain ⟨xl, e0⟩ := X
      clear hf hm hMf hR hX
      dsimp only at HRt HXL
      go_wp2_with fail
      refine (HWr.out _ (Below.refl _ _)).mono ?_
      rintro e w2 ⟨a2, c2, rfl, hcap2, hB2, hb2⟩
      dsimp only at hcap2 hB2 ⊢
      have hw : Below w.heap.size w w2 := hb2
      have HB2 := Lib.hid hB2
      obtain ⟨n2, hn2⟩ : ∃ n2, n2 = xl.length := ⟨_, rfl⟩
      rw [← hn2] at hcap2 ⊢
      have HN2 := Lib.hid hn2
      have hx2 : n2 ≤ 8192 := by have := HXL.out; have := HN2.out; omega
      clear hb2 hB2 HWr HXL hn2
      -- what comes behind the first half
      have tail : ∀ (W : World), Below w.heap.size w W → ∀ (Q : Prop), Q → Q := fun _ _ _ h => h
      by_cases he : e0 = 0
      · subst he
        have HRX := Lib.hid (HRW.out xl rfl)
        have hRdX := Read_any xl a2 n2 c2 w2 HB2.out HN2.out hcap2 (by omega)
        rw [HRX.out] at hRdX
        have HRdX := Lib.hid hRdX
        clear hRdX
        go_wp2_with fail
        refine HRdX.out.mono ?_
        rintro e w3 ⟨a3, c3, rfl, hcap3, hV3, hb3⟩
        dsimp only at hcap3 hV3 ⊢
        have hw3 := hw.trans (hb3.mono hw.size)
        have hSame := Same_any l l a len cap a3 l.length c3 w3 (H1.out.later hw3).2.2.2.1 H1.out.1 hV3 rfl (by omega) (by have := H1.out.1; omega)
        unfold RetS at hSame
        rw [decide_eq_true (rfl : l = l), ← H1.out.1] at hSame
        rw [← H1.out.1]
        have HSame := Lib.hid hSame
        clear hSame HRdX hV3 hcap3 hb3
        go_wp2_with fail
        refine HSame.out.mono ?_
        rintro e w4 ⟨rfl, hb4⟩
        have hw4 := hw3.trans (hb4.mono hw3.size)
        clear HSame hb4 hw3 hw tail
        go_wp2_with fail
        refine (HRd.out _ hw4).mono ?_
        rintro e w5 ⟨a5, c5, rfl, hcap5, hV5, hb5⟩
        dsimp only at hcap5 hV5 ⊢
        have hw5 := hw4.trans (hb5.mono hw4.size)
        have hWM := Write_any M a5 M.length c5 w5 hV5 rfl (by have := HMF.out.2; omega) HMF.out.1
        have HWM := Lib.hid hWM
        clear hWM hV5 hcap5 hb5 HRd hw4
        go_wp2_with fail
        refine HWM.out.mono ?_
        rintro e w6 ⟨a6, c6, rfl, hcap6, hB6, hb6⟩
        have hw6 := hw5.trans (hb6.mono hw5.size)
        clear HWM hw5 hb6
        have hm := HM.out
        clear HM
        rcases hm with hf | ⟨rfl, hwm⟩
        · have qf : (f != 0) = true := by simp [hf]
          have qf2 : (f == 0) = false := by simp [hf]
          obtain ⟨G, hG⟩ : ∃ G, writeV M = G := ⟨_, rfl⟩
          rw [hG] at hB6 hcap6 ⊢
          obtain ⟨al, gg⟩ := G
          clear hG hB6 hcap6
          go_wp2_with fail
          refine (HA.out _).mono ?_
          rintro e w7 ⟨rfl, hb7⟩
          have hw7 := hw6.trans (hb7.mono hw6.size)
          go_wp2_with fail
          refine (HRt.out _ hw7).mono ?_
          rintro e w8 ⟨rfl, hb8⟩
          go_wp2
          go_ret
          exact ⟨rfl, hw7.trans (hb8.mono hw7.size)⟩
        · rw [hwm] at hB6 hcap6 ⊢
          dsimp only at hB6 ⊢
          clear hcap6 hwm
          go_wp2_with fail
          refine (HA.out _).mono ?_
          rintro e w7 ⟨rfl, hb7⟩
          have hw7 := hw6.trans (hb7.mono hw6.size)
          have hB7 := (hB6.below hb7).mono hb7.size
          go_wp2_with fail
          refine (HRt.out _ hw7).mono ?_
          rintro e w8 ⟨rfl, hb8⟩
          have hw8 := hw7.trans (hb8.mono hw7.size)
          have hcv := (hB7.below hb8).str bl.length c6 rfl
          have hcv2 := (HB.out.below hw8).str len' cap' HL.out
          rw [← HL.out] at hcv ⊢
          clear hB6 hB7 hb7 hb8
          go_wp2
          go_ret
          exact ⟨rfl, hw8⟩
      · have qe : (e0 == 0) = false := by simp [he]
        clear HRW tail
        go_wp2_with fail
        refine (HRd.out _ hw).mono ?_
        rintro e w5 ⟨a5, c5, rfl, hcap5, hV5, hb5⟩
        dsimp only at hcap5 hV5 ⊢
        have hw5 := hw.trans (hb5.mono hw.size)
        have hWM := Write_any M a5 M.length c5 w5 hV5 rfl (by have := HMF.out.2; omega) HMF.out.1
        have HWM := Lib.hid hWM
        clear hWM hV5 hcap5 hb5 HRd hw
        go_wp2_with fail
        refine HWM.out.mono ?_
        rintro e w6 ⟨a6, c6, rfl, hcap6, hB6, hb6⟩
        have hw6 := hw5.trans (hb6.mono hw5.size)
        clear HWM hw5 hb6
        have hm := HM.out
        clear HM
        rcases hm with hf | ⟨rfl, hwm⟩
        · have qf : (f != 0) = true := by simp [hf]
          have qf2 : (f == 0) = false := by simp [hf]
          obtain ⟨G, hG⟩ : ∃ G, writeV M = G := ⟨_, rfl⟩
          rw [hG] at hB6 hcap6 ⊢
          obtain ⟨al, gg⟩ := G
          clear hG hB6 hcap6
          go_wp2_with fail
          refine (HA.out _).mono ?_
          rintro e w7 ⟨rfl, hb7⟩
          have hw7 := hw6.trans (hb7.mono hw6.size)
          go_wp2_with fail
          refine (HRt.out _ hw7).mono ?_
          rintro e w8 ⟨rfl, hb8⟩
          go_wp2
          go_ret
          exact ⟨rfl, hw7.trans (hb8.mono hw7.size)⟩
        · rw [hwm] at hB6 hcap6 ⊢
          dsimp only at hB6 ⊢
          clear hcap6 hwm
          go_wp2_with fail
          refine (HA.out _).mono ?_
          rintro e w7 ⟨rfl, hb7⟩
          have hw7 := hw6.trans (hb7.mono hw6.size)
          have hB7 := (hB6.below hb7).mono hb7.size
          go_wp2_with fail
          refine (HRt.out _ hw7).mono ?_
          rintro e w8 ⟨rfl, hb8⟩
          have hw8 := hw7.trans (hb8.mono hw7.size)
          have hcv := (hB7.below hb8).str bl.length c6 rfl
          have hcv2 := (HB.out.below hw8).str len' cap' HL.out
          rw [← HL.out] at hcv ⊢
          clear hB6 hB7 hb7 hb8
          go_wp2
          go_ret
          exact ⟨rfl, hw8⟩
end Go.Proofs.Ytipeinkogoghnaa
