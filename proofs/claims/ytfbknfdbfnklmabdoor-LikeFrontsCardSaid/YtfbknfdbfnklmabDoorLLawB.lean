/- The walk of the law LikeBegins. -/
import Derived.Test.YtfbknfdbfnklmabDoorLLawS
import Derived.Test.YtfbknfdbfnklmabDoorLFront
namespace Go.Proofs.YtfbknfdbfnklmabDoor
open Go.RowKit

theorem compV_ways (s : ByteArray) (h : s.size ≤ 1000) : (∃ P, decS (bytesU s) = some P ∧ compV s = (some P, 0)) ∨ compV s = (none, 3) := by
  unfold compV
  rw [if_neg (by omega)]
  cases hP : decS (bytesU s) with
  | none => exact .inr rfl
  | some P => exact .inl ⟨P, rfl, rfl⟩

theorem matV_ways (P : List Nat) (s : ByteArray) (h : s.size ≤ 100000) : (∃ S, decS (bytesU s) = some S ∧ matV (some P) s = (matB P S, 0)) ∨ matV (some P) s = (false, 3) := by
  unfold matV
  simp only []
  rw [if_neg (by omega)]
  cases hP : decS (bytesU s) with
  | none => exact .inr rfl
  | some S => exact .inl ⟨S, rfl, rfl⟩

set_option maxHeartbeats 8000000 in
theorem begins6_any (p s : ByteArray) (w : World) (hT : Tabs w) (hp : p.size ≤ 140737488351232) (hs : s.size ≤ 140737488351232) :
    Calls Tryd.prog 6 #[.string p, .string s] w fun e w' => e = .returned (.bool true) ∧ Below w.heap.size w w' := by
  have HA := Lib.hid (fun W (h : Below w.heap.size w W) => alive6_any W (hT.below h))
  by_cases h1 : 300 < p.size ∨ 300 < s.size
  · have h1' : 300 < p.size ∨ (¬ 300 < p.size ∧ 300 < s.size) := by omega
    clear h1 hT
    go_enter Tryd.func6, Tryd.ntmps6
    rcases h1' with h | ⟨h, h2⟩
    all_goals
      go_wp2_with fail
      refine (HA.out _ (Below.refl _ _)).mono ?_
      rintro e w1 ⟨rfl, hb⟩
      go_wp2
      go_ret
      exact ⟨rfl, hb⟩
  · have g1 : p.size ≤ 300 := by omega
    have g2 : s.size ≤ 300 := by omega
    have qa : decide ((300 : Int) < (p.size : Int)) = false := by simp; omega
    have qb : decide ((300 : Int) < (s.size : Int)) = false := by simp; omega
    have HC := Lib.hid (Compile_any p w hT (by omega))
    have HP := Lib.hid (fun W v o (h : Below w.heap.size w W) (hv : PatIn W v o) => PMatch_any v o s W hv (hT.below h) (by omega))
    have hcw := compV_ways p (by omega)
    have hmw := fun P => matV_ways P s (by omega)
    obtain ⟨X, hX⟩ : ∃ X, compV p = X := ⟨_, rfl⟩
    rw [hX] at HC hcw
    have HMW := Lib.hid hmw
    clear h1 hX hmw hT
    go_enter Tryd.func6, Tryd.ntmps6
    rcases hcw with ⟨P, hP, rfl⟩ | rfl
    · have HPd := Lib.hid hP
      clear hP
      go_wp2_with fail
      refine HC.out.mono ?_
      rintro e w1 ⟨b1, v, rfl, hv⟩
      dsimp only at hv ⊢
      have HV := Lib.hid hv
      clear hv HC
      have HPM := Lib.hid (HP.out w1 v (some P) b1 HV.out)
      clear HP
      rcases HMW.out P with ⟨S, hS, hm⟩ | hm
      · rw [hm] at HPM
        obtain ⟨r, hr⟩ : ∃ r, matB P S = r := ⟨_, rfl⟩
        rw [hr] at HPM
        have HR := Lib.hid hr
        have HSd := Lib.hid hS
        clear hm hr hS HMW
        dsimp only at HPM
        go_wp2_with fail
        refine HPM.out.mono ?_
        rintro e w2 ⟨rfl, b2⟩
        have b12 := b1.trans (b2.mono b1.size)
        cases r with
        | false =>
          clear HR HPM
          go_wp2_with fail
          refine (HA.out _ b12).mono ?_
          rintro e w5 ⟨rfl, b5⟩
          go_wp2
          go_ret
          exact ⟨rfl, b12.trans (b5.mono b12.size)⟩
        | true =>
          have hok : ∀ v ∈ P, okP v = true := (decS_ok HPd.out).1
          obtain ⟨m1, m2, m3⟩ := begins_math hok HSd.out HR.out
          have hfl : (strP (frontP P)).size ≤ 300 := by omega
          have hll : leastP P ≤ 300 := by omega
          have HV2 := Lib.hid (HV.out.points.below b2)
          have HF := Lib.hid (Front_any v P w2 HV2.out)
          have HLs := Lib.hid (fun W (hb : Below w2.heap.size w2 W) => Least_any v P W (HV2.out.below hb))
          obtain ⟨f, hf⟩ : ∃ f, strP (frontP P) = f := ⟨_, rfl⟩
          obtain ⟨l, hl⟩ : ∃ l, leastP P = l := ⟨_, rfl⟩
          rw [hf] at HF m1 m2 hfl
          rw [hl] at HLs m3 hll
          clear HR HPM hok HV HPd HSd hf hl b2 HV2
          go_wp2_with fail
          refine HF.out.mono ?_
          rintro e w3 ⟨rfl, b3⟩
          have b13 := b12.trans (b3.mono b12.size)
          clear HF
          go_wp2_with fail
          refine (HA.out _ b13).mono ?_
          rintro e w4 ⟨rfl, b4⟩
          have b34 := b3.trans (b4.mono b3.size)
          have b14 := b12.trans (b34.mono b12.size)
          clear b4 b13
          go_wp2_with fail
          refine (HLs.out _ b34).mono ?_
          rintro e w5 ⟨rfl, b5⟩
          have b15 := b14.trans (b5.mono b14.size)
          clear b5 HLs b34 b14 b3
          go_wp2
          go_ret
          exact ⟨rfl, b15⟩
      · rw [hm] at HPM
        clear hm HMW HPd
        dsimp only at HPM
        go_wp2_with fail
        refine HPM.out.mono ?_
        rintro e w2 ⟨rfl, b2⟩
        have b12 := b1.trans (b2.mono b1.size)
        clear HPM
        go_wp2_with fail
        refine (HA.out _ b12).mono ?_
        rintro e w5 ⟨rfl, b5⟩
        go_wp2
        go_ret
        exact ⟨rfl, b12.trans (b5.mono b12.size)⟩
    · go_wp2_with fail
      refine HC.out.mono ?_
      rintro e w1 ⟨b1, v, rfl, hv⟩
      dsimp only at hv ⊢
      have HV := Lib.hid hv
      clear hv HC HMW
      have HPM := Lib.hid (HP.out w1 v none b1 HV.out)
      clear HP
      have hm : matV none s = (false, 6) := rfl
      rw [hm] at HPM
      clear hm
      dsimp only at HPM
      go_wp2_with fail
      refine HPM.out.mono ?_
      rintro e w2 ⟨rfl, b2⟩
      have b12 := b1.trans (b2.mono b1.size)
      clear HPM
      go_wp2_with fail
      refine (HA.out _ b12).mono ?_
      rintro e w5 ⟨rfl, b5⟩
      go_wp2
      go_ret
      exact ⟨rfl, b12.trans (b5.mono b12.size)⟩
end Go.Proofs.YtfbknfdbfnklmabDoor
