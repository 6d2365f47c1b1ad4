/- The walk of hindsightref06.Match. -/
import Derived.Test.YtkhcnfeklmbplaaDoorLPts
import Derived.Test.YtkhcnfeklmbplaaDoorLComp
import Derived.Test.YtkhcnfeklmbplaaDoorURSplit
namespace Go.Proofs.YtkhcnfeklmbplaaDoor
open Go.RowKit

set_option maxHeartbeats 2000000 in
theorem rMatch_any (pat s : ByteArray) (w : World) (hp : pat.size ≤ 100000000) (hs : s.size ≤ 100000000) :
    Calls Tryd.prog 6 #[.string pat, .string s] w fun e w' => e = .returned (.tuple #[.bool (fullV pat s).1, .int .i64 (fullV pat s).2]) ∧ Below w.heap.size w w' := by
  have hF : fullV pat s = match compV pat with
    | (none, e) => (false, e)
    | (some p, _) => matV (some p) s := rfl
  rw [hF]
  by_cases hlong : 1000 < pat.size
  · have hC : compV pat = (none, 2) := by unfold compV; rw [if_pos hlong]
    rw [hC]
    have ql : decide ((1000 : Int) < (pat.size : Int)) = true := by simp; omega
    clear hC hF
    go_enter Tryd.func6, Tryd.ntmps6
    go_wp2
    go_ret2
    exact ⟨rfl, Below.refl _ _⟩
  · have ql : decide ((1000 : Int) < (pat.size : Int)) = false := by simp; omega
    have hC : compV pat = match decS (bytesU pat) with
      | none => (none, 3)
      | some p => (some p, 0) := by unfold compV; rw [if_neg hlong]; rfl
    rw [hC]
    have HS := Lib.hid (rSplit_any pat w (by omega))
    have HO := Lib.hid (fun p h => decS_ok (s := pat) (p := p) h)
    have HS2 := Lib.hid (fun W => rSplit_any s W (by omega))
    have HO2 := Lib.hid (fun p h => decS_ok (s := s) (p := p) h)
    have hM : ∀ p, matV (some p) s = if 100000 < s.size then (false, (2 : Int)) else match decS (bytesU s) with
      | none => (false, (3 : Int))
      | some q => (matB p q, (0 : Int)) := fun p => rfl
    have HM := Lib.hid hM
    clear hM
    obtain ⟨o, ho⟩ : ∃ o, decS (bytesU pat) = o := ⟨_, rfl⟩
    rw [ho] at HS HO ⊢
    obtain ⟨o2, ho2⟩ : ∃ o, decS (bytesU s) = o := ⟨_, rfl⟩
    rw [ho2] at HS2 HO2 HM
    clear ho ho2 hC hF
    go_enter Tryd.func6, Tryd.ntmps6
    go_wp2_with fail
    refine HS.out.mono ?_
    rintro e w1 ⟨hb, ⟨rfl, rfl⟩ | ⟨p, a, cap, rfl, rfl, hcap, hR⟩⟩
    · clear HS HO HS2 HO2 HM
      go_wp2
      go_ret2
      exact ⟨rfl, hb⟩
    · have hpl := (HO.out p rfl).2
      have HR := Lib.hid hR
      have HMp := Lib.hid (HM.out p)
      obtain ⟨n, hn⟩ : ∃ n, p.length = n := ⟨_, rfl⟩
      rw [hn] at hpl hcap ⊢
      have HN := Lib.hid hn
      clear HS HO hR hn HM
      by_cases hl2 : 100000 < s.size
      · have ql2 : decide ((100000 : Int) < (s.size : Int)) = true := by simp; omega
        have HC : Hid (matV (some p) s = (false, 2)) := by rw [HMp.out, if_pos hl2]; rfl
        clear HS2 HO2 HMp
        go_wp2
        go_ret2
        exact ⟨by simp only []; rw [HC.out]; rfl, hb⟩
      · have ql2 : decide ((100000 : Int) < (s.size : Int)) = false := by simp; omega
        have hMp : matV (some p) s = _ := HMp.out
        rw [if_neg hl2] at hMp
        have HC := Lib.hid hMp
        clear HMp hMp
        go_wp2_with fail
        refine (HS2.out w1).mono ?_
        rintro e w2 ⟨hb2, ⟨rfl, rfl⟩ | ⟨q, a', cap', rfl, rfl, hcap', hR'⟩⟩
        · clear HS2 HO2
          go_wp2
          go_ret2
          exact ⟨by simp only []; rw [HC.out]; rfl, hb.trans (hb2.mono hb.size)⟩
        · have hql := (HO2.out q rfl).2
          have HP := Lib.hid (Points_any p q a a' n cap q.length cap' w2 ((HR.out.below hb2).mono hb2.size) hR' HN.out.symm rfl (by omega) (by omega))
          clear HS2 HO2 hR' HR
          obtain ⟨R, hRe⟩ : ∃ R, matB p q = R := ⟨_, rfl⟩
          rw [hRe] at HP
          have HRR := Lib.hid hRe
          obtain ⟨m, hm⟩ : ∃ m, q.length = m := ⟨_, rfl⟩
          rw [hm] at HP hql hcap' ⊢
          clear hRe hm
          go_wp2_with fail
          refine HP.out.mono ?_
          rintro e w3 ⟨rfl, hb3⟩
          go_wp2
          go_ret2
          have c2 := hb.trans (hb2.mono hb.size)
          exact ⟨by simp only []; rw [HC.out, ← HRR.out]; rfl, c2.trans (hb3.mono c2.size)⟩
end Go.Proofs.YtkhcnfeklmbplaaDoor
