/- The walk of the law LikeMatches. -/
import Derived.Test.YtkhcnfeklmbplaaDoorLAlive
import Derived.Test.YtkhcnfeklmbplaaDoorLRMat
namespace Go.Proofs.YtkhcnfeklmbplaaDoor
open Go.RowKit

/-- What Compile and Match say of a pattern's text: either both the same error, or the same as the method. -/
theorem fullV_ways (p s : ByteArray) : (∃ e0, e0 ≠ 0 ∧ compV p = (none, e0) ∧ fullV p s = (false, e0)) ∨ ∃ P, compV p = (some P, 0) ∧ fullV p s = matV (some P) s := by
  unfold fullV
  have hz : (∃ e0, e0 ≠ 0 ∧ compV p = (none, e0)) ∨ ∃ P, compV p = (some P, 0) := by
    unfold compV
    split
    · exact .inl ⟨2, by omega, rfl⟩
    · split
      · exact .inl ⟨3, by omega, rfl⟩
      · exact .inr ⟨_, rfl⟩
  rcases hz with ⟨e0, h, h2⟩ | ⟨P, h⟩
  · exact .inl ⟨e0, h, h2, by rw [h2]⟩
  · exact .inr ⟨P, h, by rw [h]⟩

set_option maxRecDepth 100000 in
set_option maxHeartbeats 8000000 in
theorem matches6_any (p s : ByteArray) (w : World) (hT : Tabs w) (hp : p.size ≤ 140737488351232) (hs : s.size ≤ 140737488351232) :
    Calls Tryd.prog 3 #[.string p, .string s] w fun e w' => e = .returned (.bool true) ∧ Below w.heap.size w w' := by
  have HA := Lib.hid (fun W (h : Below w.heap.size w W) => alive6_any W (hT.below h))
  by_cases hg : (200 < p.size ∧ p.size ≤ 1000) ∨ 1200 < p.size ∨ (400 < s.size ∧ s.size ≤ 100000) ∨ 100100 < s.size
  · have hways : (decide ((200 : Int) < (p.size : Int)) = true ∧ decide ((p.size : Int) ≤ 1000) = true) ∨
        (decide ((200 : Int) < (p.size : Int)) = true ∧ decide ((p.size : Int) ≤ 1000) = false ∧ decide ((1200 : Int) < (p.size : Int)) = true) ∨
        ((((decide ((200 : Int) < (p.size : Int)) = true ∧ decide ((p.size : Int) ≤ 1000) = false) ∨ (decide ((200 : Int) < (p.size : Int)) = false)) ∧ decide ((1200 : Int) < (p.size : Int)) = false) ∧
          ((decide ((400 : Int) < (s.size : Int)) = true ∧ decide ((s.size : Int) ≤ 100000) = true) ∨
           (decide ((400 : Int) < (s.size : Int)) = true ∧ decide ((s.size : Int) ≤ 100000) = false ∧ decide ((100100 : Int) < (s.size : Int)) = true))) := by
      simp only [decide_eq_true_eq, decide_eq_false_iff_not]
      omega
    clear hT hg
    rcases hways with ⟨q1, q2⟩ | ⟨q1, q2, q3⟩ | ⟨⟨⟨q1, q2⟩ | q1, q3⟩, ⟨q4, q5⟩ | ⟨q4, q5, q6⟩⟩
    all_goals
      go_enter Tryd.func3, Tryd.ntmps3
      go_wp2_with fail
      refine (HA.out _ (Below.refl _ _)).mono ?_
      rintro e w1 ⟨rfl, hb⟩
      go_wp2
      go_ret
      exact ⟨rfl, hb⟩
  · have hways : ((decide ((200 : Int) < (p.size : Int)) = true ∧ decide ((p.size : Int) ≤ 1000) = false) ∨ (decide ((200 : Int) < (p.size : Int)) = false)) ∧ decide ((1200 : Int) < (p.size : Int)) = false ∧
        ((decide ((400 : Int) < (s.size : Int)) = true ∧ decide ((s.size : Int) ≤ 100000) = false) ∨ (decide ((400 : Int) < (s.size : Int)) = false)) ∧ decide ((100100 : Int) < (s.size : Int)) = false := by
      simp only [decide_eq_true_eq, decide_eq_false_iff_not]
      omega
    have H1 := Lib.hid (fun W (hb : Below w.heap.size w W) => Match_any p s W (hT.below hb) (by omega) (by omega))
    have H2 := Lib.hid (fun W => rMatch_any p s W (by omega) (by omega))
    have H3 := Lib.hid (fun W (hb : Below w.heap.size w W) => Compile_any p W (hT.below hb) (by omega))
    have H4 := Lib.hid (fun W v o (hb : Below w.heap.size w W) (h : PatIn W v o) => PMatch_any v o s W h (hT.below hb) (by omega))
    have hN : matV none s = (false, 6) := rfl
    have HN := Lib.hid hN
    have hfw := fullV_ways p s
    clear hT hg hN
    rcases hfw with ⟨e0, he0, hc, hf⟩ | ⟨P, hc, hf⟩
    · rw [hc] at H3
      rw [hf] at H1 H2
      have q0 : (e0 != 0) = true := by simp [he0]
      clear hc hf he0
      obtain ⟨⟨q1, q2⟩ | q1, q3, ⟨q4, q5⟩ | q4, q6⟩ := hways
      all_goals
        go_enter Tryd.func3, Tryd.ntmps3
        go_wp2_with fail
        refine (H1.out _ (Below.refl _ _)).mono ?_
        rintro e w1 ⟨rfl, b1⟩
        go_wp2_with fail
        refine (H2.out w1).mono ?_
        rintro e w2 ⟨rfl, b2⟩
        replace b2 := b1.trans (b2.mono b1.size)
        go_wp2_with fail
        refine (H3.out w2 b2).mono ?_
        rintro e w3 ⟨b3, v, rfl, hv⟩
        replace b3 := b2.trans (b3.mono b2.size)
        have hv0 : v = .pointer none := by
          rcases hv with ⟨_, h⟩ | ⟨_, _, _, _, h, _⟩
          · exact h
          · cases h
        subst hv0
        dsimp only at hv ⊢
        have H5 := Lib.hid (H4.out w3 _ none b3 hv)
        rw [HN.out] at H5
        clear hv
        go_wp2_with fail
        refine H5.out.mono ?_
        rintro e w4 ⟨rfl, b4⟩
        replace b4 := b3.trans (b4.mono b3.size)
        clear H1 H2 H3 H4 H5 b1 b2 b3
        go_wp2_with fail
        refine (HA.out _ b4).mono ?_
        rintro e w5 ⟨rfl, b5⟩
        replace b5 := b4.trans (b5.mono b4.size)
        go_wp2
        go_ret
        exact ⟨rfl, b5⟩
    · rw [hc] at H3
      rw [hf] at H1 H2
      obtain ⟨R, hR⟩ : ∃ R, matV (some P) s = R := ⟨_, rfl⟩
      obtain ⟨x, e1⟩ := R
      rw [hR] at H1 H2
      have HR := Lib.hid hR
      clear hc hf hR
      obtain ⟨⟨q1, q2⟩ | q1, q3, ⟨q4, q5⟩ | q4, q6⟩ := hways
      all_goals
        go_enter Tryd.func3, Tryd.ntmps3
        go_wp2_with fail
        refine (H1.out _ (Below.refl _ _)).mono ?_
        rintro e w1 ⟨rfl, b1⟩
        go_wp2_with fail
        refine (H2.out w1).mono ?_
        rintro e w2 ⟨rfl, b2⟩
        replace b2 := b1.trans (b2.mono b1.size)
        go_wp2_with fail
        refine (H3.out w2 b2).mono ?_
        rintro e w3 ⟨b3, v, rfl, hv⟩
        replace b3 := b2.trans (b3.mono b2.size)
        dsimp only at hv ⊢
        have H5 := Lib.hid (H4.out w3 _ (some P) b3 hv)
        rw [HR.out] at H5
        clear hv
        go_wp2_with fail
        refine H5.out.mono ?_
        rintro e w4 ⟨rfl, b4⟩
        replace b4 := b3.trans (b4.mono b3.size)
        clear H1 H2 H3 H4 H5 b1 b2 b3
        go_wp2_with fail
        refine (HA.out _ b4).mono ?_
        rintro e w5 ⟨rfl, b5⟩
        replace b5 := b4.trans (b5.mono b4.size)
        go_wp2
        go_ret
        exact ⟨rfl, b5⟩
end Go.Proofs.YtkhcnfeklmbplaaDoor
