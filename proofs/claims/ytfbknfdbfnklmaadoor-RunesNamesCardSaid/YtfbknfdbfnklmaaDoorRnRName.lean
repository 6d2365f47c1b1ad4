/- The walk of hindsightref05.Name; the law RunesNames. -/
import Derived.Test.YtfbknfdbfnklmaaDoorRnAlive
namespace Go.Proofs.YtfbknfdbfnklmaaDoor
set_option linter.unusedSimpArgs false
open Go.RowKit

theorem byteN_getD (s : ByteArray) (i : Nat) (h : i < s.size) : (s[i]'h).toNat = byteN s i := (byteN_at s i h).symm

set_option maxHeartbeats 1000000 in
theorem rName_any (s : ByteArray) (w : World) (hs : s.size ≤ 140737488351232) :
    Calls Tryd.prog 16 #[.string s] w fun e w' => e = .returned (.tuple #[.string (nameV s).1, .int .i64 (nameV s).2]) ∧ Below w.heap.size w w' := by
  by_cases hl : 20 < s.size
  · have HN : Hid (nameV s = (⟨#[]⟩, 2)) := by unfold nameV; rw [if_pos hl]; rfl
    go_enter Tryd.func16, Tryd.ntmps16
    go_wp2
    go_ret2
    exact ⟨by rw [HN.out]; rfl, Below.refl _ _⟩
  · have ql : decide ((20 : Int) < (s.size : Int)) = false := by simp; omega
    have HF := Lib.hid (fun W => rFold_any s W (by omega))
    have hN : nameV s = if nameB s = false then (⟨#[]⟩, 3) else (foldS s, 0) := by unfold nameV; rw [if_neg hl]
    obtain ⟨f, hf⟩ : ∃ f, foldS s = f := ⟨_, rfl⟩
    rw [hf] at HF hN
    have HN := Lib.hid hN
    clear hN hf
    go_enter Tryd.func16, Tryd.ntmps16
    go_wp2
    go_loopw [4] (fun i wr => ∃ k : Nat, k ≤ s.size ∧ i = .int .i64 k ∧ Hid (∀ i, i < k → okN i (byteN s i) = true) ∧ w = wr) (fun i _ => s.size - (intOf i).toNat)
    case atStart => exact ⟨0, by omega, rfl, by simp [Hid], rfl⟩
    case round =>
      obtain ⟨k, hk, rfl, HI, rfl⟩ := hrel
      by_cases hlt : k < s.size
      · have HB := Lib.hid (byteN_at s k hlt)
        obtain ⟨c, hc⟩ : ∃ c, (s[k]'hlt).toNat = c := ⟨_, rfl⟩
        have HCl := Lib.hid (fun W => rClass_any ((s[k]'hlt).toNat : Int) W)
        obtain ⟨z, hz⟩ : ∃ z, classZ ((s[k]'hlt).toNat : Int) = z := ⟨_, rfl⟩
        rw [hz] at HCl
        rw [hc] at HB
        have hok : okN k c = (z == 2 || (z == 3 && k != 0)) := by unfold okN; rw [← hc, hz]
        have HOk := Lib.hid hok
        have hc256 := (s[k]'hlt).toNat_lt
        clear hc hz hok
        go_wp2_with fail
        refine (HCl.out _).mono ?_
        rintro e w1 ⟨rfl, rfl⟩
        clear HCl
        by_cases hgo : z = 2 ∨ (z = 3 ∧ k ≠ 0)
        · have HI2 : Hid (∀ i, i < k + 1 → okN i (byteN s i) = true) := by
            intro i hi
            by_cases h : i = k
            · subst h
              rw [HB.out, HOk.out]
              rcases hgo with h | ⟨h, h'⟩ <;> simp [h]
              exact h'
            · exact HI.out i (by omega)
          clear HI HOk HB
          by_cases h2 : z = 2
          · subst h2
            by_cases hk0 : k = 0
            · subst hk0
              go_wp2
              go_roundw
              case rel => exact ⟨1, by omega, by go_num, HI2, trivial⟩
              case measure => simp [intOf]; omega
            · have q0 : ((k : Int) == 0) = false := by simp; omega
              clear hgo
              go_wp2
              go_roundw
              case rel => exact ⟨k + 1, by omega, by go_num, HI2, trivial⟩
              case measure => simp [intOf]; omega
          · obtain ⟨rfl, h0⟩ : z = 3 ∧ k ≠ 0 := by
              rcases hgo with h | h
              · exact absurd h h2
              · exact h
            have q0 : ((k : Int) == 0) = false := by simp; omega
            clear hgo h2
            go_wp2
            go_roundw
            case rel => exact ⟨k + 1, by omega, by go_num, HI2, trivial⟩
            case measure => simp [intOf]; omega
        · have HNB : Hid (nameB s = false) := nameB_false hlt (by
            rw [HB.out, HOk.out]
            rw [Bool.eq_false_iff]
            intro h
            simp only [Bool.or_eq_true, Bool.and_eq_true, beq_iff_eq, bne_iff_ne, ne_eq] at h
            exact hgo h)
          have HN2 : Hid (nameV s = (⟨#[]⟩, 3)) := by rw [HN.out, HNB.out]; rfl
          have hways : (z ≠ 2 ∧ z ≠ 3) ∨ (z = 3 ∧ k = 0) := by omega
          clear HI HOk HB hgo HNB HN
          rcases hways with ⟨h2, h3⟩ | ⟨rfl, rfl⟩
          · have q2 : (z != 2) = true := by simp [h2]
            have q3 : (z != 3) = true := by simp [h3]
            have q4 : (z == 3) = false := by simp [h3]
            go_wp2
            go_ret2
            exact ⟨by rw [HN2.out]; rfl, Below.refl _ _⟩
          · go_wp2
            go_ret2
            exact ⟨by rw [HN2.out]; rfl, Below.refl _ _⟩
      · by_cases h0 : s.size = 0
        · have HN2 : Hid (nameV s = (⟨#[]⟩, 3)) := by rw [HN.out]; unfold nameB; simp [h0, Hid]
          have q0 : ((s.size : Int) == 0) = true := by rw [h0]; rfl
          clear HI HN
          go_wp2
          go_ret2
          exact ⟨by rw [HN2.out]; rfl, Below.refl _ _⟩
        · have HNB : Hid (nameB s = true) := nameB_true.2 ⟨by omega, fun i hi => HI.out i (by omega)⟩
          have HN2 : Hid (nameV s = (f, 0)) := by rw [HN.out, HNB.out]; rfl
          have q0 : ((s.size : Int) == 0) = false := by rw [Bool.eq_false_iff]; intro h; rw [beq_iff_eq] at h; omega
          clear HI HN HNB
          go_wp2_with fail
          refine (HF.out _).mono ?_
          rintro e w2 ⟨rfl, b2⟩
          go_wp2
          go_ret2
          exact ⟨by rw [HN2.out]; rfl, b2⟩

set_option maxHeartbeats 4000000 in
theorem names5_any (s : ByteArray) (r : Int) (w : World) (hT : Pre5 w) (hr : -2147483648 ≤ r ∧ r ≤ 2147483647) (hs : s.size ≤ 140737488351232) :
    Calls Tryd.prog 4 #[.string s, .int .i32 r] w fun e w' => e = .returned (.bool true) ∧ Below w.heap.size w w' := by
  have HA := Lib.hid (fun W (h : Below w.heap.size w W) => alive5_any W (hT.below h))
  by_cases h1 : 1000 < s.size
  · clear hT
    go_enter Tryd.func4, Tryd.ntmps4
    go_wp2_with fail
    refine (HA.out _ (Below.refl _ _)).mono ?_
    rintro e w1 ⟨rfl, hb⟩
    go_wp2
    go_ret
    exact ⟨rfl, hb⟩
  · have q1 : decide ((1000 : Int) < (s.size : Int)) = false := by simp; omega
    have HN := Lib.hid (fun W => Name_any s W hs)
    have HM := Lib.hid (fun W => rName_any s W hs)
    have HF := Lib.hid (fun W => Fold_any s W (by omega))
    have HG := Lib.hid (fun W => rFold_any s W (by omega))
    have HC := Lib.hid (fun W => Class_any r W)
    have HD := Lib.hid (fun W => rClass_any r W)
    obtain ⟨f, hf⟩ : ∃ f, foldS s = f := ⟨_, rfl⟩
    obtain ⟨z, hz⟩ : ∃ z, classZ r = z := ⟨_, rfl⟩
    obtain ⟨X, hX⟩ : ∃ X, nameV s = X := ⟨_, rfl⟩
    rw [hf] at HF HG
    rw [hz] at HC HD
    rw [hX] at HN HM
    obtain ⟨x, e0⟩ := X
    dsimp only at HN HM
    clear hf hX hz hT h1
    have qn : (f.toList == f.toList) = true := by simp
    have qx : (x.toList == x.toList) = true := by simp
    have qe : (e0 == e0) = true := by simp
    have qz : (z == z) = true := by simp
    go_enter Tryd.func4, Tryd.ntmps4
    go_wp2_with fail
    refine (HN.out _).mono ?_
    rintro e w1 ⟨rfl, b1⟩
    go_wp2_with fail
    refine (HM.out _).mono ?_
    rintro e w2 ⟨rfl, b2⟩
    replace b2 := b1.trans (b2.mono b1.size)
    clear b1
    go_wp2_with fail
    refine (HA.out _ b2).mono ?_
    rintro e w4 ⟨rfl, b4⟩
    replace b4 := b2.trans (b4.mono b2.size)
    clear b2
    go_wp2_with fail
    refine (HC.out _).mono ?_
    rintro e w5 ⟨rfl, rfl⟩
    go_wp2_with fail
    refine (HD.out _).mono ?_
    rintro e w5 ⟨rfl, rfl⟩
    go_wp2_with fail
    refine (HF.out _).mono ?_
    rintro e w5 ⟨rfl, b5⟩
    replace b5 := b4.trans (b5.mono b4.size)
    clear b4
    go_wp2_with fail
    refine (HG.out _).mono ?_
    rintro e w6 ⟨rfl, b6⟩
    replace b6 := b5.trans (b6.mono b5.size)
    clear b5
    go_wp2
    go_ret
    exact ⟨rfl, b6⟩
end Go.Proofs.YtfbknfdbfnklmaaDoor
