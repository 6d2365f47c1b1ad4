/- The law RunesTold: its walk. -/
import Derived.Test.YtfbknfdbfnklmaaDoorRnAlive
namespace Go.Proofs.YtfbknfdbfnklmaaDoor
set_option linter.unusedSimpArgs false
open Go.RowKit

theorem foldC_idem (c : Nat) : foldC (foldC c) = foldC c := by unfold foldC; split <;> (try split) <;> omega
theorem class_fold (c : Nat) (h : c < 256) : classZ (foldC c : Int) = classZ (c : Int) := by
  have : ∀ c : Fin 256, classZ (foldC c.1 : Int) = classZ (c.1 : Int) := by decide +kernel
  exact this ⟨c, h⟩

theorem bytesU_strN (l : List Nat) (h : ∀ c ∈ l, c < 256) : bytesU (strN l) = l := by
  unfold bytesU strN
  simp only [List.map_map]
  conv => rhs; rw [← List.map_id l]
  apply List.map_congr_left
  intro c hc
  simp [Nat.mod_eq_of_lt (h c hc)]
theorem bytesU_fold (s : ByteArray) : bytesU (foldS s) = (bytesU s).map foldC := by
  have h : ∀ c ∈ (bytesU s).map foldC, c < 256 := by
    intro c hc
    obtain ⟨d, hd, rfl⟩ := List.mem_map.1 hc
    exact foldC_lt (bytesU_lt s d hd)
  exact bytesU_strN _ h
theorem foldS_size (s : ByteArray) : (foldS s).size = s.size := by
  rw [← bytesU_len, bytesU_fold, List.length_map, bytesU_len]
theorem foldS_idem (s : ByteArray) : foldS (foldS s) = foldS s := by
  unfold foldS
  rw [show (bytesU (strN ((bytesU s).map foldC))) = (bytesU s).map foldC from bytesU_fold s, List.map_map]
  congr 1
  apply List.map_congr_left
  intro c _
  exact foldC_idem c
theorem byteN_fold (s : ByteArray) (i : Nat) : byteN (foldS s) i = foldC (byteN s i) := by
  unfold byteN
  rw [bytesU_fold, List.getD_eq_getElem?_getD, List.getD_eq_getElem?_getD, List.getElem?_map]
  cases (bytesU s)[i]? <;> rfl
theorem byteN_lt (s : ByteArray) (i : Nat) : byteN s i < 256 := by
  unfold byteN
  exact getD_lt _ (bytesU_lt s) i
theorem nameB_fold (s : ByteArray) : nameB (foldS s) = nameB s := by
  unfold nameB
  rw [foldS_size]
  congr 1
  congr 1
  funext i
  unfold okN
  rw [byteN_fold, class_fold _ (byteN_lt s i)]

theorem told_name {s : ByteArray} (h : (nameV s).2 = 0) : nameV (nameV s).1 = ((nameV s).1, 0) ∧ (nameV s).1.size = s.size ∧ (nameV s).1.size ≤ 20 ∧ (nameV s).1 = foldS s := by
  by_cases h1 : 20 < s.size
  · have e : nameV s = (⟨#[]⟩, 2) := by unfold nameV; rw [if_pos h1]
    rw [e] at h; cases h
  · cases hb : nameB s with
    | false =>
      have e : nameV s = (⟨#[]⟩, 3) := by unfold nameV; rw [if_neg h1, if_pos hb]
      rw [e] at h; cases h
    | true =>
      have e : nameV s = (foldS s, 0) := by unfold nameV; rw [if_neg h1, if_neg (by rw [hb]; decide)]
      rw [e]
      refine ⟨?_, foldS_size s, by have := foldS_size s; show (foldS s).size ≤ 20; omega, rfl⟩
      show nameV (foldS s) = (foldS s, 0)
      unfold nameV
      rw [foldS_size, if_neg h1, nameB_fold, if_neg (by rw [hb]; decide), foldS_idem]

set_option maxHeartbeats 4000000 in
theorem told5_any (s : ByteArray) (w : World) (hT : Pre5 w) (hs : s.size ≤ 140737488351232) :
    Calls Tryd.prog 7 #[.string s] w fun e w' => e = .returned (.bool true) ∧ Below w.heap.size w w' := by
  have HA := Lib.hid (fun W (h : Below w.heap.size w W) => alive5_any W (hT.below h))
  by_cases h1 : 1000 < s.size
  · clear hT
    go_enter Tryd.func7, Tryd.ntmps7
    go_wp2_with fail
    refine (HA.out _ (Below.refl _ _)).mono ?_
    rintro e w1 ⟨rfl, hb⟩
    go_wp2
    go_ret
    exact ⟨rfl, hb⟩
  · have q1 : decide ((1000 : Int) < (s.size : Int)) = false := by simp; omega
    have HN := Lib.hid (fun W => Name_any s W hs)
    have HF := Lib.hid (fun W => Fold_any s W (by omega))
    have hff := Lib.hid (fun W => Fold_any (foldS s) W (by rw [foldS_size]; omega))
    have hN2 : (nameV s).1.size ≤ 140737488351232 → ∀ W, _ := fun h W => Name_any (nameV s).1 W h
    have hm := @told_name s
    have hsz := foldS_size s
    rw [foldS_idem] at hff
    obtain ⟨f, hf⟩ : ∃ f, foldS s = f := ⟨_, rfl⟩
    obtain ⟨X, hX⟩ : ∃ X, nameV s = X := ⟨_, rfl⟩
    rw [hf] at HF hff hm hsz
    rw [hX] at HN hm hN2
    obtain ⟨x, e0⟩ := X
    dsimp only at HN hm hN2
    have HM := Lib.hid hm
    have HN2 := Lib.hid hN2
    clear hm hN2 hf hX hT h1
    have qn : (f.toList == f.toList) = true := by simp
    go_enter Tryd.func7, Tryd.ntmps7
    go_wp2_with fail
    refine (HN.out _).mono ?_
    rintro e w1 ⟨rfl, b1⟩
    go_wp2_with fail
    refine (HF.out _).mono ?_
    rintro e w2 ⟨rfl, b2⟩
    replace b2 := b1.trans (b2.mono b1.size)
    clear b1
    by_cases h0 : e0 = 0
    · subst h0
      obtain ⟨hn, g1, g2, rfl⟩ := HM.out rfl
      have H2 := Lib.hid (HN2.out (by omega))
      rw [hn] at H2
      clear HM HN2 hn
      have qs : decide ((x.size : Int) = (s.size : Int)) = true := by simp; omega
      have ql : decide ((20 : Int) < (x.size : Int)) = false := by simp; omega
      dsimp only at H2
      go_wp2_with fail
      refine (H2.out _).mono ?_
      rintro e w3 ⟨rfl, b3⟩
      replace b3 := b2.trans (b3.mono b2.size)
      clear b2
      go_wp2_with fail
      refine (HA.out _ b3).mono ?_
      rintro e w4 ⟨rfl, b4⟩
      replace b4 := b3.trans (b4.mono b3.size)
      clear b3
      go_wp2_with fail
      refine (hff.out _).mono ?_
      rintro e w5 ⟨rfl, b5⟩
      replace b5 := b4.trans (b5.mono b4.size)
      clear b4
      go_wp2
      go_ret
      exact ⟨rfl, b5⟩
    · clear HM HN2
      go_wp2_with fail
      refine (HA.out _ b2).mono ?_
      rintro e w4 ⟨rfl, b4⟩
      replace b4 := b2.trans (b4.mono b2.size)
      clear b2
      go_wp2_with fail
      refine (hff.out _).mono ?_
      rintro e w5 ⟨rfl, b5⟩
      replace b5 := b4.trans (b5.mono b4.size)
      clear b4
      go_wp2
      go_ret
      exact ⟨rfl, b5⟩
end Go.Proofs.YtfbknfdbfnklmaaDoor
