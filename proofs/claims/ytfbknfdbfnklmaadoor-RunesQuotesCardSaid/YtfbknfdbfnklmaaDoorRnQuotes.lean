/- The walk of the law RunesQuotes. -/
import Derived.Test.YtfbknfdbfnklmaaDoorRnAlive
import Derived.Test.YtfbknfdbfnklmaaDoorRnRQuo
import Derived.Test.YtfbknfdbfnklmaaDoorRnRNum
import Derived.Test.YtfbknfdbfnklmaaDoorRnRDig
namespace Go.Proofs.YtfbknfdbfnklmaaDoor
set_option linter.unusedSimpArgs false
open Go.RowKit

set_option maxRecDepth 100000 in
set_option maxHeartbeats 4000000 in
theorem quotes5_any (s d : ByteArray) (n : Int) (w : World) (hT : Pre5 w) (hn : -9223372036854775808 ≤ n ∧ n ≤ 9223372036854775807) (hs : s.size ≤ 140737488351232) (hds : d.size ≤ 140737488351232) :
    Calls Tryd.prog 5 #[.string s, .string d, .int .i64 n] w fun e w' => e = .returned (.bool true) ∧ Below w.heap.size w w' := by
  have HA := Lib.hid (fun W (h : Below w.heap.size w W) => alive5_any W (hT.below h))
  by_cases hbig : 1000 < s.size ∨ 1000 < d.size
  · have hbig' : 1000 < s.size ∨ (¬ 1000 < s.size ∧ 1000 < d.size) := by omega
    clear hbig hT
    go_enter Tryd.func5, Tryd.ntmps5
    rcases hbig' with h | ⟨h, h2⟩
    all_goals
      go_wp2_with fail
      refine (HA.out _ (Below.refl _ _)).mono ?_
      rintro e w1 ⟨rfl, hb⟩
      go_wp2
      go_ret
      exact ⟨rfl, hb⟩
  · have g1 : s.size ≤ 1000 := by omega
    have g2 : d.size ≤ 1000 := by omega
    have H1 := Lib.hid (fun W (h : Below w.heap.size w W) => Unquote_any s W (hT.below h) (by omega))
    have H2 := Lib.hid (fun W => rUnquote_any s W (by omega))
    have H3 := Lib.hid (fun W (h : Below w.heap.size w W) => Number_any d W (hT.below h) (by omega))
    have H4 := Lib.hid (fun W => rNumber_any d W (by omega))
    have H5 := Lib.hid (fun W (h : Below w.heap.size w W) => Quote_any s W (hT.below h) (by omega))
    have H6 := Lib.hid (fun W => rQuote_any s W (by omega))
    have H7 := Lib.hid (fun W (h : Below w.heap.size w W) => Digits_any n W (hT.below h) hn.1 hn.2)
    have H8 := Lib.hid (fun W => rDigits_any n W hn.1 hn.2)
    obtain ⟨X, hX⟩ : ∃ X, unquoteS s = X := ⟨_, rfl⟩
    obtain ⟨Y, hY⟩ : ∃ Y, numV d = Y := ⟨_, rfl⟩
    obtain ⟨q, hq⟩ : ∃ q, quoteS s = q := ⟨_, rfl⟩
    obtain ⟨t, ht⟩ : ∃ t, baL (Lib.itoa n) = t := ⟨_, rfl⟩
    rw [hX] at H1 H2
    rw [hY] at H3 H4
    rw [hq] at H5 H6
    rw [ht] at H7 H8
    obtain ⟨x, e0⟩ := X
    obtain ⟨y, f0⟩ := Y
    dsimp only at H1 H2 H3 H4
    have k1 : (x.toList == x.toList) = true := by simp
    have k2 : (q.toList == q.toList) = true := by simp
    have k3 : (t.toList == t.toList) = true := by simp
    have k4 : (e0 == e0) = true := by simp
    have k5 : (y == y) = true := by simp
    have k6 : (f0 == f0) = true := by simp
    clear hX hY hq ht hT hbig
    go_enter Tryd.func5, Tryd.ntmps5
    go_wp2_with fail
    refine (H1.out _ (Below.refl _ _)).mono ?_
    rintro e w1 ⟨rfl, b1⟩
    go_wp2_with fail
    refine (H2.out _).mono ?_
    rintro e w2 ⟨rfl, b2⟩
    replace b2 := b1.trans (b2.mono b1.size)
    clear b1
    go_wp2_with fail
    refine (H3.out _ b2).mono ?_
    rintro e w3 ⟨rfl, b3⟩
    replace b3 := b2.trans (b3.mono b2.size)
    clear b2
    go_wp2_with fail
    refine (H4.out _).mono ?_
    rintro e w4 ⟨rfl, b4⟩
    replace b4 := b3.trans (b4.mono b3.size)
    clear b3
    go_wp2_with fail
    refine (HA.out _ b4).mono ?_
    rintro e w5 ⟨rfl, b5⟩
    replace b5 := b4.trans (b5.mono b4.size)
    clear b4
    go_wp2_with fail
    refine (H5.out _ b5).mono ?_
    rintro e w6 ⟨rfl, b6⟩
    replace b6 := b5.trans (b6.mono b5.size)
    clear b5
    go_wp2_with fail
    refine (H6.out _).mono ?_
    rintro e w7 ⟨rfl, b7⟩
    replace b7 := b6.trans (b7.mono b6.size)
    clear b6
    go_wp2_with fail
    refine (H7.out _ b7).mono ?_
    rintro e w8 ⟨rfl, b8⟩
    replace b8 := b7.trans (b8.mono b7.size)
    clear b7
    go_wp2_with fail
    refine (H8.out _).mono ?_
    rintro e w9 ⟨rfl, b9⟩
    replace b9 := b8.trans (b9.mono b8.size)
    clear b8
    go_wp2
    go_ret
    exact ⟨rfl, b9⟩
end Go.Proofs.YtfbknfdbfnklmaaDoor
