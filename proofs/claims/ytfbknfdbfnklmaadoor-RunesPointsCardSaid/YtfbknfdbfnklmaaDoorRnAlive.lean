/- The walk of hindsightlaw05.alive. -/
import Derived.Test.YtfbknfdbfnklmaaDoorRnNum
namespace Go.Proofs.YtfbknfdbfnklmaaDoor
set_option linter.unusedSimpArgs false
open Go.RowKit

theorem al1 : nameV ⟨#[65, 98, 95, 49]⟩ = (⟨#[97, 98, 95, 49]⟩, 0) := by decide +kernel
theorem al2 : nameV ⟨#[49, 97]⟩ = (⟨#[]⟩, 3) := by decide +kernel
theorem al3 : unquoteS ⟨#[39, 105, 116, 39, 39, 115, 39]⟩ = (⟨#[105, 116, 39, 115]⟩, 0) := by decide +kernel
theorem al4 : numV ⟨#[57, 50, 50, 51, 51, 55, 50, 48, 51, 54, 56, 53, 52, 55, 55, 53, 56, 48, 56]⟩ = (0, 21) := by decide +kernel
theorem al5 : countV ⟨#[97, 195, 164, 226, 130, 172]⟩ = (3, 0) := by decide +kernel
theorem al6 : quoteS ⟨#[105, 116, 39, 115]⟩ = ⟨#[39, 105, 116, 39, 39, 115, 39]⟩ := by decide +kernel
theorem al7 : baL (Lib.itoa (-7)) = ⟨#[45, 55]⟩ := by
  unfold Lib.itoa
  rw [if_pos (by omega)]
  have : Lib.decDigits (Int.natAbs (-7)) = [55] := by
    rw [Lib.decDigits]; decide
  rw [this]; rfl

set_option maxHeartbeats 4000000 in
theorem alive5_any (w : World) (hT : Pre5 w) : Calls Tryd.prog 8 #[] w fun e w' => e = .returned (.bool true) ∧ Below w.heap.size w w' := by
  have H1 := Lib.hid (fun W => Name_any ⟨#[65, 98, 95, 49]⟩ W (by decide))
  have H2 := Lib.hid (fun W => Name_any ⟨#[49, 97]⟩ W (by decide))
  have H3 := Lib.hid (fun W (hb : Below w.heap.size w W) => Unquote_any ⟨#[39, 105, 116, 39, 39, 115, 39]⟩ W (hT.below hb) (by decide))
  have H4 := Lib.hid (fun W (hb : Below w.heap.size w W) => Number_any ⟨#[57, 50, 50, 51, 51, 55, 50, 48, 51, 54, 56, 53, 52, 55, 55, 53, 56, 48, 56]⟩ W (hT.below hb) (by decide))
  have H5 := Lib.hid (fun W (hb : Below w.heap.size w W) => Count_any ⟨#[97, 195, 164, 226, 130, 172]⟩ W (hT.below hb) (by decide))
  have H6 := Lib.hid (fun W (hb : Below w.heap.size w W) => Quote_any ⟨#[105, 116, 39, 115]⟩ W (hT.below hb) (by decide))
  have H7 := Lib.hid (fun W (hb : Below w.heap.size w W) => Digits_any (-7) W (hT.below hb) (by omega) (by omega))
  rw [al1] at H1
  rw [al2] at H2
  rw [al3] at H3
  rw [al4] at H4
  rw [al5] at H5
  rw [al6] at H6
  rw [al7] at H7
  clear hT
  go_enter Tryd.func8, Tryd.ntmps8
  go_wp2_with fail
  refine (H1.out _).mono ?_
  rintro e w1 ⟨rfl, b1⟩
  go_wp2_with fail
  refine (H2.out _).mono ?_
  rintro e w2 ⟨rfl, b2⟩
  replace b2 := b1.trans (b2.mono b1.size)
  clear b1
  go_wp2_with fail
  refine (H3.out _ b2).mono ?_
  rintro e w3 ⟨rfl, b3⟩
  replace b3 := b2.trans (b3.mono b2.size)
  clear b2
  go_wp2_with fail
  refine (H4.out _ b3).mono ?_
  rintro e w4 ⟨rfl, b4⟩
  replace b4 := b3.trans (b4.mono b3.size)
  clear b3
  go_wp2_with fail
  refine (H5.out _ b4).mono ?_
  rintro e w5 ⟨rfl, b5⟩
  replace b5 := b4.trans (b5.mono b4.size)
  clear b4
  go_wp2_with fail
  refine (H6.out _ b5).mono ?_
  rintro e w6 ⟨rfl, b6⟩
  replace b6 := b5.trans (b6.mono b5.size)
  clear b5
  go_wp2_with fail
  refine (H7.out _ b6).mono ?_
  rintro e w7 ⟨rfl, b7⟩
  replace b7 := b6.trans (b7.mono b6.size)
  clear b6
  go_wp2
  go_ret
  exact ⟨rfl, b7⟩
end Go.Proofs.YtfbknfdbfnklmaaDoor
