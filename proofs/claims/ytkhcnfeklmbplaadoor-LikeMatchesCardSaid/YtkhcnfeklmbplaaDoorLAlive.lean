/- The walk of hindsightlaw06.alive. -/
import Derived.Test.YtkhcnfeklmbplaaDoorLComp
namespace Go.Proofs.YtkhcnfeklmbplaaDoor
open Go.RowKit

theorem full1 : fullV ⟨#[97, 37, 99]⟩ ⟨#[97, 98, 99]⟩ = (true, 0) := by decide +kernel
theorem full2 : fullV ⟨#[97, 95, 99]⟩ ⟨#[97, 99]⟩ = (false, 0) := by decide +kernel
theorem full3 : fullV ⟨#[37, 97, 37, 98]⟩ ⟨#[120, 97, 98, 97, 98]⟩ = (true, 0) := by decide +kernel
theorem full4 : fullV ⟨#[255]⟩ ⟨#[]⟩ = (false, 3) := by decide +kernel

set_option maxHeartbeats 2000000 in
theorem alive6_any (w : World) (hT : Tabs w) : Calls Tryd.prog 4 #[] w fun e w' => e = .returned (.bool true) ∧ Below w.heap.size w w' := by
  have H1 := Lib.hid (fun W (hb : Below w.heap.size w W) => Match_any ⟨#[97, 37, 99]⟩ ⟨#[97, 98, 99]⟩ W (hT.below hb) (by decide) (by decide))
  have H2 := Lib.hid (fun W (hb : Below w.heap.size w W) => Match_any ⟨#[97, 95, 99]⟩ ⟨#[97, 99]⟩ W (hT.below hb) (by decide) (by decide))
  have H3 := Lib.hid (fun W (hb : Below w.heap.size w W) => Match_any ⟨#[37, 97, 37, 98]⟩ ⟨#[120, 97, 98, 97, 98]⟩ W (hT.below hb) (by decide) (by decide))
  have H4 := Lib.hid (fun W (hb : Below w.heap.size w W) => Match_any ⟨#[255]⟩ ⟨#[]⟩ W (hT.below hb) (by decide) (by decide))
  rw [full1] at H1
  rw [full2] at H2
  rw [full3] at H3
  rw [full4] at H4
  clear hT
  go_enter Tryd.func4, Tryd.ntmps4
  go_wp2_with fail
  refine (H1.out _ (Below.refl _ _)).mono ?_
  rintro e w1 ⟨rfl, h1⟩
  go_wp2_with fail
  refine (H2.out _ h1).mono ?_
  rintro e w2 ⟨rfl, h2⟩
  replace h2 := h1.trans (h2.mono h1.size)
  clear h1
  go_wp2_with fail
  refine (H3.out _ h2).mono ?_
  rintro e w3 ⟨rfl, h3⟩
  replace h3 := h2.trans (h3.mono h2.size)
  clear h2
  go_wp2_with fail
  refine (H4.out _ h3).mono ?_
  rintro e w4 ⟨rfl, h4⟩
  replace h4 := h3.trans (h4.mono h3.size)
  clear h3
  go_wp2
  go_ret
  exact ⟨rfl, h4⟩
end Go.Proofs.YtkhcnfeklmbplaaDoor
