/- The walk of hindsightlaw03.alive. -/
import Derived.Test.YtipeinkogoghnaaRRead
import Derived.Test.YtipeinkogoghnaaRFrame
namespace Go.Proofs.Ytipeinkogoghnaa
open Go.RowKit

theorem write_one : writeV [⟨1, 1, ⟨#[]⟩⟩] = ([1, 1, 2], 0) := by
  have e : zigN 1 = 2 := by decide
  have h : encL [⟨1, 1, ⟨#[]⟩⟩] = [1, 2] := by
    unfold encL encV
    simp [e, putL_small (show 2 < 128 by omega)]
  have hr : rowOk [⟨1, 1, ⟨#[]⟩⟩] = true := by decide
  rw [writeV_good hr (by rw [h]; simp), h]; rfl

theorem read_two : readV [2, 0, 2, 1, 97] = ([⟨0, 0, ⟨#[]⟩⟩, ⟨2, 0, ⟨#[97]⟩⟩], 0) := by
  have h1 : decV [2, 0, 2, 1, 97] 1 = some (⟨0, 0, ⟨#[]⟩⟩, 2) := by rfl
  have h2 : decV [2, 0, 2, 1, 97] 2 = some (⟨2, 0, ⟨#[97]⟩⟩, 5) := by decide
  have h3 : readN [2, 0, 2, 1, 97] 1 2 = some ([⟨0, 0, ⟨#[]⟩⟩, ⟨2, 0, ⟨#[97]⟩⟩], 5) :=
    readN_step (readN_step (acc := []) (show readN [2, 0, 2, 1, 97] 1 0 = some ([], 1) from rfl) h1) h2
  rw [readV_go (c := 2) (p := 1) (by simp) (by decide) (by omega), h3]; rfl

theorem read_bad : readV [1, 4] = ([], 3) := by
  have h1 : decV [1, 4] 1 = none := by rfl
  rw [readV_go (c := 1) (p := 1) (by simp) (by decide) (by omega), readN_fail (acc := []) (q := 1) (i := 0) rfl h1]

theorem Vs.one (w : World) (x : Vl) (T : TypeId) : Vs (w.heap.size + 1) (w.alloc (.cells #[.int .u8 x.k, .int .i64 x.n, .string x.s] T)) (some ⟨w.heap.size, 0, none⟩) [x] := by
  refine .inr ⟨w.heap.size, 0, rfl, by omega, fun i y hi => ?_⟩
  match i, hi with
  | 0, hi =>
    simp at hi; subst hi
    refine ⟨?_, ?_, ?_⟩ <;> (rw [World.cell?_alloc_new]; rfl)

set_option maxHeartbeats 4000000 in
theorem alive3_any (w : World) : Calls Try.prog 22 #[] w fun e w' => e = .returned (.bool true) ∧ Below w.heap.size w w' := by
  go_enter Try.func22, Try.ntmps22
  go_wp2_with fail
  have hV := Vs.one w ⟨1, 1, ⟨#[]⟩⟩ 23
  have hW := Write_any [⟨1, 1, ⟨#[]⟩⟩] (some ⟨w.heap.size, 0, none⟩) 1 1 (w.alloc (.cells #[.int .u8 1, .int .i64 1, .string ⟨#[]⟩] 23)) (by simpa using hV) rfl (by omega) (by intro x hx; simp at hx; subst hx; exact ⟨by decide, by decide, by decide⟩)
  rw [write_one] at hW
  have hw1 : Below w.heap.size w (w.alloc (.cells #[.int .u8 1, .int .i64 1, .string ⟨#[]⟩] 23)) := Below.box _ _
  clear hV
  refine hW.mono ?_
  rintro e w2 ⟨a2, c2, rfl, hcap2, hB2, hb2⟩
  dsimp only at hB2
  replace hw1 := hw1.trans (hb2.mono hw1.size)
  have hz2 := hw1.size
  clear hW hb2 hcap2
  go_wp2_with fail
  have hR := Read_any [2, 0, 2, 1, 97] (some ⟨w2.heap.size, 0, none⟩) 5 5 (w2.alloc (.cells #[.int .u8 2, .int .u8 0, .int .u8 2, .int .u8 1, .int .u8 97] 5))
    (by simpa using Bs.new w2 [2, 0, 2, 1, 97] (by simp) #[.int .u8 2, .int .u8 0, .int .u8 2, .int .u8 1, .int .u8 97] 5 (by intro i c hi; match i, hi with | 0, hi => simp at hi; subst hi; rfl | 1, hi => simp at hi; subst hi; rfl | 2, hi => simp at hi; subst hi; rfl | 3, hi => simp at hi; subst hi; rfl | 4, hi => simp at hi; subst hi; rfl)) rfl (by omega) (by omega)
  rw [read_two] at hR
  have hbA := Below.box w2 (.cells #[.int .u8 2, .int .u8 0, .int .u8 2, .int .u8 1, .int .u8 97] 5)
  refine hR.mono ?_
  rintro e w4 ⟨a4, c4, rfl, hcap4, hV4, hb4⟩
  dsimp only at hV4
  have hb24 : Below w2.heap.size w2 w4 := hbA.trans (hb4.mono (by simp))
  have hB4 := (hB2.below hb24).mono hb24.size
  replace hw1 := hw1.trans (hb24.mono hz2)
  have hz4 := hw1.size
  clear hR hb4 hcap4 hbA hB2 hb24
  go_wp2_with fail
  have hR := Read_any [1, 4] (some ⟨w4.heap.size, 0, none⟩) 2 2 (w4.alloc (.cells #[.int .u8 1, .int .u8 4] 5))
    (by simpa using Bs.new w4 [1, 4] (by simp) #[.int .u8 1, .int .u8 4] 5 (by intro i c hi; match i, hi with | 0, hi => simp at hi; subst hi; rfl | 1, hi => simp at hi; subst hi; rfl)) rfl (by omega) (by omega)
  rw [read_bad] at hR
  have hbA := Below.box w4 (.cells #[.int .u8 1, .int .u8 4] 5)
  refine hR.mono ?_
  rintro e w6 ⟨a6, c6, rfl, hcap6, hV6, hb6⟩
  have hb46 : Below w4.heap.size w4 w6 := hbA.trans (hb6.mono (by simp))
  have hs := (hB4.below hb46).str 3 c2 rfl
  rw [show strN [1, 1, 2] = ⟨#[1, 1, 2]⟩ from by decide] at hs
  obtain ⟨b, o, rfl, hbN, hc⟩ := (hV4.below hb46).at_ (k := 1) (by simp)
  obtain ⟨d0, d1, d2⟩ := hc
  simp only [Nat.one_mul] at d0 d1 d2
  replace hw1 := hw1.trans (hb46.mono hz4)
  clear hR hb6 hcap6 hbA hV6 hV4 hB4
  go_wp2
  go_ret
  exact ⟨rfl, hw1⟩
end Go.Proofs.Ytipeinkogoghnaa
