/- alive of layer 7. -/
import Derived.Test.YtaggghfnbllbgaaDk17
import Derived.KernelRfl
namespace Go.Proofs.Ytaggghfnbllbgaa
set_option linter.unusedSimpArgs false
open Go.RowKit

/-- A sector of one byte that is the call's own. -/
def RetSec (w : World) (c : Nat) (e : Ending) (w' : World) : Prop :=
  ∃ g, e = .returned (.slice (some ⟨g, 0, none⟩) 128 128) ∧ w.heap.size ≤ g ∧ Below w.heap.size w w' ∧ Bs w'.heap.size w' (some ⟨g, 0, none⟩) (List.replicate 128 c)
theorem Full_sec (c : Nat) (hc : c < 256) (w : World) : Calls Try.prog 27 #[.int .u8 (c : Int), .int .i64 0] w (RetSec w c) := by
  refine (Full_any c hc 0 w).mono ?_
  rintro e w' ⟨g, rfl, hg, hb, hB⟩
  exact ⟨g, by rw [List.length_replicate]; rfl, hg, hb, hB.bs (fun x hx => by have := List.eq_of_mem_replicate hx; omega)⟩

section
variable {w0 w : World} {B : Nat} {d d' : DS} {r : Nat}
theorem OWriteR (h : OwnD w0 w B d) (f s : Int) (c g : Nat) (hB : Bs w.heap.size w (some ⟨g, 0, none⟩) (List.replicate 128 c)) (hr : d.write f s (List.replicate 128 c) = (r, d')) (hcs : d.calls < 1000000000) (hwt : d.pend.length < 1000000000) :
    Calls Try.prog 22 #[.pointer (some ⟨B, 0, none⟩), .int .i64 f, .int .i64 s, .slice (some ⟨g, 0, none⟩) 128 128] w fun e w' => e = .returned (.int .i64 (r : Int)) ∧ OwnD w0 w' B d' := by
  have := OWrite h f s _ _ 128 128 _ hB (Nat.le_refl _) (by simp) (by omega) hcs hwt
  rw [hr] at this
  exact this
theorem OSyncR (h : OwnD w0 w B d) (f : Int) (hr : d.sync f = (r, d')) (hcs : d.calls < 1000000000) :
    Calls Try.prog 23 #[.pointer (some ⟨B, 0, none⟩), .int .i64 f] w fun e w' => e = .returned (.int .i64 (r : Int)) ∧ OwnD w0 w' B d' := by
  have := OSync h f hcs
  rw [hr] at this
  exact this
/-- A sector that is read. -/
def RetBs (w : World) (b : List Nat) (e : Ending) (w' : World) : Prop :=
  ∃ g, e = .returned (.tuple #[.slice (some ⟨g, 0, none⟩) 128 128, .int .i64 0]) ∧ w.heap.size ≤ g ∧ Below w.heap.size w w' ∧ SecOk b ∧ Blk w' g 93 (cellsB b).toArray
theorem OReadR (h : OwnD w0 w B d) (f s : Int) {b : List Nat} (hr : d.read f s = .ok b) :
    Calls Try.prog 21 #[.pointer (some ⟨B, 0, none⟩), .int .i64 f, .int .i64 s] w (RetBs w b) := by
  refine (ORead h f s).mono ?_
  rintro e w' ⟨hb, ⟨n, h1, _⟩ | ⟨b', g, h1, rfl, hg, hs, hB⟩⟩
  · rw [hr] at h1; cases h1
  · rw [hr] at h1
    obtain rfl : b = b' := by injection h1
    exact ⟨g, rfl, hg, hb, hs, hB⟩
end

def aF (c : Nat) : List Nat := List.replicate 128 c
def aD0 : DS := DS.new 3
def aD1 : DS := (aD0.write 0 3 (List.replicate 128 1)).2
def aD2 : DS := (aD1.write 0 1 (List.replicate 128 1)).2
def aD3 : DS := (aD2.sync 0).2
def aD4 : DS := (aD3.write 0 1 (List.replicate 128 2)).2
def aD5 : DS := (aD4.write 1 0 (List.replicate 128 3)).2
def aD6 : DS := aD5.crash [2]
theorem aE1 : aD0.write 0 3 (List.replicate 128 1) = (50, aD1) := by kernel_rfl
theorem aE2 : aD1.write 0 1 (List.replicate 128 1) = (0, aD2) := by kernel_rfl
theorem aE3 : aD2.sync 0 = (0, aD3) := by kernel_rfl
theorem aE4 : aD3.write 0 1 (List.replicate 128 2) = (0, aD4) := by kernel_rfl
theorem aE5 : aD4.write 1 0 (List.replicate 128 3) = (0, aD5) := by kernel_rfl
theorem aE7 : aD6.read 0 1 = .ok (List.replicate 128 1) := by kernel_rfl
theorem aE8 : aD6.read 1 0 = .ok (List.replicate 128 3) := by kernel_rfl
theorem aE9 : aD6.lenI 0 = 2 ∧ aD6.calls = 4 := by exact ⟨by kernel_rfl, by kernel_rfl⟩
theorem aEb : (aD0.calls = 0 ∧ aD0.pend.length = 0) ∧ (aD1.calls = 0 ∧ aD1.pend.length = 0) ∧ aD2.calls = 1 ∧ (aD3.calls = 2 ∧ aD3.pend.length = 0) ∧ (aD4.calls = 3 ∧ aD4.pend.length = 1) := by
  refine ⟨⟨?_, ?_⟩, ⟨?_, ?_⟩, ?_, ⟨?_, ?_⟩, ?_, ?_⟩ <;> kernel_rfl

set_option maxRecDepth 100000 in
set_option maxHeartbeats 4000000 in
theorem alive7_any (w : World) : Calls Try.prog 13 #[] w fun e w' => e = .returned (.bool true) ∧ Below w.heap.size w w' := by
  obtain ⟨⟨k0, p0⟩, ⟨k1, p1⟩, k2, ⟨k3, p3⟩, k4, p4⟩ := aEb
  have HN := Lib.hid (ONew 3 (by decide) w w (Below.refl _ _))
  have HF := Lib.hid Full_sec
  go_enter Try.func13, Try.ntmps13
  go_wp2_with fail
  refine HN.out.mono ?_
  rintro e w1 ⟨B, rfl, h1⟩
  have H : Hid (OwnD w w1 B aD0) := h1
  clear h1 HN
  go_wp2_with fail
  refine (HF.out 1 (by omega) w1).mono ?_
  rintro e w2 ⟨g2, rfl, hg2, b2, B2⟩
  go_wp2_with fail
  refine (OWriteR (H.out.below b2) 0 3 1 g2 B2 aE1 (by omega) (by omega)).mono ?_
  rintro e w3 ⟨rfl, h3⟩
  replace H := Lib.hid h3
  clear h3 b2 B2 hg2
  go_wp2_with fail
  refine (HF.out 1 (by omega) w3).mono ?_
  rintro e w2' ⟨g2, rfl, hg2, b2, B2⟩
  go_wp2_with fail
  refine (OWriteR (H.out.below b2) 0 1 1 g2 B2 aE2 (by omega) (by omega)).mono ?_
  rintro e w4 ⟨rfl, h3⟩
  replace H := Lib.hid h3
  clear h3 b2 B2 hg2
  go_wp2_with fail
  refine (OSyncR H.out 0 aE3 (by omega)).mono ?_
  rintro e w5 ⟨rfl, h3⟩
  replace H := Lib.hid h3
  clear h3
  go_wp2_with fail
  refine (HF.out 2 (by omega) w5).mono ?_
  rintro e w6 ⟨g2, rfl, hg2, b2, B2⟩
  go_wp2_with fail
  refine (OWriteR (H.out.below b2) 0 1 2 g2 B2 aE4 (by omega) (by omega)).mono ?_
  rintro e w7 ⟨rfl, h3⟩
  replace H := Lib.hid h3
  clear h3 b2 B2 hg2
  go_wp2_with fail
  refine (HF.out 3 (by omega) w7).mono ?_
  rintro e w8 ⟨g2, rfl, hg2, b2, B2⟩
  go_wp2_with fail
  refine (OWriteR (H.out.below b2) 1 0 3 g2 B2 aE5 (by omega) (by omega)).mono ?_
  rintro e w9 ⟨rfl, h3⟩
  replace H := Lib.hid h3
  clear h3 b2 B2 hg2
  have hbs : Bs (w9.heap.size + 1) (w9.alloc (.cells #[.int .u8 2] 5)) (some ⟨w9.heap.size, 0, none⟩) [2] :=
    ⟨by simp, .inr ⟨w9.heap.size, 0, rfl, by omega, fun i c hi => by
      rw [World.cell?_alloc_new, Nat.zero_add]
      match i, hi with
      | 0, hi => simp at hi; subst hi; rfl⟩⟩
  have HC := Lib.hid (OCrash (H.out.below ((Below.refl w9.heap.size w9).alloc (Nat.le_refl _) (.cells #[.int .u8 2] 5))) [2] _ 1 1 _ hbs (by simp) rfl (by omega))
  clear hbs
  go_wp2_with fail
  refine HC.out.mono ?_
  rintro e w10 ⟨rfl, h3⟩
  replace H : Hid (OwnD w w10 B aD6) := h3
  clear h3 HC
  go_wp2_with fail
  refine (OReadR H.out 0 1 aE7).mono ?_
  rintro e w11 ⟨g3, rfl, hg3, b3, -, B3⟩
  replace H := Lib.hid (H.out.below b3)
  go_wp2_with fail
  refine (OReadR H.out 1 0 aE8).mono ?_
  rintro e w12 ⟨g4, rfl, hg4, b4, -, B4⟩
  replace H := Lib.hid (H.out.below b4)
  have q3 : w12.cell? ⟨g3, 0, none⟩ = some (.int .u8 1) := (b4.cell (p := ⟨g3, 0, none⟩) B3.lt).trans ((B3.cell 0).trans (by kernel_rfl))
  have q4 : w12.cell? ⟨g4, 0, none⟩ = some (.int .u8 3) := (B4.cell 0).trans (by kernel_rfl)
  have HL := Lib.hid (OLen H.out 0)
  have HK := Lib.hid (OCalls H.out)
  rw [aE9.1] at HL
  rw [aE9.2] at HK
  clear b3 b4 B3 B4 hg3 hg4
  go_wp2_with (first | (refine HL.out.mono ?_; rintro e w' ⟨rfl, rfl⟩) | (refine HK.out.mono ?_; rintro e w' ⟨rfl, rfl⟩))
  go_ret
  exact ⟨rfl, H.out.1⟩
end Go.Proofs.Ytaggghfnbllbgaa
