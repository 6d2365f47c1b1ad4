/- Both disks, side by side. -/
import Derived.Test.YtaggghfnbllbgaaDr6
import Derived.Test.YtaggghfnbllbgaaDr8
import Derived.Test.YtaggghfnbllbgaaDOp
import Derived.Test.YtaggghfnbllbgaaDk18
namespace Go.Proofs.Ytaggghfnbllbgaa
set_option linter.unusedSimpArgs false
open Go.RowKit

theorem Twin.change {d : DS} {x : RS} (h : Twin d x) : x.change.2 = d.change.2 ∧ Twin d.change.1 x.change.1 := by
  have hp := h.plan
  unfold RS.change DS.change
  cases hl : d.left with
  | none =>
    rw [hl] at hp
    have h1 : x.plan = -1 := hp
    rw [if_neg (by omega), if_neg (by omega)]
    exact ⟨rfl, ⟨h.quota, by show x.calls + 1 = d.calls + 1; rw [h.calls], hp, h.down, h.pend, h.vget, h.vlen, h.dget, h.dlen, h.order⟩⟩
  | some n =>
    rw [hl] at hp
    have h1 : x.plan = (n : Int) := hp
    cases n with
    | zero =>
      rw [if_pos (by omega)]
      exact ⟨rfl, ⟨h.quota, h.calls, hp, rfl, h.pend, h.vget, h.vlen, h.dget, h.dlen, h.order⟩⟩
    | succ n =>
      rw [if_neg (by omega), if_pos (by omega)]
      refine ⟨rfl, ⟨h.quota, by show x.calls + 1 = d.calls + 1; rw [h.calls], ?_, h.down, h.pend, h.vget, h.vlen, h.dget, h.dlen, h.order⟩⟩
      show x.plan - 1 = ((n + 1 - 1 : Nat) : Int)
      omega

theorem Twin.write {d : DS} {x : RS} (h : Twin d x) (f s : Int) (b : List Nat) : (x.write f s b).1 = (d.write f s b).1 ∧ Twin (d.write f s b).2 (x.write f s b).2 := by
  obtain ⟨hc1, hc2⟩ := h.change
  unfold RS.write DS.write
  by_cases hbad : (f < 0 ∨ 2 ≤ f) ∨ s < 0 ∨ 65535 < s ∨ b.length ≠ 128
  · rw [if_pos hbad, if_pos (by omega)]; exact ⟨rfl, h⟩
  · rw [if_neg hbad, if_neg (by omega), h.down]
    cases hd : d.down with
    | true => exact ⟨rfl, h⟩
    | false =>
      rw [if_neg (show ¬ (false = true) by simp), if_neg (show ¬ (false = true) by simp)]
      have hfit : d.fits f.toNat s.toNat = false ↔ ((lenAt (allW x.L) f.toNat : Int) ≤ s ∧ x.quota < s + 1 + (lenAt (allW x.L) (1 - f.toNat) : Int)) := by
        unfold DS.fits
        rw [Bool.or_eq_false_iff, decide_eq_false_iff_not, decide_eq_false_iff_not, h.vlen, h.vlen, h.quota]
        omega
      by_cases hf : d.fits f.toNat s.toNat = false
      · rw [if_pos hf, if_pos (hfit.1 hf)]; exact ⟨rfl, h⟩
      · rw [if_neg hf, if_neg (fun e => hf (hfit.2 e))]
        rcases hcd : d.change with ⟨d', go⟩
        rcases hcx : x.change with ⟨x', go'⟩
        rw [hcd, hcx] at hc1 hc2
        simp only at hc1 hc2
        subst hc1
        cases go' with
        | false => exact ⟨rfl, hc2⟩
        | true => exact ⟨rfl, hc2.put _⟩
theorem Twin.sync {d : DS} {x : RS} (h : Twin d x) (f : Int) : (x.sync f).1 = (d.sync f).1 ∧ Twin (d.sync f).2 (x.sync f).2 := by
  obtain ⟨hc1, hc2⟩ := h.change
  unfold RS.sync DS.sync
  by_cases hbad : f < 0 ∨ 2 ≤ f
  · rw [if_pos hbad, if_pos (by omega)]; exact ⟨rfl, h⟩
  · rw [if_neg hbad, if_neg (by omega), h.down]
    cases hd : d.down with
    | true => exact ⟨rfl, h⟩
    | false =>
      rw [if_neg (show ¬ (false = true) by simp), if_neg (show ¬ (false = true) by simp)]
      rcases hcd : d.change with ⟨d', go⟩
      rcases hcx : x.change with ⟨x', go'⟩
      rw [hcd, hcx] at hc1 hc2
      simp only at hc1 hc2
      subst hc1
      cases go' with
      | false => exact ⟨rfl, hc2⟩
      | true => exact ⟨rfl, hc2.marked f.toNat⟩
theorem Twin.read {d : DS} {x : RS} (h : Twin d x) (f s : Int) : x.read f s = d.read f s := by
  unfold RS.read DS.read
  by_cases hbad : (f < 0 ∨ 2 ≤ f) ∨ s < 0
  · rw [if_pos hbad, if_pos (by omega)]
  · rw [if_neg hbad, if_neg (by omega), h.down, h.vlen, h.vget]
theorem RS.write_len (x : RS) (f s : Int) (b : List Nat) : (x.write f s b).2.L.length ≤ x.L.length + 1 := by
  unfold RS.write
  have hL := RS.change_L x
  rcases hcx : x.change with ⟨x', go⟩
  rw [hcx] at hL
  simp only at hL
  split
  · simp
  · split
    · simp
    · split
      · simp
      · cases go with
        | false => show x'.L.length ≤ _; rw [hL]; omega
        | true => show (x'.L ++ [_]).length ≤ _; rw [hL, List.length_append]; simp
theorem RS.sync_len (x : RS) (f : Int) : (x.sync f).2.L.length ≤ x.L.length + 1 := by
  unfold RS.sync
  have hL := RS.change_L x
  rcases hcx : x.change with ⟨x', go⟩
  rw [hcx] at hL
  simp only at hL
  split
  · simp
  · split
    · simp
    · cases go with
      | false => show x'.L.length ≤ _; rw [hL]; omega
      | true => show (x'.L.map _).length ≤ _; rw [hL, List.length_map]; omega
theorem DS.change_calls' (d : DS) : d.change.1.calls ≤ d.calls + 1 := by
  unfold DS.change
  split
  · show d.calls ≤ _; omega
  · exact Nat.le_refl _
theorem DS.write_calls (d : DS) (f s : Int) (b : List Nat) : (d.write f s b).2.calls ≤ d.calls + 1 := by
  unfold DS.write
  have hL := DS.change_calls' d
  rcases hcx : d.change with ⟨x', go⟩
  rw [hcx] at hL
  simp only at hL
  split
  · simp
  · split
    · simp
    · split
      · simp
      · cases go with
        | false => exact hL
        | true => exact hL
theorem DS.sync_calls (d : DS) (f : Int) : (d.sync f).2.calls ≤ d.calls + 1 := by
  unfold DS.sync
  have hL := DS.change_calls' d
  rcases hcx : d.change with ⟨x', go⟩
  rw [hcx] at hL
  simp only at hL
  split
  · simp
  · split
    · simp
    · cases go with
      | false => exact hL
      | true => exact hL
theorem crashL_len (keep : List Nat) : ∀ (L : List RWr) (i : Nat), (crashL keep L i).length ≤ L.length
  | [], i => by simp [crashL]
  | m :: L, i => by
    rw [crashL]
    have h1 := crashL_len keep L i
    have h2 := crashL_len keep L (i + 1)
    split
    · simp; omega
    · split
      · simp; omega
      · simp; omega
theorem pend_len {d : DS} {x : RS} (h : Twin d x) : d.pend.length ≤ x.L.length := by
  rw [h.pend, pendW, List.length_map]; exact List.length_filter_le _ _

/-- Both disks lie in the world w, which grew out of w0, in blocks that w0 had not, apart from each other. -/
structure Pair (w0 w : World) (B D : Nat) (d : DS) (x : RS) (S : List Nat) (lv : Value) (M : List MR) : Prop where
  bel : Below w0.heap.size w0 w
  disk : IsDisk w B S d
  ref : RefAt w D x lv M
  apart : ∀ k ∈ S, k ∉ footR D lv M
  sge : ∀ k ∈ S, w0.heap.size ≤ k
  rge : ∀ k ∈ footR D lv M, w0.heap.size ≤ k

section
variable {w0 w w' : World} {B D : Nat} {d d' : DS} {x x' : RS} {S : List Nat} {lv : Value} {M : List MR} {r : Nat} {e : Ending}
theorem Pair.below (h : Pair w0 w B D d x S lv M) (hb : Below w.heap.size w w') : Pair w0 w' B D d x S lv M :=
  ⟨h.bel.trans (hb.mono h.bel.size), h.disk.chg (T := []) (Below.chg0 hb []) (by simp), h.ref.below hb, h.apart, h.sge, h.rge⟩
theorem Pair.dstep (h : Pair w0 w B D d x S lv M) (hr : RetI w B S (r, d') e w') : e = .returned (.int .i64 (r : Int)) ∧ ∃ S', Pair w0 w' B D d' x S' lv M ∧ Chg S w w' := by
  obtain ⟨he, S', hI, hc, hf⟩ := hr
  refine ⟨he, S', ⟨h.bel.trans (hc.below h.bel.size h.sge), hI, h.ref.same (fun k hk => hc.block k (h.ref.lt k hk) (fun hm => h.apart k hm hk)), fun k hk hm => ?_, fun k hk => ?_, h.rge⟩, hc⟩
  · rcases hf k hk with h1 | h1
    · exact h.apart k h1 hm
    · have := h.ref.lt k hm
      omega
  · rcases hf k hk with h1 | h1
    · exact h.sge k h1
    · exact Nat.le_trans h.bel.size h1
theorem Pair.rstep' (h : Pair w0 w B D d x S lv M) {lv' : Value} {M' : List MR} (h1 : RefAt w' D x' lv' M') (h2 : Chg (D :: lv.ownBlock.toList) w w') (h3 : ∀ k ∈ footR D lv' M', k ∈ footR D lv M ∨ w.heap.size ≤ k) :
    Pair w0 w' B D d x' S lv' M' ∧ Chg (footR D lv M) w w' := by
  have hsub : ∀ k ∈ D :: lv.ownBlock.toList, k ∈ footR D lv M := fun k hk => by
    simp only [footR, List.mem_cons, List.mem_append] at hk ⊢
    rcases hk with hk | hk
    · exact .inl hk
    · exact .inr (.inl hk)
  have hc := h2.sub hsub
  refine ⟨⟨h.bel.trans (hc.below h.bel.size h.rge), h.disk.chg hc (fun k hk hm => h.apart k hk hm), h1, fun k hk hm => ?_, h.sge, fun k hk => ?_⟩, hc⟩
  · rcases h3 k hm with h4 | h4
    · exact h.apart k hk h4
    · have := h.disk.lt k hk
      omega
  · rcases h3 k hk with h4 | h4
    · exact h.rge k h4
    · exact Nat.le_trans h.bel.size h4
theorem Pair.rstep (h : Pair w0 w B D d x S lv M) (hr : RetR w D lv M (r, x') e w') : e = .returned (.int .i64 (r : Int)) ∧ ∃ lv' M', Pair w0 w' B D d x' S lv' M' ∧ Chg (footR D lv M) w w' := by
  obtain ⟨he, lv', M', h1, h2, h3⟩ := hr
  exact ⟨he, lv', M', h.rstep' h1 h2 h3⟩
/-- A number stored into the reference's own row. -/
theorem Pair.setN (h : Pair w0 w B D d x S lv M) (o : Nat) (u : Value) (hrow : (rowR x lv).setIfInBounds o u = rowR x' lv) (hL : x'.L = x.L) (hc : x'.calls = x.calls) (hp : -1 ≤ x'.plan ∧ x'.plan ≤ 9223372036854775807) (hq : 1 ≤ x'.quota ∧ x'.quota ≤ 65536) :
    Pair w0 (w.setCell ⟨D, o, none⟩ u) B D d x' S lv M := by
  have hch : Chg [D] w (w.setCell ⟨D, o, none⟩ u) := (Chg.refl _ _).setCell (.inl (by simp)) _
  have hR : RefAt (w.setCell ⟨D, o, none⟩ u) D x' lv M := by
    refine ⟨by rw [← hrow]; exact h.ref.blk.set_ o u, own_chg h.ref.row hch (fun g hg => ?_), hL.trans h.ref.list, fun m hm => ⟨own_chg (h.ref.bytes m hm).1 hch (fun g hg => ?_), (h.ref.bytes m hm).2⟩, h.ref.few, by rw [hc]; exact h.ref.calls, hp, hq⟩
    · simp only [List.mem_singleton]
      rintro rfl
      exact own_ne h.ref.row h.ref.blk (by decide) hg
    · simp only [List.mem_singleton]
      rintro rfl
      exact own_ne (h.ref.bytes m hm).1 h.ref.blk (by decide) hg
  exact (h.rstep' hR (hch.sub (by simp)) (fun k hk => .inl hk)).1
end
end Go.Proofs.Ytaggghfnbllbgaa
