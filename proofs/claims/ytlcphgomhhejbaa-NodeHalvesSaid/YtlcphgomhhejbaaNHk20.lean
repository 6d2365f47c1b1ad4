/- Several texts of one proof, one behind the other. -/
import Derived.Test.YtlcphgomhhejbaaNHk19
import Derived.Deep.Cut
import Derived.IntWalk

/- The reference's Halve: where there are too few keys. -/
namespace Go.Proofs.Ytlcphgomhhejbaa
open Go.RowKit

/-- A call hands back so many bytes. -/
def RetLn (w : World) (n : Nat) (e : Ending) (w' : World) : Prop := ∃ a cap, e = .returned (.slice a n cap) ∧ Below w.heap.size w w'
theorem RetOwn.ln {w : World} {l : List Nat} (e : Ending) (w' : World) (h : RetOwn w l e w') : RetLn w l.length e w' := by
  obtain ⟨v, rfl, _, h1, h2⟩ := h
  obtain ⟨a, cap, rfl, _, _, _⟩ := own_slice h1
  exact ⟨a, cap, rfl, h2⟩

set_option maxRecDepth 100000 in
set_option maxHeartbeats 16000000 in
theorem rHalveL_no (x : Rn) (m : RB) (w : World) (h : RAt w x m) (hl : x.leaf = true) (hno : ¬ (x.Ok ∧ 2 + 0 ≤ x.l.length)) (hbig : m.ll ≤ 60000) :
    Calls Try.prog 27 #[m.v true x.kid] w (RetRH w x) := by
  have HR := fun W (hb : Below w.heap.size w W) => rRight_any x m W (h.later hb)
  rw [hl] at HR
  have hcase : x.ok = false ∨ (x.ok = true ∧ m.ll < 2 + 0) := by
    by_cases ho : x.Ok
    · right
      refine ⟨Rn.ok_yes ho, ?_⟩
      have := h.hl
      rcases Nat.lt_or_ge m.ll (2 + 0) with h1 | h1
      · exact h1
      · exact absurd ⟨ho, by omega⟩ hno
    · left; exact Rn.ok_no ho
  have HX : Hid (∀ W, Below w.heap.size w W → RetRH w x (.returned (.tuple #[.agg #[.bool false, .int .i64 0, .slice none 0 0], .string ⟨#[]⟩, .agg #[.bool false, .int .i64 0, .slice none 0 0]])) W) :=
    fun W hb => ⟨zeroR, zeroR, ⟨#[]⟩, ⟨none, 0, 0⟩, ⟨none, 0, 0⟩, rfl, .inl ⟨by rw [show movedR x = 0 by unfold movedR; rw [hl]; rfl]; exact hno, rfl, rfl, rfl⟩, RAt_zero _, RAt_zero _, hb⟩
  clear h hno
  generalize x.ok = r at *
  obtain ⟨la, ll, lc⟩ := m
  obtain ⟨xf, kid, l⟩ := x
  simp only at *
  subst hl
  generalize RetRH w ⟨true, kid, l⟩ = RR at *
  have HR := Lib.hid HR
  have HB0 : Hid (Below w.heap.size w (((w.alloc (.cells #[.bool true, .int .i64 kid, .slice la ll lc] 32)).alloc (.cells #[.bool false, .int .i64 0, .slice none 0 0] 32)).alloc (.cells #[.bool false, .int .i64 0, .slice none 0 0] 32))) := (((Below.refl _ w).alloc (Nat.le_refl _) _).alloc (by simp) _).alloc (by simp; omega) _
  rcases hcase with hr | ⟨hr, hk⟩
  all_goals
    subst hr
    go_enter Try.func27, Try.ntmps27
    go_wp2_with fail
    refine (HR.out _ HB0.out).mono ?_
    rintro e w1 ⟨rfl, hb⟩
    have hbx : Below (w.heap.size + 3) _ w1 := hb.mono (by simp)
    have hbe := HB0.out.trans (hb.mono HB0.out.size)
    have hsz : w.heap.size + 1 + 1 < w1.heap.size := by have := hbx.size; simp at this; omega
    obtain ⟨hBa, hBb⟩ := three_blocks w (.cells #[.bool true, .int .i64 kid, .slice la ll lc] 32) 32 #[.bool false, .int .i64 0, .slice none 0 0]
    replace hBa := hBa.bel hbx (show w.heap.size + 1 < w.heap.size + 3 by omega)
    replace hBb := hBb.bel hbx (show w.heap.size + 1 + 1 < w.heap.size + 3 by omega)
    have r0 : w1.cell? ⟨w.heap.size + 1, 0, none⟩ = some (.bool false) := Blk.cell hBa 0
    have r1 : w1.cell? ⟨w.heap.size + 1, 1, none⟩ = some (.int .i64 0) := Blk.cell hBa 1
    have r2 : w1.cell? ⟨w.heap.size + 1, 2, none⟩ = some (.slice none 0 0) := Blk.cell hBa 2
    have f0 : w1.frozen? ⟨w.heap.size + 1, 0, none⟩ = false := Blk.frozen hBa 0
    have f1 : w1.frozen? ⟨w.heap.size + 1, 1, none⟩ = false := Blk.frozen hBa 1
    have f2 : w1.frozen? ⟨w.heap.size + 1, 2, none⟩ = false := Blk.frozen hBa 2
    have s0 : w1.cell? ⟨w.heap.size + 1 + 1, 0, none⟩ = some (.bool false) := Blk.cell hBb 0
    have s1 : w1.cell? ⟨w.heap.size + 1 + 1, 1, none⟩ = some (.int .i64 0) := Blk.cell hBb 1
    have s2 : w1.cell? ⟨w.heap.size + 1 + 1, 2, none⟩ = some (.slice none 0 0) := Blk.cell hBb 2
    have g0 : w1.frozen? ⟨w.heap.size + 1 + 1, 0, none⟩ = false := Blk.frozen hBb 0
    have g1 : w1.frozen? ⟨w.heap.size + 1 + 1, 1, none⟩ = false := Blk.frozen hBb 1
    have g2 : w1.frozen? ⟨w.heap.size + 1 + 1, 2, none⟩ = false := Blk.frozen hBb 2
    have HFin : Hid (∀ v0 v1 v2 u0 u1 u2, RR _ (set3 (set3 w1 (w.heap.size + 1) v0 v1 v2) (w.heap.size + 1 + 1) u0 u1 u2)) :=
      fun v0 v1 v2 u0 u1 u2 => HX.out _ (set3_below (set3_below hbe (Nat.le_add_right _ 1) _ _ _) (Nat.le_add_right _ 2) _ _ _)
    clear hb hbx hbe HX hBa hBb
    go_wp2
    refine bodyPost_ret (v := .tuple #[.agg #[.bool false, .int .i64 0, .slice none 0 0], .string ⟨#[]⟩, .agg #[.bool false, .int .i64 0, .slice none 0 0]]) (by simp [results, Try.results27, go_sem, r0, r1, r2, s0, s1, s2, hsz]) rfl (HFin.out _ _ _ _ _ _)

set_option maxRecDepth 100000 in
set_option maxHeartbeats 16000000 in
theorem rHalveI_no (x : Rn) (m : RB) (w : World) (h : RAt w x m) (hl : x.leaf = false) (hno : ¬ (x.Ok ∧ 2 + 1 ≤ x.l.length)) (hbig : m.ll ≤ 60000) :
    Calls Try.prog 27 #[m.v false x.kid] w (RetRH w x) := by
  have HR := fun W (hb : Below w.heap.size w W) => rRight_any x m W (h.later hb)
  rw [hl] at HR
  have hcase : x.ok = false ∨ (x.ok = true ∧ m.ll < 2 + 1) := by
    by_cases ho : x.Ok
    · right
      refine ⟨Rn.ok_yes ho, ?_⟩
      have := h.hl
      rcases Nat.lt_or_ge m.ll (2 + 1) with h1 | h1
      · exact h1
      · exact absurd ⟨ho, by omega⟩ hno
    · left; exact Rn.ok_no ho
  have HX : Hid (∀ W, Below w.heap.size w W → RetRH w x (.returned (.tuple #[.agg #[.bool false, .int .i64 0, .slice none 0 0], .string ⟨#[]⟩, .agg #[.bool false, .int .i64 0, .slice none 0 0]])) W) :=
    fun W hb => ⟨zeroR, zeroR, ⟨#[]⟩, ⟨none, 0, 0⟩, ⟨none, 0, 0⟩, rfl, .inl ⟨by rw [show movedR x = 1 by unfold movedR; rw [hl]; rfl]; exact hno, rfl, rfl, rfl⟩, RAt_zero _, RAt_zero _, hb⟩
  clear h hno
  generalize x.ok = r at *
  obtain ⟨la, ll, lc⟩ := m
  obtain ⟨xf, kid, l⟩ := x
  simp only at *
  subst hl
  generalize RetRH w ⟨false, kid, l⟩ = RR at *
  have HR := Lib.hid HR
  have HB0 : Hid (Below w.heap.size w (((w.alloc (.cells #[.bool false, .int .i64 kid, .slice la ll lc] 32)).alloc (.cells #[.bool false, .int .i64 0, .slice none 0 0] 32)).alloc (.cells #[.bool false, .int .i64 0, .slice none 0 0] 32))) := (((Below.refl _ w).alloc (Nat.le_refl _) _).alloc (by simp) _).alloc (by simp; omega) _
  rcases hcase with hr | ⟨hr, hk⟩
  all_goals
    subst hr
    go_enter Try.func27, Try.ntmps27
    go_wp2_with fail
    refine (HR.out _ HB0.out).mono ?_
    rintro e w1 ⟨rfl, hb⟩
    have hbx : Below (w.heap.size + 3) _ w1 := hb.mono (by simp)
    have hbe := HB0.out.trans (hb.mono HB0.out.size)
    have hsz : w.heap.size + 1 + 1 < w1.heap.size := by have := hbx.size; simp at this; omega
    obtain ⟨hBa, hBb⟩ := three_blocks w (.cells #[.bool false, .int .i64 kid, .slice la ll lc] 32) 32 #[.bool false, .int .i64 0, .slice none 0 0]
    replace hBa := hBa.bel hbx (show w.heap.size + 1 < w.heap.size + 3 by omega)
    replace hBb := hBb.bel hbx (show w.heap.size + 1 + 1 < w.heap.size + 3 by omega)
    have r0 : w1.cell? ⟨w.heap.size + 1, 0, none⟩ = some (.bool false) := Blk.cell hBa 0
    have r1 : w1.cell? ⟨w.heap.size + 1, 1, none⟩ = some (.int .i64 0) := Blk.cell hBa 1
    have r2 : w1.cell? ⟨w.heap.size + 1, 2, none⟩ = some (.slice none 0 0) := Blk.cell hBa 2
    have f0 : w1.frozen? ⟨w.heap.size + 1, 0, none⟩ = false := Blk.frozen hBa 0
    have f1 : w1.frozen? ⟨w.heap.size + 1, 1, none⟩ = false := Blk.frozen hBa 1
    have f2 : w1.frozen? ⟨w.heap.size + 1, 2, none⟩ = false := Blk.frozen hBa 2
    have s0 : w1.cell? ⟨w.heap.size + 1 + 1, 0, none⟩ = some (.bool false) := Blk.cell hBb 0
    have s1 : w1.cell? ⟨w.heap.size + 1 + 1, 1, none⟩ = some (.int .i64 0) := Blk.cell hBb 1
    have s2 : w1.cell? ⟨w.heap.size + 1 + 1, 2, none⟩ = some (.slice none 0 0) := Blk.cell hBb 2
    have g0 : w1.frozen? ⟨w.heap.size + 1 + 1, 0, none⟩ = false := Blk.frozen hBb 0
    have g1 : w1.frozen? ⟨w.heap.size + 1 + 1, 1, none⟩ = false := Blk.frozen hBb 1
    have g2 : w1.frozen? ⟨w.heap.size + 1 + 1, 2, none⟩ = false := Blk.frozen hBb 2
    have HFin : Hid (∀ v0 v1 v2 u0 u1 u2, RR _ (set3 (set3 w1 (w.heap.size + 1) v0 v1 v2) (w.heap.size + 1 + 1) u0 u1 u2)) :=
      fun v0 v1 v2 u0 u1 u2 => HX.out _ (set3_below (set3_below hbe (Nat.le_add_right _ 1) _ _ _) (Nat.le_add_right _ 2) _ _ _)
    clear hb hbx hbe HX hBa hBb
    go_wp2
    refine bodyPost_ret (v := .tuple #[.agg #[.bool false, .int .i64 0, .slice none 0 0], .string ⟨#[]⟩, .agg #[.bool false, .int .i64 0, .slice none 0 0]]) (by simp [results, Try.results27, go_sem, r0, r1, r2, s0, s1, s2, hsz]) rfl (HFin.out _ _ _ _ _ _)
end Go.Proofs.Ytlcphgomhhejbaa

/- The reference's Halve: of a leaf. -/
namespace Go.Proofs.Ytlcphgomhhejbaa
open Go.RowKit

set_option maxRecDepth 100000 in
set_option maxHeartbeats 16000000 in
theorem rHalveL_yes (x : Rn) (m : RB) (w : World) (h : RAt w x m) (hl : x.leaf = true) (hok : x.Ok) (hlen : 2 + 0 ≤ x.l.length) (hbig : m.ll ≤ 60000) :
    Calls Try.prog 27 #[m.v true x.kid] w (RetRH w x) := by
  have HR := fun W (hb : Below w.heap.size w W) => rRight_any x m W (h.later hb)
  rw [hl] at HR
  obtain ⟨iP, hiP, hzP, hsP, hbP⟩ := info_parts info_part
  rw [Rn.ok_yes hok] at HR
  have HR := Lib.hid HR
  have hll := h.hl
  have HX : Hid (∀ (i : Nat) (p : Pt) (ma mb : RB) W, IsShare x (m.ll - 1 - 0) i → x.l[i]? = some p → RAt W (halfA x i) ma → RAt W (halfB x i p) mb → Below w.heap.size w W → RetRH w x (.returned (.tuple #[ma.v (halfA x i).leaf (halfA x i).kid, .string p.key, mb.v (halfB x i p).leaf (halfB x i p).kid])) W) := by
    intro i p ma mb W h1 h2 h3 h4 hb
    refine ⟨_, _, _, ma, mb, rfl, .inr ⟨hok, by rw [show movedR x = 0 by unfold movedR; rw [hl]; rfl]; exact hlen, i, p, ?_, rfl, h2, rfl, rfl⟩, h3, h4, hb⟩
    rw [show movedR x = 0 by unfold movedR; rw [hl]; rfl, ← hll]; exact h1
  have HBn : Hid (∀ W, Below w.heap.size w W → Calls Try.prog 14 #[m.v x.leaf x.kid] W (RetLn W (encN x).length)) := fun W hb => (rBytes_any x m W (h.later hb) hok hbig).mono (RetOwn.ln)
  have HBa : Hid (∀ (k : Nat) (ma : RB) W, 1 ≤ k → RAt W ⟨x.leaf, x.kid, x.l.take k⟩ ma → ma.ll ≤ 60000 → Calls Try.prog 14 #[ma.v x.leaf x.kid] W (RetLn W (lenTo x k))) := by
    intro k ma W hk hat hb
    have := (rBytes_any ⟨x.leaf, x.kid, x.l.take k⟩ ma W hat (hok.take hk) hb).mono (RetOwn.ln)
    rw [encN_take] at this
    exact this
  have HOk := Lib.hid hok
  have HArr := Lib.hid h.arr
  have HFair := Lib.hid h.fair
  have hcap := h.cap
  have hkid := h.kid
  have HLL := Lib.hid hll
  have hE := lenTo_bd hok x.l.length (Nat.le_refl _)
  rw [lenTo_all] at hE
  have HBd := Lib.hid (fun i hi => lenTo_bd hok i hi)
  have HKidB : Hid (∀ p ∈ x.l, -9223372036854775808 ≤ p.page ∧ p.page ≤ 9223372036854775807) := fun p hp => (h.fair p hp).2.2.2
  clear h hok
  obtain ⟨la, ll, lc⟩ := m
  obtain ⟨xf, kid, l⟩ := x
  simp only at *
  subst hl
  obtain ⟨b, o, rfl, hbw, -⟩ := partAt HArr.out (k := 0) (by have := HLL.out; omega)
  generalize hRR : RetRH w ⟨true, kid, l⟩ = RR at *
  clear hRR
  have hl2 : 2 + 0 ≤ ll := by omega
  have hE2 : (encN ⟨true, kid, l⟩).length ≤ 14000000 := by omega
  clear hE hll hlen
  have HB0 : Hid (Below w.heap.size w (((w.alloc (.cells #[.bool true, .int .i64 kid, .slice (some ⟨b, o, none⟩) ll lc] 32)).alloc (.cells #[.bool false, .int .i64 0, .slice none 0 0] 32)).alloc (.cells #[.bool false, .int .i64 0, .slice none 0 0] 32))) := (((Below.refl _ w).alloc (Nat.le_refl _) _).alloc (by simp) _).alloc (by simp; omega) _
  have q1 : decide ((ll : Int) - 1 < 1) = false := by simp; omega
  go_enter Try.func27, Try.ntmps27
  go_wp2_with fail
  refine (HR.out _ HB0.out).mono ?_
  rintro e w1 ⟨rfl, hb⟩
  have hbx : Below (w.heap.size + 3) _ w1 := hb.mono (by simp)
  have hbe := HB0.out.trans (hb.mono HB0.out.size)
  have hsz : w.heap.size + 1 + 1 < w1.heap.size := by have := hbx.size; simp at this; omega
  obtain ⟨hBa, hBb⟩ := three_blocks w (.cells #[.bool true, .int .i64 kid, .slice (some ⟨b, o, none⟩) ll lc] 32) 32 #[.bool false, .int .i64 0, .slice none 0 0]
  replace hBa := hBa.bel hbx (show w.heap.size + 1 < w.heap.size + 3 by omega)
  replace hBb := hBb.bel hbx (show w.heap.size + 1 + 1 < w.heap.size + 3 by omega)
  have hBx : Blk w1 w.heap.size 32 #[.bool true, .int .i64 kid, .slice (some ⟨b, o, none⟩) ll lc] := (((Blk.new w 32 #[.bool true, .int .i64 kid, .slice (some ⟨b, o, none⟩) ll lc]).alloc _).alloc _).bel hbx (by omega)
  have x0 : w1.cell? ⟨w.heap.size, 0, none⟩ = some (.bool true) := hBx.cell 0
  have x1 : w1.cell? ⟨w.heap.size, 1, none⟩ = some (.int .i64 kid) := hBx.cell 1
  have hxl := hBx.lt
  have HI0 : Hid (RHv w (w1.alloc (.cells #[.bool true, .int .i64 kid, .slice none 0 0] 32)) #[.bool true, .int .i64 kid, .slice (some ⟨b, o, none⟩) ll lc] w1.heap.size true kid l none 0 0) :=
    ⟨hBx.alloc _, hBa.alloc _, hBb.alloc _, Blk.new w1 _ _, World.ownsRow_nil _ _ _ _, hbe.trans ((Below.refl _ w1).alloc (Nat.le_refl _) _ |>.mono hbe.size), hsz⟩
  clear hb hbx hbe hBa hBb hBx HR HB0
  have hab := hsz
  obtain ⟨ab, hABe⟩ : ∃ ab, w1.heap.size = ab := ⟨_, rfl⟩
  rw [hABe] at HI0 hab
  have HABe := Lib.hid hABe
  have HLk0 : Hid (∀ W aa k ac, RHv w W #[.bool true, .int .i64 kid, .slice (some ⟨b, o, none⟩) ll lc] ab true kid l aa k ac → lackR W ab (ll + 1) = ll + 1 - k) := by
    intro W aa k ac hR
    unfold lackR
    rw [(hR.av.cell 2).trans rfl]
    rfl
  clear hsz
  go_upto_region 7 with (fail)
  obtain ⟨last, hlast⟩ : ∃ last : Nat, (ll : Int) - 1 = (last : Int) := ⟨ll - 1 - 0, by omega⟩
  rw [hlast]
  have hlastN : last = ll - 1 - 0 := by omega
  have hlast1 : 1 ≤ last := by omega
  have hlastl : last + 1 + 0 = ll := by omega
  rw [← hlastN] at HX
  have HLastl := Lib.hid hlastl
  clear hlast hlastN hlastl x0 x1 hxl q1
  go_loopw [36] (fun _ wr => ∃ (k : Nat) (aa : Option Addr) (ac : Nat), k ≤ last ∧ Hid (1 ≤ k → IsUp ⟨true, kid, l⟩ last k) ∧ Hid (RHv w wr #[.bool true, .int .i64 kid, .slice (some ⟨b, o, none⟩) ll lc] ab true kid l aa k ac)) (fun _ wr => lackR wr ab (ll + 1))
  case atStart => exact ⟨0, none, 0, by omega, fun h => absurd h (by omega), HI0⟩
  case round =>
    obtain ⟨k, aa, ac, hk, HUp, HI⟩ := hrel
    have hkll : k < ll := by have := HLastl.out; omega
    have hkl : k < l.length := by have := HLL.out; omega
    have hT : lenTo ⟨true, kid, l⟩ k ≤ 14000000 := by have := HBd.out k (by omega); omega
    have HTk : Hid (∀ T, lenTo ⟨true, kid, l⟩ k = T → Hid (lenTo ⟨true, kid, l⟩ k = T)) := fun T h => h
    have HRa : Hid (RAt wr ⟨true, kid, l.take k⟩ ⟨aa, k, ac⟩) := HI.out.rat (Nat.le_of_lt hkl) (by omega) hkid HFair.out
    obtain ⟨T, hTT⟩ : ∃ T, lenTo ⟨true, kid, l⟩ k = T := ⟨_, rfl⟩
    obtain ⟨E, hEE⟩ : ∃ E, (encN ⟨true, kid, l⟩).length = E := ⟨_, rfl⟩
    have HBak : Hid (1 ≤ k → ∀ W, Later wr W → Calls Try.prog 14 #[.agg #[.bool true, .int .i64 kid, .slice aa k ac]] W (RetLn W T)) := by
      intro h1 W hW
      have := HBa.out k ⟨aa, k, ac⟩ W h1 (HRa.out.later hW) (by simp only; omega)
      rw [hTT] at this
      exact this
    have HBnk : Hid (∀ W, Later wr W → Calls Try.prog 14 #[.agg #[.bool true, .int .i64 kid, .slice (some ⟨b, o, none⟩) ll lc]] W (RetLn W E)) := by
      intro W hW
      have := HBn.out W (HI.out.bel.trans (Below.mono hW HI.out.bel.size))
      rw [hEE] at this
      exact this
    rw [hTT] at hT
    rw [hEE] at hE2
    have HTT := Lib.hid hTT
    have HEE := Lib.hid hEE
    clear hTT hEE HTk
    have D : Hid (∀ W, Later wr.drew W → (W.cell? ⟨ab, 0, none⟩ = some (.bool true) ∧ W.cell? ⟨ab, 1, none⟩ = some (.int .i64 kid) ∧ W.cell? ⟨ab, 2, none⟩ = some (.slice aa k ac)) ∧ W.cell? ⟨w.heap.size, 0, none⟩ = some (.bool true) ∧ W.cell? ⟨w.heap.size, 1, none⟩ = some (.int .i64 kid) ∧ W.cell? ⟨w.heap.size, 2, none⟩ = some (.slice (some ⟨b, o, none⟩) ll lc)) := by
      intro W hW
      have h1 := HI.out.lat (Later.undrew hW)
      exact ⟨⟨h1.av.cell 0, h1.av.cell 1, h1.av.cell 2⟩, h1.box.cell 0, h1.box.cell 1, h1.box.cell 2⟩
    have d0 : ∀ W, Later wr.drew W → W.cell? ⟨ab, 0, none⟩ = some (.bool true) := fun W h => (D.out W h).1.1
    have d1 : ∀ W, Later wr.drew W → W.cell? ⟨ab, 1, none⟩ = some (.int .i64 kid) := fun W h => (D.out W h).1.2.1
    have d2 : ∀ W, Later wr.drew W → W.cell? ⟨ab, 2, none⟩ = some (.slice aa k ac) := fun W h => (D.out W h).1.2.2
    have d3 : ∀ W, Later wr.drew W → W.cell? ⟨w.heap.size, 0, none⟩ = some (.bool true) := fun W h => (D.out W h).2.1
    have d4 : ∀ W, Later wr.drew W → W.cell? ⟨w.heap.size, 1, none⟩ = some (.int .i64 kid) := fun W h => (D.out W h).2.2.1
    have d5 : ∀ W, Later wr.drew W → W.cell? ⟨w.heap.size, 2, none⟩ = some (.slice (some ⟨b, o, none⟩) ll lc) := fun W h => (D.out W h).2.2.2
    have hw2 : IntKind.i64.wrap ((2 : Int) * (T : Int)) = (2 : Int) * (T : Int) := IntWalk.i64_in _ ⟨by omega, by omega⟩
    have Lwr : Hid (Later wr wr.drew) := (Below.refl _ _).drew
    by_cases hkL : k < last
    · by_cases hk0 : k = 0
      · have d2 : ∀ W, Later wr.drew W → W.cell? ⟨ab, 2, none⟩ = some (.slice aa 0 ac) := fun W h => by rw [← hk0]; exact d2 W h
        have HK0 := Lib.hid hk0
        have hlast0 : 0 < last := hlast1
        rename ∀ W, Later wr.drew W → W.cell? ⟨ab, 2, none⟩ = some (.slice aa k ac) => d2old
        clear hk0 d2old
        go_wp2_with fail
        refine wp_region_ord [(0, true), (1, true), (2, true), (3, true), (4, true), (5, true), (6, true), (7, true), (8, true), (9, true), (10, true), (11, true), (15, true), (12, false), (13, true), (14, true), (16, false), (17, true), (18, true), (19, true), (20, true)] (by kernel_rfl) (by kernel_rfl) (by kernel_rfl) (by kernel_rfl) ?_
        repeat (first | (refine wpO_F (v := ?_) rfl (by rfl) (fun w' hL => ?_) ?_; rotate_left; (solve | (go_simp; with_reducible rfl) | go_simp); try simp only [Act.put, List.setIfInBounds_toArray, List.set_cons_zero, List.set_cons_succ]) | (refine wpO_G rfl (by rfl) ?_; try simp only [Act.put, List.setIfInBounds_toArray, List.set_cons_zero, List.set_cons_succ]))
        refine wpO_nil ?_
        clear d0 d1 d2 d3 d4 d5 D hw2
        have HX8 := Lib.hid (HI.out.lat Lwr.out)
        have HU8 : Hid (IsUp ⟨true, kid, l⟩ last (k + 1)) := by rw [HK0.out]; exact IsUp.one hlast1
        obtain ⟨Y, hY⟩ : ∃ Y, wr.drew = Y := ⟨_, rfl⟩
        rw [hY] at HX8
        rw [hY]
        clear hY
        have hS1 : ab ∉ (Value.slice aa k ac).ownBlock.toList := fun hm => own_ne HX8.out.row HX8.out.av (by decide) (by rw [Option.mem_toList] at hm; exact hm)
        have hS2 : w.heap.size ∉ (Value.slice aa k ac).ownBlock.toList := fun hm => own_ne HX8.out.row HX8.out.box (by decide) (by rw [Option.mem_toList] at hm; exact hm)
        have hS3 : b ∉ (Value.slice aa k ac).ownBlock.toList := by
          intro hm
          rw [Option.mem_toList] at hm
          have h1 := (HX8.out.row.lt _ hm).1
          have h2 := HX8.out.ablt
          omega
        have hx := List.getElem?_eq_getElem hkl
        obtain ⟨b', o', he, hb', c0, c1, c2, c3⟩ := partAt HArr.out hkl
        simp only [Option.some.injEq, Addr.mk.injEq, and_true] at he
        obtain ⟨rfl, rfl⟩ := he
        have HXk := Lib.hid hx
        obtain ⟨⟨xk, xl, xd, xp⟩, hxx⟩ : ∃ x, l[k] = x := ⟨_, rfl⟩
        rw [hxx] at c0 c1 c2 c3 HXk
        clear hx hxx
        simp only at c0 c1 c2 c3
        have hbY : b < Y.heap.size := Nat.lt_of_lt_of_le hbw HX8.out.bel.size
        have e0 : ∀ W, Chg (Value.slice aa k ac).ownBlock.toList Y.drew W → W.cell? ⟨ab, 2, none⟩ = some (.slice aa k ac) := fun W h => (h.undrew.cell HX8.out.av.lt hS1).trans (HX8.out.av.cell 2)
        have e1 : ∀ W, Chg (Value.slice aa k ac).ownBlock.toList Y.drew W → W.cell? ⟨w.heap.size, 2, none⟩ = some (.slice (some ⟨b, o, none⟩) ll lc) := fun W h => (h.undrew.cell HX8.out.box.lt hS2).trans (HX8.out.box.cell 2)
        have e2 : ∀ W, Chg (Value.slice aa k ac).ownBlock.toList Y.drew W → W.cell? ⟨b, o + k * 4, none⟩ = some (.string xk) := fun W h => (h.undrew.cell hbY hS3).trans ((HX8.out.bel.cell (p := ⟨b, o + k * 4, none⟩) hbw).trans c0)
        have e3 : ∀ W, Chg (Value.slice aa k ac).ownBlock.toList Y.drew W → W.cell? ⟨b, o + k * 4 + 1, none⟩ = some (.int .i64 xl) := fun W h => (h.undrew.cell hbY hS3).trans ((HX8.out.bel.cell (p := ⟨b, o + k * 4 + 1, none⟩) hbw).trans c1)
        have e4 : ∀ W, Chg (Value.slice aa k ac).ownBlock.toList Y.drew W → W.cell? ⟨b, o + k * 4 + 2, none⟩ = some (.string xd) := fun W h => (h.undrew.cell hbY hS3).trans ((HX8.out.bel.cell (p := ⟨b, o + k * 4 + 2, none⟩) hbw).trans c2)
        have e5 : ∀ W, Chg (Value.slice aa k ac).ownBlock.toList Y.drew W → W.cell? ⟨b, o + k * 4 + 3, none⟩ = some (.int .i64 xp) := fun W h => (h.undrew.cell hbY hS3).trans ((HX8.out.bel.cell (p := ⟨b, o + k * 4 + 3, none⟩) hbw).trans c3)
        go_wp2_with fail
        refine wp_region_ordX (Value.slice aa k ac).ownBlock.toList 12 [(0, true), (1, true), (2, true), (3, true), (4, true), (5, true), (6, true), (7, true), (8, true), (9, false), (10, false), (11, true)] (by kernel_rfl) (by kernel_rfl) (by kernel_rfl) (by kernel_rfl) ?_
        repeat (first | ((refine wpOX_F rfl (by rfl) (fun w' hL => exec_load rfl rfl (e0 w' hL)) ?_); try simp only [Act.put, List.setIfInBounds_toArray, List.set_cons_zero, List.set_cons_succ]) | ((refine wpOX_F rfl (by rfl) (fun w' hL => exec_load rfl rfl (e1 w' hL)) ?_); try simp only [Act.put, List.setIfInBounds_toArray, List.set_cons_zero, List.set_cons_succ]) | ((refine wpOX_F rfl (by rfl) (fun w' hL => exec_load rfl rfl (e2 w' hL)) ?_); try simp only [Act.put, List.setIfInBounds_toArray, List.set_cons_zero, List.set_cons_succ]) | ((refine wpOX_F rfl (by rfl) (fun w' hL => exec_load rfl rfl (e3 w' hL)) ?_); try simp only [Act.put, List.setIfInBounds_toArray, List.set_cons_zero, List.set_cons_succ]) | ((refine wpOX_F rfl (by rfl) (fun w' hL => exec_load rfl rfl (e4 w' hL)) ?_); try simp only [Act.put, List.setIfInBounds_toArray, List.set_cons_zero, List.set_cons_succ]) | ((refine wpOX_F rfl (by rfl) (fun w' hL => exec_load rfl rfl (e5 w' hL)) ?_); try simp only [Act.put, List.setIfInBounds_toArray, List.set_cons_zero, List.set_cons_succ]) | (refine wpOX_F (v := ?_) rfl (by rfl) (fun w' hL => ?_) ?_; rotate_left; (solve | (go_simp; with_reducible rfl) | go_simp); try simp only [Act.put, List.setIfInBounds_toArray, List.set_cons_zero, List.set_cons_succ]) | (refine wpOX_G (Chg.refl _) rfl (by rfl) ?_; try simp only [Act.put, List.setIfInBounds_toArray, List.set_cons_zero, List.set_cons_succ]))
        refine wpOX_C rfl (by rfl) ?_
        go_simp
        refine ⟨(Chg.refl _ _).alloc _, ?_⟩
        try simp only [Act.put, List.setIfInBounds_toArray, List.set_cons_zero, List.set_cons_succ]
        have hX9 := HX8.out.lat ((Below.refl _ _).drew : Later Y Y.drew)
        refine wpOX_C rfl (by rfl) ?_
        refine wp_appC (.tmp 54) (.tmp 62) 30 rfl (ab + 1) 65 iP (.agg #[.string ⟨#[]⟩, .int .i64 0, .string ⟨#[]⟩, .int .i64 0]) 4 48 Try.underlying30 hiP hzP rfl hsP (by omega) hbP (by omega) (.slice aa k ac) k _ [.string xk, .int .i64 xl, .string xd, .int .i64 xp] Y.drew hX9.row rfl _ rfl rfl (by simp [Value.oneCell']) rfl (by omega) (by have := hX9.av.lt; omega) ?_
        intro v' x2 hk2 hc2 hsz2
        refine ⟨hc2, ?_⟩
        try simp only [Act.put, List.setIfInBounds_toArray, List.set_cons_zero, List.set_cons_succ]
        obtain ⟨aa2, ac2, rfl, _, _, _⟩ := own_slice hk2
        obtain ⟨hInv, u1, u2, u3⟩ := hX9.add HXk.out hk2 hc2
        have HInv := Lib.hid hInv
        have HLk2 : Hid (lackR (x2.setCell ⟨ab, 2, none⟩ (.slice aa2 (k + 1) ac2)) ab (ll + 1) = ll + 1 - (k + 1)) := HLk0.out _ _ _ _ hInv
        have HLk1 : Hid (lackR wr ab (ll + 1) = ll + 1 - k) := HLk0.out _ _ _ _ HI.out
        clear hX9 hInv hk2 hc2 hsz2
        repeat (first | ((refine wpOX_F rfl (by rfl) (fun w' hL => exec_load rfl rfl (e0 w' hL)) ?_); try simp only [Act.put, List.setIfInBounds_toArray, List.set_cons_zero, List.set_cons_succ]) | (refine wpOX_F (v := ?_) rfl (by rfl) (fun w' hL => ?_) ?_; rotate_left; (solve | (go_simp; with_reducible rfl) | go_simp); try simp only [Act.put, List.setIfInBounds_toArray, List.set_cons_zero, List.set_cons_succ]) | (refine wpOX_G (Chg.refl _) rfl (by rfl) ?_; try simp only [Act.put, List.setIfInBounds_toArray, List.set_cons_zero, List.set_cons_succ]))
        refine wpOX_end rfl (by rfl) ?_
        go_simp
        simp only [NoPanic]
        clear e0 e1 e2 e3 e4 e5 c0 c1 c2 c3 u1 u2 u3 hS1 hS2 hS3
        generalize (x2.setCell ⟨ab, 2, none⟩ (.slice aa2 (k + 1) ac2)) = X3 at *
        go_wp2
        go_roundw
        case rel => exact ⟨k + 1, aa2, ac2, by omega, fun _ => HU8.out, HInv⟩
        case measure => rw [HLk2.out, HLk1.out]; omega
      · have hk1 : 1 ≤ k := by omega
        have q0 : ((k : Int) == 0) = false := by simp; omega
        by_cases h2 : 2 * T < E
        · have q2 : decide ((2 : Int) * (T : Int) < (E : Int)) = true := by simp; omega
          go_wp2_with fail
          refine wp_region_ord [(0, true), (1, true), (2, true), (3, true), (4, true), (5, true), (6, true), (7, true), (8, true), (9, true), (10, true), (11, true), (15, true), (12, false), (13, true), (14, true), (16, false), (17, true), (18, true), (19, true), (20, true)] (by kernel_rfl) (by kernel_rfl) (by kernel_rfl) (by kernel_rfl) ?_
          repeat (first | (refine wpO_F (v := ?_) rfl (by rfl) (fun w' hL => ?_) ?_; rotate_left; (solve | (go_simp; with_reducible rfl) | go_simp); try simp only [Act.put, List.setIfInBounds_toArray, List.set_cons_zero, List.set_cons_succ]) | (refine wpO_G rfl (by rfl) ?_; try simp only [Act.put, List.setIfInBounds_toArray, List.set_cons_zero, List.set_cons_succ]))
          refine wpO_C rfl (by rfl) ?_
          go_simp
          refine ((HBak.out hk1) _ Lwr.out).mono ?_
          rintro e Y1 ⟨ya, yc, rfl, M1⟩
          refine ⟨M1, ?_⟩
          try simp only [Act.put, List.setIfInBounds_toArray, List.set_cons_zero, List.set_cons_succ]
          have N1 : Hid (Later wr Y1) := Later.trans Lwr.out M1
          repeat (first | (refine wpO_F (v := ?_) rfl (by rfl) (fun w' hL => ?_) ?_; rotate_left; (solve | (go_simp; with_reducible rfl) | go_simp); try simp only [Act.put, List.setIfInBounds_toArray, List.set_cons_zero, List.set_cons_succ]) | (refine wpO_G rfl (by rfl) ?_; try simp only [Act.put, List.setIfInBounds_toArray, List.set_cons_zero, List.set_cons_succ]))
          refine wpO_C rfl (by rfl) ?_
          go_simp
          refine (HBnk.out _ N1.out).mono ?_
          rintro e Y ⟨yb, yd, rfl, M2⟩
          refine ⟨M2, ?_⟩
          try simp only [Act.put, List.setIfInBounds_toArray, List.set_cons_zero, List.set_cons_succ]
          have N2 : Hid (Later wr Y) := Later.trans N1.out M2
          repeat (first | (refine wpO_F (v := ?_) rfl (by rfl) (fun w' hL => ?_) ?_; rotate_left; (solve | (go_simp; with_reducible rfl) | go_simp); try simp only [Act.put, List.setIfInBounds_toArray, List.set_cons_zero, List.set_cons_succ]) | (refine wpO_G rfl (by rfl) ?_; try simp only [Act.put, List.setIfInBounds_toArray, List.set_cons_zero, List.set_cons_succ]))
          refine wpO_nil ?_
          clear d0 d1 d2 d3 d4 d5 D hw2 M1 M2 q0 q2
          have HX8 := Lib.hid (HI.out.lat N2.out)
          have HU8 : Hid (IsUp ⟨true, kid, l⟩ last (k + 1)) := (HUp.out hk1).succ hkL (by rw [HTT.out, HEE.out]; exact h2)
          have hS1 : ab ∉ (Value.slice aa k ac).ownBlock.toList := fun hm => own_ne HX8.out.row HX8.out.av (by decide) (by rw [Option.mem_toList] at hm; exact hm)
          have hS2 : w.heap.size ∉ (Value.slice aa k ac).ownBlock.toList := fun hm => own_ne HX8.out.row HX8.out.box (by decide) (by rw [Option.mem_toList] at hm; exact hm)
          have hS3 : b ∉ (Value.slice aa k ac).ownBlock.toList := by
            intro hm
            rw [Option.mem_toList] at hm
            have h1 := (HX8.out.row.lt _ hm).1
            have h2 := HX8.out.ablt
            omega
          have hx := List.getElem?_eq_getElem hkl
          obtain ⟨b', o', he, hb', c0, c1, c2, c3⟩ := partAt HArr.out hkl
          simp only [Option.some.injEq, Addr.mk.injEq, and_true] at he
          obtain ⟨rfl, rfl⟩ := he
          have HXk := Lib.hid hx
          obtain ⟨⟨xk, xl, xd, xp⟩, hxx⟩ : ∃ x, l[k] = x := ⟨_, rfl⟩
          rw [hxx] at c0 c1 c2 c3 HXk
          clear hx hxx
          simp only at c0 c1 c2 c3
          have hbY : b < Y.heap.size := Nat.lt_of_lt_of_le hbw HX8.out.bel.size
          have e0 : ∀ W, Chg (Value.slice aa k ac).ownBlock.toList Y.drew W → W.cell? ⟨ab, 2, none⟩ = some (.slice aa k ac) := fun W h => (h.undrew.cell HX8.out.av.lt hS1).trans (HX8.out.av.cell 2)
          have e1 : ∀ W, Chg (Value.slice aa k ac).ownBlock.toList Y.drew W → W.cell? ⟨w.heap.size, 2, none⟩ = some (.slice (some ⟨b, o, none⟩) ll lc) := fun W h => (h.undrew.cell HX8.out.box.lt hS2).trans (HX8.out.box.cell 2)
          have e2 : ∀ W, Chg (Value.slice aa k ac).ownBlock.toList Y.drew W → W.cell? ⟨b, o + k * 4, none⟩ = some (.string xk) := fun W h => (h.undrew.cell hbY hS3).trans ((HX8.out.bel.cell (p := ⟨b, o + k * 4, none⟩) hbw).trans c0)
          have e3 : ∀ W, Chg (Value.slice aa k ac).ownBlock.toList Y.drew W → W.cell? ⟨b, o + k * 4 + 1, none⟩ = some (.int .i64 xl) := fun W h => (h.undrew.cell hbY hS3).trans ((HX8.out.bel.cell (p := ⟨b, o + k * 4 + 1, none⟩) hbw).trans c1)
          have e4 : ∀ W, Chg (Value.slice aa k ac).ownBlock.toList Y.drew W → W.cell? ⟨b, o + k * 4 + 2, none⟩ = some (.string xd) := fun W h => (h.undrew.cell hbY hS3).trans ((HX8.out.bel.cell (p := ⟨b, o + k * 4 + 2, none⟩) hbw).trans c2)
          have e5 : ∀ W, Chg (Value.slice aa k ac).ownBlock.toList Y.drew W → W.cell? ⟨b, o + k * 4 + 3, none⟩ = some (.int .i64 xp) := fun W h => (h.undrew.cell hbY hS3).trans ((HX8.out.bel.cell (p := ⟨b, o + k * 4 + 3, none⟩) hbw).trans c3)
          go_wp2_with fail
          refine wp_region_ordX (Value.slice aa k ac).ownBlock.toList 12 [(0, true), (1, true), (2, true), (3, true), (4, true), (5, true), (6, true), (7, true), (8, true), (9, false), (10, false), (11, true)] (by kernel_rfl) (by kernel_rfl) (by kernel_rfl) (by kernel_rfl) ?_
          repeat (first | ((refine wpOX_F rfl (by rfl) (fun w' hL => exec_load rfl rfl (e0 w' hL)) ?_); try simp only [Act.put, List.setIfInBounds_toArray, List.set_cons_zero, List.set_cons_succ]) | ((refine wpOX_F rfl (by rfl) (fun w' hL => exec_load rfl rfl (e1 w' hL)) ?_); try simp only [Act.put, List.setIfInBounds_toArray, List.set_cons_zero, List.set_cons_succ]) | ((refine wpOX_F rfl (by rfl) (fun w' hL => exec_load rfl rfl (e2 w' hL)) ?_); try simp only [Act.put, List.setIfInBounds_toArray, List.set_cons_zero, List.set_cons_succ]) | ((refine wpOX_F rfl (by rfl) (fun w' hL => exec_load rfl rfl (e3 w' hL)) ?_); try simp only [Act.put, List.setIfInBounds_toArray, List.set_cons_zero, List.set_cons_succ]) | ((refine wpOX_F rfl (by rfl) (fun w' hL => exec_load rfl rfl (e4 w' hL)) ?_); try simp only [Act.put, List.setIfInBounds_toArray, List.set_cons_zero, List.set_cons_succ]) | ((refine wpOX_F rfl (by rfl) (fun w' hL => exec_load rfl rfl (e5 w' hL)) ?_); try simp only [Act.put, List.setIfInBounds_toArray, List.set_cons_zero, List.set_cons_succ]) | (refine wpOX_F (v := ?_) rfl (by rfl) (fun w' hL => ?_) ?_; rotate_left; (solve | (go_simp; with_reducible rfl) | go_simp); try simp only [Act.put, List.setIfInBounds_toArray, List.set_cons_zero, List.set_cons_succ]) | (refine wpOX_G (Chg.refl _) rfl (by rfl) ?_; try simp only [Act.put, List.setIfInBounds_toArray, List.set_cons_zero, List.set_cons_succ]))
          refine wpOX_C rfl (by rfl) ?_
          go_simp
          refine ⟨(Chg.refl _ _).alloc _, ?_⟩
          try simp only [Act.put, List.setIfInBounds_toArray, List.set_cons_zero, List.set_cons_succ]
          have hX9 := HX8.out.lat ((Below.refl _ _).drew : Later Y Y.drew)
          refine wpOX_C rfl (by rfl) ?_
          refine wp_appC (.tmp 54) (.tmp 62) 30 rfl (ab + 1) 65 iP (.agg #[.string ⟨#[]⟩, .int .i64 0, .string ⟨#[]⟩, .int .i64 0]) 4 48 Try.underlying30 hiP hzP rfl hsP (by omega) hbP (by omega) (.slice aa k ac) k _ [.string xk, .int .i64 xl, .string xd, .int .i64 xp] Y.drew hX9.row rfl _ rfl rfl (by simp [Value.oneCell']) rfl (by omega) (by have := hX9.av.lt; omega) ?_
          intro v' x2 hk2 hc2 hsz2
          refine ⟨hc2, ?_⟩
          try simp only [Act.put, List.setIfInBounds_toArray, List.set_cons_zero, List.set_cons_succ]
          obtain ⟨aa2, ac2, rfl, _, _, _⟩ := own_slice hk2
          obtain ⟨hInv, u1, u2, u3⟩ := hX9.add HXk.out hk2 hc2
          have HInv := Lib.hid hInv
          have HLk2 : Hid (lackR (x2.setCell ⟨ab, 2, none⟩ (.slice aa2 (k + 1) ac2)) ab (ll + 1) = ll + 1 - (k + 1)) := HLk0.out _ _ _ _ hInv
          have HLk1 : Hid (lackR wr ab (ll + 1) = ll + 1 - k) := HLk0.out _ _ _ _ HI.out
          clear hX9 hInv hk2 hc2 hsz2
          repeat (first | ((refine wpOX_F rfl (by rfl) (fun w' hL => exec_load rfl rfl (e0 w' hL)) ?_); try simp only [Act.put, List.setIfInBounds_toArray, List.set_cons_zero, List.set_cons_succ]) | (refine wpOX_F (v := ?_) rfl (by rfl) (fun w' hL => ?_) ?_; rotate_left; (solve | (go_simp; with_reducible rfl) | go_simp); try simp only [Act.put, List.setIfInBounds_toArray, List.set_cons_zero, List.set_cons_succ]) | (refine wpOX_G (Chg.refl _) rfl (by rfl) ?_; try simp only [Act.put, List.setIfInBounds_toArray, List.set_cons_zero, List.set_cons_succ]))
          refine wpOX_end rfl (by rfl) ?_
          go_simp
          simp only [NoPanic]
          clear e0 e1 e2 e3 e4 e5 c0 c1 c2 c3 u1 u2 u3 hS1 hS2 hS3
          generalize (x2.setCell ⟨ab, 2, none⟩ (.slice aa2 (k + 1) ac2)) = X3 at *
          go_wp2
          go_roundw
          case rel => exact ⟨k + 1, aa2, ac2, by omega, fun _ => HU8.out, HInv⟩
          case measure => rw [HLk2.out, HLk1.out]; omega
        · have q2 : decide ((2 : Int) * (T : Int) < (E : Int)) = false := by simp; omega
          go_wp2_with fail
          refine wp_region_ord [(0, true), (1, true), (2, true), (3, true), (4, true), (5, true), (6, true), (7, true), (8, true), (9, true), (10, true), (11, true), (15, true), (12, false), (13, true), (14, true), (16, false), (17, true), (18, true), (19, true), (20, true)] (by kernel_rfl) (by kernel_rfl) (by kernel_rfl) (by kernel_rfl) ?_
          repeat (first | (refine wpO_F (v := ?_) rfl (by rfl) (fun w' hL => ?_) ?_; rotate_left; (solve | (go_simp; with_reducible rfl) | go_simp); try simp only [Act.put, List.setIfInBounds_toArray, List.set_cons_zero, List.set_cons_succ]) | (refine wpO_G rfl (by rfl) ?_; try simp only [Act.put, List.setIfInBounds_toArray, List.set_cons_zero, List.set_cons_succ]))
          refine wpO_C rfl (by rfl) ?_
          go_simp
          refine ((HBak.out hk1) _ Lwr.out).mono ?_
          rintro e Y1 ⟨ya, yc, rfl, M1⟩
          refine ⟨M1, ?_⟩
          try simp only [Act.put, List.setIfInBounds_toArray, List.set_cons_zero, List.set_cons_succ]
          have N1 : Hid (Later wr Y1) := Later.trans Lwr.out M1
          repeat (first | (refine wpO_F (v := ?_) rfl (by rfl) (fun w' hL => ?_) ?_; rotate_left; (solve | (go_simp; with_reducible rfl) | go_simp); try simp only [Act.put, List.setIfInBounds_toArray, List.set_cons_zero, List.set_cons_succ]) | (refine wpO_G rfl (by rfl) ?_; try simp only [Act.put, List.setIfInBounds_toArray, List.set_cons_zero, List.set_cons_succ]))
          refine wpO_C rfl (by rfl) ?_
          go_simp
          refine (HBnk.out _ N1.out).mono ?_
          rintro e Y ⟨yb, yd, rfl, M2⟩
          refine ⟨M2, ?_⟩
          try simp only [Act.put, List.setIfInBounds_toArray, List.set_cons_zero, List.set_cons_succ]
          have N2 : Hid (Later wr Y) := Later.trans N1.out M2
          repeat (first | (refine wpO_F (v := ?_) rfl (by rfl) (fun w' hL => ?_) ?_; rotate_left; (solve | (go_simp; with_reducible rfl) | go_simp); try simp only [Act.put, List.setIfInBounds_toArray, List.set_cons_zero, List.set_cons_succ]) | (refine wpO_G rfl (by rfl) ?_; try simp only [Act.put, List.setIfInBounds_toArray, List.set_cons_zero, List.set_cons_succ]))
          refine wpO_nil ?_
          clear d0 d1 d2 d3 d4 d5 D hw2 M1 M2 q0 q2
          have HX8 := Lib.hid (HI.out.lat N2.out)
          have HEx : Hid (k = last ∨ ¬ 2 * lenTo ⟨true, kid, l⟩ k < (encN ⟨true, kid, l⟩).length) := .inr (by rw [HTT.out, HEE.out]; exact h2)
          have HUk : Hid (IsUp ⟨true, kid, l⟩ last k) := HUp.out hk1
          have a0 : Y.cell? ⟨ab, 0, none⟩ = some (.bool true) := HX8.out.av.cell 0
          have a1 : Y.cell? ⟨ab, 1, none⟩ = some (.int .i64 kid) := HX8.out.av.cell 1
          have a2 : Y.cell? ⟨ab, 2, none⟩ = some (.slice aa k ac) := HX8.out.av.cell 2
          have alt := HX8.out.av.lt
          by_cases h1k : 1 < k
          · have q3 : decide ((1 : Int) < (k : Int)) = true := by simp; omega
            have HBy := Lib.hid (HBak.out hk1 Y N2.out)
            go_wp2_with fail
            refine HBy.out.mono ?_
            rintro e V ⟨va, vc, rfl, LV⟩
            have HXV := Lib.hid (HX8.out.lat LV)
            clear a0 a1 a2 alt q3 LV HBy
            have a2 : V.cell? ⟨ab, 2, none⟩ = some (.slice aa k ac) := HXV.out.av.cell 2
            have af : V.frozen? ⟨ab, 2, none⟩ = false := HXV.out.av.frozen 2
            have alt := HXV.out.av.lt
            by_cases h5 : 512 < T
            · have q5 : decide ((512 : Int) < (T : Int)) = true := by simp; omega
              have HSh : Hid (IsShare ⟨true, kid, l⟩ last (k - 1)) := ⟨k, HUk.out, HEx.out, by rw [HTT.out, if_pos ⟨h5, h1k⟩]⟩
              obtain ⟨i, hi⟩ : ∃ i, k = i + 1 := ⟨k - 1, by omega⟩
              have HXV2 : Hid (RHv w V #[.bool true, .int .i64 kid, .slice (some ⟨b, o, none⟩) ll lc] ab true kid l aa (i + 1) ac) := by rw [← hi]; exact HXV.out
              have HF := Lib.hid HXV2.out.cut
              rw [show k - 1 = i by omega] at HSh
              have hac : k ≤ ac := HXV.out.f.cap
              have hsl := slice_to aa k ac i hi hac
              clear hi
              go_upto_region 11 with (fail)
              obtain ⟨Vf, hVf⟩ : ∃ Vf, V.setCell ⟨ab, 2, none⟩ (.slice aa i ac) = Vf := ⟨_, rfl⟩
              rw [hVf] at HF
              rw [hVf]
              clear hVf a2 af alt q5 hsl
              have hbd := HSh.out.bd
              have hil : i < l.length := by have := HLL.out; have := HLastl.out; omega
              have hill : i ≤ ll := by have := HLastl.out; omega
              have hx := List.getElem?_eq_getElem hil
              obtain ⟨b', o', he, hb', c0, c1, c2, c3⟩ := partAt HArr.out hil
              simp only [Option.some.injEq, Addr.mk.injEq, and_true] at he
              obtain ⟨rfl, rfl⟩ := he
              have HXi := Lib.hid hx
              obtain ⟨⟨xk, xl, xd, xp⟩, hxx⟩ : ∃ x, l[i] = x := ⟨_, rfl⟩
              rw [hxx] at c0 c1 c2 c3 HXi
              clear hx hxx c1 c2
              simp only at c0 c3
              have hbV : b < Vf.heap.size := Nat.lt_of_lt_of_le hbw HF.out.bel.size
              have c0V : Vf.cell? ⟨b, o + i * 4, none⟩ = some (.string xk) := (HF.out.bel.cell (p := ⟨b, o + i * 4, none⟩) hbw).trans c0
              have c3V : Vf.cell? ⟨b, o + i * 4 + 3, none⟩ = some (.int .i64 xp) := (HF.out.bel.cell (p := ⟨b, o + i * 4 + 3, none⟩) hbw).trans c3
              have y2 : Vf.cell? ⟨ab, 2, none⟩ = some (.slice aa i ac) := HF.out.av.cell 2
              have x0 : Vf.cell? ⟨w.heap.size, 0, none⟩ = some (.bool true) := HF.out.box.cell 0
              have x2 : Vf.cell? ⟨w.heap.size, 2, none⟩ = some (.slice (some ⟨b, o, none⟩) ll lc) := HF.out.box.cell 2
              have ylt := HF.out.av.lt
              have xlt := HF.out.box.lt
              obtain ⟨sa, hsA, hsr⟩ := HArr.out.from 30 65 4 Try.underlying30 sizeOf_part ll lc i (by rw [cellsP_len, ← HLL.out]) hill hcap (by omega)
              have hcd : (cellsP l).drop (i * 4) = cellsP (l.drop i) := by
                unfold cellsP
                rw [cellsOf_drop _ 4 (fun _ => rfl)]
              rw [hcd] at hsA
              clear hcd
              obtain ⟨bb, hbb⟩ : ∃ bb, Vf.heap.size = bb := ⟨_, rfl⟩
              have hV1 : Hid (RHf w (Vf.alloc (.cells #[.bool true, .int .i64 0, .slice none 0 0] 32)) #[.bool true, .int .i64 kid, .slice (some ⟨b, o, none⟩) ll lc] ab true kid l aa i ac ∧ Blk (Vf.alloc (.cells #[.bool true, .int .i64 0, .slice none 0 0] 32)) bb 32 #[.bool true, .int .i64 0, .slice none 0 0] ∧ Below w.heap.size w (Vf.alloc (.cells #[.bool true, .int .i64 0, .slice none 0 0] 32)) ∧ Later Vf (Vf.alloc (.cells #[.bool true, .int .i64 0, .slice none 0 0] 32))) := by
                have LV : Later Vf (Vf.alloc (.cells #[.bool true, .int .i64 0, .slice none 0 0] 32)) := (Below.refl _ Vf).alloc (Nat.le_refl _) _
                refine ⟨⟨HF.out.box.bel LV HF.out.box.lt, HF.out.r1.bel LV HF.out.r1.lt, HF.out.r2.bel LV HF.out.r2.lt, HF.out.av.bel LV HF.out.av.lt, HF.out.arr.later (N := 0) LV, HF.out.far, HF.out.cap, HF.out.bel.trans (Below.mono LV HF.out.bel.size), HF.out.ablt⟩, by rw [← hbb]; exact Blk.new Vf _ _, HF.out.bel.trans (Below.mono LV HF.out.bel.size), LV⟩
              have HBB := Lib.hid hbb
              clear hbb
              go_upto_region 14 with (fail)
              have hbb := HBB.out
              rw [hbb]
              have HC0 := Lib.hid c0
              clear c0V c3V y2 x0 x2 ylt xlt c0 c3
              obtain ⟨V1, hVV⟩ : ∃ V1, (Vf.alloc (.cells #[.bool true, .int .i64 0, .slice none 0 0] 32)) = V1 := ⟨_, rfl⟩
              rw [hVV] at hV1
              rw [hVV]
              clear hVV
              have habV : ab < Vf.heap.size := HF.out.av.lt
              have harA := HF.out.arr
              rw [hbb] at habV hbV harA
              have HarA := Lib.hid harA
              have LVV : Hid (Below bb Vf V1) := by have := hV1.out.2.2.2; unfold Later at this; rw [hbb] at this; exact this
              clear hbb harA
              have e0 : ∀ W, Chg [] V1.drew W → W.cell? ⟨bb, 2, none⟩ = some (.slice none 0 0) := fun W h => (h.undrew.cell hV1.out.2.1.lt (by simp)).trans (hV1.out.2.1.cell 2)
              have e1 : ∀ W, Chg [] V1.drew W → W.cell? ⟨w.heap.size, 2, none⟩ = some (.slice (some ⟨b, o, none⟩) ll lc) := fun W h => (h.undrew.cell hV1.out.1.box.lt (by simp)).trans (hV1.out.1.box.cell 2)


              refine wp_region_ordX [] 8 [(0, true), (1, true), (2, true), (3, true), (4, true), (5, true), (6, false), (7, true)] (by kernel_rfl) (by kernel_rfl) (by kernel_rfl) (by kernel_rfl) ?_
              repeat (first | ((refine wpOX_F rfl (by rfl) (fun w' hL => exec_load rfl rfl (e0 w' hL)) ?_); try simp only [Act.put, List.setIfInBounds_toArray, List.set_cons_zero, List.set_cons_succ]) | ((refine wpOX_F rfl (by rfl) (fun w' hL => exec_load rfl rfl (e1 w' hL)) ?_); try simp only [Act.put, List.setIfInBounds_toArray, List.set_cons_zero, List.set_cons_succ]) | (refine wpOX_F (v := ?_) rfl (by rfl) (fun w' hL => ?_) ?_; rotate_left; (solve | (go_simp; with_reducible rfl) | go_simp); try simp only [Act.put, List.setIfInBounds_toArray, List.set_cons_zero, List.set_cons_succ]) | (refine wpOX_G (Chg.refl _) rfl (by rfl) ?_; try simp only [Act.put, List.setIfInBounds_toArray, List.set_cons_zero, List.set_cons_succ]))
              refine wpOX_C rfl (by rfl) ?_
              refine wp_appS (.tmp 92) (.tmp 96) 30 rfl (bb + 1) 65 iP (.agg #[.string ⟨#[]⟩, .int .i64 0, .string ⟨#[]⟩, .int .i64 0]) 4 48 Try.underlying30 hiP hzP rfl hsP (by omega) hbP (by omega) (.slice none 0 0) 0 [] V1.drew (World.ownsRow_nil _ _ _ _) rfl _ sa (ll - i) (lc - i) (cellsP (l.drop i)) (hsA.below hV1.out.2.2.1.drew) (by rw [cellsP_len, List.length_drop, ← HLL.out]) (one_P _) rfl (by omega) (by have := hV1.out.2.1.lt; exact this) ?_
              intro v' Z hk2 hc2 hb2
              refine ⟨by simpa [Value.ownBlock] using hc2, ?_⟩
              try simp only [Act.put, List.setIfInBounds_toArray, List.set_cons_zero, List.set_cons_succ]
              rw [List.nil_append] at hk2
              obtain ⟨bA, bC, rfl, hbC, _, harB⟩ := own_slice hk2
              have hfarB := own_far hk2
              have LZ : Later V1 Z := by
                have h1 : Chg [] V1.drew Z := by simpa [Value.ownBlock] using hc2
                exact h1.undrew.below (Nat.le_refl _) (by simp)
              have hbv := hV1.out.2.1.bel LZ hV1.out.2.1.lt
              have u1 : Z.cell? ⟨bb, 2, none⟩ = some (.slice none 0 0) := hbv.cell 2
              have u2 : Z.frozen? ⟨bb, 2, none⟩ = false := hbv.frozen 2
              have u3 := hbv.lt
              obtain ⟨n, hn⟩ : ∃ n, 0 + (ll - i) = n := ⟨_, rfl⟩
              rw [hn] at hbC
              have hn' : (ll - i) = n := by omega
              try rw [hn]
              try rw [hn']
              try simp only [hn']
              have HBV0 : Blk (Z.setCell ⟨bb, 2, none⟩ (.slice bA n bC)) bb 32 #[.bool true, .int .i64 0, .slice bA n bC] := by
                have := hbv.set_ 2 (.slice bA n bC)
                simpa using this
              have HBV := Lib.hid HBV0
              clear HBV0
              have hF := hV1.out.1
              have hab3 := hF.ablt
              have hbbab : ab < bb := habV
              have HFz : Hid (RHf w (Z.setCell ⟨bb, 2, none⟩ (.slice bA n bC)) #[.bool true, .int .i64 kid, .slice (some ⟨b, o, none⟩) ll lc] ab true kid l aa i ac) := by
                refine ⟨(hF.box.bel LZ hF.box.lt).far (by omega) _, (hF.r1.bel LZ hF.r1.lt).far (by omega) _, (hF.r2.bel LZ hF.r2.lt).far (by omega) _, (hF.av.bel LZ hF.av.lt).far (by omega) _, ?_, hF.far, hF.cap, Below.setCell (hF.bel.trans (Below.mono LZ hF.bel.size)) (by show w.heap.size ≤ bb; omega) _, hF.ablt⟩
                have h1 := (HarA.out.below LVV.out).below (LZ.mono (by have := hV1.out.2.1.lt; omega))
                exact (h1.set_above (Nat.le_refl _) _).mono (by have := hbv.lt; simp [World.setCell]; omega)
              have HArB : Hid (Arr (Z.setCell ⟨bb, 2, none⟩ (.slice bA n bC)).heap.size (Z.setCell ⟨bb, 2, none⟩ (.slice bA n bC)) bA (cellsP (l.drop i))) := harB.set_far hfarB (Nat.lt_succ_self _)
              have HFarB : Hid (Far (w.heap.size + 1 + 1 + 1) bA (cellsP (l.drop i))) := hfarB.mono (by omega)
              have HKz : Hid ((Z.setCell ⟨bb, 2, none⟩ (.slice bA n bC)).cell? ⟨b, o + i * 4, none⟩ = some (.string xk)) := (HFz.out.bel.cell (p := ⟨b, o + i * 4, none⟩) hbw).trans HC0.out
              clear hk2 hc2 hb2 harB hfarB LZ hbv hF
              repeat (first | ((refine wpOX_F rfl (by rfl) (fun w' hL => exec_load rfl rfl (e0 w' hL)) ?_); try simp only [Act.put, List.setIfInBounds_toArray, List.set_cons_zero, List.set_cons_succ]) | (refine wpOX_F (v := ?_) rfl (by rfl) (fun w' hL => ?_) ?_; rotate_left; (solve | (go_simp; with_reducible rfl) | go_simp); try simp only [Act.put, List.setIfInBounds_toArray, List.set_cons_zero, List.set_cons_succ]) | (refine wpOX_G (Chg.refl _) rfl (by rfl) ?_; try simp only [Act.put, List.setIfInBounds_toArray, List.set_cons_zero, List.set_cons_succ]))
              refine wpOX_end rfl (by rfl) ?_
              go_simp
              simp only [NoPanic]
              clear e0 e1 u1 u2 u3 hsr
              generalize (Z.setCell ⟨bb, 2, none⟩ (.slice bA n bC)) = Z2 at *
              have hnl : n = (l.drop i).length := by rw [List.length_drop, ← HLL.out]; omega
              have Hn := Lib.hid hnl
              have hzs : w.heap.size + 1 + 1 < Z2.drew.heap.size := HFz.out.r2.lt
              have hn6 : n ≤ 60000 := by omega
              have ilt : i < ll := by rw [HLL.out]; exact hil
              have ilt1 : (i : Int) < (ll : Int) := by omega
              have ilt2 : ¬ ll ≤ i := by omega
              have ilt3 : (0 : Int) ≤ (i : Int) := by omega
              clear hnl hn
              have D2 : Hid (∀ W, Chg [w.heap.size + 1, w.heap.size + 1 + 1] Z2.drew W → (W.cell? ⟨ab, 0, none⟩ = some (.bool true) ∧ W.cell? ⟨ab, 1, none⟩ = some (.int .i64 kid) ∧ W.cell? ⟨ab, 2, none⟩ = some (.slice aa i ac)) ∧ (W.cell? ⟨bb, 0, none⟩ = some (.bool true) ∧ W.cell? ⟨bb, 1, none⟩ = some (.int .i64 0) ∧ W.cell? ⟨bb, 2, none⟩ = some (.slice bA n bC)) ∧ W.cell? ⟨w.heap.size, 2, none⟩ = some (.slice (some ⟨b, o, none⟩) ll lc) ∧ W.cell? ⟨b, o + i * 4, none⟩ = some (.string xk)) := by
                intro W hW
                have h1 := HFz.out.av.chg hW.undrew (by simp; omega)
                have h2 := HBV.out.chg hW.undrew (by simp; omega)
                have h3 := HFz.out.box.chg hW.undrew (by simp; omega)
                exact ⟨⟨h1.cell 0, h1.cell 1, h1.cell 2⟩, ⟨h2.cell 0, h2.cell 1, h2.cell 2⟩, h3.cell 2, (hW.undrew.cell (b := b) (Nat.lt_of_lt_of_le hbw HFz.out.bel.size) (by simp; omega)).trans HKz.out⟩
              have d0 : ∀ W, Chg [w.heap.size + 1, w.heap.size + 1 + 1] Z2.drew W → W.cell? ⟨ab, 0, none⟩ = some (.bool true) := fun W h => (D2.out W h).1.1
              have d1 : ∀ W, Chg [w.heap.size + 1, w.heap.size + 1 + 1] Z2.drew W → W.cell? ⟨ab, 1, none⟩ = some (.int .i64 kid) := fun W h => (D2.out W h).1.2.1
              have d2 : ∀ W, Chg [w.heap.size + 1, w.heap.size + 1 + 1] Z2.drew W → W.cell? ⟨ab, 2, none⟩ = some (.slice aa i ac) := fun W h => (D2.out W h).1.2.2
              have d3 : ∀ W, Chg [w.heap.size + 1, w.heap.size + 1 + 1] Z2.drew W → W.cell? ⟨bb, 0, none⟩ = some (.bool true) := fun W h => (D2.out W h).2.1.1
              have d4 : ∀ W, Chg [w.heap.size + 1, w.heap.size + 1 + 1] Z2.drew W → W.cell? ⟨bb, 1, none⟩ = some (.int .i64 0) := fun W h => (D2.out W h).2.1.2.1
              have d5 : ∀ W, Chg [w.heap.size + 1, w.heap.size + 1 + 1] Z2.drew W → W.cell? ⟨bb, 2, none⟩ = some (.slice bA n bC) := fun W h => (D2.out W h).2.1.2.2
              have d6 : ∀ W, Chg [w.heap.size + 1, w.heap.size + 1 + 1] Z2.drew W → W.cell? ⟨w.heap.size, 2, none⟩ = some (.slice (some ⟨b, o, none⟩) ll lc) := fun W h => (D2.out W h).2.2.1
              have d7 : ∀ W, Chg [w.heap.size + 1, w.heap.size + 1 + 1] Z2.drew W → W.cell? ⟨b, o + i * 4, none⟩ = some (.string xk) := fun W h => (D2.out W h).2.2.2
              have HFin : Hid (∀ v0 v1 v2 u0 u1 u2, RR (.returned (.tuple #[.agg #[.bool true, .int .i64 kid, .slice aa i ac], .string xk, .agg #[.bool true, .int .i64 0, .slice bA n bC]])) (set3 (set3 Z2.drew (w.heap.size + 1) v0 v1 v2) (w.heap.size + 1 + 1) u0 u1 u2)) := by
                intro v0 v1 v2 u0 u1 u2
                have f1 : w.heap.size + 1 < w.heap.size + 1 + 1 + 1 := by omega
                have f2 : w.heap.size + 1 + 1 < w.heap.size + 1 + 1 + 1 := by omega
                have hA : Arr Z2.drew.heap.size Z2.drew aa (cellsP (l.take i)) := HFz.out.arr
                have hB : Arr Z2.drew.heap.size Z2.drew bA (cellsP (l.drop i)) := HArB.out
                refine HX.out i ⟨xk, xl, xd, xp⟩ ⟨aa, i, ac⟩ ⟨bA, n, bC⟩ _ HSh.out HXi.out ?_ ?_ (set3_below (set3_below HFz.out.bel.drew (Nat.le_add_right _ 1) _ _ _) (Nat.le_add_right _ 2) _ _ _)
                · exact ⟨by simp only [halfA, List.length_take]; omega, HFz.out.cap, by simp only; omega, (hA.set3 HFz.out.far f1 _ _ _).set3 HFz.out.far f2 _ _ _, hkid, fun p hp => HFair.out p (List.mem_of_mem_take hp)⟩
                · exact ⟨Hn.out, hbC, by simp only; omega, (hB.set3 HFarB.out f1 _ _ _).set3 HFarB.out f2 _ _ _, by simp [halfB], fun p hp => HFair.out p (List.mem_of_mem_drop hp)⟩
              have r0 : Z2.drew.cell? ⟨w.heap.size + 1, 0, none⟩ = some (.bool false) := Blk.cell HFz.out.r1 0
              have r1 : Z2.drew.cell? ⟨w.heap.size + 1, 1, none⟩ = some (.int .i64 0) := Blk.cell HFz.out.r1 1
              have r2 : Z2.drew.cell? ⟨w.heap.size + 1, 2, none⟩ = some (.slice none 0 0) := Blk.cell HFz.out.r1 2
              have f0 : Z2.drew.frozen? ⟨w.heap.size + 1, 0, none⟩ = false := Blk.frozen HFz.out.r1 0
              have f1 : Z2.drew.frozen? ⟨w.heap.size + 1, 1, none⟩ = false := Blk.frozen HFz.out.r1 1
              have f2 : Z2.drew.frozen? ⟨w.heap.size + 1, 2, none⟩ = false := Blk.frozen HFz.out.r1 2
              have s0 : Z2.drew.cell? ⟨w.heap.size + 1 + 1, 0, none⟩ = some (.bool false) := Blk.cell HFz.out.r2 0
              have s1 : Z2.drew.cell? ⟨w.heap.size + 1 + 1, 1, none⟩ = some (.int .i64 0) := Blk.cell HFz.out.r2 1
              have s2 : Z2.drew.cell? ⟨w.heap.size + 1 + 1, 2, none⟩ = some (.slice none 0 0) := Blk.cell HFz.out.r2 2
              have g0 : Z2.drew.frozen? ⟨w.heap.size + 1 + 1, 0, none⟩ = false := Blk.frozen HFz.out.r2 0
              have g1 : Z2.drew.frozen? ⟨w.heap.size + 1 + 1, 1, none⟩ = false := Blk.frozen HFz.out.r2 1
              have g2 : Z2.drew.frozen? ⟨w.heap.size + 1 + 1, 2, none⟩ = false := Blk.frozen HFz.out.r2 2
              clear D2
              go_upto_region 17 with (fail)
              refine wp_region_ordS [w.heap.size + 1, w.heap.size + 1 + 1] [(0, true), (1, true), (2, true), (3, true), (4, true), (5, true), (6, true), (7, true), (8, false), (9, true), (10, false)] (by kernel_rfl) (by kernel_rfl) (by kernel_rfl) (by kernel_rfl) ?_
              repeat (first | ((refine wpO_F rfl (by rfl) (fun w' hL => exec_load rfl rfl (d0 w' hL)) ?_); try simp only [Act.put, List.setIfInBounds_toArray, List.set_cons_zero, List.set_cons_succ]) | ((refine wpO_F rfl (by rfl) (fun w' hL => exec_load rfl rfl (d1 w' hL)) ?_); try simp only [Act.put, List.setIfInBounds_toArray, List.set_cons_zero, List.set_cons_succ]) | ((refine wpO_F rfl (by rfl) (fun w' hL => exec_load rfl rfl (d2 w' hL)) ?_); try simp only [Act.put, List.setIfInBounds_toArray, List.set_cons_zero, List.set_cons_succ]) | ((refine wpO_F rfl (by rfl) (fun w' hL => exec_load rfl rfl (d3 w' hL)) ?_); try simp only [Act.put, List.setIfInBounds_toArray, List.set_cons_zero, List.set_cons_succ]) | ((refine wpO_F rfl (by rfl) (fun w' hL => exec_load rfl rfl (d4 w' hL)) ?_); try simp only [Act.put, List.setIfInBounds_toArray, List.set_cons_zero, List.set_cons_succ]) | ((refine wpO_F rfl (by rfl) (fun w' hL => exec_load rfl rfl (d5 w' hL)) ?_); try simp only [Act.put, List.setIfInBounds_toArray, List.set_cons_zero, List.set_cons_succ]) | ((refine wpO_F rfl (by rfl) (fun w' hL => exec_load rfl rfl (d6 w' hL)) ?_); try simp only [Act.put, List.setIfInBounds_toArray, List.set_cons_zero, List.set_cons_succ]) | ((refine wpO_F rfl (by rfl) (fun w' hL => exec_load rfl rfl (d7 w' hL)) ?_); try simp only [Act.put, List.setIfInBounds_toArray, List.set_cons_zero, List.set_cons_succ]) | (refine wpO_F (v := ?_) rfl (by rfl) (fun w' hL => ?_) ?_; rotate_left; (solve | (go_simp; with_reducible rfl) | go_simp); try simp only [Act.put, List.setIfInBounds_toArray, List.set_cons_zero, List.set_cons_succ]) | (refine wpO_G' (Chg.refl _) rfl (by rfl) ?_; try simp only [Act.put, List.setIfInBounds_toArray, List.set_cons_zero, List.set_cons_succ]))
              generalize Z2.drew = Z3 at *
              refine wpO_C rfl (by rfl) ?_
              go_simp
              refine ⟨set3_chg (by simp) _ _ _, ?_⟩
              try simp only [Act.put, List.setIfInBounds_toArray, List.set_cons_zero, List.set_cons_succ]
              repeat (first | (refine wpO_F (v := ?_) rfl (by rfl) (fun w' hL => ?_) ?_; rotate_left; (solve | (go_simp; with_reducible rfl) | go_simp); try simp only [Act.put, List.setIfInBounds_toArray, List.set_cons_zero, List.set_cons_succ]) | (refine wpO_G' (Chg.refl _) rfl (by rfl) ?_; try simp only [Act.put, List.setIfInBounds_toArray, List.set_cons_zero, List.set_cons_succ]))
              refine wpO_C rfl (by rfl) ?_
              go_simp
              refine ⟨set3_chg (by simp) _ _ _, ?_⟩
              try simp only [Act.put, List.setIfInBounds_toArray, List.set_cons_zero, List.set_cons_succ]
              refine wpO_nil ?_
              go_wp2
              refine bodyPost_ret (v := .tuple #[.agg #[.bool true, .int .i64 kid, .slice aa i ac], .string xk, .agg #[.bool true, .int .i64 0, .slice bA n bC]]) (by simp [results, Try.results27, go_sem, r0, r1, r2, s0, s1, s2, hzs]) rfl (HFin.out _ _ _ _ _ _)
            · have q5 : decide ((512 : Int) < (T : Int)) = false := by simp; omega
              have HSh : Hid (IsShare ⟨true, kid, l⟩ last k) := ⟨k, HUk.out, HEx.out, by rw [HTT.out, if_neg (by omega)]⟩
              have HF := Lib.hid HXV.out.f
              go_upto_region 11 with (fail)
              clear a2 af alt q5
              obtain ⟨Vf, hVf⟩ : ∃ Vf, V = Vf := ⟨_, rfl⟩
              rw [hVf] at HF
              rw [hVf]
              clear hVf
              obtain ⟨i, hi⟩ : ∃ i, k = i := ⟨_, rfl⟩
              rw [hi] at HF HSh
              clear hi
              have hbd := HSh.out.bd
              have hil : i < l.length := by have := HLL.out; have := HLastl.out; omega
              have hill : i ≤ ll := by have := HLastl.out; omega
              have hx := List.getElem?_eq_getElem hil
              obtain ⟨b', o', he, hb', c0, c1, c2, c3⟩ := partAt HArr.out hil
              simp only [Option.some.injEq, Addr.mk.injEq, and_true] at he
              obtain ⟨rfl, rfl⟩ := he
              have HXi := Lib.hid hx
              obtain ⟨⟨xk, xl, xd, xp⟩, hxx⟩ : ∃ x, l[i] = x := ⟨_, rfl⟩
              rw [hxx] at c0 c1 c2 c3 HXi
              clear hx hxx c1 c2
              simp only at c0 c3
              have hbV : b < Vf.heap.size := Nat.lt_of_lt_of_le hbw HF.out.bel.size
              have c0V : Vf.cell? ⟨b, o + i * 4, none⟩ = some (.string xk) := (HF.out.bel.cell (p := ⟨b, o + i * 4, none⟩) hbw).trans c0
              have c3V : Vf.cell? ⟨b, o + i * 4 + 3, none⟩ = some (.int .i64 xp) := (HF.out.bel.cell (p := ⟨b, o + i * 4 + 3, none⟩) hbw).trans c3
              have y2 : Vf.cell? ⟨ab, 2, none⟩ = some (.slice aa i ac) := HF.out.av.cell 2
              have x0 : Vf.cell? ⟨w.heap.size, 0, none⟩ = some (.bool true) := HF.out.box.cell 0
              have x2 : Vf.cell? ⟨w.heap.size, 2, none⟩ = some (.slice (some ⟨b, o, none⟩) ll lc) := HF.out.box.cell 2
              have ylt := HF.out.av.lt
              have xlt := HF.out.box.lt
              obtain ⟨sa, hsA, hsr⟩ := HArr.out.from 30 65 4 Try.underlying30 sizeOf_part ll lc i (by rw [cellsP_len, ← HLL.out]) hill hcap (by omega)
              have hcd : (cellsP l).drop (i * 4) = cellsP (l.drop i) := by
                unfold cellsP
                rw [cellsOf_drop _ 4 (fun _ => rfl)]
              rw [hcd] at hsA
              clear hcd
              obtain ⟨bb, hbb⟩ : ∃ bb, Vf.heap.size = bb := ⟨_, rfl⟩
              have hV1 : Hid (RHf w (Vf.alloc (.cells #[.bool true, .int .i64 0, .slice none 0 0] 32)) #[.bool true, .int .i64 kid, .slice (some ⟨b, o, none⟩) ll lc] ab true kid l aa i ac ∧ Blk (Vf.alloc (.cells #[.bool true, .int .i64 0, .slice none 0 0] 32)) bb 32 #[.bool true, .int .i64 0, .slice none 0 0] ∧ Below w.heap.size w (Vf.alloc (.cells #[.bool true, .int .i64 0, .slice none 0 0] 32)) ∧ Later Vf (Vf.alloc (.cells #[.bool true, .int .i64 0, .slice none 0 0] 32))) := by
                have LV : Later Vf (Vf.alloc (.cells #[.bool true, .int .i64 0, .slice none 0 0] 32)) := (Below.refl _ Vf).alloc (Nat.le_refl _) _
                refine ⟨⟨HF.out.box.bel LV HF.out.box.lt, HF.out.r1.bel LV HF.out.r1.lt, HF.out.r2.bel LV HF.out.r2.lt, HF.out.av.bel LV HF.out.av.lt, HF.out.arr.later (N := 0) LV, HF.out.far, HF.out.cap, HF.out.bel.trans (Below.mono LV HF.out.bel.size), HF.out.ablt⟩, by rw [← hbb]; exact Blk.new Vf _ _, HF.out.bel.trans (Below.mono LV HF.out.bel.size), LV⟩
              have HBB := Lib.hid hbb
              clear hbb
              go_upto_region 14 with (fail)
              have hbb := HBB.out
              rw [hbb]
              have HC0 := Lib.hid c0
              clear c0V c3V y2 x0 x2 ylt xlt c0 c3
              obtain ⟨V1, hVV⟩ : ∃ V1, (Vf.alloc (.cells #[.bool true, .int .i64 0, .slice none 0 0] 32)) = V1 := ⟨_, rfl⟩
              rw [hVV] at hV1
              rw [hVV]
              clear hVV
              have habV : ab < Vf.heap.size := HF.out.av.lt
              have harA := HF.out.arr
              rw [hbb] at habV hbV harA
              have HarA := Lib.hid harA
              have LVV : Hid (Below bb Vf V1) := by have := hV1.out.2.2.2; unfold Later at this; rw [hbb] at this; exact this
              clear hbb harA
              have e0 : ∀ W, Chg [] V1.drew W → W.cell? ⟨bb, 2, none⟩ = some (.slice none 0 0) := fun W h => (h.undrew.cell hV1.out.2.1.lt (by simp)).trans (hV1.out.2.1.cell 2)
              have e1 : ∀ W, Chg [] V1.drew W → W.cell? ⟨w.heap.size, 2, none⟩ = some (.slice (some ⟨b, o, none⟩) ll lc) := fun W h => (h.undrew.cell hV1.out.1.box.lt (by simp)).trans (hV1.out.1.box.cell 2)


              refine wp_region_ordX [] 8 [(0, true), (1, true), (2, true), (3, true), (4, true), (5, true), (6, false), (7, true)] (by kernel_rfl) (by kernel_rfl) (by kernel_rfl) (by kernel_rfl) ?_
              repeat (first | ((refine wpOX_F rfl (by rfl) (fun w' hL => exec_load rfl rfl (e0 w' hL)) ?_); try simp only [Act.put, List.setIfInBounds_toArray, List.set_cons_zero, List.set_cons_succ]) | ((refine wpOX_F rfl (by rfl) (fun w' hL => exec_load rfl rfl (e1 w' hL)) ?_); try simp only [Act.put, List.setIfInBounds_toArray, List.set_cons_zero, List.set_cons_succ]) | (refine wpOX_F (v := ?_) rfl (by rfl) (fun w' hL => ?_) ?_; rotate_left; (solve | (go_simp; with_reducible rfl) | go_simp); try simp only [Act.put, List.setIfInBounds_toArray, List.set_cons_zero, List.set_cons_succ]) | (refine wpOX_G (Chg.refl _) rfl (by rfl) ?_; try simp only [Act.put, List.setIfInBounds_toArray, List.set_cons_zero, List.set_cons_succ]))
              refine wpOX_C rfl (by rfl) ?_
              refine wp_appS (.tmp 92) (.tmp 96) 30 rfl (bb + 1) 65 iP (.agg #[.string ⟨#[]⟩, .int .i64 0, .string ⟨#[]⟩, .int .i64 0]) 4 48 Try.underlying30 hiP hzP rfl hsP (by omega) hbP (by omega) (.slice none 0 0) 0 [] V1.drew (World.ownsRow_nil _ _ _ _) rfl _ sa (ll - i) (lc - i) (cellsP (l.drop i)) (hsA.below hV1.out.2.2.1.drew) (by rw [cellsP_len, List.length_drop, ← HLL.out]) (one_P _) rfl (by omega) (by have := hV1.out.2.1.lt; exact this) ?_
              intro v' Z hk2 hc2 hb2
              refine ⟨by simpa [Value.ownBlock] using hc2, ?_⟩
              try simp only [Act.put, List.setIfInBounds_toArray, List.set_cons_zero, List.set_cons_succ]
              rw [List.nil_append] at hk2
              obtain ⟨bA, bC, rfl, hbC, _, harB⟩ := own_slice hk2
              have hfarB := own_far hk2
              have LZ : Later V1 Z := by
                have h1 : Chg [] V1.drew Z := by simpa [Value.ownBlock] using hc2
                exact h1.undrew.below (Nat.le_refl _) (by simp)
              have hbv := hV1.out.2.1.bel LZ hV1.out.2.1.lt
              have u1 : Z.cell? ⟨bb, 2, none⟩ = some (.slice none 0 0) := hbv.cell 2
              have u2 : Z.frozen? ⟨bb, 2, none⟩ = false := hbv.frozen 2
              have u3 := hbv.lt
              obtain ⟨n, hn⟩ : ∃ n, 0 + (ll - i) = n := ⟨_, rfl⟩
              rw [hn] at hbC
              have hn' : (ll - i) = n := by omega
              try rw [hn]
              try rw [hn']
              try simp only [hn']
              have HBV0 : Blk (Z.setCell ⟨bb, 2, none⟩ (.slice bA n bC)) bb 32 #[.bool true, .int .i64 0, .slice bA n bC] := by
                have := hbv.set_ 2 (.slice bA n bC)
                simpa using this
              have HBV := Lib.hid HBV0
              clear HBV0
              have hF := hV1.out.1
              have hab3 := hF.ablt
              have hbbab : ab < bb := habV
              have HFz : Hid (RHf w (Z.setCell ⟨bb, 2, none⟩ (.slice bA n bC)) #[.bool true, .int .i64 kid, .slice (some ⟨b, o, none⟩) ll lc] ab true kid l aa i ac) := by
                refine ⟨(hF.box.bel LZ hF.box.lt).far (by omega) _, (hF.r1.bel LZ hF.r1.lt).far (by omega) _, (hF.r2.bel LZ hF.r2.lt).far (by omega) _, (hF.av.bel LZ hF.av.lt).far (by omega) _, ?_, hF.far, hF.cap, Below.setCell (hF.bel.trans (Below.mono LZ hF.bel.size)) (by show w.heap.size ≤ bb; omega) _, hF.ablt⟩
                have h1 := (HarA.out.below LVV.out).below (LZ.mono (by have := hV1.out.2.1.lt; omega))
                exact (h1.set_above (Nat.le_refl _) _).mono (by have := hbv.lt; simp [World.setCell]; omega)
              have HArB : Hid (Arr (Z.setCell ⟨bb, 2, none⟩ (.slice bA n bC)).heap.size (Z.setCell ⟨bb, 2, none⟩ (.slice bA n bC)) bA (cellsP (l.drop i))) := harB.set_far hfarB (Nat.lt_succ_self _)
              have HFarB : Hid (Far (w.heap.size + 1 + 1 + 1) bA (cellsP (l.drop i))) := hfarB.mono (by omega)
              have HKz : Hid ((Z.setCell ⟨bb, 2, none⟩ (.slice bA n bC)).cell? ⟨b, o + i * 4, none⟩ = some (.string xk)) := (HFz.out.bel.cell (p := ⟨b, o + i * 4, none⟩) hbw).trans HC0.out
              clear hk2 hc2 hb2 harB hfarB LZ hbv hF
              repeat (first | ((refine wpOX_F rfl (by rfl) (fun w' hL => exec_load rfl rfl (e0 w' hL)) ?_); try simp only [Act.put, List.setIfInBounds_toArray, List.set_cons_zero, List.set_cons_succ]) | (refine wpOX_F (v := ?_) rfl (by rfl) (fun w' hL => ?_) ?_; rotate_left; (solve | (go_simp; with_reducible rfl) | go_simp); try simp only [Act.put, List.setIfInBounds_toArray, List.set_cons_zero, List.set_cons_succ]) | (refine wpOX_G (Chg.refl _) rfl (by rfl) ?_; try simp only [Act.put, List.setIfInBounds_toArray, List.set_cons_zero, List.set_cons_succ]))
              refine wpOX_end rfl (by rfl) ?_
              go_simp
              simp only [NoPanic]
              clear e0 e1 u1 u2 u3 hsr
              generalize (Z.setCell ⟨bb, 2, none⟩ (.slice bA n bC)) = Z2 at *
              have hnl : n = (l.drop i).length := by rw [List.length_drop, ← HLL.out]; omega
              have Hn := Lib.hid hnl
              have hzs : w.heap.size + 1 + 1 < Z2.drew.heap.size := HFz.out.r2.lt
              have hn6 : n ≤ 60000 := by omega
              have ilt : i < ll := by rw [HLL.out]; exact hil
              have ilt1 : (i : Int) < (ll : Int) := by omega
              have ilt2 : ¬ ll ≤ i := by omega
              have ilt3 : (0 : Int) ≤ (i : Int) := by omega
              clear hnl hn
              have D2 : Hid (∀ W, Chg [w.heap.size + 1, w.heap.size + 1 + 1] Z2.drew W → (W.cell? ⟨ab, 0, none⟩ = some (.bool true) ∧ W.cell? ⟨ab, 1, none⟩ = some (.int .i64 kid) ∧ W.cell? ⟨ab, 2, none⟩ = some (.slice aa i ac)) ∧ (W.cell? ⟨bb, 0, none⟩ = some (.bool true) ∧ W.cell? ⟨bb, 1, none⟩ = some (.int .i64 0) ∧ W.cell? ⟨bb, 2, none⟩ = some (.slice bA n bC)) ∧ W.cell? ⟨w.heap.size, 2, none⟩ = some (.slice (some ⟨b, o, none⟩) ll lc) ∧ W.cell? ⟨b, o + i * 4, none⟩ = some (.string xk)) := by
                intro W hW
                have h1 := HFz.out.av.chg hW.undrew (by simp; omega)
                have h2 := HBV.out.chg hW.undrew (by simp; omega)
                have h3 := HFz.out.box.chg hW.undrew (by simp; omega)
                exact ⟨⟨h1.cell 0, h1.cell 1, h1.cell 2⟩, ⟨h2.cell 0, h2.cell 1, h2.cell 2⟩, h3.cell 2, (hW.undrew.cell (b := b) (Nat.lt_of_lt_of_le hbw HFz.out.bel.size) (by simp; omega)).trans HKz.out⟩
              have d0 : ∀ W, Chg [w.heap.size + 1, w.heap.size + 1 + 1] Z2.drew W → W.cell? ⟨ab, 0, none⟩ = some (.bool true) := fun W h => (D2.out W h).1.1
              have d1 : ∀ W, Chg [w.heap.size + 1, w.heap.size + 1 + 1] Z2.drew W → W.cell? ⟨ab, 1, none⟩ = some (.int .i64 kid) := fun W h => (D2.out W h).1.2.1
              have d2 : ∀ W, Chg [w.heap.size + 1, w.heap.size + 1 + 1] Z2.drew W → W.cell? ⟨ab, 2, none⟩ = some (.slice aa i ac) := fun W h => (D2.out W h).1.2.2
              have d3 : ∀ W, Chg [w.heap.size + 1, w.heap.size + 1 + 1] Z2.drew W → W.cell? ⟨bb, 0, none⟩ = some (.bool true) := fun W h => (D2.out W h).2.1.1
              have d4 : ∀ W, Chg [w.heap.size + 1, w.heap.size + 1 + 1] Z2.drew W → W.cell? ⟨bb, 1, none⟩ = some (.int .i64 0) := fun W h => (D2.out W h).2.1.2.1
              have d5 : ∀ W, Chg [w.heap.size + 1, w.heap.size + 1 + 1] Z2.drew W → W.cell? ⟨bb, 2, none⟩ = some (.slice bA n bC) := fun W h => (D2.out W h).2.1.2.2
              have d6 : ∀ W, Chg [w.heap.size + 1, w.heap.size + 1 + 1] Z2.drew W → W.cell? ⟨w.heap.size, 2, none⟩ = some (.slice (some ⟨b, o, none⟩) ll lc) := fun W h => (D2.out W h).2.2.1
              have d7 : ∀ W, Chg [w.heap.size + 1, w.heap.size + 1 + 1] Z2.drew W → W.cell? ⟨b, o + i * 4, none⟩ = some (.string xk) := fun W h => (D2.out W h).2.2.2
              have HFin : Hid (∀ v0 v1 v2 u0 u1 u2, RR (.returned (.tuple #[.agg #[.bool true, .int .i64 kid, .slice aa i ac], .string xk, .agg #[.bool true, .int .i64 0, .slice bA n bC]])) (set3 (set3 Z2.drew (w.heap.size + 1) v0 v1 v2) (w.heap.size + 1 + 1) u0 u1 u2)) := by
                intro v0 v1 v2 u0 u1 u2
                have f1 : w.heap.size + 1 < w.heap.size + 1 + 1 + 1 := by omega
                have f2 : w.heap.size + 1 + 1 < w.heap.size + 1 + 1 + 1 := by omega
                have hA : Arr Z2.drew.heap.size Z2.drew aa (cellsP (l.take i)) := HFz.out.arr
                have hB : Arr Z2.drew.heap.size Z2.drew bA (cellsP (l.drop i)) := HArB.out
                refine HX.out i ⟨xk, xl, xd, xp⟩ ⟨aa, i, ac⟩ ⟨bA, n, bC⟩ _ HSh.out HXi.out ?_ ?_ (set3_below (set3_below HFz.out.bel.drew (Nat.le_add_right _ 1) _ _ _) (Nat.le_add_right _ 2) _ _ _)
                · exact ⟨by simp only [halfA, List.length_take]; omega, HFz.out.cap, by simp only; omega, (hA.set3 HFz.out.far f1 _ _ _).set3 HFz.out.far f2 _ _ _, hkid, fun p hp => HFair.out p (List.mem_of_mem_take hp)⟩
                · exact ⟨Hn.out, hbC, by simp only; omega, (hB.set3 HFarB.out f1 _ _ _).set3 HFarB.out f2 _ _ _, by simp [halfB], fun p hp => HFair.out p (List.mem_of_mem_drop hp)⟩
              have r0 : Z2.drew.cell? ⟨w.heap.size + 1, 0, none⟩ = some (.bool false) := Blk.cell HFz.out.r1 0
              have r1 : Z2.drew.cell? ⟨w.heap.size + 1, 1, none⟩ = some (.int .i64 0) := Blk.cell HFz.out.r1 1
              have r2 : Z2.drew.cell? ⟨w.heap.size + 1, 2, none⟩ = some (.slice none 0 0) := Blk.cell HFz.out.r1 2
              have f0 : Z2.drew.frozen? ⟨w.heap.size + 1, 0, none⟩ = false := Blk.frozen HFz.out.r1 0
              have f1 : Z2.drew.frozen? ⟨w.heap.size + 1, 1, none⟩ = false := Blk.frozen HFz.out.r1 1
              have f2 : Z2.drew.frozen? ⟨w.heap.size + 1, 2, none⟩ = false := Blk.frozen HFz.out.r1 2
              have s0 : Z2.drew.cell? ⟨w.heap.size + 1 + 1, 0, none⟩ = some (.bool false) := Blk.cell HFz.out.r2 0
              have s1 : Z2.drew.cell? ⟨w.heap.size + 1 + 1, 1, none⟩ = some (.int .i64 0) := Blk.cell HFz.out.r2 1
              have s2 : Z2.drew.cell? ⟨w.heap.size + 1 + 1, 2, none⟩ = some (.slice none 0 0) := Blk.cell HFz.out.r2 2
              have g0 : Z2.drew.frozen? ⟨w.heap.size + 1 + 1, 0, none⟩ = false := Blk.frozen HFz.out.r2 0
              have g1 : Z2.drew.frozen? ⟨w.heap.size + 1 + 1, 1, none⟩ = false := Blk.frozen HFz.out.r2 1
              have g2 : Z2.drew.frozen? ⟨w.heap.size + 1 + 1, 2, none⟩ = false := Blk.frozen HFz.out.r2 2
              clear D2
              go_upto_region 17 with (fail)
              refine wp_region_ordS [w.heap.size + 1, w.heap.size + 1 + 1] [(0, true), (1, true), (2, true), (3, true), (4, true), (5, true), (6, true), (7, true), (8, false), (9, true), (10, false)] (by kernel_rfl) (by kernel_rfl) (by kernel_rfl) (by kernel_rfl) ?_
              repeat (first | ((refine wpO_F rfl (by rfl) (fun w' hL => exec_load rfl rfl (d0 w' hL)) ?_); try simp only [Act.put, List.setIfInBounds_toArray, List.set_cons_zero, List.set_cons_succ]) | ((refine wpO_F rfl (by rfl) (fun w' hL => exec_load rfl rfl (d1 w' hL)) ?_); try simp only [Act.put, List.setIfInBounds_toArray, List.set_cons_zero, List.set_cons_succ]) | ((refine wpO_F rfl (by rfl) (fun w' hL => exec_load rfl rfl (d2 w' hL)) ?_); try simp only [Act.put, List.setIfInBounds_toArray, List.set_cons_zero, List.set_cons_succ]) | ((refine wpO_F rfl (by rfl) (fun w' hL => exec_load rfl rfl (d3 w' hL)) ?_); try simp only [Act.put, List.setIfInBounds_toArray, List.set_cons_zero, List.set_cons_succ]) | ((refine wpO_F rfl (by rfl) (fun w' hL => exec_load rfl rfl (d4 w' hL)) ?_); try simp only [Act.put, List.setIfInBounds_toArray, List.set_cons_zero, List.set_cons_succ]) | ((refine wpO_F rfl (by rfl) (fun w' hL => exec_load rfl rfl (d5 w' hL)) ?_); try simp only [Act.put, List.setIfInBounds_toArray, List.set_cons_zero, List.set_cons_succ]) | ((refine wpO_F rfl (by rfl) (fun w' hL => exec_load rfl rfl (d6 w' hL)) ?_); try simp only [Act.put, List.setIfInBounds_toArray, List.set_cons_zero, List.set_cons_succ]) | ((refine wpO_F rfl (by rfl) (fun w' hL => exec_load rfl rfl (d7 w' hL)) ?_); try simp only [Act.put, List.setIfInBounds_toArray, List.set_cons_zero, List.set_cons_succ]) | (refine wpO_F (v := ?_) rfl (by rfl) (fun w' hL => ?_) ?_; rotate_left; (solve | (go_simp; with_reducible rfl) | go_simp); try simp only [Act.put, List.setIfInBounds_toArray, List.set_cons_zero, List.set_cons_succ]) | (refine wpO_G' (Chg.refl _) rfl (by rfl) ?_; try simp only [Act.put, List.setIfInBounds_toArray, List.set_cons_zero, List.set_cons_succ]))
              generalize Z2.drew = Z3 at *
              refine wpO_C rfl (by rfl) ?_
              go_simp
              refine ⟨set3_chg (by simp) _ _ _, ?_⟩
              try simp only [Act.put, List.setIfInBounds_toArray, List.set_cons_zero, List.set_cons_succ]
              repeat (first | (refine wpO_F (v := ?_) rfl (by rfl) (fun w' hL => ?_) ?_; rotate_left; (solve | (go_simp; with_reducible rfl) | go_simp); try simp only [Act.put, List.setIfInBounds_toArray, List.set_cons_zero, List.set_cons_succ]) | (refine wpO_G' (Chg.refl _) rfl (by rfl) ?_; try simp only [Act.put, List.setIfInBounds_toArray, List.set_cons_zero, List.set_cons_succ]))
              refine wpO_C rfl (by rfl) ?_
              go_simp
              refine ⟨set3_chg (by simp) _ _ _, ?_⟩
              try simp only [Act.put, List.setIfInBounds_toArray, List.set_cons_zero, List.set_cons_succ]
              refine wpO_nil ?_
              go_wp2
              refine bodyPost_ret (v := .tuple #[.agg #[.bool true, .int .i64 kid, .slice aa i ac], .string xk, .agg #[.bool true, .int .i64 0, .slice bA n bC]]) (by simp [results, Try.results27, go_sem, r0, r1, r2, s0, s1, s2, hzs]) rfl (HFin.out _ _ _ _ _ _)
          · have q3 : decide ((1 : Int) < (k : Int)) = false := by simp; omega
            have HSh : Hid (IsShare ⟨true, kid, l⟩ last k) := ⟨k, HUk.out, HEx.out, by rw [if_neg (by omega)]⟩
            have HF := Lib.hid HX8.out.f
            go_upto_region 11 with (fail)
            clear a0 a1 a2 alt q3
            obtain ⟨Vf, hVf⟩ : ∃ Vf, Y = Vf := ⟨_, rfl⟩
            rw [hVf] at HF
            rw [hVf]
            clear hVf
            obtain ⟨i, hi⟩ : ∃ i, k = i := ⟨_, rfl⟩
            rw [hi] at HF HSh
            clear hi
            have hbd := HSh.out.bd
            have hil : i < l.length := by have := HLL.out; have := HLastl.out; omega
            have hill : i ≤ ll := by have := HLastl.out; omega
            have hx := List.getElem?_eq_getElem hil
            obtain ⟨b', o', he, hb', c0, c1, c2, c3⟩ := partAt HArr.out hil
            simp only [Option.some.injEq, Addr.mk.injEq, and_true] at he
            obtain ⟨rfl, rfl⟩ := he
            have HXi := Lib.hid hx
            obtain ⟨⟨xk, xl, xd, xp⟩, hxx⟩ : ∃ x, l[i] = x := ⟨_, rfl⟩
            rw [hxx] at c0 c1 c2 c3 HXi
            clear hx hxx c1 c2
            simp only at c0 c3
            have hbV : b < Vf.heap.size := Nat.lt_of_lt_of_le hbw HF.out.bel.size
            have c0V : Vf.cell? ⟨b, o + i * 4, none⟩ = some (.string xk) := (HF.out.bel.cell (p := ⟨b, o + i * 4, none⟩) hbw).trans c0
            have c3V : Vf.cell? ⟨b, o + i * 4 + 3, none⟩ = some (.int .i64 xp) := (HF.out.bel.cell (p := ⟨b, o + i * 4 + 3, none⟩) hbw).trans c3
            have y2 : Vf.cell? ⟨ab, 2, none⟩ = some (.slice aa i ac) := HF.out.av.cell 2
            have x0 : Vf.cell? ⟨w.heap.size, 0, none⟩ = some (.bool true) := HF.out.box.cell 0
            have x2 : Vf.cell? ⟨w.heap.size, 2, none⟩ = some (.slice (some ⟨b, o, none⟩) ll lc) := HF.out.box.cell 2
            have ylt := HF.out.av.lt
            have xlt := HF.out.box.lt
            obtain ⟨sa, hsA, hsr⟩ := HArr.out.from 30 65 4 Try.underlying30 sizeOf_part ll lc i (by rw [cellsP_len, ← HLL.out]) hill hcap (by omega)
            have hcd : (cellsP l).drop (i * 4) = cellsP (l.drop i) := by
              unfold cellsP
              rw [cellsOf_drop _ 4 (fun _ => rfl)]
            rw [hcd] at hsA
            clear hcd
            obtain ⟨bb, hbb⟩ : ∃ bb, Vf.heap.size = bb := ⟨_, rfl⟩
            have hV1 : Hid (RHf w (Vf.alloc (.cells #[.bool true, .int .i64 0, .slice none 0 0] 32)) #[.bool true, .int .i64 kid, .slice (some ⟨b, o, none⟩) ll lc] ab true kid l aa i ac ∧ Blk (Vf.alloc (.cells #[.bool true, .int .i64 0, .slice none 0 0] 32)) bb 32 #[.bool true, .int .i64 0, .slice none 0 0] ∧ Below w.heap.size w (Vf.alloc (.cells #[.bool true, .int .i64 0, .slice none 0 0] 32)) ∧ Later Vf (Vf.alloc (.cells #[.bool true, .int .i64 0, .slice none 0 0] 32))) := by
              have LV : Later Vf (Vf.alloc (.cells #[.bool true, .int .i64 0, .slice none 0 0] 32)) := (Below.refl _ Vf).alloc (Nat.le_refl _) _
              refine ⟨⟨HF.out.box.bel LV HF.out.box.lt, HF.out.r1.bel LV HF.out.r1.lt, HF.out.r2.bel LV HF.out.r2.lt, HF.out.av.bel LV HF.out.av.lt, HF.out.arr.later (N := 0) LV, HF.out.far, HF.out.cap, HF.out.bel.trans (Below.mono LV HF.out.bel.size), HF.out.ablt⟩, by rw [← hbb]; exact Blk.new Vf _ _, HF.out.bel.trans (Below.mono LV HF.out.bel.size), LV⟩
            have HBB := Lib.hid hbb
            clear hbb
            go_upto_region 14 with (fail)
            have hbb := HBB.out
            rw [hbb]
            have HC0 := Lib.hid c0
            clear c0V c3V y2 x0 x2 ylt xlt c0 c3
            obtain ⟨V1, hVV⟩ : ∃ V1, (Vf.alloc (.cells #[.bool true, .int .i64 0, .slice none 0 0] 32)) = V1 := ⟨_, rfl⟩
            rw [hVV] at hV1
            rw [hVV]
            clear hVV
            have habV : ab < Vf.heap.size := HF.out.av.lt
            have harA := HF.out.arr
            rw [hbb] at habV hbV harA
            have HarA := Lib.hid harA
            have LVV : Hid (Below bb Vf V1) := by have := hV1.out.2.2.2; unfold Later at this; rw [hbb] at this; exact this
            clear hbb harA
            have e0 : ∀ W, Chg [] V1.drew W → W.cell? ⟨bb, 2, none⟩ = some (.slice none 0 0) := fun W h => (h.undrew.cell hV1.out.2.1.lt (by simp)).trans (hV1.out.2.1.cell 2)
            have e1 : ∀ W, Chg [] V1.drew W → W.cell? ⟨w.heap.size, 2, none⟩ = some (.slice (some ⟨b, o, none⟩) ll lc) := fun W h => (h.undrew.cell hV1.out.1.box.lt (by simp)).trans (hV1.out.1.box.cell 2)


            refine wp_region_ordX [] 8 [(0, true), (1, true), (2, true), (3, true), (4, true), (5, true), (6, false), (7, true)] (by kernel_rfl) (by kernel_rfl) (by kernel_rfl) (by kernel_rfl) ?_
            repeat (first | ((refine wpOX_F rfl (by rfl) (fun w' hL => exec_load rfl rfl (e0 w' hL)) ?_); try simp only [Act.put, List.setIfInBounds_toArray, List.set_cons_zero, List.set_cons_succ]) | ((refine wpOX_F rfl (by rfl) (fun w' hL => exec_load rfl rfl (e1 w' hL)) ?_); try simp only [Act.put, List.setIfInBounds_toArray, List.set_cons_zero, List.set_cons_succ]) | (refine wpOX_F (v := ?_) rfl (by rfl) (fun w' hL => ?_) ?_; rotate_left; (solve | (go_simp; with_reducible rfl) | go_simp); try simp only [Act.put, List.setIfInBounds_toArray, List.set_cons_zero, List.set_cons_succ]) | (refine wpOX_G (Chg.refl _) rfl (by rfl) ?_; try simp only [Act.put, List.setIfInBounds_toArray, List.set_cons_zero, List.set_cons_succ]))
            refine wpOX_C rfl (by rfl) ?_
            refine wp_appS (.tmp 92) (.tmp 96) 30 rfl (bb + 1) 65 iP (.agg #[.string ⟨#[]⟩, .int .i64 0, .string ⟨#[]⟩, .int .i64 0]) 4 48 Try.underlying30 hiP hzP rfl hsP (by omega) hbP (by omega) (.slice none 0 0) 0 [] V1.drew (World.ownsRow_nil _ _ _ _) rfl _ sa (ll - i) (lc - i) (cellsP (l.drop i)) (hsA.below hV1.out.2.2.1.drew) (by rw [cellsP_len, List.length_drop, ← HLL.out]) (one_P _) rfl (by omega) (by have := hV1.out.2.1.lt; exact this) ?_
            intro v' Z hk2 hc2 hb2
            refine ⟨by simpa [Value.ownBlock] using hc2, ?_⟩
            try simp only [Act.put, List.setIfInBounds_toArray, List.set_cons_zero, List.set_cons_succ]
            rw [List.nil_append] at hk2
            obtain ⟨bA, bC, rfl, hbC, _, harB⟩ := own_slice hk2
            have hfarB := own_far hk2
            have LZ : Later V1 Z := by
              have h1 : Chg [] V1.drew Z := by simpa [Value.ownBlock] using hc2
              exact h1.undrew.below (Nat.le_refl _) (by simp)
            have hbv := hV1.out.2.1.bel LZ hV1.out.2.1.lt
            have u1 : Z.cell? ⟨bb, 2, none⟩ = some (.slice none 0 0) := hbv.cell 2
            have u2 : Z.frozen? ⟨bb, 2, none⟩ = false := hbv.frozen 2
            have u3 := hbv.lt
            obtain ⟨n, hn⟩ : ∃ n, 0 + (ll - i) = n := ⟨_, rfl⟩
            rw [hn] at hbC
            have hn' : (ll - i) = n := by omega
            try rw [hn]
            try rw [hn']
            try simp only [hn']
            have HBV0 : Blk (Z.setCell ⟨bb, 2, none⟩ (.slice bA n bC)) bb 32 #[.bool true, .int .i64 0, .slice bA n bC] := by
              have := hbv.set_ 2 (.slice bA n bC)
              simpa using this
            have HBV := Lib.hid HBV0
            clear HBV0
            have hF := hV1.out.1
            have hab3 := hF.ablt
            have hbbab : ab < bb := habV
            have HFz : Hid (RHf w (Z.setCell ⟨bb, 2, none⟩ (.slice bA n bC)) #[.bool true, .int .i64 kid, .slice (some ⟨b, o, none⟩) ll lc] ab true kid l aa i ac) := by
              refine ⟨(hF.box.bel LZ hF.box.lt).far (by omega) _, (hF.r1.bel LZ hF.r1.lt).far (by omega) _, (hF.r2.bel LZ hF.r2.lt).far (by omega) _, (hF.av.bel LZ hF.av.lt).far (by omega) _, ?_, hF.far, hF.cap, Below.setCell (hF.bel.trans (Below.mono LZ hF.bel.size)) (by show w.heap.size ≤ bb; omega) _, hF.ablt⟩
              have h1 := (HarA.out.below LVV.out).below (LZ.mono (by have := hV1.out.2.1.lt; omega))
              exact (h1.set_above (Nat.le_refl _) _).mono (by have := hbv.lt; simp [World.setCell]; omega)
            have HArB : Hid (Arr (Z.setCell ⟨bb, 2, none⟩ (.slice bA n bC)).heap.size (Z.setCell ⟨bb, 2, none⟩ (.slice bA n bC)) bA (cellsP (l.drop i))) := harB.set_far hfarB (Nat.lt_succ_self _)
            have HFarB : Hid (Far (w.heap.size + 1 + 1 + 1) bA (cellsP (l.drop i))) := hfarB.mono (by omega)
            have HKz : Hid ((Z.setCell ⟨bb, 2, none⟩ (.slice bA n bC)).cell? ⟨b, o + i * 4, none⟩ = some (.string xk)) := (HFz.out.bel.cell (p := ⟨b, o + i * 4, none⟩) hbw).trans HC0.out
            clear hk2 hc2 hb2 harB hfarB LZ hbv hF
            repeat (first | ((refine wpOX_F rfl (by rfl) (fun w' hL => exec_load rfl rfl (e0 w' hL)) ?_); try simp only [Act.put, List.setIfInBounds_toArray, List.set_cons_zero, List.set_cons_succ]) | (refine wpOX_F (v := ?_) rfl (by rfl) (fun w' hL => ?_) ?_; rotate_left; (solve | (go_simp; with_reducible rfl) | go_simp); try simp only [Act.put, List.setIfInBounds_toArray, List.set_cons_zero, List.set_cons_succ]) | (refine wpOX_G (Chg.refl _) rfl (by rfl) ?_; try simp only [Act.put, List.setIfInBounds_toArray, List.set_cons_zero, List.set_cons_succ]))
            refine wpOX_end rfl (by rfl) ?_
            go_simp
            simp only [NoPanic]
            clear e0 e1 u1 u2 u3 hsr
            generalize (Z.setCell ⟨bb, 2, none⟩ (.slice bA n bC)) = Z2 at *
            have hnl : n = (l.drop i).length := by rw [List.length_drop, ← HLL.out]; omega
            have Hn := Lib.hid hnl
            have hzs : w.heap.size + 1 + 1 < Z2.drew.heap.size := HFz.out.r2.lt
            have hn6 : n ≤ 60000 := by omega
            have ilt : i < ll := by rw [HLL.out]; exact hil
            have ilt1 : (i : Int) < (ll : Int) := by omega
            have ilt2 : ¬ ll ≤ i := by omega
            have ilt3 : (0 : Int) ≤ (i : Int) := by omega
            clear hnl hn
            have D2 : Hid (∀ W, Chg [w.heap.size + 1, w.heap.size + 1 + 1] Z2.drew W → (W.cell? ⟨ab, 0, none⟩ = some (.bool true) ∧ W.cell? ⟨ab, 1, none⟩ = some (.int .i64 kid) ∧ W.cell? ⟨ab, 2, none⟩ = some (.slice aa i ac)) ∧ (W.cell? ⟨bb, 0, none⟩ = some (.bool true) ∧ W.cell? ⟨bb, 1, none⟩ = some (.int .i64 0) ∧ W.cell? ⟨bb, 2, none⟩ = some (.slice bA n bC)) ∧ W.cell? ⟨w.heap.size, 2, none⟩ = some (.slice (some ⟨b, o, none⟩) ll lc) ∧ W.cell? ⟨b, o + i * 4, none⟩ = some (.string xk)) := by
              intro W hW
              have h1 := HFz.out.av.chg hW.undrew (by simp; omega)
              have h2 := HBV.out.chg hW.undrew (by simp; omega)
              have h3 := HFz.out.box.chg hW.undrew (by simp; omega)
              exact ⟨⟨h1.cell 0, h1.cell 1, h1.cell 2⟩, ⟨h2.cell 0, h2.cell 1, h2.cell 2⟩, h3.cell 2, (hW.undrew.cell (b := b) (Nat.lt_of_lt_of_le hbw HFz.out.bel.size) (by simp; omega)).trans HKz.out⟩
            have d0 : ∀ W, Chg [w.heap.size + 1, w.heap.size + 1 + 1] Z2.drew W → W.cell? ⟨ab, 0, none⟩ = some (.bool true) := fun W h => (D2.out W h).1.1
            have d1 : ∀ W, Chg [w.heap.size + 1, w.heap.size + 1 + 1] Z2.drew W → W.cell? ⟨ab, 1, none⟩ = some (.int .i64 kid) := fun W h => (D2.out W h).1.2.1
            have d2 : ∀ W, Chg [w.heap.size + 1, w.heap.size + 1 + 1] Z2.drew W → W.cell? ⟨ab, 2, none⟩ = some (.slice aa i ac) := fun W h => (D2.out W h).1.2.2
            have d3 : ∀ W, Chg [w.heap.size + 1, w.heap.size + 1 + 1] Z2.drew W → W.cell? ⟨bb, 0, none⟩ = some (.bool true) := fun W h => (D2.out W h).2.1.1
            have d4 : ∀ W, Chg [w.heap.size + 1, w.heap.size + 1 + 1] Z2.drew W → W.cell? ⟨bb, 1, none⟩ = some (.int .i64 0) := fun W h => (D2.out W h).2.1.2.1
            have d5 : ∀ W, Chg [w.heap.size + 1, w.heap.size + 1 + 1] Z2.drew W → W.cell? ⟨bb, 2, none⟩ = some (.slice bA n bC) := fun W h => (D2.out W h).2.1.2.2
            have d6 : ∀ W, Chg [w.heap.size + 1, w.heap.size + 1 + 1] Z2.drew W → W.cell? ⟨w.heap.size, 2, none⟩ = some (.slice (some ⟨b, o, none⟩) ll lc) := fun W h => (D2.out W h).2.2.1
            have d7 : ∀ W, Chg [w.heap.size + 1, w.heap.size + 1 + 1] Z2.drew W → W.cell? ⟨b, o + i * 4, none⟩ = some (.string xk) := fun W h => (D2.out W h).2.2.2
            have HFin : Hid (∀ v0 v1 v2 u0 u1 u2, RR (.returned (.tuple #[.agg #[.bool true, .int .i64 kid, .slice aa i ac], .string xk, .agg #[.bool true, .int .i64 0, .slice bA n bC]])) (set3 (set3 Z2.drew (w.heap.size + 1) v0 v1 v2) (w.heap.size + 1 + 1) u0 u1 u2)) := by
              intro v0 v1 v2 u0 u1 u2
              have f1 : w.heap.size + 1 < w.heap.size + 1 + 1 + 1 := by omega
              have f2 : w.heap.size + 1 + 1 < w.heap.size + 1 + 1 + 1 := by omega
              have hA : Arr Z2.drew.heap.size Z2.drew aa (cellsP (l.take i)) := HFz.out.arr
              have hB : Arr Z2.drew.heap.size Z2.drew bA (cellsP (l.drop i)) := HArB.out
              refine HX.out i ⟨xk, xl, xd, xp⟩ ⟨aa, i, ac⟩ ⟨bA, n, bC⟩ _ HSh.out HXi.out ?_ ?_ (set3_below (set3_below HFz.out.bel.drew (Nat.le_add_right _ 1) _ _ _) (Nat.le_add_right _ 2) _ _ _)
              · exact ⟨by simp only [halfA, List.length_take]; omega, HFz.out.cap, by simp only; omega, (hA.set3 HFz.out.far f1 _ _ _).set3 HFz.out.far f2 _ _ _, hkid, fun p hp => HFair.out p (List.mem_of_mem_take hp)⟩
              · exact ⟨Hn.out, hbC, by simp only; omega, (hB.set3 HFarB.out f1 _ _ _).set3 HFarB.out f2 _ _ _, by simp [halfB], fun p hp => HFair.out p (List.mem_of_mem_drop hp)⟩
            have r0 : Z2.drew.cell? ⟨w.heap.size + 1, 0, none⟩ = some (.bool false) := Blk.cell HFz.out.r1 0
            have r1 : Z2.drew.cell? ⟨w.heap.size + 1, 1, none⟩ = some (.int .i64 0) := Blk.cell HFz.out.r1 1
            have r2 : Z2.drew.cell? ⟨w.heap.size + 1, 2, none⟩ = some (.slice none 0 0) := Blk.cell HFz.out.r1 2
            have f0 : Z2.drew.frozen? ⟨w.heap.size + 1, 0, none⟩ = false := Blk.frozen HFz.out.r1 0
            have f1 : Z2.drew.frozen? ⟨w.heap.size + 1, 1, none⟩ = false := Blk.frozen HFz.out.r1 1
            have f2 : Z2.drew.frozen? ⟨w.heap.size + 1, 2, none⟩ = false := Blk.frozen HFz.out.r1 2
            have s0 : Z2.drew.cell? ⟨w.heap.size + 1 + 1, 0, none⟩ = some (.bool false) := Blk.cell HFz.out.r2 0
            have s1 : Z2.drew.cell? ⟨w.heap.size + 1 + 1, 1, none⟩ = some (.int .i64 0) := Blk.cell HFz.out.r2 1
            have s2 : Z2.drew.cell? ⟨w.heap.size + 1 + 1, 2, none⟩ = some (.slice none 0 0) := Blk.cell HFz.out.r2 2
            have g0 : Z2.drew.frozen? ⟨w.heap.size + 1 + 1, 0, none⟩ = false := Blk.frozen HFz.out.r2 0
            have g1 : Z2.drew.frozen? ⟨w.heap.size + 1 + 1, 1, none⟩ = false := Blk.frozen HFz.out.r2 1
            have g2 : Z2.drew.frozen? ⟨w.heap.size + 1 + 1, 2, none⟩ = false := Blk.frozen HFz.out.r2 2
            clear D2
            go_upto_region 17 with (fail)
            refine wp_region_ordS [w.heap.size + 1, w.heap.size + 1 + 1] [(0, true), (1, true), (2, true), (3, true), (4, true), (5, true), (6, true), (7, true), (8, false), (9, true), (10, false)] (by kernel_rfl) (by kernel_rfl) (by kernel_rfl) (by kernel_rfl) ?_
            repeat (first | ((refine wpO_F rfl (by rfl) (fun w' hL => exec_load rfl rfl (d0 w' hL)) ?_); try simp only [Act.put, List.setIfInBounds_toArray, List.set_cons_zero, List.set_cons_succ]) | ((refine wpO_F rfl (by rfl) (fun w' hL => exec_load rfl rfl (d1 w' hL)) ?_); try simp only [Act.put, List.setIfInBounds_toArray, List.set_cons_zero, List.set_cons_succ]) | ((refine wpO_F rfl (by rfl) (fun w' hL => exec_load rfl rfl (d2 w' hL)) ?_); try simp only [Act.put, List.setIfInBounds_toArray, List.set_cons_zero, List.set_cons_succ]) | ((refine wpO_F rfl (by rfl) (fun w' hL => exec_load rfl rfl (d3 w' hL)) ?_); try simp only [Act.put, List.setIfInBounds_toArray, List.set_cons_zero, List.set_cons_succ]) | ((refine wpO_F rfl (by rfl) (fun w' hL => exec_load rfl rfl (d4 w' hL)) ?_); try simp only [Act.put, List.setIfInBounds_toArray, List.set_cons_zero, List.set_cons_succ]) | ((refine wpO_F rfl (by rfl) (fun w' hL => exec_load rfl rfl (d5 w' hL)) ?_); try simp only [Act.put, List.setIfInBounds_toArray, List.set_cons_zero, List.set_cons_succ]) | ((refine wpO_F rfl (by rfl) (fun w' hL => exec_load rfl rfl (d6 w' hL)) ?_); try simp only [Act.put, List.setIfInBounds_toArray, List.set_cons_zero, List.set_cons_succ]) | ((refine wpO_F rfl (by rfl) (fun w' hL => exec_load rfl rfl (d7 w' hL)) ?_); try simp only [Act.put, List.setIfInBounds_toArray, List.set_cons_zero, List.set_cons_succ]) | (refine wpO_F (v := ?_) rfl (by rfl) (fun w' hL => ?_) ?_; rotate_left; (solve | (go_simp; with_reducible rfl) | go_simp); try simp only [Act.put, List.setIfInBounds_toArray, List.set_cons_zero, List.set_cons_succ]) | (refine wpO_G' (Chg.refl _) rfl (by rfl) ?_; try simp only [Act.put, List.setIfInBounds_toArray, List.set_cons_zero, List.set_cons_succ]))
            generalize Z2.drew = Z3 at *
            refine wpO_C rfl (by rfl) ?_
            go_simp
            refine ⟨set3_chg (by simp) _ _ _, ?_⟩
            try simp only [Act.put, List.setIfInBounds_toArray, List.set_cons_zero, List.set_cons_succ]
            repeat (first | (refine wpO_F (v := ?_) rfl (by rfl) (fun w' hL => ?_) ?_; rotate_left; (solve | (go_simp; with_reducible rfl) | go_simp); try simp only [Act.put, List.setIfInBounds_toArray, List.set_cons_zero, List.set_cons_succ]) | (refine wpO_G' (Chg.refl _) rfl (by rfl) ?_; try simp only [Act.put, List.setIfInBounds_toArray, List.set_cons_zero, List.set_cons_succ]))
            refine wpO_C rfl (by rfl) ?_
            go_simp
            refine ⟨set3_chg (by simp) _ _ _, ?_⟩
            try simp only [Act.put, List.setIfInBounds_toArray, List.set_cons_zero, List.set_cons_succ]
            refine wpO_nil ?_
            go_wp2
            refine bodyPost_ret (v := .tuple #[.agg #[.bool true, .int .i64 kid, .slice aa i ac], .string xk, .agg #[.bool true, .int .i64 0, .slice bA n bC]]) (by simp [results, Try.results27, go_sem, r0, r1, r2, s0, s1, s2, hzs]) rfl (HFin.out _ _ _ _ _ _)
    · have hk1 : 1 ≤ k := by omega
      go_wp2_with fail
      refine wp_region_ord [(0, true), (1, true), (2, true), (3, true), (4, true), (5, true), (6, true), (7, true), (8, true), (9, true), (10, true), (11, true), (15, true), (12, false), (13, true), (14, true), (16, false), (17, true), (18, true), (19, true), (20, true)] (by kernel_rfl) (by kernel_rfl) (by kernel_rfl) (by kernel_rfl) ?_
      repeat (first | (refine wpO_F (v := ?_) rfl (by rfl) (fun w' hL => ?_) ?_; rotate_left; (solve | (go_simp; with_reducible rfl) | go_simp); try simp only [Act.put, List.setIfInBounds_toArray, List.set_cons_zero, List.set_cons_succ]) | (refine wpO_G rfl (by rfl) ?_; try simp only [Act.put, List.setIfInBounds_toArray, List.set_cons_zero, List.set_cons_succ]))
      refine wpO_nil ?_
      clear d0 d1 d2 d3 d4 d5 D hw2
      have HX8 := Lib.hid (HI.out.lat Lwr.out)
      have N2 := Lwr
      have HEx : Hid (k = last ∨ ¬ 2 * lenTo ⟨true, kid, l⟩ k < (encN ⟨true, kid, l⟩).length) := .inl (by omega)
      obtain ⟨Y, hY⟩ : ∃ Y, wr.drew = Y := ⟨_, rfl⟩
      rw [hY] at HX8 N2
      rw [hY]
      clear hY
      have HUk : Hid (IsUp ⟨true, kid, l⟩ last k) := HUp.out hk1
      have a0 : Y.cell? ⟨ab, 0, none⟩ = some (.bool true) := HX8.out.av.cell 0
      have a1 : Y.cell? ⟨ab, 1, none⟩ = some (.int .i64 kid) := HX8.out.av.cell 1
      have a2 : Y.cell? ⟨ab, 2, none⟩ = some (.slice aa k ac) := HX8.out.av.cell 2
      have alt := HX8.out.av.lt
      by_cases h1k : 1 < k
      · have q3 : decide ((1 : Int) < (k : Int)) = true := by simp; omega
        have HBy := Lib.hid (HBak.out hk1 Y N2.out)
        go_wp2_with fail
        refine HBy.out.mono ?_
        rintro e V ⟨va, vc, rfl, LV⟩
        have HXV := Lib.hid (HX8.out.lat LV)
        clear a0 a1 a2 alt q3 LV HBy
        have a2 : V.cell? ⟨ab, 2, none⟩ = some (.slice aa k ac) := HXV.out.av.cell 2
        have af : V.frozen? ⟨ab, 2, none⟩ = false := HXV.out.av.frozen 2
        have alt := HXV.out.av.lt
        by_cases h5 : 512 < T
        · have q5 : decide ((512 : Int) < (T : Int)) = true := by simp; omega
          have HSh : Hid (IsShare ⟨true, kid, l⟩ last (k - 1)) := ⟨k, HUk.out, HEx.out, by rw [HTT.out, if_pos ⟨h5, h1k⟩]⟩
          obtain ⟨i, hi⟩ : ∃ i, k = i + 1 := ⟨k - 1, by omega⟩
          have HXV2 : Hid (RHv w V #[.bool true, .int .i64 kid, .slice (some ⟨b, o, none⟩) ll lc] ab true kid l aa (i + 1) ac) := by rw [← hi]; exact HXV.out
          have HF := Lib.hid HXV2.out.cut
          rw [show k - 1 = i by omega] at HSh
          have hac : k ≤ ac := HXV.out.f.cap
          have hsl := slice_to aa k ac i hi hac
          clear hi
          go_upto_region 11 with (fail)
          obtain ⟨Vf, hVf⟩ : ∃ Vf, V.setCell ⟨ab, 2, none⟩ (.slice aa i ac) = Vf := ⟨_, rfl⟩
          rw [hVf] at HF
          rw [hVf]
          clear hVf a2 af alt q5 hsl
          have hbd := HSh.out.bd
          have hil : i < l.length := by have := HLL.out; have := HLastl.out; omega
          have hill : i ≤ ll := by have := HLastl.out; omega
          have hx := List.getElem?_eq_getElem hil
          obtain ⟨b', o', he, hb', c0, c1, c2, c3⟩ := partAt HArr.out hil
          simp only [Option.some.injEq, Addr.mk.injEq, and_true] at he
          obtain ⟨rfl, rfl⟩ := he
          have HXi := Lib.hid hx
          obtain ⟨⟨xk, xl, xd, xp⟩, hxx⟩ : ∃ x, l[i] = x := ⟨_, rfl⟩
          rw [hxx] at c0 c1 c2 c3 HXi
          clear hx hxx c1 c2
          simp only at c0 c3
          have hbV : b < Vf.heap.size := Nat.lt_of_lt_of_le hbw HF.out.bel.size
          have c0V : Vf.cell? ⟨b, o + i * 4, none⟩ = some (.string xk) := (HF.out.bel.cell (p := ⟨b, o + i * 4, none⟩) hbw).trans c0
          have c3V : Vf.cell? ⟨b, o + i * 4 + 3, none⟩ = some (.int .i64 xp) := (HF.out.bel.cell (p := ⟨b, o + i * 4 + 3, none⟩) hbw).trans c3
          have y2 : Vf.cell? ⟨ab, 2, none⟩ = some (.slice aa i ac) := HF.out.av.cell 2
          have x0 : Vf.cell? ⟨w.heap.size, 0, none⟩ = some (.bool true) := HF.out.box.cell 0
          have x2 : Vf.cell? ⟨w.heap.size, 2, none⟩ = some (.slice (some ⟨b, o, none⟩) ll lc) := HF.out.box.cell 2
          have ylt := HF.out.av.lt
          have xlt := HF.out.box.lt
          obtain ⟨sa, hsA, hsr⟩ := HArr.out.from 30 65 4 Try.underlying30 sizeOf_part ll lc i (by rw [cellsP_len, ← HLL.out]) hill hcap (by omega)
          have hcd : (cellsP l).drop (i * 4) = cellsP (l.drop i) := by
            unfold cellsP
            rw [cellsOf_drop _ 4 (fun _ => rfl)]
          rw [hcd] at hsA
          clear hcd
          obtain ⟨bb, hbb⟩ : ∃ bb, Vf.heap.size = bb := ⟨_, rfl⟩
          have hV1 : Hid (RHf w (Vf.alloc (.cells #[.bool true, .int .i64 0, .slice none 0 0] 32)) #[.bool true, .int .i64 kid, .slice (some ⟨b, o, none⟩) ll lc] ab true kid l aa i ac ∧ Blk (Vf.alloc (.cells #[.bool true, .int .i64 0, .slice none 0 0] 32)) bb 32 #[.bool true, .int .i64 0, .slice none 0 0] ∧ Below w.heap.size w (Vf.alloc (.cells #[.bool true, .int .i64 0, .slice none 0 0] 32)) ∧ Later Vf (Vf.alloc (.cells #[.bool true, .int .i64 0, .slice none 0 0] 32))) := by
            have LV : Later Vf (Vf.alloc (.cells #[.bool true, .int .i64 0, .slice none 0 0] 32)) := (Below.refl _ Vf).alloc (Nat.le_refl _) _
            refine ⟨⟨HF.out.box.bel LV HF.out.box.lt, HF.out.r1.bel LV HF.out.r1.lt, HF.out.r2.bel LV HF.out.r2.lt, HF.out.av.bel LV HF.out.av.lt, HF.out.arr.later (N := 0) LV, HF.out.far, HF.out.cap, HF.out.bel.trans (Below.mono LV HF.out.bel.size), HF.out.ablt⟩, by rw [← hbb]; exact Blk.new Vf _ _, HF.out.bel.trans (Below.mono LV HF.out.bel.size), LV⟩
          have HBB := Lib.hid hbb
          clear hbb
          go_upto_region 14 with (fail)
          have hbb := HBB.out
          rw [hbb]
          have HC0 := Lib.hid c0
          clear c0V c3V y2 x0 x2 ylt xlt c0 c3
          obtain ⟨V1, hVV⟩ : ∃ V1, (Vf.alloc (.cells #[.bool true, .int .i64 0, .slice none 0 0] 32)) = V1 := ⟨_, rfl⟩
          rw [hVV] at hV1
          rw [hVV]
          clear hVV
          have habV : ab < Vf.heap.size := HF.out.av.lt
          have harA := HF.out.arr
          rw [hbb] at habV hbV harA
          have HarA := Lib.hid harA
          have LVV : Hid (Below bb Vf V1) := by have := hV1.out.2.2.2; unfold Later at this; rw [hbb] at this; exact this
          clear hbb harA
          have e0 : ∀ W, Chg [] V1.drew W → W.cell? ⟨bb, 2, none⟩ = some (.slice none 0 0) := fun W h => (h.undrew.cell hV1.out.2.1.lt (by simp)).trans (hV1.out.2.1.cell 2)
          have e1 : ∀ W, Chg [] V1.drew W → W.cell? ⟨w.heap.size, 2, none⟩ = some (.slice (some ⟨b, o, none⟩) ll lc) := fun W h => (h.undrew.cell hV1.out.1.box.lt (by simp)).trans (hV1.out.1.box.cell 2)


          refine wp_region_ordX [] 8 [(0, true), (1, true), (2, true), (3, true), (4, true), (5, true), (6, false), (7, true)] (by kernel_rfl) (by kernel_rfl) (by kernel_rfl) (by kernel_rfl) ?_
          repeat (first | ((refine wpOX_F rfl (by rfl) (fun w' hL => exec_load rfl rfl (e0 w' hL)) ?_); try simp only [Act.put, List.setIfInBounds_toArray, List.set_cons_zero, List.set_cons_succ]) | ((refine wpOX_F rfl (by rfl) (fun w' hL => exec_load rfl rfl (e1 w' hL)) ?_); try simp only [Act.put, List.setIfInBounds_toArray, List.set_cons_zero, List.set_cons_succ]) | (refine wpOX_F (v := ?_) rfl (by rfl) (fun w' hL => ?_) ?_; rotate_left; (solve | (go_simp; with_reducible rfl) | go_simp); try simp only [Act.put, List.setIfInBounds_toArray, List.set_cons_zero, List.set_cons_succ]) | (refine wpOX_G (Chg.refl _) rfl (by rfl) ?_; try simp only [Act.put, List.setIfInBounds_toArray, List.set_cons_zero, List.set_cons_succ]))
          refine wpOX_C rfl (by rfl) ?_
          refine wp_appS (.tmp 92) (.tmp 96) 30 rfl (bb + 1) 65 iP (.agg #[.string ⟨#[]⟩, .int .i64 0, .string ⟨#[]⟩, .int .i64 0]) 4 48 Try.underlying30 hiP hzP rfl hsP (by omega) hbP (by omega) (.slice none 0 0) 0 [] V1.drew (World.ownsRow_nil _ _ _ _) rfl _ sa (ll - i) (lc - i) (cellsP (l.drop i)) (hsA.below hV1.out.2.2.1.drew) (by rw [cellsP_len, List.length_drop, ← HLL.out]) (one_P _) rfl (by omega) (by have := hV1.out.2.1.lt; exact this) ?_
          intro v' Z hk2 hc2 hb2
          refine ⟨by simpa [Value.ownBlock] using hc2, ?_⟩
          try simp only [Act.put, List.setIfInBounds_toArray, List.set_cons_zero, List.set_cons_succ]
          rw [List.nil_append] at hk2
          obtain ⟨bA, bC, rfl, hbC, _, harB⟩ := own_slice hk2
          have hfarB := own_far hk2
          have LZ : Later V1 Z := by
            have h1 : Chg [] V1.drew Z := by simpa [Value.ownBlock] using hc2
            exact h1.undrew.below (Nat.le_refl _) (by simp)
          have hbv := hV1.out.2.1.bel LZ hV1.out.2.1.lt
          have u1 : Z.cell? ⟨bb, 2, none⟩ = some (.slice none 0 0) := hbv.cell 2
          have u2 : Z.frozen? ⟨bb, 2, none⟩ = false := hbv.frozen 2
          have u3 := hbv.lt
          obtain ⟨n, hn⟩ : ∃ n, 0 + (ll - i) = n := ⟨_, rfl⟩
          rw [hn] at hbC
          have hn' : (ll - i) = n := by omega
          try rw [hn]
          try rw [hn']
          try simp only [hn']
          have HBV0 : Blk (Z.setCell ⟨bb, 2, none⟩ (.slice bA n bC)) bb 32 #[.bool true, .int .i64 0, .slice bA n bC] := by
            have := hbv.set_ 2 (.slice bA n bC)
            simpa using this
          have HBV := Lib.hid HBV0
          clear HBV0
          have hF := hV1.out.1
          have hab3 := hF.ablt
          have hbbab : ab < bb := habV
          have HFz : Hid (RHf w (Z.setCell ⟨bb, 2, none⟩ (.slice bA n bC)) #[.bool true, .int .i64 kid, .slice (some ⟨b, o, none⟩) ll lc] ab true kid l aa i ac) := by
            refine ⟨(hF.box.bel LZ hF.box.lt).far (by omega) _, (hF.r1.bel LZ hF.r1.lt).far (by omega) _, (hF.r2.bel LZ hF.r2.lt).far (by omega) _, (hF.av.bel LZ hF.av.lt).far (by omega) _, ?_, hF.far, hF.cap, Below.setCell (hF.bel.trans (Below.mono LZ hF.bel.size)) (by show w.heap.size ≤ bb; omega) _, hF.ablt⟩
            have h1 := (HarA.out.below LVV.out).below (LZ.mono (by have := hV1.out.2.1.lt; omega))
            exact (h1.set_above (Nat.le_refl _) _).mono (by have := hbv.lt; simp [World.setCell]; omega)
          have HArB : Hid (Arr (Z.setCell ⟨bb, 2, none⟩ (.slice bA n bC)).heap.size (Z.setCell ⟨bb, 2, none⟩ (.slice bA n bC)) bA (cellsP (l.drop i))) := harB.set_far hfarB (Nat.lt_succ_self _)
          have HFarB : Hid (Far (w.heap.size + 1 + 1 + 1) bA (cellsP (l.drop i))) := hfarB.mono (by omega)
          have HKz : Hid ((Z.setCell ⟨bb, 2, none⟩ (.slice bA n bC)).cell? ⟨b, o + i * 4, none⟩ = some (.string xk)) := (HFz.out.bel.cell (p := ⟨b, o + i * 4, none⟩) hbw).trans HC0.out
          clear hk2 hc2 hb2 harB hfarB LZ hbv hF
          repeat (first | ((refine wpOX_F rfl (by rfl) (fun w' hL => exec_load rfl rfl (e0 w' hL)) ?_); try simp only [Act.put, List.setIfInBounds_toArray, List.set_cons_zero, List.set_cons_succ]) | (refine wpOX_F (v := ?_) rfl (by rfl) (fun w' hL => ?_) ?_; rotate_left; (solve | (go_simp; with_reducible rfl) | go_simp); try simp only [Act.put, List.setIfInBounds_toArray, List.set_cons_zero, List.set_cons_succ]) | (refine wpOX_G (Chg.refl _) rfl (by rfl) ?_; try simp only [Act.put, List.setIfInBounds_toArray, List.set_cons_zero, List.set_cons_succ]))
          refine wpOX_end rfl (by rfl) ?_
          go_simp
          simp only [NoPanic]
          clear e0 e1 u1 u2 u3 hsr
          generalize (Z.setCell ⟨bb, 2, none⟩ (.slice bA n bC)) = Z2 at *
          have hnl : n = (l.drop i).length := by rw [List.length_drop, ← HLL.out]; omega
          have Hn := Lib.hid hnl
          have hzs : w.heap.size + 1 + 1 < Z2.drew.heap.size := HFz.out.r2.lt
          have hn6 : n ≤ 60000 := by omega
          have ilt : i < ll := by rw [HLL.out]; exact hil
          have ilt1 : (i : Int) < (ll : Int) := by omega
          have ilt2 : ¬ ll ≤ i := by omega
          have ilt3 : (0 : Int) ≤ (i : Int) := by omega
          clear hnl hn
          have D2 : Hid (∀ W, Chg [w.heap.size + 1, w.heap.size + 1 + 1] Z2.drew W → (W.cell? ⟨ab, 0, none⟩ = some (.bool true) ∧ W.cell? ⟨ab, 1, none⟩ = some (.int .i64 kid) ∧ W.cell? ⟨ab, 2, none⟩ = some (.slice aa i ac)) ∧ (W.cell? ⟨bb, 0, none⟩ = some (.bool true) ∧ W.cell? ⟨bb, 1, none⟩ = some (.int .i64 0) ∧ W.cell? ⟨bb, 2, none⟩ = some (.slice bA n bC)) ∧ W.cell? ⟨w.heap.size, 2, none⟩ = some (.slice (some ⟨b, o, none⟩) ll lc) ∧ W.cell? ⟨b, o + i * 4, none⟩ = some (.string xk)) := by
            intro W hW
            have h1 := HFz.out.av.chg hW.undrew (by simp; omega)
            have h2 := HBV.out.chg hW.undrew (by simp; omega)
            have h3 := HFz.out.box.chg hW.undrew (by simp; omega)
            exact ⟨⟨h1.cell 0, h1.cell 1, h1.cell 2⟩, ⟨h2.cell 0, h2.cell 1, h2.cell 2⟩, h3.cell 2, (hW.undrew.cell (b := b) (Nat.lt_of_lt_of_le hbw HFz.out.bel.size) (by simp; omega)).trans HKz.out⟩
          have d0 : ∀ W, Chg [w.heap.size + 1, w.heap.size + 1 + 1] Z2.drew W → W.cell? ⟨ab, 0, none⟩ = some (.bool true) := fun W h => (D2.out W h).1.1
          have d1 : ∀ W, Chg [w.heap.size + 1, w.heap.size + 1 + 1] Z2.drew W → W.cell? ⟨ab, 1, none⟩ = some (.int .i64 kid) := fun W h => (D2.out W h).1.2.1
          have d2 : ∀ W, Chg [w.heap.size + 1, w.heap.size + 1 + 1] Z2.drew W → W.cell? ⟨ab, 2, none⟩ = some (.slice aa i ac) := fun W h => (D2.out W h).1.2.2
          have d3 : ∀ W, Chg [w.heap.size + 1, w.heap.size + 1 + 1] Z2.drew W → W.cell? ⟨bb, 0, none⟩ = some (.bool true) := fun W h => (D2.out W h).2.1.1
          have d4 : ∀ W, Chg [w.heap.size + 1, w.heap.size + 1 + 1] Z2.drew W → W.cell? ⟨bb, 1, none⟩ = some (.int .i64 0) := fun W h => (D2.out W h).2.1.2.1
          have d5 : ∀ W, Chg [w.heap.size + 1, w.heap.size + 1 + 1] Z2.drew W → W.cell? ⟨bb, 2, none⟩ = some (.slice bA n bC) := fun W h => (D2.out W h).2.1.2.2
          have d6 : ∀ W, Chg [w.heap.size + 1, w.heap.size + 1 + 1] Z2.drew W → W.cell? ⟨w.heap.size, 2, none⟩ = some (.slice (some ⟨b, o, none⟩) ll lc) := fun W h => (D2.out W h).2.2.1
          have d7 : ∀ W, Chg [w.heap.size + 1, w.heap.size + 1 + 1] Z2.drew W → W.cell? ⟨b, o + i * 4, none⟩ = some (.string xk) := fun W h => (D2.out W h).2.2.2
          have HFin : Hid (∀ v0 v1 v2 u0 u1 u2, RR (.returned (.tuple #[.agg #[.bool true, .int .i64 kid, .slice aa i ac], .string xk, .agg #[.bool true, .int .i64 0, .slice bA n bC]])) (set3 (set3 Z2.drew (w.heap.size + 1) v0 v1 v2) (w.heap.size + 1 + 1) u0 u1 u2)) := by
            intro v0 v1 v2 u0 u1 u2
            have f1 : w.heap.size + 1 < w.heap.size + 1 + 1 + 1 := by omega
            have f2 : w.heap.size + 1 + 1 < w.heap.size + 1 + 1 + 1 := by omega
            have hA : Arr Z2.drew.heap.size Z2.drew aa (cellsP (l.take i)) := HFz.out.arr
            have hB : Arr Z2.drew.heap.size Z2.drew bA (cellsP (l.drop i)) := HArB.out
            refine HX.out i ⟨xk, xl, xd, xp⟩ ⟨aa, i, ac⟩ ⟨bA, n, bC⟩ _ HSh.out HXi.out ?_ ?_ (set3_below (set3_below HFz.out.bel.drew (Nat.le_add_right _ 1) _ _ _) (Nat.le_add_right _ 2) _ _ _)
            · exact ⟨by simp only [halfA, List.length_take]; omega, HFz.out.cap, by simp only; omega, (hA.set3 HFz.out.far f1 _ _ _).set3 HFz.out.far f2 _ _ _, hkid, fun p hp => HFair.out p (List.mem_of_mem_take hp)⟩
            · exact ⟨Hn.out, hbC, by simp only; omega, (hB.set3 HFarB.out f1 _ _ _).set3 HFarB.out f2 _ _ _, by simp [halfB], fun p hp => HFair.out p (List.mem_of_mem_drop hp)⟩
          have r0 : Z2.drew.cell? ⟨w.heap.size + 1, 0, none⟩ = some (.bool false) := Blk.cell HFz.out.r1 0
          have r1 : Z2.drew.cell? ⟨w.heap.size + 1, 1, none⟩ = some (.int .i64 0) := Blk.cell HFz.out.r1 1
          have r2 : Z2.drew.cell? ⟨w.heap.size + 1, 2, none⟩ = some (.slice none 0 0) := Blk.cell HFz.out.r1 2
          have f0 : Z2.drew.frozen? ⟨w.heap.size + 1, 0, none⟩ = false := Blk.frozen HFz.out.r1 0
          have f1 : Z2.drew.frozen? ⟨w.heap.size + 1, 1, none⟩ = false := Blk.frozen HFz.out.r1 1
          have f2 : Z2.drew.frozen? ⟨w.heap.size + 1, 2, none⟩ = false := Blk.frozen HFz.out.r1 2
          have s0 : Z2.drew.cell? ⟨w.heap.size + 1 + 1, 0, none⟩ = some (.bool false) := Blk.cell HFz.out.r2 0
          have s1 : Z2.drew.cell? ⟨w.heap.size + 1 + 1, 1, none⟩ = some (.int .i64 0) := Blk.cell HFz.out.r2 1
          have s2 : Z2.drew.cell? ⟨w.heap.size + 1 + 1, 2, none⟩ = some (.slice none 0 0) := Blk.cell HFz.out.r2 2
          have g0 : Z2.drew.frozen? ⟨w.heap.size + 1 + 1, 0, none⟩ = false := Blk.frozen HFz.out.r2 0
          have g1 : Z2.drew.frozen? ⟨w.heap.size + 1 + 1, 1, none⟩ = false := Blk.frozen HFz.out.r2 1
          have g2 : Z2.drew.frozen? ⟨w.heap.size + 1 + 1, 2, none⟩ = false := Blk.frozen HFz.out.r2 2
          clear D2
          go_upto_region 17 with (fail)
          refine wp_region_ordS [w.heap.size + 1, w.heap.size + 1 + 1] [(0, true), (1, true), (2, true), (3, true), (4, true), (5, true), (6, true), (7, true), (8, false), (9, true), (10, false)] (by kernel_rfl) (by kernel_rfl) (by kernel_rfl) (by kernel_rfl) ?_
          repeat (first | ((refine wpO_F rfl (by rfl) (fun w' hL => exec_load rfl rfl (d0 w' hL)) ?_); try simp only [Act.put, List.setIfInBounds_toArray, List.set_cons_zero, List.set_cons_succ]) | ((refine wpO_F rfl (by rfl) (fun w' hL => exec_load rfl rfl (d1 w' hL)) ?_); try simp only [Act.put, List.setIfInBounds_toArray, List.set_cons_zero, List.set_cons_succ]) | ((refine wpO_F rfl (by rfl) (fun w' hL => exec_load rfl rfl (d2 w' hL)) ?_); try simp only [Act.put, List.setIfInBounds_toArray, List.set_cons_zero, List.set_cons_succ]) | ((refine wpO_F rfl (by rfl) (fun w' hL => exec_load rfl rfl (d3 w' hL)) ?_); try simp only [Act.put, List.setIfInBounds_toArray, List.set_cons_zero, List.set_cons_succ]) | ((refine wpO_F rfl (by rfl) (fun w' hL => exec_load rfl rfl (d4 w' hL)) ?_); try simp only [Act.put, List.setIfInBounds_toArray, List.set_cons_zero, List.set_cons_succ]) | ((refine wpO_F rfl (by rfl) (fun w' hL => exec_load rfl rfl (d5 w' hL)) ?_); try simp only [Act.put, List.setIfInBounds_toArray, List.set_cons_zero, List.set_cons_succ]) | ((refine wpO_F rfl (by rfl) (fun w' hL => exec_load rfl rfl (d6 w' hL)) ?_); try simp only [Act.put, List.setIfInBounds_toArray, List.set_cons_zero, List.set_cons_succ]) | ((refine wpO_F rfl (by rfl) (fun w' hL => exec_load rfl rfl (d7 w' hL)) ?_); try simp only [Act.put, List.setIfInBounds_toArray, List.set_cons_zero, List.set_cons_succ]) | (refine wpO_F (v := ?_) rfl (by rfl) (fun w' hL => ?_) ?_; rotate_left; (solve | (go_simp; with_reducible rfl) | go_simp); try simp only [Act.put, List.setIfInBounds_toArray, List.set_cons_zero, List.set_cons_succ]) | (refine wpO_G' (Chg.refl _) rfl (by rfl) ?_; try simp only [Act.put, List.setIfInBounds_toArray, List.set_cons_zero, List.set_cons_succ]))
          generalize Z2.drew = Z3 at *
          refine wpO_C rfl (by rfl) ?_
          go_simp
          refine ⟨set3_chg (by simp) _ _ _, ?_⟩
          try simp only [Act.put, List.setIfInBounds_toArray, List.set_cons_zero, List.set_cons_succ]
          repeat (first | (refine wpO_F (v := ?_) rfl (by rfl) (fun w' hL => ?_) ?_; rotate_left; (solve | (go_simp; with_reducible rfl) | go_simp); try simp only [Act.put, List.setIfInBounds_toArray, List.set_cons_zero, List.set_cons_succ]) | (refine wpO_G' (Chg.refl _) rfl (by rfl) ?_; try simp only [Act.put, List.setIfInBounds_toArray, List.set_cons_zero, List.set_cons_succ]))
          refine wpO_C rfl (by rfl) ?_
          go_simp
          refine ⟨set3_chg (by simp) _ _ _, ?_⟩
          try simp only [Act.put, List.setIfInBounds_toArray, List.set_cons_zero, List.set_cons_succ]
          refine wpO_nil ?_
          go_wp2
          refine bodyPost_ret (v := .tuple #[.agg #[.bool true, .int .i64 kid, .slice aa i ac], .string xk, .agg #[.bool true, .int .i64 0, .slice bA n bC]]) (by simp [results, Try.results27, go_sem, r0, r1, r2, s0, s1, s2, hzs]) rfl (HFin.out _ _ _ _ _ _)
        · have q5 : decide ((512 : Int) < (T : Int)) = false := by simp; omega
          have HSh : Hid (IsShare ⟨true, kid, l⟩ last k) := ⟨k, HUk.out, HEx.out, by rw [HTT.out, if_neg (by omega)]⟩
          have HF := Lib.hid HXV.out.f
          go_upto_region 11 with (fail)
          clear a2 af alt q5
          obtain ⟨Vf, hVf⟩ : ∃ Vf, V = Vf := ⟨_, rfl⟩
          rw [hVf] at HF
          rw [hVf]
          clear hVf
          obtain ⟨i, hi⟩ : ∃ i, k = i := ⟨_, rfl⟩
          rw [hi] at HF HSh
          clear hi
          have hbd := HSh.out.bd
          have hil : i < l.length := by have := HLL.out; have := HLastl.out; omega
          have hill : i ≤ ll := by have := HLastl.out; omega
          have hx := List.getElem?_eq_getElem hil
          obtain ⟨b', o', he, hb', c0, c1, c2, c3⟩ := partAt HArr.out hil
          simp only [Option.some.injEq, Addr.mk.injEq, and_true] at he
          obtain ⟨rfl, rfl⟩ := he
          have HXi := Lib.hid hx
          obtain ⟨⟨xk, xl, xd, xp⟩, hxx⟩ : ∃ x, l[i] = x := ⟨_, rfl⟩
          rw [hxx] at c0 c1 c2 c3 HXi
          clear hx hxx c1 c2
          simp only at c0 c3
          have hbV : b < Vf.heap.size := Nat.lt_of_lt_of_le hbw HF.out.bel.size
          have c0V : Vf.cell? ⟨b, o + i * 4, none⟩ = some (.string xk) := (HF.out.bel.cell (p := ⟨b, o + i * 4, none⟩) hbw).trans c0
          have c3V : Vf.cell? ⟨b, o + i * 4 + 3, none⟩ = some (.int .i64 xp) := (HF.out.bel.cell (p := ⟨b, o + i * 4 + 3, none⟩) hbw).trans c3
          have y2 : Vf.cell? ⟨ab, 2, none⟩ = some (.slice aa i ac) := HF.out.av.cell 2
          have x0 : Vf.cell? ⟨w.heap.size, 0, none⟩ = some (.bool true) := HF.out.box.cell 0
          have x2 : Vf.cell? ⟨w.heap.size, 2, none⟩ = some (.slice (some ⟨b, o, none⟩) ll lc) := HF.out.box.cell 2
          have ylt := HF.out.av.lt
          have xlt := HF.out.box.lt
          obtain ⟨sa, hsA, hsr⟩ := HArr.out.from 30 65 4 Try.underlying30 sizeOf_part ll lc i (by rw [cellsP_len, ← HLL.out]) hill hcap (by omega)
          have hcd : (cellsP l).drop (i * 4) = cellsP (l.drop i) := by
            unfold cellsP
            rw [cellsOf_drop _ 4 (fun _ => rfl)]
          rw [hcd] at hsA
          clear hcd
          obtain ⟨bb, hbb⟩ : ∃ bb, Vf.heap.size = bb := ⟨_, rfl⟩
          have hV1 : Hid (RHf w (Vf.alloc (.cells #[.bool true, .int .i64 0, .slice none 0 0] 32)) #[.bool true, .int .i64 kid, .slice (some ⟨b, o, none⟩) ll lc] ab true kid l aa i ac ∧ Blk (Vf.alloc (.cells #[.bool true, .int .i64 0, .slice none 0 0] 32)) bb 32 #[.bool true, .int .i64 0, .slice none 0 0] ∧ Below w.heap.size w (Vf.alloc (.cells #[.bool true, .int .i64 0, .slice none 0 0] 32)) ∧ Later Vf (Vf.alloc (.cells #[.bool true, .int .i64 0, .slice none 0 0] 32))) := by
            have LV : Later Vf (Vf.alloc (.cells #[.bool true, .int .i64 0, .slice none 0 0] 32)) := (Below.refl _ Vf).alloc (Nat.le_refl _) _
            refine ⟨⟨HF.out.box.bel LV HF.out.box.lt, HF.out.r1.bel LV HF.out.r1.lt, HF.out.r2.bel LV HF.out.r2.lt, HF.out.av.bel LV HF.out.av.lt, HF.out.arr.later (N := 0) LV, HF.out.far, HF.out.cap, HF.out.bel.trans (Below.mono LV HF.out.bel.size), HF.out.ablt⟩, by rw [← hbb]; exact Blk.new Vf _ _, HF.out.bel.trans (Below.mono LV HF.out.bel.size), LV⟩
          have HBB := Lib.hid hbb
          clear hbb
          go_upto_region 14 with (fail)
          have hbb := HBB.out
          rw [hbb]
          have HC0 := Lib.hid c0
          clear c0V c3V y2 x0 x2 ylt xlt c0 c3
          obtain ⟨V1, hVV⟩ : ∃ V1, (Vf.alloc (.cells #[.bool true, .int .i64 0, .slice none 0 0] 32)) = V1 := ⟨_, rfl⟩
          rw [hVV] at hV1
          rw [hVV]
          clear hVV
          have habV : ab < Vf.heap.size := HF.out.av.lt
          have harA := HF.out.arr
          rw [hbb] at habV hbV harA
          have HarA := Lib.hid harA
          have LVV : Hid (Below bb Vf V1) := by have := hV1.out.2.2.2; unfold Later at this; rw [hbb] at this; exact this
          clear hbb harA
          have e0 : ∀ W, Chg [] V1.drew W → W.cell? ⟨bb, 2, none⟩ = some (.slice none 0 0) := fun W h => (h.undrew.cell hV1.out.2.1.lt (by simp)).trans (hV1.out.2.1.cell 2)
          have e1 : ∀ W, Chg [] V1.drew W → W.cell? ⟨w.heap.size, 2, none⟩ = some (.slice (some ⟨b, o, none⟩) ll lc) := fun W h => (h.undrew.cell hV1.out.1.box.lt (by simp)).trans (hV1.out.1.box.cell 2)


          refine wp_region_ordX [] 8 [(0, true), (1, true), (2, true), (3, true), (4, true), (5, true), (6, false), (7, true)] (by kernel_rfl) (by kernel_rfl) (by kernel_rfl) (by kernel_rfl) ?_
          repeat (first | ((refine wpOX_F rfl (by rfl) (fun w' hL => exec_load rfl rfl (e0 w' hL)) ?_); try simp only [Act.put, List.setIfInBounds_toArray, List.set_cons_zero, List.set_cons_succ]) | ((refine wpOX_F rfl (by rfl) (fun w' hL => exec_load rfl rfl (e1 w' hL)) ?_); try simp only [Act.put, List.setIfInBounds_toArray, List.set_cons_zero, List.set_cons_succ]) | (refine wpOX_F (v := ?_) rfl (by rfl) (fun w' hL => ?_) ?_; rotate_left; (solve | (go_simp; with_reducible rfl) | go_simp); try simp only [Act.put, List.setIfInBounds_toArray, List.set_cons_zero, List.set_cons_succ]) | (refine wpOX_G (Chg.refl _) rfl (by rfl) ?_; try simp only [Act.put, List.setIfInBounds_toArray, List.set_cons_zero, List.set_cons_succ]))
          refine wpOX_C rfl (by rfl) ?_
          refine wp_appS (.tmp 92) (.tmp 96) 30 rfl (bb + 1) 65 iP (.agg #[.string ⟨#[]⟩, .int .i64 0, .string ⟨#[]⟩, .int .i64 0]) 4 48 Try.underlying30 hiP hzP rfl hsP (by omega) hbP (by omega) (.slice none 0 0) 0 [] V1.drew (World.ownsRow_nil _ _ _ _) rfl _ sa (ll - i) (lc - i) (cellsP (l.drop i)) (hsA.below hV1.out.2.2.1.drew) (by rw [cellsP_len, List.length_drop, ← HLL.out]) (one_P _) rfl (by omega) (by have := hV1.out.2.1.lt; exact this) ?_
          intro v' Z hk2 hc2 hb2
          refine ⟨by simpa [Value.ownBlock] using hc2, ?_⟩
          try simp only [Act.put, List.setIfInBounds_toArray, List.set_cons_zero, List.set_cons_succ]
          rw [List.nil_append] at hk2
          obtain ⟨bA, bC, rfl, hbC, _, harB⟩ := own_slice hk2
          have hfarB := own_far hk2
          have LZ : Later V1 Z := by
            have h1 : Chg [] V1.drew Z := by simpa [Value.ownBlock] using hc2
            exact h1.undrew.below (Nat.le_refl _) (by simp)
          have hbv := hV1.out.2.1.bel LZ hV1.out.2.1.lt
          have u1 : Z.cell? ⟨bb, 2, none⟩ = some (.slice none 0 0) := hbv.cell 2
          have u2 : Z.frozen? ⟨bb, 2, none⟩ = false := hbv.frozen 2
          have u3 := hbv.lt
          obtain ⟨n, hn⟩ : ∃ n, 0 + (ll - i) = n := ⟨_, rfl⟩
          rw [hn] at hbC
          have hn' : (ll - i) = n := by omega
          try rw [hn]
          try rw [hn']
          try simp only [hn']
          have HBV0 : Blk (Z.setCell ⟨bb, 2, none⟩ (.slice bA n bC)) bb 32 #[.bool true, .int .i64 0, .slice bA n bC] := by
            have := hbv.set_ 2 (.slice bA n bC)
            simpa using this
          have HBV := Lib.hid HBV0
          clear HBV0
          have hF := hV1.out.1
          have hab3 := hF.ablt
          have hbbab : ab < bb := habV
          have HFz : Hid (RHf w (Z.setCell ⟨bb, 2, none⟩ (.slice bA n bC)) #[.bool true, .int .i64 kid, .slice (some ⟨b, o, none⟩) ll lc] ab true kid l aa i ac) := by
            refine ⟨(hF.box.bel LZ hF.box.lt).far (by omega) _, (hF.r1.bel LZ hF.r1.lt).far (by omega) _, (hF.r2.bel LZ hF.r2.lt).far (by omega) _, (hF.av.bel LZ hF.av.lt).far (by omega) _, ?_, hF.far, hF.cap, Below.setCell (hF.bel.trans (Below.mono LZ hF.bel.size)) (by show w.heap.size ≤ bb; omega) _, hF.ablt⟩
            have h1 := (HarA.out.below LVV.out).below (LZ.mono (by have := hV1.out.2.1.lt; omega))
            exact (h1.set_above (Nat.le_refl _) _).mono (by have := hbv.lt; simp [World.setCell]; omega)
          have HArB : Hid (Arr (Z.setCell ⟨bb, 2, none⟩ (.slice bA n bC)).heap.size (Z.setCell ⟨bb, 2, none⟩ (.slice bA n bC)) bA (cellsP (l.drop i))) := harB.set_far hfarB (Nat.lt_succ_self _)
          have HFarB : Hid (Far (w.heap.size + 1 + 1 + 1) bA (cellsP (l.drop i))) := hfarB.mono (by omega)
          have HKz : Hid ((Z.setCell ⟨bb, 2, none⟩ (.slice bA n bC)).cell? ⟨b, o + i * 4, none⟩ = some (.string xk)) := (HFz.out.bel.cell (p := ⟨b, o + i * 4, none⟩) hbw).trans HC0.out
          clear hk2 hc2 hb2 harB hfarB LZ hbv hF
          repeat (first | ((refine wpOX_F rfl (by rfl) (fun w' hL => exec_load rfl rfl (e0 w' hL)) ?_); try simp only [Act.put, List.setIfInBounds_toArray, List.set_cons_zero, List.set_cons_succ]) | (refine wpOX_F (v := ?_) rfl (by rfl) (fun w' hL => ?_) ?_; rotate_left; (solve | (go_simp; with_reducible rfl) | go_simp); try simp only [Act.put, List.setIfInBounds_toArray, List.set_cons_zero, List.set_cons_succ]) | (refine wpOX_G (Chg.refl _) rfl (by rfl) ?_; try simp only [Act.put, List.setIfInBounds_toArray, List.set_cons_zero, List.set_cons_succ]))
          refine wpOX_end rfl (by rfl) ?_
          go_simp
          simp only [NoPanic]
          clear e0 e1 u1 u2 u3 hsr
          generalize (Z.setCell ⟨bb, 2, none⟩ (.slice bA n bC)) = Z2 at *
          have hnl : n = (l.drop i).length := by rw [List.length_drop, ← HLL.out]; omega
          have Hn := Lib.hid hnl
          have hzs : w.heap.size + 1 + 1 < Z2.drew.heap.size := HFz.out.r2.lt
          have hn6 : n ≤ 60000 := by omega
          have ilt : i < ll := by rw [HLL.out]; exact hil
          have ilt1 : (i : Int) < (ll : Int) := by omega
          have ilt2 : ¬ ll ≤ i := by omega
          have ilt3 : (0 : Int) ≤ (i : Int) := by omega
          clear hnl hn
          have D2 : Hid (∀ W, Chg [w.heap.size + 1, w.heap.size + 1 + 1] Z2.drew W → (W.cell? ⟨ab, 0, none⟩ = some (.bool true) ∧ W.cell? ⟨ab, 1, none⟩ = some (.int .i64 kid) ∧ W.cell? ⟨ab, 2, none⟩ = some (.slice aa i ac)) ∧ (W.cell? ⟨bb, 0, none⟩ = some (.bool true) ∧ W.cell? ⟨bb, 1, none⟩ = some (.int .i64 0) ∧ W.cell? ⟨bb, 2, none⟩ = some (.slice bA n bC)) ∧ W.cell? ⟨w.heap.size, 2, none⟩ = some (.slice (some ⟨b, o, none⟩) ll lc) ∧ W.cell? ⟨b, o + i * 4, none⟩ = some (.string xk)) := by
            intro W hW
            have h1 := HFz.out.av.chg hW.undrew (by simp; omega)
            have h2 := HBV.out.chg hW.undrew (by simp; omega)
            have h3 := HFz.out.box.chg hW.undrew (by simp; omega)
            exact ⟨⟨h1.cell 0, h1.cell 1, h1.cell 2⟩, ⟨h2.cell 0, h2.cell 1, h2.cell 2⟩, h3.cell 2, (hW.undrew.cell (b := b) (Nat.lt_of_lt_of_le hbw HFz.out.bel.size) (by simp; omega)).trans HKz.out⟩
          have d0 : ∀ W, Chg [w.heap.size + 1, w.heap.size + 1 + 1] Z2.drew W → W.cell? ⟨ab, 0, none⟩ = some (.bool true) := fun W h => (D2.out W h).1.1
          have d1 : ∀ W, Chg [w.heap.size + 1, w.heap.size + 1 + 1] Z2.drew W → W.cell? ⟨ab, 1, none⟩ = some (.int .i64 kid) := fun W h => (D2.out W h).1.2.1
          have d2 : ∀ W, Chg [w.heap.size + 1, w.heap.size + 1 + 1] Z2.drew W → W.cell? ⟨ab, 2, none⟩ = some (.slice aa i ac) := fun W h => (D2.out W h).1.2.2
          have d3 : ∀ W, Chg [w.heap.size + 1, w.heap.size + 1 + 1] Z2.drew W → W.cell? ⟨bb, 0, none⟩ = some (.bool true) := fun W h => (D2.out W h).2.1.1
          have d4 : ∀ W, Chg [w.heap.size + 1, w.heap.size + 1 + 1] Z2.drew W → W.cell? ⟨bb, 1, none⟩ = some (.int .i64 0) := fun W h => (D2.out W h).2.1.2.1
          have d5 : ∀ W, Chg [w.heap.size + 1, w.heap.size + 1 + 1] Z2.drew W → W.cell? ⟨bb, 2, none⟩ = some (.slice bA n bC) := fun W h => (D2.out W h).2.1.2.2
          have d6 : ∀ W, Chg [w.heap.size + 1, w.heap.size + 1 + 1] Z2.drew W → W.cell? ⟨w.heap.size, 2, none⟩ = some (.slice (some ⟨b, o, none⟩) ll lc) := fun W h => (D2.out W h).2.2.1
          have d7 : ∀ W, Chg [w.heap.size + 1, w.heap.size + 1 + 1] Z2.drew W → W.cell? ⟨b, o + i * 4, none⟩ = some (.string xk) := fun W h => (D2.out W h).2.2.2
          have HFin : Hid (∀ v0 v1 v2 u0 u1 u2, RR (.returned (.tuple #[.agg #[.bool true, .int .i64 kid, .slice aa i ac], .string xk, .agg #[.bool true, .int .i64 0, .slice bA n bC]])) (set3 (set3 Z2.drew (w.heap.size + 1) v0 v1 v2) (w.heap.size + 1 + 1) u0 u1 u2)) := by
            intro v0 v1 v2 u0 u1 u2
            have f1 : w.heap.size + 1 < w.heap.size + 1 + 1 + 1 := by omega
            have f2 : w.heap.size + 1 + 1 < w.heap.size + 1 + 1 + 1 := by omega
            have hA : Arr Z2.drew.heap.size Z2.drew aa (cellsP (l.take i)) := HFz.out.arr
            have hB : Arr Z2.drew.heap.size Z2.drew bA (cellsP (l.drop i)) := HArB.out
            refine HX.out i ⟨xk, xl, xd, xp⟩ ⟨aa, i, ac⟩ ⟨bA, n, bC⟩ _ HSh.out HXi.out ?_ ?_ (set3_below (set3_below HFz.out.bel.drew (Nat.le_add_right _ 1) _ _ _) (Nat.le_add_right _ 2) _ _ _)
            · exact ⟨by simp only [halfA, List.length_take]; omega, HFz.out.cap, by simp only; omega, (hA.set3 HFz.out.far f1 _ _ _).set3 HFz.out.far f2 _ _ _, hkid, fun p hp => HFair.out p (List.mem_of_mem_take hp)⟩
            · exact ⟨Hn.out, hbC, by simp only; omega, (hB.set3 HFarB.out f1 _ _ _).set3 HFarB.out f2 _ _ _, by simp [halfB], fun p hp => HFair.out p (List.mem_of_mem_drop hp)⟩
          have r0 : Z2.drew.cell? ⟨w.heap.size + 1, 0, none⟩ = some (.bool false) := Blk.cell HFz.out.r1 0
          have r1 : Z2.drew.cell? ⟨w.heap.size + 1, 1, none⟩ = some (.int .i64 0) := Blk.cell HFz.out.r1 1
          have r2 : Z2.drew.cell? ⟨w.heap.size + 1, 2, none⟩ = some (.slice none 0 0) := Blk.cell HFz.out.r1 2
          have f0 : Z2.drew.frozen? ⟨w.heap.size + 1, 0, none⟩ = false := Blk.frozen HFz.out.r1 0
          have f1 : Z2.drew.frozen? ⟨w.heap.size + 1, 1, none⟩ = false := Blk.frozen HFz.out.r1 1
          have f2 : Z2.drew.frozen? ⟨w.heap.size + 1, 2, none⟩ = false := Blk.frozen HFz.out.r1 2
          have s0 : Z2.drew.cell? ⟨w.heap.size + 1 + 1, 0, none⟩ = some (.bool false) := Blk.cell HFz.out.r2 0
          have s1 : Z2.drew.cell? ⟨w.heap.size + 1 + 1, 1, none⟩ = some (.int .i64 0) := Blk.cell HFz.out.r2 1
          have s2 : Z2.drew.cell? ⟨w.heap.size + 1 + 1, 2, none⟩ = some (.slice none 0 0) := Blk.cell HFz.out.r2 2
          have g0 : Z2.drew.frozen? ⟨w.heap.size + 1 + 1, 0, none⟩ = false := Blk.frozen HFz.out.r2 0
          have g1 : Z2.drew.frozen? ⟨w.heap.size + 1 + 1, 1, none⟩ = false := Blk.frozen HFz.out.r2 1
          have g2 : Z2.drew.frozen? ⟨w.heap.size + 1 + 1, 2, none⟩ = false := Blk.frozen HFz.out.r2 2
          clear D2
          go_upto_region 17 with (fail)
          refine wp_region_ordS [w.heap.size + 1, w.heap.size + 1 + 1] [(0, true), (1, true), (2, true), (3, true), (4, true), (5, true), (6, true), (7, true), (8, false), (9, true), (10, false)] (by kernel_rfl) (by kernel_rfl) (by kernel_rfl) (by kernel_rfl) ?_
          repeat (first | ((refine wpO_F rfl (by rfl) (fun w' hL => exec_load rfl rfl (d0 w' hL)) ?_); try simp only [Act.put, List.setIfInBounds_toArray, List.set_cons_zero, List.set_cons_succ]) | ((refine wpO_F rfl (by rfl) (fun w' hL => exec_load rfl rfl (d1 w' hL)) ?_); try simp only [Act.put, List.setIfInBounds_toArray, List.set_cons_zero, List.set_cons_succ]) | ((refine wpO_F rfl (by rfl) (fun w' hL => exec_load rfl rfl (d2 w' hL)) ?_); try simp only [Act.put, List.setIfInBounds_toArray, List.set_cons_zero, List.set_cons_succ]) | ((refine wpO_F rfl (by rfl) (fun w' hL => exec_load rfl rfl (d3 w' hL)) ?_); try simp only [Act.put, List.setIfInBounds_toArray, List.set_cons_zero, List.set_cons_succ]) | ((refine wpO_F rfl (by rfl) (fun w' hL => exec_load rfl rfl (d4 w' hL)) ?_); try simp only [Act.put, List.setIfInBounds_toArray, List.set_cons_zero, List.set_cons_succ]) | ((refine wpO_F rfl (by rfl) (fun w' hL => exec_load rfl rfl (d5 w' hL)) ?_); try simp only [Act.put, List.setIfInBounds_toArray, List.set_cons_zero, List.set_cons_succ]) | ((refine wpO_F rfl (by rfl) (fun w' hL => exec_load rfl rfl (d6 w' hL)) ?_); try simp only [Act.put, List.setIfInBounds_toArray, List.set_cons_zero, List.set_cons_succ]) | ((refine wpO_F rfl (by rfl) (fun w' hL => exec_load rfl rfl (d7 w' hL)) ?_); try simp only [Act.put, List.setIfInBounds_toArray, List.set_cons_zero, List.set_cons_succ]) | (refine wpO_F (v := ?_) rfl (by rfl) (fun w' hL => ?_) ?_; rotate_left; (solve | (go_simp; with_reducible rfl) | go_simp); try simp only [Act.put, List.setIfInBounds_toArray, List.set_cons_zero, List.set_cons_succ]) | (refine wpO_G' (Chg.refl _) rfl (by rfl) ?_; try simp only [Act.put, List.setIfInBounds_toArray, List.set_cons_zero, List.set_cons_succ]))
          generalize Z2.drew = Z3 at *
          refine wpO_C rfl (by rfl) ?_
          go_simp
          refine ⟨set3_chg (by simp) _ _ _, ?_⟩
          try simp only [Act.put, List.setIfInBounds_toArray, List.set_cons_zero, List.set_cons_succ]
          repeat (first | (refine wpO_F (v := ?_) rfl (by rfl) (fun w' hL => ?_) ?_; rotate_left; (solve | (go_simp; with_reducible rfl) | go_simp); try simp only [Act.put, List.setIfInBounds_toArray, List.set_cons_zero, List.set_cons_succ]) | (refine wpO_G' (Chg.refl _) rfl (by rfl) ?_; try simp only [Act.put, List.setIfInBounds_toArray, List.set_cons_zero, List.set_cons_succ]))
          refine wpO_C rfl (by rfl) ?_
          go_simp
          refine ⟨set3_chg (by simp) _ _ _, ?_⟩
          try simp only [Act.put, List.setIfInBounds_toArray, List.set_cons_zero, List.set_cons_succ]
          refine wpO_nil ?_
          go_wp2
          refine bodyPost_ret (v := .tuple #[.agg #[.bool true, .int .i64 kid, .slice aa i ac], .string xk, .agg #[.bool true, .int .i64 0, .slice bA n bC]]) (by simp [results, Try.results27, go_sem, r0, r1, r2, s0, s1, s2, hzs]) rfl (HFin.out _ _ _ _ _ _)
      · have q3 : decide ((1 : Int) < (k : Int)) = false := by simp; omega
        have HSh : Hid (IsShare ⟨true, kid, l⟩ last k) := ⟨k, HUk.out, HEx.out, by rw [if_neg (by omega)]⟩
        have HF := Lib.hid HX8.out.f
        go_upto_region 11 with (fail)
        clear a0 a1 a2 alt q3
        obtain ⟨Vf, hVf⟩ : ∃ Vf, Y = Vf := ⟨_, rfl⟩
        rw [hVf] at HF
        rw [hVf]
        clear hVf
        obtain ⟨i, hi⟩ : ∃ i, k = i := ⟨_, rfl⟩
        rw [hi] at HF HSh
        clear hi
        have hbd := HSh.out.bd
        have hil : i < l.length := by have := HLL.out; have := HLastl.out; omega
        have hill : i ≤ ll := by have := HLastl.out; omega
        have hx := List.getElem?_eq_getElem hil
        obtain ⟨b', o', he, hb', c0, c1, c2, c3⟩ := partAt HArr.out hil
        simp only [Option.some.injEq, Addr.mk.injEq, and_true] at he
        obtain ⟨rfl, rfl⟩ := he
        have HXi := Lib.hid hx
        obtain ⟨⟨xk, xl, xd, xp⟩, hxx⟩ : ∃ x, l[i] = x := ⟨_, rfl⟩
        rw [hxx] at c0 c1 c2 c3 HXi
        clear hx hxx c1 c2
        simp only at c0 c3
        have hbV : b < Vf.heap.size := Nat.lt_of_lt_of_le hbw HF.out.bel.size
        have c0V : Vf.cell? ⟨b, o + i * 4, none⟩ = some (.string xk) := (HF.out.bel.cell (p := ⟨b, o + i * 4, none⟩) hbw).trans c0
        have c3V : Vf.cell? ⟨b, o + i * 4 + 3, none⟩ = some (.int .i64 xp) := (HF.out.bel.cell (p := ⟨b, o + i * 4 + 3, none⟩) hbw).trans c3
        have y2 : Vf.cell? ⟨ab, 2, none⟩ = some (.slice aa i ac) := HF.out.av.cell 2
        have x0 : Vf.cell? ⟨w.heap.size, 0, none⟩ = some (.bool true) := HF.out.box.cell 0
        have x2 : Vf.cell? ⟨w.heap.size, 2, none⟩ = some (.slice (some ⟨b, o, none⟩) ll lc) := HF.out.box.cell 2
        have ylt := HF.out.av.lt
        have xlt := HF.out.box.lt
        obtain ⟨sa, hsA, hsr⟩ := HArr.out.from 30 65 4 Try.underlying30 sizeOf_part ll lc i (by rw [cellsP_len, ← HLL.out]) hill hcap (by omega)
        have hcd : (cellsP l).drop (i * 4) = cellsP (l.drop i) := by
          unfold cellsP
          rw [cellsOf_drop _ 4 (fun _ => rfl)]
        rw [hcd] at hsA
        clear hcd
        obtain ⟨bb, hbb⟩ : ∃ bb, Vf.heap.size = bb := ⟨_, rfl⟩
        have hV1 : Hid (RHf w (Vf.alloc (.cells #[.bool true, .int .i64 0, .slice none 0 0] 32)) #[.bool true, .int .i64 kid, .slice (some ⟨b, o, none⟩) ll lc] ab true kid l aa i ac ∧ Blk (Vf.alloc (.cells #[.bool true, .int .i64 0, .slice none 0 0] 32)) bb 32 #[.bool true, .int .i64 0, .slice none 0 0] ∧ Below w.heap.size w (Vf.alloc (.cells #[.bool true, .int .i64 0, .slice none 0 0] 32)) ∧ Later Vf (Vf.alloc (.cells #[.bool true, .int .i64 0, .slice none 0 0] 32))) := by
          have LV : Later Vf (Vf.alloc (.cells #[.bool true, .int .i64 0, .slice none 0 0] 32)) := (Below.refl _ Vf).alloc (Nat.le_refl _) _
          refine ⟨⟨HF.out.box.bel LV HF.out.box.lt, HF.out.r1.bel LV HF.out.r1.lt, HF.out.r2.bel LV HF.out.r2.lt, HF.out.av.bel LV HF.out.av.lt, HF.out.arr.later (N := 0) LV, HF.out.far, HF.out.cap, HF.out.bel.trans (Below.mono LV HF.out.bel.size), HF.out.ablt⟩, by rw [← hbb]; exact Blk.new Vf _ _, HF.out.bel.trans (Below.mono LV HF.out.bel.size), LV⟩
        have HBB := Lib.hid hbb
        clear hbb
        go_upto_region 14 with (fail)
        have hbb := HBB.out
        rw [hbb]
        have HC0 := Lib.hid c0
        clear c0V c3V y2 x0 x2 ylt xlt c0 c3
        obtain ⟨V1, hVV⟩ : ∃ V1, (Vf.alloc (.cells #[.bool true, .int .i64 0, .slice none 0 0] 32)) = V1 := ⟨_, rfl⟩
        rw [hVV] at hV1
        rw [hVV]
        clear hVV
        have habV : ab < Vf.heap.size := HF.out.av.lt
        have harA := HF.out.arr
        rw [hbb] at habV hbV harA
        have HarA := Lib.hid harA
        have LVV : Hid (Below bb Vf V1) := by have := hV1.out.2.2.2; unfold Later at this; rw [hbb] at this; exact this
        clear hbb harA
        have e0 : ∀ W, Chg [] V1.drew W → W.cell? ⟨bb, 2, none⟩ = some (.slice none 0 0) := fun W h => (h.undrew.cell hV1.out.2.1.lt (by simp)).trans (hV1.out.2.1.cell 2)
        have e1 : ∀ W, Chg [] V1.drew W → W.cell? ⟨w.heap.size, 2, none⟩ = some (.slice (some ⟨b, o, none⟩) ll lc) := fun W h => (h.undrew.cell hV1.out.1.box.lt (by simp)).trans (hV1.out.1.box.cell 2)


        refine wp_region_ordX [] 8 [(0, true), (1, true), (2, true), (3, true), (4, true), (5, true), (6, false), (7, true)] (by kernel_rfl) (by kernel_rfl) (by kernel_rfl) (by kernel_rfl) ?_
        repeat (first | ((refine wpOX_F rfl (by rfl) (fun w' hL => exec_load rfl rfl (e0 w' hL)) ?_); try simp only [Act.put, List.setIfInBounds_toArray, List.set_cons_zero, List.set_cons_succ]) | ((refine wpOX_F rfl (by rfl) (fun w' hL => exec_load rfl rfl (e1 w' hL)) ?_); try simp only [Act.put, List.setIfInBounds_toArray, List.set_cons_zero, List.set_cons_succ]) | (refine wpOX_F (v := ?_) rfl (by rfl) (fun w' hL => ?_) ?_; rotate_left; (solve | (go_simp; with_reducible rfl) | go_simp); try simp only [Act.put, List.setIfInBounds_toArray, List.set_cons_zero, List.set_cons_succ]) | (refine wpOX_G (Chg.refl _) rfl (by rfl) ?_; try simp only [Act.put, List.setIfInBounds_toArray, List.set_cons_zero, List.set_cons_succ]))
        refine wpOX_C rfl (by rfl) ?_
        refine wp_appS (.tmp 92) (.tmp 96) 30 rfl (bb + 1) 65 iP (.agg #[.string ⟨#[]⟩, .int .i64 0, .string ⟨#[]⟩, .int .i64 0]) 4 48 Try.underlying30 hiP hzP rfl hsP (by omega) hbP (by omega) (.slice none 0 0) 0 [] V1.drew (World.ownsRow_nil _ _ _ _) rfl _ sa (ll - i) (lc - i) (cellsP (l.drop i)) (hsA.below hV1.out.2.2.1.drew) (by rw [cellsP_len, List.length_drop, ← HLL.out]) (one_P _) rfl (by omega) (by have := hV1.out.2.1.lt; exact this) ?_
        intro v' Z hk2 hc2 hb2
        refine ⟨by simpa [Value.ownBlock] using hc2, ?_⟩
        try simp only [Act.put, List.setIfInBounds_toArray, List.set_cons_zero, List.set_cons_succ]
        rw [List.nil_append] at hk2
        obtain ⟨bA, bC, rfl, hbC, _, harB⟩ := own_slice hk2
        have hfarB := own_far hk2
        have LZ : Later V1 Z := by
          have h1 : Chg [] V1.drew Z := by simpa [Value.ownBlock] using hc2
          exact h1.undrew.below (Nat.le_refl _) (by simp)
        have hbv := hV1.out.2.1.bel LZ hV1.out.2.1.lt
        have u1 : Z.cell? ⟨bb, 2, none⟩ = some (.slice none 0 0) := hbv.cell 2
        have u2 : Z.frozen? ⟨bb, 2, none⟩ = false := hbv.frozen 2
        have u3 := hbv.lt
        obtain ⟨n, hn⟩ : ∃ n, 0 + (ll - i) = n := ⟨_, rfl⟩
        rw [hn] at hbC
        have hn' : (ll - i) = n := by omega
        try rw [hn]
        try rw [hn']
        try simp only [hn']
        have HBV0 : Blk (Z.setCell ⟨bb, 2, none⟩ (.slice bA n bC)) bb 32 #[.bool true, .int .i64 0, .slice bA n bC] := by
          have := hbv.set_ 2 (.slice bA n bC)
          simpa using this
        have HBV := Lib.hid HBV0
        clear HBV0
        have hF := hV1.out.1
        have hab3 := hF.ablt
        have hbbab : ab < bb := habV
        have HFz : Hid (RHf w (Z.setCell ⟨bb, 2, none⟩ (.slice bA n bC)) #[.bool true, .int .i64 kid, .slice (some ⟨b, o, none⟩) ll lc] ab true kid l aa i ac) := by
          refine ⟨(hF.box.bel LZ hF.box.lt).far (by omega) _, (hF.r1.bel LZ hF.r1.lt).far (by omega) _, (hF.r2.bel LZ hF.r2.lt).far (by omega) _, (hF.av.bel LZ hF.av.lt).far (by omega) _, ?_, hF.far, hF.cap, Below.setCell (hF.bel.trans (Below.mono LZ hF.bel.size)) (by show w.heap.size ≤ bb; omega) _, hF.ablt⟩
          have h1 := (HarA.out.below LVV.out).below (LZ.mono (by have := hV1.out.2.1.lt; omega))
          exact (h1.set_above (Nat.le_refl _) _).mono (by have := hbv.lt; simp [World.setCell]; omega)
        have HArB : Hid (Arr (Z.setCell ⟨bb, 2, none⟩ (.slice bA n bC)).heap.size (Z.setCell ⟨bb, 2, none⟩ (.slice bA n bC)) bA (cellsP (l.drop i))) := harB.set_far hfarB (Nat.lt_succ_self _)
        have HFarB : Hid (Far (w.heap.size + 1 + 1 + 1) bA (cellsP (l.drop i))) := hfarB.mono (by omega)
        have HKz : Hid ((Z.setCell ⟨bb, 2, none⟩ (.slice bA n bC)).cell? ⟨b, o + i * 4, none⟩ = some (.string xk)) := (HFz.out.bel.cell (p := ⟨b, o + i * 4, none⟩) hbw).trans HC0.out
        clear hk2 hc2 hb2 harB hfarB LZ hbv hF
        repeat (first | ((refine wpOX_F rfl (by rfl) (fun w' hL => exec_load rfl rfl (e0 w' hL)) ?_); try simp only [Act.put, List.setIfInBounds_toArray, List.set_cons_zero, List.set_cons_succ]) | (refine wpOX_F (v := ?_) rfl (by rfl) (fun w' hL => ?_) ?_; rotate_left; (solve | (go_simp; with_reducible rfl) | go_simp); try simp only [Act.put, List.setIfInBounds_toArray, List.set_cons_zero, List.set_cons_succ]) | (refine wpOX_G (Chg.refl _) rfl (by rfl) ?_; try simp only [Act.put, List.setIfInBounds_toArray, List.set_cons_zero, List.set_cons_succ]))
        refine wpOX_end rfl (by rfl) ?_
        go_simp
        simp only [NoPanic]
        clear e0 e1 u1 u2 u3 hsr
        generalize (Z.setCell ⟨bb, 2, none⟩ (.slice bA n bC)) = Z2 at *
        have hnl : n = (l.drop i).length := by rw [List.length_drop, ← HLL.out]; omega
        have Hn := Lib.hid hnl
        have hzs : w.heap.size + 1 + 1 < Z2.drew.heap.size := HFz.out.r2.lt
        have hn6 : n ≤ 60000 := by omega
        have ilt : i < ll := by rw [HLL.out]; exact hil
        have ilt1 : (i : Int) < (ll : Int) := by omega
        have ilt2 : ¬ ll ≤ i := by omega
        have ilt3 : (0 : Int) ≤ (i : Int) := by omega
        clear hnl hn
        have D2 : Hid (∀ W, Chg [w.heap.size + 1, w.heap.size + 1 + 1] Z2.drew W → (W.cell? ⟨ab, 0, none⟩ = some (.bool true) ∧ W.cell? ⟨ab, 1, none⟩ = some (.int .i64 kid) ∧ W.cell? ⟨ab, 2, none⟩ = some (.slice aa i ac)) ∧ (W.cell? ⟨bb, 0, none⟩ = some (.bool true) ∧ W.cell? ⟨bb, 1, none⟩ = some (.int .i64 0) ∧ W.cell? ⟨bb, 2, none⟩ = some (.slice bA n bC)) ∧ W.cell? ⟨w.heap.size, 2, none⟩ = some (.slice (some ⟨b, o, none⟩) ll lc) ∧ W.cell? ⟨b, o + i * 4, none⟩ = some (.string xk)) := by
          intro W hW
          have h1 := HFz.out.av.chg hW.undrew (by simp; omega)
          have h2 := HBV.out.chg hW.undrew (by simp; omega)
          have h3 := HFz.out.box.chg hW.undrew (by simp; omega)
          exact ⟨⟨h1.cell 0, h1.cell 1, h1.cell 2⟩, ⟨h2.cell 0, h2.cell 1, h2.cell 2⟩, h3.cell 2, (hW.undrew.cell (b := b) (Nat.lt_of_lt_of_le hbw HFz.out.bel.size) (by simp; omega)).trans HKz.out⟩
        have d0 : ∀ W, Chg [w.heap.size + 1, w.heap.size + 1 + 1] Z2.drew W → W.cell? ⟨ab, 0, none⟩ = some (.bool true) := fun W h => (D2.out W h).1.1
        have d1 : ∀ W, Chg [w.heap.size + 1, w.heap.size + 1 + 1] Z2.drew W → W.cell? ⟨ab, 1, none⟩ = some (.int .i64 kid) := fun W h => (D2.out W h).1.2.1
        have d2 : ∀ W, Chg [w.heap.size + 1, w.heap.size + 1 + 1] Z2.drew W → W.cell? ⟨ab, 2, none⟩ = some (.slice aa i ac) := fun W h => (D2.out W h).1.2.2
        have d3 : ∀ W, Chg [w.heap.size + 1, w.heap.size + 1 + 1] Z2.drew W → W.cell? ⟨bb, 0, none⟩ = some (.bool true) := fun W h => (D2.out W h).2.1.1
        have d4 : ∀ W, Chg [w.heap.size + 1, w.heap.size + 1 + 1] Z2.drew W → W.cell? ⟨bb, 1, none⟩ = some (.int .i64 0) := fun W h => (D2.out W h).2.1.2.1
        have d5 : ∀ W, Chg [w.heap.size + 1, w.heap.size + 1 + 1] Z2.drew W → W.cell? ⟨bb, 2, none⟩ = some (.slice bA n bC) := fun W h => (D2.out W h).2.1.2.2
        have d6 : ∀ W, Chg [w.heap.size + 1, w.heap.size + 1 + 1] Z2.drew W → W.cell? ⟨w.heap.size, 2, none⟩ = some (.slice (some ⟨b, o, none⟩) ll lc) := fun W h => (D2.out W h).2.2.1
        have d7 : ∀ W, Chg [w.heap.size + 1, w.heap.size + 1 + 1] Z2.drew W → W.cell? ⟨b, o + i * 4, none⟩ = some (.string xk) := fun W h => (D2.out W h).2.2.2
        have HFin : Hid (∀ v0 v1 v2 u0 u1 u2, RR (.returned (.tuple #[.agg #[.bool true, .int .i64 kid, .slice aa i ac], .string xk, .agg #[.bool true, .int .i64 0, .slice bA n bC]])) (set3 (set3 Z2.drew (w.heap.size + 1) v0 v1 v2) (w.heap.size + 1 + 1) u0 u1 u2)) := by
          intro v0 v1 v2 u0 u1 u2
          have f1 : w.heap.size + 1 < w.heap.size + 1 + 1 + 1 := by omega
          have f2 : w.heap.size + 1 + 1 < w.heap.size + 1 + 1 + 1 := by omega
          have hA : Arr Z2.drew.heap.size Z2.drew aa (cellsP (l.take i)) := HFz.out.arr
          have hB : Arr Z2.drew.heap.size Z2.drew bA (cellsP (l.drop i)) := HArB.out
          refine HX.out i ⟨xk, xl, xd, xp⟩ ⟨aa, i, ac⟩ ⟨bA, n, bC⟩ _ HSh.out HXi.out ?_ ?_ (set3_below (set3_below HFz.out.bel.drew (Nat.le_add_right _ 1) _ _ _) (Nat.le_add_right _ 2) _ _ _)
          · exact ⟨by simp only [halfA, List.length_take]; omega, HFz.out.cap, by simp only; omega, (hA.set3 HFz.out.far f1 _ _ _).set3 HFz.out.far f2 _ _ _, hkid, fun p hp => HFair.out p (List.mem_of_mem_take hp)⟩
          · exact ⟨Hn.out, hbC, by simp only; omega, (hB.set3 HFarB.out f1 _ _ _).set3 HFarB.out f2 _ _ _, by simp [halfB], fun p hp => HFair.out p (List.mem_of_mem_drop hp)⟩
        have r0 : Z2.drew.cell? ⟨w.heap.size + 1, 0, none⟩ = some (.bool false) := Blk.cell HFz.out.r1 0
        have r1 : Z2.drew.cell? ⟨w.heap.size + 1, 1, none⟩ = some (.int .i64 0) := Blk.cell HFz.out.r1 1
        have r2 : Z2.drew.cell? ⟨w.heap.size + 1, 2, none⟩ = some (.slice none 0 0) := Blk.cell HFz.out.r1 2
        have f0 : Z2.drew.frozen? ⟨w.heap.size + 1, 0, none⟩ = false := Blk.frozen HFz.out.r1 0
        have f1 : Z2.drew.frozen? ⟨w.heap.size + 1, 1, none⟩ = false := Blk.frozen HFz.out.r1 1
        have f2 : Z2.drew.frozen? ⟨w.heap.size + 1, 2, none⟩ = false := Blk.frozen HFz.out.r1 2
        have s0 : Z2.drew.cell? ⟨w.heap.size + 1 + 1, 0, none⟩ = some (.bool false) := Blk.cell HFz.out.r2 0
        have s1 : Z2.drew.cell? ⟨w.heap.size + 1 + 1, 1, none⟩ = some (.int .i64 0) := Blk.cell HFz.out.r2 1
        have s2 : Z2.drew.cell? ⟨w.heap.size + 1 + 1, 2, none⟩ = some (.slice none 0 0) := Blk.cell HFz.out.r2 2
        have g0 : Z2.drew.frozen? ⟨w.heap.size + 1 + 1, 0, none⟩ = false := Blk.frozen HFz.out.r2 0
        have g1 : Z2.drew.frozen? ⟨w.heap.size + 1 + 1, 1, none⟩ = false := Blk.frozen HFz.out.r2 1
        have g2 : Z2.drew.frozen? ⟨w.heap.size + 1 + 1, 2, none⟩ = false := Blk.frozen HFz.out.r2 2
        clear D2
        go_upto_region 17 with (fail)
        refine wp_region_ordS [w.heap.size + 1, w.heap.size + 1 + 1] [(0, true), (1, true), (2, true), (3, true), (4, true), (5, true), (6, true), (7, true), (8, false), (9, true), (10, false)] (by kernel_rfl) (by kernel_rfl) (by kernel_rfl) (by kernel_rfl) ?_
        repeat (first | ((refine wpO_F rfl (by rfl) (fun w' hL => exec_load rfl rfl (d0 w' hL)) ?_); try simp only [Act.put, List.setIfInBounds_toArray, List.set_cons_zero, List.set_cons_succ]) | ((refine wpO_F rfl (by rfl) (fun w' hL => exec_load rfl rfl (d1 w' hL)) ?_); try simp only [Act.put, List.setIfInBounds_toArray, List.set_cons_zero, List.set_cons_succ]) | ((refine wpO_F rfl (by rfl) (fun w' hL => exec_load rfl rfl (d2 w' hL)) ?_); try simp only [Act.put, List.setIfInBounds_toArray, List.set_cons_zero, List.set_cons_succ]) | ((refine wpO_F rfl (by rfl) (fun w' hL => exec_load rfl rfl (d3 w' hL)) ?_); try simp only [Act.put, List.setIfInBounds_toArray, List.set_cons_zero, List.set_cons_succ]) | ((refine wpO_F rfl (by rfl) (fun w' hL => exec_load rfl rfl (d4 w' hL)) ?_); try simp only [Act.put, List.setIfInBounds_toArray, List.set_cons_zero, List.set_cons_succ]) | ((refine wpO_F rfl (by rfl) (fun w' hL => exec_load rfl rfl (d5 w' hL)) ?_); try simp only [Act.put, List.setIfInBounds_toArray, List.set_cons_zero, List.set_cons_succ]) | ((refine wpO_F rfl (by rfl) (fun w' hL => exec_load rfl rfl (d6 w' hL)) ?_); try simp only [Act.put, List.setIfInBounds_toArray, List.set_cons_zero, List.set_cons_succ]) | ((refine wpO_F rfl (by rfl) (fun w' hL => exec_load rfl rfl (d7 w' hL)) ?_); try simp only [Act.put, List.setIfInBounds_toArray, List.set_cons_zero, List.set_cons_succ]) | (refine wpO_F (v := ?_) rfl (by rfl) (fun w' hL => ?_) ?_; rotate_left; (solve | (go_simp; with_reducible rfl) | go_simp); try simp only [Act.put, List.setIfInBounds_toArray, List.set_cons_zero, List.set_cons_succ]) | (refine wpO_G' (Chg.refl _) rfl (by rfl) ?_; try simp only [Act.put, List.setIfInBounds_toArray, List.set_cons_zero, List.set_cons_succ]))
        generalize Z2.drew = Z3 at *
        refine wpO_C rfl (by rfl) ?_
        go_simp
        refine ⟨set3_chg (by simp) _ _ _, ?_⟩
        try simp only [Act.put, List.setIfInBounds_toArray, List.set_cons_zero, List.set_cons_succ]
        repeat (first | (refine wpO_F (v := ?_) rfl (by rfl) (fun w' hL => ?_) ?_; rotate_left; (solve | (go_simp; with_reducible rfl) | go_simp); try simp only [Act.put, List.setIfInBounds_toArray, List.set_cons_zero, List.set_cons_succ]) | (refine wpO_G' (Chg.refl _) rfl (by rfl) ?_; try simp only [Act.put, List.setIfInBounds_toArray, List.set_cons_zero, List.set_cons_succ]))
        refine wpO_C rfl (by rfl) ?_
        go_simp
        refine ⟨set3_chg (by simp) _ _ _, ?_⟩
        try simp only [Act.put, List.setIfInBounds_toArray, List.set_cons_zero, List.set_cons_succ]
        refine wpO_nil ?_
        go_wp2
        refine bodyPost_ret (v := .tuple #[.agg #[.bool true, .int .i64 kid, .slice aa i ac], .string xk, .agg #[.bool true, .int .i64 0, .slice bA n bC]]) (by simp [results, Try.results27, go_sem, r0, r1, r2, s0, s1, s2, hzs]) rfl (HFin.out _ _ _ _ _ _)
end Go.Proofs.Ytlcphgomhhejbaa
