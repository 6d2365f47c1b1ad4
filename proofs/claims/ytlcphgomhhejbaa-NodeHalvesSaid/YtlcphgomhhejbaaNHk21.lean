/- Several texts of one proof, one behind the other. -/
import Derived.Test.YtlcphgomhhejbaaNHk20
import Derived.Deep.Cut
import Derived.IntWalk
import Derived.OpenShut
import Derived.Lib.SmallJoins

/- The reference's Halve: of an inner node. -/
namespace Go.Proofs.Ytlcphgomhhejbaa
open Go.RowKit

set_option maxRecDepth 100000 in
set_option maxHeartbeats 16000000 in
theorem rHalveI_yes (x : Rn) (m : RB) (w : World) (h : RAt w x m) (hl : x.leaf = false) (hok : x.Ok) (hlen : 2 + 1 ≤ x.l.length) (hbig : m.ll ≤ 60000) :
    Calls Try.prog 27 #[m.v false x.kid] w (RetRH w x) := by
  have HR := fun W (hb : Below w.heap.size w W) => rRight_any x m W (h.later hb)
  rw [hl] at HR
  obtain ⟨iP, hiP, hzP, hsP, hbP⟩ := info_parts info_part
  rw [Rn.ok_yes hok] at HR
  have HR := Lib.hid HR
  have hll := h.hl
  have HX : Hid (∀ (i : Nat) (p : Pt) (ma mb : RB) W, IsShare x (m.ll - 1 - 1) i → x.l[i]? = some p → RAt W (halfA x i) ma → RAt W (halfB x i p) mb → Below w.heap.size w W → RetRH w x (.returned (.tuple #[ma.v (halfA x i).leaf (halfA x i).kid, .string p.key, mb.v (halfB x i p).leaf (halfB x i p).kid])) W) := by
    intro i p ma mb W h1 h2 h3 h4 hb
    refine ⟨_, _, _, ma, mb, rfl, .inr ⟨hok, by rw [show movedR x = 1 by unfold movedR; rw [hl]; rfl]; exact hlen, i, p, ?_, rfl, h2, rfl, rfl⟩, h3, h4, hb⟩
    rw [show movedR x = 1 by unfold movedR; rw [hl]; rfl, ← hll]; exact h1
  have HBn : Hid (∀ W, Below w.heap.size w W → Calls Try.prog 14 #[m.v x.leaf x.kid] W (RetLn W (encN x).length)) := fun W hb => (rBytes_any x m W (h.later hb) hok hbig).mono (RetOwn.ln)
  have HBa : Hid (∀ (k : Nat) (ma : RB) W, 1 ≤ k → RAt W ⟨x.leaf, x.kid, x.l.take k⟩ ma → ma.ll ≤ 60000 → Calls Try.prog 14 #[ma.v x.leaf x.kid] W (RetLn W (lenTo x k))) := by
    intro k ma W hk hat hb
    have := (rBytes_any ⟨x.leaf, x.kid, x.l.take k⟩ ma W hat (hok.take hk) hb).mono (RetOwn.ln)
    rw [encN_take] at this
    exact this
  have HOk := Lib.hid hok
  have HArr := Lib.hid h.arr
  have HFair := Lib.hid h.fair
  have hcap := h.cap
  have hkid := h.kid
  have HLL := Lib.hid hll
  have hE := lenTo_bd hok x.l.length (Nat.le_refl _)
  rw [lenTo_all] at hE
  have HBd := Lib.hid (fun i hi => lenTo_bd hok i hi)
  have HKidB : Hid (∀ p ∈ x.l, -9223372036854775808 ≤ p.page ∧ p.page ≤ 9223372036854775807) := fun p hp => (h.fair p hp).2.2.2
  clear h hok
  obtain ⟨la, ll, lc⟩ := m
  obtain ⟨xf, kid, l⟩ := x
  simp only at *
  subst hl
  obtain ⟨b, o, rfl, hbw, -⟩ := partAt HArr.out (k := 0) (by have := HLL.out; omega)
  generalize hRR : RetRH w ⟨false, kid, l⟩ = RR at *
  clear hRR
  have hl2 : 2 + 1 ≤ ll := by omega
  have hE2 : (encN ⟨false, kid, l⟩).length ≤ 14000000 := by omega
  clear hE hll hlen
  have HB0 : Hid (Below w.heap.size w (((w.alloc (.cells #[.bool false, .int .i64 kid, .slice (some ⟨b, o, none⟩) ll lc] 32)).alloc (.cells #[.bool false, .int .i64 0, .slice none 0 0] 32)).alloc (.cells #[.bool false, .int .i64 0, .slice none 0 0] 32))) := (((Below.refl _ w).alloc (Nat.le_refl _) _).alloc (by simp) _).alloc (by simp; omega) _
  have q1 : decide ((ll : Int) - 1 - 1 < 1) = false := by simp; omega
  go_enter Try.func27, Try.ntmps27
  go_wp2_with fail
  refine (HR.out _ HB0.out).mono ?_
  rintro e w1 ⟨rfl, hb⟩
  have hbx : Below (w.heap.size + 3) _ w1 := hb.mono (by simp)
  have hbe := HB0.out.trans (hb.mono HB0.out.size)
  have hsz : w.heap.size + 1 + 1 < w1.heap.size := by have := hbx.size; simp at this; omega
  obtain ⟨hBa, hBb⟩ := three_blocks w (.cells #[.bool false, .int .i64 kid, .slice (some ⟨b, o, none⟩) ll lc] 32) 32 #[.bool false, .int .i64 0, .slice none 0 0]
  replace hBa := hBa.bel hbx (show w.heap.size + 1 < w.heap.size + 3 by omega)
  replace hBb := hBb.bel hbx (show w.heap.size + 1 + 1 < w.heap.size + 3 by omega)
  have hBx : Blk w1 w.heap.size 32 #[.bool false, .int .i64 kid, .slice (some ⟨b, o, none⟩) ll lc] := (((Blk.new w 32 #[.bool false, .int .i64 kid, .slice (some ⟨b, o, none⟩) ll lc]).alloc _).alloc _).bel hbx (by omega)
  have x0 : w1.cell? ⟨w.heap.size, 0, none⟩ = some (.bool false) := hBx.cell 0
  have x1 : w1.cell? ⟨w.heap.size, 1, none⟩ = some (.int .i64 kid) := hBx.cell 1
  have hxl := hBx.lt
  have HI0 : Hid (RHv w (w1.alloc (.cells #[.bool false, .int .i64 kid, .slice none 0 0] 32)) #[.bool false, .int .i64 kid, .slice (some ⟨b, o, none⟩) ll lc] w1.heap.size false kid l none 0 0) :=
    ⟨hBx.alloc _, hBa.alloc _, hBb.alloc _, Blk.new w1 _ _, World.ownsRow_nil _ _ _ _, hbe.trans ((Below.refl _ w1).alloc (Nat.le_refl _) _ |>.mono hbe.size), hsz⟩
  clear hb hbx hbe hBa hBb hBx HR HB0
  have hab := hsz
  obtain ⟨ab, hABe⟩ : ∃ ab, w1.heap.size = ab := ⟨_, rfl⟩
  rw [hABe] at HI0 hab
  have HABe := Lib.hid hABe
  have HLk0 : Hid (∀ W aa k ac, RHv w W #[.bool false, .int .i64 kid, .slice (some ⟨b, o, none⟩) ll lc] ab false kid l aa k ac → lackR W ab (ll + 1) = ll + 1 - k) := by
    intro W aa k ac hR
    unfold lackR
    rw [(hR.av.cell 2).trans rfl]
    rfl
  clear hsz
  go_upto_region 7 with (fail)
  obtain ⟨last, hlast⟩ : ∃ last : Nat, (ll : Int) - 1 - 1 = (last : Int) := ⟨ll - 1 - 1, by omega⟩
  rw [hlast]
  have hlastN : last = ll - 1 - 1 := by omega
  have hlast1 : 1 ≤ last := by omega
  have hlastl : last + 1 + 1 = ll := by omega
  rw [← hlastN] at HX
  have HLastl := Lib.hid hlastl
  clear hlast hlastN hlastl x0 x1 hxl q1
  go_loopw [36] (fun _ wr => ∃ (k : Nat) (aa : Option Addr) (ac : Nat), k ≤ last ∧ Hid (1 ≤ k → IsUp ⟨false, kid, l⟩ last k) ∧ Hid (RHv w wr #[.bool false, .int .i64 kid, .slice (some ⟨b, o, none⟩) ll lc] ab false kid l aa k ac)) (fun _ wr => lackR wr ab (ll + 1))
  case atStart => exact ⟨0, none, 0, by omega, fun h => absurd h (by omega), HI0⟩
  case round =>
    obtain ⟨k, aa, ac, hk, HUp, HI⟩ := hrel
    have hkll : k < ll := by have := HLastl.out; omega
    have hkl : k < l.length := by have := HLL.out; omega
    have hT : lenTo ⟨false, kid, l⟩ k ≤ 14000000 := by have := HBd.out k (by omega); omega
    have HTk : Hid (∀ T, lenTo ⟨false, kid, l⟩ k = T → Hid (lenTo ⟨false, kid, l⟩ k = T)) := fun T h => h
    have HRa : Hid (RAt wr ⟨false, kid, l.take k⟩ ⟨aa, k, ac⟩) := HI.out.rat (Nat.le_of_lt hkl) (by omega) hkid HFair.out
    obtain ⟨T, hTT⟩ : ∃ T, lenTo ⟨false, kid, l⟩ k = T := ⟨_, rfl⟩
    obtain ⟨E, hEE⟩ : ∃ E, (encN ⟨false, kid, l⟩).length = E := ⟨_, rfl⟩
    have HBak : Hid (1 ≤ k → ∀ W, Later wr W → Calls Try.prog 14 #[.agg #[.bool false, .int .i64 kid, .slice aa k ac]] W (RetLn W T)) := by
      intro h1 W hW
      have := HBa.out k ⟨aa, k, ac⟩ W h1 (HRa.out.later hW) (by simp only; omega)
      rw [hTT] at this
      exact this
    have HBnk : Hid (∀ W, Later wr W → Calls Try.prog 14 #[.agg #[.bool false, .int .i64 kid, .slice (some ⟨b, o, none⟩) ll lc]] W (RetLn W E)) := by
      intro W hW
      have := HBn.out W (HI.out.bel.trans (Below.mono hW HI.out.bel.size))
      rw [hEE] at this
      exact this
    rw [hTT] at hT
    rw [hEE] at hE2
    have HTT := Lib.hid hTT
    have HEE := Lib.hid hEE
    clear hTT hEE HTk
    have D : Hid (∀ W, Later wr.drew W → (W.cell? ⟨ab, 0, none⟩ = some (.bool false) ∧ W.cell? ⟨ab, 1, none⟩ = some (.int .i64 kid) ∧ W.cell? ⟨ab, 2, none⟩ = some (.slice aa k ac)) ∧ W.cell? ⟨w.heap.size, 0, none⟩ = some (.bool false) ∧ W.cell? ⟨w.heap.size, 1, none⟩ = some (.int .i64 kid) ∧ W.cell? ⟨w.heap.size, 2, none⟩ = some (.slice (some ⟨b, o, none⟩) ll lc)) := by
      intro W hW
      have h1 := HI.out.lat (Later.undrew hW)
      exact ⟨⟨h1.av.cell 0, h1.av.cell 1, h1.av.cell 2⟩, h1.box.cell 0, h1.box.cell 1, h1.box.cell 2⟩
    have d0 : ∀ W, Later wr.drew W → W.cell? ⟨ab, 0, none⟩ = some (.bool false) := fun W h => (D.out W h).1.1
    have d1 : ∀ W, Later wr.drew W → W.cell? ⟨ab, 1, none⟩ = some (.int .i64 kid) := fun W h => (D.out W h).1.2.1
    have d2 : ∀ W, Later wr.drew W → W.cell? ⟨ab, 2, none⟩ = some (.slice aa k ac) := fun W h => (D.out W h).1.2.2
    have d3 : ∀ W, Later wr.drew W → W.cell? ⟨w.heap.size, 0, none⟩ = some (.bool false) := fun W h => (D.out W h).2.1
    have d4 : ∀ W, Later wr.drew W → W.cell? ⟨w.heap.size, 1, none⟩ = some (.int .i64 kid) := fun W h => (D.out W h).2.2.1
    have d5 : ∀ W, Later wr.drew W → W.cell? ⟨w.heap.size, 2, none⟩ = some (.slice (some ⟨b, o, none⟩) ll lc) := fun W h => (D.out W h).2.2.2
    have hw2 : IntKind.i64.wrap ((2 : Int) * (T : Int)) = (2 : Int) * (T : Int) := IntWalk.i64_in _ ⟨by omega, by omega⟩
    have Lwr : Hid (Later wr wr.drew) := (Below.refl _ _).drew
    by_cases hkL : k < last
    · by_cases hk0 : k = 0
      · have d2 : ∀ W, Later wr.drew W → W.cell? ⟨ab, 2, none⟩ = some (.slice aa 0 ac) := fun W h => by rw [← hk0]; exact d2 W h
        have HK0 := Lib.hid hk0
        have hlast0 : 0 < last := hlast1
        rename ∀ W, Later wr.drew W → W.cell? ⟨ab, 2, none⟩ = some (.slice aa k ac) => d2old
        clear hk0 d2old
        go_wp2_with fail
        refine wp_region_ord [(0, true), (1, true), (2, true), (3, true), (4, true), (5, true), (6, true), (7, true), (8, true), (9, true), (10, true), (11, true), (15, true), (12, false), (13, true), (14, true), (16, false), (17, true), (18, true), (19, true), (20, true)] (by kernel_rfl) (by kernel_rfl) (by kernel_rfl) (by kernel_rfl) ?_
        repeat (first | (refine wpO_F (v := ?_) rfl (by rfl) (fun w' hL => ?_) ?_; rotate_left; (solve | (go_simp; with_reducible rfl) | go_simp); try simp only [Act.put, List.setIfInBounds_toArray, List.set_cons_zero, List.set_cons_succ]) | (refine wpO_G rfl (by rfl) ?_; try simp only [Act.put, List.setIfInBounds_toArray, List.set_cons_zero, List.set_cons_succ]))
        refine wpO_nil ?_
        clear d0 d1 d2 d3 d4 d5 D hw2
        have HX8 := Lib.hid (HI.out.lat Lwr.out)
        have HU8 : Hid (IsUp ⟨false, kid, l⟩ last (k + 1)) := by rw [HK0.out]; exact IsUp.one hlast1
        obtain ⟨Y, hY⟩ : ∃ Y, wr.drew = Y := ⟨_, rfl⟩
        rw [hY] at HX8
        rw [hY]
        clear hY
        have hS1 : ab ∉ (Value.slice aa k ac).ownBlock.toList := fun hm => own_ne HX8.out.row HX8.out.av (by decide) (by rw [Option.mem_toList] at hm; exact hm)
        have hS2 : w.heap.size ∉ (Value.slice aa k ac).ownBlock.toList := fun hm => own_ne HX8.out.row HX8.out.box (by decide) (by rw [Option.mem_toList] at hm; exact hm)
        have hS3 : b ∉ (Value.slice aa k ac).ownBlock.toList := by
          intro hm
          rw [Option.mem_toList] at hm
          have h1 := (HX8.out.row.lt _ hm).1
          have h2 := HX8.out.ablt
          omega
        have hx := List.getElem?_eq_getElem hkl
        obtain ⟨b', o', he, hb', c0, c1, c2, c3⟩ := partAt HArr.out hkl
        simp only [Option.some.injEq, Addr.mk.injEq, and_true] at he
        obtain ⟨rfl, rfl⟩ := he
        have HXk := Lib.hid hx
        obtain ⟨⟨xk, xl, xd, xp⟩, hxx⟩ : ∃ x, l[k] = x := ⟨_, rfl⟩
        rw [hxx] at c0 c1 c2 c3 HXk
        clear hx hxx
        simp only at c0 c1 c2 c3
        have hbY : b < Y.heap.size := Nat.lt_of_lt_of_le hbw HX8.out.bel.size
        have e0 : ∀ W, Chg (Value.slice aa k ac).ownBlock.toList Y.drew W → W.cell? ⟨ab, 2, none⟩ = some (.slice aa k ac) := fun W h => (h.undrew.cell HX8.out.av.lt hS1).trans (HX8.out.av.cell 2)
        have e1 : ∀ W, Chg (Value.slice aa k ac).ownBlock.toList Y.drew W → W.cell? ⟨w.heap.size, 2, none⟩ = some (.slice (some ⟨b, o, none⟩) ll lc) := fun W h => (h.undrew.cell HX8.out.box.lt hS2).trans (HX8.out.box.cell 2)
        have e2 : ∀ W, Chg (Value.slice aa k ac).ownBlock.toList Y.drew W → W.cell? ⟨b, o + k * 4, none⟩ = some (.string xk) := fun W h => (h.undrew.cell hbY hS3).trans ((HX8.out.bel.cell (p := ⟨b, o + k * 4, none⟩) hbw).trans c0)
        have e3 : ∀ W, Chg (Value.slice aa k ac).ownBlock.toList Y.drew W → W.cell? ⟨b, o + k * 4 + 1, none⟩ = some (.int .i64 xl) := fun W h => (h.undrew.cell hbY hS3).trans ((HX8.out.bel.cell (p := ⟨b, o + k * 4 + 1, none⟩) hbw).trans c1)
        have e4 : ∀ W, Chg (Value.slice aa k ac).ownBlock.toList Y.drew W → W.cell? ⟨b, o + k * 4 + 2, none⟩ = some (.string xd) := fun W h => (h.undrew.cell hbY hS3).trans ((HX8.out.bel.cell (p := ⟨b, o + k * 4 + 2, none⟩) hbw).trans c2)
        have e5 : ∀ W, Chg (Value.slice aa k ac).ownBlock.toList Y.drew W → W.cell? ⟨b, o + k * 4 + 3, none⟩ = some (.int .i64 xp) := fun W h => (h.undrew.cell hbY hS3).trans ((HX8.out.bel.cell (p := ⟨b, o + k * 4 + 3, none⟩) hbw).trans c3)
        go_wp2_with fail
        refine wp_region_ordX (Value.slice aa k ac).ownBlock.toList 12 [(0, true), (1, true), (2, true), (3, true), (4, true), (5, true), (6, true), (7, true), (8, true), (9, false), (10, false), (11, true)] (by kernel_rfl) (by kernel_rfl) (by kernel_rfl) (by kernel_rfl) ?_
        repeat (first | ((refine wpOX_F rfl (by rfl) (fun w' hL => exec_load rfl rfl (e0 w' hL)) ?_); try simp only [Act.put, List.setIfInBounds_toArray, List.set_cons_zero, List.set_cons_succ]) | ((refine wpOX_F rfl (by rfl) (fun w' hL => exec_load rfl rfl (e1 w' hL)) ?_); try simp only [Act.put, List.setIfInBounds_toArray, List.set_cons_zero, List.set_cons_succ]) | ((refine wpOX_F rfl (by rfl) (fun w' hL => exec_load rfl rfl (e2 w' hL)) ?_); try simp only [Act.put, List.setIfInBounds_toArray, List.set_cons_zero, List.set_cons_succ]) | ((refine wpOX_F rfl (by rfl) (fun w' hL => exec_load rfl rfl (e3 w' hL)) ?_); try simp only [Act.put, List.setIfInBounds_toArray, List.set_cons_zero, List.set_cons_succ]) | ((refine wpOX_F rfl (by rfl) (fun w' hL => exec_load rfl rfl (e4 w' hL)) ?_); try simp only [Act.put, List.setIfInBounds_toArray, List.set_cons_zero, List.set_cons_succ]) | ((refine wpOX_F rfl (by rfl) (fun w' hL => exec_load rfl rfl (e5 w' hL)) ?_); try simp only [Act.put, List.setIfInBounds_toArray, List.set_cons_zero, List.set_cons_succ]) | (refine wpOX_F (v := ?_) rfl (by rfl) (fun w' hL => ?_) ?_; rotate_left; (solve | (go_simp; with_reducible rfl) | go_simp); try simp only [Act.put, List.setIfInBounds_toArray, List.set_cons_zero, List.set_cons_succ]) | (refine wpOX_G (Chg.refl _) rfl (by rfl) ?_; try simp only [Act.put, List.setIfInBounds_toArray, List.set_cons_zero, List.set_cons_succ]))
        refine wpOX_C rfl (by rfl) ?_
        go_simp
        refine ⟨(Chg.refl _ _).alloc _, ?_⟩
        try simp only [Act.put, List.setIfInBounds_toArray, List.set_cons_zero, List.set_cons_succ]
        have hX9 := HX8.out.lat ((Below.refl _ _).drew : Later Y Y.drew)
        refine wpOX_C rfl (by rfl) ?_
        refine wp_appC (.tmp 54) (.tmp 62) 30 rfl (ab + 1) 65 iP (.agg #[.string ⟨#[]⟩, .int .i64 0, .string ⟨#[]⟩, .int .i64 0]) 4 48 Try.underlying30 hiP hzP rfl hsP (by omega) hbP (by omega) (.slice aa k ac) k _ [.string xk, .int .i64 xl, .string xd, .int .i64 xp] Y.drew hX9.row rfl _ rfl rfl (by simp [Value.oneCell']) rfl (by omega) (by have := hX9.av.lt; omega) ?_
        intro v' x2 hk2 hc2 hsz2
        refine ⟨hc2, ?_⟩
        try simp only [Act.put, List.setIfInBounds_toArray, List.set_cons_zero, List.set_cons_succ]
        obtain ⟨aa2, ac2, rfl, _, _, _⟩ := own_slice hk2
        obtain ⟨hInv, u1, u2, u3⟩ := hX9.add HXk.out hk2 hc2
        have HInv := Lib.hid hInv
        have HLk2 : Hid (lackR (x2.setCell ⟨ab, 2, none⟩ (.slice aa2 (k + 1) ac2)) ab (ll + 1) = ll + 1 - (k + 1)) := HLk0.out _ _ _ _ hInv
        have HLk1 : Hid (lackR wr ab (ll + 1) = ll + 1 - k) := HLk0.out _ _ _ _ HI.out
        clear hX9 hInv hk2 hc2 hsz2
        repeat (first | ((refine wpOX_F rfl (by rfl) (fun w' hL => exec_load rfl rfl (e0 w' hL)) ?_); try simp only [Act.put, List.setIfInBounds_toArray, List.set_cons_zero, List.set_cons_succ]) | (refine wpOX_F (v := ?_) rfl (by rfl) (fun w' hL => ?_) ?_; rotate_left; (solve | (go_simp; with_reducible rfl) | go_simp); try simp only [Act.put, List.setIfInBounds_toArray, List.set_cons_zero, List.set_cons_succ]) | (refine wpOX_G (Chg.refl _) rfl (by rfl) ?_; try simp only [Act.put, List.setIfInBounds_toArray, List.set_cons_zero, List.set_cons_succ]))
        refine wpOX_end rfl (by rfl) ?_
        go_simp
        simp only [NoPanic]
        clear e0 e1 e2 e3 e4 e5 c0 c1 c2 c3 u1 u2 u3 hS1 hS2 hS3
        generalize (x2.setCell ⟨ab, 2, none⟩ (.slice aa2 (k + 1) ac2)) = X3 at *
        go_wp2
        go_roundw
        case rel => exact ⟨k + 1, aa2, ac2, by omega, fun _ => HU8.out, HInv⟩
        case measure => rw [HLk2.out, HLk1.out]; omega
      · have hk1 : 1 ≤ k := by omega
        have q0 : ((k : Int) == 0) = false := by simp; omega
        by_cases h2 : 2 * T < E
        · have q2 : decide ((2 : Int) * (T : Int) < (E : Int)) = true := by simp; omega
          go_wp2_with fail
          refine wp_region_ord [(0, true), (1, true), (2, true), (3, true), (4, true), (5, true), (6, true), (7, true), (8, true), (9, true), (10, true), (11, true), (15, true), (12, false), (13, true), (14, true), (16, false), (17, true), (18, true), (19, true), (20, true)] (by kernel_rfl) (by kernel_rfl) (by kernel_rfl) (by kernel_rfl) ?_
          repeat (first | (refine wpO_F (v := ?_) rfl (by rfl) (fun w' hL => ?_) ?_; rotate_left; (solve | (go_simp; with_reducible rfl) | go_simp); try simp only [Act.put, List.setIfInBounds_toArray, List.set_cons_zero, List.set_cons_succ]) | (refine wpO_G rfl (by rfl) ?_; try simp only [Act.put, List.setIfInBounds_toArray, List.set_cons_zero, List.set_cons_succ]))
          refine wpO_C rfl (by rfl) ?_
          go_simp
          refine ((HBak.out hk1) _ Lwr.out).mono ?_
          rintro e Y1 ⟨ya, yc, rfl, M1⟩
          refine ⟨M1, ?_⟩
          try simp only [Act.put, List.setIfInBounds_toArray, List.set_cons_zero, List.set_cons_succ]
          have N1 : Hid (Later wr Y1) := Later.trans Lwr.out M1
          repeat (first | (refine wpO_F (v := ?_) rfl (by rfl) (fun w' hL => ?_) ?_; rotate_left; (solve | (go_simp; with_reducible rfl) | go_simp); try simp only [Act.put, List.setIfInBounds_toArray, List.set_cons_zero, List.set_cons_succ]) | (refine wpO_G rfl (by rfl) ?_; try simp only [Act.put, List.setIfInBounds_toArray, List.set_cons_zero, List.set_cons_succ]))
          refine wpO_C rfl (by rfl) ?_
          go_simp
          refine (HBnk.out _ N1.out).mono ?_
          rintro e Y ⟨yb, yd, rfl, M2⟩
          refine ⟨M2, ?_⟩
          try simp only [Act.put, List.setIfInBounds_toArray, List.set_cons_zero, List.set_cons_succ]
          have N2 : Hid (Later wr Y) := Later.trans N1.out M2
          repeat (first | (refine wpO_F (v := ?_) rfl (by rfl) (fun w' hL => ?_) ?_; rotate_left; (solve | (go_simp; with_reducible rfl) | go_simp); try simp only [Act.put, List.setIfInBounds_toArray, List.set_cons_zero, List.set_cons_succ]) | (refine wpO_G rfl (by rfl) ?_; try simp only [Act.put, List.setIfInBounds_toArray, List.set_cons_zero, List.set_cons_succ]))
          refine wpO_nil ?_
          clear d0 d1 d2 d3 d4 d5 D hw2 M1 M2 q0 q2
          have HX8 := Lib.hid (HI.out.lat N2.out)
          have HU8 : Hid (IsUp ⟨false, kid, l⟩ last (k + 1)) := (HUp.out hk1).succ hkL (by rw [HTT.out, HEE.out]; exact h2)
          have hS1 : ab ∉ (Value.slice aa k ac).ownBlock.toList := fun hm => own_ne HX8.out.row HX8.out.av (by decide) (by rw [Option.mem_toList] at hm; exact hm)
          have hS2 : w.heap.size ∉ (Value.slice aa k ac).ownBlock.toList := fun hm => own_ne HX8.out.row HX8.out.box (by decide) (by rw [Option.mem_toList] at hm; exact hm)
          have hS3 : b ∉ (Value.slice aa k ac).ownBlock.toList := by
            intro hm
            rw [Option.mem_toList] at hm
            have h1 := (HX8.out.row.lt _ hm).1
            have h2 := HX8.out.ablt
            omega
          have hx := List.getElem?_eq_getElem hkl
          obtain ⟨b', o', he, hb', c0, c1, c2, c3⟩ := partAt HArr.out hkl
          simp only [Option.some.injEq, Addr.mk.injEq, and_true] at he
          obtain ⟨rfl, rfl⟩ := he
          have HXk := Lib.hid hx
          obtain ⟨⟨xk, xl, xd, xp⟩, hxx⟩ : ∃ x, l[k] = x := ⟨_, rfl⟩
          rw [hxx] at c0 c1 c2 c3 HXk
          clear hx hxx
          simp only at c0 c1 c2 c3
          have hbY : b < Y.heap.size := Nat.lt_of_lt_of_le hbw HX8.out.bel.size
          have e0 : ∀ W, Chg (Value.slice aa k ac).ownBlock.toList Y.drew W → W.cell? ⟨ab, 2, none⟩ = some (.slice aa k ac) := fun W h => (h.undrew.cell HX8.out.av.lt hS1).trans (HX8.out.av.cell 2)
          have e1 : ∀ W, Chg (Value.slice aa k ac).ownBlock.toList Y.drew W → W.cell? ⟨w.heap.size, 2, none⟩ = some (.slice (some ⟨b, o, none⟩) ll lc) := fun W h => (h.undrew.cell HX8.out.box.lt hS2).trans (HX8.out.box.cell 2)
          have e2 : ∀ W, Chg (Value.slice aa k ac).ownBlock.toList Y.drew W → W.cell? ⟨b, o + k * 4, none⟩ = some (.string xk) := fun W h => (h.undrew.cell hbY hS3).trans ((HX8.out.bel.cell (p := ⟨b, o + k * 4, none⟩) hbw).trans c0)
          have e3 : ∀ W, Chg (Value.slice aa k ac).ownBlock.toList Y.drew W → W.cell? ⟨b, o + k * 4 + 1, none⟩ = some (.int .i64 xl) := fun W h => (h.undrew.cell hbY hS3).trans ((HX8.out.bel.cell (p := ⟨b, o + k * 4 + 1, none⟩) hbw).trans c1)
          have e4 : ∀ W, Chg (Value.slice aa k ac).ownBlock.toList Y.drew W → W.cell? ⟨b, o + k * 4 + 2, none⟩ = some (.string xd) := fun W h => (h.undrew.cell hbY hS3).trans ((HX8.out.bel.cell (p := ⟨b, o + k * 4 + 2, none⟩) hbw).trans c2)
          have e5 : ∀ W, Chg (Value.slice aa k ac).ownBlock.toList Y.drew W → W.cell? ⟨b, o + k * 4 + 3, none⟩ = some (.int .i64 xp) := fun W h => (h.undrew.cell hbY hS3).trans ((HX8.out.bel.cell (p := ⟨b, o + k * 4 + 3, none⟩) hbw).trans c3)
          go_wp2_with fail
          refine wp_region_ordX (Value.slice aa k ac).ownBlock.toList 12 [(0, true), (1, true), (2, true), (3, true), (4, true), (5, true), (6, true), (7, true), (8, true), (9, false), (10, false), (11, true)] (by kernel_rfl) (by kernel_rfl) (by kernel_rfl) (by kernel_rfl) ?_
          repeat (first | ((refine wpOX_F rfl (by rfl) (fun w' hL => exec_load rfl rfl (e0 w' hL)) ?_); try simp only [Act.put, List.setIfInBounds_toArray, List.set_cons_zero, List.set_cons_succ]) | ((refine wpOX_F rfl (by rfl) (fun w' hL => exec_load rfl rfl (e1 w' hL)) ?_); try simp only [Act.put, List.setIfInBounds_toArray, List.set_cons_zero, List.set_cons_succ]) | ((refine wpOX_F rfl (by rfl) (fun w' hL => exec_load rfl rfl (e2 w' hL)) ?_); try simp only [Act.put, List.setIfInBounds_toArray, List.set_cons_zero, List.set_cons_succ]) | ((refine wpOX_F rfl (by rfl) (fun w' hL => exec_load rfl rfl (e3 w' hL)) ?_); try simp only [Act.put, List.setIfInBounds_toArray, List.set_cons_zero, List.set_cons_succ]) | ((refine wpOX_F rfl (by rfl) (fun w' hL => exec_load rfl rfl (e4 w' hL)) ?_); try simp only [Act.put, List.setIfInBounds_toArray, List.set_cons_zero, List.set_cons_succ]) | ((refine wpOX_F rfl (by rfl) (fun w' hL => exec_load rfl rfl (e5 w' hL)) ?_); try simp only [Act.put, List.setIfInBounds_toArray, List.set_cons_zero, List.set_cons_succ]) | (refine wpOX_F (v := ?_) rfl (by rfl) (fun w' hL => ?_) ?_; rotate_left; (solve | (go_simp; with_reducible rfl) | go_simp); try simp only [Act.put, List.setIfInBounds_toArray, List.set_cons_zero, List.set_cons_succ]) | (refine wpOX_G (Chg.refl _) rfl (by rfl) ?_; try simp only [Act.put, List.setIfInBounds_toArray, List.set_cons_zero, List.set_cons_succ]))
          refine wpOX_C rfl (by rfl) ?_
          go_simp
          refine ⟨(Chg.refl _ _).alloc _, ?_⟩
          try simp only [Act.put, List.setIfInBounds_toArray, List.set_cons_zero, List.set_cons_succ]
          have hX9 := HX8.out.lat ((Below.refl _ _).drew : Later Y Y.drew)
          refine wpOX_C rfl (by rfl) ?_
          refine wp_appC (.tmp 54) (.tmp 62) 30 rfl (ab + 1) 65 iP (.agg #[.string ⟨#[]⟩, .int .i64 0, .string ⟨#[]⟩, .int .i64 0]) 4 48 Try.underlying30 hiP hzP rfl hsP (by omega) hbP (by omega) (.slice aa k ac) k _ [.string xk, .int .i64 xl, .string xd, .int .i64 xp] Y.drew hX9.row rfl _ rfl rfl (by simp [Value.oneCell']) rfl (by omega) (by have := hX9.av.lt; omega) ?_
          intro v' x2 hk2 hc2 hsz2
          refine ⟨hc2, ?_⟩
          try simp only [Act.put, List.setIfInBounds_toArray, List.set_cons_zero, List.set_cons_succ]
          obtain ⟨aa2, ac2, rfl, _, _, _⟩ := own_slice hk2
          obtain ⟨hInv, u1, u2, u3⟩ := hX9.add HXk.out hk2 hc2
          have HInv := Lib.hid hInv
          have HLk2 : Hid (lackR (x2.setCell ⟨ab, 2, none⟩ (.slice aa2 (k + 1) ac2)) ab (ll + 1) = ll + 1 - (k + 1)) := HLk0.out _ _ _ _ hInv
          have HLk1 : Hid (lackR wr ab (ll + 1) = ll + 1 - k) := HLk0.out _ _ _ _ HI.out
          clear hX9 hInv hk2 hc2 hsz2
          repeat (first | ((refine wpOX_F rfl (by rfl) (fun w' hL => exec_load rfl rfl (e0 w' hL)) ?_); try simp only [Act.put, List.setIfInBounds_toArray, List.set_cons_zero, List.set_cons_succ]) | (refine wpOX_F (v := ?_) rfl (by rfl) (fun w' hL => ?_) ?_; rotate_left; (solve | (go_simp; with_reducible rfl) | go_simp); try simp only [Act.put, List.setIfInBounds_toArray, List.set_cons_zero, List.set_cons_succ]) | (refine wpOX_G (Chg.refl _) rfl (by rfl) ?_; try simp only [Act.put, List.setIfInBounds_toArray, List.set_cons_zero, List.set_cons_succ]))
          refine wpOX_end rfl (by rfl) ?_
          go_simp
          simp only [NoPanic]
          clear e0 e1 e2 e3 e4 e5 c0 c1 c2 c3 u1 u2 u3 hS1 hS2 hS3
          generalize (x2.setCell ⟨ab, 2, none⟩ (.slice aa2 (k + 1) ac2)) = X3 at *
          go_wp2
          go_roundw
          case rel => exact ⟨k + 1, aa2, ac2, by omega, fun _ => HU8.out, HInv⟩
          case measure => rw [HLk2.out, HLk1.out]; omega
        · have q2 : decide ((2 : Int) * (T : Int) < (E : Int)) = false := by simp; omega
          go_wp2_with fail
          refine wp_region_ord [(0, true), (1, true), (2, true), (3, true), (4, true), (5, true), (6, true), (7, true), (8, true), (9, true), (10, true), (11, true), (15, true), (12, false), (13, true), (14, true), (16, false), (17, true), (18, true), (19, true), (20, true)] (by kernel_rfl) (by kernel_rfl) (by kernel_rfl) (by kernel_rfl) ?_
          repeat (first | (refine wpO_F (v := ?_) rfl (by rfl) (fun w' hL => ?_) ?_; rotate_left; (solve | (go_simp; with_reducible rfl) | go_simp); try simp only [Act.put, List.setIfInBounds_toArray, List.set_cons_zero, List.set_cons_succ]) | (refine wpO_G rfl (by rfl) ?_; try simp only [Act.put, List.setIfInBounds_toArray, List.set_cons_zero, List.set_cons_succ]))
          refine wpO_C rfl (by rfl) ?_
          go_simp
          refine ((HBak.out hk1) _ Lwr.out).mono ?_
          rintro e Y1 ⟨ya, yc, rfl, M1⟩
          refine ⟨M1, ?_⟩
          try simp only [Act.put, List.setIfInBounds_toArray, List.set_cons_zero, List.set_cons_succ]
          have N1 : Hid (Later wr Y1) := Later.trans Lwr.out M1
          repeat (first | (refine wpO_F (v := ?_) rfl (by rfl) (fun w' hL => ?_) ?_; rotate_left; (solve | (go_simp; with_reducible rfl) | go_simp); try simp only [Act.put, List.setIfInBounds_toArray, List.set_cons_zero, List.set_cons_succ]) | (refine wpO_G rfl (by rfl) ?_; try simp only [Act.put, List.setIfInBounds_toArray, List.set_cons_zero, List.set_cons_succ]))
          refine wpO_C rfl (by rfl) ?_
          go_simp
          refine (HBnk.out _ N1.out).mono ?_
          rintro e Y ⟨yb, yd, rfl, M2⟩
          refine ⟨M2, ?_⟩
          try simp only [Act.put, List.setIfInBounds_toArray, List.set_cons_zero, List.set_cons_succ]
          have N2 : Hid (Later wr Y) := Later.trans N1.out M2
          repeat (first | (refine wpO_F (v := ?_) rfl (by rfl) (fun w' hL => ?_) ?_; rotate_left; (solve | (go_simp; with_reducible rfl) | go_simp); try simp only [Act.put, List.setIfInBounds_toArray, List.set_cons_zero, List.set_cons_succ]) | (refine wpO_G rfl (by rfl) ?_; try simp only [Act.put, List.setIfInBounds_toArray, List.set_cons_zero, List.set_cons_succ]))
          refine wpO_nil ?_
          clear d0 d1 d2 d3 d4 d5 D hw2 M1 M2 q0 q2
          have HX8 := Lib.hid (HI.out.lat N2.out)
          have HEx : Hid (k = last ∨ ¬ 2 * lenTo ⟨false, kid, l⟩ k < (encN ⟨false, kid, l⟩).length) := .inr (by rw [HTT.out, HEE.out]; exact h2)
          have HUk : Hid (IsUp ⟨false, kid, l⟩ last k) := HUp.out hk1
          have a0 : Y.cell? ⟨ab, 0, none⟩ = some (.bool false) := HX8.out.av.cell 0
          have a1 : Y.cell? ⟨ab, 1, none⟩ = some (.int .i64 kid) := HX8.out.av.cell 1
          have a2 : Y.cell? ⟨ab, 2, none⟩ = some (.slice aa k ac) := HX8.out.av.cell 2
          have alt := HX8.out.av.lt
          by_cases h1k : 1 < k
          · have q3 : decide ((1 : Int) < (k : Int)) = true := by simp; omega
            have HBy := Lib.hid (HBak.out hk1 Y N2.out)
            go_wp2_with fail
            refine HBy.out.mono ?_
            rintro e V ⟨va, vc, rfl, LV⟩
            have HXV := Lib.hid (HX8.out.lat LV)
            clear a0 a1 a2 alt q3 LV HBy
            have a2 : V.cell? ⟨ab, 2, none⟩ = some (.slice aa k ac) := HXV.out.av.cell 2
            have af : V.frozen? ⟨ab, 2, none⟩ = false := HXV.out.av.frozen 2
            have alt := HXV.out.av.lt
            by_cases h5 : 512 < T
            · have q5 : decide ((512 : Int) < (T : Int)) = true := by simp; omega
              have HSh : Hid (IsShare ⟨false, kid, l⟩ last (k - 1)) := ⟨k, HUk.out, HEx.out, by rw [HTT.out, if_pos ⟨h5, h1k⟩]⟩
              obtain ⟨i, hi⟩ : ∃ i, k = i + 1 := ⟨k - 1, by omega⟩
              have HXV2 : Hid (RHv w V #[.bool false, .int .i64 kid, .slice (some ⟨b, o, none⟩) ll lc] ab false kid l aa (i + 1) ac) := by rw [← hi]; exact HXV.out
              have HF := Lib.hid HXV2.out.cut
              rw [show k - 1 = i by omega] at HSh
              have hac : k ≤ ac := HXV.out.f.cap
              have hsl := slice_to aa k ac i hi hac
              clear hi
              go_upto_region 11 with (fail)
              obtain ⟨Vf, hVf⟩ : ∃ Vf, V.setCell ⟨ab, 2, none⟩ (.slice aa i ac) = Vf := ⟨_, rfl⟩
              rw [hVf] at HF
              rw [hVf]
              clear hVf a2 af alt q5 hsl
              have hbd := HSh.out.bd
              have hil : i < l.length := by have := HLL.out; have := HLastl.out; omega
              have hill : (i + 1) ≤ ll := by have := HLastl.out; omega
              have hx := List.getElem?_eq_getElem hil
              obtain ⟨b', o', he, hb', c0, c1, c2, c3⟩ := partAt HArr.out hil
              simp only [Option.some.injEq, Addr.mk.injEq, and_true] at he
              obtain ⟨rfl, rfl⟩ := he
              have HXi := Lib.hid hx
              obtain ⟨⟨xk, xl, xd, xp⟩, hxx⟩ : ∃ x, l[i] = x := ⟨_, rfl⟩
              rw [hxx] at c0 c1 c2 c3 HXi
              clear hx hxx c1 c2
              simp only at c0 c3
              have hbV : b < Vf.heap.size := Nat.lt_of_lt_of_le hbw HF.out.bel.size
              have c0V : Vf.cell? ⟨b, o + i * 4, none⟩ = some (.string xk) := (HF.out.bel.cell (p := ⟨b, o + i * 4, none⟩) hbw).trans c0
              have c3V : Vf.cell? ⟨b, o + i * 4 + 3, none⟩ = some (.int .i64 xp) := (HF.out.bel.cell (p := ⟨b, o + i * 4 + 3, none⟩) hbw).trans c3
              have y2 : Vf.cell? ⟨ab, 2, none⟩ = some (.slice aa i ac) := HF.out.av.cell 2
              have x0 : Vf.cell? ⟨w.heap.size, 0, none⟩ = some (.bool false) := HF.out.box.cell 0
              have x2 : Vf.cell? ⟨w.heap.size, 2, none⟩ = some (.slice (some ⟨b, o, none⟩) ll lc) := HF.out.box.cell 2
              have ylt := HF.out.av.lt
              have xlt := HF.out.box.lt
              obtain ⟨sa, hsA, hsr⟩ := HArr.out.from 30 65 4 Try.underlying30 sizeOf_part ll lc (i + 1) (by rw [cellsP_len, ← HLL.out]) hill hcap (by omega)
              have hcd : (cellsP l).drop ((i + 1) * 4) = cellsP (l.drop (i + 1)) := by
                unfold cellsP
                rw [cellsOf_drop _ 4 (fun _ => rfl)]
              rw [hcd] at hsA
              clear hcd
              obtain ⟨bb, hbb⟩ : ∃ bb, Vf.heap.size = bb := ⟨_, rfl⟩
              have hV1 : Hid (RHf w (Vf.alloc (.cells #[.bool false, .int .i64 xp, .slice none 0 0] 32)) #[.bool false, .int .i64 kid, .slice (some ⟨b, o, none⟩) ll lc] ab false kid l aa i ac ∧ Blk (Vf.alloc (.cells #[.bool false, .int .i64 xp, .slice none 0 0] 32)) bb 32 #[.bool false, .int .i64 xp, .slice none 0 0] ∧ Below w.heap.size w (Vf.alloc (.cells #[.bool false, .int .i64 xp, .slice none 0 0] 32)) ∧ Later Vf (Vf.alloc (.cells #[.bool false, .int .i64 xp, .slice none 0 0] 32))) := by
                have LV : Later Vf (Vf.alloc (.cells #[.bool false, .int .i64 xp, .slice none 0 0] 32)) := (Below.refl _ Vf).alloc (Nat.le_refl _) _
                refine ⟨⟨HF.out.box.bel LV HF.out.box.lt, HF.out.r1.bel LV HF.out.r1.lt, HF.out.r2.bel LV HF.out.r2.lt, HF.out.av.bel LV HF.out.av.lt, HF.out.arr.later (N := 0) LV, HF.out.far, HF.out.cap, HF.out.bel.trans (Below.mono LV HF.out.bel.size), HF.out.ablt⟩, by rw [← hbb]; exact Blk.new Vf _ _, HF.out.bel.trans (Below.mono LV HF.out.bel.size), LV⟩
              have HBB := Lib.hid hbb
              clear hbb
              go_upto_region 16 with (fail)
              have hbb := HBB.out
              rw [hbb]
              have HC0 := Lib.hid c0
              clear c0V c3V y2 x0 x2 ylt xlt c0 c3
              obtain ⟨V1, hVV⟩ : ∃ V1, (Vf.alloc (.cells #[.bool false, .int .i64 xp, .slice none 0 0] 32)) = V1 := ⟨_, rfl⟩
              rw [hVV] at hV1
              rw [hVV]
              clear hVV
              have habV : ab < Vf.heap.size := HF.out.av.lt
              have harA := HF.out.arr
              rw [hbb] at habV hbV harA
              have HarA := Lib.hid harA
              have LVV : Hid (Below bb Vf V1) := by have := hV1.out.2.2.2; unfold Later at this; rw [hbb] at this; exact this
              clear hbb harA
              have e0 : ∀ W, Chg [] V1.drew W → W.cell? ⟨bb, 2, none⟩ = some (.slice none 0 0) := fun W h => (h.undrew.cell hV1.out.2.1.lt (by simp)).trans (hV1.out.2.1.cell 2)
              have e1 : ∀ W, Chg [] V1.drew W → W.cell? ⟨w.heap.size, 2, none⟩ = some (.slice (some ⟨b, o, none⟩) ll lc) := fun W h => (h.undrew.cell hV1.out.1.box.lt (by simp)).trans (hV1.out.1.box.cell 2)
              have hii : ((i + 1 : Nat) : Int) = (i : Int) + 1 := by omega
              simp only [hii] at hsr
              clear hii
              have hwi : IntKind.i64.wrap ((i : Int) + 1) = (i : Int) + 1 := IntWalk.i64_in _ ⟨by omega, by omega⟩
              refine wp_region_ordX [] 9 [(0, true), (1, true), (2, true), (3, true), (4, true), (5, true), (6, true), (7, false), (8, true)] (by kernel_rfl) (by kernel_rfl) (by kernel_rfl) (by kernel_rfl) ?_
              repeat (first | ((refine wpOX_F rfl (by rfl) (fun w' hL => exec_load rfl rfl (e0 w' hL)) ?_); try simp only [Act.put, List.setIfInBounds_toArray, List.set_cons_zero, List.set_cons_succ]) | ((refine wpOX_F rfl (by rfl) (fun w' hL => exec_load rfl rfl (e1 w' hL)) ?_); try simp only [Act.put, List.setIfInBounds_toArray, List.set_cons_zero, List.set_cons_succ]) | (refine wpOX_F (v := ?_) rfl (by rfl) (fun w' hL => ?_) ?_; rotate_left; (solve | (go_simp; with_reducible rfl) | go_simp); try simp only [Act.put, List.setIfInBounds_toArray, List.set_cons_zero, List.set_cons_succ]) | (refine wpOX_G (Chg.refl _) rfl (by rfl) ?_; try simp only [Act.put, List.setIfInBounds_toArray, List.set_cons_zero, List.set_cons_succ]))
              refine wpOX_C rfl (by rfl) ?_
              refine wp_appS (.tmp 107) (.tmp 112) 30 rfl (bb + 1) 65 iP (.agg #[.string ⟨#[]⟩, .int .i64 0, .string ⟨#[]⟩, .int .i64 0]) 4 48 Try.underlying30 hiP hzP rfl hsP (by omega) hbP (by omega) (.slice none 0 0) 0 [] V1.drew (World.ownsRow_nil _ _ _ _) rfl _ sa (ll - (i + 1)) (lc - (i + 1)) (cellsP (l.drop (i + 1))) (hsA.below hV1.out.2.2.1.drew) (by rw [cellsP_len, List.length_drop, ← HLL.out]) (one_P _) rfl (by omega) (by have := hV1.out.2.1.lt; exact this) ?_
              intro v' Z hk2 hc2 hb2
              refine ⟨by simpa [Value.ownBlock] using hc2, ?_⟩
              try simp only [Act.put, List.setIfInBounds_toArray, List.set_cons_zero, List.set_cons_succ]
              rw [List.nil_append] at hk2
              obtain ⟨bA, bC, rfl, hbC, _, harB⟩ := own_slice hk2
              have hfarB := own_far hk2
              have LZ : Later V1 Z := by
                have h1 : Chg [] V1.drew Z := by simpa [Value.ownBlock] using hc2
                exact h1.undrew.below (Nat.le_refl _) (by simp)
              have hbv := hV1.out.2.1.bel LZ hV1.out.2.1.lt
              have u1 : Z.cell? ⟨bb, 2, none⟩ = some (.slice none 0 0) := hbv.cell 2
              have u2 : Z.frozen? ⟨bb, 2, none⟩ = false := hbv.frozen 2
              have u3 := hbv.lt
              obtain ⟨n, hn⟩ : ∃ n, 0 + (ll - (i + 1)) = n := ⟨_, rfl⟩
              rw [hn] at hbC
              have hn' : (ll - (i + 1)) = n := by omega
              try rw [hn]
              try rw [hn']
              try simp only [hn']
              have HBV0 : Blk (Z.setCell ⟨bb, 2, none⟩ (.slice bA n bC)) bb 32 #[.bool false, .int .i64 xp, .slice bA n bC] := by
                have := hbv.set_ 2 (.slice bA n bC)
                simpa using this
              have HBV := Lib.hid HBV0
              clear HBV0
              have hF := hV1.out.1
              have hab3 := hF.ablt
              have hbbab : ab < bb := habV
              have HFz : Hid (RHf w (Z.setCell ⟨bb, 2, none⟩ (.slice bA n bC)) #[.bool false, .int .i64 kid, .slice (some ⟨b, o, none⟩) ll lc] ab false kid l aa i ac) := by
                refine ⟨(hF.box.bel LZ hF.box.lt).far (by omega) _, (hF.r1.bel LZ hF.r1.lt).far (by omega) _, (hF.r2.bel LZ hF.r2.lt).far (by omega) _, (hF.av.bel LZ hF.av.lt).far (by omega) _, ?_, hF.far, hF.cap, Below.setCell (hF.bel.trans (Below.mono LZ hF.bel.size)) (by show w.heap.size ≤ bb; omega) _, hF.ablt⟩
                have h1 := (HarA.out.below LVV.out).below (LZ.mono (by have := hV1.out.2.1.lt; omega))
                exact (h1.set_above (Nat.le_refl _) _).mono (by have := hbv.lt; simp [World.setCell]; omega)
              have HArB : Hid (Arr (Z.setCell ⟨bb, 2, none⟩ (.slice bA n bC)).heap.size (Z.setCell ⟨bb, 2, none⟩ (.slice bA n bC)) bA (cellsP (l.drop (i + 1)))) := harB.set_far hfarB (Nat.lt_succ_self _)
              have HFarB : Hid (Far (w.heap.size + 1 + 1 + 1) bA (cellsP (l.drop (i + 1)))) := hfarB.mono (by omega)
              have HKz : Hid ((Z.setCell ⟨bb, 2, none⟩ (.slice bA n bC)).cell? ⟨b, o + i * 4, none⟩ = some (.string xk)) := (HFz.out.bel.cell (p := ⟨b, o + i * 4, none⟩) hbw).trans HC0.out
              clear hk2 hc2 hb2 harB hfarB LZ hbv hF
              repeat (first | ((refine wpOX_F rfl (by rfl) (fun w' hL => exec_load rfl rfl (e0 w' hL)) ?_); try simp only [Act.put, List.setIfInBounds_toArray, List.set_cons_zero, List.set_cons_succ]) | (refine wpOX_F (v := ?_) rfl (by rfl) (fun w' hL => ?_) ?_; rotate_left; (solve | (go_simp; with_reducible rfl) | go_simp); try simp only [Act.put, List.setIfInBounds_toArray, List.set_cons_zero, List.set_cons_succ]) | (refine wpOX_G (Chg.refl _) rfl (by rfl) ?_; try simp only [Act.put, List.setIfInBounds_toArray, List.set_cons_zero, List.set_cons_succ]))
              refine wpOX_end rfl (by rfl) ?_
              go_simp
              simp only [NoPanic]
              clear e0 e1 u1 u2 u3 hsr hwi
              generalize (Z.setCell ⟨bb, 2, none⟩ (.slice bA n bC)) = Z2 at *
              have hnl : n = (l.drop (i + 1)).length := by rw [List.length_drop, ← HLL.out]; omega
              have Hn := Lib.hid hnl
              have hzs : w.heap.size + 1 + 1 < Z2.drew.heap.size := HFz.out.r2.lt
              have hn6 : n ≤ 60000 := by omega
              have ilt : i < ll := by rw [HLL.out]; exact hil
              have ilt1 : (i : Int) < (ll : Int) := by omega
              have ilt2 : ¬ ll ≤ i := by omega
              have ilt3 : (0 : Int) ≤ (i : Int) := by omega
              clear hnl hn
              have D2 : Hid (∀ W, Chg [w.heap.size + 1, w.heap.size + 1 + 1] Z2.drew W → (W.cell? ⟨ab, 0, none⟩ = some (.bool false) ∧ W.cell? ⟨ab, 1, none⟩ = some (.int .i64 kid) ∧ W.cell? ⟨ab, 2, none⟩ = some (.slice aa i ac)) ∧ (W.cell? ⟨bb, 0, none⟩ = some (.bool false) ∧ W.cell? ⟨bb, 1, none⟩ = some (.int .i64 xp) ∧ W.cell? ⟨bb, 2, none⟩ = some (.slice bA n bC)) ∧ W.cell? ⟨w.heap.size, 2, none⟩ = some (.slice (some ⟨b, o, none⟩) ll lc) ∧ W.cell? ⟨b, o + i * 4, none⟩ = some (.string xk)) := by
                intro W hW
                have h1 := HFz.out.av.chg hW.undrew (by simp; omega)
                have h2 := HBV.out.chg hW.undrew (by simp; omega)
                have h3 := HFz.out.box.chg hW.undrew (by simp; omega)
                exact ⟨⟨h1.cell 0, h1.cell 1, h1.cell 2⟩, ⟨h2.cell 0, h2.cell 1, h2.cell 2⟩, h3.cell 2, (hW.undrew.cell (b := b) (Nat.lt_of_lt_of_le hbw HFz.out.bel.size) (by simp; omega)).trans HKz.out⟩
              have d0 : ∀ W, Chg [w.heap.size + 1, w.heap.size + 1 + 1] Z2.drew W → W.cell? ⟨ab, 0, none⟩ = some (.bool false) := fun W h => (D2.out W h).1.1
              have d1 : ∀ W, Chg [w.heap.size + 1, w.heap.size + 1 + 1] Z2.drew W → W.cell? ⟨ab, 1, none⟩ = some (.int .i64 kid) := fun W h => (D2.out W h).1.2.1
              have d2 : ∀ W, Chg [w.heap.size + 1, w.heap.size + 1 + 1] Z2.drew W → W.cell? ⟨ab, 2, none⟩ = some (.slice aa i ac) := fun W h => (D2.out W h).1.2.2
              have d3 : ∀ W, Chg [w.heap.size + 1, w.heap.size + 1 + 1] Z2.drew W → W.cell? ⟨bb, 0, none⟩ = some (.bool false) := fun W h => (D2.out W h).2.1.1
              have d4 : ∀ W, Chg [w.heap.size + 1, w.heap.size + 1 + 1] Z2.drew W → W.cell? ⟨bb, 1, none⟩ = some (.int .i64 xp) := fun W h => (D2.out W h).2.1.2.1
              have d5 : ∀ W, Chg [w.heap.size + 1, w.heap.size + 1 + 1] Z2.drew W → W.cell? ⟨bb, 2, none⟩ = some (.slice bA n bC) := fun W h => (D2.out W h).2.1.2.2
              have d6 : ∀ W, Chg [w.heap.size + 1, w.heap.size + 1 + 1] Z2.drew W → W.cell? ⟨w.heap.size, 2, none⟩ = some (.slice (some ⟨b, o, none⟩) ll lc) := fun W h => (D2.out W h).2.2.1
              have d7 : ∀ W, Chg [w.heap.size + 1, w.heap.size + 1 + 1] Z2.drew W → W.cell? ⟨b, o + i * 4, none⟩ = some (.string xk) := fun W h => (D2.out W h).2.2.2
              have HFin : Hid (∀ v0 v1 v2 u0 u1 u2, RR (.returned (.tuple #[.agg #[.bool false, .int .i64 kid, .slice aa i ac], .string xk, .agg #[.bool false, .int .i64 xp, .slice bA n bC]])) (set3 (set3 Z2.drew (w.heap.size + 1) v0 v1 v2) (w.heap.size + 1 + 1) u0 u1 u2)) := by
                intro v0 v1 v2 u0 u1 u2
                have f1 : w.heap.size + 1 < w.heap.size + 1 + 1 + 1 := by omega
                have f2 : w.heap.size + 1 + 1 < w.heap.size + 1 + 1 + 1 := by omega
                have hA : Arr Z2.drew.heap.size Z2.drew aa (cellsP (l.take i)) := HFz.out.arr
                have hB : Arr Z2.drew.heap.size Z2.drew bA (cellsP (l.drop (i + 1))) := HArB.out
                refine HX.out i ⟨xk, xl, xd, xp⟩ ⟨aa, i, ac⟩ ⟨bA, n, bC⟩ _ HSh.out HXi.out ?_ ?_ (set3_below (set3_below HFz.out.bel.drew (Nat.le_add_right _ 1) _ _ _) (Nat.le_add_right _ 2) _ _ _)
                · exact ⟨by simp only [halfA, List.length_take]; omega, HFz.out.cap, by simp only; omega, (hA.set3 HFz.out.far f1 _ _ _).set3 HFz.out.far f2 _ _ _, hkid, fun p hp => HFair.out p (List.mem_of_mem_take hp)⟩
                · exact ⟨Hn.out, hbC, by simp only; omega, (hB.set3 HFarB.out f1 _ _ _).set3 HFarB.out f2 _ _ _, HKidB.out _ (List.mem_of_getElem? HXi.out), fun p hp => HFair.out p (List.mem_of_mem_drop hp)⟩
              have r0 : Z2.drew.cell? ⟨w.heap.size + 1, 0, none⟩ = some (.bool false) := Blk.cell HFz.out.r1 0
              have r1 : Z2.drew.cell? ⟨w.heap.size + 1, 1, none⟩ = some (.int .i64 0) := Blk.cell HFz.out.r1 1
              have r2 : Z2.drew.cell? ⟨w.heap.size + 1, 2, none⟩ = some (.slice none 0 0) := Blk.cell HFz.out.r1 2
              have f0 : Z2.drew.frozen? ⟨w.heap.size + 1, 0, none⟩ = false := Blk.frozen HFz.out.r1 0
              have f1 : Z2.drew.frozen? ⟨w.heap.size + 1, 1, none⟩ = false := Blk.frozen HFz.out.r1 1
              have f2 : Z2.drew.frozen? ⟨w.heap.size + 1, 2, none⟩ = false := Blk.frozen HFz.out.r1 2
              have s0 : Z2.drew.cell? ⟨w.heap.size + 1 + 1, 0, none⟩ = some (.bool false) := Blk.cell HFz.out.r2 0
              have s1 : Z2.drew.cell? ⟨w.heap.size + 1 + 1, 1, none⟩ = some (.int .i64 0) := Blk.cell HFz.out.r2 1
              have s2 : Z2.drew.cell? ⟨w.heap.size + 1 + 1, 2, none⟩ = some (.slice none 0 0) := Blk.cell HFz.out.r2 2
              have g0 : Z2.drew.frozen? ⟨w.heap.size + 1 + 1, 0, none⟩ = false := Blk.frozen HFz.out.r2 0
              have g1 : Z2.drew.frozen? ⟨w.heap.size + 1 + 1, 1, none⟩ = false := Blk.frozen HFz.out.r2 1
              have g2 : Z2.drew.frozen? ⟨w.heap.size + 1 + 1, 2, none⟩ = false := Blk.frozen HFz.out.r2 2
              clear D2
              go_upto_region 17 with (fail)
              refine wp_region_ordS [w.heap.size + 1, w.heap.size + 1 + 1] [(0, true), (1, true), (2, true), (3, true), (4, true), (5, true), (6, true), (7, true), (8, false), (9, true), (10, false)] (by kernel_rfl) (by kernel_rfl) (by kernel_rfl) (by kernel_rfl) ?_
              repeat (first | ((refine wpO_F rfl (by rfl) (fun w' hL => exec_load rfl rfl (d0 w' hL)) ?_); try simp only [Act.put, List.setIfInBounds_toArray, List.set_cons_zero, List.set_cons_succ]) | ((refine wpO_F rfl (by rfl) (fun w' hL => exec_load rfl rfl (d1 w' hL)) ?_); try simp only [Act.put, List.setIfInBounds_toArray, List.set_cons_zero, List.set_cons_succ]) | ((refine wpO_F rfl (by rfl) (fun w' hL => exec_load rfl rfl (d2 w' hL)) ?_); try simp only [Act.put, List.setIfInBounds_toArray, List.set_cons_zero, List.set_cons_succ]) | ((refine wpO_F rfl (by rfl) (fun w' hL => exec_load rfl rfl (d3 w' hL)) ?_); try simp only [Act.put, List.setIfInBounds_toArray, List.set_cons_zero, List.set_cons_succ]) | ((refine wpO_F rfl (by rfl) (fun w' hL => exec_load rfl rfl (d4 w' hL)) ?_); try simp only [Act.put, List.setIfInBounds_toArray, List.set_cons_zero, List.set_cons_succ]) | ((refine wpO_F rfl (by rfl) (fun w' hL => exec_load rfl rfl (d5 w' hL)) ?_); try simp only [Act.put, List.setIfInBounds_toArray, List.set_cons_zero, List.set_cons_succ]) | ((refine wpO_F rfl (by rfl) (fun w' hL => exec_load rfl rfl (d6 w' hL)) ?_); try simp only [Act.put, List.setIfInBounds_toArray, List.set_cons_zero, List.set_cons_succ]) | ((refine wpO_F rfl (by rfl) (fun w' hL => exec_load rfl rfl (d7 w' hL)) ?_); try simp only [Act.put, List.setIfInBounds_toArray, List.set_cons_zero, List.set_cons_succ]) | (refine wpO_F (v := ?_) rfl (by rfl) (fun w' hL => ?_) ?_; rotate_left; (solve | (go_simp; with_reducible rfl) | go_simp); try simp only [Act.put, List.setIfInBounds_toArray, List.set_cons_zero, List.set_cons_succ]) | (refine wpO_G' (Chg.refl _) rfl (by rfl) ?_; try simp only [Act.put, List.setIfInBounds_toArray, List.set_cons_zero, List.set_cons_succ]))
              generalize Z2.drew = Z3 at *
              refine wpO_C rfl (by rfl) ?_
              go_simp
              refine ⟨set3_chg (by simp) _ _ _, ?_⟩
              try simp only [Act.put, List.setIfInBounds_toArray, List.set_cons_zero, List.set_cons_succ]
              repeat (first | (refine wpO_F (v := ?_) rfl (by rfl) (fun w' hL => ?_) ?_; rotate_left; (solve | (go_simp; with_reducible rfl) | go_simp); try simp only [Act.put, List.setIfInBounds_toArray, List.set_cons_zero, List.set_cons_succ]) | (refine wpO_G' (Chg.refl _) rfl (by rfl) ?_; try simp only [Act.put, List.setIfInBounds_toArray, List.set_cons_zero, List.set_cons_succ]))
              refine wpO_C rfl (by rfl) ?_
              go_simp
              refine ⟨set3_chg (by simp) _ _ _, ?_⟩
              try simp only [Act.put, List.setIfInBounds_toArray, List.set_cons_zero, List.set_cons_succ]
              refine wpO_nil ?_
              go_wp2
              refine bodyPost_ret (v := .tuple #[.agg #[.bool false, .int .i64 kid, .slice aa i ac], .string xk, .agg #[.bool false, .int .i64 xp, .slice bA n bC]]) (by simp [results, Try.results27, go_sem, r0, r1, r2, s0, s1, s2, hzs]) rfl (HFin.out _ _ _ _ _ _)
            · have q5 : decide ((512 : Int) < (T : Int)) = false := by simp; omega
              have HSh : Hid (IsShare ⟨false, kid, l⟩ last k) := ⟨k, HUk.out, HEx.out, by rw [HTT.out, if_neg (by omega)]⟩
              have HF := Lib.hid HXV.out.f
              go_upto_region 11 with (fail)
              clear a2 af alt q5
              obtain ⟨Vf, hVf⟩ : ∃ Vf, V = Vf := ⟨_, rfl⟩
              rw [hVf] at HF
              rw [hVf]
              clear hVf
              obtain ⟨i, hi⟩ : ∃ i, k = i := ⟨_, rfl⟩
              rw [hi] at HF HSh
              clear hi
              have hbd := HSh.out.bd
              have hil : i < l.length := by have := HLL.out; have := HLastl.out; omega
              have hill : (i + 1) ≤ ll := by have := HLastl.out; omega
              have hx := List.getElem?_eq_getElem hil
              obtain ⟨b', o', he, hb', c0, c1, c2, c3⟩ := partAt HArr.out hil
              simp only [Option.some.injEq, Addr.mk.injEq, and_true] at he
              obtain ⟨rfl, rfl⟩ := he
              have HXi := Lib.hid hx
              obtain ⟨⟨xk, xl, xd, xp⟩, hxx⟩ : ∃ x, l[i] = x := ⟨_, rfl⟩
              rw [hxx] at c0 c1 c2 c3 HXi
              clear hx hxx c1 c2
              simp only at c0 c3
              have hbV : b < Vf.heap.size := Nat.lt_of_lt_of_le hbw HF.out.bel.size
              have c0V : Vf.cell? ⟨b, o + i * 4, none⟩ = some (.string xk) := (HF.out.bel.cell (p := ⟨b, o + i * 4, none⟩) hbw).trans c0
              have c3V : Vf.cell? ⟨b, o + i * 4 + 3, none⟩ = some (.int .i64 xp) := (HF.out.bel.cell (p := ⟨b, o + i * 4 + 3, none⟩) hbw).trans c3
              have y2 : Vf.cell? ⟨ab, 2, none⟩ = some (.slice aa i ac) := HF.out.av.cell 2
              have x0 : Vf.cell? ⟨w.heap.size, 0, none⟩ = some (.bool false) := HF.out.box.cell 0
              have x2 : Vf.cell? ⟨w.heap.size, 2, none⟩ = some (.slice (some ⟨b, o, none⟩) ll lc) := HF.out.box.cell 2
              have ylt := HF.out.av.lt
              have xlt := HF.out.box.lt
              obtain ⟨sa, hsA, hsr⟩ := HArr.out.from 30 65 4 Try.underlying30 sizeOf_part ll lc (i + 1) (by rw [cellsP_len, ← HLL.out]) hill hcap (by omega)
              have hcd : (cellsP l).drop ((i + 1) * 4) = cellsP (l.drop (i + 1)) := by
                unfold cellsP
                rw [cellsOf_drop _ 4 (fun _ => rfl)]
              rw [hcd] at hsA
              clear hcd
              obtain ⟨bb, hbb⟩ : ∃ bb, Vf.heap.size = bb := ⟨_, rfl⟩
              have hV1 : Hid (RHf w (Vf.alloc (.cells #[.bool false, .int .i64 xp, .slice none 0 0] 32)) #[.bool false, .int .i64 kid, .slice (some ⟨b, o, none⟩) ll lc] ab false kid l aa i ac ∧ Blk (Vf.alloc (.cells #[.bool false, .int .i64 xp, .slice none 0 0] 32)) bb 32 #[.bool false, .int .i64 xp, .slice none 0 0] ∧ Below w.heap.size w (Vf.alloc (.cells #[.bool false, .int .i64 xp, .slice none 0 0] 32)) ∧ Later Vf (Vf.alloc (.cells #[.bool false, .int .i64 xp, .slice none 0 0] 32))) := by
                have LV : Later Vf (Vf.alloc (.cells #[.bool false, .int .i64 xp, .slice none 0 0] 32)) := (Below.refl _ Vf).alloc (Nat.le_refl _) _
                refine ⟨⟨HF.out.box.bel LV HF.out.box.lt, HF.out.r1.bel LV HF.out.r1.lt, HF.out.r2.bel LV HF.out.r2.lt, HF.out.av.bel LV HF.out.av.lt, HF.out.arr.later (N := 0) LV, HF.out.far, HF.out.cap, HF.out.bel.trans (Below.mono LV HF.out.bel.size), HF.out.ablt⟩, by rw [← hbb]; exact Blk.new Vf _ _, HF.out.bel.trans (Below.mono LV HF.out.bel.size), LV⟩
              have HBB := Lib.hid hbb
              clear hbb
              go_upto_region 16 with (fail)
              have hbb := HBB.out
              rw [hbb]
              have HC0 := Lib.hid c0
              clear c0V c3V y2 x0 x2 ylt xlt c0 c3
              obtain ⟨V1, hVV⟩ : ∃ V1, (Vf.alloc (.cells #[.bool false, .int .i64 xp, .slice none 0 0] 32)) = V1 := ⟨_, rfl⟩
              rw [hVV] at hV1
              rw [hVV]
              clear hVV
              have habV : ab < Vf.heap.size := HF.out.av.lt
              have harA := HF.out.arr
              rw [hbb] at habV hbV harA
              have HarA := Lib.hid harA
              have LVV : Hid (Below bb Vf V1) := by have := hV1.out.2.2.2; unfold Later at this; rw [hbb] at this; exact this
              clear hbb harA
              have e0 : ∀ W, Chg [] V1.drew W → W.cell? ⟨bb, 2, none⟩ = some (.slice none 0 0) := fun W h => (h.undrew.cell hV1.out.2.1.lt (by simp)).trans (hV1.out.2.1.cell 2)
              have e1 : ∀ W, Chg [] V1.drew W → W.cell? ⟨w.heap.size, 2, none⟩ = some (.slice (some ⟨b, o, none⟩) ll lc) := fun W h => (h.undrew.cell hV1.out.1.box.lt (by simp)).trans (hV1.out.1.box.cell 2)
              have hii : ((i + 1 : Nat) : Int) = (i : Int) + 1 := by omega
              simp only [hii] at hsr
              clear hii
              have hwi : IntKind.i64.wrap ((i : Int) + 1) = (i : Int) + 1 := IntWalk.i64_in _ ⟨by omega, by omega⟩
              refine wp_region_ordX [] 9 [(0, true), (1, true), (2, true), (3, true), (4, true), (5, true), (6, true), (7, false), (8, true)] (by kernel_rfl) (by kernel_rfl) (by kernel_rfl) (by kernel_rfl) ?_
              repeat (first | ((refine wpOX_F rfl (by rfl) (fun w' hL => exec_load rfl rfl (e0 w' hL)) ?_); try simp only [Act.put, List.setIfInBounds_toArray, List.set_cons_zero, List.set_cons_succ]) | ((refine wpOX_F rfl (by rfl) (fun w' hL => exec_load rfl rfl (e1 w' hL)) ?_); try simp only [Act.put, List.setIfInBounds_toArray, List.set_cons_zero, List.set_cons_succ]) | (refine wpOX_F (v := ?_) rfl (by rfl) (fun w' hL => ?_) ?_; rotate_left; (solve | (go_simp; with_reducible rfl) | go_simp); try simp only [Act.put, List.setIfInBounds_toArray, List.set_cons_zero, List.set_cons_succ]) | (refine wpOX_G (Chg.refl _) rfl (by rfl) ?_; try simp only [Act.put, List.setIfInBounds_toArray, List.set_cons_zero, List.set_cons_succ]))
              refine wpOX_C rfl (by rfl) ?_
              refine wp_appS (.tmp 107) (.tmp 112) 30 rfl (bb + 1) 65 iP (.agg #[.string ⟨#[]⟩, .int .i64 0, .string ⟨#[]⟩, .int .i64 0]) 4 48 Try.underlying30 hiP hzP rfl hsP (by omega) hbP (by omega) (.slice none 0 0) 0 [] V1.drew (World.ownsRow_nil _ _ _ _) rfl _ sa (ll - (i + 1)) (lc - (i + 1)) (cellsP (l.drop (i + 1))) (hsA.below hV1.out.2.2.1.drew) (by rw [cellsP_len, List.length_drop, ← HLL.out]) (one_P _) rfl (by omega) (by have := hV1.out.2.1.lt; exact this) ?_
              intro v' Z hk2 hc2 hb2
              refine ⟨by simpa [Value.ownBlock] using hc2, ?_⟩
              try simp only [Act.put, List.setIfInBounds_toArray, List.set_cons_zero, List.set_cons_succ]
              rw [List.nil_append] at hk2
              obtain ⟨bA, bC, rfl, hbC, _, harB⟩ := own_slice hk2
              have hfarB := own_far hk2
              have LZ : Later V1 Z := by
                have h1 : Chg [] V1.drew Z := by simpa [Value.ownBlock] using hc2
                exact h1.undrew.below (Nat.le_refl _) (by simp)
              have hbv := hV1.out.2.1.bel LZ hV1.out.2.1.lt
              have u1 : Z.cell? ⟨bb, 2, none⟩ = some (.slice none 0 0) := hbv.cell 2
              have u2 : Z.frozen? ⟨bb, 2, none⟩ = false := hbv.frozen 2
              have u3 := hbv.lt
              obtain ⟨n, hn⟩ : ∃ n, 0 + (ll - (i + 1)) = n := ⟨_, rfl⟩
              rw [hn] at hbC
              have hn' : (ll - (i + 1)) = n := by omega
              try rw [hn]
              try rw [hn']
              try simp only [hn']
              have HBV0 : Blk (Z.setCell ⟨bb, 2, none⟩ (.slice bA n bC)) bb 32 #[.bool false, .int .i64 xp, .slice bA n bC] := by
                have := hbv.set_ 2 (.slice bA n bC)
                simpa using this
              have HBV := Lib.hid HBV0
              clear HBV0
              have hF := hV1.out.1
              have hab3 := hF.ablt
              have hbbab : ab < bb := habV
              have HFz : Hid (RHf w (Z.setCell ⟨bb, 2, none⟩ (.slice bA n bC)) #[.bool false, .int .i64 kid, .slice (some ⟨b, o, none⟩) ll lc] ab false kid l aa i ac) := by
                refine ⟨(hF.box.bel LZ hF.box.lt).far (by omega) _, (hF.r1.bel LZ hF.r1.lt).far (by omega) _, (hF.r2.bel LZ hF.r2.lt).far (by omega) _, (hF.av.bel LZ hF.av.lt).far (by omega) _, ?_, hF.far, hF.cap, Below.setCell (hF.bel.trans (Below.mono LZ hF.bel.size)) (by show w.heap.size ≤ bb; omega) _, hF.ablt⟩
                have h1 := (HarA.out.below LVV.out).below (LZ.mono (by have := hV1.out.2.1.lt; omega))
                exact (h1.set_above (Nat.le_refl _) _).mono (by have := hbv.lt; simp [World.setCell]; omega)
              have HArB : Hid (Arr (Z.setCell ⟨bb, 2, none⟩ (.slice bA n bC)).heap.size (Z.setCell ⟨bb, 2, none⟩ (.slice bA n bC)) bA (cellsP (l.drop (i + 1)))) := harB.set_far hfarB (Nat.lt_succ_self _)
              have HFarB : Hid (Far (w.heap.size + 1 + 1 + 1) bA (cellsP (l.drop (i + 1)))) := hfarB.mono (by omega)
              have HKz : Hid ((Z.setCell ⟨bb, 2, none⟩ (.slice bA n bC)).cell? ⟨b, o + i * 4, none⟩ = some (.string xk)) := (HFz.out.bel.cell (p := ⟨b, o + i * 4, none⟩) hbw).trans HC0.out
              clear hk2 hc2 hb2 harB hfarB LZ hbv hF
              repeat (first | ((refine wpOX_F rfl (by rfl) (fun w' hL => exec_load rfl rfl (e0 w' hL)) ?_); try simp only [Act.put, List.setIfInBounds_toArray, List.set_cons_zero, List.set_cons_succ]) | (refine wpOX_F (v := ?_) rfl (by rfl) (fun w' hL => ?_) ?_; rotate_left; (solve | (go_simp; with_reducible rfl) | go_simp); try simp only [Act.put, List.setIfInBounds_toArray, List.set_cons_zero, List.set_cons_succ]) | (refine wpOX_G (Chg.refl _) rfl (by rfl) ?_; try simp only [Act.put, List.setIfInBounds_toArray, List.set_cons_zero, List.set_cons_succ]))
              refine wpOX_end rfl (by rfl) ?_
              go_simp
              simp only [NoPanic]
              clear e0 e1 u1 u2 u3 hsr hwi
              generalize (Z.setCell ⟨bb, 2, none⟩ (.slice bA n bC)) = Z2 at *
              have hnl : n = (l.drop (i + 1)).length := by rw [List.length_drop, ← HLL.out]; omega
              have Hn := Lib.hid hnl
              have hzs : w.heap.size + 1 + 1 < Z2.drew.heap.size := HFz.out.r2.lt
              have hn6 : n ≤ 60000 := by omega
              have ilt : i < ll := by rw [HLL.out]; exact hil
              have ilt1 : (i : Int) < (ll : Int) := by omega
              have ilt2 : ¬ ll ≤ i := by omega
              have ilt3 : (0 : Int) ≤ (i : Int) := by omega
              clear hnl hn
              have D2 : Hid (∀ W, Chg [w.heap.size + 1, w.heap.size + 1 + 1] Z2.drew W → (W.cell? ⟨ab, 0, none⟩ = some (.bool false) ∧ W.cell? ⟨ab, 1, none⟩ = some (.int .i64 kid) ∧ W.cell? ⟨ab, 2, none⟩ = some (.slice aa i ac)) ∧ (W.cell? ⟨bb, 0, none⟩ = some (.bool false) ∧ W.cell? ⟨bb, 1, none⟩ = some (.int .i64 xp) ∧ W.cell? ⟨bb, 2, none⟩ = some (.slice bA n bC)) ∧ W.cell? ⟨w.heap.size, 2, none⟩ = some (.slice (some ⟨b, o, none⟩) ll lc) ∧ W.cell? ⟨b, o + i * 4, none⟩ = some (.string xk)) := by
                intro W hW
                have h1 := HFz.out.av.chg hW.undrew (by simp; omega)
                have h2 := HBV.out.chg hW.undrew (by simp; omega)
                have h3 := HFz.out.box.chg hW.undrew (by simp; omega)
                exact ⟨⟨h1.cell 0, h1.cell 1, h1.cell 2⟩, ⟨h2.cell 0, h2.cell 1, h2.cell 2⟩, h3.cell 2, (hW.undrew.cell (b := b) (Nat.lt_of_lt_of_le hbw HFz.out.bel.size) (by simp; omega)).trans HKz.out⟩
              have d0 : ∀ W, Chg [w.heap.size + 1, w.heap.size + 1 + 1] Z2.drew W → W.cell? ⟨ab, 0, none⟩ = some (.bool false) := fun W h => (D2.out W h).1.1
              have d1 : ∀ W, Chg [w.heap.size + 1, w.heap.size + 1 + 1] Z2.drew W → W.cell? ⟨ab, 1, none⟩ = some (.int .i64 kid) := fun W h => (D2.out W h).1.2.1
              have d2 : ∀ W, Chg [w.heap.size + 1, w.heap.size + 1 + 1] Z2.drew W → W.cell? ⟨ab, 2, none⟩ = some (.slice aa i ac) := fun W h => (D2.out W h).1.2.2
              have d3 : ∀ W, Chg [w.heap.size + 1, w.heap.size + 1 + 1] Z2.drew W → W.cell? ⟨bb, 0, none⟩ = some (.bool false) := fun W h => (D2.out W h).2.1.1
              have d4 : ∀ W, Chg [w.heap.size + 1, w.heap.size + 1 + 1] Z2.drew W → W.cell? ⟨bb, 1, none⟩ = some (.int .i64 xp) := fun W h => (D2.out W h).2.1.2.1
              have d5 : ∀ W, Chg [w.heap.size + 1, w.heap.size + 1 + 1] Z2.drew W → W.cell? ⟨bb, 2, none⟩ = some (.slice bA n bC) := fun W h => (D2.out W h).2.1.2.2
              have d6 : ∀ W, Chg [w.heap.size + 1, w.heap.size + 1 + 1] Z2.drew W → W.cell? ⟨w.heap.size, 2, none⟩ = some (.slice (some ⟨b, o, none⟩) ll lc) := fun W h => (D2.out W h).2.2.1
              have d7 : ∀ W, Chg [w.heap.size + 1, w.heap.size + 1 + 1] Z2.drew W → W.cell? ⟨b, o + i * 4, none⟩ = some (.string xk) := fun W h => (D2.out W h).2.2.2
              have HFin : Hid (∀ v0 v1 v2 u0 u1 u2, RR (.returned (.tuple #[.agg #[.bool false, .int .i64 kid, .slice aa i ac], .string xk, .agg #[.bool false, .int .i64 xp, .slice bA n bC]])) (set3 (set3 Z2.drew (w.heap.size + 1) v0 v1 v2) (w.heap.size + 1 + 1) u0 u1 u2)) := by
                intro v0 v1 v2 u0 u1 u2
                have f1 : w.heap.size + 1 < w.heap.size + 1 + 1 + 1 := by omega
                have f2 : w.heap.size + 1 + 1 < w.heap.size + 1 + 1 + 1 := by omega
                have hA : Arr Z2.drew.heap.size Z2.drew aa (cellsP (l.take i)) := HFz.out.arr
                have hB : Arr Z2.drew.heap.size Z2.drew bA (cellsP (l.drop (i + 1))) := HArB.out
                refine HX.out i ⟨xk, xl, xd, xp⟩ ⟨aa, i, ac⟩ ⟨bA, n, bC⟩ _ HSh.out HXi.out ?_ ?_ (set3_below (set3_below HFz.out.bel.drew (Nat.le_add_right _ 1) _ _ _) (Nat.le_add_right _ 2) _ _ _)
                · exact ⟨by simp only [halfA, List.length_take]; omega, HFz.out.cap, by simp only; omega, (hA.set3 HFz.out.far f1 _ _ _).set3 HFz.out.far f2 _ _ _, hkid, fun p hp => HFair.out p (List.mem_of_mem_take hp)⟩
                · exact ⟨Hn.out, hbC, by simp only; omega, (hB.set3 HFarB.out f1 _ _ _).set3 HFarB.out f2 _ _ _, HKidB.out _ (List.mem_of_getElem? HXi.out), fun p hp => HFair.out p (List.mem_of_mem_drop hp)⟩
              have r0 : Z2.drew.cell? ⟨w.heap.size + 1, 0, none⟩ = some (.bool false) := Blk.cell HFz.out.r1 0
              have r1 : Z2.drew.cell? ⟨w.heap.size + 1, 1, none⟩ = some (.int .i64 0) := Blk.cell HFz.out.r1 1
              have r2 : Z2.drew.cell? ⟨w.heap.size + 1, 2, none⟩ = some (.slice none 0 0) := Blk.cell HFz.out.r1 2
              have f0 : Z2.drew.frozen? ⟨w.heap.size + 1, 0, none⟩ = false := Blk.frozen HFz.out.r1 0
              have f1 : Z2.drew.frozen? ⟨w.heap.size + 1, 1, none⟩ = false := Blk.frozen HFz.out.r1 1
              have f2 : Z2.drew.frozen? ⟨w.heap.size + 1, 2, none⟩ = false := Blk.frozen HFz.out.r1 2
              have s0 : Z2.drew.cell? ⟨w.heap.size + 1 + 1, 0, none⟩ = some (.bool false) := Blk.cell HFz.out.r2 0
              have s1 : Z2.drew.cell? ⟨w.heap.size + 1 + 1, 1, none⟩ = some (.int .i64 0) := Blk.cell HFz.out.r2 1
              have s2 : Z2.drew.cell? ⟨w.heap.size + 1 + 1, 2, none⟩ = some (.slice none 0 0) := Blk.cell HFz.out.r2 2
              have g0 : Z2.drew.frozen? ⟨w.heap.size + 1 + 1, 0, none⟩ = false := Blk.frozen HFz.out.r2 0
              have g1 : Z2.drew.frozen? ⟨w.heap.size + 1 + 1, 1, none⟩ = false := Blk.frozen HFz.out.r2 1
              have g2 : Z2.drew.frozen? ⟨w.heap.size + 1 + 1, 2, none⟩ = false := Blk.frozen HFz.out.r2 2
              clear D2
              go_upto_region 17 with (fail)
              refine wp_region_ordS [w.heap.size + 1, w.heap.size + 1 + 1] [(0, true), (1, true), (2, true), (3, true), (4, true), (5, true), (6, true), (7, true), (8, false), (9, true), (10, false)] (by kernel_rfl) (by kernel_rfl) (by kernel_rfl) (by kernel_rfl) ?_
              repeat (first | ((refine wpO_F rfl (by rfl) (fun w' hL => exec_load rfl rfl (d0 w' hL)) ?_); try simp only [Act.put, List.setIfInBounds_toArray, List.set_cons_zero, List.set_cons_succ]) | ((refine wpO_F rfl (by rfl) (fun w' hL => exec_load rfl rfl (d1 w' hL)) ?_); try simp only [Act.put, List.setIfInBounds_toArray, List.set_cons_zero, List.set_cons_succ]) | ((refine wpO_F rfl (by rfl) (fun w' hL => exec_load rfl rfl (d2 w' hL)) ?_); try simp only [Act.put, List.setIfInBounds_toArray, List.set_cons_zero, List.set_cons_succ]) | ((refine wpO_F rfl (by rfl) (fun w' hL => exec_load rfl rfl (d3 w' hL)) ?_); try simp only [Act.put, List.setIfInBounds_toArray, List.set_cons_zero, List.set_cons_succ]) | ((refine wpO_F rfl (by rfl) (fun w' hL => exec_load rfl rfl (d4 w' hL)) ?_); try simp only [Act.put, List.setIfInBounds_toArray, List.set_cons_zero, List.set_cons_succ]) | ((refine wpO_F rfl (by rfl) (fun w' hL => exec_load rfl rfl (d5 w' hL)) ?_); try simp only [Act.put, List.setIfInBounds_toArray, List.set_cons_zero, List.set_cons_succ]) | ((refine wpO_F rfl (by rfl) (fun w' hL => exec_load rfl rfl (d6 w' hL)) ?_); try simp only [Act.put, List.setIfInBounds_toArray, List.set_cons_zero, List.set_cons_succ]) | ((refine wpO_F rfl (by rfl) (fun w' hL => exec_load rfl rfl (d7 w' hL)) ?_); try simp only [Act.put, List.setIfInBounds_toArray, List.set_cons_zero, List.set_cons_succ]) | (refine wpO_F (v := ?_) rfl (by rfl) (fun w' hL => ?_) ?_; rotate_left; (solve | (go_simp; with_reducible rfl) | go_simp); try simp only [Act.put, List.setIfInBounds_toArray, List.set_cons_zero, List.set_cons_succ]) | (refine wpO_G' (Chg.refl _) rfl (by rfl) ?_; try simp only [Act.put, List.setIfInBounds_toArray, List.set_cons_zero, List.set_cons_succ]))
              generalize Z2.drew = Z3 at *
              refine wpO_C rfl (by rfl) ?_
              go_simp
              refine ⟨set3_chg (by simp) _ _ _, ?_⟩
              try simp only [Act.put, List.setIfInBounds_toArray, List.set_cons_zero, List.set_cons_succ]
              repeat (first | (refine wpO_F (v := ?_) rfl (by rfl) (fun w' hL => ?_) ?_; rotate_left; (solve | (go_simp; with_reducible rfl) | go_simp); try simp only [Act.put, List.setIfInBounds_toArray, List.set_cons_zero, List.set_cons_succ]) | (refine wpO_G' (Chg.refl _) rfl (by rfl) ?_; try simp only [Act.put, List.setIfInBounds_toArray, List.set_cons_zero, List.set_cons_succ]))
              refine wpO_C rfl (by rfl) ?_
              go_simp
              refine ⟨set3_chg (by simp) _ _ _, ?_⟩
              try simp only [Act.put, List.setIfInBounds_toArray, List.set_cons_zero, List.set_cons_succ]
              refine wpO_nil ?_
              go_wp2
              refine bodyPost_ret (v := .tuple #[.agg #[.bool false, .int .i64 kid, .slice aa i ac], .string xk, .agg #[.bool false, .int .i64 xp, .slice bA n bC]]) (by simp [results, Try.results27, go_sem, r0, r1, r2, s0, s1, s2, hzs]) rfl (HFin.out _ _ _ _ _ _)
          · have q3 : decide ((1 : Int) < (k : Int)) = false := by simp; omega
            have HSh : Hid (IsShare ⟨false, kid, l⟩ last k) := ⟨k, HUk.out, HEx.out, by rw [if_neg (by omega)]⟩
            have HF := Lib.hid HX8.out.f
            go_upto_region 11 with (fail)
            clear a0 a1 a2 alt q3
            obtain ⟨Vf, hVf⟩ : ∃ Vf, Y = Vf := ⟨_, rfl⟩
            rw [hVf] at HF
            rw [hVf]
            clear hVf
            obtain ⟨i, hi⟩ : ∃ i, k = i := ⟨_, rfl⟩
            rw [hi] at HF HSh
            clear hi
            have hbd := HSh.out.bd
            have hil : i < l.length := by have := HLL.out; have := HLastl.out; omega
            have hill : (i + 1) ≤ ll := by have := HLastl.out; omega
            have hx := List.getElem?_eq_getElem hil
            obtain ⟨b', o', he, hb', c0, c1, c2, c3⟩ := partAt HArr.out hil
            simp only [Option.some.injEq, Addr.mk.injEq, and_true] at he
            obtain ⟨rfl, rfl⟩ := he
            have HXi := Lib.hid hx
            obtain ⟨⟨xk, xl, xd, xp⟩, hxx⟩ : ∃ x, l[i] = x := ⟨_, rfl⟩
            rw [hxx] at c0 c1 c2 c3 HXi
            clear hx hxx c1 c2
            simp only at c0 c3
            have hbV : b < Vf.heap.size := Nat.lt_of_lt_of_le hbw HF.out.bel.size
            have c0V : Vf.cell? ⟨b, o + i * 4, none⟩ = some (.string xk) := (HF.out.bel.cell (p := ⟨b, o + i * 4, none⟩) hbw).trans c0
            have c3V : Vf.cell? ⟨b, o + i * 4 + 3, none⟩ = some (.int .i64 xp) := (HF.out.bel.cell (p := ⟨b, o + i * 4 + 3, none⟩) hbw).trans c3
            have y2 : Vf.cell? ⟨ab, 2, none⟩ = some (.slice aa i ac) := HF.out.av.cell 2
            have x0 : Vf.cell? ⟨w.heap.size, 0, none⟩ = some (.bool false) := HF.out.box.cell 0
            have x2 : Vf.cell? ⟨w.heap.size, 2, none⟩ = some (.slice (some ⟨b, o, none⟩) ll lc) := HF.out.box.cell 2
            have ylt := HF.out.av.lt
            have xlt := HF.out.box.lt
            obtain ⟨sa, hsA, hsr⟩ := HArr.out.from 30 65 4 Try.underlying30 sizeOf_part ll lc (i + 1) (by rw [cellsP_len, ← HLL.out]) hill hcap (by omega)
            have hcd : (cellsP l).drop ((i + 1) * 4) = cellsP (l.drop (i + 1)) := by
              unfold cellsP
              rw [cellsOf_drop _ 4 (fun _ => rfl)]
            rw [hcd] at hsA
            clear hcd
            obtain ⟨bb, hbb⟩ : ∃ bb, Vf.heap.size = bb := ⟨_, rfl⟩
            have hV1 : Hid (RHf w (Vf.alloc (.cells #[.bool false, .int .i64 xp, .slice none 0 0] 32)) #[.bool false, .int .i64 kid, .slice (some ⟨b, o, none⟩) ll lc] ab false kid l aa i ac ∧ Blk (Vf.alloc (.cells #[.bool false, .int .i64 xp, .slice none 0 0] 32)) bb 32 #[.bool false, .int .i64 xp, .slice none 0 0] ∧ Below w.heap.size w (Vf.alloc (.cells #[.bool false, .int .i64 xp, .slice none 0 0] 32)) ∧ Later Vf (Vf.alloc (.cells #[.bool false, .int .i64 xp, .slice none 0 0] 32))) := by
              have LV : Later Vf (Vf.alloc (.cells #[.bool false, .int .i64 xp, .slice none 0 0] 32)) := (Below.refl _ Vf).alloc (Nat.le_refl _) _
              refine ⟨⟨HF.out.box.bel LV HF.out.box.lt, HF.out.r1.bel LV HF.out.r1.lt, HF.out.r2.bel LV HF.out.r2.lt, HF.out.av.bel LV HF.out.av.lt, HF.out.arr.later (N := 0) LV, HF.out.far, HF.out.cap, HF.out.bel.trans (Below.mono LV HF.out.bel.size), HF.out.ablt⟩, by rw [← hbb]; exact Blk.new Vf _ _, HF.out.bel.trans (Below.mono LV HF.out.bel.size), LV⟩
            have HBB := Lib.hid hbb
            clear hbb
            go_upto_region 16 with (fail)
            have hbb := HBB.out
            rw [hbb]
            have HC0 := Lib.hid c0
            clear c0V c3V y2 x0 x2 ylt xlt c0 c3
            obtain ⟨V1, hVV⟩ : ∃ V1, (Vf.alloc (.cells #[.bool false, .int .i64 xp, .slice none 0 0] 32)) = V1 := ⟨_, rfl⟩
            rw [hVV] at hV1
            rw [hVV]
            clear hVV
            have habV : ab < Vf.heap.size := HF.out.av.lt
            have harA := HF.out.arr
            rw [hbb] at habV hbV harA
            have HarA := Lib.hid harA
            have LVV : Hid (Below bb Vf V1) := by have := hV1.out.2.2.2; unfold Later at this; rw [hbb] at this; exact this
            clear hbb harA
            have e0 : ∀ W, Chg [] V1.drew W → W.cell? ⟨bb, 2, none⟩ = some (.slice none 0 0) := fun W h => (h.undrew.cell hV1.out.2.1.lt (by simp)).trans (hV1.out.2.1.cell 2)
            have e1 : ∀ W, Chg [] V1.drew W → W.cell? ⟨w.heap.size, 2, none⟩ = some (.slice (some ⟨b, o, none⟩) ll lc) := fun W h => (h.undrew.cell hV1.out.1.box.lt (by simp)).trans (hV1.out.1.box.cell 2)
            have hii : ((i + 1 : Nat) : Int) = (i : Int) + 1 := by omega
            simp only [hii] at hsr
            clear hii
            have hwi : IntKind.i64.wrap ((i : Int) + 1) = (i : Int) + 1 := IntWalk.i64_in _ ⟨by omega, by omega⟩
            refine wp_region_ordX [] 9 [(0, true), (1, true), (2, true), (3, true), (4, true), (5, true), (6, true), (7, false), (8, true)] (by kernel_rfl) (by kernel_rfl) (by kernel_rfl) (by kernel_rfl) ?_
            repeat (first | ((refine wpOX_F rfl (by rfl) (fun w' hL => exec_load rfl rfl (e0 w' hL)) ?_); try simp only [Act.put, List.setIfInBounds_toArray, List.set_cons_zero, List.set_cons_succ]) | ((refine wpOX_F rfl (by rfl) (fun w' hL => exec_load rfl rfl (e1 w' hL)) ?_); try simp only [Act.put, List.setIfInBounds_toArray, List.set_cons_zero, List.set_cons_succ]) | (refine wpOX_F (v := ?_) rfl (by rfl) (fun w' hL => ?_) ?_; rotate_left; (solve | (go_simp; with_reducible rfl) | go_simp); try simp only [Act.put, List.setIfInBounds_toArray, List.set_cons_zero, List.set_cons_succ]) | (refine wpOX_G (Chg.refl _) rfl (by rfl) ?_; try simp only [Act.put, List.setIfInBounds_toArray, List.set_cons_zero, List.set_cons_succ]))
            refine wpOX_C rfl (by rfl) ?_
            refine wp_appS (.tmp 107) (.tmp 112) 30 rfl (bb + 1) 65 iP (.agg #[.string ⟨#[]⟩, .int .i64 0, .string ⟨#[]⟩, .int .i64 0]) 4 48 Try.underlying30 hiP hzP rfl hsP (by omega) hbP (by omega) (.slice none 0 0) 0 [] V1.drew (World.ownsRow_nil _ _ _ _) rfl _ sa (ll - (i + 1)) (lc - (i + 1)) (cellsP (l.drop (i + 1))) (hsA.below hV1.out.2.2.1.drew) (by rw [cellsP_len, List.length_drop, ← HLL.out]) (one_P _) rfl (by omega) (by have := hV1.out.2.1.lt; exact this) ?_
            intro v' Z hk2 hc2 hb2
            refine ⟨by simpa [Value.ownBlock] using hc2, ?_⟩
            try simp only [Act.put, List.setIfInBounds_toArray, List.set_cons_zero, List.set_cons_succ]
            rw [List.nil_append] at hk2
            obtain ⟨bA, bC, rfl, hbC, _, harB⟩ := own_slice hk2
            have hfarB := own_far hk2
            have LZ : Later V1 Z := by
              have h1 : Chg [] V1.drew Z := by simpa [Value.ownBlock] using hc2
              exact h1.undrew.below (Nat.le_refl _) (by simp)
            have hbv := hV1.out.2.1.bel LZ hV1.out.2.1.lt
            have u1 : Z.cell? ⟨bb, 2, none⟩ = some (.slice none 0 0) := hbv.cell 2
            have u2 : Z.frozen? ⟨bb, 2, none⟩ = false := hbv.frozen 2
            have u3 := hbv.lt
            obtain ⟨n, hn⟩ : ∃ n, 0 + (ll - (i + 1)) = n := ⟨_, rfl⟩
            rw [hn] at hbC
            have hn' : (ll - (i + 1)) = n := by omega
            try rw [hn]
            try rw [hn']
            try simp only [hn']
            have HBV0 : Blk (Z.setCell ⟨bb, 2, none⟩ (.slice bA n bC)) bb 32 #[.bool false, .int .i64 xp, .slice bA n bC] := by
              have := hbv.set_ 2 (.slice bA n bC)
              simpa using this
            have HBV := Lib.hid HBV0
            clear HBV0
            have hF := hV1.out.1
            have hab3 := hF.ablt
            have hbbab : ab < bb := habV
            have HFz : Hid (RHf w (Z.setCell ⟨bb, 2, none⟩ (.slice bA n bC)) #[.bool false, .int .i64 kid, .slice (some ⟨b, o, none⟩) ll lc] ab false kid l aa i ac) := by
              refine ⟨(hF.box.bel LZ hF.box.lt).far (by omega) _, (hF.r1.bel LZ hF.r1.lt).far (by omega) _, (hF.r2.bel LZ hF.r2.lt).far (by omega) _, (hF.av.bel LZ hF.av.lt).far (by omega) _, ?_, hF.far, hF.cap, Below.setCell (hF.bel.trans (Below.mono LZ hF.bel.size)) (by show w.heap.size ≤ bb; omega) _, hF.ablt⟩
              have h1 := (HarA.out.below LVV.out).below (LZ.mono (by have := hV1.out.2.1.lt; omega))
              exact (h1.set_above (Nat.le_refl _) _).mono (by have := hbv.lt; simp [World.setCell]; omega)
            have HArB : Hid (Arr (Z.setCell ⟨bb, 2, none⟩ (.slice bA n bC)).heap.size (Z.setCell ⟨bb, 2, none⟩ (.slice bA n bC)) bA (cellsP (l.drop (i + 1)))) := harB.set_far hfarB (Nat.lt_succ_self _)
            have HFarB : Hid (Far (w.heap.size + 1 + 1 + 1) bA (cellsP (l.drop (i + 1)))) := hfarB.mono (by omega)
            have HKz : Hid ((Z.setCell ⟨bb, 2, none⟩ (.slice bA n bC)).cell? ⟨b, o + i * 4, none⟩ = some (.string xk)) := (HFz.out.bel.cell (p := ⟨b, o + i * 4, none⟩) hbw).trans HC0.out
            clear hk2 hc2 hb2 harB hfarB LZ hbv hF
            repeat (first | ((refine wpOX_F rfl (by rfl) (fun w' hL => exec_load rfl rfl (e0 w' hL)) ?_); try simp only [Act.put, List.setIfInBounds_toArray, List.set_cons_zero, List.set_cons_succ]) | (refine wpOX_F (v := ?_) rfl (by rfl) (fun w' hL => ?_) ?_; rotate_left; (solve | (go_simp; with_reducible rfl) | go_simp); try simp only [Act.put, List.setIfInBounds_toArray, List.set_cons_zero, List.set_cons_succ]) | (refine wpOX_G (Chg.refl _) rfl (by rfl) ?_; try simp only [Act.put, List.setIfInBounds_toArray, List.set_cons_zero, List.set_cons_succ]))
            refine wpOX_end rfl (by rfl) ?_
            go_simp
            simp only [NoPanic]
            clear e0 e1 u1 u2 u3 hsr hwi
            generalize (Z.setCell ⟨bb, 2, none⟩ (.slice bA n bC)) = Z2 at *
            have hnl : n = (l.drop (i + 1)).length := by rw [List.length_drop, ← HLL.out]; omega
            have Hn := Lib.hid hnl
            have hzs : w.heap.size + 1 + 1 < Z2.drew.heap.size := HFz.out.r2.lt
            have hn6 : n ≤ 60000 := by omega
            have ilt : i < ll := by rw [HLL.out]; exact hil
            have ilt1 : (i : Int) < (ll : Int) := by omega
            have ilt2 : ¬ ll ≤ i := by omega
            have ilt3 : (0 : Int) ≤ (i : Int) := by omega
            clear hnl hn
            have D2 : Hid (∀ W, Chg [w.heap.size + 1, w.heap.size + 1 + 1] Z2.drew W → (W.cell? ⟨ab, 0, none⟩ = some (.bool false) ∧ W.cell? ⟨ab, 1, none⟩ = some (.int .i64 kid) ∧ W.cell? ⟨ab, 2, none⟩ = some (.slice aa i ac)) ∧ (W.cell? ⟨bb, 0, none⟩ = some (.bool false) ∧ W.cell? ⟨bb, 1, none⟩ = some (.int .i64 xp) ∧ W.cell? ⟨bb, 2, none⟩ = some (.slice bA n bC)) ∧ W.cell? ⟨w.heap.size, 2, none⟩ = some (.slice (some ⟨b, o, none⟩) ll lc) ∧ W.cell? ⟨b, o + i * 4, none⟩ = some (.string xk)) := by
              intro W hW
              have h1 := HFz.out.av.chg hW.undrew (by simp; omega)
              have h2 := HBV.out.chg hW.undrew (by simp; omega)
              have h3 := HFz.out.box.chg hW.undrew (by simp; omega)
              exact ⟨⟨h1.cell 0, h1.cell 1, h1.cell 2⟩, ⟨h2.cell 0, h2.cell 1, h2.cell 2⟩, h3.cell 2, (hW.undrew.cell (b := b) (Nat.lt_of_lt_of_le hbw HFz.out.bel.size) (by simp; omega)).trans HKz.out⟩
            have d0 : ∀ W, Chg [w.heap.size + 1, w.heap.size + 1 + 1] Z2.drew W → W.cell? ⟨ab, 0, none⟩ = some (.bool false) := fun W h => (D2.out W h).1.1
            have d1 : ∀ W, Chg [w.heap.size + 1, w.heap.size + 1 + 1] Z2.drew W → W.cell? ⟨ab, 1, none⟩ = some (.int .i64 kid) := fun W h => (D2.out W h).1.2.1
            have d2 : ∀ W, Chg [w.heap.size + 1, w.heap.size + 1 + 1] Z2.drew W → W.cell? ⟨ab, 2, none⟩ = some (.slice aa i ac) := fun W h => (D2.out W h).1.2.2
            have d3 : ∀ W, Chg [w.heap.size + 1, w.heap.size + 1 + 1] Z2.drew W → W.cell? ⟨bb, 0, none⟩ = some (.bool false) := fun W h => (D2.out W h).2.1.1
            have d4 : ∀ W, Chg [w.heap.size + 1, w.heap.size + 1 + 1] Z2.drew W → W.cell? ⟨bb, 1, none⟩ = some (.int .i64 xp) := fun W h => (D2.out W h).2.1.2.1
            have d5 : ∀ W, Chg [w.heap.size + 1, w.heap.size + 1 + 1] Z2.drew W → W.cell? ⟨bb, 2, none⟩ = some (.slice bA n bC) := fun W h => (D2.out W h).2.1.2.2
            have d6 : ∀ W, Chg [w.heap.size + 1, w.heap.size + 1 + 1] Z2.drew W → W.cell? ⟨w.heap.size, 2, none⟩ = some (.slice (some ⟨b, o, none⟩) ll lc) := fun W h => (D2.out W h).2.2.1
            have d7 : ∀ W, Chg [w.heap.size + 1, w.heap.size + 1 + 1] Z2.drew W → W.cell? ⟨b, o + i * 4, none⟩ = some (.string xk) := fun W h => (D2.out W h).2.2.2
            have HFin : Hid (∀ v0 v1 v2 u0 u1 u2, RR (.returned (.tuple #[.agg #[.bool false, .int .i64 kid, .slice aa i ac], .string xk, .agg #[.bool false, .int .i64 xp, .slice bA n bC]])) (set3 (set3 Z2.drew (w.heap.size + 1) v0 v1 v2) (w.heap.size + 1 + 1) u0 u1 u2)) := by
              intro v0 v1 v2 u0 u1 u2
              have f1 : w.heap.size + 1 < w.heap.size + 1 + 1 + 1 := by omega
              have f2 : w.heap.size + 1 + 1 < w.heap.size + 1 + 1 + 1 := by omega
              have hA : Arr Z2.drew.heap.size Z2.drew aa (cellsP (l.take i)) := HFz.out.arr
              have hB : Arr Z2.drew.heap.size Z2.drew bA (cellsP (l.drop (i + 1))) := HArB.out
              refine HX.out i ⟨xk, xl, xd, xp⟩ ⟨aa, i, ac⟩ ⟨bA, n, bC⟩ _ HSh.out HXi.out ?_ ?_ (set3_below (set3_below HFz.out.bel.drew (Nat.le_add_right _ 1) _ _ _) (Nat.le_add_right _ 2) _ _ _)
              · exact ⟨by simp only [halfA, List.length_take]; omega, HFz.out.cap, by simp only; omega, (hA.set3 HFz.out.far f1 _ _ _).set3 HFz.out.far f2 _ _ _, hkid, fun p hp => HFair.out p (List.mem_of_mem_take hp)⟩
              · exact ⟨Hn.out, hbC, by simp only; omega, (hB.set3 HFarB.out f1 _ _ _).set3 HFarB.out f2 _ _ _, HKidB.out _ (List.mem_of_getElem? HXi.out), fun p hp => HFair.out p (List.mem_of_mem_drop hp)⟩
            have r0 : Z2.drew.cell? ⟨w.heap.size + 1, 0, none⟩ = some (.bool false) := Blk.cell HFz.out.r1 0
            have r1 : Z2.drew.cell? ⟨w.heap.size + 1, 1, none⟩ = some (.int .i64 0) := Blk.cell HFz.out.r1 1
            have r2 : Z2.drew.cell? ⟨w.heap.size + 1, 2, none⟩ = some (.slice none 0 0) := Blk.cell HFz.out.r1 2
            have f0 : Z2.drew.frozen? ⟨w.heap.size + 1, 0, none⟩ = false := Blk.frozen HFz.out.r1 0
            have f1 : Z2.drew.frozen? ⟨w.heap.size + 1, 1, none⟩ = false := Blk.frozen HFz.out.r1 1
            have f2 : Z2.drew.frozen? ⟨w.heap.size + 1, 2, none⟩ = false := Blk.frozen HFz.out.r1 2
            have s0 : Z2.drew.cell? ⟨w.heap.size + 1 + 1, 0, none⟩ = some (.bool false) := Blk.cell HFz.out.r2 0
            have s1 : Z2.drew.cell? ⟨w.heap.size + 1 + 1, 1, none⟩ = some (.int .i64 0) := Blk.cell HFz.out.r2 1
            have s2 : Z2.drew.cell? ⟨w.heap.size + 1 + 1, 2, none⟩ = some (.slice none 0 0) := Blk.cell HFz.out.r2 2
            have g0 : Z2.drew.frozen? ⟨w.heap.size + 1 + 1, 0, none⟩ = false := Blk.frozen HFz.out.r2 0
            have g1 : Z2.drew.frozen? ⟨w.heap.size + 1 + 1, 1, none⟩ = false := Blk.frozen HFz.out.r2 1
            have g2 : Z2.drew.frozen? ⟨w.heap.size + 1 + 1, 2, none⟩ = false := Blk.frozen HFz.out.r2 2
            clear D2
            go_upto_region 17 with (fail)
            refine wp_region_ordS [w.heap.size + 1, w.heap.size + 1 + 1] [(0, true), (1, true), (2, true), (3, true), (4, true), (5, true), (6, true), (7, true), (8, false), (9, true), (10, false)] (by kernel_rfl) (by kernel_rfl) (by kernel_rfl) (by kernel_rfl) ?_
            repeat (first | ((refine wpO_F rfl (by rfl) (fun w' hL => exec_load rfl rfl (d0 w' hL)) ?_); try simp only [Act.put, List.setIfInBounds_toArray, List.set_cons_zero, List.set_cons_succ]) | ((refine wpO_F rfl (by rfl) (fun w' hL => exec_load rfl rfl (d1 w' hL)) ?_); try simp only [Act.put, List.setIfInBounds_toArray, List.set_cons_zero, List.set_cons_succ]) | ((refine wpO_F rfl (by rfl) (fun w' hL => exec_load rfl rfl (d2 w' hL)) ?_); try simp only [Act.put, List.setIfInBounds_toArray, List.set_cons_zero, List.set_cons_succ]) | ((refine wpO_F rfl (by rfl) (fun w' hL => exec_load rfl rfl (d3 w' hL)) ?_); try simp only [Act.put, List.setIfInBounds_toArray, List.set_cons_zero, List.set_cons_succ]) | ((refine wpO_F rfl (by rfl) (fun w' hL => exec_load rfl rfl (d4 w' hL)) ?_); try simp only [Act.put, List.setIfInBounds_toArray, List.set_cons_zero, List.set_cons_succ]) | ((refine wpO_F rfl (by rfl) (fun w' hL => exec_load rfl rfl (d5 w' hL)) ?_); try simp only [Act.put, List.setIfInBounds_toArray, List.set_cons_zero, List.set_cons_succ]) | ((refine wpO_F rfl (by rfl) (fun w' hL => exec_load rfl rfl (d6 w' hL)) ?_); try simp only [Act.put, List.setIfInBounds_toArray, List.set_cons_zero, List.set_cons_succ]) | ((refine wpO_F rfl (by rfl) (fun w' hL => exec_load rfl rfl (d7 w' hL)) ?_); try simp only [Act.put, List.setIfInBounds_toArray, List.set_cons_zero, List.set_cons_succ]) | (refine wpO_F (v := ?_) rfl (by rfl) (fun w' hL => ?_) ?_; rotate_left; (solve | (go_simp; with_reducible rfl) | go_simp); try simp only [Act.put, List.setIfInBounds_toArray, List.set_cons_zero, List.set_cons_succ]) | (refine wpO_G' (Chg.refl _) rfl (by rfl) ?_; try simp only [Act.put, List.setIfInBounds_toArray, List.set_cons_zero, List.set_cons_succ]))
            generalize Z2.drew = Z3 at *
            refine wpO_C rfl (by rfl) ?_
            go_simp
            refine ⟨set3_chg (by simp) _ _ _, ?_⟩
            try simp only [Act.put, List.setIfInBounds_toArray, List.set_cons_zero, List.set_cons_succ]
            repeat (first | (refine wpO_F (v := ?_) rfl (by rfl) (fun w' hL => ?_) ?_; rotate_left; (solve | (go_simp; with_reducible rfl) | go_simp); try simp only [Act.put, List.setIfInBounds_toArray, List.set_cons_zero, List.set_cons_succ]) | (refine wpO_G' (Chg.refl _) rfl (by rfl) ?_; try simp only [Act.put, List.setIfInBounds_toArray, List.set_cons_zero, List.set_cons_succ]))
            refine wpO_C rfl (by rfl) ?_
            go_simp
            refine ⟨set3_chg (by simp) _ _ _, ?_⟩
            try simp only [Act.put, List.setIfInBounds_toArray, List.set_cons_zero, List.set_cons_succ]
            refine wpO_nil ?_
            go_wp2
            refine bodyPost_ret (v := .tuple #[.agg #[.bool false, .int .i64 kid, .slice aa i ac], .string xk, .agg #[.bool false, .int .i64 xp, .slice bA n bC]]) (by simp [results, Try.results27, go_sem, r0, r1, r2, s0, s1, s2, hzs]) rfl (HFin.out _ _ _ _ _ _)
    · have hk1 : 1 ≤ k := by omega
      go_wp2_with fail
      refine wp_region_ord [(0, true), (1, true), (2, true), (3, true), (4, true), (5, true), (6, true), (7, true), (8, true), (9, true), (10, true), (11, true), (15, true), (12, false), (13, true), (14, true), (16, false), (17, true), (18, true), (19, true), (20, true)] (by kernel_rfl) (by kernel_rfl) (by kernel_rfl) (by kernel_rfl) ?_
      repeat (first | (refine wpO_F (v := ?_) rfl (by rfl) (fun w' hL => ?_) ?_; rotate_left; (solve | (go_simp; with_reducible rfl) | go_simp); try simp only [Act.put, List.setIfInBounds_toArray, List.set_cons_zero, List.set_cons_succ]) | (refine wpO_G rfl (by rfl) ?_; try simp only [Act.put, List.setIfInBounds_toArray, List.set_cons_zero, List.set_cons_succ]))
      refine wpO_nil ?_
      clear d0 d1 d2 d3 d4 d5 D hw2
      have HX8 := Lib.hid (HI.out.lat Lwr.out)
      have N2 := Lwr
      have HEx : Hid (k = last ∨ ¬ 2 * lenTo ⟨false, kid, l⟩ k < (encN ⟨false, kid, l⟩).length) := .inl (by omega)
      obtain ⟨Y, hY⟩ : ∃ Y, wr.drew = Y := ⟨_, rfl⟩
      rw [hY] at HX8 N2
      rw [hY]
      clear hY
      have HUk : Hid (IsUp ⟨false, kid, l⟩ last k) := HUp.out hk1
      have a0 : Y.cell? ⟨ab, 0, none⟩ = some (.bool false) := HX8.out.av.cell 0
      have a1 : Y.cell? ⟨ab, 1, none⟩ = some (.int .i64 kid) := HX8.out.av.cell 1
      have a2 : Y.cell? ⟨ab, 2, none⟩ = some (.slice aa k ac) := HX8.out.av.cell 2
      have alt := HX8.out.av.lt
      by_cases h1k : 1 < k
      · have q3 : decide ((1 : Int) < (k : Int)) = true := by simp; omega
        have HBy := Lib.hid (HBak.out hk1 Y N2.out)
        go_wp2_with fail
        refine HBy.out.mono ?_
        rintro e V ⟨va, vc, rfl, LV⟩
        have HXV := Lib.hid (HX8.out.lat LV)
        clear a0 a1 a2 alt q3 LV HBy
        have a2 : V.cell? ⟨ab, 2, none⟩ = some (.slice aa k ac) := HXV.out.av.cell 2
        have af : V.frozen? ⟨ab, 2, none⟩ = false := HXV.out.av.frozen 2
        have alt := HXV.out.av.lt
        by_cases h5 : 512 < T
        · have q5 : decide ((512 : Int) < (T : Int)) = true := by simp; omega
          have HSh : Hid (IsShare ⟨false, kid, l⟩ last (k - 1)) := ⟨k, HUk.out, HEx.out, by rw [HTT.out, if_pos ⟨h5, h1k⟩]⟩
          obtain ⟨i, hi⟩ : ∃ i, k = i + 1 := ⟨k - 1, by omega⟩
          have HXV2 : Hid (RHv w V #[.bool false, .int .i64 kid, .slice (some ⟨b, o, none⟩) ll lc] ab false kid l aa (i + 1) ac) := by rw [← hi]; exact HXV.out
          have HF := Lib.hid HXV2.out.cut
          rw [show k - 1 = i by omega] at HSh
          have hac : k ≤ ac := HXV.out.f.cap
          have hsl := slice_to aa k ac i hi hac
          clear hi
          go_upto_region 11 with (fail)
          obtain ⟨Vf, hVf⟩ : ∃ Vf, V.setCell ⟨ab, 2, none⟩ (.slice aa i ac) = Vf := ⟨_, rfl⟩
          rw [hVf] at HF
          rw [hVf]
          clear hVf a2 af alt q5 hsl
          have hbd := HSh.out.bd
          have hil : i < l.length := by have := HLL.out; have := HLastl.out; omega
          have hill : (i + 1) ≤ ll := by have := HLastl.out; omega
          have hx := List.getElem?_eq_getElem hil
          obtain ⟨b', o', he, hb', c0, c1, c2, c3⟩ := partAt HArr.out hil
          simp only [Option.some.injEq, Addr.mk.injEq, and_true] at he
          obtain ⟨rfl, rfl⟩ := he
          have HXi := Lib.hid hx
          obtain ⟨⟨xk, xl, xd, xp⟩, hxx⟩ : ∃ x, l[i] = x := ⟨_, rfl⟩
          rw [hxx] at c0 c1 c2 c3 HXi
          clear hx hxx c1 c2
          simp only at c0 c3
          have hbV : b < Vf.heap.size := Nat.lt_of_lt_of_le hbw HF.out.bel.size
          have c0V : Vf.cell? ⟨b, o + i * 4, none⟩ = some (.string xk) := (HF.out.bel.cell (p := ⟨b, o + i * 4, none⟩) hbw).trans c0
          have c3V : Vf.cell? ⟨b, o + i * 4 + 3, none⟩ = some (.int .i64 xp) := (HF.out.bel.cell (p := ⟨b, o + i * 4 + 3, none⟩) hbw).trans c3
          have y2 : Vf.cell? ⟨ab, 2, none⟩ = some (.slice aa i ac) := HF.out.av.cell 2
          have x0 : Vf.cell? ⟨w.heap.size, 0, none⟩ = some (.bool false) := HF.out.box.cell 0
          have x2 : Vf.cell? ⟨w.heap.size, 2, none⟩ = some (.slice (some ⟨b, o, none⟩) ll lc) := HF.out.box.cell 2
          have ylt := HF.out.av.lt
          have xlt := HF.out.box.lt
          obtain ⟨sa, hsA, hsr⟩ := HArr.out.from 30 65 4 Try.underlying30 sizeOf_part ll lc (i + 1) (by rw [cellsP_len, ← HLL.out]) hill hcap (by omega)
          have hcd : (cellsP l).drop ((i + 1) * 4) = cellsP (l.drop (i + 1)) := by
            unfold cellsP
            rw [cellsOf_drop _ 4 (fun _ => rfl)]
          rw [hcd] at hsA
          clear hcd
          obtain ⟨bb, hbb⟩ : ∃ bb, Vf.heap.size = bb := ⟨_, rfl⟩
          have hV1 : Hid (RHf w (Vf.alloc (.cells #[.bool false, .int .i64 xp, .slice none 0 0] 32)) #[.bool false, .int .i64 kid, .slice (some ⟨b, o, none⟩) ll lc] ab false kid l aa i ac ∧ Blk (Vf.alloc (.cells #[.bool false, .int .i64 xp, .slice none 0 0] 32)) bb 32 #[.bool false, .int .i64 xp, .slice none 0 0] ∧ Below w.heap.size w (Vf.alloc (.cells #[.bool false, .int .i64 xp, .slice none 0 0] 32)) ∧ Later Vf (Vf.alloc (.cells #[.bool false, .int .i64 xp, .slice none 0 0] 32))) := by
            have LV : Later Vf (Vf.alloc (.cells #[.bool false, .int .i64 xp, .slice none 0 0] 32)) := (Below.refl _ Vf).alloc (Nat.le_refl _) _
            refine ⟨⟨HF.out.box.bel LV HF.out.box.lt, HF.out.r1.bel LV HF.out.r1.lt, HF.out.r2.bel LV HF.out.r2.lt, HF.out.av.bel LV HF.out.av.lt, HF.out.arr.later (N := 0) LV, HF.out.far, HF.out.cap, HF.out.bel.trans (Below.mono LV HF.out.bel.size), HF.out.ablt⟩, by rw [← hbb]; exact Blk.new Vf _ _, HF.out.bel.trans (Below.mono LV HF.out.bel.size), LV⟩
          have HBB := Lib.hid hbb
          clear hbb
          go_upto_region 16 with (fail)
          have hbb := HBB.out
          rw [hbb]
          have HC0 := Lib.hid c0
          clear c0V c3V y2 x0 x2 ylt xlt c0 c3
          obtain ⟨V1, hVV⟩ : ∃ V1, (Vf.alloc (.cells #[.bool false, .int .i64 xp, .slice none 0 0] 32)) = V1 := ⟨_, rfl⟩
          rw [hVV] at hV1
          rw [hVV]
          clear hVV
          have habV : ab < Vf.heap.size := HF.out.av.lt
          have harA := HF.out.arr
          rw [hbb] at habV hbV harA
          have HarA := Lib.hid harA
          have LVV : Hid (Below bb Vf V1) := by have := hV1.out.2.2.2; unfold Later at this; rw [hbb] at this; exact this
          clear hbb harA
          have e0 : ∀ W, Chg [] V1.drew W → W.cell? ⟨bb, 2, none⟩ = some (.slice none 0 0) := fun W h => (h.undrew.cell hV1.out.2.1.lt (by simp)).trans (hV1.out.2.1.cell 2)
          have e1 : ∀ W, Chg [] V1.drew W → W.cell? ⟨w.heap.size, 2, none⟩ = some (.slice (some ⟨b, o, none⟩) ll lc) := fun W h => (h.undrew.cell hV1.out.1.box.lt (by simp)).trans (hV1.out.1.box.cell 2)
          have hii : ((i + 1 : Nat) : Int) = (i : Int) + 1 := by omega
          simp only [hii] at hsr
          clear hii
          have hwi : IntKind.i64.wrap ((i : Int) + 1) = (i : Int) + 1 := IntWalk.i64_in _ ⟨by omega, by omega⟩
          refine wp_region_ordX [] 9 [(0, true), (1, true), (2, true), (3, true), (4, true), (5, true), (6, true), (7, false), (8, true)] (by kernel_rfl) (by kernel_rfl) (by kernel_rfl) (by kernel_rfl) ?_
          repeat (first | ((refine wpOX_F rfl (by rfl) (fun w' hL => exec_load rfl rfl (e0 w' hL)) ?_); try simp only [Act.put, List.setIfInBounds_toArray, List.set_cons_zero, List.set_cons_succ]) | ((refine wpOX_F rfl (by rfl) (fun w' hL => exec_load rfl rfl (e1 w' hL)) ?_); try simp only [Act.put, List.setIfInBounds_toArray, List.set_cons_zero, List.set_cons_succ]) | (refine wpOX_F (v := ?_) rfl (by rfl) (fun w' hL => ?_) ?_; rotate_left; (solve | (go_simp; with_reducible rfl) | go_simp); try simp only [Act.put, List.setIfInBounds_toArray, List.set_cons_zero, List.set_cons_succ]) | (refine wpOX_G (Chg.refl _) rfl (by rfl) ?_; try simp only [Act.put, List.setIfInBounds_toArray, List.set_cons_zero, List.set_cons_succ]))
          refine wpOX_C rfl (by rfl) ?_
          refine wp_appS (.tmp 107) (.tmp 112) 30 rfl (bb + 1) 65 iP (.agg #[.string ⟨#[]⟩, .int .i64 0, .string ⟨#[]⟩, .int .i64 0]) 4 48 Try.underlying30 hiP hzP rfl hsP (by omega) hbP (by omega) (.slice none 0 0) 0 [] V1.drew (World.ownsRow_nil _ _ _ _) rfl _ sa (ll - (i + 1)) (lc - (i + 1)) (cellsP (l.drop (i + 1))) (hsA.below hV1.out.2.2.1.drew) (by rw [cellsP_len, List.length_drop, ← HLL.out]) (one_P _) rfl (by omega) (by have := hV1.out.2.1.lt; exact this) ?_
          intro v' Z hk2 hc2 hb2
          refine ⟨by simpa [Value.ownBlock] using hc2, ?_⟩
          try simp only [Act.put, List.setIfInBounds_toArray, List.set_cons_zero, List.set_cons_succ]
          rw [List.nil_append] at hk2
          obtain ⟨bA, bC, rfl, hbC, _, harB⟩ := own_slice hk2
          have hfarB := own_far hk2
          have LZ : Later V1 Z := by
            have h1 : Chg [] V1.drew Z := by simpa [Value.ownBlock] using hc2
            exact h1.undrew.below (Nat.le_refl _) (by simp)
          have hbv := hV1.out.2.1.bel LZ hV1.out.2.1.lt
          have u1 : Z.cell? ⟨bb, 2, none⟩ = some (.slice none 0 0) := hbv.cell 2
          have u2 : Z.frozen? ⟨bb, 2, none⟩ = false := hbv.frozen 2
          have u3 := hbv.lt
          obtain ⟨n, hn⟩ : ∃ n, 0 + (ll - (i + 1)) = n := ⟨_, rfl⟩
          rw [hn] at hbC
          have hn' : (ll - (i + 1)) = n := by omega
          try rw [hn]
          try rw [hn']
          try simp only [hn']
          have HBV0 : Blk (Z.setCell ⟨bb, 2, none⟩ (.slice bA n bC)) bb 32 #[.bool false, .int .i64 xp, .slice bA n bC] := by
            have := hbv.set_ 2 (.slice bA n bC)
            simpa using this
          have HBV := Lib.hid HBV0
          clear HBV0
          have hF := hV1.out.1
          have hab3 := hF.ablt
          have hbbab : ab < bb := habV
          have HFz : Hid (RHf w (Z.setCell ⟨bb, 2, none⟩ (.slice bA n bC)) #[.bool false, .int .i64 kid, .slice (some ⟨b, o, none⟩) ll lc] ab false kid l aa i ac) := by
            refine ⟨(hF.box.bel LZ hF.box.lt).far (by omega) _, (hF.r1.bel LZ hF.r1.lt).far (by omega) _, (hF.r2.bel LZ hF.r2.lt).far (by omega) _, (hF.av.bel LZ hF.av.lt).far (by omega) _, ?_, hF.far, hF.cap, Below.setCell (hF.bel.trans (Below.mono LZ hF.bel.size)) (by show w.heap.size ≤ bb; omega) _, hF.ablt⟩
            have h1 := (HarA.out.below LVV.out).below (LZ.mono (by have := hV1.out.2.1.lt; omega))
            exact (h1.set_above (Nat.le_refl _) _).mono (by have := hbv.lt; simp [World.setCell]; omega)
          have HArB : Hid (Arr (Z.setCell ⟨bb, 2, none⟩ (.slice bA n bC)).heap.size (Z.setCell ⟨bb, 2, none⟩ (.slice bA n bC)) bA (cellsP (l.drop (i + 1)))) := harB.set_far hfarB (Nat.lt_succ_self _)
          have HFarB : Hid (Far (w.heap.size + 1 + 1 + 1) bA (cellsP (l.drop (i + 1)))) := hfarB.mono (by omega)
          have HKz : Hid ((Z.setCell ⟨bb, 2, none⟩ (.slice bA n bC)).cell? ⟨b, o + i * 4, none⟩ = some (.string xk)) := (HFz.out.bel.cell (p := ⟨b, o + i * 4, none⟩) hbw).trans HC0.out
          clear hk2 hc2 hb2 harB hfarB LZ hbv hF
          repeat (first | ((refine wpOX_F rfl (by rfl) (fun w' hL => exec_load rfl rfl (e0 w' hL)) ?_); try simp only [Act.put, List.setIfInBounds_toArray, List.set_cons_zero, List.set_cons_succ]) | (refine wpOX_F (v := ?_) rfl (by rfl) (fun w' hL => ?_) ?_; rotate_left; (solve | (go_simp; with_reducible rfl) | go_simp); try simp only [Act.put, List.setIfInBounds_toArray, List.set_cons_zero, List.set_cons_succ]) | (refine wpOX_G (Chg.refl _) rfl (by rfl) ?_; try simp only [Act.put, List.setIfInBounds_toArray, List.set_cons_zero, List.set_cons_succ]))
          refine wpOX_end rfl (by rfl) ?_
          go_simp
          simp only [NoPanic]
          clear e0 e1 u1 u2 u3 hsr hwi
          generalize (Z.setCell ⟨bb, 2, none⟩ (.slice bA n bC)) = Z2 at *
          have hnl : n = (l.drop (i + 1)).length := by rw [List.length_drop, ← HLL.out]; omega
          have Hn := Lib.hid hnl
          have hzs : w.heap.size + 1 + 1 < Z2.drew.heap.size := HFz.out.r2.lt
          have hn6 : n ≤ 60000 := by omega
          have ilt : i < ll := by rw [HLL.out]; exact hil
          have ilt1 : (i : Int) < (ll : Int) := by omega
          have ilt2 : ¬ ll ≤ i := by omega
          have ilt3 : (0 : Int) ≤ (i : Int) := by omega
          clear hnl hn
          have D2 : Hid (∀ W, Chg [w.heap.size + 1, w.heap.size + 1 + 1] Z2.drew W → (W.cell? ⟨ab, 0, none⟩ = some (.bool false) ∧ W.cell? ⟨ab, 1, none⟩ = some (.int .i64 kid) ∧ W.cell? ⟨ab, 2, none⟩ = some (.slice aa i ac)) ∧ (W.cell? ⟨bb, 0, none⟩ = some (.bool false) ∧ W.cell? ⟨bb, 1, none⟩ = some (.int .i64 xp) ∧ W.cell? ⟨bb, 2, none⟩ = some (.slice bA n bC)) ∧ W.cell? ⟨w.heap.size, 2, none⟩ = some (.slice (some ⟨b, o, none⟩) ll lc) ∧ W.cell? ⟨b, o + i * 4, none⟩ = some (.string xk)) := by
            intro W hW
            have h1 := HFz.out.av.chg hW.undrew (by simp; omega)
            have h2 := HBV.out.chg hW.undrew (by simp; omega)
            have h3 := HFz.out.box.chg hW.undrew (by simp; omega)
            exact ⟨⟨h1.cell 0, h1.cell 1, h1.cell 2⟩, ⟨h2.cell 0, h2.cell 1, h2.cell 2⟩, h3.cell 2, (hW.undrew.cell (b := b) (Nat.lt_of_lt_of_le hbw HFz.out.bel.size) (by simp; omega)).trans HKz.out⟩
          have d0 : ∀ W, Chg [w.heap.size + 1, w.heap.size + 1 + 1] Z2.drew W → W.cell? ⟨ab, 0, none⟩ = some (.bool false) := fun W h => (D2.out W h).1.1
          have d1 : ∀ W, Chg [w.heap.size + 1, w.heap.size + 1 + 1] Z2.drew W → W.cell? ⟨ab, 1, none⟩ = some (.int .i64 kid) := fun W h => (D2.out W h).1.2.1
          have d2 : ∀ W, Chg [w.heap.size + 1, w.heap.size + 1 + 1] Z2.drew W → W.cell? ⟨ab, 2, none⟩ = some (.slice aa i ac) := fun W h => (D2.out W h).1.2.2
          have d3 : ∀ W, Chg [w.heap.size + 1, w.heap.size + 1 + 1] Z2.drew W → W.cell? ⟨bb, 0, none⟩ = some (.bool false) := fun W h => (D2.out W h).2.1.1
          have d4 : ∀ W, Chg [w.heap.size + 1, w.heap.size + 1 + 1] Z2.drew W → W.cell? ⟨bb, 1, none⟩ = some (.int .i64 xp) := fun W h => (D2.out W h).2.1.2.1
          have d5 : ∀ W, Chg [w.heap.size + 1, w.heap.size + 1 + 1] Z2.drew W → W.cell? ⟨bb, 2, none⟩ = some (.slice bA n bC) := fun W h => (D2.out W h).2.1.2.2
          have d6 : ∀ W, Chg [w.heap.size + 1, w.heap.size + 1 + 1] Z2.drew W → W.cell? ⟨w.heap.size, 2, none⟩ = some (.slice (some ⟨b, o, none⟩) ll lc) := fun W h => (D2.out W h).2.2.1
          have d7 : ∀ W, Chg [w.heap.size + 1, w.heap.size + 1 + 1] Z2.drew W → W.cell? ⟨b, o + i * 4, none⟩ = some (.string xk) := fun W h => (D2.out W h).2.2.2
          have HFin : Hid (∀ v0 v1 v2 u0 u1 u2, RR (.returned (.tuple #[.agg #[.bool false, .int .i64 kid, .slice aa i ac], .string xk, .agg #[.bool false, .int .i64 xp, .slice bA n bC]])) (set3 (set3 Z2.drew (w.heap.size + 1) v0 v1 v2) (w.heap.size + 1 + 1) u0 u1 u2)) := by
            intro v0 v1 v2 u0 u1 u2
            have f1 : w.heap.size + 1 < w.heap.size + 1 + 1 + 1 := by omega
            have f2 : w.heap.size + 1 + 1 < w.heap.size + 1 + 1 + 1 := by omega
            have hA : Arr Z2.drew.heap.size Z2.drew aa (cellsP (l.take i)) := HFz.out.arr
            have hB : Arr Z2.drew.heap.size Z2.drew bA (cellsP (l.drop (i + 1))) := HArB.out
            refine HX.out i ⟨xk, xl, xd, xp⟩ ⟨aa, i, ac⟩ ⟨bA, n, bC⟩ _ HSh.out HXi.out ?_ ?_ (set3_below (set3_below HFz.out.bel.drew (Nat.le_add_right _ 1) _ _ _) (Nat.le_add_right _ 2) _ _ _)
            · exact ⟨by simp only [halfA, List.length_take]; omega, HFz.out.cap, by simp only; omega, (hA.set3 HFz.out.far f1 _ _ _).set3 HFz.out.far f2 _ _ _, hkid, fun p hp => HFair.out p (List.mem_of_mem_take hp)⟩
            · exact ⟨Hn.out, hbC, by simp only; omega, (hB.set3 HFarB.out f1 _ _ _).set3 HFarB.out f2 _ _ _, HKidB.out _ (List.mem_of_getElem? HXi.out), fun p hp => HFair.out p (List.mem_of_mem_drop hp)⟩
          have r0 : Z2.drew.cell? ⟨w.heap.size + 1, 0, none⟩ = some (.bool false) := Blk.cell HFz.out.r1 0
          have r1 : Z2.drew.cell? ⟨w.heap.size + 1, 1, none⟩ = some (.int .i64 0) := Blk.cell HFz.out.r1 1
          have r2 : Z2.drew.cell? ⟨w.heap.size + 1, 2, none⟩ = some (.slice none 0 0) := Blk.cell HFz.out.r1 2
          have f0 : Z2.drew.frozen? ⟨w.heap.size + 1, 0, none⟩ = false := Blk.frozen HFz.out.r1 0
          have f1 : Z2.drew.frozen? ⟨w.heap.size + 1, 1, none⟩ = false := Blk.frozen HFz.out.r1 1
          have f2 : Z2.drew.frozen? ⟨w.heap.size + 1, 2, none⟩ = false := Blk.frozen HFz.out.r1 2
          have s0 : Z2.drew.cell? ⟨w.heap.size + 1 + 1, 0, none⟩ = some (.bool false) := Blk.cell HFz.out.r2 0
          have s1 : Z2.drew.cell? ⟨w.heap.size + 1 + 1, 1, none⟩ = some (.int .i64 0) := Blk.cell HFz.out.r2 1
          have s2 : Z2.drew.cell? ⟨w.heap.size + 1 + 1, 2, none⟩ = some (.slice none 0 0) := Blk.cell HFz.out.r2 2
          have g0 : Z2.drew.frozen? ⟨w.heap.size + 1 + 1, 0, none⟩ = false := Blk.frozen HFz.out.r2 0
          have g1 : Z2.drew.frozen? ⟨w.heap.size + 1 + 1, 1, none⟩ = false := Blk.frozen HFz.out.r2 1
          have g2 : Z2.drew.frozen? ⟨w.heap.size + 1 + 1, 2, none⟩ = false := Blk.frozen HFz.out.r2 2
          clear D2
          go_upto_region 17 with (fail)
          refine wp_region_ordS [w.heap.size + 1, w.heap.size + 1 + 1] [(0, true), (1, true), (2, true), (3, true), (4, true), (5, true), (6, true), (7, true), (8, false), (9, true), (10, false)] (by kernel_rfl) (by kernel_rfl) (by kernel_rfl) (by kernel_rfl) ?_
          repeat (first | ((refine wpO_F rfl (by rfl) (fun w' hL => exec_load rfl rfl (d0 w' hL)) ?_); try simp only [Act.put, List.setIfInBounds_toArray, List.set_cons_zero, List.set_cons_succ]) | ((refine wpO_F rfl (by rfl) (fun w' hL => exec_load rfl rfl (d1 w' hL)) ?_); try simp only [Act.put, List.setIfInBounds_toArray, List.set_cons_zero, List.set_cons_succ]) | ((refine wpO_F rfl (by rfl) (fun w' hL => exec_load rfl rfl (d2 w' hL)) ?_); try simp only [Act.put, List.setIfInBounds_toArray, List.set_cons_zero, List.set_cons_succ]) | ((refine wpO_F rfl (by rfl) (fun w' hL => exec_load rfl rfl (d3 w' hL)) ?_); try simp only [Act.put, List.setIfInBounds_toArray, List.set_cons_zero, List.set_cons_succ]) | ((refine wpO_F rfl (by rfl) (fun w' hL => exec_load rfl rfl (d4 w' hL)) ?_); try simp only [Act.put, List.setIfInBounds_toArray, List.set_cons_zero, List.set_cons_succ]) | ((refine wpO_F rfl (by rfl) (fun w' hL => exec_load rfl rfl (d5 w' hL)) ?_); try simp only [Act.put, List.setIfInBounds_toArray, List.set_cons_zero, List.set_cons_succ]) | ((refine wpO_F rfl (by rfl) (fun w' hL => exec_load rfl rfl (d6 w' hL)) ?_); try simp only [Act.put, List.setIfInBounds_toArray, List.set_cons_zero, List.set_cons_succ]) | ((refine wpO_F rfl (by rfl) (fun w' hL => exec_load rfl rfl (d7 w' hL)) ?_); try simp only [Act.put, List.setIfInBounds_toArray, List.set_cons_zero, List.set_cons_succ]) | (refine wpO_F (v := ?_) rfl (by rfl) (fun w' hL => ?_) ?_; rotate_left; (solve | (go_simp; with_reducible rfl) | go_simp); try simp only [Act.put, List.setIfInBounds_toArray, List.set_cons_zero, List.set_cons_succ]) | (refine wpO_G' (Chg.refl _) rfl (by rfl) ?_; try simp only [Act.put, List.setIfInBounds_toArray, List.set_cons_zero, List.set_cons_succ]))
          generalize Z2.drew = Z3 at *
          refine wpO_C rfl (by rfl) ?_
          go_simp
          refine ⟨set3_chg (by simp) _ _ _, ?_⟩
          try simp only [Act.put, List.setIfInBounds_toArray, List.set_cons_zero, List.set_cons_succ]
          repeat (first | (refine wpO_F (v := ?_) rfl (by rfl) (fun w' hL => ?_) ?_; rotate_left; (solve | (go_simp; with_reducible rfl) | go_simp); try simp only [Act.put, List.setIfInBounds_toArray, List.set_cons_zero, List.set_cons_succ]) | (refine wpO_G' (Chg.refl _) rfl (by rfl) ?_; try simp only [Act.put, List.setIfInBounds_toArray, List.set_cons_zero, List.set_cons_succ]))
          refine wpO_C rfl (by rfl) ?_
          go_simp
          refine ⟨set3_chg (by simp) _ _ _, ?_⟩
          try simp only [Act.put, List.setIfInBounds_toArray, List.set_cons_zero, List.set_cons_succ]
          refine wpO_nil ?_
          go_wp2
          refine bodyPost_ret (v := .tuple #[.agg #[.bool false, .int .i64 kid, .slice aa i ac], .string xk, .agg #[.bool false, .int .i64 xp, .slice bA n bC]]) (by simp [results, Try.results27, go_sem, r0, r1, r2, s0, s1, s2, hzs]) rfl (HFin.out _ _ _ _ _ _)
        · have q5 : decide ((512 : Int) < (T : Int)) = false := by simp; omega
          have HSh : Hid (IsShare ⟨false, kid, l⟩ last k) := ⟨k, HUk.out, HEx.out, by rw [HTT.out, if_neg (by omega)]⟩
          have HF := Lib.hid HXV.out.f
          go_upto_region 11 with (fail)
          clear a2 af alt q5
          obtain ⟨Vf, hVf⟩ : ∃ Vf, V = Vf := ⟨_, rfl⟩
          rw [hVf] at HF
          rw [hVf]
          clear hVf
          obtain ⟨i, hi⟩ : ∃ i, k = i := ⟨_, rfl⟩
          rw [hi] at HF HSh
          clear hi
          have hbd := HSh.out.bd
          have hil : i < l.length := by have := HLL.out; have := HLastl.out; omega
          have hill : (i + 1) ≤ ll := by have := HLastl.out; omega
          have hx := List.getElem?_eq_getElem hil
          obtain ⟨b', o', he, hb', c0, c1, c2, c3⟩ := partAt HArr.out hil
          simp only [Option.some.injEq, Addr.mk.injEq, and_true] at he
          obtain ⟨rfl, rfl⟩ := he
          have HXi := Lib.hid hx
          obtain ⟨⟨xk, xl, xd, xp⟩, hxx⟩ : ∃ x, l[i] = x := ⟨_, rfl⟩
          rw [hxx] at c0 c1 c2 c3 HXi
          clear hx hxx c1 c2
          simp only at c0 c3
          have hbV : b < Vf.heap.size := Nat.lt_of_lt_of_le hbw HF.out.bel.size
          have c0V : Vf.cell? ⟨b, o + i * 4, none⟩ = some (.string xk) := (HF.out.bel.cell (p := ⟨b, o + i * 4, none⟩) hbw).trans c0
          have c3V : Vf.cell? ⟨b, o + i * 4 + 3, none⟩ = some (.int .i64 xp) := (HF.out.bel.cell (p := ⟨b, o + i * 4 + 3, none⟩) hbw).trans c3
          have y2 : Vf.cell? ⟨ab, 2, none⟩ = some (.slice aa i ac) := HF.out.av.cell 2
          have x0 : Vf.cell? ⟨w.heap.size, 0, none⟩ = some (.bool false) := HF.out.box.cell 0
          have x2 : Vf.cell? ⟨w.heap.size, 2, none⟩ = some (.slice (some ⟨b, o, none⟩) ll lc) := HF.out.box.cell 2
          have ylt := HF.out.av.lt
          have xlt := HF.out.box.lt
          obtain ⟨sa, hsA, hsr⟩ := HArr.out.from 30 65 4 Try.underlying30 sizeOf_part ll lc (i + 1) (by rw [cellsP_len, ← HLL.out]) hill hcap (by omega)
          have hcd : (cellsP l).drop ((i + 1) * 4) = cellsP (l.drop (i + 1)) := by
            unfold cellsP
            rw [cellsOf_drop _ 4 (fun _ => rfl)]
          rw [hcd] at hsA
          clear hcd
          obtain ⟨bb, hbb⟩ : ∃ bb, Vf.heap.size = bb := ⟨_, rfl⟩
          have hV1 : Hid (RHf w (Vf.alloc (.cells #[.bool false, .int .i64 xp, .slice none 0 0] 32)) #[.bool false, .int .i64 kid, .slice (some ⟨b, o, none⟩) ll lc] ab false kid l aa i ac ∧ Blk (Vf.alloc (.cells #[.bool false, .int .i64 xp, .slice none 0 0] 32)) bb 32 #[.bool false, .int .i64 xp, .slice none 0 0] ∧ Below w.heap.size w (Vf.alloc (.cells #[.bool false, .int .i64 xp, .slice none 0 0] 32)) ∧ Later Vf (Vf.alloc (.cells #[.bool false, .int .i64 xp, .slice none 0 0] 32))) := by
            have LV : Later Vf (Vf.alloc (.cells #[.bool false, .int .i64 xp, .slice none 0 0] 32)) := (Below.refl _ Vf).alloc (Nat.le_refl _) _
            refine ⟨⟨HF.out.box.bel LV HF.out.box.lt, HF.out.r1.bel LV HF.out.r1.lt, HF.out.r2.bel LV HF.out.r2.lt, HF.out.av.bel LV HF.out.av.lt, HF.out.arr.later (N := 0) LV, HF.out.far, HF.out.cap, HF.out.bel.trans (Below.mono LV HF.out.bel.size), HF.out.ablt⟩, by rw [← hbb]; exact Blk.new Vf _ _, HF.out.bel.trans (Below.mono LV HF.out.bel.size), LV⟩
          have HBB := Lib.hid hbb
          clear hbb
          go_upto_region 16 with (fail)
          have hbb := HBB.out
          rw [hbb]
          have HC0 := Lib.hid c0
          clear c0V c3V y2 x0 x2 ylt xlt c0 c3
          obtain ⟨V1, hVV⟩ : ∃ V1, (Vf.alloc (.cells #[.bool false, .int .i64 xp, .slice none 0 0] 32)) = V1 := ⟨_, rfl⟩
          rw [hVV] at hV1
          rw [hVV]
          clear hVV
          have habV : ab < Vf.heap.size := HF.out.av.lt
          have harA := HF.out.arr
          rw [hbb] at habV hbV harA
          have HarA := Lib.hid harA
          have LVV : Hid (Below bb Vf V1) := by have := hV1.out.2.2.2; unfold Later at this; rw [hbb] at this; exact this
          clear hbb harA
          have e0 : ∀ W, Chg [] V1.drew W → W.cell? ⟨bb, 2, none⟩ = some (.slice none 0 0) := fun W h => (h.undrew.cell hV1.out.2.1.lt (by simp)).trans (hV1.out.2.1.cell 2)
          have e1 : ∀ W, Chg [] V1.drew W → W.cell? ⟨w.heap.size, 2, none⟩ = some (.slice (some ⟨b, o, none⟩) ll lc) := fun W h => (h.undrew.cell hV1.out.1.box.lt (by simp)).trans (hV1.out.1.box.cell 2)
          have hii : ((i + 1 : Nat) : Int) = (i : Int) + 1 := by omega
          simp only [hii] at hsr
          clear hii
          have hwi : IntKind.i64.wrap ((i : Int) + 1) = (i : Int) + 1 := IntWalk.i64_in _ ⟨by omega, by omega⟩
          refine wp_region_ordX [] 9 [(0, true), (1, true), (2, true), (3, true), (4, true), (5, true), (6, true), (7, false), (8, true)] (by kernel_rfl) (by kernel_rfl) (by kernel_rfl) (by kernel_rfl) ?_
          repeat (first | ((refine wpOX_F rfl (by rfl) (fun w' hL => exec_load rfl rfl (e0 w' hL)) ?_); try simp only [Act.put, List.setIfInBounds_toArray, List.set_cons_zero, List.set_cons_succ]) | ((refine wpOX_F rfl (by rfl) (fun w' hL => exec_load rfl rfl (e1 w' hL)) ?_); try simp only [Act.put, List.setIfInBounds_toArray, List.set_cons_zero, List.set_cons_succ]) | (refine wpOX_F (v := ?_) rfl (by rfl) (fun w' hL => ?_) ?_; rotate_left; (solve | (go_simp; with_reducible rfl) | go_simp); try simp only [Act.put, List.setIfInBounds_toArray, List.set_cons_zero, List.set_cons_succ]) | (refine wpOX_G (Chg.refl _) rfl (by rfl) ?_; try simp only [Act.put, List.setIfInBounds_toArray, List.set_cons_zero, List.set_cons_succ]))
          refine wpOX_C rfl (by rfl) ?_
          refine wp_appS (.tmp 107) (.tmp 112) 30 rfl (bb + 1) 65 iP (.agg #[.string ⟨#[]⟩, .int .i64 0, .string ⟨#[]⟩, .int .i64 0]) 4 48 Try.underlying30 hiP hzP rfl hsP (by omega) hbP (by omega) (.slice none 0 0) 0 [] V1.drew (World.ownsRow_nil _ _ _ _) rfl _ sa (ll - (i + 1)) (lc - (i + 1)) (cellsP (l.drop (i + 1))) (hsA.below hV1.out.2.2.1.drew) (by rw [cellsP_len, List.length_drop, ← HLL.out]) (one_P _) rfl (by omega) (by have := hV1.out.2.1.lt; exact this) ?_
          intro v' Z hk2 hc2 hb2
          refine ⟨by simpa [Value.ownBlock] using hc2, ?_⟩
          try simp only [Act.put, List.setIfInBounds_toArray, List.set_cons_zero, List.set_cons_succ]
          rw [List.nil_append] at hk2
          obtain ⟨bA, bC, rfl, hbC, _, harB⟩ := own_slice hk2
          have hfarB := own_far hk2
          have LZ : Later V1 Z := by
            have h1 : Chg [] V1.drew Z := by simpa [Value.ownBlock] using hc2
            exact h1.undrew.below (Nat.le_refl _) (by simp)
          have hbv := hV1.out.2.1.bel LZ hV1.out.2.1.lt
          have u1 : Z.cell? ⟨bb, 2, none⟩ = some (.slice none 0 0) := hbv.cell 2
          have u2 : Z.frozen? ⟨bb, 2, none⟩ = false := hbv.frozen 2
          have u3 := hbv.lt
          obtain ⟨n, hn⟩ : ∃ n, 0 + (ll - (i + 1)) = n := ⟨_, rfl⟩
          rw [hn] at hbC
          have hn' : (ll - (i + 1)) = n := by omega
          try rw [hn]
          try rw [hn']
          try simp only [hn']
          have HBV0 : Blk (Z.setCell ⟨bb, 2, none⟩ (.slice bA n bC)) bb 32 #[.bool false, .int .i64 xp, .slice bA n bC] := by
            have := hbv.set_ 2 (.slice bA n bC)
            simpa using this
          have HBV := Lib.hid HBV0
          clear HBV0
          have hF := hV1.out.1
          have hab3 := hF.ablt
          have hbbab : ab < bb := habV
          have HFz : Hid (RHf w (Z.setCell ⟨bb, 2, none⟩ (.slice bA n bC)) #[.bool false, .int .i64 kid, .slice (some ⟨b, o, none⟩) ll lc] ab false kid l aa i ac) := by
            refine ⟨(hF.box.bel LZ hF.box.lt).far (by omega) _, (hF.r1.bel LZ hF.r1.lt).far (by omega) _, (hF.r2.bel LZ hF.r2.lt).far (by omega) _, (hF.av.bel LZ hF.av.lt).far (by omega) _, ?_, hF.far, hF.cap, Below.setCell (hF.bel.trans (Below.mono LZ hF.bel.size)) (by show w.heap.size ≤ bb; omega) _, hF.ablt⟩
            have h1 := (HarA.out.below LVV.out).below (LZ.mono (by have := hV1.out.2.1.lt; omega))
            exact (h1.set_above (Nat.le_refl _) _).mono (by have := hbv.lt; simp [World.setCell]; omega)
          have HArB : Hid (Arr (Z.setCell ⟨bb, 2, none⟩ (.slice bA n bC)).heap.size (Z.setCell ⟨bb, 2, none⟩ (.slice bA n bC)) bA (cellsP (l.drop (i + 1)))) := harB.set_far hfarB (Nat.lt_succ_self _)
          have HFarB : Hid (Far (w.heap.size + 1 + 1 + 1) bA (cellsP (l.drop (i + 1)))) := hfarB.mono (by omega)
          have HKz : Hid ((Z.setCell ⟨bb, 2, none⟩ (.slice bA n bC)).cell? ⟨b, o + i * 4, none⟩ = some (.string xk)) := (HFz.out.bel.cell (p := ⟨b, o + i * 4, none⟩) hbw).trans HC0.out
          clear hk2 hc2 hb2 harB hfarB LZ hbv hF
          repeat (first | ((refine wpOX_F rfl (by rfl) (fun w' hL => exec_load rfl rfl (e0 w' hL)) ?_); try simp only [Act.put, List.setIfInBounds_toArray, List.set_cons_zero, List.set_cons_succ]) | (refine wpOX_F (v := ?_) rfl (by rfl) (fun w' hL => ?_) ?_; rotate_left; (solve | (go_simp; with_reducible rfl) | go_simp); try simp only [Act.put, List.setIfInBounds_toArray, List.set_cons_zero, List.set_cons_succ]) | (refine wpOX_G (Chg.refl _) rfl (by rfl) ?_; try simp only [Act.put, List.setIfInBounds_toArray, List.set_cons_zero, List.set_cons_succ]))
          refine wpOX_end rfl (by rfl) ?_
          go_simp
          simp only [NoPanic]
          clear e0 e1 u1 u2 u3 hsr hwi
          generalize (Z.setCell ⟨bb, 2, none⟩ (.slice bA n bC)) = Z2 at *
          have hnl : n = (l.drop (i + 1)).length := by rw [List.length_drop, ← HLL.out]; omega
          have Hn := Lib.hid hnl
          have hzs : w.heap.size + 1 + 1 < Z2.drew.heap.size := HFz.out.r2.lt
          have hn6 : n ≤ 60000 := by omega
          have ilt : i < ll := by rw [HLL.out]; exact hil
          have ilt1 : (i : Int) < (ll : Int) := by omega
          have ilt2 : ¬ ll ≤ i := by omega
          have ilt3 : (0 : Int) ≤ (i : Int) := by omega
          clear hnl hn
          have D2 : Hid (∀ W, Chg [w.heap.size + 1, w.heap.size + 1 + 1] Z2.drew W → (W.cell? ⟨ab, 0, none⟩ = some (.bool false) ∧ W.cell? ⟨ab, 1, none⟩ = some (.int .i64 kid) ∧ W.cell? ⟨ab, 2, none⟩ = some (.slice aa i ac)) ∧ (W.cell? ⟨bb, 0, none⟩ = some (.bool false) ∧ W.cell? ⟨bb, 1, none⟩ = some (.int .i64 xp) ∧ W.cell? ⟨bb, 2, none⟩ = some (.slice bA n bC)) ∧ W.cell? ⟨w.heap.size, 2, none⟩ = some (.slice (some ⟨b, o, none⟩) ll lc) ∧ W.cell? ⟨b, o + i * 4, none⟩ = some (.string xk)) := by
            intro W hW
            have h1 := HFz.out.av.chg hW.undrew (by simp; omega)
            have h2 := HBV.out.chg hW.undrew (by simp; omega)
            have h3 := HFz.out.box.chg hW.undrew (by simp; omega)
            exact ⟨⟨h1.cell 0, h1.cell 1, h1.cell 2⟩, ⟨h2.cell 0, h2.cell 1, h2.cell 2⟩, h3.cell 2, (hW.undrew.cell (b := b) (Nat.lt_of_lt_of_le hbw HFz.out.bel.size) (by simp; omega)).trans HKz.out⟩
          have d0 : ∀ W, Chg [w.heap.size + 1, w.heap.size + 1 + 1] Z2.drew W → W.cell? ⟨ab, 0, none⟩ = some (.bool false) := fun W h => (D2.out W h).1.1
          have d1 : ∀ W, Chg [w.heap.size + 1, w.heap.size + 1 + 1] Z2.drew W → W.cell? ⟨ab, 1, none⟩ = some (.int .i64 kid) := fun W h => (D2.out W h).1.2.1
          have d2 : ∀ W, Chg [w.heap.size + 1, w.heap.size + 1 + 1] Z2.drew W → W.cell? ⟨ab, 2, none⟩ = some (.slice aa i ac) := fun W h => (D2.out W h).1.2.2
          have d3 : ∀ W, Chg [w.heap.size + 1, w.heap.size + 1 + 1] Z2.drew W → W.cell? ⟨bb, 0, none⟩ = some (.bool false) := fun W h => (D2.out W h).2.1.1
          have d4 : ∀ W, Chg [w.heap.size + 1, w.heap.size + 1 + 1] Z2.drew W → W.cell? ⟨bb, 1, none⟩ = some (.int .i64 xp) := fun W h => (D2.out W h).2.1.2.1
          have d5 : ∀ W, Chg [w.heap.size + 1, w.heap.size + 1 + 1] Z2.drew W → W.cell? ⟨bb, 2, none⟩ = some (.slice bA n bC) := fun W h => (D2.out W h).2.1.2.2
          have d6 : ∀ W, Chg [w.heap.size + 1, w.heap.size + 1 + 1] Z2.drew W → W.cell? ⟨w.heap.size, 2, none⟩ = some (.slice (some ⟨b, o, none⟩) ll lc) := fun W h => (D2.out W h).2.2.1
          have d7 : ∀ W, Chg [w.heap.size + 1, w.heap.size + 1 + 1] Z2.drew W → W.cell? ⟨b, o + i * 4, none⟩ = some (.string xk) := fun W h => (D2.out W h).2.2.2
          have HFin : Hid (∀ v0 v1 v2 u0 u1 u2, RR (.returned (.tuple #[.agg #[.bool false, .int .i64 kid, .slice aa i ac], .string xk, .agg #[.bool false, .int .i64 xp, .slice bA n bC]])) (set3 (set3 Z2.drew (w.heap.size + 1) v0 v1 v2) (w.heap.size + 1 + 1) u0 u1 u2)) := by
            intro v0 v1 v2 u0 u1 u2
            have f1 : w.heap.size + 1 < w.heap.size + 1 + 1 + 1 := by omega
            have f2 : w.heap.size + 1 + 1 < w.heap.size + 1 + 1 + 1 := by omega
            have hA : Arr Z2.drew.heap.size Z2.drew aa (cellsP (l.take i)) := HFz.out.arr
            have hB : Arr Z2.drew.heap.size Z2.drew bA (cellsP (l.drop (i + 1))) := HArB.out
            refine HX.out i ⟨xk, xl, xd, xp⟩ ⟨aa, i, ac⟩ ⟨bA, n, bC⟩ _ HSh.out HXi.out ?_ ?_ (set3_below (set3_below HFz.out.bel.drew (Nat.le_add_right _ 1) _ _ _) (Nat.le_add_right _ 2) _ _ _)
            · exact ⟨by simp only [halfA, List.length_take]; omega, HFz.out.cap, by simp only; omega, (hA.set3 HFz.out.far f1 _ _ _).set3 HFz.out.far f2 _ _ _, hkid, fun p hp => HFair.out p (List.mem_of_mem_take hp)⟩
            · exact ⟨Hn.out, hbC, by simp only; omega, (hB.set3 HFarB.out f1 _ _ _).set3 HFarB.out f2 _ _ _, HKidB.out _ (List.mem_of_getElem? HXi.out), fun p hp => HFair.out p (List.mem_of_mem_drop hp)⟩
          have r0 : Z2.drew.cell? ⟨w.heap.size + 1, 0, none⟩ = some (.bool false) := Blk.cell HFz.out.r1 0
          have r1 : Z2.drew.cell? ⟨w.heap.size + 1, 1, none⟩ = some (.int .i64 0) := Blk.cell HFz.out.r1 1
          have r2 : Z2.drew.cell? ⟨w.heap.size + 1, 2, none⟩ = some (.slice none 0 0) := Blk.cell HFz.out.r1 2
          have f0 : Z2.drew.frozen? ⟨w.heap.size + 1, 0, none⟩ = false := Blk.frozen HFz.out.r1 0
          have f1 : Z2.drew.frozen? ⟨w.heap.size + 1, 1, none⟩ = false := Blk.frozen HFz.out.r1 1
          have f2 : Z2.drew.frozen? ⟨w.heap.size + 1, 2, none⟩ = false := Blk.frozen HFz.out.r1 2
          have s0 : Z2.drew.cell? ⟨w.heap.size + 1 + 1, 0, none⟩ = some (.bool false) := Blk.cell HFz.out.r2 0
          have s1 : Z2.drew.cell? ⟨w.heap.size + 1 + 1, 1, none⟩ = some (.int .i64 0) := Blk.cell HFz.out.r2 1
          have s2 : Z2.drew.cell? ⟨w.heap.size + 1 + 1, 2, none⟩ = some (.slice none 0 0) := Blk.cell HFz.out.r2 2
          have g0 : Z2.drew.frozen? ⟨w.heap.size + 1 + 1, 0, none⟩ = false := Blk.frozen HFz.out.r2 0
          have g1 : Z2.drew.frozen? ⟨w.heap.size + 1 + 1, 1, none⟩ = false := Blk.frozen HFz.out.r2 1
          have g2 : Z2.drew.frozen? ⟨w.heap.size + 1 + 1, 2, none⟩ = false := Blk.frozen HFz.out.r2 2
          clear D2
          go_upto_region 17 with (fail)
          refine wp_region_ordS [w.heap.size + 1, w.heap.size + 1 + 1] [(0, true), (1, true), (2, true), (3, true), (4, true), (5, true), (6, true), (7, true), (8, false), (9, true), (10, false)] (by kernel_rfl) (by kernel_rfl) (by kernel_rfl) (by kernel_rfl) ?_
          repeat (first | ((refine wpO_F rfl (by rfl) (fun w' hL => exec_load rfl rfl (d0 w' hL)) ?_); try simp only [Act.put, List.setIfInBounds_toArray, List.set_cons_zero, List.set_cons_succ]) | ((refine wpO_F rfl (by rfl) (fun w' hL => exec_load rfl rfl (d1 w' hL)) ?_); try simp only [Act.put, List.setIfInBounds_toArray, List.set_cons_zero, List.set_cons_succ]) | ((refine wpO_F rfl (by rfl) (fun w' hL => exec_load rfl rfl (d2 w' hL)) ?_); try simp only [Act.put, List.setIfInBounds_toArray, List.set_cons_zero, List.set_cons_succ]) | ((refine wpO_F rfl (by rfl) (fun w' hL => exec_load rfl rfl (d3 w' hL)) ?_); try simp only [Act.put, List.setIfInBounds_toArray, List.set_cons_zero, List.set_cons_succ]) | ((refine wpO_F rfl (by rfl) (fun w' hL => exec_load rfl rfl (d4 w' hL)) ?_); try simp only [Act.put, List.setIfInBounds_toArray, List.set_cons_zero, List.set_cons_succ]) | ((refine wpO_F rfl (by rfl) (fun w' hL => exec_load rfl rfl (d5 w' hL)) ?_); try simp only [Act.put, List.setIfInBounds_toArray, List.set_cons_zero, List.set_cons_succ]) | ((refine wpO_F rfl (by rfl) (fun w' hL => exec_load rfl rfl (d6 w' hL)) ?_); try simp only [Act.put, List.setIfInBounds_toArray, List.set_cons_zero, List.set_cons_succ]) | ((refine wpO_F rfl (by rfl) (fun w' hL => exec_load rfl rfl (d7 w' hL)) ?_); try simp only [Act.put, List.setIfInBounds_toArray, List.set_cons_zero, List.set_cons_succ]) | (refine wpO_F (v := ?_) rfl (by rfl) (fun w' hL => ?_) ?_; rotate_left; (solve | (go_simp; with_reducible rfl) | go_simp); try simp only [Act.put, List.setIfInBounds_toArray, List.set_cons_zero, List.set_cons_succ]) | (refine wpO_G' (Chg.refl _) rfl (by rfl) ?_; try simp only [Act.put, List.setIfInBounds_toArray, List.set_cons_zero, List.set_cons_succ]))
          generalize Z2.drew = Z3 at *
          refine wpO_C rfl (by rfl) ?_
          go_simp
          refine ⟨set3_chg (by simp) _ _ _, ?_⟩
          try simp only [Act.put, List.setIfInBounds_toArray, List.set_cons_zero, List.set_cons_succ]
          repeat (first | (refine wpO_F (v := ?_) rfl (by rfl) (fun w' hL => ?_) ?_; rotate_left; (solve | (go_simp; with_reducible rfl) | go_simp); try simp only [Act.put, List.setIfInBounds_toArray, List.set_cons_zero, List.set_cons_succ]) | (refine wpO_G' (Chg.refl _) rfl (by rfl) ?_; try simp only [Act.put, List.setIfInBounds_toArray, List.set_cons_zero, List.set_cons_succ]))
          refine wpO_C rfl (by rfl) ?_
          go_simp
          refine ⟨set3_chg (by simp) _ _ _, ?_⟩
          try simp only [Act.put, List.setIfInBounds_toArray, List.set_cons_zero, List.set_cons_succ]
          refine wpO_nil ?_
          go_wp2
          refine bodyPost_ret (v := .tuple #[.agg #[.bool false, .int .i64 kid, .slice aa i ac], .string xk, .agg #[.bool false, .int .i64 xp, .slice bA n bC]]) (by simp [results, Try.results27, go_sem, r0, r1, r2, s0, s1, s2, hzs]) rfl (HFin.out _ _ _ _ _ _)
      · have q3 : decide ((1 : Int) < (k : Int)) = false := by simp; omega
        have HSh : Hid (IsShare ⟨false, kid, l⟩ last k) := ⟨k, HUk.out, HEx.out, by rw [if_neg (by omega)]⟩
        have HF := Lib.hid HX8.out.f
        go_upto_region 11 with (fail)
        clear a0 a1 a2 alt q3
        obtain ⟨Vf, hVf⟩ : ∃ Vf, Y = Vf := ⟨_, rfl⟩
        rw [hVf] at HF
        rw [hVf]
        clear hVf
        obtain ⟨i, hi⟩ : ∃ i, k = i := ⟨_, rfl⟩
        rw [hi] at HF HSh
        clear hi
        have hbd := HSh.out.bd
        have hil : i < l.length := by have := HLL.out; have := HLastl.out; omega
        have hill : (i + 1) ≤ ll := by have := HLastl.out; omega
        have hx := List.getElem?_eq_getElem hil
        obtain ⟨b', o', he, hb', c0, c1, c2, c3⟩ := partAt HArr.out hil
        simp only [Option.some.injEq, Addr.mk.injEq, and_true] at he
        obtain ⟨rfl, rfl⟩ := he
        have HXi := Lib.hid hx
        obtain ⟨⟨xk, xl, xd, xp⟩, hxx⟩ : ∃ x, l[i] = x := ⟨_, rfl⟩
        rw [hxx] at c0 c1 c2 c3 HXi
        clear hx hxx c1 c2
        simp only at c0 c3
        have hbV : b < Vf.heap.size := Nat.lt_of_lt_of_le hbw HF.out.bel.size
        have c0V : Vf.cell? ⟨b, o + i * 4, none⟩ = some (.string xk) := (HF.out.bel.cell (p := ⟨b, o + i * 4, none⟩) hbw).trans c0
        have c3V : Vf.cell? ⟨b, o + i * 4 + 3, none⟩ = some (.int .i64 xp) := (HF.out.bel.cell (p := ⟨b, o + i * 4 + 3, none⟩) hbw).trans c3
        have y2 : Vf.cell? ⟨ab, 2, none⟩ = some (.slice aa i ac) := HF.out.av.cell 2
        have x0 : Vf.cell? ⟨w.heap.size, 0, none⟩ = some (.bool false) := HF.out.box.cell 0
        have x2 : Vf.cell? ⟨w.heap.size, 2, none⟩ = some (.slice (some ⟨b, o, none⟩) ll lc) := HF.out.box.cell 2
        have ylt := HF.out.av.lt
        have xlt := HF.out.box.lt
        obtain ⟨sa, hsA, hsr⟩ := HArr.out.from 30 65 4 Try.underlying30 sizeOf_part ll lc (i + 1) (by rw [cellsP_len, ← HLL.out]) hill hcap (by omega)
        have hcd : (cellsP l).drop ((i + 1) * 4) = cellsP (l.drop (i + 1)) := by
          unfold cellsP
          rw [cellsOf_drop _ 4 (fun _ => rfl)]
        rw [hcd] at hsA
        clear hcd
        obtain ⟨bb, hbb⟩ : ∃ bb, Vf.heap.size = bb := ⟨_, rfl⟩
        have hV1 : Hid (RHf w (Vf.alloc (.cells #[.bool false, .int .i64 xp, .slice none 0 0] 32)) #[.bool false, .int .i64 kid, .slice (some ⟨b, o, none⟩) ll lc] ab false kid l aa i ac ∧ Blk (Vf.alloc (.cells #[.bool false, .int .i64 xp, .slice none 0 0] 32)) bb 32 #[.bool false, .int .i64 xp, .slice none 0 0] ∧ Below w.heap.size w (Vf.alloc (.cells #[.bool false, .int .i64 xp, .slice none 0 0] 32)) ∧ Later Vf (Vf.alloc (.cells #[.bool false, .int .i64 xp, .slice none 0 0] 32))) := by
          have LV : Later Vf (Vf.alloc (.cells #[.bool false, .int .i64 xp, .slice none 0 0] 32)) := (Below.refl _ Vf).alloc (Nat.le_refl _) _
          refine ⟨⟨HF.out.box.bel LV HF.out.box.lt, HF.out.r1.bel LV HF.out.r1.lt, HF.out.r2.bel LV HF.out.r2.lt, HF.out.av.bel LV HF.out.av.lt, HF.out.arr.later (N := 0) LV, HF.out.far, HF.out.cap, HF.out.bel.trans (Below.mono LV HF.out.bel.size), HF.out.ablt⟩, by rw [← hbb]; exact Blk.new Vf _ _, HF.out.bel.trans (Below.mono LV HF.out.bel.size), LV⟩
        have HBB := Lib.hid hbb
        clear hbb
        go_upto_region 16 with (fail)
        have hbb := HBB.out
        rw [hbb]
        have HC0 := Lib.hid c0
        clear c0V c3V y2 x0 x2 ylt xlt c0 c3
        obtain ⟨V1, hVV⟩ : ∃ V1, (Vf.alloc (.cells #[.bool false, .int .i64 xp, .slice none 0 0] 32)) = V1 := ⟨_, rfl⟩
        rw [hVV] at hV1
        rw [hVV]
        clear hVV
        have habV : ab < Vf.heap.size := HF.out.av.lt
        have harA := HF.out.arr
        rw [hbb] at habV hbV harA
        have HarA := Lib.hid harA
        have LVV : Hid (Below bb Vf V1) := by have := hV1.out.2.2.2; unfold Later at this; rw [hbb] at this; exact this
        clear hbb harA
        have e0 : ∀ W, Chg [] V1.drew W → W.cell? ⟨bb, 2, none⟩ = some (.slice none 0 0) := fun W h => (h.undrew.cell hV1.out.2.1.lt (by simp)).trans (hV1.out.2.1.cell 2)
        have e1 : ∀ W, Chg [] V1.drew W → W.cell? ⟨w.heap.size, 2, none⟩ = some (.slice (some ⟨b, o, none⟩) ll lc) := fun W h => (h.undrew.cell hV1.out.1.box.lt (by simp)).trans (hV1.out.1.box.cell 2)
        have hii : ((i + 1 : Nat) : Int) = (i : Int) + 1 := by omega
        simp only [hii] at hsr
        clear hii
        have hwi : IntKind.i64.wrap ((i : Int) + 1) = (i : Int) + 1 := IntWalk.i64_in _ ⟨by omega, by omega⟩
        refine wp_region_ordX [] 9 [(0, true), (1, true), (2, true), (3, true), (4, true), (5, true), (6, true), (7, false), (8, true)] (by kernel_rfl) (by kernel_rfl) (by kernel_rfl) (by kernel_rfl) ?_
        repeat (first | ((refine wpOX_F rfl (by rfl) (fun w' hL => exec_load rfl rfl (e0 w' hL)) ?_); try simp only [Act.put, List.setIfInBounds_toArray, List.set_cons_zero, List.set_cons_succ]) | ((refine wpOX_F rfl (by rfl) (fun w' hL => exec_load rfl rfl (e1 w' hL)) ?_); try simp only [Act.put, List.setIfInBounds_toArray, List.set_cons_zero, List.set_cons_succ]) | (refine wpOX_F (v := ?_) rfl (by rfl) (fun w' hL => ?_) ?_; rotate_left; (solve | (go_simp; with_reducible rfl) | go_simp); try simp only [Act.put, List.setIfInBounds_toArray, List.set_cons_zero, List.set_cons_succ]) | (refine wpOX_G (Chg.refl _) rfl (by rfl) ?_; try simp only [Act.put, List.setIfInBounds_toArray, List.set_cons_zero, List.set_cons_succ]))
        refine wpOX_C rfl (by rfl) ?_
        refine wp_appS (.tmp 107) (.tmp 112) 30 rfl (bb + 1) 65 iP (.agg #[.string ⟨#[]⟩, .int .i64 0, .string ⟨#[]⟩, .int .i64 0]) 4 48 Try.underlying30 hiP hzP rfl hsP (by omega) hbP (by omega) (.slice none 0 0) 0 [] V1.drew (World.ownsRow_nil _ _ _ _) rfl _ sa (ll - (i + 1)) (lc - (i + 1)) (cellsP (l.drop (i + 1))) (hsA.below hV1.out.2.2.1.drew) (by rw [cellsP_len, List.length_drop, ← HLL.out]) (one_P _) rfl (by omega) (by have := hV1.out.2.1.lt; exact this) ?_
        intro v' Z hk2 hc2 hb2
        refine ⟨by simpa [Value.ownBlock] using hc2, ?_⟩
        try simp only [Act.put, List.setIfInBounds_toArray, List.set_cons_zero, List.set_cons_succ]
        rw [List.nil_append] at hk2
        obtain ⟨bA, bC, rfl, hbC, _, harB⟩ := own_slice hk2
        have hfarB := own_far hk2
        have LZ : Later V1 Z := by
          have h1 : Chg [] V1.drew Z := by simpa [Value.ownBlock] using hc2
          exact h1.undrew.below (Nat.le_refl _) (by simp)
        have hbv := hV1.out.2.1.bel LZ hV1.out.2.1.lt
        have u1 : Z.cell? ⟨bb, 2, none⟩ = some (.slice none 0 0) := hbv.cell 2
        have u2 : Z.frozen? ⟨bb, 2, none⟩ = false := hbv.frozen 2
        have u3 := hbv.lt
        obtain ⟨n, hn⟩ : ∃ n, 0 + (ll - (i + 1)) = n := ⟨_, rfl⟩
        rw [hn] at hbC
        have hn' : (ll - (i + 1)) = n := by omega
        try rw [hn]
        try rw [hn']
        try simp only [hn']
        have HBV0 : Blk (Z.setCell ⟨bb, 2, none⟩ (.slice bA n bC)) bb 32 #[.bool false, .int .i64 xp, .slice bA n bC] := by
          have := hbv.set_ 2 (.slice bA n bC)
          simpa using this
        have HBV := Lib.hid HBV0
        clear HBV0
        have hF := hV1.out.1
        have hab3 := hF.ablt
        have hbbab : ab < bb := habV
        have HFz : Hid (RHf w (Z.setCell ⟨bb, 2, none⟩ (.slice bA n bC)) #[.bool false, .int .i64 kid, .slice (some ⟨b, o, none⟩) ll lc] ab false kid l aa i ac) := by
          refine ⟨(hF.box.bel LZ hF.box.lt).far (by omega) _, (hF.r1.bel LZ hF.r1.lt).far (by omega) _, (hF.r2.bel LZ hF.r2.lt).far (by omega) _, (hF.av.bel LZ hF.av.lt).far (by omega) _, ?_, hF.far, hF.cap, Below.setCell (hF.bel.trans (Below.mono LZ hF.bel.size)) (by show w.heap.size ≤ bb; omega) _, hF.ablt⟩
          have h1 := (HarA.out.below LVV.out).below (LZ.mono (by have := hV1.out.2.1.lt; omega))
          exact (h1.set_above (Nat.le_refl _) _).mono (by have := hbv.lt; simp [World.setCell]; omega)
        have HArB : Hid (Arr (Z.setCell ⟨bb, 2, none⟩ (.slice bA n bC)).heap.size (Z.setCell ⟨bb, 2, none⟩ (.slice bA n bC)) bA (cellsP (l.drop (i + 1)))) := harB.set_far hfarB (Nat.lt_succ_self _)
        have HFarB : Hid (Far (w.heap.size + 1 + 1 + 1) bA (cellsP (l.drop (i + 1)))) := hfarB.mono (by omega)
        have HKz : Hid ((Z.setCell ⟨bb, 2, none⟩ (.slice bA n bC)).cell? ⟨b, o + i * 4, none⟩ = some (.string xk)) := (HFz.out.bel.cell (p := ⟨b, o + i * 4, none⟩) hbw).trans HC0.out
        clear hk2 hc2 hb2 harB hfarB LZ hbv hF
        repeat (first | ((refine wpOX_F rfl (by rfl) (fun w' hL => exec_load rfl rfl (e0 w' hL)) ?_); try simp only [Act.put, List.setIfInBounds_toArray, List.set_cons_zero, List.set_cons_succ]) | (refine wpOX_F (v := ?_) rfl (by rfl) (fun w' hL => ?_) ?_; rotate_left; (solve | (go_simp; with_reducible rfl) | go_simp); try simp only [Act.put, List.setIfInBounds_toArray, List.set_cons_zero, List.set_cons_succ]) | (refine wpOX_G (Chg.refl _) rfl (by rfl) ?_; try simp only [Act.put, List.setIfInBounds_toArray, List.set_cons_zero, List.set_cons_succ]))
        refine wpOX_end rfl (by rfl) ?_
        go_simp
        simp only [NoPanic]
        clear e0 e1 u1 u2 u3 hsr hwi
        generalize (Z.setCell ⟨bb, 2, none⟩ (.slice bA n bC)) = Z2 at *
        have hnl : n = (l.drop (i + 1)).length := by rw [List.length_drop, ← HLL.out]; omega
        have Hn := Lib.hid hnl
        have hzs : w.heap.size + 1 + 1 < Z2.drew.heap.size := HFz.out.r2.lt
        have hn6 : n ≤ 60000 := by omega
        have ilt : i < ll := by rw [HLL.out]; exact hil
        have ilt1 : (i : Int) < (ll : Int) := by omega
        have ilt2 : ¬ ll ≤ i := by omega
        have ilt3 : (0 : Int) ≤ (i : Int) := by omega
        clear hnl hn
        have D2 : Hid (∀ W, Chg [w.heap.size + 1, w.heap.size + 1 + 1] Z2.drew W → (W.cell? ⟨ab, 0, none⟩ = some (.bool false) ∧ W.cell? ⟨ab, 1, none⟩ = some (.int .i64 kid) ∧ W.cell? ⟨ab, 2, none⟩ = some (.slice aa i ac)) ∧ (W.cell? ⟨bb, 0, none⟩ = some (.bool false) ∧ W.cell? ⟨bb, 1, none⟩ = some (.int .i64 xp) ∧ W.cell? ⟨bb, 2, none⟩ = some (.slice bA n bC)) ∧ W.cell? ⟨w.heap.size, 2, none⟩ = some (.slice (some ⟨b, o, none⟩) ll lc) ∧ W.cell? ⟨b, o + i * 4, none⟩ = some (.string xk)) := by
          intro W hW
          have h1 := HFz.out.av.chg hW.undrew (by simp; omega)
          have h2 := HBV.out.chg hW.undrew (by simp; omega)
          have h3 := HFz.out.box.chg hW.undrew (by simp; omega)
          exact ⟨⟨h1.cell 0, h1.cell 1, h1.cell 2⟩, ⟨h2.cell 0, h2.cell 1, h2.cell 2⟩, h3.cell 2, (hW.undrew.cell (b := b) (Nat.lt_of_lt_of_le hbw HFz.out.bel.size) (by simp; omega)).trans HKz.out⟩
        have d0 : ∀ W, Chg [w.heap.size + 1, w.heap.size + 1 + 1] Z2.drew W → W.cell? ⟨ab, 0, none⟩ = some (.bool false) := fun W h => (D2.out W h).1.1
        have d1 : ∀ W, Chg [w.heap.size + 1, w.heap.size + 1 + 1] Z2.drew W → W.cell? ⟨ab, 1, none⟩ = some (.int .i64 kid) := fun W h => (D2.out W h).1.2.1
        have d2 : ∀ W, Chg [w.heap.size + 1, w.heap.size + 1 + 1] Z2.drew W → W.cell? ⟨ab, 2, none⟩ = some (.slice aa i ac) := fun W h => (D2.out W h).1.2.2
        have d3 : ∀ W, Chg [w.heap.size + 1, w.heap.size + 1 + 1] Z2.drew W → W.cell? ⟨bb, 0, none⟩ = some (.bool false) := fun W h => (D2.out W h).2.1.1
        have d4 : ∀ W, Chg [w.heap.size + 1, w.heap.size + 1 + 1] Z2.drew W → W.cell? ⟨bb, 1, none⟩ = some (.int .i64 xp) := fun W h => (D2.out W h).2.1.2.1
        have d5 : ∀ W, Chg [w.heap.size + 1, w.heap.size + 1 + 1] Z2.drew W → W.cell? ⟨bb, 2, none⟩ = some (.slice bA n bC) := fun W h => (D2.out W h).2.1.2.2
        have d6 : ∀ W, Chg [w.heap.size + 1, w.heap.size + 1 + 1] Z2.drew W → W.cell? ⟨w.heap.size, 2, none⟩ = some (.slice (some ⟨b, o, none⟩) ll lc) := fun W h => (D2.out W h).2.2.1
        have d7 : ∀ W, Chg [w.heap.size + 1, w.heap.size + 1 + 1] Z2.drew W → W.cell? ⟨b, o + i * 4, none⟩ = some (.string xk) := fun W h => (D2.out W h).2.2.2
        have HFin : Hid (∀ v0 v1 v2 u0 u1 u2, RR (.returned (.tuple #[.agg #[.bool false, .int .i64 kid, .slice aa i ac], .string xk, .agg #[.bool false, .int .i64 xp, .slice bA n bC]])) (set3 (set3 Z2.drew (w.heap.size + 1) v0 v1 v2) (w.heap.size + 1 + 1) u0 u1 u2)) := by
          intro v0 v1 v2 u0 u1 u2
          have f1 : w.heap.size + 1 < w.heap.size + 1 + 1 + 1 := by omega
          have f2 : w.heap.size + 1 + 1 < w.heap.size + 1 + 1 + 1 := by omega
          have hA : Arr Z2.drew.heap.size Z2.drew aa (cellsP (l.take i)) := HFz.out.arr
          have hB : Arr Z2.drew.heap.size Z2.drew bA (cellsP (l.drop (i + 1))) := HArB.out
          refine HX.out i ⟨xk, xl, xd, xp⟩ ⟨aa, i, ac⟩ ⟨bA, n, bC⟩ _ HSh.out HXi.out ?_ ?_ (set3_below (set3_below HFz.out.bel.drew (Nat.le_add_right _ 1) _ _ _) (Nat.le_add_right _ 2) _ _ _)
          · exact ⟨by simp only [halfA, List.length_take]; omega, HFz.out.cap, by simp only; omega, (hA.set3 HFz.out.far f1 _ _ _).set3 HFz.out.far f2 _ _ _, hkid, fun p hp => HFair.out p (List.mem_of_mem_take hp)⟩
          · exact ⟨Hn.out, hbC, by simp only; omega, (hB.set3 HFarB.out f1 _ _ _).set3 HFarB.out f2 _ _ _, HKidB.out _ (List.mem_of_getElem? HXi.out), fun p hp => HFair.out p (List.mem_of_mem_drop hp)⟩
        have r0 : Z2.drew.cell? ⟨w.heap.size + 1, 0, none⟩ = some (.bool false) := Blk.cell HFz.out.r1 0
        have r1 : Z2.drew.cell? ⟨w.heap.size + 1, 1, none⟩ = some (.int .i64 0) := Blk.cell HFz.out.r1 1
        have r2 : Z2.drew.cell? ⟨w.heap.size + 1, 2, none⟩ = some (.slice none 0 0) := Blk.cell HFz.out.r1 2
        have f0 : Z2.drew.frozen? ⟨w.heap.size + 1, 0, none⟩ = false := Blk.frozen HFz.out.r1 0
        have f1 : Z2.drew.frozen? ⟨w.heap.size + 1, 1, none⟩ = false := Blk.frozen HFz.out.r1 1
        have f2 : Z2.drew.frozen? ⟨w.heap.size + 1, 2, none⟩ = false := Blk.frozen HFz.out.r1 2
        have s0 : Z2.drew.cell? ⟨w.heap.size + 1 + 1, 0, none⟩ = some (.bool false) := Blk.cell HFz.out.r2 0
        have s1 : Z2.drew.cell? ⟨w.heap.size + 1 + 1, 1, none⟩ = some (.int .i64 0) := Blk.cell HFz.out.r2 1
        have s2 : Z2.drew.cell? ⟨w.heap.size + 1 + 1, 2, none⟩ = some (.slice none 0 0) := Blk.cell HFz.out.r2 2
        have g0 : Z2.drew.frozen? ⟨w.heap.size + 1 + 1, 0, none⟩ = false := Blk.frozen HFz.out.r2 0
        have g1 : Z2.drew.frozen? ⟨w.heap.size + 1 + 1, 1, none⟩ = false := Blk.frozen HFz.out.r2 1
        have g2 : Z2.drew.frozen? ⟨w.heap.size + 1 + 1, 2, none⟩ = false := Blk.frozen HFz.out.r2 2
        clear D2
        go_upto_region 17 with (fail)
        refine wp_region_ordS [w.heap.size + 1, w.heap.size + 1 + 1] [(0, true), (1, true), (2, true), (3, true), (4, true), (5, true), (6, true), (7, true), (8, false), (9, true), (10, false)] (by kernel_rfl) (by kernel_rfl) (by kernel_rfl) (by kernel_rfl) ?_
        repeat (first | ((refine wpO_F rfl (by rfl) (fun w' hL => exec_load rfl rfl (d0 w' hL)) ?_); try simp only [Act.put, List.setIfInBounds_toArray, List.set_cons_zero, List.set_cons_succ]) | ((refine wpO_F rfl (by rfl) (fun w' hL => exec_load rfl rfl (d1 w' hL)) ?_); try simp only [Act.put, List.setIfInBounds_toArray, List.set_cons_zero, List.set_cons_succ]) | ((refine wpO_F rfl (by rfl) (fun w' hL => exec_load rfl rfl (d2 w' hL)) ?_); try simp only [Act.put, List.setIfInBounds_toArray, List.set_cons_zero, List.set_cons_succ]) | ((refine wpO_F rfl (by rfl) (fun w' hL => exec_load rfl rfl (d3 w' hL)) ?_); try simp only [Act.put, List.setIfInBounds_toArray, List.set_cons_zero, List.set_cons_succ]) | ((refine wpO_F rfl (by rfl) (fun w' hL => exec_load rfl rfl (d4 w' hL)) ?_); try simp only [Act.put, List.setIfInBounds_toArray, List.set_cons_zero, List.set_cons_succ]) | ((refine wpO_F rfl (by rfl) (fun w' hL => exec_load rfl rfl (d5 w' hL)) ?_); try simp only [Act.put, List.setIfInBounds_toArray, List.set_cons_zero, List.set_cons_succ]) | ((refine wpO_F rfl (by rfl) (fun w' hL => exec_load rfl rfl (d6 w' hL)) ?_); try simp only [Act.put, List.setIfInBounds_toArray, List.set_cons_zero, List.set_cons_succ]) | ((refine wpO_F rfl (by rfl) (fun w' hL => exec_load rfl rfl (d7 w' hL)) ?_); try simp only [Act.put, List.setIfInBounds_toArray, List.set_cons_zero, List.set_cons_succ]) | (refine wpO_F (v := ?_) rfl (by rfl) (fun w' hL => ?_) ?_; rotate_left; (solve | (go_simp; with_reducible rfl) | go_simp); try simp only [Act.put, List.setIfInBounds_toArray, List.set_cons_zero, List.set_cons_succ]) | (refine wpO_G' (Chg.refl _) rfl (by rfl) ?_; try simp only [Act.put, List.setIfInBounds_toArray, List.set_cons_zero, List.set_cons_succ]))
        generalize Z2.drew = Z3 at *
        refine wpO_C rfl (by rfl) ?_
        go_simp
        refine ⟨set3_chg (by simp) _ _ _, ?_⟩
        try simp only [Act.put, List.setIfInBounds_toArray, List.set_cons_zero, List.set_cons_succ]
        repeat (first | (refine wpO_F (v := ?_) rfl (by rfl) (fun w' hL => ?_) ?_; rotate_left; (solve | (go_simp; with_reducible rfl) | go_simp); try simp only [Act.put, List.setIfInBounds_toArray, List.set_cons_zero, List.set_cons_succ]) | (refine wpO_G' (Chg.refl _) rfl (by rfl) ?_; try simp only [Act.put, List.setIfInBounds_toArray, List.set_cons_zero, List.set_cons_succ]))
        refine wpO_C rfl (by rfl) ?_
        go_simp
        refine ⟨set3_chg (by simp) _ _ _, ?_⟩
        try simp only [Act.put, List.setIfInBounds_toArray, List.set_cons_zero, List.set_cons_succ]
        refine wpO_nil ?_
        go_wp2
        refine bodyPost_ret (v := .tuple #[.agg #[.bool false, .int .i64 kid, .slice aa i ac], .string xk, .agg #[.bool false, .int .i64 xp, .slice bA n bC]]) (by simp [results, Try.results27, go_sem, r0, r1, r2, s0, s1, s2, hzs]) rfl (HFin.out _ _ _ _ _ _)
end Go.Proofs.Ytlcphgomhhejbaa

/- A node that comes in as an argument. -/
namespace Go.Proofs.Ytlcphgomhhejbaa
open Go.RowKit Go.ChangeShapes Go.WideShapes Go.Deep Go.Joins

theorem cellsOf_at {α : Type} (f : α → List Value) (z : Nat) (hz : 0 < z) (hf : ∀ x, (f x).length = z) : ∀ (l : List α) (i : Nat) (v : Value), (cellsOf f l)[i]? = some v → ∃ y, l[i / z]? = some y ∧ (f y)[i % z]? = some v
  | [], i, v, h => by simp [cellsOf] at h
  | x :: r, i, v, h => by
    have e : cellsOf f (x :: r) = f x ++ cellsOf f r := rfl
    rw [e] at h
    by_cases hi : i < z
    · rw [List.getElem?_append_left (by rw [hf]; exact hi)] at h
      exact ⟨x, by rw [Nat.div_eq_of_lt hi]; rfl, by rw [Nat.mod_eq_of_lt hi]; exact h⟩
    · rw [List.getElem?_append_right (by rw [hf]; omega), hf] at h
      obtain ⟨y, h1, h2⟩ := cellsOf_at f z hz hf r (i - z) v h
      have e1 : i = (i - z) + z := by omega
      refine ⟨y, ?_, ?_⟩
      · rw [e1, Nat.add_div_right _ hz]; exact h1
      · rw [e1, Nat.add_mod_right]; exact h2

/-- A row of values that came in, element by element. -/
theorem row_of {α : Type} (f : α → List Value) (z : Nat) (hz : 0 < z) (hf : ∀ x, (f x).length = z) (Q : α → Prop) (w : World) (x : Addr) (len : Nat)
    (hex : ∀ i : Fin len, ∃ y, Q y ∧ ∀ (j : Nat) (v : Value), (f y)[j]? = some v → w.cell? ((x.add (i.1 * z)).add j) = some v) :
    ∃ L : List α, L.length = len ∧ Arr w.heap.size w (some x) (cellsOf f L) ∧ ∀ y ∈ L, Q y := by
  obtain ⟨g, hg⟩ := Classical.axiomOfChoice hex
  refine ⟨List.ofFn g, by simp, ?_, ?_⟩
  · by_cases h0 : len = 0
    · left; subst h0; simp [cellsOf]
    · right
      obtain ⟨b, o, spot⟩ := x
      have hlen0 : 0 < (f (g ⟨0, by omega⟩)).length := by rw [hf]; exact hz
      have hc0 := (hg ⟨0, by omega⟩).2 0 _ (List.getElem?_eq_getElem hlen0)
      have hspot : spot = none := by
        have := World.cell?_spot hc0
        simpa [Addr.add] using this
      subst hspot
      have hblk := World.block_lt_of_cell? _ _ hc0
      refine ⟨b, o, rfl, by simpa [Addr.add] using hblk, fun i v hv => ?_⟩
      obtain ⟨y, h1, h2⟩ := cellsOf_at f z hz hf _ i v hv
      rw [List.getElem?_ofFn] at h1
      split at h1
      · rename_i hlt
        simp only [Option.some.injEq] at h1
        subst h1
        have hh := (hg ⟨i / z, hlt⟩).2 _ v h2
        have e1 : ((⟨b, o, none⟩ : Addr).add (i / z * z)).add (i % z) = ⟨b, o + i, none⟩ := by
          have : i / z * z + i % z = i := Nat.div_add_mod' i z
          simp only [Addr.add]
          split <;> split <;> simp_all <;> omega
        rw [e1] at hh
        exact hh
      · cases h1
  · intro y hy
    rw [List.mem_ofFn] at hy
    obtain ⟨i, rfl⟩ := hy
    exact (hg i).1

/-- What the walk is told of a node that came in. -/
structure NIn (w : World) (n : Nd) (m : NB) : Prop where
  hk : m.kl = n.keys.length
  hc : m.cl = n.cells.length
  hd : m.dl = n.kids.length
  kcap : m.kl ≤ m.kc
  ccap : m.cl ≤ m.cc
  dcap : m.dl ≤ m.dc
  kmax : m.kl ≤ 9223372036854775807
  cmax : m.cl ≤ 9223372036854775807
  dmax : m.dl ≤ 9223372036854775807
  karr : Arr w.heap.size w m.ka (cellsS n.keys)
  carr : Arr w.heap.size w m.ca (cellsC n.cells)
  darr : Arr w.heap.size w m.da (cellsI n.kids)
  kfair : ∀ k ∈ n.keys, k.size ≤ 9223372036854775807
  cfair : ∀ c ∈ n.cells, c.data.size ≤ 9223372036854775807 ∧ (-9223372036854775808 ≤ c.len ∧ c.len ≤ 9223372036854775807) ∧ (-9223372036854775808 ≤ c.page ∧ c.page ≤ 9223372036854775807)
  dfair : ∀ p ∈ n.kids, -9223372036854775808 ≤ p ∧ p ≤ 9223372036854775807
theorem NIn.later {w w' : World} {n : Nd} {m : NB} (h : NIn w n m) (hb : Below w.heap.size w w') : NIn w' n m :=
  ⟨h.hk, h.hc, h.hd, h.kcap, h.ccap, h.dcap, h.kmax, h.cmax, h.dmax, h.karr.later (N := 0) hb, h.carr.later (N := 0) hb, h.darr.later (N := 0) hb, h.kfair, h.cfair, h.dfair⟩

set_option maxRecDepth 100000 in
theorem trod_strs {H : Type} {enc : TypeId × Value → H} {w : World} {fuel : Nat} {cs : List Value} {x : DataW H × List MemPlace}
    (h : DataW.trod enc Try.prog w 0 (fun _ => true) true fuel 22 cs = some x) :
    ∃ (a : Option Addr) (len cap : Nat) (L : List ByteArray), cs = [.slice a len cap] ∧ L.length = len ∧ len ≤ cap ∧ cap ≤ 9223372036854775807 ∧ Arr w.heap.size w a (cellsS L) ∧ ∀ s ∈ L, s.size ≤ 9223372036854775807 := by
  rcases open_slice Try.underlying22 h with ⟨hcs, _⟩ | ⟨x, l, c, m, n, D, Pl, hcs, _, hl, hm, hmm, _, hi⟩
  · exact ⟨none, 0, 0, [], hcs, rfl, by omega, by omega, .inl rfl, by simp⟩
  · have hmc : m = c := by simpa using hmm
    have hC : Try.prog.cellsOf 9 = 1 := by kernel_rfl
    unfold maxLen at hm
    obtain ⟨L, h1, h2, h3⟩ := row_of (fun s : ByteArray => [Value.string s]) 1 (by omega) (fun _ => rfl) (fun s => s.size ≤ 9223372036854775807) w x l (fun i => by
      obtain ⟨cs', hc', ht'⟩ := hi i.1 (by have := i.2; omega)
      rw [hC] at hc'
      obtain ⟨_, hlen, hat⟩ := World.cells?_some hc'
      obtain ⟨s, e0, -, w0⟩ := DataW.trod_string Try.underlying9 ht'
      unfold maxLen at w0
      subst e0
      exact ⟨s, w0, fun j v hj => by rw [hat j (by have := (List.getElem?_eq_some_iff.1 hj).1; simpa using this)]; exact hj⟩)
    exact ⟨some x, l, c, L, hcs, h1, hl, by omega, h2, h3⟩

set_option maxRecDepth 100000 in
theorem trod_cells {H : Type} {enc : TypeId × Value → H} {w : World} {fuel : Nat} {cs : List Value} {x : DataW H × List MemPlace}
    (h : DataW.trod enc Try.prog w 0 (fun _ => true) true fuel 23 cs = some x) :
    ∃ (a : Option Addr) (len cap : Nat) (L : List Cl), cs = [.slice a len cap] ∧ L.length = len ∧ len ≤ cap ∧ cap ≤ 9223372036854775807 ∧ Arr w.heap.size w a (cellsC L) ∧
      ∀ c ∈ L, c.data.size ≤ 9223372036854775807 ∧ (-9223372036854775808 ≤ c.len ∧ c.len ≤ 9223372036854775807) ∧ (-9223372036854775808 ≤ c.page ∧ c.page ≤ 9223372036854775807) := by
  rcases open_slice Try.underlying23 h with ⟨hcs, _⟩ | ⟨x, l, c, m, n, D, Pl, hcs, _, hl, hm, hmm, _, hi⟩
  · exact ⟨none, 0, 0, [], hcs, rfl, by omega, by omega, .inl rfl, by simp⟩
  · have hmc : m = c := by simpa using hmm
    have hC : Try.prog.cellsOf 63 = 3 := by kernel_rfl
    unfold maxLen at hm
    obtain ⟨L, h1, h2, h3⟩ := row_of (fun c : Cl => [Value.int .i64 c.len, .string c.data, .int .i64 c.page]) 3 (by omega) (fun _ => rfl) (fun c => c.data.size ≤ 9223372036854775807 ∧ (-9223372036854775808 ≤ c.len ∧ c.len ≤ 9223372036854775807) ∧ (-9223372036854775808 ≤ c.page ∧ c.page ≤ 9223372036854775807)) w x l (fun i => by
      obtain ⟨cs', hc', ht'⟩ := hi i.1 (by have := i.2; omega)
      rw [hC] at hc'
      obtain ⟨_, hlen, hat⟩ := World.cells?_some hc'
      obtain ⟨y0, y1, y2, n', _, _, h0, h1, h2⟩ := trod_struct3 Try.underlying63 ht'
      match cs', hlen with
      | [v0, v1, v2], _ =>
        have g0 : DataW.trod enc Try.prog w 0 (fun _ => true) true n' 3 [v0] = some y0 := h0
        have g1 : DataW.trod enc Try.prog w 0 (fun _ => true) true n' 9 [v1] = some y1 := h1
        have g2 : DataW.trod enc Try.prog w 0 (fun _ => true) true n' 3 [v2] = some y2 := h2
        obtain ⟨z, e0, -, w0⟩ := DataW.trod_int Try.underlying3 g0
        obtain ⟨s, e1, -, w1⟩ := DataW.trod_string Try.underlying9 g1
        obtain ⟨p, e2, -, w2⟩ := DataW.trod_int Try.underlying3 g2
        simp only [List.cons.injEq, and_true] at e0 e1 e2
        subst e0 e1 e2
        unfold maxLen at w1
        exact ⟨⟨z, s, p⟩, ⟨w1, bd_i64 w0, bd_i64 w2⟩, fun j v hj => by rw [hat j (by have := (List.getElem?_eq_some_iff.1 hj).1; simpa using this)]; exact hj⟩)
    exact ⟨some x, l, c, L, hcs, h1, hl, by omega, h2, h3⟩

set_option maxRecDepth 100000 in
theorem trod_nums {H : Type} {enc : TypeId × Value → H} {w : World} {fuel : Nat} {cs : List Value} {x : DataW H × List MemPlace}
    (h : DataW.trod enc Try.prog w 0 (fun _ => true) true fuel 24 cs = some x) :
    ∃ (a : Option Addr) (len cap : Nat) (L : List Int), cs = [.slice a len cap] ∧ L.length = len ∧ len ≤ cap ∧ cap ≤ 9223372036854775807 ∧ Arr w.heap.size w a (cellsI L) ∧ ∀ p ∈ L, -9223372036854775808 ≤ p ∧ p ≤ 9223372036854775807 := by
  rcases open_slice Try.underlying24 h with ⟨hcs, _⟩ | ⟨x, l, c, m, n, D, Pl, hcs, _, hl, hm, hmm, _, hi⟩
  · exact ⟨none, 0, 0, [], hcs, rfl, by omega, by omega, .inl rfl, by simp⟩
  · have hmc : m = c := by simpa using hmm
    have hC : Try.prog.cellsOf 3 = 1 := by kernel_rfl
    unfold maxLen at hm
    obtain ⟨L, h1, h2, h3⟩ := row_of (fun n : Int => [Value.int .i64 n]) 1 (by omega) (fun _ => rfl) (fun p => -9223372036854775808 ≤ p ∧ p ≤ 9223372036854775807) w x l (fun i => by
      obtain ⟨cs', hc', ht'⟩ := hi i.1 (by have := i.2; omega)
      rw [hC] at hc'
      obtain ⟨_, hlen, hat⟩ := World.cells?_some hc'
      obtain ⟨s, e0, -, w0⟩ := DataW.trod_int Try.underlying3 ht'
      subst e0
      exact ⟨s, bd_i64 w0, fun j v hj => by rw [hat j (by have := (List.getElem?_eq_some_iff.1 hj).1; simpa using this)]; exact hj⟩)
    exact ⟨some x, l, c, L, hcs, h1, hl, by omega, h2, h3⟩

set_option maxRecDepth 100000 in
theorem open_node {H : Type} {enc : TypeId × Value → H} {w : World} {r : Reach} {b0 : Nat} {v : Value} {d : DataW H} {p : List MemPlace} (hv : Value.okWide Try.prog w r b0 26 v) (h : DataW.Trod enc Try.prog w 0 (fun _ => true) true 26 v d p) :
    ∃ (n : Nd) (m : NB), v = m.v n.leaf ∧ NIn w n m := by
  obtain ⟨cs, rfl, _⟩ := okWide_struct Try.underlying26 hv
  obtain ⟨fuel, hf⟩ := h
  have hf2 : DataW.trod enc Try.prog w 0 (fun _ => true) true fuel 26 cs.toList = some (d, p) := hf
  obtain ⟨xs, n, _, hx, hl, hlen, hfin⟩ := DataW.trod_struct Try.underlying26 hf2
  have hC : Try.prog.cellsOf 26 = 4 := by kernel_rfl
  rw [hC] at hl
  obtain ⟨cl, hcl⟩ : ∃ cl, cs.toList = cl := ⟨_, rfl⟩
  have hcs : cs = cl.toArray := by rw [← hcl]
  rw [hcl] at hl hfin
  subst hcs
  match cl, hl with
  | [v0, v1, v2, v3], _ =>
    match xs, hlen with
    | [y0, y1, y2, y3], _ =>
      have g0 : DataW.trod enc Try.prog w 0 (fun _ => true) true n 4 [v0] = some y0 := hfin 0 _ rfl
      have g1 : DataW.trod enc Try.prog w 0 (fun _ => true) true n 22 [v1] = some y1 := hfin 1 _ rfl
      have g2 : DataW.trod enc Try.prog w 0 (fun _ => true) true n 23 [v2] = some y2 := hfin 2 _ rfl
      have g3 : DataW.trod enc Try.prog w 0 (fun _ => true) true n 24 [v3] = some y3 := hfin 3 _ rfl
      obtain ⟨bl, e0, -⟩ := DataW.trod_bool Try.underlying4 g0
      obtain ⟨ka, kl, kc, ks, e1, k1, k2, k3, k4, k5⟩ := trod_strs g1
      obtain ⟨ca, cl, cc, cs, e2, c1, c2, c3, c4, c5⟩ := trod_cells g2
      obtain ⟨da, dl, dc, ps, e3, d1, d2, d3, d4, d5⟩ := trod_nums g3
      simp only [List.cons.injEq, and_true] at e0 e1 e2 e3
      subst e0 e1 e2 e3
      exact ⟨⟨bl, ks, cs, ps⟩, ⟨ka, kl, kc, ca, cl, cc, da, dl, dc⟩, rfl, ⟨k1.symm, c1.symm, d1.symm, k2, c2, d2, by simp only; omega, by simp only; omega, by simp only; omega, k4, c4, d4, k5, c5, d5⟩⟩
end Go.Proofs.Ytlcphgomhhejbaa

/- The walk of the law's Great. -/
namespace Go.Proofs.Ytlcphgomhhejbaa
open Go.RowKit

/-- A node that is not too great. -/
structure Fits (n : Nd) : Prop where
  kn : n.keys.length ≤ 60
  ks : ∀ k ∈ n.keys, k.size ≤ 200
  cn : n.cells.length ≤ 60
  cs : ∀ c ∈ n.cells, c.data.size ≤ 300
  dn : n.kids.length ≤ 80
theorem NIn.at_ {w : World} {n : Nd} {m : NB} (h : NIn w n m) (f : Fits n) : NAt w n m := by
  have h1 := h.hk
  have h2 := h.hc
  have h3 := h.hd
  have f1 := f.kn
  have f2 := f.cn
  have f3 := f.dn
  exact ⟨h.hk, h.hc, h.hd, h.kcap, h.ccap, h.dcap, by omega, by omega, by omega, h.karr, h.carr, h.darr, fun k hk => by have := f.ks k hk; omega, fun c hc => ⟨by have := f.cs c hc; omega, (h.cfair c hc).2⟩, h.dfair⟩
def RetGreat (w : World) (n : Nd) (e : Ending) (w' : World) : Prop := ∃ r : Bool, e = .returned (.bool r) ∧ (r = false → Fits n) ∧ Below w.heap.size w w'

def UpS {α : Type} (f : α → Nat) (b : Nat) (l : List α) (k : Nat) : Prop := ∀ x ∈ l.take k, f x ≤ b
theorem UpS.succ {α : Type} {f : α → Nat} {b : Nat} {l : List α} {k : Nat} (h : UpS f b l k) (hk : k < l.length) (hx : f l[k] ≤ b) : UpS f b l (k + 1) := by
  intro x hx2
  rw [List.take_succ_eq_append_getElem hk] at hx2
  rcases List.mem_append.1 hx2 with h1 | h1
  · exact h x h1
  · simp at h1; subst h1; exact hx

set_option maxRecDepth 100000 in
set_option maxHeartbeats 2000000 in
theorem NGreat_any (n : Nd) (m : NB) (w : World) (h : NIn w n m) :
    Calls Try.prog 8 #[m.v n.leaf] w (RetGreat w n) := by
  have hbx := Below.box w (.cells #[.bool n.leaf, .slice m.ka m.kl m.kc, .slice m.ca m.cl m.cc, .slice m.da m.dl m.dc] 26)
  have HKA := Lib.hid (h.later hbx).karr
  have HCA := Lib.hid (h.later hbx).carr
  have HK := Lib.hid h.hk
  have HC := Lib.hid h.hc
  have HD := Lib.hid h.hd
  have kmax := h.kmax
  have cmax := h.cmax
  have dmax := h.dmax
  have HKF := Lib.hid h.kfair
  have HCF := Lib.hid h.cfair
  have HY : Hid (RetGreat w n (.returned (.bool true)) _) := ⟨true, rfl, by simp, hbx⟩
  have HF : Hid (∀ r, (r = false → Fits n) → RetGreat w n (.returned (.bool r)) _) := fun r hr => ⟨r, rfl, hr, hbx⟩
  clear hbx h
  obtain ⟨ka, kl, kc, ca, cl, cc, da, dl, dc⟩ := m
  obtain ⟨leaf, ks, cs, ps⟩ := n
  simp only at *
  generalize hRR : RetGreat w ⟨leaf, ks, cs, ps⟩ = RR at *
  clear hRR
  go_enter Try.func8, Try.ntmps8
  go_wp2_with fail
  go_loop [3] (fun i => ∃ k : Nat, k ≤ kl ∧ i = .int .i64 k ∧ Hid (UpS ByteArray.size 200 ks k) ∧ (0 < k → kl ≤ 60)) (fun i => kl - (intOf i).toNat)
  case atStart => exact ⟨0, by omega, rfl, fun x hx => by simp at hx, by omega⟩
  case round =>
    obtain ⟨k, hk, rfl, HI, h60⟩ := hrel
    by_cases hlt : k < kl
    · have hkl : k < ks.length := by have := HK.out; omega
      obtain ⟨b, o, rfl, hbN, c0⟩ := strAt HKA.out hkl
      have hfs := HKF.out _ (List.getElem_mem hkl)
      have HST : Hid (ks[k].size ≤ 200 → UpS ByteArray.size 200 ks (k + 1)) := fun h => HI.out.succ hkl h
      generalize ks[k]'hkl = y at *
      by_cases h6 : 60 < kl
      · have q : decide ((60 : Int) < (kl : Int)) = true := by simp; omega
        clear h60
        go_wp2
        exact HY.out
      · have q : decide ((60 : Int) < (kl : Int)) = false := by simp; omega
        by_cases h2 : 200 < y.size
        · have q2 : decide ((200 : Int) < (y.size : Int)) = true := by simp; omega
          clear h60
          go_wp2
          exact HY.out
        · have q2 : decide ((200 : Int) < (y.size : Int)) = false := by simp; omega
          have HST2 := Lib.hid (HST.out (by omega))
          clear h60 HST
          go_wp2
          go_round
          case rel => exact ⟨k + 1, by omega, by go_num, HST2, by omega⟩
          case measure => simp [intOf]; omega
    · have HKS : Hid (∀ x ∈ ks, x.size ≤ 200) := by
        have := HI.out
        unfold UpS at this
        rw [List.take_of_length_le (by have := HK.out; omega)] at this
        exact this
      have hkn : kl ≤ 60 := by
        rcases Nat.eq_zero_or_pos kl with h0 | h0
        · omega
        · exact h60 (by omega)
      clear h60
      go_wp2_with fail
      go_loop [4] (fun i => ∃ k : Nat, k ≤ cl ∧ i = .int .i64 k ∧ Hid (UpS (fun c : Cl => c.data.size) 300 cs k) ∧ (0 < k → cl ≤ 60)) (fun i => cl - (intOf i).toNat)
      case atStart => exact ⟨0, by omega, rfl, fun x hx => by simp at hx, by omega⟩
      case round =>
        obtain ⟨j, hj, rfl, HI2, h60⟩ := hrel
        by_cases hlt2 : j < cl
        · have hjl : j < cs.length := by have := HC.out; omega
          obtain ⟨b, o, rfl, hbN, c0, c1, c2⟩ := cellAt HCA.out hjl
          have hfs := (HCF.out _ (List.getElem_mem hjl)).1
          have HST : Hid (cs[j].data.size ≤ 300 → UpS (fun c : Cl => c.data.size) 300 cs (j + 1)) := fun h => HI2.out.succ hjl h
          generalize cs[j]'hjl = y at *
          obtain ⟨yl, yd, yp⟩ := y
          simp only at *
          by_cases h6 : 60 < cl
          · have q : decide ((60 : Int) < (cl : Int)) = true := by simp; omega
            clear h60
            go_wp2
            exact HY.out
          · have q : decide ((60 : Int) < (cl : Int)) = false := by simp; omega
            by_cases h2 : 300 < yd.size
            · have q2 : decide ((300 : Int) < (yd.size : Int)) = true := by simp; omega
              clear h60
              go_wp2
              exact HY.out
            · have q2 : decide ((300 : Int) < (yd.size : Int)) = false := by simp; omega
              have HST2 := Lib.hid (HST.out (by omega))
              clear h60 HST
              go_wp2
              go_round
              case rel => exact ⟨j + 1, by omega, by go_num, HST2, by omega⟩
              case measure => simp [intOf]; omega
        · have HCS : Hid (∀ x ∈ cs, x.data.size ≤ 300) := by
            have := HI2.out
            unfold UpS at this
            rw [List.take_of_length_le (by have := HC.out; omega)] at this
            exact this
          have hcn : cl ≤ 60 := by
            rcases Nat.eq_zero_or_pos cl with h0 | h0
            · omega
            · exact h60 (by omega)
          have HE := Lib.hid (HF.out (decide ((80 : Int) < (dl : Int))) (fun h => ⟨by have := HK.out; simp only; omega, HKS.out, by have := HC.out; simp only; omega, HCS.out, by have := HD.out; simp at h; simp only; omega⟩))
          clear h60
          go_wp2
          exact HE.out
end Go.Proofs.Ytlcphgomhhejbaa

/- The walk of the law NodeHalves. -/
namespace Go.Proofs.Ytlcphgomhhejbaa
open Go.RowKit

theorem RHalve_any (x : Rn) (m : RB) (w : World) (h : RAt w x m) (hbig : m.ll ≤ 60000) :
    Calls Try.prog 27 #[m.v x.leaf x.kid] w (RetRH w x) := by
  by_cases hc : x.Ok ∧ 2 + movedR x ≤ x.l.length
  · cases hl : x.leaf with
    | true => exact rHalveL_yes x m w h hl hc.1 (by have := hc.2; rw [show movedR x = 0 by unfold movedR; rw [hl]; rfl] at this; exact this) hbig
    | false => exact rHalveI_yes x m w h hl hc.1 (by have := hc.2; rw [show movedR x = 1 by unfold movedR; rw [hl]; rfl] at this; exact this) hbig
  · cases hl : x.leaf with
    | true => exact rHalveL_no x m w h hl (by rw [show movedR x = 0 by unfold movedR; rw [hl]; rfl] at hc; exact hc) hbig
    | false => exact rHalveI_no x m w h hl (by rw [show movedR x = 1 by unfold movedR; rw [hl]; rfl] at hc; exact hc) hbig

theorem half_not {n a b : Nd} {k : ByteArray} (h : IsHalf n a k b) (hs : n.shaped = false) : a = zeroN ∧ k = ⟨#[]⟩ ∧ b = zeroN := by
  rcases h with ⟨_, h⟩ | ⟨ho, _⟩
  · exact h
  · have := ho.shaped; rw [hs] at this; cases this

set_option maxRecDepth 100000 in
set_option maxHeartbeats 16000000 in
theorem nodeHalves_walk (n : Nd) (m : NB) (w : World) (hin : NIn w n m) :
    Calls Try.prog 5 #[m.v n.leaf] w fun e w' => e = .returned (.bool true) ∧ Below w.heap.size w w' := by
  have hbx := Below.box w (.cells #[.bool n.leaf, .slice m.ka m.kl m.kc, .slice m.ca m.cl m.cc, .slice m.da m.dl m.dc] 26)
  have HGr := Lib.hid (NGreat_any n m _ (hin.later hbx))
  have HAl := Lib.hid alive_any10
  have HIn := Lib.hid hin
  have HBx := Lib.hid hbx
  have HBlk0 := Lib.hid (Blk.new w 26 #[.bool n.leaf, .slice m.ka m.kl m.kc, .slice m.ca m.cl m.cc, .slice m.da m.dl m.dc])
  obtain ⟨lf, hlf⟩ : ∃ lf, n.leaf = lf := ⟨_, rfl⟩
  rw [hlf] at HGr HBx HBlk0 ⊢
  have HLf := Lib.hid hlf
  clear hin hbx hlf
  obtain ⟨ka, kl, kc, ca, cl, cc, da, dl, dc⟩ := m
  simp only at *
  go_enter Try.func5, Try.ntmps5
  go_wp2_with fail
  refine HGr.out.mono ?_
  rintro e w1 ⟨r, rfl, hfit, hb1⟩
  have L01 : Later _ w1 := hb1
  have HB1 : Hid (Below w.heap.size w w1) := HBx.out.trans (Below.mono L01 HBx.out.size)
  cases r with
  | true =>
    clear hfit hb1 L01
    go_wp2_with fail
    refine (HAl.out _).mono ?_
    rintro e w2 ⟨rfl, hb2⟩
    go_wp2
    go_ret
    exact ⟨rfl, HB1.out.trans (Below.mono hb2 HB1.out.size)⟩
  | false =>
    have HF := Lib.hid (hfit rfl)
    have HNA := Lib.hid (HIn.out.at_ HF.out)
    have HBk1 : Hid (Blk w1 w.heap.size 26 #[.bool lf, .slice ka kl kc, .slice ca cl cc, .slice da dl dc]) := HBlk0.out.bel L01 HBlk0.out.lt
    have hkl : kl ≤ 60 := by have := HF.out.kn; have := HNA.out.hk; simp only at this; omega
    have HAn1 := Lib.hid (HNA.out.later HB1.out)
    have HAs := NAs_any n ⟨ka, kl, kc, ca, cl, cc, da, dl, dc⟩ w1 HAn1.out (by simp only; omega)
    rw [HLf.out] at HAs
    have HAs := Lib.hid HAs
    clear hfit hb1 L01
    have n0 : w1.cell? ⟨w.heap.size, 0, none⟩ = some (.bool lf) := Blk.cell HBk1.out 0
    have n1 : w1.cell? ⟨w.heap.size, 1, none⟩ = some (.slice ka kl kc) := Blk.cell HBk1.out 1
    have n2 : w1.cell? ⟨w.heap.size, 2, none⟩ = some (.slice ca cl cc) := Blk.cell HBk1.out 2
    have n3 : w1.cell? ⟨w.heap.size, 3, none⟩ = some (.slice da dl dc) := Blk.cell HBk1.out 3
    have nlt : w.heap.size < w1.heap.size := Blk.lt HBk1.out
    go_wp2_with fail
    refine HAs.out.mono ?_
    rintro e w2 ⟨x, mx, rfl, hx, hRA, L12⟩
    have HB2 : Hid (Below w.heap.size w w2) := HB1.out.trans (Below.mono L12 HB1.out.size)
    have HBk2 := Lib.hid (HBk1.out.bel L12 HBk1.out.lt)
    have HAn2 := Lib.hid (HAn1.out.later L12)
    obtain ⟨xa, xl, xc⟩ := mx
    obtain ⟨xf, hxf⟩ : ∃ xf, x.leaf = xf := ⟨_, rfl⟩
    obtain ⟨xk, hxk⟩ : ∃ xk, x.kid = xk := ⟨_, rfl⟩
    rw [hxf, hxk]
    have HXf := Lib.hid hxf
    have HXk := Lib.hid hxk
    have LX : Later w2 (w2.alloc (.cells #[.bool xf, .int .i64 xk, .slice xa xl xc] 32)) := Below.box _ _
    have HBX : Hid (Below w.heap.size w (w2.alloc (.cells #[.bool xf, .int .i64 xk, .slice xa xl xc] 32))) := HB2.out.trans (Below.mono LX HB2.out.size)
    have HBkX := Lib.hid (HBk2.out.alloc (.cells #[.bool xf, .int .i64 xk, .slice xa xl xc] 32))
    have HRkX := Lib.hid (Blk.new w2 32 #[.bool xf, .int .i64 xk, .slice xa xl xc])
    have HRAX := Lib.hid (hRA.later LX)
    have HAnX := Lib.hid (HAn2.out.later LX)
    have HHv := NHalve_any n ⟨ka, kl, kc, ca, cl, cc, da, dl, dc⟩ _ HAnX.out (by simp only; omega)
    rw [HLf.out] at HHv
    have HHv := Lib.hid HHv
    obtain ⟨sh, hsh⟩ : ∃ sh, n.shaped = sh := ⟨_, rfl⟩
    rw [hsh] at hx ⊢
    have HX := Lib.hid hx
    have HSh := Lib.hid hsh
    have hxl : Hid (xl = x.l.length) := hRA.hl
    clear hxf hxk hx hsh hRA L12 LX n0 n1 n2 n3 nlt
    have n0 : w2.cell? ⟨w.heap.size, 0, none⟩ = some (.bool lf) := Blk.cell HBk2.out 0
    have n1 : w2.cell? ⟨w.heap.size, 1, none⟩ = some (.slice ka kl kc) := Blk.cell HBk2.out 1
    have n2 : w2.cell? ⟨w.heap.size, 2, none⟩ = some (.slice ca cl cc) := Blk.cell HBk2.out 2
    have n3 : w2.cell? ⟨w.heap.size, 3, none⟩ = some (.slice da dl dc) := Blk.cell HBk2.out 3
    have nlt : w.heap.size < w2.heap.size := Blk.lt HBk2.out
    go_wp2_with fail
    refine HHv.out.mono ?_
    rintro e w3 ⟨a, b, k, ma, mb, rfl, hH, hNa, hNb, L23⟩
    have LA : Later w3 ((w3.alloc (.cells #[.bool a.leaf, .slice ma.ka ma.kl ma.kc, .slice ma.ca ma.cl ma.cc, .slice ma.da ma.dl ma.dc] 26)).alloc (.cells #[.bool b.leaf, .slice mb.ka mb.kl mb.kc, .slice mb.ca mb.cl mb.cc, .slice mb.da mb.dl mb.dc] 26)) := ((Below.refl _ w3).alloc (Nat.le_refl _) _).alloc (by simp) _
    have HB3 : Hid (Below w.heap.size w w3) := HBX.out.trans (Below.mono L23 HBX.out.size)
    have HBA : Hid (Below w.heap.size w ((w3.alloc (.cells #[.bool a.leaf, .slice ma.ka ma.kl ma.kc, .slice ma.ca ma.cl ma.cc, .slice ma.da ma.dl ma.dc] 26)).alloc (.cells #[.bool b.leaf, .slice mb.ka mb.kl mb.kc, .slice mb.ca mb.cl mb.cc, .slice mb.da mb.dl mb.dc] 26))) := HB3.out.trans (Below.mono LA HB3.out.size)
    have HBk3 := Lib.hid ((HBkX.out.bel L23 HBkX.out.lt).bel LA (HBkX.out.bel L23 HBkX.out.lt).lt)
    have HRk3 := Lib.hid ((HRkX.out.bel L23 HRkX.out.lt).bel LA (HRkX.out.bel L23 HRkX.out.lt).lt)
    have HAk3 := Lib.hid ((Blk.new w3 26 #[.bool a.leaf, .slice ma.ka ma.kl ma.kc, .slice ma.ca ma.cl ma.cc, .slice ma.da ma.dl ma.dc]).alloc (.cells #[.bool b.leaf, .slice mb.ka mb.kl mb.kc, .slice mb.ca mb.cl mb.cc, .slice mb.da mb.dl mb.dc] 26))
    have HBb3 : Hid (Blk ((w3.alloc (.cells #[.bool a.leaf, .slice ma.ka ma.kl ma.kc, .slice ma.ca ma.cl ma.cc, .slice ma.da ma.dl ma.dc] 26)).alloc (.cells #[.bool b.leaf, .slice mb.ka mb.kl mb.kc, .slice mb.ca mb.cl mb.cc, .slice mb.da mb.dl mb.dc] 26)) (w3.heap.size + 1) 26 #[.bool b.leaf, .slice mb.ka mb.kl mb.kc, .slice mb.ca mb.cl mb.cc, .slice mb.da mb.dl mb.dc]) := by
      have h1 := Blk.new (w3.alloc (.cells #[.bool a.leaf, .slice ma.ka ma.kl ma.kc, .slice ma.ca ma.cl ma.cc, .slice ma.da ma.dl ma.dc] 26)) 26 #[.bool b.leaf, .slice mb.ka mb.kl mb.kc, .slice mb.ca mb.cl mb.cc, .slice mb.da mb.dl mb.dc]
      rw [show (w3.alloc (.cells #[.bool a.leaf, .slice ma.ka ma.kl ma.kc, .slice ma.ca ma.cl ma.cc, .slice ma.da ma.dl ma.dc] 26)).heap.size = w3.heap.size + 1 by simp] at h1
      exact h1
    have HRA3 := Lib.hid ((HRAX.out.later L23).later LA)
    have HNa3 := Lib.hid (hNa.later LA)
    have HNb3 := Lib.hid (hNb.later LA)
    have HAn3 := Lib.hid ((HAnX.out.later L23).later LA)
    have HH := Lib.hid hH
    clear hH hNa hNb L23 LA HHv n0 n1 n2 n3 nlt
    cases sh with
    | false =>
      obtain ⟨rfl, rfl, rfl⟩ := half_not HH.out HSh.out
      go_wp2_with fail
      refine (HAl.out _).mono ?_
      rintro e v4 ⟨rfl, L4⟩
      have Hn_v4 := Lib.hid (HBk3.out.bel L4 HBk3.out.lt)
      have Hx_v4 := Lib.hid (HRk3.out.bel L4 HRk3.out.lt)
      have Ha_v4 := Lib.hid (HAk3.out.bel L4 HAk3.out.lt)
      have Hb_v4 := Lib.hid (HBb3.out.bel L4 HBb3.out.lt)
      have Aa_v4 := Lib.hid (HNa3.out.later L4)
      have Ab_v4 := Lib.hid (HNb3.out.later L4)
      have Ax_v4 := Lib.hid (HRA3.out.later L4)
      have An_v4 := Lib.hid (HAn3.out.later L4)
      have B_v4 : Hid (Below w.heap.size w v4) := HBA.out.trans (Below.mono L4 HBA.out.size)
      have a0 : v4.cell? ⟨w3.heap.size, 0, none⟩ = some (.bool zeroN.leaf) := Blk.cell Ha_v4.out 0
      have a1 : v4.cell? ⟨w3.heap.size, 1, none⟩ = some (.slice ma.ka ma.kl ma.kc) := Blk.cell Ha_v4.out 1
      have a2 : v4.cell? ⟨w3.heap.size, 2, none⟩ = some (.slice ma.ca ma.cl ma.cc) := Blk.cell Ha_v4.out 2
      have a3 : v4.cell? ⟨w3.heap.size, 3, none⟩ = some (.slice ma.da ma.dl ma.dc) := Blk.cell Ha_v4.out 3
      have alt : w3.heap.size < v4.heap.size := Blk.lt Ha_v4.out
      have S1 := Lib.hid (NSame_any zeroN zeroN ma zeroNB v4 Aa_v4.out (NAt_zero _))
      clear L4
      go_wp2_with fail
      refine S1.out.mono ?_
      rintro e v4s ⟨rfl, L4s⟩
      first | rw [decide_eq_true (rfl : zeroN = zeroN)] | simp only [decide_true]
      clear a0 a1 a2 a3 alt S1
      have Hn_v4s := Lib.hid (Hn_v4.out.bel L4s Hn_v4.out.lt)
      have Hx_v4s := Lib.hid (Hx_v4.out.bel L4s Hx_v4.out.lt)
      have Ha_v4s := Lib.hid (Ha_v4.out.bel L4s Ha_v4.out.lt)
      have Hb_v4s := Lib.hid (Hb_v4.out.bel L4s Hb_v4.out.lt)
      have Aa_v4s := Lib.hid (Aa_v4.out.later L4s)
      have Ab_v4s := Lib.hid (Ab_v4.out.later L4s)
      have Ax_v4s := Lib.hid (Ax_v4.out.later L4s)
      have An_v4s := Lib.hid (An_v4.out.later L4s)
      have B_v4s : Hid (Below w.heap.size w v4s) := B_v4.out.trans (Below.mono L4s B_v4.out.size)
      have b0 : v4s.cell? ⟨w3.heap.size + 1, 0, none⟩ = some (.bool zeroN.leaf) := Blk.cell Hb_v4s.out 0
      have b1 : v4s.cell? ⟨w3.heap.size + 1, 1, none⟩ = some (.slice mb.ka mb.kl mb.kc) := Blk.cell Hb_v4s.out 1
      have b2 : v4s.cell? ⟨w3.heap.size + 1, 2, none⟩ = some (.slice mb.ca mb.cl mb.cc) := Blk.cell Hb_v4s.out 2
      have b3 : v4s.cell? ⟨w3.heap.size + 1, 3, none⟩ = some (.slice mb.da mb.dl mb.dc) := Blk.cell Hb_v4s.out 3
      have blt : w3.heap.size + 1 < v4s.heap.size := Blk.lt Hb_v4s.out
      have S2 := Lib.hid (NSame_any zeroN zeroN mb zeroNB v4s Ab_v4s.out (NAt_zero _))
      clear L4s
      go_wp2_with fail
      refine S2.out.mono ?_
      rintro e v4t ⟨rfl, L4t⟩
      first | rw [decide_eq_true (rfl : zeroN = zeroN)] | simp only [decide_true]
      go_wp2
      go_ret
      exact ⟨rfl, B_v4s.out.trans (Below.mono L4t B_v4s.out.size)⟩
    | true =>
      have hxe := HX.out rfl
      subst hxe
      have HRH := RHalve_any n.asR ⟨xa, xl, xc⟩ _ HRA3.out (by have := hxl.out; have := asR_len HSh.out; have := HF.out.kn; simp only; omega)
      rw [HXf.out, HXk.out] at HRH
      have HRH := Lib.hid HRH
      have y0 : ((w3.alloc (.cells #[.bool a.leaf, .slice ma.ka ma.kl ma.kc, .slice ma.ca ma.cl ma.cc, .slice ma.da ma.dl ma.dc] 26)).alloc (.cells #[.bool b.leaf, .slice mb.ka mb.kl mb.kc, .slice mb.ca mb.cl mb.cc, .slice mb.da mb.dl mb.dc] 26)).cell? ⟨w2.heap.size, 0, none⟩ = some (.bool xf) := HRk3.out.cell 0
      have y1 : ((w3.alloc (.cells #[.bool a.leaf, .slice ma.ka ma.kl ma.kc, .slice ma.ca ma.cl ma.cc, .slice ma.da ma.dl ma.dc] 26)).alloc (.cells #[.bool b.leaf, .slice mb.ka mb.kl mb.kc, .slice mb.ca mb.cl mb.cc, .slice mb.da mb.dl mb.dc] 26)).cell? ⟨w2.heap.size, 1, none⟩ = some (.int .i64 xk) := HRk3.out.cell 1
      have y2 : ((w3.alloc (.cells #[.bool a.leaf, .slice ma.ka ma.kl ma.kc, .slice ma.ca ma.cl ma.cc, .slice ma.da ma.dl ma.dc] 26)).alloc (.cells #[.bool b.leaf, .slice mb.ka mb.kl mb.kc, .slice mb.ca mb.cl mb.cc, .slice mb.da mb.dl mb.dc] 26)).cell? ⟨w2.heap.size, 2, none⟩ = some (.slice xa xl xc) := HRk3.out.cell 2
      have ylt := HRk3.out.lt
      go_upto_region 7 with (fail)
      obtain ⟨W3, hW3⟩ : ∃ W3, ((w3.alloc (.cells #[.bool a.leaf, .slice ma.ka ma.kl ma.kc, .slice ma.ca ma.cl ma.cc, .slice ma.da ma.dl ma.dc] 26)).alloc (.cells #[.bool b.leaf, .slice mb.ka mb.kl mb.kc, .slice mb.ca mb.cl mb.cc, .slice mb.da mb.dl mb.dc] 26)) = W3 := ⟨_, rfl⟩
      rw [hW3] at HRH y0 y1 y2 ylt HBk3 HRk3 HAk3 HBb3 HRA3 HNa3 HNb3 HAn3 HBA
      rw [hW3]
      clear hW3
      go_wp2_with fail
      refine HRH.out.mono ?_
      rintro e w4 ⟨c, d, l, mc, md, rfl, hRH, hRc, hRd, L34⟩
      have hcase := halves_eq HSh.out HH.out hRH
      have LC : Later w4 ((w4.alloc (.cells #[.bool c.leaf, .int .i64 c.kid, .slice mc.la mc.ll mc.lc] 32)).alloc (.cells #[.bool d.leaf, .int .i64 d.kid, .slice md.la md.ll md.lc] 32)) := ((Below.refl _ w4).alloc (Nat.le_refl _) _).alloc (by simp) _
      have HCk4 := Lib.hid ((Blk.new w4 32 #[.bool c.leaf, .int .i64 c.kid, .slice mc.la mc.ll mc.lc]).alloc (.cells #[.bool d.leaf, .int .i64 d.kid, .slice md.la md.ll md.lc] 32))
      have HDk4 : Hid (Blk ((w4.alloc (.cells #[.bool c.leaf, .int .i64 c.kid, .slice mc.la mc.ll mc.lc] 32)).alloc (.cells #[.bool d.leaf, .int .i64 d.kid, .slice md.la md.ll md.lc] 32)) (w4.heap.size + 1) 32 #[.bool d.leaf, .int .i64 d.kid, .slice md.la md.ll md.lc]) := by
        have h1 := Blk.new (w4.alloc (.cells #[.bool c.leaf, .int .i64 c.kid, .slice mc.la mc.ll mc.lc] 32)) 32 #[.bool d.leaf, .int .i64 d.kid, .slice md.la md.ll md.lc]
        rw [show (w4.alloc (.cells #[.bool c.leaf, .int .i64 c.kid, .slice mc.la mc.ll mc.lc] 32)).heap.size = w4.heap.size + 1 by simp] at h1
        exact h1
      have HRc4 := Lib.hid (hRc.later LC)
      have HRd4 := Lib.hid (hRd.later LC)
      have hcl : Hid (mc.ll = c.l.length) := hRc.hl
      have LW : Later W3 ((w4.alloc (.cells #[.bool c.leaf, .int .i64 c.kid, .slice mc.la mc.ll mc.lc] 32)).alloc (.cells #[.bool d.leaf, .int .i64 d.kid, .slice md.la md.ll md.lc] 32)) := Later.trans L34 LC
      have HBk4 := Lib.hid (HBk3.out.bel LW HBk3.out.lt)
      have HRk4 := Lib.hid (HRk3.out.bel LW HRk3.out.lt)
      have HAk4 := Lib.hid (HAk3.out.bel LW HAk3.out.lt)
      have HBb4 := Lib.hid (HBb3.out.bel LW HBb3.out.lt)
      have HRA4 := Lib.hid (HRA3.out.later LW)
      have HNa4 := Lib.hid (HNa3.out.later LW)
      have HNb4 := Lib.hid (HNb3.out.later LW)
      have HAn4 := Lib.hid (HAn3.out.later LW)
      have HB4 : Hid (Below w.heap.size w ((w4.alloc (.cells #[.bool c.leaf, .int .i64 c.kid, .slice mc.la mc.ll mc.lc] 32)).alloc (.cells #[.bool d.leaf, .int .i64 d.kid, .slice md.la md.ll md.lc] 32))) := HBA.out.trans (Below.mono LW HBA.out.size)
      have HRt := rRight_any n.asR ⟨xa, xl, xc⟩ _ HRA4.out
      rw [HXf.out, HXk.out] at HRt
      have HRt := Lib.hid HRt
      have HCase := Lib.hid hcase
      clear hcase hRH hRc hRd L34 LC LW y0 y1 y2 ylt HRH
      go_upto_region 8 with (fail)
      obtain ⟨W4, hW4⟩ : ∃ W4, ((w4.alloc (.cells #[.bool c.leaf, .int .i64 c.kid, .slice mc.la mc.ll mc.lc] 32)).alloc (.cells #[.bool d.leaf, .int .i64 d.kid, .slice md.la md.ll md.lc] 32)) = W4 := ⟨_, rfl⟩
      rw [hW4] at HRt HBk4 HRk4 HAk4 HBb4 HCk4 HDk4 HRA4 HNa4 HNb4 HAn4 HRc4 HRd4 HB4
      rw [hW4]
      clear hW4
      have y0 : W4.cell? ⟨w2.heap.size, 0, none⟩ = some (.bool xf) := Blk.cell HRk4.out 0
      have y1 : W4.cell? ⟨w2.heap.size, 1, none⟩ = some (.int .i64 xk) := Blk.cell HRk4.out 1
      have y2 : W4.cell? ⟨w2.heap.size, 2, none⟩ = some (.slice xa xl xc) := Blk.cell HRk4.out 2
      have ylt : w2.heap.size < W4.heap.size := Blk.lt HRk4.out
      go_wp2_with fail
      refine HRt.out.mono ?_
      rintro e w5 ⟨rfl, L5⟩
      have Hn_w5 := Lib.hid (HBk4.out.bel L5 HBk4.out.lt)
      have Hx_w5 := Lib.hid (HRk4.out.bel L5 HRk4.out.lt)
      have Ha_w5 := Lib.hid (HAk4.out.bel L5 HAk4.out.lt)
      have Hb_w5 := Lib.hid (HBb4.out.bel L5 HBb4.out.lt)
      have Hc_w5 := Lib.hid (HCk4.out.bel L5 HCk4.out.lt)
      have Hd_w5 := Lib.hid (HDk4.out.bel L5 HDk4.out.lt)
      have Aa_w5 := Lib.hid (HNa4.out.later L5)
      have Ab_w5 := Lib.hid (HNb4.out.later L5)
      have Ax_w5 := Lib.hid (HRA4.out.later L5)
      have An_w5 := Lib.hid (HAn4.out.later L5)
      have Ac_w5 := Lib.hid (HRc4.out.later L5)
      have Ad_w5 := Lib.hid (HRd4.out.later L5)
      have B_w5 : Hid (Below w.heap.size w w5) := HB4.out.trans (Below.mono L5 HB4.out.size)
      clear L5 y0 y1 y2 ylt HRt
      obtain ⟨ok, hok⟩ : ∃ ok, n.asR.ok = ok := ⟨_, rfl⟩
      rw [hok] at HCase ⊢
      clear hok
      have c0 : w5.cell? ⟨w4.heap.size, 0, none⟩ = some (.bool c.leaf) := Blk.cell Hc_w5.out 0
      have c1 : w5.cell? ⟨w4.heap.size, 1, none⟩ = some (.int .i64 c.kid) := Blk.cell Hc_w5.out 1
      have c2 : w5.cell? ⟨w4.heap.size, 2, none⟩ = some (.slice mc.la mc.ll mc.lc) := Blk.cell Hc_w5.out 2
      have clt : w4.heap.size < w5.heap.size := Blk.lt Hc_w5.out
      rcases HCase.out with ⟨rfl, rfl, rfl, rfl, rfl, rfl⟩ | ⟨rfl, hcne, hsa, hsc, rfl, hsb, hsd, hka, hkb⟩
      · have hc0 : mc.ll = 0 := hcl.out
        obtain ⟨cla, cll, clc⟩ := mc
        simp only at hc0
        subst hc0
        cases ok with
        | false =>
          go_wp2_with fail
          refine (HAl.out _).mono ?_
          rintro e v6 ⟨rfl, L6⟩
          have Hn_v6 := Lib.hid (Hn_w5.out.bel L6 Hn_w5.out.lt)
          have Hx_v6 := Lib.hid (Hx_w5.out.bel L6 Hx_w5.out.lt)
          have Ha_v6 := Lib.hid (Ha_w5.out.bel L6 Ha_w5.out.lt)
          have Hb_v6 := Lib.hid (Hb_w5.out.bel L6 Hb_w5.out.lt)
          have Hc_v6 := Lib.hid (Hc_w5.out.bel L6 Hc_w5.out.lt)
          have Hd_v6 := Lib.hid (Hd_w5.out.bel L6 Hd_w5.out.lt)
          have Aa_v6 := Lib.hid (Aa_w5.out.later L6)
          have Ab_v6 := Lib.hid (Ab_w5.out.later L6)
          have Ax_v6 := Lib.hid (Ax_w5.out.later L6)
          have An_v6 := Lib.hid (An_w5.out.later L6)
          have Ac_v6 := Lib.hid (Ac_w5.out.later L6)
          have Ad_v6 := Lib.hid (Ad_w5.out.later L6)
          have B_v6 : Hid (Below w.heap.size w v6) := B_w5.out.trans (Below.mono L6 B_w5.out.size)
          have a0 : v6.cell? ⟨w3.heap.size, 0, none⟩ = some (.bool zeroN.leaf) := Blk.cell Ha_v6.out 0
          have a1 : v6.cell? ⟨w3.heap.size, 1, none⟩ = some (.slice ma.ka ma.kl ma.kc) := Blk.cell Ha_v6.out 1
          have a2 : v6.cell? ⟨w3.heap.size, 2, none⟩ = some (.slice ma.ca ma.cl ma.cc) := Blk.cell Ha_v6.out 2
          have a3 : v6.cell? ⟨w3.heap.size, 3, none⟩ = some (.slice ma.da ma.dl ma.dc) := Blk.cell Ha_v6.out 3
          have alt : w3.heap.size < v6.heap.size := Blk.lt Ha_v6.out
          have S1 := Lib.hid (NSame_any zeroN zeroN ma zeroNB v6 Aa_v6.out (NAt_zero _))
          clear L6
          go_wp2_with fail
          refine S1.out.mono ?_
          rintro e v6s ⟨rfl, L6s⟩
          first | rw [decide_eq_true (rfl : zeroN = zeroN)] | simp only [decide_true]
          clear a0 a1 a2 a3 alt S1
          have Hn_v6s := Lib.hid (Hn_v6.out.bel L6s Hn_v6.out.lt)
          have Hx_v6s := Lib.hid (Hx_v6.out.bel L6s Hx_v6.out.lt)
          have Ha_v6s := Lib.hid (Ha_v6.out.bel L6s Ha_v6.out.lt)
          have Hb_v6s := Lib.hid (Hb_v6.out.bel L6s Hb_v6.out.lt)
          have Hc_v6s := Lib.hid (Hc_v6.out.bel L6s Hc_v6.out.lt)
          have Hd_v6s := Lib.hid (Hd_v6.out.bel L6s Hd_v6.out.lt)
          have Aa_v6s := Lib.hid (Aa_v6.out.later L6s)
          have Ab_v6s := Lib.hid (Ab_v6.out.later L6s)
          have Ax_v6s := Lib.hid (Ax_v6.out.later L6s)
          have An_v6s := Lib.hid (An_v6.out.later L6s)
          have Ac_v6s := Lib.hid (Ac_v6.out.later L6s)
          have Ad_v6s := Lib.hid (Ad_v6.out.later L6s)
          have B_v6s : Hid (Below w.heap.size w v6s) := B_v6.out.trans (Below.mono L6s B_v6.out.size)
          have b0 : v6s.cell? ⟨w3.heap.size + 1, 0, none⟩ = some (.bool zeroN.leaf) := Blk.cell Hb_v6s.out 0
          have b1 : v6s.cell? ⟨w3.heap.size + 1, 1, none⟩ = some (.slice mb.ka mb.kl mb.kc) := Blk.cell Hb_v6s.out 1
          have b2 : v6s.cell? ⟨w3.heap.size + 1, 2, none⟩ = some (.slice mb.ca mb.cl mb.cc) := Blk.cell Hb_v6s.out 2
          have b3 : v6s.cell? ⟨w3.heap.size + 1, 3, none⟩ = some (.slice mb.da mb.dl mb.dc) := Blk.cell Hb_v6s.out 3
          have blt : w3.heap.size + 1 < v6s.heap.size := Blk.lt Hb_v6s.out
          have S2 := Lib.hid (NSame_any zeroN zeroN mb zeroNB v6s Ab_v6s.out (NAt_zero _))
          clear L6s
          go_wp2_with fail
          refine S2.out.mono ?_
          rintro e v6t ⟨rfl, L6t⟩
          first | rw [decide_eq_true (rfl : zeroN = zeroN)] | simp only [decide_true]
          go_wp2
          go_ret
          exact ⟨rfl, B_v6s.out.trans (Below.mono L6t B_v6s.out.size)⟩
        | true =>
          go_wp2_with fail
          refine (HAl.out _).mono ?_
          rintro e v6 ⟨rfl, L6⟩
          have Hn_v6 := Lib.hid (Hn_w5.out.bel L6 Hn_w5.out.lt)
          have Hx_v6 := Lib.hid (Hx_w5.out.bel L6 Hx_w5.out.lt)
          have Ha_v6 := Lib.hid (Ha_w5.out.bel L6 Ha_w5.out.lt)
          have Hb_v6 := Lib.hid (Hb_w5.out.bel L6 Hb_w5.out.lt)
          have Hc_v6 := Lib.hid (Hc_w5.out.bel L6 Hc_w5.out.lt)
          have Hd_v6 := Lib.hid (Hd_w5.out.bel L6 Hd_w5.out.lt)
          have Aa_v6 := Lib.hid (Aa_w5.out.later L6)
          have Ab_v6 := Lib.hid (Ab_w5.out.later L6)
          have Ax_v6 := Lib.hid (Ax_w5.out.later L6)
          have An_v6 := Lib.hid (An_w5.out.later L6)
          have Ac_v6 := Lib.hid (Ac_w5.out.later L6)
          have Ad_v6 := Lib.hid (Ad_w5.out.later L6)
          have B_v6 : Hid (Below w.heap.size w v6) := B_w5.out.trans (Below.mono L6 B_w5.out.size)
          have a0 : v6.cell? ⟨w3.heap.size, 0, none⟩ = some (.bool zeroN.leaf) := Blk.cell Ha_v6.out 0
          have a1 : v6.cell? ⟨w3.heap.size, 1, none⟩ = some (.slice ma.ka ma.kl ma.kc) := Blk.cell Ha_v6.out 1
          have a2 : v6.cell? ⟨w3.heap.size, 2, none⟩ = some (.slice ma.ca ma.cl ma.cc) := Blk.cell Ha_v6.out 2
          have a3 : v6.cell? ⟨w3.heap.size, 3, none⟩ = some (.slice ma.da ma.dl ma.dc) := Blk.cell Ha_v6.out 3
          have alt : w3.heap.size < v6.heap.size := Blk.lt Ha_v6.out
          have S1 := Lib.hid (NSame_any zeroN zeroN ma zeroNB v6 Aa_v6.out (NAt_zero _))
          clear L6
          go_wp2_with fail
          refine S1.out.mono ?_
          rintro e v6s ⟨rfl, L6s⟩
          first | rw [decide_eq_true (rfl : zeroN = zeroN)] | simp only [decide_true]
          clear a0 a1 a2 a3 alt S1
          have Hn_v6s := Lib.hid (Hn_v6.out.bel L6s Hn_v6.out.lt)
          have Hx_v6s := Lib.hid (Hx_v6.out.bel L6s Hx_v6.out.lt)
          have Ha_v6s := Lib.hid (Ha_v6.out.bel L6s Ha_v6.out.lt)
          have Hb_v6s := Lib.hid (Hb_v6.out.bel L6s Hb_v6.out.lt)
          have Hc_v6s := Lib.hid (Hc_v6.out.bel L6s Hc_v6.out.lt)
          have Hd_v6s := Lib.hid (Hd_v6.out.bel L6s Hd_v6.out.lt)
          have Aa_v6s := Lib.hid (Aa_v6.out.later L6s)
          have Ab_v6s := Lib.hid (Ab_v6.out.later L6s)
          have Ax_v6s := Lib.hid (Ax_v6.out.later L6s)
          have An_v6s := Lib.hid (An_v6.out.later L6s)
          have Ac_v6s := Lib.hid (Ac_v6.out.later L6s)
          have Ad_v6s := Lib.hid (Ad_v6.out.later L6s)
          have B_v6s : Hid (Below w.heap.size w v6s) := B_v6.out.trans (Below.mono L6s B_v6.out.size)
          have b0 : v6s.cell? ⟨w3.heap.size + 1, 0, none⟩ = some (.bool zeroN.leaf) := Blk.cell Hb_v6s.out 0
          have b1 : v6s.cell? ⟨w3.heap.size + 1, 1, none⟩ = some (.slice mb.ka mb.kl mb.kc) := Blk.cell Hb_v6s.out 1
          have b2 : v6s.cell? ⟨w3.heap.size + 1, 2, none⟩ = some (.slice mb.ca mb.cl mb.cc) := Blk.cell Hb_v6s.out 2
          have b3 : v6s.cell? ⟨w3.heap.size + 1, 3, none⟩ = some (.slice mb.da mb.dl mb.dc) := Blk.cell Hb_v6s.out 3
          have blt : w3.heap.size + 1 < v6s.heap.size := Blk.lt Hb_v6s.out
          have S2 := Lib.hid (NSame_any zeroN zeroN mb zeroNB v6s Ab_v6s.out (NAt_zero _))
          clear L6s
          go_wp2_with fail
          refine S2.out.mono ?_
          rintro e v6t ⟨rfl, L6t⟩
          first | rw [decide_eq_true (rfl : zeroN = zeroN)] | simp only [decide_true]
          go_wp2
          go_ret
          exact ⟨rfl, B_v6s.out.trans (Below.mono L6t B_v6s.out.size)⟩
      · have hq : ((mc.ll : Int) == 0) = false := by
          have h1 := hcl.out
          have h2 : c.l.length ≠ 0 := fun h0 => hcne (List.length_eq_zero_iff.1 h0)
          simp; omega
        have hn60 := HF.out.kn
        have hma := Aa_w5.out.hk
        have hmb := Ab_w5.out.hk
        have SA := Lib.hid (fun W (h : Later w5 W) => lsame_any a ma c mc W (Aa_w5.out.later h) (Ac_w5.out.later h) (by omega))
        have SB := Lib.hid (fun W (h : Later w5 W) => lsame_any b mb d md W (Ab_w5.out.later h) (Ad_w5.out.later h) (by omega))
        have SN := fun W (h : Later w5 W) => lsame_any n ⟨ka, kl, kc, ca, cl, cc, da, dl, dc⟩ n.asR ⟨xa, xl, xc⟩ W (An_w5.out.later h) (Ax_w5.out.later h) (by simp only; omega)
        rw [HLf.out, HXf.out, HXk.out] at SN
        have SN := Lib.hid SN
        have HT1 : Hid ((a.shaped && decide (a.asR = c)) = true) := by show _ = _; rw [hsa, decide_eq_true hsc]; rfl
        have HT2 : Hid ((b.shaped && decide (b.asR = d)) = true) := by show _ = _; rw [hsb, decide_eq_true hsd]; rfl
        have HT3 : Hid ((n.shaped && decide (n.asR = n.asR)) = true) := by show _ = _; rw [HSh.out, decide_eq_true rfl]; rfl
        clear hcne hsa hsc hsb hsd hka hkb hma hmb
        by_cases hk0 : k.toList = []
        · have g1 : (k.toList == []) = true := by simp [hk0]
          have g2 : k.toList.isEmpty = true := by simp [hk0]
          have g3 : (k.toList == (⟨#[]⟩ : ByteArray).toList) = true := by rw [hk0, ByteArray.toList_eq]; rfl
          have HK := Lib.hid hk0
          clear hk0
          go_wp2_with fail
          refine (HAl.out _).mono ?_
          rintro e w6 ⟨rfl, L6⟩
          have Hn_w6 := Lib.hid (Hn_w5.out.bel L6 Hn_w5.out.lt)
          have Hx_w6 := Lib.hid (Hx_w5.out.bel L6 Hx_w5.out.lt)
          have Ha_w6 := Lib.hid (Ha_w5.out.bel L6 Ha_w5.out.lt)
          have Hb_w6 := Lib.hid (Hb_w5.out.bel L6 Hb_w5.out.lt)
          have Hc_w6 := Lib.hid (Hc_w5.out.bel L6 Hc_w5.out.lt)
          have Hd_w6 := Lib.hid (Hd_w5.out.bel L6 Hd_w5.out.lt)
          have Aa_w6 := Lib.hid (Aa_w5.out.later L6)
          have Ab_w6 := Lib.hid (Ab_w5.out.later L6)
          have Ax_w6 := Lib.hid (Ax_w5.out.later L6)
          have An_w6 := Lib.hid (An_w5.out.later L6)
          have Ac_w6 := Lib.hid (Ac_w5.out.later L6)
          have Ad_w6 := Lib.hid (Ad_w5.out.later L6)
          have B_w6 : Hid (Below w.heap.size w w6) := B_w5.out.trans (Below.mono L6 B_w5.out.size)
          have M6 : Hid (Later w5 w6) := L6
          have a0 : w6.cell? ⟨w3.heap.size, 0, none⟩ = some (.bool a.leaf) := Blk.cell Ha_w6.out 0
          have a1 : w6.cell? ⟨w3.heap.size, 1, none⟩ = some (.slice ma.ka ma.kl ma.kc) := Blk.cell Ha_w6.out 1
          have a2 : w6.cell? ⟨w3.heap.size, 2, none⟩ = some (.slice ma.ca ma.cl ma.cc) := Blk.cell Ha_w6.out 2
          have a3 : w6.cell? ⟨w3.heap.size, 3, none⟩ = some (.slice ma.da ma.dl ma.dc) := Blk.cell Ha_w6.out 3
          have alt : w3.heap.size < w6.heap.size := Blk.lt Ha_w6.out
          have c0 : w6.cell? ⟨w4.heap.size, 0, none⟩ = some (.bool c.leaf) := Blk.cell Hc_w6.out 0
          have c1 : w6.cell? ⟨w4.heap.size, 1, none⟩ = some (.int .i64 c.kid) := Blk.cell Hc_w6.out 1
          have c2 : w6.cell? ⟨w4.heap.size, 2, none⟩ = some (.slice mc.la mc.ll mc.lc) := Blk.cell Hc_w6.out 2
          have clt : w4.heap.size < w6.heap.size := Blk.lt Hc_w6.out
          clear L6
          go_wp2_with fail
          refine (SA.out w6 M6.out).mono ?_
          rintro e w7 ⟨rfl, L7⟩
          rw [HT1.out]
          have M7 : Hid (Later w5 w7) := Later.trans M6.out L7
          have Hn_w7 := Lib.hid (Hn_w6.out.bel L7 Hn_w6.out.lt)
          have Hx_w7 := Lib.hid (Hx_w6.out.bel L7 Hx_w6.out.lt)
          have Ha_w7 := Lib.hid (Ha_w6.out.bel L7 Ha_w6.out.lt)
          have Hb_w7 := Lib.hid (Hb_w6.out.bel L7 Hb_w6.out.lt)
          have Hc_w7 := Lib.hid (Hc_w6.out.bel L7 Hc_w6.out.lt)
          have Hd_w7 := Lib.hid (Hd_w6.out.bel L7 Hd_w6.out.lt)
          have Aa_w7 := Lib.hid (Aa_w6.out.later L7)
          have Ab_w7 := Lib.hid (Ab_w6.out.later L7)
          have Ax_w7 := Lib.hid (Ax_w6.out.later L7)
          have An_w7 := Lib.hid (An_w6.out.later L7)
          have Ac_w7 := Lib.hid (Ac_w6.out.later L7)
          have Ad_w7 := Lib.hid (Ad_w6.out.later L7)
          have B_w7 : Hid (Below w.heap.size w w7) := B_w6.out.trans (Below.mono L7 B_w6.out.size)
          clear L7 a0 a1 a2 a3 alt c0 c1 c2 clt
          have b0 : w7.cell? ⟨w3.heap.size + 1, 0, none⟩ = some (.bool b.leaf) := Blk.cell Hb_w7.out 0
          have b1 : w7.cell? ⟨w3.heap.size + 1, 1, none⟩ = some (.slice mb.ka mb.kl mb.kc) := Blk.cell Hb_w7.out 1
          have b2 : w7.cell? ⟨w3.heap.size + 1, 2, none⟩ = some (.slice mb.ca mb.cl mb.cc) := Blk.cell Hb_w7.out 2
          have b3 : w7.cell? ⟨w3.heap.size + 1, 3, none⟩ = some (.slice mb.da mb.dl mb.dc) := Blk.cell Hb_w7.out 3
          have blt : w3.heap.size + 1 < w7.heap.size := Blk.lt Hb_w7.out
          have d0 : w7.cell? ⟨w4.heap.size + 1, 0, none⟩ = some (.bool d.leaf) := Blk.cell Hd_w7.out 0
          have d1 : w7.cell? ⟨w4.heap.size + 1, 1, none⟩ = some (.int .i64 d.kid) := Blk.cell Hd_w7.out 1
          have d2 : w7.cell? ⟨w4.heap.size + 1, 2, none⟩ = some (.slice md.la md.ll md.lc) := Blk.cell Hd_w7.out 2
          have dlt : w4.heap.size + 1 < w7.heap.size := Blk.lt Hd_w7.out
          go_wp2_with fail
          refine (SB.out w7 M7.out).mono ?_
          rintro e w8 ⟨rfl, L8⟩
          rw [HT2.out]
          have M8 : Hid (Later w5 w8) := Later.trans M7.out L8
          have Hn_w8 := Lib.hid (Hn_w7.out.bel L8 Hn_w7.out.lt)
          have Hx_w8 := Lib.hid (Hx_w7.out.bel L8 Hx_w7.out.lt)
          have Ha_w8 := Lib.hid (Ha_w7.out.bel L8 Ha_w7.out.lt)
          have Hb_w8 := Lib.hid (Hb_w7.out.bel L8 Hb_w7.out.lt)
          have Hc_w8 := Lib.hid (Hc_w7.out.bel L8 Hc_w7.out.lt)
          have Hd_w8 := Lib.hid (Hd_w7.out.bel L8 Hd_w7.out.lt)
          have Aa_w8 := Lib.hid (Aa_w7.out.later L8)
          have Ab_w8 := Lib.hid (Ab_w7.out.later L8)
          have Ax_w8 := Lib.hid (Ax_w7.out.later L8)
          have An_w8 := Lib.hid (An_w7.out.later L8)
          have Ac_w8 := Lib.hid (Ac_w7.out.later L8)
          have Ad_w8 := Lib.hid (Ad_w7.out.later L8)
          have B_w8 : Hid (Below w.heap.size w w8) := B_w7.out.trans (Below.mono L8 B_w7.out.size)
          clear L8 b0 b1 b2 b3 blt d0 d1 d2 dlt
          have n0 : w8.cell? ⟨w.heap.size, 0, none⟩ = some (.bool lf) := Blk.cell Hn_w8.out 0
          have n1 : w8.cell? ⟨w.heap.size, 1, none⟩ = some (.slice ka kl kc) := Blk.cell Hn_w8.out 1
          have n2 : w8.cell? ⟨w.heap.size, 2, none⟩ = some (.slice ca cl cc) := Blk.cell Hn_w8.out 2
          have n3 : w8.cell? ⟨w.heap.size, 3, none⟩ = some (.slice da dl dc) := Blk.cell Hn_w8.out 3
          have nlt : w.heap.size < w8.heap.size := Blk.lt Hn_w8.out
          have y0 : w8.cell? ⟨w2.heap.size, 0, none⟩ = some (.bool xf) := Blk.cell Hx_w8.out 0
          have y1 : w8.cell? ⟨w2.heap.size, 1, none⟩ = some (.int .i64 xk) := Blk.cell Hx_w8.out 1
          have y2 : w8.cell? ⟨w2.heap.size, 2, none⟩ = some (.slice xa xl xc) := Blk.cell Hx_w8.out 2
          have ylt : w2.heap.size < w8.heap.size := Blk.lt Hx_w8.out
          go_wp2_with fail
          refine (SN.out w8 M8.out).mono ?_
          rintro e w9 ⟨rfl, L9⟩
          rw [HT3.out]
          go_wp2
          go_ret
          exact ⟨rfl, B_w8.out.trans (Below.mono L9 B_w8.out.size)⟩
        · have g1 : (k.toList == []) = false := by simpa using hk0
          have g2 : k.toList.isEmpty = false := by simpa using hk0
          have g3 : (k.toList == (⟨#[]⟩ : ByteArray).toList) = false := by
            have h9 := hk0
            rw [ByteArray.toList_eq] at h9
            simp only [ByteArray.toList_eq]
            simpa using h9
          have HK := Lib.hid hk0
          clear hk0
          go_wp2_with fail
          refine (HAl.out _).mono ?_
          rintro e w6 ⟨rfl, L6⟩
          have Hn_w6 := Lib.hid (Hn_w5.out.bel L6 Hn_w5.out.lt)
          have Hx_w6 := Lib.hid (Hx_w5.out.bel L6 Hx_w5.out.lt)
          have Ha_w6 := Lib.hid (Ha_w5.out.bel L6 Ha_w5.out.lt)
          have Hb_w6 := Lib.hid (Hb_w5.out.bel L6 Hb_w5.out.lt)
          have Hc_w6 := Lib.hid (Hc_w5.out.bel L6 Hc_w5.out.lt)
          have Hd_w6 := Lib.hid (Hd_w5.out.bel L6 Hd_w5.out.lt)
          have Aa_w6 := Lib.hid (Aa_w5.out.later L6)
          have Ab_w6 := Lib.hid (Ab_w5.out.later L6)
          have Ax_w6 := Lib.hid (Ax_w5.out.later L6)
          have An_w6 := Lib.hid (An_w5.out.later L6)
          have Ac_w6 := Lib.hid (Ac_w5.out.later L6)
          have Ad_w6 := Lib.hid (Ad_w5.out.later L6)
          have B_w6 : Hid (Below w.heap.size w w6) := B_w5.out.trans (Below.mono L6 B_w5.out.size)
          have M6 : Hid (Later w5 w6) := L6
          have a0 : w6.cell? ⟨w3.heap.size, 0, none⟩ = some (.bool a.leaf) := Blk.cell Ha_w6.out 0
          have a1 : w6.cell? ⟨w3.heap.size, 1, none⟩ = some (.slice ma.ka ma.kl ma.kc) := Blk.cell Ha_w6.out 1
          have a2 : w6.cell? ⟨w3.heap.size, 2, none⟩ = some (.slice ma.ca ma.cl ma.cc) := Blk.cell Ha_w6.out 2
          have a3 : w6.cell? ⟨w3.heap.size, 3, none⟩ = some (.slice ma.da ma.dl ma.dc) := Blk.cell Ha_w6.out 3
          have alt : w3.heap.size < w6.heap.size := Blk.lt Ha_w6.out
          have c0 : w6.cell? ⟨w4.heap.size, 0, none⟩ = some (.bool c.leaf) := Blk.cell Hc_w6.out 0
          have c1 : w6.cell? ⟨w4.heap.size, 1, none⟩ = some (.int .i64 c.kid) := Blk.cell Hc_w6.out 1
          have c2 : w6.cell? ⟨w4.heap.size, 2, none⟩ = some (.slice mc.la mc.ll mc.lc) := Blk.cell Hc_w6.out 2
          have clt : w4.heap.size < w6.heap.size := Blk.lt Hc_w6.out
          clear L6
          go_wp2_with fail
          refine (SA.out w6 M6.out).mono ?_
          rintro e w7 ⟨rfl, L7⟩
          rw [HT1.out]
          have M7 : Hid (Later w5 w7) := Later.trans M6.out L7
          have Hn_w7 := Lib.hid (Hn_w6.out.bel L7 Hn_w6.out.lt)
          have Hx_w7 := Lib.hid (Hx_w6.out.bel L7 Hx_w6.out.lt)
          have Ha_w7 := Lib.hid (Ha_w6.out.bel L7 Ha_w6.out.lt)
          have Hb_w7 := Lib.hid (Hb_w6.out.bel L7 Hb_w6.out.lt)
          have Hc_w7 := Lib.hid (Hc_w6.out.bel L7 Hc_w6.out.lt)
          have Hd_w7 := Lib.hid (Hd_w6.out.bel L7 Hd_w6.out.lt)
          have Aa_w7 := Lib.hid (Aa_w6.out.later L7)
          have Ab_w7 := Lib.hid (Ab_w6.out.later L7)
          have Ax_w7 := Lib.hid (Ax_w6.out.later L7)
          have An_w7 := Lib.hid (An_w6.out.later L7)
          have Ac_w7 := Lib.hid (Ac_w6.out.later L7)
          have Ad_w7 := Lib.hid (Ad_w6.out.later L7)
          have B_w7 : Hid (Below w.heap.size w w7) := B_w6.out.trans (Below.mono L7 B_w6.out.size)
          clear L7 a0 a1 a2 a3 alt c0 c1 c2 clt
          have b0 : w7.cell? ⟨w3.heap.size + 1, 0, none⟩ = some (.bool b.leaf) := Blk.cell Hb_w7.out 0
          have b1 : w7.cell? ⟨w3.heap.size + 1, 1, none⟩ = some (.slice mb.ka mb.kl mb.kc) := Blk.cell Hb_w7.out 1
          have b2 : w7.cell? ⟨w3.heap.size + 1, 2, none⟩ = some (.slice mb.ca mb.cl mb.cc) := Blk.cell Hb_w7.out 2
          have b3 : w7.cell? ⟨w3.heap.size + 1, 3, none⟩ = some (.slice mb.da mb.dl mb.dc) := Blk.cell Hb_w7.out 3
          have blt : w3.heap.size + 1 < w7.heap.size := Blk.lt Hb_w7.out
          have d0 : w7.cell? ⟨w4.heap.size + 1, 0, none⟩ = some (.bool d.leaf) := Blk.cell Hd_w7.out 0
          have d1 : w7.cell? ⟨w4.heap.size + 1, 1, none⟩ = some (.int .i64 d.kid) := Blk.cell Hd_w7.out 1
          have d2 : w7.cell? ⟨w4.heap.size + 1, 2, none⟩ = some (.slice md.la md.ll md.lc) := Blk.cell Hd_w7.out 2
          have dlt : w4.heap.size + 1 < w7.heap.size := Blk.lt Hd_w7.out
          go_wp2_with fail
          refine (SB.out w7 M7.out).mono ?_
          rintro e w8 ⟨rfl, L8⟩
          rw [HT2.out]
          have M8 : Hid (Later w5 w8) := Later.trans M7.out L8
          have Hn_w8 := Lib.hid (Hn_w7.out.bel L8 Hn_w7.out.lt)
          have Hx_w8 := Lib.hid (Hx_w7.out.bel L8 Hx_w7.out.lt)
          have Ha_w8 := Lib.hid (Ha_w7.out.bel L8 Ha_w7.out.lt)
          have Hb_w8 := Lib.hid (Hb_w7.out.bel L8 Hb_w7.out.lt)
          have Hc_w8 := Lib.hid (Hc_w7.out.bel L8 Hc_w7.out.lt)
          have Hd_w8 := Lib.hid (Hd_w7.out.bel L8 Hd_w7.out.lt)
          have Aa_w8 := Lib.hid (Aa_w7.out.later L8)
          have Ab_w8 := Lib.hid (Ab_w7.out.later L8)
          have Ax_w8 := Lib.hid (Ax_w7.out.later L8)
          have An_w8 := Lib.hid (An_w7.out.later L8)
          have Ac_w8 := Lib.hid (Ac_w7.out.later L8)
          have Ad_w8 := Lib.hid (Ad_w7.out.later L8)
          have B_w8 : Hid (Below w.heap.size w w8) := B_w7.out.trans (Below.mono L8 B_w7.out.size)
          clear L8 b0 b1 b2 b3 blt d0 d1 d2 dlt
          have n0 : w8.cell? ⟨w.heap.size, 0, none⟩ = some (.bool lf) := Blk.cell Hn_w8.out 0
          have n1 : w8.cell? ⟨w.heap.size, 1, none⟩ = some (.slice ka kl kc) := Blk.cell Hn_w8.out 1
          have n2 : w8.cell? ⟨w.heap.size, 2, none⟩ = some (.slice ca cl cc) := Blk.cell Hn_w8.out 2
          have n3 : w8.cell? ⟨w.heap.size, 3, none⟩ = some (.slice da dl dc) := Blk.cell Hn_w8.out 3
          have nlt : w.heap.size < w8.heap.size := Blk.lt Hn_w8.out
          have y0 : w8.cell? ⟨w2.heap.size, 0, none⟩ = some (.bool xf) := Blk.cell Hx_w8.out 0
          have y1 : w8.cell? ⟨w2.heap.size, 1, none⟩ = some (.int .i64 xk) := Blk.cell Hx_w8.out 1
          have y2 : w8.cell? ⟨w2.heap.size, 2, none⟩ = some (.slice xa xl xc) := Blk.cell Hx_w8.out 2
          have ylt : w2.heap.size < w8.heap.size := Blk.lt Hx_w8.out
          go_wp2_with fail
          refine (SN.out w8 M8.out).mono ?_
          rintro e w9 ⟨rfl, L9⟩
          rw [HT3.out]
          go_wp2
          go_ret
          exact ⟨rfl, B_w8.out.trans (Below.mono L9 B_w8.out.size)⟩
end Go.Proofs.Ytlcphgomhhejbaa
