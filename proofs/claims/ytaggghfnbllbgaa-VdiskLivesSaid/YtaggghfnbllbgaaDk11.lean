/- Write: its walks. -/
import Derived.Test.YtaggghfnbllbgaaDk10
namespace Go.Proofs.Ytaggghfnbllbgaa
set_option linter.unusedSimpArgs false
open Go.RowKit

theorem row_no_u8 {w : World} {B Mv Md : Nat} {pv : Value} {d : DS} (h : DiskAt w B d Mv Md pv) (j : Nat) (c : Int) : w.cell? ⟨B, j, none⟩ ≠ some (.int .u8 c) := by
  intro hc
  rw [h.blk.cell j] at hc
  have hp : pv ≠ .int .u8 c := by
    rcases h.pend.2 with ⟨rfl, _⟩ | ⟨g, cap, cur, rfl, _⟩ <;> simp
  unfold rowD at hc
  match j, hc with
  | 0, hc => simp at hc
  | 1, hc => simp at hc
  | 2, hc => simp at hc
  | 3, hc => simp at hc
  | 4, hc => simp at hc
  | 5, hc => simp at hc
  | 6, hc => simp at hc
  | 7, hc => simp at hc
  | 8, hc => simp at hc; exact hp hc
  | 9, hc => simp at hc
  | 10, hc => simp at hc
  | 11, hc => simp at hc
  | j + 12, hc => simp at hc

theorem Bs.chgD {w w' : World} {N B Mv Md : Nat} {pv : Value} {d : DS} {a : Option Addr} {l : List Nat} (hB : Bs N w a l) (hN : N ≤ w.heap.size) (h : DiskAt w B d Mv Md pv) (hc : Chg [B] w w') : Bs N w' a l := by
  obtain ⟨h1, h2⟩ := hB
  refine ⟨h1, ?_⟩
  rcases h2 with h2 | ⟨b, o, ha, hb, hcell⟩
  · exact .inl h2
  · by_cases hl : l = []
    · exact .inl hl
    · refine .inr ⟨b, o, ha, hb, fun i c hi => (hc.cell (by omega) ?_).trans (hcell i c hi)⟩
      simp only [List.mem_singleton]
      rintro rfl
      exact row_no_u8 h _ _ (hcell i c hi)

theorem info_wr : (Try.prog.info? 98).map (fun i => (i.zero, i.size, i.bytes)) = some (some (.agg (Wr.cells ⟨0, 0, noughts⟩).toArray), 130, 144) := by kernel_rfl

set_option maxRecDepth 100000 in
set_option maxHeartbeats 4000000 in
theorem Write_yes {w : World} {B Mv Md : Nat} {pv : Value} {d d' : DS} (h : DiskAt w B d Mv Md pv) (f s : Nat) (hf : f < 2) (hs : s ≤ 65535) (l : List Nat) (hl : l.length = 128) (a : Option Addr) (cap N : Nat) (hB : Bs N w a l) (hN : N ≤ w.heap.size)
    (hd : d.down = false) (hfit : d.fits f s = true) (hch : d.change = (d', true)) (hcs : d.calls < 1000000000) (hwt : d.pend.length < 1000000000) :
    Calls Try.prog 22 #[.pointer (some ⟨B, 0, none⟩), .int .i64 (f : Int), .int .i64 (s : Int), .slice a 128 cap] w (RetD w B Mv Md pv (0, d'.put ⟨f, s, l⟩)) := by
  obtain ⟨c0, c1, c2, c3, c4, c5, c6, c7, c8, c9, c10, c11⟩ := h.cells
  have HM := Lib.hid (made_yes w B c0)
  have HF := Lib.hid (isFile_any (f : Int) w)
  have hfb : isFileB (f : Int) = true := by unfold isFileB; simp; omega
  rw [hfb] at HF
  rw [hd] at c11
  have HFit := Lib.hid (fits_any h f s hf hs)
  rw [hfit] at HFit
  have hB' := hB.mono hN
  have hx : Wr.ok ⟨f, s, l⟩ := ⟨hf, by show s < 65536; omega, hl, hB.1⟩
  have hpl : d'.pend = d.pend := by
    unfold DS.change at hch
    split at hch
    · simp at hch
    · simp only [Prod.mk.injEq] at hch; rw [← hch.1]
  have HC : Hid (∀ W, Below w.heap.size w W → Calls Try.prog 52 #[.pointer (some ⟨B, 0, none⟩)] W fun e w' => e = .returned (.int .i64 0) ∧ DiskAt w' B d' Mv Md pv ∧ Chg [B] W w') := fun W hW => by
    have := change_any (h.below hW) hcs
    rw [hch] at this
    exact this
  have hwt' : d'.pend.length < 1000000000 := by rw [hpl]; exact hwt
  have q1 : decide ((s : Int) < 0) = false := by rw [decide_eq_false_iff_not]; omega
  have q2 : decide ((65535 : Int) < (s : Int)) = false := by rw [decide_eq_false_iff_not]; omega
  have HBs := Lib.hid hB'
  have HX := Lib.hid hx
  have HL := Lib.hid hl
  have HD := Lib.hid h
  have hBlt := h.blk.lt
  clear hfb hfit hch hB hB' h hx hl hd hcs hwt hpl hN
  go_enter Try.func22, Try.ntmps22
  go_wp2_with (first | (go_at_call 49; refine HM.out.mono ?_; rintro e w' ⟨rfl, rfl⟩) | (go_at_call 50; refine HF.out.mono ?_; rintro e w' ⟨rfl, rfl⟩) | fail)
  refine HFit.out.mono ?_
  rintro e w1 ⟨rfl, b1⟩
  clear HFit HM HF
  go_wp2_with fail
  refine (HC.out w1 b1).mono ?_
  rintro e w2 ⟨rfl, hD2, g2⟩
  clear HC
  have hb2 : Chg [B] w' w2 := (Below.chg0 b1 [B]).trans g2
  have HD2 := Lib.hid hD2
  have hB2 : Bs w2.heap.size w2 a l := (HBs.out.chgD (Nat.le_refl _) HD.out hb2).mono hb2.size
  have HB2 := Lib.hid hB2
  clear hD2 g2 b1 hB2 c0 c1 c2 c3 c4 c5 c6 c7 c8 c9 c10 c11 HBs
  have HZ := Lib.hid zero_wr
  have HSt := Lib.hid (store_wr w2 ⟨0, 0, noughts⟩ ⟨f, s, noughts⟩ (by simp [noughts]) (by simp [noughts]))
  have HCp := Lib.hid (fun ty => copy_wr w2 f s l HL.out w2.heap.size (Nat.le_refl _) a cap HB2.out ty)
  go_wp2_with (first | (guard_target =~ wpList _ _ _ (Oper.mk _ (Op.alloc _) _ _ _ _ :: _) _ _; refine wpList_val rfl (exec_alloc (e := 98) rfl HZ.out) ?_) | (guard_target =~ wpList _ _ _ (Oper.mk _ (Op.store _ _ _) _ _ _ _ :: _) _ _; refine wpList_skp rfl (exec_store (ty := 98) rfl rfl rfl HSt.out) ?_) | (guard_target =~ wpList _ _ _ (Oper.mk _ (Op.call _) _ _ _ _ :: _) _ _; refine wpList_val rfl (exec_copy rfl rfl rfl (HCp.out _)) ?_))
  try simp only [Act.put, List.setIfInBounds_toArray, List.set_cons_zero, List.set_cons_succ]
  obtain ⟨w3, hw3⟩ : ∃ W, w2.alloc (.cells (Wr.cells ⟨f, s, l⟩).toArray 98) = W := ⟨_, rfl⟩
  have h3 : Chg [] w2 w3 := by rw [← hw3]; exact (Chg.refl _ _).alloc _
  have hn3 : w2.heap.size < w3.heap.size := by rw [← hw3]; simp
  have hr3 : w3.rangeAt w2.heap.size 0 (Wr.cells ⟨f, s, l⟩) := by
    intro j v hv
    rw [← hw3, Nat.zero_add, World.cell?_alloc_new]
    simpa using hv
  have HD3 := Lib.hid (HD2.out.chg h3 (by simp))
  have hB2l : B < w2.heap.size := HD2.out.blk.lt
  rw [hw3]
  obtain ⟨nb, hnb⟩ : ∃ nb, w2.heap.size = nb := ⟨_, rfl⟩
  rw [hnb] at hr3 hn3 hB2l ⊢
  have e1 : ∀ W, Chg [] w3.drew W → (loadVar 98 ⟨nb, 0, none⟩).run Try.prog W = .ok (.agg (Wr.cells ⟨f, s, l⟩).toArray) W := fun W hW =>
    (wr_loads HX.out (rangeAt_chg (w := w3.drew) hr3 hn3 hW (by simp))).2.1
  have HP := Lib.hid (putv_any (HD3.out.chg ((Chg.refl [] w3).drew) (by simp)) ⟨f, s, l⟩ HX.out)
  have HE1 := Lib.hid e1
  clear e1 hw3 HSt HCp HB2 HZ
  go_wp2_with fail
  refine wp_region_ordX [] 4 [(0, true), (1, true), (2, true), (3, true)] (by kernel_rfl) (by kernel_rfl) (by kernel_rfl) (by kernel_rfl) ?_
  repeat (first | ((refine wpOX_F rfl (by rfl) (fun w' hL => exec_load rfl rfl (HE1.out w' hL)) ?_); try simp only [Act.put, List.setIfInBounds_toArray, List.set_cons_zero, List.set_cons_succ]) | (refine wpOX_F (v := ?_) rfl (by rfl) (fun w' hL => ?_) ?_; rotate_left; (solve | (go_simp; with_reducible rfl) | go_simp); try simp only [Act.put, List.setIfInBounds_toArray, List.set_cons_zero, List.set_cons_succ]) | (refine wpOX_G (Chg.refl _) rfl (by rfl) ?_; try simp only [Act.put, List.setIfInBounds_toArray, List.set_cons_zero, List.set_cons_succ]))
  refine wpOX_end rfl (by rfl) ?_
  go_simp
  refine HP.out.mono ?_
  rintro e w4 ⟨rfl, hD4, h4⟩
  simp only [NoPanic, Act.put]
  have hpl4 := hD4.lt
  have hMvl : Mv < nb := by rw [← hnb]; exact HD2.out.vis.lt
  have hpend : ∀ g, pv.ownBlock = some g → g < nb := fun g hg => by rw [← hnb]; exact own_lt HD2.out.pend hg
  have hr4 : w4.rangeAt nb 0 (Wr.cells ⟨f, s, l⟩) := rangeAt_chg (w := w3.drew) hr3 hn3 h4 (by simp; omega)
  have hn4 : nb < w4.heap.size := Nat.lt_of_lt_of_le hn3 h4.size
  have hnS : nb ∉ pv.ownBlock.toList := fun hm => by
    have := hpend nb (by simpa using hm)
    omega
  have hBS : B ∉ pv.ownBlock.toList := fun hm => own_ne hD4.pend hD4.blk (by decide) (by simpa using hm)
  have e1 : ∀ W, Chg pv.ownBlock.toList w4.drew W → (loadVar 98 ⟨nb, 0, none⟩).run Try.prog W = .ok (.agg (Wr.cells ⟨f, s, l⟩).toArray) W := fun W hW =>
    (wr_loads HX.out (rangeAt_chg (w := w4.drew) hr4 hn4 hW hnS)).2.1
  have HE1 := Lib.hid e1
  have e2 : ∀ W, Chg pv.ownBlock.toList w4.drew W → W.cell? ⟨B, 8, none⟩ = some pv := fun W hW => (hW.cell (b := B) hD4.blk.lt hBS).trans (hD4.blk.cell 8)
  have hD5 := (hD4.chg ((Chg.refl [] w4).drew) (by simp)).chg ((Chg.refl [] w4.drew).alloc (.cells (Wr.cells ⟨f, s, l⟩).toArray 98)) (by simp)
  have HD5 := Lib.hid hD5
  have HD4 := Lib.hid hD4
  have H04 : Hid (Chg [B, Mv] w' w4) := ((hb2.sub (by simp)).trans ((h3.sub (by simp)).trans (Chg.undrew h4)))
  clear e1 hD5 hD4 hr4 hpl4 hr3 HD3 HP h4
  go_wp2_with fail
  refine wp_region_ordX (pv.ownBlock.toList) 10 [(0, true), (1, true), (2, true), (3, true), (4, true), (5, true), (6, false), (7, false), (8, true), (9, true)] (by kernel_rfl) (by kernel_rfl) (by kernel_rfl) (by kernel_rfl) ?_
  repeat (first | ((refine wpOX_F rfl (by rfl) (fun w' hL => exec_load rfl rfl (HE1.out w' hL)) ?_); try simp only [Act.put, List.setIfInBounds_toArray, List.set_cons_zero, List.set_cons_succ]) | (refine wpOX_F (v := ?_) rfl (by rfl) (fun w' hL => ?_) ?_; rotate_left; (solve | (go_simp; with_reducible rfl) | go_simp); try simp only [Act.put, List.setIfInBounds_toArray, List.set_cons_zero, List.set_cons_succ]) | (refine wpOX_G (Chg.refl _) rfl (by rfl) ?_; try simp only [Act.put, List.setIfInBounds_toArray, List.set_cons_zero, List.set_cons_succ]))
  refine wpOX_C rfl (by rfl) ?_
  refine wp_val (exec_buildSlice1 (t := 45) (vx := .agg (Wr.cells ⟨f, s, l⟩).toArray) rfl rfl (bslice_wr ⟨f, s, l⟩ HL.out _)) ?_
  refine ⟨(Chg.refl _ _).alloc _, ?_⟩
  try simp only [Act.put, List.setIfInBounds_toArray, List.set_cons_zero, List.set_cons_succ]
  refine wpOX_C rfl (by rfl) ?_
  obtain ⟨i0, hi, hz0, hz1, hz2⟩ := info_parts info_wr
  refine wp_append_lies _ (.tmp 65) (.tmp 67) 45 rfl 0 98 i0 (.agg (Wr.cells ⟨0, 0, noughts⟩).toArray) 130 144 Try.underlying45 hi hz0 hz1 hz2 (by simp [Value.cells, Wr.cells_len, noughts]) (by omega) pv d'.pend.length (cellsW d'.pend) rfl HD5.out.pend ⟨w4.heap.size, 0, none⟩ 1 1 (Wr.cells ⟨f, s, l⟩) rfl (by rw [Wr.cells_len HL.out]) ?_ (Wr.cells_one _) (by omega) (by unfold maxLen; omega) (by omega) (Nat.zero_le _) _ rfl ?_
  · intro j u hj
    rw [Addr.add_mid, Nat.zero_add]
    show ((w4.drew).alloc _).cell? ⟨w4.drew.heap.size, j, none⟩ = _
    rw [World.cell?_alloc_new]
    simpa using hj
  intro g cap' w6 hown hgrow hlies hlt
  have hg6 : Chg pv.ownBlock.toList (w4.drew.alloc (.cells (Wr.cells ⟨f, s, l⟩).toArray 98)) w6 := ⟨hgrow.os, hgrow.tape, hgrow.output, hgrow.size, fun k hk hn => hgrow.block k hk (fun e => hn (by rw [← e]; simp))⟩
  refine ⟨hg6, ?_⟩
  try simp only [Act.put, List.setIfInBounds_toArray, List.set_cons_zero, List.set_cons_succ]
  have hb6 := HD5.out.blk.chg hg6 hBS
  have q8 : w6.cell? ⟨B, 8, none⟩ = some pv := hb6.cell 8
  have hf8 : w6.frozen? ⟨B, 8, none⟩ = false := hb6.frozen 8
  have HAPP := Lib.hid (pend_app (HD4.out.chg ((Chg.refl [] w4).drew) (by simp)) HX.out hwt' ((Chg.refl [] w4.drew).alloc (.cells (Wr.cells ⟨f, s, l⟩).toArray 98)) hown hgrow)
  have HLIES : Hid (pv.ownBlock = some g ∨ w'.heap.size ≤ g) := hlies.imp id (fun e => by
    have h1 := hb2.size
    have h2 := h3.size
    have h4 := H04.out.size
    rw [e]
    show w'.heap.size ≤ (w4.drew.heap.push _).size
    simp
    omega)
  clear hb6 hown hgrow hlies hg6 HD5 HE1 e2
  repeat (first | (refine wpOX_F (v := ?_) rfl (by rfl) (fun w' hL => ?_) ?_; rotate_left; (solve | (go_simp; with_reducible rfl) | go_simp); try simp only [Act.put, List.setIfInBounds_toArray, List.set_cons_zero, List.set_cons_succ]) | (refine wpOX_G (Chg.refl _) rfl (by rfl) ?_; try simp only [Act.put, List.setIfInBounds_toArray, List.set_cons_zero, List.set_cons_succ]))
  refine wpOX_end rfl (by rfl) ?_
  go_simp
  simp only [NoPanic]
  go_wp2
  go_ret
  refine ⟨rfl, _, HAPP.out.1, (H04.out.sub ?_).trans (Chg.undrew HAPP.out.2), ?_⟩
  · intro k hk
    simp [footD] at hk ⊢
    rcases hk with rfl | rfl <;> simp
  · rcases HLIES.out with h1 | h1
    · left; rw [h1]; rfl
    · right; intro k hk
      have : g = k := by simpa [Value.ownBlock] using hk
      omega
end Go.Proofs.Ytaggghfnbllbgaa
