/- Crash. -/
import Derived.Test.YtaggghfnbllbgaaDk14
namespace Go.Proofs.Ytaggghfnbllbgaa
set_option linter.unusedSimpArgs false
open Go.RowKit

theorem map_no_cell {w : World} {k kv : IntKind} {n : Nat} {b : Nat} {g : List Nat → Option (List Nat)} (h : MapA k kv n w b g) (j : Nat) : w.cell? ⟨b, j, none⟩ = none := by
  obtain ⟨es, clk, al, h1, h2⟩ := h
  unfold MapB at h1
  simp [World.cell?, h1]

theorem Bs.chgD2 {w w' : World} {N B Mv Md : Nat} {pv : Value} {d : DS} {a : Option Addr} {l : List Nat} (hB : Bs N w a l) (hN : N ≤ w.heap.size) (h : DiskAt w B d Mv Md pv) (hc : Chg [B, Md] w w') : Bs N w' a l := by
  obtain ⟨h1, h2⟩ := hB
  refine ⟨h1, ?_⟩
  rcases h2 with h2 | ⟨b, o, ha, hb, hcell⟩
  · exact .inl h2
  · by_cases hl : l = []
    · exact .inl hl
    · refine .inr ⟨b, o, ha, hb, fun i c hi => (hc.cell (by omega) ?_).trans (hcell i c hi)⟩
      simp only [List.mem_cons, List.not_mem_nil, or_false, not_or]
      refine ⟨?_, ?_⟩
      · rintro rfl
        exact row_no_u8 h _ _ (hcell i c hi)
      · rintro rfl
        have := hcell i c hi
        rw [map_no_cell h.dur] at this
        cases this

theorem crash_end {w w2 : World} {B Mv Md M' : Nat} {pv : Value} {d : DS} (h : DiskAt w B d Mv Md pv) (hb : Below w.heap.size w w2) (hM : MapA .i64 .u8 2 w2 M' d.dur.key) (hM' : w.heap.size ≤ M') :
    DiskAt ((((((w2.setCell ⟨B, 2, none⟩ (.map (some M'))).setCell ⟨B, 3, none⟩ (.int .i64 (d.dur.len 0 : Int))).setCell ⟨B, 4, none⟩ (.int .i64 (d.dur.len 1 : Int))).setCell ⟨B, 8, none⟩ (.slice none 0 0)).setCell ⟨B, 10, none⟩ (.int .i64 (-1))).setCell ⟨B, 11, none⟩ (.bool false)) B { d with vis := d.dur, pend := [], left := none, down := false } M' Md (.slice none 0 0) ∧
    Chg [B] w ((((((w2.setCell ⟨B, 2, none⟩ (.map (some M'))).setCell ⟨B, 3, none⟩ (.int .i64 (d.dur.len 0 : Int))).setCell ⟨B, 4, none⟩ (.int .i64 (d.dur.len 1 : Int))).setCell ⟨B, 8, none⟩ (.slice none 0 0)).setCell ⟨B, 10, none⟩ (.int .i64 (-1))).setCell ⟨B, 11, none⟩ (.bool false)) := by
  have h2 := h.below hb
  have hc : Chg [B] w w2 := Below.chg0 hb _
  have hBM : B ≠ M' := by have := h.blk.lt; omega
  have hdl := h.dur.lt
  refine ⟨⟨?_, ?_, ?_, World.ownsRow_nil _ _ _ _, by omega, ⟨h.ok.quota, h.ok.dur, h.ok.dur, by simp, by simp⟩, h.calls, by simp⟩, ?_⟩
  · exact (((((h2.blk.set_ 2 _).set_ 3 _).set_ 4 _).set_ 8 _).set_ 10 _).set_ 11 _
  · exact (((((hM.setCell _ _ _).setCell _ _ _).setCell _ _ _).setCell _ _ _).setCell _ _ _).setCell _ _ _
  · exact (((((h2.dur.setCell _ _ _).setCell _ _ _).setCell _ _ _).setCell _ _ _).setCell _ _ _).setCell _ _ _
  · exact (((((hc.setCell (.inl (by simp)) _).setCell (.inl (by simp)) _).setCell (.inl (by simp)) _).setCell (.inl (by simp)) _).setCell (.inl (by simp)) _).setCell (.inl (by simp)) _

/-- What Crash hands back. -/
def RetCr (w : World) (B Mv Md : Nat) (pv : Value) (d' : DS) (e : Ending) (w' : World) : Prop :=
  e = .returned (.int .i64 0) ∧ ∃ Mv', DiskAt w' B d' Mv' Md (.slice none 0 0) ∧ Chg (footD B Mv Md pv) w w' ∧ w.heap.size ≤ Mv'

set_option maxRecDepth 100000 in
set_option maxHeartbeats 8000000 in
theorem Crash_any {w : World} {B Mv Md : Nat} {pv : Value} {d : DS} (h : DiskAt w B d Mv Md pv) (l : List Nat) (a : Option Addr) (n cap N : Nat) (hB : Bs N w a l) (hN : N ≤ w.heap.size) (hn : n = l.length) (hnm : n ≤ 1000000000000) :
    Calls Try.prog 25 #[.pointer (some ⟨B, 0, none⟩), .slice a n cap] w (RetCr w B Mv Md pv (d.crash l)) := by
  obtain ⟨c0, c1, c2, c3, c4, c5, c6, c7, c8, c9, c10, c11⟩ := h.cells
  have HM := Lib.hid (made_yes w B c0)
  have hlt := h.blk.lt
  have hwt := h.waits
  have HK := Lib.hid (fun (k : Nat) (hk : k ≤ 1000000000) (W : World) (hW : Chg [B, Md] w W) => keeps_any a n cap l k w.heap.size W ((hB.mono hN).chgD2 (Nat.le_refl _) h hW) hn hk hnm)
  have hpv : ∃ a cap, pv = .slice a d.pend.length cap := by
    rcases h.pend.2 with ⟨rfl, hn⟩ | ⟨g, cap, cur, rfl, _⟩
    · exact ⟨none, 0, by rw [hn]⟩
    · exact ⟨_, _, rfl⟩
  obtain ⟨a1, cap1, rfl⟩ := hpv
  obtain ⟨m, hm⟩ : ∃ m, d.pend.length = m := ⟨_, rfl⟩
  rw [hm] at c8 hwt ⊢
  have HN := Lib.hid hm
  have HD0 := Lib.hid h
  rw [hm] at HD0
  clear h hm hn hB hN hnm c1 c2 c3 c4 c5 c6 c7 c9 c10 c11
  go_enter Try.func25, Try.ntmps25
  go_wp2_with (first | (go_at_call 49; refine HM.out.mono ?_; rintro e w' ⟨rfl, rfl⟩) | fail)
  clear HM c0 c8
  go_loopw [15] (fun iv wr => ∃ k : Nat, k ≤ m ∧ iv = .int .i64 k ∧ Hid (DiskAt wr B { d with dur := crashAt d.dur l d.pend k } Mv Md (.slice a1 m cap1)) ∧ Hid (Chg [B, Md] w' wr))
    (fun iv _ => m - (intOf iv).toNat)
  case atStart => exact ⟨0, by omega, rfl, HD0.out, Chg.refl _ _⟩
  case round =>
    obtain ⟨k, hk, rfl, HD, HG⟩ := hrel
    by_cases hkm : k < m
    · have hkl : k < d.pend.length := by have := HN.out; omega
      obtain ⟨x, hx⟩ : ∃ x, d.pend[k]? = some x := ⟨_, List.getElem?_eq_getElem hkl⟩
      have hxok := HD.out.ok.pend x (List.mem_of_getElem? hx)
      have hpn : m = d.pend.length := by have := HN.out; omega
      obtain ⟨g, cap', hae, hgb, hgl, hrange⟩ := own_elem HD.out.pend HD.out.ok.pend hx rfl
      obtain ⟨rfl, rfl⟩ : a1 = some ⟨g, 0, none⟩ ∧ cap1 = cap' := by
        injection hae with h1 h2 h3
        exact ⟨h1, h3⟩
      have HX := Lib.hid hx
      have HXO := Lib.hid hxok
      have HLd := Lib.hid (wr_loads hxok hrange).2.1
      have HZ := Lib.hid zero_wr
      have HSt := Lib.hid (store_wr wr ⟨0, 0, noughts⟩ x (by simp [noughts]) hxok.2.2.1)
      obtain ⟨w3, hw3⟩ : ∃ W, wr.alloc (.cells x.cells.toArray 98) = W := ⟨_, rfl⟩
      have hr3 : w3.rangeAt wr.heap.size 0 x.cells := by
        intro j v hv
        rw [← hw3, Nat.zero_add, World.cell?_alloc_new]
        simpa using hv
      have hn3 : wr.heap.size < w3.heap.size := by rw [← hw3]; simp
      have hc3 : Chg [] wr w3 := by rw [← hw3]; exact (Chg.refl _ _).alloc _
      have HD3 := Lib.hid (HD.out.chg hc3 (by simp))
      have HG3 : Hid (Chg [B, Md] w' w3) := HG.out.trans (hc3.sub (by simp))
      have HW3 := Lib.hid hw3
      have hnd : d.pend.length ≤ 1000000000 := by omega
      have HKk := Lib.hid (HK.out k (by omega) w3 HG3.out)
      clear hx hxok hae hrange hw3 hc3 hpn hkl hgb HD HG
      go_wp2_with (first | (guard_target =~ wpList _ _ _ (Oper.mk _ (Op.load _ _) _ _ _ _ :: _) _ _; refine wpList_loadV rfl 98 _ rfl rfl HLd.out ?_) | (guard_target =~ wpList _ _ _ (Oper.mk _ (Op.alloc _) _ _ _ _ :: _) _ _; refine wpList_val rfl (exec_alloc (e := 98) rfl HZ.out) ?_) | (guard_target =~ wpList _ _ _ (Oper.mk _ (Op.store _ _ _) _ _ _ _ :: _) _ _; refine wpList_skp rfl (exec_store (ty := 98) rfl rfl rfl HSt.out) ?_) | fail)
      have hw3 := HW3.out
      rw [hw3]
      obtain ⟨nb, hnb⟩ : ∃ nb, wr.heap.size = nb := ⟨_, rfl⟩
      rw [hnb] at hr3 hn3 hgl ⊢
      clear hw3 HSt HLd HZ HW3 hnb
      refine HKk.out.mono ?_
      rintro e w'' ⟨rfl, rfl⟩
      cases hsf : bitOf l k with
      | true =>
        have HD4 : Hid (crashAt d.dur l d.pend (k + 1) = (crashAt d.dur l d.pend k).wr x) := crashAt_yes _ HX.out hsf
        clear hsf HKk
        have e1 : ∀ W, Chg [] w''.drew W → (loadVar 98 ⟨nb, 0, none⟩).run Try.prog W = .ok (.agg x.cells.toArray) W := fun W hW =>
          (wr_loads HXO.out (rangeAt_chg (w := w''.drew) hr3 hn3 hW (by simp))).2.1
        have HP := Lib.hid (putd_any (HD3.out.chg ((Chg.refl [] w'').drew) (by simp)) x HXO.out)
        have HE1 := Lib.hid e1
        clear e1
        go_wp2_with fail
        refine wp_region_ordX [] 4 [(0, true), (1, true), (2, true), (3, true)] (by kernel_rfl) (by kernel_rfl) (by kernel_rfl) (by kernel_rfl) ?_
        repeat (first | ((refine wpOX_F rfl (by rfl) (fun w' hL => exec_load rfl rfl (HE1.out w' hL)) ?_); try simp only [Act.put, List.setIfInBounds_toArray, List.set_cons_zero, List.set_cons_succ]) | (refine wpOX_F (v := ?_) rfl (by rfl) (fun w' hL => ?_) ?_; rotate_left; (solve | (go_simp; with_reducible rfl) | go_simp); try simp only [Act.put, List.setIfInBounds_toArray, List.set_cons_zero, List.set_cons_succ]) | (refine wpOX_G (Chg.refl _) rfl (by rfl) ?_; try simp only [Act.put, List.setIfInBounds_toArray, List.set_cons_zero, List.set_cons_succ]))
        refine wpOX_end rfl (by rfl) ?_
        go_simp
        refine HP.out.mono ?_
        rintro e w4 ⟨rfl, hD4, h4⟩
        simp only [NoPanic, Act.put]
        have hFIN : Hid (DiskAt w4 B { d with dur := crashAt d.dur l d.pend (k + 1) } Mv Md (.slice (some ⟨g, 0, none⟩) m cap1)) := by
          rw [HD4.out]; exact hD4
        have hCHG : Hid (Chg [B, Md] w' w4) := HG3.out.trans (Chg.undrew h4)
        clear hD4 h4 HP HE1
        go_wp2
        go_roundw
        case rel => exact ⟨k + 1, by omega, by go_num, hFIN.out, hCHG.out⟩
        case measure => simp [intOf]; omega
      | false =>
        have HD4 : Hid (crashAt d.dur l d.pend (k + 1) = crashAt d.dur l d.pend k) := crashAt_no _ HX.out hsf
        clear hsf HKk
        have hFIN : Hid (DiskAt w'' B { d with dur := crashAt d.dur l d.pend (k + 1) } Mv Md (.slice (some ⟨g, 0, none⟩) m cap1)) := by
          rw [HD4.out]; exact HD3.out
        go_wp2
        go_roundw
        case rel => exact ⟨k + 1, by omega, by go_num, hFIN.out, HG3.out⟩
        case measure => simp [intOf]; omega
    · obtain rfl : k = m := by omega
      have hb := HD.out.blk
      have HC := Lib.hid (clone_cells wr B 5 Md _ _ _ _ _ (.inr rfl) hb HD.out.dur rfl rfl rfl)
      have hsz : w'.heap.size ≤ wr.heap.size := HG.out.size
      have HEQ : Hid (d.crash l = { { d with dur := crashAt d.dur l d.pend k } with vis := crashAt d.dur l d.pend k, pend := [], left := none, down := false }) := by
        unfold DS.crash crashAt
        have := HN.out
        rw [← this, List.take_length]
        rfl
      have hbl := hb.lt
      clear hb
      go_wp2_with fail
      refine HC.out.mono ?_
      rintro e w2 ⟨M', rfl, hM', hMA, hb2⟩
      have hend := crash_end HD.out hb2 hMA hM'
      have HE := Lib.hid hend
      have hbb := HD.out.blk.chg (Below.chg0 hb2 []) (by simp)
      have q2 := hbb.cell 2
      have q3 := hbb.cell 3
      have q4 := hbb.cell 4
      have q8 := hbb.cell 8
      have q10 := hbb.cell 10
      have q11 := hbb.cell 11
      have f2 := hbb.frozen 2
      have f3 := hbb.frozen 3
      have f4 := hbb.frozen 4
      have f8 := hbb.frozen 8
      have f10 := hbb.frozen 10
      have f11 := hbb.frozen 11
      unfold rowD at q2 q3 q4 q8 q10 q11
      simp only [List.getElem?_toArray, List.getElem?_cons_succ, List.getElem?_cons_zero] at q2 q3 q4 q8 q10 q11
      have hb2l : B < w2.heap.size := hbb.lt
      clear hend hbb HC
      go_wp2
      go_ret
      refine ⟨rfl, M', ?_, ?_, ?_⟩
      · rw [HEQ.out]; exact HE.out.1
      · exact (HG.out.sub (by simp [footD])).trans (HE.out.2.sub (by simp [footD]))
      · omega
end Go.Proofs.Ytaggghfnbllbgaa
