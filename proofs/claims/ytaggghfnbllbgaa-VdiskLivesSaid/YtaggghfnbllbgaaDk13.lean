/- Sync. -/
import Derived.Test.YtaggghfnbllbgaaDk12
namespace Go.Proofs.Ytaggghfnbllbgaa
set_option linter.unusedSimpArgs false
open Go.RowKit

theorem cellsW_get : ∀ (l : List Wr) (k : Nat) (x : Wr), (∀ y ∈ l, y.b.length = 128) → l[k]? = some x → ∀ j v, x.cells[j]? = some v → (cellsW l)[k * 130 + j]? = some v
  | [], _, _, _, h => by simp at h
  | y :: r, 0, x, hl, h => by
    intro j v hv
    simp at h; subst h
    have hj : j < y.cells.length := (List.getElem?_eq_some_iff.1 hv).1
    show (y.cells ++ cellsW r)[0 * 130 + j]? = _
    rw [Nat.zero_mul, Nat.zero_add, List.getElem?_append_left hj]
    exact hv
  | y :: r, k + 1, x, hl, h => by
    intro j v hv
    have ih := cellsW_get r k x (fun z hz => hl z (by simp [hz])) (by simpa using h) j v hv
    show (y.cells ++ cellsW r)[(k + 1) * 130 + j]? = _
    have hy := Wr.cells_len (hl y (by simp))
    rw [List.getElem?_append_right (by omega), hy, show (k + 1) * 130 + j - 130 = k * 130 + j by omega]
    exact ih

theorem cellsW_len : ∀ (l : List Wr), (∀ y ∈ l, y.b.length = 128) → (cellsW l).length = l.length * 130
  | [], _ => rfl
  | y :: r, hl => by
    show (y.cells ++ cellsW r).length = _
    rw [List.length_append, Wr.cells_len (hl y (by simp)), cellsW_len r (fun z hz => hl z (by simp [hz])), List.length_cons]
    omega

/-- Number k of a row of writes, where it lies. -/
theorem own_elem {w : World} {base : Nat} {v : Value} {n : Nat} {l : List Wr} (h : w.ownsRow base 98 130 v n (cellsW l)) (hl : ∀ y ∈ l, y.ok) {k : Nat} {x : Wr} (hk : l[k]? = some x) (hn : n = l.length) :
    ∃ g cap, v = .slice (some ⟨g, 0, none⟩) n cap ∧ base ≤ g ∧ g < w.heap.size ∧ w.rangeAt g (k * 130) x.cells := by
  have hkl : k < l.length := (List.getElem?_eq_some_iff.1 hk).1
  obtain ⟨g, cap, rfl, hb, hg⟩ := h.form (by omega)
  refine ⟨g, cap, rfl, hb, hg, fun j u hu => ?_⟩
  have hc := h.cells rfl
  have := hc (k * 130 + j) u (cellsW_get l k x (fun y hy => (hl y hy).2.2.1) hk j u hu)
  rw [Addr.add_mid, Nat.zero_add] at this
  exact this

theorem own_base {w : World} {base : Nat} {e : TypeId} {size n : Nat} {v : Value} {xs : List Value} (h : w.ownsRow base e size v n xs) {g : Nat} (hg : v.ownBlock = some g) : base ≤ g := by
  rcases h.2 with ⟨rfl, _⟩ | ⟨g', cap, cur, rfl, hb, _⟩
  · simp [Value.ownBlock] at hg
  · have : g' = g := by simpa [Value.ownBlock] using hg
    omega
theorem own_sub {w : World} {base : Nat} {e : TypeId} {size n : Nat} {v : Value} {xs : List Value} (h : w.ownsRow base e size v n xs) : w.ownsRow 0 e size v n xs := by
  refine ⟨h.1, h.2.imp id ?_⟩
  rintro ⟨g, cap, cur, h1, h2, h3⟩
  exact ⟨g, cap, cur, h1, Nat.zero_le _, h3⟩

def sameF (f : Nat) (x : Wr) : Bool := x.f == f
/-- The contents behind the first k of the pending writes. -/
def durAt (c : Cont) (p : List Wr) (f k : Nat) : Cont := ((p.take k).filter (sameF f)).foldl Cont.wr c
def restAt (p : List Wr) (f k : Nat) : List Wr := (p.take k).filter fun x => !sameF f x

theorem take_succ {p : List Wr} {k : Nat} {x : Wr} (h : p[k]? = some x) : p.take (k + 1) = p.take k ++ [x] := by
  rw [List.take_add_one, h]; rfl
theorem durAt_yes (c : Cont) {p : List Wr} {f k : Nat} {x : Wr} (h : p[k]? = some x) (hx : sameF f x = true) : durAt c p f (k + 1) = (durAt c p f k).wr x := by
  unfold durAt
  rw [take_succ h, List.filter_append, List.foldl_append]
  simp [hx]
theorem durAt_no (c : Cont) {p : List Wr} {f k : Nat} {x : Wr} (h : p[k]? = some x) (hx : sameF f x = false) : durAt c p f (k + 1) = durAt c p f k := by
  unfold durAt
  rw [take_succ h, List.filter_append]
  simp [hx]
theorem restAt_yes {p : List Wr} {f k : Nat} {x : Wr} (h : p[k]? = some x) (hx : sameF f x = true) : restAt p f (k + 1) = restAt p f k := by
  unfold restAt
  rw [take_succ h, List.filter_append]
  simp [hx]
theorem restAt_no {p : List Wr} {f k : Nat} {x : Wr} (h : p[k]? = some x) (hx : sameF f x = false) : restAt p f (k + 1) = restAt p f k ++ [x] := by
  unfold restAt
  rw [take_succ h, List.filter_append]
  simp [hx]
theorem restAt_le (p : List Wr) (f k : Nat) : (restAt p f k).length ≤ k := Nat.le_trans (List.length_filter_le _ _) (List.length_take_le _ _)
theorem restAt_ok {p : List Wr} (h : ∀ x ∈ p, x.ok) (f k : Nat) : ∀ x ∈ restAt p f k, x.ok := fun x hx => h x (List.mem_of_mem_take (List.mem_filter.1 hx).1)

set_option maxRecDepth 100000 in
set_option maxHeartbeats 8000000 in
theorem Sync_yes {w : World} {B Mv Md : Nat} {pv : Value} {d d' : DS} (h : DiskAt w B d Mv Md pv) (f : Nat) (hf : f < 2) (hd : d.down = false) (hch : d.change = (d', true)) (hcs : d.calls < 1000000000) (hpl : d'.pend = d.pend) :
    Calls Try.prog 23 #[.pointer (some ⟨B, 0, none⟩), .int .i64 (f : Int)] w (RetD w B Mv Md pv (0, { d' with dur := durAt d'.dur d'.pend f d'.pend.length, pend := restAt d'.pend f d'.pend.length })) := by
  obtain ⟨c0, c1, c2, c3, c4, c5, c6, c7, c8, c9, c10, c11⟩ := h.cells
  have HM := Lib.hid (made_yes w B c0)
  have HF := Lib.hid (isFile_any (f : Int) w)
  have hfb : isFileB (f : Int) = true := by unfold isFileB; simp; omega
  rw [hfb] at HF
  rw [hd] at c11
  have HC := Lib.hid (change_any h hcs)
  rw [hch] at HC
  have hlt := h.blk.lt
  have hwt := h.waits
  rw [← hpl] at hwt
  have HLT := Lib.hid h.lt
  clear h hfb hch hd hcs hpl
  go_enter Try.func23, Try.ntmps23
  go_wp2_with (first | (go_at_call 49; refine HM.out.mono ?_; rintro e w' ⟨rfl, rfl⟩) | (go_at_call 50; refine HF.out.mono ?_; rintro e w' ⟨rfl, rfl⟩) | fail)
  refine HC.out.mono ?_
  rintro e w1 ⟨rfl, hD1, g1⟩
  clear HC HM HF c0 c1 c2 c3 c4 c5 c6 c7 c8 c9 c10 c11
  have c8 := hD1.cells.2.2.2.2.2.2.2.2.1
  have hpv : ∃ a cap, pv = .slice a d'.pend.length cap := by
    rcases hD1.pend.2 with ⟨rfl, hn⟩ | ⟨g, cap, cur, rfl, _⟩
    · exact ⟨none, 0, by rw [hn]⟩
    · exact ⟨_, _, rfl⟩
  obtain ⟨a, cap, rfl⟩ := hpv
  obtain ⟨n, hn⟩ : ∃ n, d'.pend.length = n := ⟨_, rfl⟩
  rw [hn] at c8 hwt ⊢
  have HN := Lib.hid hn
  have HD1 := Lib.hid hD1
  have hsz1 := g1.size
  have HW1 : Hid (∀ k ∈ footD B Mv Md (.slice a n cap), k < w1.heap.size) := by rw [← hn]; exact hD1.lt
  have HG1 := Lib.hid g1
  clear hD1 hn g1
  go_wp2_with fail
  go_loopw [6, 32] (fun ov iv wr => ∃ k : Nat, k ≤ n ∧ iv = .int .i64 k ∧ Hid (DiskAt wr B { d' with dur := durAt d'.dur d'.pend f k } Mv Md (.slice a n cap)) ∧ Hid (wr.ownsRow w1.heap.size 98 130 ov (restAt d'.pend f k).length (cellsW (restAt d'.pend f k))) ∧ Hid (Chg [B, Md] w1 wr))
    (fun _ iv _ => n - (intOf iv).toNat)
  case atStart => exact ⟨0, by omega, rfl, by have := HD1.out; rw [HN.out] at this; exact this, World.ownsRow_nil _ _ _ _, Chg.refl _ _⟩
  case round =>
    obtain ⟨k, hk, rfl, HD, HO, HG⟩ := hrel
    by_cases hlt : k < n
    · have hkl : k < d'.pend.length := by have := HN.out; omega
      obtain ⟨x, hx⟩ : ∃ x, d'.pend[k]? = some x := ⟨_, List.getElem?_eq_getElem hkl⟩
      have hxok := HD.out.ok.pend x (List.mem_of_getElem? hx)
      have hpn : n = d'.pend.length := by have := HN.out; omega
      obtain ⟨g, cap', hae, hgb, hgl, hrange⟩ := own_elem HD.out.pend HD.out.ok.pend hx rfl
      obtain ⟨rfl, rfl⟩ : a = some ⟨g, 0, none⟩ ∧ cap = cap' := by
        injection hae with h1 h2 h3
        exact ⟨h1, h3⟩
      have HX := Lib.hid hx
      have HXO := Lib.hid hxok
      have HLd := Lib.hid (wr_loads hxok hrange).2.1
      have HZ := Lib.hid zero_wr
      have HSt := Lib.hid (store_wr wr ⟨0, 0, noughts⟩ x (by simp [noughts]) hxok.2.2.1)
      obtain ⟨w3, hw3⟩ : ∃ W, wr.alloc (.cells x.cells.toArray 98) = W := ⟨_, rfl⟩
      have hr3 : w3.rangeAt wr.heap.size 0 x.cells := by
        intro j v hv
        rw [← hw3, Nat.zero_add, World.cell?_alloc_new]
        simpa using hv
      have hn3 : wr.heap.size < w3.heap.size := by rw [← hw3]; simp
      have hc3 : Chg [] wr w3 := by rw [← hw3]; exact (Chg.refl _ _).alloc _
      have HD3 := Lib.hid (HD.out.chg hc3 (by simp))
      have HO3 := Lib.hid (own_chg HO.out hc3 (by simp))
      have HG3 : Hid (Chg [B, Md] w1 w3) := HG.out.trans (hc3.sub (by simp))
      have HW3 := Lib.hid hw3
      have q0 := (wr_loads hxok hr3).2.2.1
      have q1 := (wr_loads hxok hr3).2.2.2
      have qg := (Wr.cells_get x).1
      have hnd : d'.pend.length ≤ 1000000000 := by omega
      have hrl : (restAt d'.pend f k).length ≤ 1000000000 := by have := restAt_le d'.pend f k; omega
      clear hx hxok hae hrange hw3 hc3 hpn hkl hgb HD HO HG q0 q1
      cases hsf : sameF f x with
      | true =>
        have qf : ((x.f : Int) == (f : Int)) = true := by unfold sameF at hsf; simp at hsf ⊢; omega
        have HD4 : Hid (durAt d'.dur d'.pend f (k + 1) = (durAt d'.dur d'.pend f k).wr x) := durAt_yes _ HX.out hsf
        have HR4 : Hid (restAt d'.pend f (k + 1) = restAt d'.pend f k) := restAt_yes HX.out hsf
        clear hsf
        go_wp2_with (first | (guard_target =~ wpList _ _ _ (Oper.mk _ (Op.load _ _) _ _ _ _ :: _) _ _; refine wpList_loadV rfl 98 _ rfl rfl HLd.out ?_) | (guard_target =~ wpList _ _ _ (Oper.mk _ (Op.alloc _) _ _ _ _ :: _) _ _; refine wpList_val rfl (exec_alloc (e := 98) rfl HZ.out) ?_) | (guard_target =~ wpList _ _ _ (Oper.mk _ (Op.store _ _ _) _ _ _ _ :: _) _ _; refine wpList_skp rfl (exec_store (ty := 98) rfl rfl rfl HSt.out) ?_) | fail)
        have hw3 := HW3.out
        rw [hw3]
        obtain ⟨nb, hnb⟩ : ∃ nb, wr.heap.size = nb := ⟨_, rfl⟩
        rw [hnb] at hr3 hn3 hgl ⊢
        have e1 : ∀ W, Chg [] w3.drew W → (loadVar 98 ⟨nb, 0, none⟩).run Try.prog W = .ok (.agg x.cells.toArray) W := fun W hW =>
          (wr_loads HXO.out (rangeAt_chg (w := w3.drew) hr3 hn3 hW (by simp))).2.1
        have HP := Lib.hid (putd_any (HD3.out.chg ((Chg.refl [] w3).drew) (by simp)) x HXO.out)
        have HE1 := Lib.hid e1
        clear e1 hw3 HSt HLd HZ HW3 hnb
        go_wp2_with fail
        refine wp_region_ordX [] 4 [(0, true), (1, true), (2, true), (3, true)] (by kernel_rfl) (by kernel_rfl) (by kernel_rfl) (by kernel_rfl) ?_
        repeat (first | ((refine wpOX_F rfl (by rfl) (fun w' hL => exec_load rfl rfl (HE1.out w' hL)) ?_); try simp only [Act.put, List.setIfInBounds_toArray, List.set_cons_zero, List.set_cons_succ]) | (refine wpOX_F (v := ?_) rfl (by rfl) (fun w' hL => ?_) ?_; rotate_left; (solve | (go_simp; with_reducible rfl) | go_simp); try simp only [Act.put, List.setIfInBounds_toArray, List.set_cons_zero, List.set_cons_succ]) | (refine wpOX_G (Chg.refl _) rfl (by rfl) ?_; try simp only [Act.put, List.setIfInBounds_toArray, List.set_cons_zero, List.set_cons_succ]))
        refine wpOX_end rfl (by rfl) ?_
        go_simp
        refine HP.out.mono ?_
        rintro e w4 ⟨rfl, hD4, h4⟩
        simp only [NoPanic, Act.put]
        have hFIN : Hid (DiskAt w4 B { d' with dur := durAt d'.dur d'.pend f (k + 1) } Mv Md (.slice (some ⟨g, 0, none⟩) n cap)) := by
          rw [HD4.out]; exact hD4
        have hB1 := HW1.out B (by simp [footD])
        have hM1 := HW1.out Md (by simp [footD])
        have hOWN : Hid (w4.ownsRow w1.heap.size 98 130 u6 (restAt d'.pend f (k + 1)).length (cellsW (restAt d'.pend f (k + 1)))) := by
          rw [HR4.out]
          refine own_chg (w := w3.drew) HO3.out h4 (fun g' hg' => ?_)
          have := own_base HO3.out hg'
          simp; omega
        have hCHG : Hid (Chg [B, Md] w1 w4) := HG3.out.trans (Chg.undrew h4)
        clear hD4 h4 HP HE1
        go_wp2
        go_roundw
        case rel => exact ⟨k + 1, by omega, by go_num, hFIN.out, hOWN.out, hCHG.out⟩
        case measure => simp [intOf]; omega
      | false =>
        have qf : ((x.f : Int) == (f : Int)) = false := by unfold sameF at hsf; simp at hsf ⊢; omega
        have HD4 : Hid (durAt d'.dur d'.pend f (k + 1) = durAt d'.dur d'.pend f k) := durAt_no _ HX.out hsf
        have HR4 : Hid (restAt d'.pend f (k + 1) = restAt d'.pend f k ++ [x]) := restAt_no HX.out hsf
        clear hsf
        have HLd2 := Lib.hid (wr_loads HXO.out hr3).2.1
        obtain ⟨i0, hi, hz0, hz1, hz2⟩ := info_parts info_wr
        have HI := Lib.hid (And.intro hi (And.intro hz0 (And.intro hz1 hz2)))
        have HO5 : Hid ((w3.alloc (.cells x.cells.toArray 98)).ownsRow w1.heap.size 98 130 u6 (restAt d'.pend f k).length (cellsW (restAt d'.pend f k))) := own_chg HO3.out ((Chg.refl [] _).alloc _) (by simp)
        have hb13 : Hid (w1.heap.size ≤ (w3.alloc (.cells x.cells.toArray 98)).heap.size) := by
          have := HG3.out.size
          show _ ≤ _
          simp; omega
        have hnews : Hid (∀ j u, x.cells[j]? = some u → (w3.alloc (.cells x.cells.toArray 98)).cell? ((⟨w3.heap.size, 0, none⟩ : Addr).add j) = some u) := by
          intro j u hj
          rw [Addr.add_mid, Nat.zero_add, World.cell?_alloc_new]
          simpa using hj
        rw [← HW3.out] at HLd2 HO5 hb13 hnews HD3 HO3 HG3
        clear hi hz0 hz1 hz2 HW3 hr3 hn3
        go_wp2_with (first | (guard_target =~ wpList _ _ _ (Oper.mk _ (Op.load _ _) _ _ _ _ :: _) _ _; refine wpList_loadV rfl 98 _ rfl rfl HLd.out ?_) | (guard_target =~ wpList _ _ _ (Oper.mk _ (Op.alloc _) _ _ _ _ :: _) _ _; refine wpList_val rfl (exec_alloc (e := 98) rfl HZ.out) ?_) | (guard_target =~ wpList _ _ _ (Oper.mk _ (Op.store _ _ _) _ _ _ _ :: _) _ _; refine wpList_skp rfl (exec_store (ty := 98) rfl rfl rfl HSt.out) ?_) | (guard_target =~ wpList _ _ _ (Oper.mk _ (Op.load _ _) _ _ _ _ :: _) _ _; refine wpList_loadV rfl 98 _ rfl rfl HLd2.out ?_) | (guard_target =~ wpList _ _ _ (Oper.mk _ (Op.buildSlice _ _ _) _ _ _ _ :: _) _ _; refine wpList_val rfl (exec_buildSlice1 (t := 45) (vx := .agg x.cells.toArray) rfl rfl (bslice_wr x HXO.out.2.2.1 _)) ?_) | (at_builtin; refine wpList_append_lies _ rfl (.tmp 46) (.tmp 48) 45 rfl w1.heap.size 98 i0 (.agg (Wr.cells ⟨0, 0, noughts⟩).toArray) 130 144 Try.underlying45 HI.out.1 HI.out.2.1 HI.out.2.2.1 HI.out.2.2.2 (by simp [Value.cells, Wr.cells_len, noughts]) (by omega) u6 _ (cellsW (restAt d'.pend f k)) rfl HO5.out ⟨_, 0, none⟩ 1 1 x.cells rfl (by rw [Wr.cells_len HXO.out.2.2.1]) hnews.out (Wr.cells_one _) (by omega) (by unfold maxLen; omega) (by omega) hb13.out _ rfl ?_; intro g6 cap6 w6 hown hgrow hlies hlt6) | fail)
        have hg6 : Chg u6.ownBlock.toList _ w6 := ⟨hgrow.os, hgrow.tape, hgrow.output, hgrow.size, fun k hk hn => hgrow.block k hk (fun e => hn (by rw [← e]; simp))⟩
        have hub : ∀ b, b ∈ u6.ownBlock.toList → w1.heap.size ≤ b := fun b hb => own_base HO3.out (by simpa using hb)
        have hFIN : Hid (DiskAt w6 B { d' with dur := durAt d'.dur d'.pend f (k + 1) } Mv Md (.slice (some ⟨g, 0, none⟩) n cap)) := by
          rw [HD4.out]
          refine (HD3.out.chg ((Chg.refl [] _).alloc _) (by simp)).chg hg6 (fun b hb hm => ?_)
          have h1 := HW1.out b hb
          have h2 := hub b hm
          omega
        have hOWN : Hid (w6.ownsRow w1.heap.size 98 130 (.slice (some ⟨g6, 0, none⟩) ((restAt d'.pend f k).length + 1) cap6) (restAt d'.pend f (k + 1)).length (cellsW (restAt d'.pend f (k + 1)))) := by
          rw [HR4.out, cellsW_snoc, List.length_append]; exact hown
        have hCHG : Hid (Chg [B, Md] w1 w6) := HG3.out.trans' (S1 := u6.ownBlock.toList) (fun k hk => .inr (hub k hk)) (((Chg.refl _ _).alloc _).trans hg6)
        clear hown hgrow hlies hg6
        go_roundw
        case rel => exact ⟨k + 1, by omega, by go_num, hFIN.out, hOWN.out, hCHG.out⟩
        case measure => simp [intOf]; omega
    · obtain rfl : k = n := by omega
      obtain ⟨a6, n6, c6, rfl⟩ : ∃ a6 n6 c6, u6 = .slice a6 n6 c6 := by
        rcases HO.out.2 with ⟨rfl, _⟩ | ⟨g, cap, cur, rfl, _⟩
        · exact ⟨_, _, _, rfl⟩
        · exact ⟨_, _, _, rfl⟩
      have hb := HD.out.blk
      have q8 := hb.cell 8
      have q8' : wr.cell? ⟨B, 8, none⟩ = some (.slice a k cap) := q8
      have hf8 := hb.frozen 8
      have hrl : (restAt d'.pend f k).length ≤ 1000000000 := by have := restAt_le d'.pend f k; omega
      have hset := HD.out.set_ (pv' := .slice a6 n6 c6) (d' := { d' with dur := durAt d'.dur d'.pend f k, pend := restAt d'.pend f k }) 8 (.slice a6 n6 c6) (row_set_pend B _ Mv Md _ (.slice a6 n6 c6) _) rfl rfl (own_sub HO.out)
        ⟨HD.out.ok.quota, HD.out.ok.vis, HD.out.ok.dur, restAt_ok HD.out.ok.pend f k, HD.out.ok.left⟩ HD.out.calls hrl
      have HS := Lib.hid hset
      have HUB : Hid (∀ b, (Value.slice a6 n6 c6).ownBlock = some b → w1.heap.size ≤ b) := fun b hb => own_base HO.out hb
      have HGR : Hid (Chg [B, Md] w1 (wr.setCell ⟨B, 8, none⟩ (.slice a6 n6 c6))) := HG.out.setCell (.inl (by simp)) _
      clear hb q8 hset HD HO HG
      go_wp2
      go_ret
      rw [HN.out]
      refine ⟨rfl, _, HS.out, (HG1.out.sub (by simp [footD])).trans (HGR.out.sub (by simp [footD])), .inr fun b hb => ?_⟩
      have := HUB.out b hb
      omega
end Go.Proofs.Ytaggghfnbllbgaa
