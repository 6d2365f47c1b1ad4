/- Several texts of one proof, one behind the other. -/
import Derived.Test.YthfgjkmfabmipaaJQk3
import Derived.Laws.OwnMore
import Derived.Deep.OwnRows
set_option linter.unusedSimpArgs false
set_option linter.unusedVariables false

/- Write, whatever comes. -/
set_option linter.unusedSimpArgs false
set_option linter.unusedVariables false
set_option maxRecDepth 100000
namespace Go.Proofs.Ythfgjkmfabmipaa
set_option linter.unusedSimpArgs false
open Go.RowKit

theorem RetD.same {w w' : World} {B Mv Md : Nat} {pv : Value} {d : DS} (h : DiskAt w B d Mv Md pv) {n : Nat} {e : Ending} (he : e = .returned (.int .i64 (n : Int))) (hb : Below w.heap.size w w') : RetD w B Mv Md pv (n, d) e w' :=
  ⟨he, pv, h.below hb, Below.chg0 hb _, .inl rfl⟩

set_option maxRecDepth 100000 in
set_option maxHeartbeats 4000000 in
theorem Write_any {w : World} {B Mv Md : Nat} {pv : Value} {d : DS} (h : DiskAt w B d Mv Md pv) (f s : Int) (l : List Nat) (a : Option Addr) (n cap N : Nat) (hB : Bs N w a l) (hN : N ≤ w.heap.size) (hn : n = l.length) (hnm : n ≤ 1000000000000)
    (hcs : d.calls < 1000000000) (hwt : d.pend.length < 1000000000) :
    Calls Try.prog 72 #[.pointer (some ⟨B, 0, none⟩), .int .i64 f, .int .i64 s, .slice a n cap] w (RetD w B Mv Md pv (d.write f s l)) := by
  obtain ⟨c0, c1, c2, c3, c4, c5, c6, c7, c8, c9, c10, c11⟩ := h.cells
  have HM := Lib.hid (made_yes w B c0)
  have HF := Lib.hid (isFile_any f w)
  have HD := Lib.hid h
  by_cases hbad : (f < 0 ∨ 2 ≤ f) ∨ s < 0 ∨ 65535 < s ∨ l.length ≠ 128
  · have hr : d.write f s l = (1, d) := by unfold DS.write; rw [if_pos hbad]
    rw [hr]
    have hways : isFileB f = false ∨ (isFileB f = true ∧ (decide (s < 0) = true ∨ (decide (s < 0) = false ∧ (decide ((65535 : Int) < s) = true ∨ (decide ((65535 : Int) < s) = false ∧ ((n : Int) != 128) = true))))) := by
      unfold isFileB
      simp only [Bool.and_eq_false_iff, Bool.and_eq_true, decide_eq_true_eq, decide_eq_false_iff_not, bne_iff_ne, ne_eq]
      omega
    clear hr hbad h hB hn
    rcases hways with hf | ⟨hf, hs | ⟨hs, hs2 | ⟨hs2, hs3⟩⟩⟩
    all_goals
      rw [hf] at HF
      clear hf
      go_enter Try.func72, Try.ntmps72
      go_wp2_with (first | (go_at_call 40; refine HM.out.mono ?_; rintro e w' ⟨rfl, rfl⟩) | (go_at_call 41; refine HF.out.mono ?_; rintro e w' ⟨rfl, rfl⟩))
      go_ret
      exact RetD.same HD.out rfl (Below.refl _ _)
  · obtain ⟨m, rfl⟩ : ∃ m : Nat, f = (m : Int) := ⟨f.toNat, by omega⟩
    obtain ⟨t, rfl⟩ : ∃ t : Nat, s = (t : Int) := ⟨s.toNat, by omega⟩
    have hm : m < 2 := by omega
    have ht : t ≤ 65535 := by omega
    have hl : l.length = 128 := by omega
    obtain rfl : n = 128 := by omega
    have hr : d.write (m : Int) (t : Int) l = if d.down then (51, d) else if d.fits m t = false then (50, d) else match d.change with
      | (d', false) => (51, d')
      | (d', true) => (0, d'.put ⟨m, t, l⟩) := by
      unfold DS.write; rw [if_neg hbad, Int.toNat_natCast, Int.toNat_natCast]; rfl
    rw [hr]
    have hf : isFileB (m : Int) = true := by unfold isFileB; simp; omega
    rw [hf] at HF
    have q1 : decide ((t : Int) < 0) = false := by rw [decide_eq_false_iff_not]; omega
    have q2 : decide ((65535 : Int) < (t : Int)) = false := by rw [decide_eq_false_iff_not]; omega
    cases hd : d.down with
    | true =>
      rw [if_pos rfl]
      rw [hd] at c11
      clear hr hbad h hB hn hf hd
      go_enter Try.func72, Try.ntmps72
      go_wp2_with (first | (go_at_call 40; refine HM.out.mono ?_; rintro e w' ⟨rfl, rfl⟩) | (go_at_call 41; refine HF.out.mono ?_; rintro e w' ⟨rfl, rfl⟩))
      go_ret
      exact RetD.same HD.out rfl (Below.refl _ _)
    | false =>
      rw [if_neg (by simp)]
      have HFit := Lib.hid (fits_any h m t hm ht)
      cases hfit : d.fits m t with
      | false =>
        rw [if_pos rfl]
        rw [hd] at c11
        rw [hfit] at HFit
        clear hr hbad h hB hn hf hd hfit
        go_enter Try.func72, Try.ntmps72
        go_wp2_with (first | (go_at_call 40; refine HM.out.mono ?_; rintro e w' ⟨rfl, rfl⟩) | (go_at_call 41; refine HF.out.mono ?_; rintro e w' ⟨rfl, rfl⟩) | fail)
        refine HFit.out.mono ?_
        rintro e w1 ⟨rfl, b1⟩
        go_wp2
        go_ret
        exact RetD.same HD.out rfl b1
      | true =>
        rw [if_neg (by simp)]
        rcases hch : d.change with ⟨d', go⟩
        cases go with
        | true => exact Write_yes h m t hm ht l hl a cap N hB hN hd hfit hch hcs hwt
        | false =>
          rw [hd] at c11
          rw [hfit] at HFit
          have HC : Hid (∀ W, Below w.heap.size w W → Calls Try.prog 61 #[.pointer (some ⟨B, 0, none⟩)] W fun e w' => e = .returned (.int .i64 51) ∧ DiskAt w' B d' Mv Md pv ∧ Chg [B] W w') := fun W hW => by
            have := change_any (h.below hW) hcs
            rw [hch] at this
            exact this
          clear hr hbad h hB hn hf hd hfit hch
          go_enter Try.func72, Try.ntmps72
          go_wp2_with (first | (go_at_call 40; refine HM.out.mono ?_; rintro e w' ⟨rfl, rfl⟩) | (go_at_call 41; refine HF.out.mono ?_; rintro e w' ⟨rfl, rfl⟩) | fail)
          refine HFit.out.mono ?_
          rintro e w1 ⟨rfl, b1⟩
          go_wp2_with fail
          refine (HC.out w1 b1).mono ?_
          rintro e w2 ⟨rfl, hD2, g2⟩
          have HD2 := Lib.hid hD2
          clear hD2
          go_wp2
          go_ret
          exact ⟨rfl, pv, HD2.out, (Below.chg0 b1 _).trans (g2.sub (by simp [footD])), .inl rfl⟩
end Go.Proofs.Ythfgjkmfabmipaa

/- Sync. -/
set_option linter.unusedSimpArgs false
set_option linter.unusedVariables false
set_option maxRecDepth 100000
namespace Go.Proofs.Ythfgjkmfabmipaa
set_option linter.unusedSimpArgs false
open Go.RowKit

theorem cellsW_get : ∀ (l : List Wr) (k : Nat) (x : Wr), (∀ y ∈ l, y.b.length = 128) → l[k]? = some x → ∀ j v, x.cells[j]? = some v → (cellsW l)[k * 130 + j]? = some v
  | [], _, _, _, h => by simp at h
  | y :: r, 0, x, hl, h => by
    intro j v hv
    simp at h; subst h
    have hj : j < y.cells.length := (List.getElem?_eq_some_iff.1 hv).1
    show (y.cells ++ cellsW r)[0 * 130 + j]? = _
    rw [Nat.zero_mul, Nat.zero_add, List.getElem?_append_left hj]
    exact hv
  | y :: r, k + 1, x, hl, h => by
    intro j v hv
    have ih := cellsW_get r k x (fun z hz => hl z (by simp [hz])) (by simpa using h) j v hv
    show (y.cells ++ cellsW r)[(k + 1) * 130 + j]? = _
    have hy := Wr.cells_len (hl y (by simp))
    rw [List.getElem?_append_right (by omega), hy, show (k + 1) * 130 + j - 130 = k * 130 + j by omega]
    exact ih

theorem cellsW_len : ∀ (l : List Wr), (∀ y ∈ l, y.b.length = 128) → (cellsW l).length = l.length * 130
  | [], _ => rfl
  | y :: r, hl => by
    show (y.cells ++ cellsW r).length = _
    rw [List.length_append, Wr.cells_len (hl y (by simp)), cellsW_len r (fun z hz => hl z (by simp [hz])), List.length_cons]
    omega

/-- Number k of a row of writes, where it lies. -/
theorem own_elem {w : World} {base : Nat} {v : Value} {n : Nat} {l : List Wr} (h : w.ownsRow base 109 130 v n (cellsW l)) (hl : ∀ y ∈ l, y.ok) {k : Nat} {x : Wr} (hk : l[k]? = some x) (hn : n = l.length) :
    ∃ g cap, v = .slice (some ⟨g, 0, none⟩) n cap ∧ base ≤ g ∧ g < w.heap.size ∧ w.rangeAt g (k * 130) x.cells := by
  have hkl : k < l.length := (List.getElem?_eq_some_iff.1 hk).1
  obtain ⟨g, cap, rfl, hb, hg⟩ := h.form (by omega)
  refine ⟨g, cap, rfl, hb, hg, fun j u hu => ?_⟩
  have hc := h.cells rfl
  have := hc (k * 130 + j) u (cellsW_get l k x (fun y hy => (hl y hy).2.2.1) hk j u hu)
  rw [Addr.add_mid, Nat.zero_add] at this
  exact this

theorem own_base {w : World} {base : Nat} {e : TypeId} {size n : Nat} {v : Value} {xs : List Value} (h : w.ownsRow base e size v n xs) {g : Nat} (hg : v.ownBlock = some g) : base ≤ g := by
  rcases h.2 with ⟨rfl, _⟩ | ⟨g', cap, cur, rfl, hb, _⟩
  · simp [Value.ownBlock] at hg
  · have : g' = g := by simpa [Value.ownBlock] using hg
    omega
theorem own_sub {w : World} {base : Nat} {e : TypeId} {size n : Nat} {v : Value} {xs : List Value} (h : w.ownsRow base e size v n xs) : w.ownsRow 0 e size v n xs := by
  refine ⟨h.1, h.2.imp id ?_⟩
  rintro ⟨g, cap, cur, h1, h2, h3⟩
  exact ⟨g, cap, cur, h1, Nat.zero_le _, h3⟩

def sameF (f : Nat) (x : Wr) : Bool := x.f == f
/-- The contents behind the first k of the pending writes. -/
def durAt (c : Cont) (p : List Wr) (f k : Nat) : Cont := ((p.take k).filter (sameF f)).foldl Cont.wr c
def restAt (p : List Wr) (f k : Nat) : List Wr := (p.take k).filter fun x => !sameF f x

theorem take_succ {p : List Wr} {k : Nat} {x : Wr} (h : p[k]? = some x) : p.take (k + 1) = p.take k ++ [x] := by
  rw [List.take_add_one, h]; rfl
theorem durAt_yes (c : Cont) {p : List Wr} {f k : Nat} {x : Wr} (h : p[k]? = some x) (hx : sameF f x = true) : durAt c p f (k + 1) = (durAt c p f k).wr x := by
  unfold durAt
  rw [take_succ h, List.filter_append, List.foldl_append]
  simp [hx]
theorem durAt_no (c : Cont) {p : List Wr} {f k : Nat} {x : Wr} (h : p[k]? = some x) (hx : sameF f x = false) : durAt c p f (k + 1) = durAt c p f k := by
  unfold durAt
  rw [take_succ h, List.filter_append]
  simp [hx]
theorem restAt_yes {p : List Wr} {f k : Nat} {x : Wr} (h : p[k]? = some x) (hx : sameF f x = true) : restAt p f (k + 1) = restAt p f k := by
  unfold restAt
  rw [take_succ h, List.filter_append]
  simp [hx]
theorem restAt_no {p : List Wr} {f k : Nat} {x : Wr} (h : p[k]? = some x) (hx : sameF f x = false) : restAt p f (k + 1) = restAt p f k ++ [x] := by
  unfold restAt
  rw [take_succ h, List.filter_append]
  simp [hx]
theorem restAt_le (p : List Wr) (f k : Nat) : (restAt p f k).length ≤ k := Nat.le_trans (List.length_filter_le _ _) (List.length_take_le _ _)
theorem restAt_ok {p : List Wr} (h : ∀ x ∈ p, x.ok) (f k : Nat) : ∀ x ∈ restAt p f k, x.ok := fun x hx => h x (List.mem_of_mem_take (List.mem_filter.1 hx).1)

set_option maxRecDepth 100000 in
set_option maxHeartbeats 8000000 in
theorem Sync_yes {w : World} {B Mv Md : Nat} {pv : Value} {d d' : DS} (h : DiskAt w B d Mv Md pv) (f : Nat) (hf : f < 2) (hd : d.down = false) (hch : d.change = (d', true)) (hcs : d.calls < 1000000000) (hpl : d'.pend = d.pend) :
    Calls Try.prog 27 #[.pointer (some ⟨B, 0, none⟩), .int .i64 (f : Int)] w (RetD w B Mv Md pv (0, { d' with dur := durAt d'.dur d'.pend f d'.pend.length, pend := restAt d'.pend f d'.pend.length })) := by
  obtain ⟨c0, c1, c2, c3, c4, c5, c6, c7, c8, c9, c10, c11⟩ := h.cells
  have HM := Lib.hid (made_yes w B c0)
  have HF := Lib.hid (isFile_any (f : Int) w)
  have hfb : isFileB (f : Int) = true := by unfold isFileB; simp; omega
  rw [hfb] at HF
  rw [hd] at c11
  have HC := Lib.hid (change_any h hcs)
  rw [hch] at HC
  have hlt := h.blk.lt
  have hwt := h.waits
  rw [← hpl] at hwt
  have HLT := Lib.hid h.lt
  clear h hfb hch hd hcs hpl
  go_enter Try.func27, Try.ntmps27
  go_wp2_with (first | (go_at_call 40; refine HM.out.mono ?_; rintro e w' ⟨rfl, rfl⟩) | (go_at_call 41; refine HF.out.mono ?_; rintro e w' ⟨rfl, rfl⟩) | fail)
  refine HC.out.mono ?_
  rintro e w1 ⟨rfl, hD1, g1⟩
  clear HC HM HF c0 c1 c2 c3 c4 c5 c6 c7 c8 c9 c10 c11
  have c8 := hD1.cells.2.2.2.2.2.2.2.2.1
  have hpv : ∃ a cap, pv = .slice a d'.pend.length cap := by
    rcases hD1.pend.2 with ⟨rfl, hn⟩ | ⟨g, cap, cur, rfl, _⟩
    · exact ⟨none, 0, by rw [hn]⟩
    · exact ⟨_, _, rfl⟩
  obtain ⟨a, cap, rfl⟩ := hpv
  obtain ⟨n, hn⟩ : ∃ n, d'.pend.length = n := ⟨_, rfl⟩
  rw [hn] at c8 hwt ⊢
  have HN := Lib.hid hn
  have HD1 := Lib.hid hD1
  have hsz1 := g1.size
  have HW1 : Hid (∀ k ∈ footD B Mv Md (.slice a n cap), k < w1.heap.size) := by rw [← hn]; exact hD1.lt
  have HG1 := Lib.hid g1
  clear hD1 hn g1
  go_wp2_with fail
  go_loopw [6, 32] (fun ov iv wr => ∃ k : Nat, k ≤ n ∧ iv = .int .i64 k ∧ Hid (DiskAt wr B { d' with dur := durAt d'.dur d'.pend f k } Mv Md (.slice a n cap)) ∧ Hid (wr.ownsRow w1.heap.size 109 130 ov (restAt d'.pend f k).length (cellsW (restAt d'.pend f k))) ∧ Hid (Chg [B, Md] w1 wr))
    (fun _ iv _ => n - (intOf iv).toNat)
  case atStart => exact ⟨0, by omega, rfl, by have := HD1.out; rw [HN.out] at this; exact this, World.ownsRow_nil _ _ _ _, Chg.refl _ _⟩
  case round =>
    obtain ⟨k, hk, rfl, HD, HO, HG⟩ := hrel
    by_cases hlt : k < n
    · have hkl : k < d'.pend.length := by have := HN.out; omega
      obtain ⟨x, hx⟩ : ∃ x, d'.pend[k]? = some x := ⟨_, List.getElem?_eq_getElem hkl⟩
      have hxok := HD.out.ok.pend x (List.mem_of_getElem? hx)
      have hpn : n = d'.pend.length := by have := HN.out; omega
      obtain ⟨g, cap', hae, hgb, hgl, hrange⟩ := own_elem HD.out.pend HD.out.ok.pend hx rfl
      obtain ⟨rfl, rfl⟩ : a = some ⟨g, 0, none⟩ ∧ cap = cap' := by
        injection hae with h1 h2 h3
        exact ⟨h1, h3⟩
      have HX := Lib.hid hx
      have HXO := Lib.hid hxok
      have HLd := Lib.hid (wr_loads hxok hrange).2.1
      have HZ := Lib.hid zero_wr
      have HSt := Lib.hid (store_wr wr ⟨0, 0, noughts⟩ x (by simp [noughts]) hxok.2.2.1)
      obtain ⟨w3, hw3⟩ : ∃ W, wr.alloc (.cells x.cells.toArray 109) = W := ⟨_, rfl⟩
      have hr3 : w3.rangeAt wr.heap.size 0 x.cells := by
        intro j v hv
        rw [← hw3, Nat.zero_add, World.cell?_alloc_new]
        simpa using hv
      have hn3 : wr.heap.size < w3.heap.size := by rw [← hw3]; simp
      have hc3 : Chg [] wr w3 := by rw [← hw3]; exact (Chg.refl _ _).alloc _
      have HD3 := Lib.hid (HD.out.chg hc3 (by simp))
      have HO3 := Lib.hid (own_chg HO.out hc3 (by simp))
      have HG3 : Hid (Chg [B, Md] w1 w3) := HG.out.trans (hc3.sub (by simp))
      have HW3 := Lib.hid hw3
      have q0 := (wr_loads hxok hr3).2.2.1
      have q1 := (wr_loads hxok hr3).2.2.2
      have qg := (Wr.cells_get x).1
      have hnd : d'.pend.length ≤ 1000000000 := by omega
      have hrl : (restAt d'.pend f k).length ≤ 1000000000 := by have := restAt_le d'.pend f k; omega
      clear hx hxok hae hrange hw3 hc3 hpn hkl hgb HD HO HG q0 q1
      cases hsf : sameF f x with
      | true =>
        have qf : ((x.f : Int) == (f : Int)) = true := by unfold sameF at hsf; simp at hsf ⊢; omega
        have HD4 : Hid (durAt d'.dur d'.pend f (k + 1) = (durAt d'.dur d'.pend f k).wr x) := durAt_yes _ HX.out hsf
        have HR4 : Hid (restAt d'.pend f (k + 1) = restAt d'.pend f k) := restAt_yes HX.out hsf
        clear hsf
        go_wp2_with (first | (guard_target =~ wpList _ _ _ (Oper.mk _ (Op.load _ _) _ _ _ _ :: _) _ _; refine wpList_loadV rfl 109 _ rfl rfl HLd.out ?_) | (guard_target =~ wpList _ _ _ (Oper.mk _ (Op.alloc _) _ _ _ _ :: _) _ _; refine wpList_val rfl (exec_alloc (e := 109) rfl HZ.out) ?_) | (guard_target =~ wpList _ _ _ (Oper.mk _ (Op.store _ _ _) _ _ _ _ :: _) _ _; refine wpList_skp rfl (exec_store (ty := 109) rfl rfl rfl HSt.out) ?_) | fail)
        have hw3 := HW3.out
        rw [hw3]
        obtain ⟨nb, hnb⟩ : ∃ nb, wr.heap.size = nb := ⟨_, rfl⟩
        rw [hnb] at hr3 hn3 hgl ⊢
        have e1 : ∀ W, Chg [] w3.drew W → (loadVar 109 ⟨nb, 0, none⟩).run Try.prog W = .ok (.agg x.cells.toArray) W := fun W hW =>
          (wr_loads HXO.out (rangeAt_chg (w := w3.drew) hr3 hn3 hW (by simp))).2.1
        have HP := Lib.hid (putd_any (HD3.out.chg ((Chg.refl [] w3).drew) (by simp)) x HXO.out)
        have HE1 := Lib.hid e1
        clear e1 hw3 HSt HLd HZ HW3 hnb
        go_wp2_with fail
        refine wp_region_ordX [] 4 [(0, true), (1, true), (2, true), (3, true)] (by kernel_rfl) (by kernel_rfl) (by kernel_rfl) (by kernel_rfl) ?_
        repeat (first | ((refine wpOX_F rfl (by rfl) (fun w' hL => exec_load rfl rfl (HE1.out w' hL)) ?_); try simp only [Act.put, List.setIfInBounds_toArray, List.set_cons_zero, List.set_cons_succ]) | (refine wpOX_F (v := ?_) rfl (by rfl) (fun w' hL => ?_) ?_; rotate_left; (solve | (go_simp; with_reducible rfl) | go_simp); try simp only [Act.put, List.setIfInBounds_toArray, List.set_cons_zero, List.set_cons_succ]) | (refine wpOX_G (Chg.refl _) rfl (by rfl) ?_; try simp only [Act.put, List.setIfInBounds_toArray, List.set_cons_zero, List.set_cons_succ]))
        refine wpOX_end rfl (by rfl) ?_
        go_simp
        refine HP.out.mono ?_
        rintro e w4 ⟨rfl, hD4, h4⟩
        simp only [NoPanic, Act.put]
        have hFIN : Hid (DiskAt w4 B { d' with dur := durAt d'.dur d'.pend f (k + 1) } Mv Md (.slice (some ⟨g, 0, none⟩) n cap)) := by
          rw [HD4.out]; exact hD4
        have hB1 := HW1.out B (by simp [footD])
        have hM1 := HW1.out Md (by simp [footD])
        have hOWN : Hid (w4.ownsRow w1.heap.size 109 130 u6 (restAt d'.pend f (k + 1)).length (cellsW (restAt d'.pend f (k + 1)))) := by
          rw [HR4.out]
          refine own_chg (w := w3.drew) HO3.out h4 (fun g' hg' => ?_)
          have := own_base HO3.out hg'
          simp; omega
        have hCHG : Hid (Chg [B, Md] w1 w4) := HG3.out.trans (Chg.undrew h4)
        clear hD4 h4 HP HE1
        go_wp2
        go_roundw
        case rel => exact ⟨k + 1, by omega, by go_num, hFIN.out, hOWN.out, hCHG.out⟩
        case measure => simp [intOf]; omega
      | false =>
        have qf : ((x.f : Int) == (f : Int)) = false := by unfold sameF at hsf; simp at hsf ⊢; omega
        have HD4 : Hid (durAt d'.dur d'.pend f (k + 1) = durAt d'.dur d'.pend f k) := durAt_no _ HX.out hsf
        have HR4 : Hid (restAt d'.pend f (k + 1) = restAt d'.pend f k ++ [x]) := restAt_no HX.out hsf
        clear hsf
        have HLd2 := Lib.hid (wr_loads HXO.out hr3).2.1
        obtain ⟨i0, hi, hz0, hz1, hz2⟩ := info_parts info_wr
        have HI := Lib.hid (And.intro hi (And.intro hz0 (And.intro hz1 hz2)))
        have HO5 : Hid ((w3.alloc (.cells x.cells.toArray 109)).ownsRow w1.heap.size 109 130 u6 (restAt d'.pend f k).length (cellsW (restAt d'.pend f k))) := own_chg HO3.out ((Chg.refl [] _).alloc _) (by simp)
        have hb13 : Hid (w1.heap.size ≤ (w3.alloc (.cells x.cells.toArray 109)).heap.size) := by
          have := HG3.out.size
          show _ ≤ _
          simp; omega
        have hnews : Hid (∀ j u, x.cells[j]? = some u → (w3.alloc (.cells x.cells.toArray 109)).cell? ((⟨w3.heap.size, 0, none⟩ : Addr).add j) = some u) := by
          intro j u hj
          rw [Addr.add_mid, Nat.zero_add, World.cell?_alloc_new]
          simpa using hj
        rw [← HW3.out] at HLd2 HO5 hb13 hnews HD3 HO3 HG3
        clear hi hz0 hz1 hz2 HW3 hr3 hn3
        go_wp2_with (first | (guard_target =~ wpList _ _ _ (Oper.mk _ (Op.load _ _) _ _ _ _ :: _) _ _; refine wpList_loadV rfl 109 _ rfl rfl HLd.out ?_) | (guard_target =~ wpList _ _ _ (Oper.mk _ (Op.alloc _) _ _ _ _ :: _) _ _; refine wpList_val rfl (exec_alloc (e := 109) rfl HZ.out) ?_) | (guard_target =~ wpList _ _ _ (Oper.mk _ (Op.store _ _ _) _ _ _ _ :: _) _ _; refine wpList_skp rfl (exec_store (ty := 109) rfl rfl rfl HSt.out) ?_) | (guard_target =~ wpList _ _ _ (Oper.mk _ (Op.load _ _) _ _ _ _ :: _) _ _; refine wpList_loadV rfl 109 _ rfl rfl HLd2.out ?_) | (guard_target =~ wpList _ _ _ (Oper.mk _ (Op.buildSlice _ _ _) _ _ _ _ :: _) _ _; refine wpList_val rfl (exec_buildSlice1 (t := 71) (vx := .agg x.cells.toArray) rfl rfl (bslice_wr x HXO.out.2.2.1 _)) ?_) | (at_builtin; refine wpList_append_lies _ rfl (.tmp 46) (.tmp 48) 71 rfl w1.heap.size 109 i0 (.agg (Wr.cells ⟨0, 0, noughts⟩).toArray) 130 144 Try.underlying71 HI.out.1 HI.out.2.1 HI.out.2.2.1 HI.out.2.2.2 (by simp [Value.cells, Wr.cells_len, noughts]) (by omega) u6 _ (cellsW (restAt d'.pend f k)) rfl HO5.out ⟨_, 0, none⟩ 1 1 x.cells rfl (by rw [Wr.cells_len HXO.out.2.2.1]) hnews.out (Wr.cells_one _) (by omega) (by unfold maxLen; omega) (by omega) hb13.out _ rfl ?_; intro g6 cap6 w6 hown hgrow hlies hlt6) | fail)
        have hg6 : Chg u6.ownBlock.toList _ w6 := ⟨hgrow.os, hgrow.tape, hgrow.output, hgrow.size, fun k hk hn => hgrow.block k hk (fun e => hn (by rw [← e]; simp))⟩
        have hub : ∀ b, b ∈ u6.ownBlock.toList → w1.heap.size ≤ b := fun b hb => own_base HO3.out (by simpa using hb)
        have hFIN : Hid (DiskAt w6 B { d' with dur := durAt d'.dur d'.pend f (k + 1) } Mv Md (.slice (some ⟨g, 0, none⟩) n cap)) := by
          rw [HD4.out]
          refine (HD3.out.chg ((Chg.refl [] _).alloc _) (by simp)).chg hg6 (fun b hb hm => ?_)
          have h1 := HW1.out b hb
          have h2 := hub b hm
          omega
        have hOWN : Hid (w6.ownsRow w1.heap.size 109 130 (.slice (some ⟨g6, 0, none⟩) ((restAt d'.pend f k).length + 1) cap6) (restAt d'.pend f (k + 1)).length (cellsW (restAt d'.pend f (k + 1)))) := by
          rw [HR4.out, cellsW_snoc, List.length_append]; exact hown
        have hCHG : Hid (Chg [B, Md] w1 w6) := HG3.out.trans' (S1 := u6.ownBlock.toList) (fun k hk => .inr (hub k hk)) (((Chg.refl _ _).alloc _).trans hg6)
        clear hown hgrow hlies hg6
        go_roundw
        case rel => exact ⟨k + 1, by omega, by go_num, hFIN.out, hOWN.out, hCHG.out⟩
        case measure => simp [intOf]; omega
    · obtain rfl : k = n := by omega
      obtain ⟨a6, n6, c6, rfl⟩ : ∃ a6 n6 c6, u6 = .slice a6 n6 c6 := by
        rcases HO.out.2 with ⟨rfl, _⟩ | ⟨g, cap, cur, rfl, _⟩
        · exact ⟨_, _, _, rfl⟩
        · exact ⟨_, _, _, rfl⟩
      have hb := HD.out.blk
      have q8 := hb.cell 8
      have q8' : wr.cell? ⟨B, 8, none⟩ = some (.slice a k cap) := q8
      have hf8 := hb.frozen 8
      have hrl : (restAt d'.pend f k).length ≤ 1000000000 := by have := restAt_le d'.pend f k; omega
      have hset := HD.out.set_ (pv' := .slice a6 n6 c6) (d' := { d' with dur := durAt d'.dur d'.pend f k, pend := restAt d'.pend f k }) 8 (.slice a6 n6 c6) (row_set_pend B _ Mv Md _ (.slice a6 n6 c6) _) rfl rfl (own_sub HO.out)
        ⟨HD.out.ok.quota, HD.out.ok.vis, HD.out.ok.dur, restAt_ok HD.out.ok.pend f k, HD.out.ok.left⟩ HD.out.calls hrl
      have HS := Lib.hid hset
      have HUB : Hid (∀ b, (Value.slice a6 n6 c6).ownBlock = some b → w1.heap.size ≤ b) := fun b hb => own_base HO.out hb
      have HGR : Hid (Chg [B, Md] w1 (wr.setCell ⟨B, 8, none⟩ (.slice a6 n6 c6))) := HG.out.setCell (.inl (by simp)) _
      clear hb q8 hset HD HO HG
      go_wp2
      go_ret
      rw [HN.out]
      refine ⟨rfl, _, HS.out, (HG1.out.sub (by simp [footD])).trans (HGR.out.sub (by simp [footD])), .inr fun b hb => ?_⟩
      have := HUB.out b hb
      omega
end Go.Proofs.Ythfgjkmfabmipaa

/- Sync, whatever comes; Crash. -/
set_option linter.unusedSimpArgs false
set_option linter.unusedVariables false
set_option maxRecDepth 100000
namespace Go.Proofs.Ythfgjkmfabmipaa
set_option linter.unusedSimpArgs false
open Go.RowKit

theorem sync_true {d d' : DS} {f : Nat} (hf : f < 2) (hd : d.down = false) (hch : d.change = (d', true)) : d.sync (f : Int) = (0, { d' with dur := durAt d'.dur d'.pend f d'.pend.length, pend := restAt d'.pend f d'.pend.length }) := by
  unfold DS.sync durAt restAt
  rw [if_neg (by omega), hd, if_neg (by simp), hch, Int.toNat_natCast, List.take_length]
  rfl

theorem change_pend {d d' : DS} {b : Bool} (h : d.change = (d', b)) : d'.pend = d.pend ∧ d'.dur = d.dur ∧ d'.vis = d.vis ∧ d'.quota = d.quota := by
  unfold DS.change at h
  split at h <;> (simp only [Prod.mk.injEq] at h; rw [← h.1]; exact ⟨rfl, rfl, rfl, rfl⟩)

set_option maxRecDepth 100000 in
set_option maxHeartbeats 4000000 in
theorem Sync_any {w : World} {B Mv Md : Nat} {pv : Value} {d : DS} (h : DiskAt w B d Mv Md pv) (f : Int) (hcs : d.calls < 1000000000) :
    Calls Try.prog 27 #[.pointer (some ⟨B, 0, none⟩), .int .i64 f] w (RetD w B Mv Md pv (d.sync f)) := by
  obtain ⟨c0, c1, c2, c3, c4, c5, c6, c7, c8, c9, c10, c11⟩ := h.cells
  have HM := Lib.hid (made_yes w B c0)
  have HF := Lib.hid (isFile_any f w)
  have HD := Lib.hid h
  by_cases hbad : f < 0 ∨ 2 ≤ f
  · have hr : d.sync f = (1, d) := by unfold DS.sync; rw [if_pos hbad]
    rw [hr]
    have hf : isFileB f = false := by unfold isFileB; simp only [Bool.and_eq_false_iff, decide_eq_false_iff_not]; omega
    rw [hf] at HF
    clear hr hbad h hf
    go_enter Try.func27, Try.ntmps27
    go_wp2_with (first | (go_at_call 40; refine HM.out.mono ?_; rintro e w' ⟨rfl, rfl⟩) | (go_at_call 41; refine HF.out.mono ?_; rintro e w' ⟨rfl, rfl⟩))
    go_ret
    exact RetD.same HD.out rfl (Below.refl _ _)
  · obtain ⟨m, rfl⟩ : ∃ m : Nat, f = (m : Int) := ⟨f.toNat, by omega⟩
    have hm : m < 2 := by omega
    have hf : isFileB (m : Int) = true := by unfold isFileB; simp; omega
    rw [hf] at HF
    cases hd : d.down with
    | true =>
      have hr : d.sync (m : Int) = (51, d) := by unfold DS.sync; rw [if_neg hbad, if_pos hd]
      rw [hr]
      rw [hd] at c11
      clear hr hbad h hf hd
      go_enter Try.func27, Try.ntmps27
      go_wp2_with (first | (go_at_call 40; refine HM.out.mono ?_; rintro e w' ⟨rfl, rfl⟩) | (go_at_call 41; refine HF.out.mono ?_; rintro e w' ⟨rfl, rfl⟩))
      go_ret
      exact RetD.same HD.out rfl (Below.refl _ _)
    | false =>
      rcases hch : d.change with ⟨d', go⟩
      cases go with
      | true =>
        rw [sync_true hm hd hch]
        exact Sync_yes h m hm hd hch hcs (change_pend hch).1
      | false =>
        have hr : d.sync (m : Int) = (51, d') := by unfold DS.sync; rw [if_neg hbad, hd, if_neg (by simp), hch]
        rw [hr]
        rw [hd] at c11
        have HC := Lib.hid (change_any h hcs)
        rw [hch] at HC
        clear hr hbad h hf hd hch
        go_enter Try.func27, Try.ntmps27
        go_wp2_with (first | (go_at_call 40; refine HM.out.mono ?_; rintro e w' ⟨rfl, rfl⟩) | (go_at_call 41; refine HF.out.mono ?_; rintro e w' ⟨rfl, rfl⟩) | fail)
        refine HC.out.mono ?_
        rintro e w2 ⟨rfl, hD2, g2⟩
        have HD2 := Lib.hid hD2
        clear hD2
        go_wp2
        go_ret
        exact ⟨rfl, pv, HD2.out, g2.sub (by simp [footD]), .inl rfl⟩

/-! Crash -/
theorem kept_take {keep : List Nat} {p : List Wr} : ∀ (k : Nat) (x : Wr), p[k]? = some x → keptOf keep (p.take (k + 1)) 0 = keptOf keep (p.take k) 0 ++ (if bitOf keep k then [x] else []) := by
  have key : ∀ (p : List Wr) (k i : Nat) (x : Wr), p[k]? = some x → keptOf keep (p.take (k + 1)) i = keptOf keep (p.take k) i ++ (if bitOf keep (i + k) then [x] else []) := by
    intro p
    induction p with
    | nil => intro k i x h; simp at h
    | cons y r ih =>
      intro k i x h
      cases k with
      | zero =>
        simp at h; subst h
        simp only [List.take_succ_cons, List.take_zero, keptOf, Nat.add_zero, List.nil_append]
      | succ k =>
        have := ih k (i + 1) x (by simpa using h)
        simp only [List.take_succ_cons, keptOf]
        rw [this, show i + 1 + k = i + (k + 1) by omega]
        split <;> simp
  intro k x h
  have := key p k 0 x h
  rw [Nat.zero_add] at this
  exact this

def crashAt (c : Cont) (keep : List Nat) (p : List Wr) (k : Nat) : Cont := (keptOf keep (p.take k) 0).foldl Cont.wr c
theorem crashAt_yes (c : Cont) {keep : List Nat} {p : List Wr} {k : Nat} {x : Wr} (h : p[k]? = some x) (hb : bitOf keep k = true) : crashAt c keep p (k + 1) = (crashAt c keep p k).wr x := by
  unfold crashAt
  rw [kept_take k x h, hb, if_pos rfl, List.foldl_append]
  rfl
theorem crashAt_no (c : Cont) {keep : List Nat} {p : List Wr} {k : Nat} {x : Wr} (h : p[k]? = some x) (hb : bitOf keep k = false) : crashAt c keep p (k + 1) = crashAt c keep p k := by
  unfold crashAt
  rw [kept_take k x h, hb]
  simp
end Go.Proofs.Ythfgjkmfabmipaa

/- Crash. -/
set_option linter.unusedSimpArgs false
set_option linter.unusedVariables false
set_option maxRecDepth 100000
namespace Go.Proofs.Ythfgjkmfabmipaa
set_option linter.unusedSimpArgs false
open Go.RowKit

theorem map_no_cell {w : World} {k kv : IntKind} {n : Nat} {b : Nat} {g : List Nat → Option (List Nat)} (h : MapA k kv n w b g) (j : Nat) : w.cell? ⟨b, j, none⟩ = none := by
  obtain ⟨es, clk, al, h1, h2⟩ := h
  unfold MapB at h1
  simp [World.cell?, h1]

theorem Bs.chgD2 {w w' : World} {N B Mv Md : Nat} {pv : Value} {d : DS} {a : Option Addr} {l : List Nat} (hB : Bs N w a l) (hN : N ≤ w.heap.size) (h : DiskAt w B d Mv Md pv) (hc : Chg [B, Md] w w') : Bs N w' a l := by
  obtain ⟨h1, h2⟩ := hB
  refine ⟨h1, ?_⟩
  rcases h2 with h2 | ⟨b, o, ha, hb, hcell⟩
  · exact .inl h2
  · by_cases hl : l = []
    · exact .inl hl
    · refine .inr ⟨b, o, ha, hb, fun i c hi => (hc.cell (by omega) ?_).trans (hcell i c hi)⟩
      simp only [List.mem_cons, List.not_mem_nil, or_false, not_or]
      refine ⟨?_, ?_⟩
      · rintro rfl
        exact row_no_u8 h _ _ (hcell i c hi)
      · rintro rfl
        have := hcell i c hi
        rw [map_no_cell h.dur] at this
        cases this

theorem crash_end {w w2 : World} {B Mv Md M' : Nat} {pv : Value} {d : DS} (h : DiskAt w B d Mv Md pv) (hb : Below w.heap.size w w2) (hM : MapA .i64 .u8 2 w2 M' d.dur.key) (hM' : w.heap.size ≤ M') :
    DiskAt ((((((w2.setCell ⟨B, 2, none⟩ (.map (some M'))).setCell ⟨B, 3, none⟩ (.int .i64 (d.dur.len 0 : Int))).setCell ⟨B, 4, none⟩ (.int .i64 (d.dur.len 1 : Int))).setCell ⟨B, 8, none⟩ (.slice none 0 0)).setCell ⟨B, 10, none⟩ (.int .i64 (-1))).setCell ⟨B, 11, none⟩ (.bool false)) B { d with vis := d.dur, pend := [], left := none, down := false } M' Md (.slice none 0 0) ∧
    Chg [B] w ((((((w2.setCell ⟨B, 2, none⟩ (.map (some M'))).setCell ⟨B, 3, none⟩ (.int .i64 (d.dur.len 0 : Int))).setCell ⟨B, 4, none⟩ (.int .i64 (d.dur.len 1 : Int))).setCell ⟨B, 8, none⟩ (.slice none 0 0)).setCell ⟨B, 10, none⟩ (.int .i64 (-1))).setCell ⟨B, 11, none⟩ (.bool false)) := by
  have h2 := h.below hb
  have hc : Chg [B] w w2 := Below.chg0 hb _
  have hBM : B ≠ M' := by have := h.blk.lt; omega
  have hdl := h.dur.lt
  refine ⟨⟨?_, ?_, ?_, World.ownsRow_nil _ _ _ _, by omega, ⟨h.ok.quota, h.ok.dur, h.ok.dur, by simp, by simp⟩, h.calls, by simp⟩, ?_⟩
  · exact (((((h2.blk.set_ 2 _).set_ 3 _).set_ 4 _).set_ 8 _).set_ 10 _).set_ 11 _
  · exact (((((hM.setCell _ _ _).setCell _ _ _).setCell _ _ _).setCell _ _ _).setCell _ _ _).setCell _ _ _
  · exact (((((h2.dur.setCell _ _ _).setCell _ _ _).setCell _ _ _).setCell _ _ _).setCell _ _ _).setCell _ _ _
  · exact (((((hc.setCell (.inl (by simp)) _).setCell (.inl (by simp)) _).setCell (.inl (by simp)) _).setCell (.inl (by simp)) _).setCell (.inl (by simp)) _).setCell (.inl (by simp)) _

/-- What Crash hands back. -/
def RetCr (w : World) (B Mv Md : Nat) (pv : Value) (d' : DS) (e : Ending) (w' : World) : Prop :=
  e = .returned (.int .i64 0) ∧ ∃ Mv', DiskAt w' B d' Mv' Md (.slice none 0 0) ∧ Chg (footD B Mv Md pv) w w' ∧ w.heap.size ≤ Mv'

set_option maxRecDepth 100000 in
set_option maxHeartbeats 8000000 in
theorem Crash_any {w : World} {B Mv Md : Nat} {pv : Value} {d : DS} (h : DiskAt w B d Mv Md pv) (l : List Nat) (a : Option Addr) (n cap N : Nat) (hB : Bs N w a l) (hN : N ≤ w.heap.size) (hn : n = l.length) (hnm : n ≤ 1000000000000) :
    Calls Try.prog 28 #[.pointer (some ⟨B, 0, none⟩), .slice a n cap] w (RetCr w B Mv Md pv (d.crash l)) := by
  obtain ⟨c0, c1, c2, c3, c4, c5, c6, c7, c8, c9, c10, c11⟩ := h.cells
  have HM := Lib.hid (made_yes w B c0)
  have hlt := h.blk.lt
  have hwt := h.waits
  have HK := Lib.hid (fun (k : Nat) (hk : k ≤ 1000000000) (W : World) (hW : Chg [B, Md] w W) => keeps_any a n cap l k w.heap.size W ((hB.mono hN).chgD2 (Nat.le_refl _) h hW) hn hk hnm)
  have hpv : ∃ a cap, pv = .slice a d.pend.length cap := by
    rcases h.pend.2 with ⟨rfl, hn⟩ | ⟨g, cap, cur, rfl, _⟩
    · exact ⟨none, 0, by rw [hn]⟩
    · exact ⟨_, _, rfl⟩
  obtain ⟨a1, cap1, rfl⟩ := hpv
  obtain ⟨m, hm⟩ : ∃ m, d.pend.length = m := ⟨_, rfl⟩
  rw [hm] at c8 hwt ⊢
  have HN := Lib.hid hm
  have HD0 := Lib.hid h
  rw [hm] at HD0
  clear h hm hn hB hN hnm c1 c2 c3 c4 c5 c6 c7 c9 c10 c11
  go_enter Try.func28, Try.ntmps28
  go_wp2_with (first | (go_at_call 40; refine HM.out.mono ?_; rintro e w' ⟨rfl, rfl⟩) | fail)
  clear HM c0 c8
  go_loopw [15] (fun iv wr => ∃ k : Nat, k ≤ m ∧ iv = .int .i64 k ∧ Hid (DiskAt wr B { d with dur := crashAt d.dur l d.pend k } Mv Md (.slice a1 m cap1)) ∧ Hid (Chg [B, Md] w' wr))
    (fun iv _ => m - (intOf iv).toNat)
  case atStart => exact ⟨0, by omega, rfl, HD0.out, Chg.refl _ _⟩
  case round =>
    obtain ⟨k, hk, rfl, HD, HG⟩ := hrel
    by_cases hkm : k < m
    · have hkl : k < d.pend.length := by have := HN.out; omega
      obtain ⟨x, hx⟩ : ∃ x, d.pend[k]? = some x := ⟨_, List.getElem?_eq_getElem hkl⟩
      have hxok := HD.out.ok.pend x (List.mem_of_getElem? hx)
      have hpn : m = d.pend.length := by have := HN.out; omega
      obtain ⟨g, cap', hae, hgb, hgl, hrange⟩ := own_elem HD.out.pend HD.out.ok.pend hx rfl
      obtain ⟨rfl, rfl⟩ : a1 = some ⟨g, 0, none⟩ ∧ cap1 = cap' := by
        injection hae with h1 h2 h3
        exact ⟨h1, h3⟩
      have HX := Lib.hid hx
      have HXO := Lib.hid hxok
      have HLd := Lib.hid (wr_loads hxok hrange).2.1
      have HZ := Lib.hid zero_wr
      have HSt := Lib.hid (store_wr wr ⟨0, 0, noughts⟩ x (by simp [noughts]) hxok.2.2.1)
      obtain ⟨w3, hw3⟩ : ∃ W, wr.alloc (.cells x.cells.toArray 109) = W := ⟨_, rfl⟩
      have hr3 : w3.rangeAt wr.heap.size 0 x.cells := by
        intro j v hv
        rw [← hw3, Nat.zero_add, World.cell?_alloc_new]
        simpa using hv
      have hn3 : wr.heap.size < w3.heap.size := by rw [← hw3]; simp
      have hc3 : Chg [] wr w3 := by rw [← hw3]; exact (Chg.refl _ _).alloc _
      have HD3 := Lib.hid (HD.out.chg hc3 (by simp))
      have HG3 : Hid (Chg [B, Md] w' w3) := HG.out.trans (hc3.sub (by simp))
      have HW3 := Lib.hid hw3
      have hnd : d.pend.length ≤ 1000000000 := by omega
      have HKk := Lib.hid (HK.out k (by omega) w3 HG3.out)
      clear hx hxok hae hrange hw3 hc3 hpn hkl hgb HD HG
      go_wp2_with (first | (guard_target =~ wpList _ _ _ (Oper.mk _ (Op.load _ _) _ _ _ _ :: _) _ _; refine wpList_loadV rfl 109 _ rfl rfl HLd.out ?_) | (guard_target =~ wpList _ _ _ (Oper.mk _ (Op.alloc _) _ _ _ _ :: _) _ _; refine wpList_val rfl (exec_alloc (e := 109) rfl HZ.out) ?_) | (guard_target =~ wpList _ _ _ (Oper.mk _ (Op.store _ _ _) _ _ _ _ :: _) _ _; refine wpList_skp rfl (exec_store (ty := 109) rfl rfl rfl HSt.out) ?_) | fail)
      have hw3 := HW3.out
      rw [hw3]
      obtain ⟨nb, hnb⟩ : ∃ nb, wr.heap.size = nb := ⟨_, rfl⟩
      rw [hnb] at hr3 hn3 hgl ⊢
      clear hw3 HSt HLd HZ HW3 hnb
      refine HKk.out.mono ?_
      rintro e w'' ⟨rfl, rfl⟩
      cases hsf : bitOf l k with
      | true =>
        have HD4 : Hid (crashAt d.dur l d.pend (k + 1) = (crashAt d.dur l d.pend k).wr x) := crashAt_yes _ HX.out hsf
        clear hsf HKk
        have e1 : ∀ W, Chg [] w''.drew W → (loadVar 109 ⟨nb, 0, none⟩).run Try.prog W = .ok (.agg x.cells.toArray) W := fun W hW =>
          (wr_loads HXO.out (rangeAt_chg (w := w''.drew) hr3 hn3 hW (by simp))).2.1
        have HP := Lib.hid (putd_any (HD3.out.chg ((Chg.refl [] w'').drew) (by simp)) x HXO.out)
        have HE1 := Lib.hid e1
        clear e1
        go_wp2_with fail
        refine wp_region_ordX [] 4 [(0, true), (1, true), (2, true), (3, true)] (by kernel_rfl) (by kernel_rfl) (by kernel_rfl) (by kernel_rfl) ?_
        repeat (first | ((refine wpOX_F rfl (by rfl) (fun w' hL => exec_load rfl rfl (HE1.out w' hL)) ?_); try simp only [Act.put, List.setIfInBounds_toArray, List.set_cons_zero, List.set_cons_succ]) | (refine wpOX_F (v := ?_) rfl (by rfl) (fun w' hL => ?_) ?_; rotate_left; (solve | (go_simp; with_reducible rfl) | go_simp); try simp only [Act.put, List.setIfInBounds_toArray, List.set_cons_zero, List.set_cons_succ]) | (refine wpOX_G (Chg.refl _) rfl (by rfl) ?_; try simp only [Act.put, List.setIfInBounds_toArray, List.set_cons_zero, List.set_cons_succ]))
        refine wpOX_end rfl (by rfl) ?_
        go_simp
        refine HP.out.mono ?_
        rintro e w4 ⟨rfl, hD4, h4⟩
        simp only [NoPanic, Act.put]
        have hFIN : Hid (DiskAt w4 B { d with dur := crashAt d.dur l d.pend (k + 1) } Mv Md (.slice (some ⟨g, 0, none⟩) m cap1)) := by
          rw [HD4.out]; exact hD4
        have hCHG : Hid (Chg [B, Md] w' w4) := HG3.out.trans (Chg.undrew h4)
        clear hD4 h4 HP HE1
        go_wp2
        go_roundw
        case rel => exact ⟨k + 1, by omega, by go_num, hFIN.out, hCHG.out⟩
        case measure => simp [intOf]; omega
      | false =>
        have HD4 : Hid (crashAt d.dur l d.pend (k + 1) = crashAt d.dur l d.pend k) := crashAt_no _ HX.out hsf
        clear hsf HKk
        have hFIN : Hid (DiskAt w'' B { d with dur := crashAt d.dur l d.pend (k + 1) } Mv Md (.slice (some ⟨g, 0, none⟩) m cap1)) := by
          rw [HD4.out]; exact HD3.out
        go_wp2
        go_roundw
        case rel => exact ⟨k + 1, by omega, by go_num, hFIN.out, HG3.out⟩
        case measure => simp [intOf]; omega
    · obtain rfl : k = m := by omega
      have hb := HD.out.blk
      have HC := Lib.hid (clone_cells wr B 5 Md _ _ _ _ _ (.inr rfl) hb HD.out.dur rfl rfl rfl)
      have hsz : w'.heap.size ≤ wr.heap.size := HG.out.size
      have HEQ : Hid (d.crash l = { { d with dur := crashAt d.dur l d.pend k } with vis := crashAt d.dur l d.pend k, pend := [], left := none, down := false }) := by
        unfold DS.crash crashAt
        have := HN.out
        rw [← this, List.take_length]
        rfl
      have hbl := hb.lt
      clear hb
      go_wp2_with fail
      refine HC.out.mono ?_
      rintro e w2 ⟨M', rfl, hM', hMA, hb2⟩
      have hend := crash_end HD.out hb2 hMA hM'
      have HE := Lib.hid hend
      have hbb := HD.out.blk.chg (Below.chg0 hb2 []) (by simp)
      have q2 := hbb.cell 2
      have q3 := hbb.cell 3
      have q4 := hbb.cell 4
      have q8 := hbb.cell 8
      have q10 := hbb.cell 10
      have q11 := hbb.cell 11
      have f2 := hbb.frozen 2
      have f3 := hbb.frozen 3
      have f4 := hbb.frozen 4
      have f8 := hbb.frozen 8
      have f10 := hbb.frozen 10
      have f11 := hbb.frozen 11
      unfold rowD at q2 q3 q4 q8 q10 q11
      simp only [List.getElem?_toArray, List.getElem?_cons_succ, List.getElem?_cons_zero] at q2 q3 q4 q8 q10 q11
      have hb2l : B < w2.heap.size := hbb.lt
      clear hend hbb HC
      go_wp2
      go_ret
      refine ⟨rfl, M', ?_, ?_, ?_⟩
      · rw [HEQ.out]; exact HE.out.1
      · exact (HG.out.sub (by simp [footD])).trans (HE.out.2.sub (by simp [footD]))
      · omega
end Go.Proofs.Ythfgjkmfabmipaa

/- The disk for what lies above: a footprint; a disk of a call's own. -/
set_option linter.unusedSimpArgs false
set_option linter.unusedVariables false
set_option maxRecDepth 100000
namespace Go.Proofs.Ythfgjkmfabmipaa
set_option linter.unusedSimpArgs false
open Go.RowKit

/-- What a method hands back that may change the disk. -/
def RetI (w : World) (B : Nat) (S : List Nat) (r : Nat × DS) (e : Ending) (w' : World) : Prop :=
  e = .returned (.int .i64 (r.1 : Int)) ∧ ∃ S', IsDisk w' B S' r.2 ∧ Chg S w w' ∧ Frsh w S S'

theorem RetD.toI {w w' : World} {B Mv Md : Nat} {pv : Value} {r : Nat × DS} {e : Ending} (h : RetD w B Mv Md pv r e w') : RetI w B (footD B Mv Md pv) r e w' := by
  obtain ⟨he, pv', hD, hc, hp⟩ := h
  refine ⟨he, _, ⟨Mv, Md, pv', hD, rfl⟩, hc, fun k hk => ?_⟩
  simp only [footD, List.mem_cons, Option.mem_toList] at hk ⊢
  rcases hk with hk | hk | hk | hk
  · exact .inl (.inl hk)
  · exact .inl (.inr (.inl hk))
  · exact .inl (.inr (.inr (.inl hk)))
  · rcases hp with hp | hp
    · rw [hp] at hk; exact .inl (.inr (.inr (.inr hk)))
    · exact .inr (hp k hk)
theorem RetCr.toI {w w' : World} {B Mv Md : Nat} {pv : Value} {d : DS} {e : Ending} (h : RetCr w B Mv Md pv d e w') : RetI w B (footD B Mv Md pv) (0, d) e w' := by
  obtain ⟨he, Mv', hD, hc, hp⟩ := h
  refine ⟨he, _, ⟨Mv', Md, _, hD, rfl⟩, hc, fun k hk => ?_⟩
  simp only [footD, List.mem_cons, Option.mem_toList, Value.ownBlock] at hk ⊢
  rcases hk with hk | hk | hk | hk
  · exact .inl (.inl hk)
  · exact .inr (by omega)
  · exact .inl (.inr (.inr (.inl hk)))
  · simp at hk

theorem DWrite {w : World} {B : Nat} {S : List Nat} {d : DS} (h : IsDisk w B S d) (f s : Int) (l : List Nat) (a : Option Addr) (n cap N : Nat) (hB : Bs N w a l) (hN : N ≤ w.heap.size) (hn : n = l.length) (hnm : n ≤ 1000000000000)
    (hcs : d.calls < 1000000000) (hwt : d.pend.length < 1000000000) :
    Calls Try.prog 72 #[.pointer (some ⟨B, 0, none⟩), .int .i64 f, .int .i64 s, .slice a n cap] w (RetI w B S (d.write f s l)) := by
  obtain ⟨Mv, Md, pv, h, rfl⟩ := h
  exact (Write_any h f s l a n cap N hB hN hn hnm hcs hwt).mono fun _ _ h => h.toI
theorem DSync {w : World} {B : Nat} {S : List Nat} {d : DS} (h : IsDisk w B S d) (f : Int) (hcs : d.calls < 1000000000) :
    Calls Try.prog 27 #[.pointer (some ⟨B, 0, none⟩), .int .i64 f] w (RetI w B S (d.sync f)) := by
  obtain ⟨Mv, Md, pv, h, rfl⟩ := h
  exact (Sync_any h f hcs).mono fun _ _ h => h.toI
theorem DCrash {w : World} {B : Nat} {S : List Nat} {d : DS} (h : IsDisk w B S d) (l : List Nat) (a : Option Addr) (n cap N : Nat) (hB : Bs N w a l) (hN : N ≤ w.heap.size) (hn : n = l.length) (hnm : n ≤ 1000000000000) :
    Calls Try.prog 28 #[.pointer (some ⟨B, 0, none⟩), .slice a n cap] w (RetI w B S (0, d.crash l)) := by
  obtain ⟨Mv, Md, pv, h, rfl⟩ := h
  exact (Crash_any h l a n cap N hB hN hn hnm).mono fun _ _ h => h.toI
def DS.fail (d : DS) (n : Int) : Nat × DS := if n < 0 then (1, d) else (0, { d with left := some n.toNat })
theorem DFail {w : World} {B : Nat} {S : List Nat} {d : DS} (h : IsDisk w B S d) (n : Int) (hn : n ≤ 9223372036854775807) :
    Calls Try.prog 29 #[.pointer (some ⟨B, 0, none⟩), .int .i64 n] w (RetI w B S (d.fail n)) := by
  obtain ⟨Mv, Md, pv, h, rfl⟩ := h
  unfold DS.fail
  by_cases hneg : n < 0
  · rw [if_pos hneg]
    refine (Fail_bad h n hneg).mono ?_
    rintro e w' ⟨rfl, rfl⟩
    exact ⟨rfl, _, ⟨Mv, Md, pv, h, rfl⟩, Chg.refl _ _, Frsh.refl _ _⟩
  · rw [if_neg hneg]
    obtain ⟨m, rfl⟩ : ∃ m : Nat, n = (m : Int) := ⟨n.toNat, by omega⟩
    refine (Fail_any h m (by omega)).mono ?_
    rintro e w' ⟨rfl, hD, hc⟩
    rw [Int.toNat_natCast]
    exact ⟨rfl, _, ⟨Mv, Md, pv, hD, rfl⟩, hc.sub (by simp [footD]), Frsh.refl _ _⟩
def DS.setQuota (d : DS) (q : Int) : Nat × DS := if isQuotaB q then (0, { d with quota := q.toNat }) else (1, d)
theorem DRead {w : World} {B : Nat} {S : List Nat} {d : DS} (h : IsDisk w B S d) (f s : Int) : Calls Try.prog 52 #[.pointer (some ⟨B, 0, none⟩), .int .i64 f, .int .i64 s] w (RetRead w (d.read f s)) := by
  obtain ⟨Mv, Md, pv, h, rfl⟩ := h
  exact Read_any h f s
theorem DLen {w : World} {B : Nat} {S : List Nat} {d : DS} (h : IsDisk w B S d) (f : Int) : Calls Try.prog 13 #[.pointer (some ⟨B, 0, none⟩), .int .i64 f] w fun e w' => e = .returned (.int .i64 (d.lenI f)) ∧ w' = w := by
  obtain ⟨Mv, Md, pv, h, rfl⟩ := h
  exact Len_any h f
theorem DWaits {w : World} {B : Nat} {S : List Nat} {d : DS} (h : IsDisk w B S d) : Calls Try.prog 11 #[.pointer (some ⟨B, 0, none⟩)] w fun e w' => e = .returned (.int .i64 (d.pend.length : Int)) ∧ w' = w := by
  obtain ⟨Mv, Md, pv, h, rfl⟩ := h
  exact Waits_any h
theorem DDown {w : World} {B : Nat} {S : List Nat} {d : DS} (h : IsDisk w B S d) : Calls Try.prog 59 #[.pointer (some ⟨B, 0, none⟩)] w fun e w' => e = .returned (.bool d.down) ∧ w' = w := by
  obtain ⟨Mv, Md, pv, h, rfl⟩ := h
  exact Down_any h

/-- In the world w, which grew out of w0, there is a disk in blocks that w0 had not. -/
def OwnD (w0 w : World) (B : Nat) (d : DS) : Prop := Below w0.heap.size w0 w ∧ ∃ S, IsDisk w B S d ∧ ∀ k ∈ S, w0.heap.size ≤ k

theorem OwnD.below {w0 w w' : World} {B : Nat} {d : DS} (h : OwnD w0 w B d) (hb : Below w.heap.size w w') : OwnD w0 w' B d := by
  obtain ⟨h1, S, h2, h3⟩ := h
  exact ⟨h1.trans (hb.mono h1.size), S, h2.chg (T := []) (Below.chg0 hb []) (by simp), h3⟩
theorem OwnD.step {w0 w w' : World} {B : Nat} {S : List Nat} {d : DS} {r : Nat × DS} {e : Ending} (h1 : Below w0.heap.size w0 w) (h3 : ∀ k ∈ S, w0.heap.size ≤ k) (h : RetI w B S r e w') : e = .returned (.int .i64 (r.1 : Int)) ∧ OwnD w0 w' B r.2 := by
  obtain ⟨he, S', hI, hc, hf⟩ := h
  refine ⟨he, h1.trans (hc.below h1.size h3), S', hI, fun k hk => ?_⟩
  rcases hf k hk with h | h
  · exact h3 k h
  · exact Nat.le_trans h1.size h
theorem OwnD.drew {w0 w : World} {B : Nat} {d : DS} (h : OwnD w0 w B d) : OwnD w0 w.drew B d := by
  obtain ⟨h1, S, h2, h3⟩ := h
  exact ⟨h1.drew, S, h2.drew, h3⟩

section
variable {w0 w : World} {B : Nat} {d : DS}
theorem OWrite (h : OwnD w0 w B d) (f s : Int) (l : List Nat) (a : Option Addr) (n cap N : Nat) (hB : Bs N w a l) (hN : N ≤ w.heap.size) (hn : n = l.length) (hnm : n ≤ 1000000000000) (hcs : d.calls < 1000000000) (hwt : d.pend.length < 1000000000) :
    Calls Try.prog 72 #[.pointer (some ⟨B, 0, none⟩), .int .i64 f, .int .i64 s, .slice a n cap] w fun e w' => e = .returned (.int .i64 ((d.write f s l).1 : Int)) ∧ OwnD w0 w' B (d.write f s l).2 := by
  obtain ⟨h1, S, h2, h3⟩ := h
  exact (DWrite h2 f s l a n cap N hB hN hn hnm hcs hwt).mono fun _ _ h => OwnD.step (d := d) h1 h3 h
theorem OSync (h : OwnD w0 w B d) (f : Int) (hcs : d.calls < 1000000000) :
    Calls Try.prog 27 #[.pointer (some ⟨B, 0, none⟩), .int .i64 f] w fun e w' => e = .returned (.int .i64 ((d.sync f).1 : Int)) ∧ OwnD w0 w' B (d.sync f).2 := by
  obtain ⟨h1, S, h2, h3⟩ := h
  exact (DSync h2 f hcs).mono fun _ _ h => OwnD.step (d := d) h1 h3 h
theorem OCrash (h : OwnD w0 w B d) (l : List Nat) (a : Option Addr) (n cap N : Nat) (hB : Bs N w a l) (hN : N ≤ w.heap.size) (hn : n = l.length) (hnm : n ≤ 1000000000000) :
    Calls Try.prog 28 #[.pointer (some ⟨B, 0, none⟩), .slice a n cap] w fun e w' => e = .returned (.int .i64 0) ∧ OwnD w0 w' B (d.crash l) := by
  obtain ⟨h1, S, h2, h3⟩ := h
  exact (DCrash h2 l a n cap N hB hN hn hnm).mono fun _ _ h => OwnD.step (d := d) h1 h3 h
theorem OFail (h : OwnD w0 w B d) (n : Int) (hn : n ≤ 9223372036854775807) :
    Calls Try.prog 29 #[.pointer (some ⟨B, 0, none⟩), .int .i64 n] w fun e w' => e = .returned (.int .i64 ((d.fail n).1 : Int)) ∧ OwnD w0 w' B (d.fail n).2 := by
  obtain ⟨h1, S, h2, h3⟩ := h
  exact (DFail h2 n hn).mono fun _ _ h => OwnD.step (d := d) h1 h3 h
theorem ORead (h : OwnD w0 w B d) (f s : Int) : Calls Try.prog 52 #[.pointer (some ⟨B, 0, none⟩), .int .i64 f, .int .i64 s] w (RetRead w (d.read f s)) := by
  obtain ⟨h1, S, h2, h3⟩ := h
  exact DRead h2 f s
theorem OLen (h : OwnD w0 w B d) (f : Int) : Calls Try.prog 13 #[.pointer (some ⟨B, 0, none⟩), .int .i64 f] w fun e w' => e = .returned (.int .i64 (d.lenI f)) ∧ w' = w := by
  obtain ⟨h1, S, h2, h3⟩ := h
  exact DLen h2 f
theorem OWaits (h : OwnD w0 w B d) : Calls Try.prog 11 #[.pointer (some ⟨B, 0, none⟩)] w fun e w' => e = .returned (.int .i64 (d.pend.length : Int)) ∧ w' = w := by
  obtain ⟨h1, S, h2, h3⟩ := h
  exact DWaits h2
theorem ONew (q : Int) (hq : isQuotaB q = true) (w0 w : World) (h0 : Below w0.heap.size w0 w) :
    Calls Try.prog 7 #[.int .i64 q] w fun e w' => ∃ B, e = .returned (.tuple #[.pointer (some ⟨B, 0, none⟩), .int .i64 0]) ∧ OwnD w0 w' B (DS.new q.toNat) := by
  refine (New_any q w).mono ?_
  rintro e w' ⟨hb, ⟨hq', _⟩ | ⟨_, B, Mv, Md, rfl, hD, hf⟩⟩
  · rw [hq] at hq'; cases hq'
  · exact ⟨B, rfl, h0.trans (hb.mono h0.size), _, ⟨Mv, Md, _, hD, rfl⟩, fun k hk => Nat.le_trans h0.size (hf k hk)⟩
end
end Go.Proofs.Ythfgjkmfabmipaa

/- Full: a sector of one byte. -/
set_option linter.unusedSimpArgs false
set_option linter.unusedVariables false
set_option maxRecDepth 100000
namespace Go.Proofs.Ythfgjkmfabmipaa
set_option linter.unusedSimpArgs false
open Go.RowKit

/-- A row of m bytes of which the first i are c. -/
def fillA (m c i : Nat) : Array Value := (List.replicate i (Value.int .u8 (c : Int)) ++ List.replicate (m - i) (Value.int .u8 0)).toArray
theorem fillA_zero (m c : Nat) : madeCells #[.int .u8 0] m = fillA m c 0 := by
  apply Array.toList_inj.1
  rw [toList_madeCells_one]
  simp [fillA]
theorem fillA_get {m c i : Nat} (h : i < m) : (fillA m c i)[i]? = some (.int .u8 0) := by
  unfold fillA
  rw [List.getElem?_toArray, List.getElem?_append_right (by simp), List.length_replicate, Nat.sub_self, List.getElem?_replicate, if_pos (by omega)]
theorem fillA_set {m c i : Nat} (h : i < m) : (fillA m c i).setIfInBounds i (.int .u8 (c : Int)) = fillA m c (i + 1) := by
  unfold fillA
  rw [List.setIfInBounds_toArray]
  congr 1
  apply List.ext_getElem?
  intro j
  rw [List.getElem?_set]
  by_cases hj : i = j
  · subst hj
    rw [if_pos rfl, if_pos (by simp; omega), List.getElem?_append_left (by simp), List.getElem?_replicate, if_pos (by omega)]
  · rw [if_neg hj]
    by_cases h1 : j < i
    · rw [List.getElem?_append_left (by simpa using h1), List.getElem?_append_left (by simp; omega), List.getElem?_replicate, List.getElem?_replicate, if_pos h1, if_pos (by omega)]
    · rw [List.getElem?_append_right (by simp; omega), List.getElem?_append_right (by simp; omega), List.length_replicate, List.length_replicate, List.getElem?_replicate, List.getElem?_replicate]
      by_cases h2 : j < m
      · rw [if_pos (by omega), if_pos (by omega)]
      · rw [if_neg (by omega), if_neg (by omega)]
theorem fillA_full (m c : Nat) : fillA m c m = ((List.replicate m c).map fun (c : Nat) => Value.int .u8 (c : Int)).toArray := by
  unfold fillA
  simp

def fullLen (n : Int) : Nat := if 0 < n ∧ n < 200 then n.toNat else 128
theorem fullLen_le (n : Int) : fullLen n ≤ 199 := by unfold fullLen; split <;> omega

/-- A row of bytes that is the call's own, behind which all is as it was. -/
def RetRow (w : World) (l : List Nat) (e : Ending) (w' : World) : Prop :=
  ∃ g, e = .returned (.slice (some ⟨g, 0, none⟩) l.length l.length) ∧ w.heap.size ≤ g ∧ Below w.heap.size w w' ∧ Blk w' g 5 (l.map fun (c : Nat) => Value.int .u8 (c : Int)).toArray

theorem Blk.bs {w : World} {g : Nat} {T : TypeId} {l : List Nat} (h : Blk w g T (l.map fun (c : Nat) => Value.int .u8 (c : Int)).toArray) (hl : ∀ c ∈ l, c < 256) : Bs w.heap.size w (some ⟨g, 0, none⟩) l :=
  ⟨hl, .inr ⟨g, 0, rfl, h.lt, fun i c hi => by rw [Nat.zero_add, h.cell]; simp [hi]⟩⟩

set_option maxRecDepth 100000 in
set_option maxHeartbeats 4000000 in
theorem Full_any (c : Nat) (hc : c < 256) (n : Int) (w : World) :
    Calls Try.prog 73 #[.int .u8 (c : Int), .int .i64 n] w (RetRow w (List.replicate (fullLen n) c)) := by
  have hle := fullLen_le n
  obtain ⟨m, hm⟩ : ∃ m, fullLen n = m := ⟨_, rfl⟩
  have hmk : ∀ V : World, (Instr.makeSlice 30 (.int .i64 (m : Int)) (.int .i64 (m : Int))).run Try.prog V = .ok (.slice (some ⟨V.heap.size, 0, none⟩) m m) (V.alloc (.cells (fillA m c 0) 5)) := by
    intro V
    have := run_make_row' (P := Try.prog) 30 5 (.int .u8 0) 1 Try.underlying30 (by kernel_rfl) rfl .i64 .i64 m (by omega) (by omega) V
    rw [fillA_zero m c] at this
    simpa using this
  have hways : (decide (0 < n) = true ∧ decide (n < 200) = true ∧ n = (m : Int)) ∨ (decide (0 < n) = true ∧ decide (n < 200) = false ∧ m = 128) ∨ (decide (0 < n) = false ∧ m = 128) := by
    unfold fullLen at hm
    simp only [decide_eq_true_eq, decide_eq_false_iff_not]
    split at hm <;> omega
  have HF : Hid (∀ W : World, Blk W w.heap.size 5 (fillA m c m) → Below w.heap.size w W → RetRow w (List.replicate (fullLen n) c) (.returned (.slice (some ⟨w.heap.size, 0, none⟩) m m)) W) := fun W h1 h2 => by
    refine ⟨w.heap.size, by simp [hm], Nat.le_refl _, h2, ?_⟩
    rw [hm, ← fillA_full]; exact h1
  have hsz : (w.alloc (.cells (fillA m c 0) 5)).heap.size = w.heap.size + 1 := by simp
  rw [hm] at hle
  have HA := Lib.hid (And.intro (Blk.new w 5 (fillA m c 0)) ((Below.refl w.heap.size w).alloc (Nat.le_refl _) (.cells (fillA m c 0) 5)))
  generalize RetRow w (List.replicate (fullLen n) c) = R at *
  clear hm
  rcases hways with ⟨q1, q2, hn⟩ | ⟨q1, q2, rfl⟩ | ⟨q1, rfl⟩
  · have hmk2 : ∀ V : World, (Instr.makeSlice 30 (.int .i64 n) (.int .i64 n)).run Try.prog V = .ok (.slice (some ⟨V.heap.size, 0, none⟩) m m) (V.alloc (.cells (fillA m c 0) 5)) := by rw [hn]; exact hmk
    clear hmk hn
    go_enter Try.func73, Try.ntmps73
    go_wp2
    go_loopw [7] (fun iv wr => ∃ i : Nat, i ≤ m ∧ iv = .int .i64 i ∧ Hid (Blk wr w.heap.size 5 (fillA m c i)) ∧ Below w.heap.size w wr) (fun iv _ => m - (intOf iv).toNat)
    case atStart => exact ⟨0, by omega, rfl, HA.out.1, HA.out.2⟩
    case round =>
      obtain ⟨i, hi, rfl, HB, hb⟩ := hrel
      by_cases hlt : i < m
      · have e1 := (HB.out.cell i).trans (fillA_get hlt)
        have e2 := HB.out.frozen i
        have e3 := HB.out.lt
        have HN := HB.out.set_ i (.int .u8 (c : Int))
        rw [fillA_set hlt] at HN
        have HN := Lib.hid HN
        have HBN : Hid (Below w.heap.size w (wr.setCell ⟨w.heap.size, i, none⟩ (.int .u8 (c : Int)))) := hb.setCell (Nat.le_refl _) _
        go_wp2
        go_roundw
        case rel => exact ⟨i + 1, by omega, by go_num, HN.out, HBN.out⟩
        case measure => simp [intOf]; omega
      · obtain rfl : i = m := by omega
        go_wp2
        exact HF.out _ HB.out hb
  · replace hmk : ∀ V : World, (Instr.makeSlice 30 (.int .i64 128) (.int .i64 128)).run Try.prog V = .ok (.slice (some ⟨V.heap.size, 0, none⟩) 128 128) (V.alloc (.cells (fillA 128 c 0) 5)) := hmk
    go_enter Try.func73, Try.ntmps73
    go_wp2
    go_loopw [7] (fun iv wr => ∃ i : Nat, i ≤ 128 ∧ iv = .int .i64 i ∧ Hid (Blk wr w.heap.size 5 (fillA 128 c i)) ∧ Below w.heap.size w wr) (fun iv _ => 128 - (intOf iv).toNat)
    case atStart => exact ⟨0, by omega, rfl, HA.out.1, HA.out.2⟩
    case round =>
      obtain ⟨i, hi, rfl, HB, hb⟩ := hrel
      by_cases hlt : i < 128
      · have e1 := (HB.out.cell i).trans (fillA_get hlt)
        have e2 := HB.out.frozen i
        have e3 := HB.out.lt
        have HN := HB.out.set_ i (.int .u8 (c : Int))
        rw [fillA_set hlt] at HN
        have HN := Lib.hid HN
        have HBN : Hid (Below w.heap.size w (wr.setCell ⟨w.heap.size, i, none⟩ (.int .u8 (c : Int)))) := hb.setCell (Nat.le_refl _) _
        go_wp2
        go_roundw
        case rel => exact ⟨i + 1, by omega, by go_num, HN.out, HBN.out⟩
        case measure => simp [intOf]; omega
      · obtain rfl : i = 128 := by omega
        go_wp2
        exact HF.out _ HB.out hb
  · replace hmk : ∀ V : World, (Instr.makeSlice 30 (.int .i64 128) (.int .i64 128)).run Try.prog V = .ok (.slice (some ⟨V.heap.size, 0, none⟩) 128 128) (V.alloc (.cells (fillA 128 c 0) 5)) := hmk
    go_enter Try.func73, Try.ntmps73
    go_wp2
    go_loopw [7] (fun iv wr => ∃ i : Nat, i ≤ 128 ∧ iv = .int .i64 i ∧ Hid (Blk wr w.heap.size 5 (fillA 128 c i)) ∧ Below w.heap.size w wr) (fun iv _ => 128 - (intOf iv).toNat)
    case atStart => exact ⟨0, by omega, rfl, HA.out.1, HA.out.2⟩
    case round =>
      obtain ⟨i, hi, rfl, HB, hb⟩ := hrel
      by_cases hlt : i < 128
      · have e1 := (HB.out.cell i).trans (fillA_get hlt)
        have e2 := HB.out.frozen i
        have e3 := HB.out.lt
        have HN := HB.out.set_ i (.int .u8 (c : Int))
        rw [fillA_set hlt] at HN
        have HN := Lib.hid HN
        have HBN : Hid (Below w.heap.size w (wr.setCell ⟨w.heap.size, i, none⟩ (.int .u8 (c : Int)))) := hb.setCell (Nat.le_refl _) _
        go_wp2
        go_roundw
        case rel => exact ⟨i + 1, by omega, by go_num, HN.out, HBN.out⟩
        case measure => simp [intOf]; omega
      · obtain rfl : i = 128 := by omega
        go_wp2
        exact HF.out _ HB.out hb
end Go.Proofs.Ythfgjkmfabmipaa
