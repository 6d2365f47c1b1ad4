/- Several texts of one proof, one behind the other. -/
import Derived.Test.YtialpfdhdcjpaaaSPk16
set_option linter.unusedSimpArgs false
set_option linter.unusedVariables false

/- The walk of hindsightlaw15.Great. -/
set_option linter.unusedSimpArgs false
set_option linter.unusedVariables false
set_option maxRecDepth 100000
namespace Go.Proofs.Ytialpfdhdcjpaaa
open Go.RowKit

/-- Too much for a statement. -/
def greatT (t : Tb) : Bool := t.cols.any (fun c => decide (40 < t.cols.length) || decide (100 < c.nm.size)) || (decide (40 < t.key.length) || (decide (100 < t.name.size) || decide (100 < t.per.size)))
theorem TbIn.at_ {w : World} {t : Tb} {m : TM} (h : TbIn w t m) (hg : greatT t = false) : TAt w t m := by
  unfold greatT at hg
  simp only [Bool.or_eq_false_iff, List.any_eq_false, decide_eq_false_iff_not, Bool.or_eq_true, decide_eq_true_eq, not_or] at hg
  obtain ⟨h1, h2, h3, h4⟩ := hg
  have hcl : t.cols.length ≤ 40 := by
    by_cases h0 : t.cols.length = 0
    · omega
    · have := (h1 _ (List.getElem_mem (show 0 < t.cols.length by omega))).1
      omega
  exact ⟨h.hc, h.hk, h.ccap, h.kcap, h.carr, h.karr, ⟨by omega, by omega, by omega, by omega, h.fr, h.tt, fun c hc => ⟨by have := (h1 c hc).2; omega, (h.cfair c hc).2⟩, h.kfair⟩⟩

theorem any_take_succ {α : Type} (p : α → Bool) (l : List α) (k : Nat) (h : k < l.length) : (l.take (k + 1)).any p = ((l.take k).any p || p l[k]) := by
  rw [List.take_succ_eq_append_getElem h, List.any_append]; simp
theorem any_hit {α : Type} (p : α → Bool) (l : List α) (k : Nat) (h : k < l.length) (hk : p l[k] = true) : l.any p = true := List.any_eq_true.2 ⟨_, List.getElem_mem h, hk⟩

set_option maxHeartbeats 4000000 in
theorem great15_any (t : Tb) (m : TM) (w : World) (h : TbIn w t m) :
    Calls Try.prog 8 #[m.v t] w fun e w' => e = .returned (.bool (greatT t)) ∧ Below w.heap.size w w' := by
  have hcm := h.cmax
  have hkm := h.kmax
  have hcl := h.hc
  have hkl := h.hk
  have HCol := Lib.hid h.carr
  have HCF := Lib.hid (fun c hc => (h.cfair c hc).1)
  have hnm := h.nm
  have hper := h.per
  obtain ⟨ca, cl, cc, ka, kl, kc⟩ := m
  dsimp only at hcm hkm hcl hkl HCol
  subst hcl hkl
  have HB0 : Hid (Below w.heap.size w (w.alloc (.cells (TM.cs ⟨ca, t.cols.length, cc, ka, t.key.length, kc⟩ t) 25))) := (Below.refl _ w).alloc (Nat.le_refl _) _
  obtain ⟨G, hG⟩ : ∃ G, greatT t = G := ⟨_, rfl⟩
  rw [hG]
  have HG := Lib.hid hG
  obtain ⟨p, hp⟩ : ∃ p : Col → Bool, (fun c => decide (40 < t.cols.length) || decide (100 < c.nm.size)) = p := ⟨_, rfl⟩
  have HT : Hid (t.cols.any p = true → G = true) := fun h1 => by rw [← HG.out]; unfold greatT; rw [hp, h1]; rfl
  have HE : Hid (t.cols.any p = false → G = (decide (40 < t.key.length) || (decide (100 < t.name.size) || decide (100 < t.per.size)))) := fun h1 => by rw [← HG.out]; unfold greatT; rw [hp, h1]; rfl
  have HP : Hid (∀ c, p c = (decide (40 < t.cols.length) || decide (100 < c.nm.size))) := fun c => by rw [← hp]
  clear h hG HG hp
  go_enter Try.func8, Try.ntmps8
  go_wp2
  go_loop [3] (fun i => ∃ k : Nat, k ≤ t.cols.length ∧ i = .int .i64 k ∧ Hid ((t.cols.take k).any p = false)) (fun i => t.cols.length - (intOf i).toNat)
  case atStart => exact ⟨0, by omega, rfl, by simp [Hid]⟩
  case round =>
    obtain ⟨k, hk, rfl, HI⟩ := hrel
    by_cases hlt : k < t.cols.length
    · obtain ⟨b, o, rfl, hbN, c0, -, -⟩ := colAt HCol.out hlt
      replace c0 := (HB0.out.cell (p := ⟨b, o + k * 3, none⟩) hbN).trans c0
      have hcf := HCF.out _ (List.getElem_mem hlt)
      have HHit : Hid (p t.cols[k] = true → G = true) := fun h1 => HT.out (any_hit p t.cols k hlt h1)
      have HNx : Hid (p t.cols[k] = false → (t.cols.take (k + 1)).any p = false) := fun h1 => by rw [any_take_succ p t.cols k hlt, HI.out, h1]; rfl
      rw [HP.out t.cols[k]] at HHit HNx
      obtain ⟨x, hx⟩ : ∃ x, x = t.cols[k].nm := ⟨_, rfl⟩
      rw [← hx] at c0 hcf HHit HNx
      clear hx hbN HI
      by_cases h40 : 40 < t.cols.length
      · have HA := Lib.hid (HHit.out (by rw [decide_eq_true h40]; rfl))
        clear HHit HNx
        go_wp2
        go_ret
        exact ⟨ret_b HA.out.symm, HB0.out⟩
      · have q40 : decide ((40 : Int) < (t.cols.length : Int)) = false := by simp; omega
        by_cases h100 : 100 < x.size
        · have HA := Lib.hid (HHit.out (by rw [decide_eq_true h100]; simp))
          clear HHit HNx
          go_wp2
          go_ret
          exact ⟨ret_b HA.out.symm, HB0.out⟩
        · have q100 : decide ((100 : Int) < (x.size : Int)) = false := by simp; omega
          have HA := Lib.hid (HNx.out (by rw [decide_eq_false h40, decide_eq_false h100]; rfl))
          clear HHit HNx
          go_wp2
          go_round
          case rel => exact ⟨k + 1, by omega, by go_num, HA⟩
          case measure => simp [intOf]; omega
    · have hA := HE.out (by have := HI.out; rwa [List.take_of_length_le (by omega)] at this)
      obtain ⟨g1, hg1⟩ : ∃ g, decide (40 < t.key.length) = g := ⟨_, rfl⟩
      obtain ⟨g2, hg2⟩ : ∃ g, decide (100 < t.name.size) = g := ⟨_, rfl⟩
      obtain ⟨g3, hg3⟩ : ∃ g, decide (100 < t.per.size) = g := ⟨_, rfl⟩
      rw [hg1, hg2, hg3] at hA
      have q1 : decide ((40 : Int) < (t.key.length : Int)) = g1 := by rw [← hg1, Bool.eq_iff_iff]; simp; omega
      have q2 : decide ((100 : Int) < (t.name.size : Int)) = g2 := by rw [← hg2, Bool.eq_iff_iff]; simp; omega
      have q3 : decide ((100 : Int) < (t.per.size : Int)) = g3 := by rw [← hg3, Bool.eq_iff_iff]; simp; omega
      have HA := Lib.hid hA
      clear hA hg1 hg2 hg3 HI HT HE
      cases g1 with
      | true =>
        go_wp2
        go_ret
        exact ⟨ret_b (by rw [HA.out]; rfl), HB0.out⟩
      | false =>
        cases g2 with
        | true =>
          go_wp2
          go_ret
          exact ⟨ret_b (by rw [HA.out]; rfl), HB0.out⟩
        | false =>
          go_wp2
          go_ret
          exact ⟨ret_b (by rw [HA.out]; rfl), HB0.out⟩
end Go.Proofs.Ytialpfdhdcjpaaa

/- The walk of hindsightlaw15.As. -/
set_option linter.unusedSimpArgs false
set_option linter.unusedVariables false
set_option maxRecDepth 100000
namespace Go.Proofs.Ytialpfdhdcjpaaa
open Go.RowKit

theorem info_colR : (Try.prog.info? 69).map (fun i => (i.zero, i.size, i.bytes)) = some (some (.agg #[.string ⟨#[]⟩, .int .u8 0, .bool false]), 3, 24) := by kernel_rfl
theorem infoRT : (Try.prog.info? 30).map (·.size) = some 8 := by kernel_rfl

/-- 'As' is at work. -/
structure AsIn (w W : World) (m : TM) (t : Tb) (cv : Value) (k : Nat) : Prop where
  out : Blk W (w.heap.size + 2) 30 (t.cs cv (.slice m.ka m.kl m.kc))
  row : W.ownsRow (w.heap.size + 3) 69 3 cv k (cellsO (t.cols.take k))
  tab : TBox W w.heap.size m t
  res : Blk W (w.heap.size + 1) 30 zeroTc
  bel : Below w.heap.size w W
theorem AsIn.new (w : World) (m : TM) (t : Tb) : AsIn w (((w.alloc (.cells (m.cs t) 25)).alloc (.cells zeroTc 30)).alloc (.cells (Tb.cs t (.slice none 0 0) (.slice m.ka m.kl m.kc)) 30)) m t (.slice none 0 0) 0 := by
  have e1 : (w.alloc (.cells (m.cs t) 25)).heap.size = w.heap.size + 1 := by simp
  have e2 : ((w.alloc (.cells (m.cs t) 25)).alloc (.cells zeroTc 30)).heap.size = w.heap.size + 2 := by simp
  refine ⟨?_, World.ownsRow_nil _ _ _ _, ?_, ?_, (((Below.refl _ w).alloc (Nat.le_refl _) _).alloc (by simp) _).alloc (by simp; omega) _⟩
  · have := Blk.new ((w.alloc (.cells (m.cs t) 25)).alloc (.cells zeroTc 30)) 30 (t.cs (.slice none 0 0) (.slice m.ka m.kl m.kc))
    rw [e2] at this; exact this
  · exact (TBox.new w m t _).later (N := w.heap.size + 1) (by omega) (((Below.refl _ _).alloc (by simp) _).alloc (by simp) _)
  · have := (Blk.new (w.alloc (.cells (m.cs t) 25)) 30 zeroTc).alloc (.cells (t.cs (.slice none 0 0) (.slice m.ka m.kl m.kc)) 30)
    rw [e1] at this; exact this
theorem AsIn.rowC {w W : World} {m : TM} {t : Tb} {cv : Value} {k : Nat} (h : AsIn w W m t cv k) {g : Nat} (hg : cv.ownBlock = some g) : w.heap.size + 2 < g := (h.row.lt g hg).1
theorem AsIn.drew {w W : World} {m : TM} {t : Tb} {cv : Value} {k : Nat} (h : AsIn w W m t cv k) : AsIn w W.drew m t cv k := ⟨h.out, h.row, ⟨h.tab.c0, h.tab.c1, h.tab.c2, h.tab.c3, h.tab.c4, h.tab.c5, h.tab.c6, h.tab.c7⟩, h.res, h.bel.drew⟩
theorem AsIn.add {w W W' : World} {m : TM} {t : Tb} {cv cv' : Value} {k : Nat} {T0 : TypeId} {cs : Array Value} (h : AsIn w W m t cv k) (hr : W'.ownsRow (w.heap.size + 3) 69 3 cv' (k + 1) (cellsO (t.cols.take (k + 1)))) (hc : Chg cv.ownBlock.toList (W.alloc (.cells cs T0)) W') :
    AsIn w (W'.setCell ⟨w.heap.size + 2, 1, none⟩ cv') m t cv' (k + 1) := by
  have hc0 : Chg cv.ownBlock.toList W W' := ((Chg.refl _ _).alloc _).trans hc
  have hgt : ∀ g ∈ cv.ownBlock.toList, w.heap.size + 2 < g := fun g hm => by rw [Option.mem_toList] at hm; exact h.rowC hm
  have hcS : Chg [w.heap.size + 2] W' (W'.setCell ⟨w.heap.size + 2, 1, none⟩ cv') := (Chg.refl _ _).setCell (.inl (by simp)) _
  have hlt := h.out.lt
  have hsz := hc0.size
  have hall : Below (w.heap.size + 2) W (W'.setCell ⟨w.heap.size + 2, 1, none⟩ cv') := (hc0.below (by omega) (fun g hm => by have := hgt g hm; omega)).trans (hcS.below (by omega) (by simp))
  exact ⟨(h.out.chg hc0 (fun hm => by have := hgt _ hm; omega)).set_ 1 cv', own_chg hr hcS (fun g hg => by have := (hr.lt g hg).1; simp; omega), h.tab.later (by omega) hall, (hall.block _ (by omega)).trans h.res, h.bel.trans (hall.mono (by omega))⟩

set_option maxHeartbeats 4000000 in
theorem as15_any (t : Tb) (m : TM) (w : World) (h : TAt w t m) :
    Calls Try.prog 10 #[m.v t] w fun e w' => ∃ n : TM, e = .returned (.agg #[.string t.name, .slice n.ca n.cl n.cc, .slice n.ka n.kl n.kc, .string t.per, .int .i64 t.fr, .int .i64 t.tt, .bool t.apart, .bool t.vers]) ∧ TAt w' t n ∧ (n.ka = m.ka ∧ n.kl = m.kl ∧ n.kc = m.kc ∧ n.cl = t.cols.length ∧ w'.ownsRow w.heap.size 69 3 (.slice n.ca n.cl n.cc) n.cl (cellsO t.cols)) ∧ Below w.heap.size w w' := by
  obtain ⟨iC, hiC, hzC, hsC, hbC⟩ := info_parts info_colR
  have HI0 := Lib.hid (AsIn.new w m t)
  have HTA := Lib.hid h
  have HCol := Lib.hid h.carr
  have hcl := h.hc
  have hcm := h.cmax
  obtain ⟨ca, cl, cc, ka, kl, kc⟩ := m
  dsimp only at hcl HCol hcm
  subst hcl
  clear h
  go_enter Try.func10, Try.ntmps10
  go_wp2_with fail
  go_loopw [4] (fun i wr => ∃ (k : Nat) (cv : Value), k ≤ t.cols.length ∧ i = .int .i64 k ∧ Hid (AsIn w wr ⟨ca, t.cols.length, cc, ka, kl, kc⟩ t cv k)) (fun i _ => t.cols.length - (intOf i).toNat)
  case atStart => exact ⟨0, _, by omega, rfl, HI0⟩
  case round =>
    clear HI0
    obtain ⟨k, cv, hk, rfl, HI⟩ := hrel
    have x1 := HI.out.tab.c1
    dsimp only at x1
    by_cases hlt : k < t.cols.length
    · obtain ⟨b, o, rfl, hbN, c0, c1, c2⟩ := colAt HCol.out hlt
      have hTlt := HI.out.out.lt
      have hTS : w.heap.size + 2 ∉ cv.ownBlock.toList := by
        intro hm; rw [Option.mem_toList] at hm
        have := HI.out.rowC hm; omega
      have hBS : w.heap.size ∉ cv.ownBlock.toList := by
        intro hm; rw [Option.mem_toList] at hm
        have := HI.out.rowC hm; omega
      have hbS : b ∉ cv.ownBlock.toList := by
        intro hm; rw [Option.mem_toList] at hm
        have := HI.out.rowC hm; omega
      have HSn : Hid (cellsO (t.cols.take (k + 1)) = cellsO (t.cols.take k) ++ [.string t.cols[k].nm, .int .u8 (t.cols[k].kd : Int), .bool t.cols[k].nn]) := by
        show _ = _
        rw [List.take_succ_eq_append_getElem hlt]; exact cellsOf_snoc _ _ _
      have e0 : ∀ W, Chg cv.ownBlock.toList wr.drew W → W.cell? ⟨w.heap.size + 2, 1, none⟩ = some cv := fun W hW => (hW.cell (b := w.heap.size + 2) hTlt hTS).trans ((HI.out.out.cell 1).trans rfl)
      have e1 : ∀ W, Chg cv.ownBlock.toList wr.drew W → W.cell? ⟨w.heap.size, 1, none⟩ = some (.slice (some ⟨b, o, none⟩) t.cols.length cc) := fun W hW => (hW.cell (b := w.heap.size) (by show w.heap.size < wr.heap.size; omega) hBS).trans x1
      have d0 : ∀ W, Chg cv.ownBlock.toList wr.drew W → W.cell? ⟨b, o + k * 3, none⟩ = some (.string t.cols[k].nm) := fun W hW => (hW.cell (b := b) (by show b < wr.heap.size; omega) hbS).trans ((HI.out.bel.cell (p := ⟨b, o + k * 3, none⟩) hbN).trans c0)
      have d1 : ∀ W, Chg cv.ownBlock.toList wr.drew W → W.cell? ⟨b, o + k * 3 + 1, none⟩ = some (.int .u8 (t.cols[k].kd : Int)) := fun W hW => (hW.cell (b := b) (by show b < wr.heap.size; omega) hbS).trans ((HI.out.bel.cell (p := ⟨b, o + k * 3 + 1, none⟩) hbN).trans c1)
      have d2 : ∀ W, Chg cv.ownBlock.toList wr.drew W → W.cell? ⟨b, o + k * 3 + 2, none⟩ = some (.bool t.cols[k].nn) := fun W hW => (hW.cell (b := b) (by show b < wr.heap.size; omega) hbS).trans ((HI.out.bel.cell (p := ⟨b, o + k * 3 + 2, none⟩) hbN).trans c2)
      generalize t.cols[k].nm = nm at *
      generalize t.cols[k].kd = kd at *
      generalize t.cols[k].nn = nn at *
      clear c0 c1 c2 hbN hBS hbS
      go_wp2_with fail
      clear x1
      refine wp_region_ordX cv.ownBlock.toList 24 [(0, true), (1, true), (2, true), (3, true), (4, true), (5, true), (6, true), (7, true), (8, true), (9, true), (10, true), (11, true), (12, true), (13, true), (14, true), (15, true), (16, true), (17, true), (18, true), (19, true), (20, true), (21, false), (22, false), (23, true)] (by kernel_rfl) (by kernel_rfl) (by kernel_rfl) (by kernel_rfl) ?_
      repeat (first | ((refine wpOX_F rfl (by rfl) (fun w' hL => exec_load rfl rfl (e0 w' hL)) ?_); try simp only [Act.put, List.setIfInBounds_toArray, List.set_cons_zero, List.set_cons_succ]) | ((refine wpOX_F rfl (by rfl) (fun w' hL => exec_load rfl rfl (e1 w' hL)) ?_); try simp only [Act.put, List.setIfInBounds_toArray, List.set_cons_zero, List.set_cons_succ]) | ((refine wpOX_F rfl (by rfl) (fun w' hL => exec_load rfl rfl (d0 w' hL)) ?_); try simp only [Act.put, List.setIfInBounds_toArray, List.set_cons_zero, List.set_cons_succ]) | ((refine wpOX_F rfl (by rfl) (fun w' hL => exec_load rfl rfl (d1 w' hL)) ?_); try simp only [Act.put, List.setIfInBounds_toArray, List.set_cons_zero, List.set_cons_succ]) | ((refine wpOX_F rfl (by rfl) (fun w' hL => exec_load rfl rfl (d2 w' hL)) ?_); try simp only [Act.put, List.setIfInBounds_toArray, List.set_cons_zero, List.set_cons_succ]) | (refine wpOX_F (v := ?_) rfl (by rfl) (fun w' hL => ?_) ?_; rotate_left; (solve | (go_simp; with_reducible rfl) | go_simp); try simp only [Act.put, List.setIfInBounds_toArray, List.set_cons_zero, List.set_cons_succ]) | (refine wpOX_G (Chg.refl _) rfl (by rfl) ?_; try simp only [Act.put, List.setIfInBounds_toArray, List.set_cons_zero, List.set_cons_succ]))
      refine wpOX_C rfl (by rfl) ?_
      go_simp
      refine ⟨(Chg.refl _ _).alloc _, ?_⟩
      try simp only [Act.put, List.setIfInBounds_toArray, List.set_cons_zero, List.set_cons_succ]
      have hr2 : wr.drew.ownsRow (w.heap.size + 3) 69 3 cv k (cellsO (t.cols.take k)) := HI.out.row
      have hbs : w.heap.size + 3 ≤ wr.drew.heap.size := HI.out.out.lt
      refine wpOX_C rfl (by rfl) ?_
      refine wp_appC (.tmp 28) (.tmp 48) 28 rfl (w.heap.size + 3) 69 iC (.agg #[.string ⟨#[]⟩, .int .u8 0, .bool false]) 3 24 Try.underlying28 hiC hzC rfl hsC (by omega) hbC (by omega) cv k _ [.string nm, .int .u8 (kd : Int), .bool nn] wr.drew hr2 rfl _ rfl rfl (by simp [Value.oneCell']) rfl (by omega) hbs ?_
      intro cv2 x4 hr4 hc4 hsz4
      refine ⟨hc4, ?_⟩
      try simp only [Act.put, List.setIfInBounds_toArray, List.set_cons_zero, List.set_cons_succ]
      obtain ⟨ac2, cc2, hcv2, -, -, -⟩ := own_slice hr4
      rw [← HSn.out] at hr4
      have hN := HI.out.drew.add hr4 hc4
      have htb := HI.out.drew.out.chg (((Chg.refl _ _).alloc _).trans hc4) hTS
      have pc := (htb.cell 1).trans rfl
      have pf := htb.frozen 1
      have pl := htb.lt
      have HN2 := Lib.hid hN
      generalize k + 1 = kk at hcv2
      subst hcv2
      clear hN htb hr4 hc4 hr2 e0 e1 d0 d1 d2 HI hTS hTlt
      repeat (first | (refine wpOX_F (v := ?_) rfl (by rfl) (fun w' hL => ?_) ?_; rotate_left; (solve | (go_simp; with_reducible rfl) | go_simp); try simp only [Act.put, List.setIfInBounds_toArray, List.set_cons_zero, List.set_cons_succ]) | (refine wpOX_G (Chg.refl _) rfl (by rfl) ?_; try simp only [Act.put, List.setIfInBounds_toArray, List.set_cons_zero, List.set_cons_succ]))
      refine wpOX_end rfl (by rfl) ?_
      go_simp
      simp only [NoPanic]
      go_wp2
      go_roundw
      case rel => exact ⟨k + 1, Value.slice ac2 kk cc2, by omega, by go_num, HN2⟩
      case measure => simp [intOf]; omega
    · have hke : k = t.cols.length := by omega
      subst hke
      have hrow := HI.out.row
      rw [List.take_length] at hrow
      obtain ⟨ac, acc, hcv, hac, -, hA⟩ := own_slice hrow
      subst hcv
      have y0 := (HI.out.out.cell 0).trans rfl
      have y1 := (HI.out.out.cell 1).trans rfl
      have y2 := (HI.out.out.cell 2).trans rfl
      have y3 := (HI.out.out.cell 3).trans rfl
      have y4 := (HI.out.out.cell 4).trans rfl
      have y5 := (HI.out.out.cell 5).trans rfl
      have y6 := (HI.out.out.cell 6).trans rfl
      have y7 := (HI.out.out.cell 7).trans rfl
      have HS : Hid ((storeVar 30 ⟨w.heap.size + 1, 0, none⟩ (.agg (t.cs (.slice ac t.cols.length acc) (.slice ka kl kc)))).run Try.prog wr = .ok () (wr.setRow (w.heap.size + 1) (t.cs (.slice ac t.cols.length acc) (.slice ka kl kc)))) :=
        run_storeVar_row _ _ _ 30 _ _ HI.out.res (by rw [infoRT]; rfl) rfl (by simp [Value.oneCell'])
      have HL : Hid ((loadVar 30 ⟨w.heap.size + 1, 0, none⟩).run Try.prog (wr.setRow (w.heap.size + 1) (t.cs (.slice ac t.cols.length acc) (.slice ka kl kc))) = .ok (.agg (t.cs (.slice ac t.cols.length acc) (.slice ka kl kc))) (wr.setRow (w.heap.size + 1) (t.cs (.slice ac t.cols.length acc) (.slice ka kl kc)))) :=
        run_loadVar_row _ _ _ 30 _ (0, 0) _ (Blk.setRow (new := t.cs (.slice ac t.cols.length acc) (.slice ka kl kc)) HI.out.res) Try.underlying30 rfl (by rw [infoRT]; rfl)
      have hcR : Chg [w.heap.size + 1] wr (wr.setRow (w.heap.size + 1) (t.cs (.slice ac t.cols.length acc) (.slice ka kl kc))) := (Chg.refl _ _).setRow (.inl (by simp)) _
      have hbR : Below w.heap.size w (wr.setRow (w.heap.size + 1) (t.cs (.slice ac t.cols.length acc) (.slice ka kl kc))) := HI.out.bel.trans (hcR.below HI.out.bel.size (by simp))
      have hrow2 := own_chg hrow hcR (fun g hg => by have := (hrow.lt g hg).1; simp; omega)
      obtain ⟨ac', acc', hcv', hac', -, hA'⟩ := own_slice hrow2
      injection hcv' with e1 e2 e3
      subst e1
      have HOw := Lib.hid (own_base hrow2 (show w.heap.size ≤ w.heap.size + 3 by omega))
      have HF := Lib.hid hbR
      have HAt : Hid (TAt (wr.setRow (w.heap.size + 1) (t.cs (.slice ac t.cols.length acc) (.slice ka kl kc))) t ⟨ac, t.cols.length, acc, ka, kl, kc⟩) :=
        ⟨rfl, HTA.out.hk, hac, HTA.out.kcap, hA', HTA.out.karr.later (N := 0) hbR, HTA.out.fair⟩
      clear HI hrow hac hA hcR hbR hrow2 hac' hA' e2 e3
      go_wp2_with (first | (guard_target =~ wpList _ _ _ (Oper.mk _ (Op.store 30 _ _) _ _ _ _ :: _) _ _; refine wpList_skp rfl (exec_store rfl rfl rfl HS.out) ?_))
      exact bodyPost_ret (v := .agg (t.cs (.slice ac t.cols.length acc) (.slice ka kl kc))) (results_cell1 Try.results10 _ _ rfl HL.out) rfl ⟨⟨ac, t.cols.length, acc, ka, kl, kc⟩, rfl, HAt.out, ⟨rfl, rfl, rfl, rfl, HOw.out⟩, HF.out⟩
end Go.Proofs.Ytialpfdhdcjpaaa

/- The reference of layer 15: the walks of sound, among and Find. -/
set_option linter.unusedSimpArgs false
set_option linter.unusedVariables false
set_option maxRecDepth 100000
namespace Go.Proofs.Ytialpfdhdcjpaaa
open Go.RowKit

open Classical in
noncomputable def soundB (l : List Col) (i : Int) : Bool := decide (SoundAt l i)
theorem soundB_false {l : List Col} {i : Int} (h : ¬ SoundAt l i) : soundB l i = false := by unfold soundB; simpa using h
theorem soundB_eq {l : List Col} {j : Nat} (h : j < l.length) : soundB l j = l[j].nn := by
  unfold soundB SoundAt
  rw [Int.toNat_natCast, List.getElem?_eq_getElem h, Bool.eq_iff_iff]
  simp
theorem soundB_iff {l : List Col} {i : Int} : soundB l i = true ↔ SoundAt l i := by unfold soundB; simp

set_option maxHeartbeats 2000000 in
theorem rSound_any (t : Tb) (m : TM) (i : Int) (w : World) (h : TAt w t m) :
    Calls Try.prog 39 #[m.v t, .int .i64 i] w fun e w' => e = .returned (.bool (soundB t.cols i)) ∧ Below w.heap.size w w' := by
  have hcmax := h.cmax
  have hcl := h.hc
  have harr := h.carr
  obtain ⟨ca, cl, cc, ka, kl, kc⟩ := m
  clear h
  dsimp only at hcmax hcl harr
  subst hcl
  have HB0 : Hid (Below w.heap.size w (w.alloc (.cells (TM.cs ⟨ca, t.cols.length, cc, ka, kl, kc⟩ t) 30))) := (Below.refl _ w).alloc (Nat.le_refl _) _
  by_cases h0 : 0 ≤ i
  · by_cases h1 : i < (t.cols.length : Int)
    · obtain ⟨j, rfl⟩ : ∃ j : Nat, i = j := ⟨i.toNat, by omega⟩
      have hjl : j < t.cols.length := by omega
      obtain ⟨b2, o2, rfl, hbN2, -, -, g2⟩ := colAt harr hjl
      have HE := Lib.hid (soundB_eq hjl)
      replace g2 := (HB0.out.cell (p := ⟨b2, o2 + j * 3 + 2, none⟩) hbN2).trans g2
      generalize t.cols[j].nn = nv at *
      clear harr hbN2
      go_enter Try.func39, Try.ntmps39
      go_wp2
      go_ret
      exact ⟨ret_b HE.out.symm, HB0.out⟩
    · have HE : Hid (soundB t.cols i = false) := soundB_false (fun ⟨_, c, h2, _⟩ => by have := (List.getElem?_eq_some_iff.1 h2).1; omega)
      have q1 : decide (i < (t.cols.length : Int)) = false := decide_eq_false h1
      clear harr
      go_enter Try.func39, Try.ntmps39
      go_wp2
      go_ret
      exact ⟨ret_b HE.out.symm, HB0.out⟩
  · have HE : Hid (soundB t.cols i = false) := soundB_false (fun ⟨h2, _⟩ => h0 h2)
    have q1 : decide (0 ≤ i) = false := decide_eq_false h0
    clear harr
    go_enter Try.func39, Try.ntmps39
    go_wp2
    go_ret
    exact ⟨ret_b HE.out.symm, HB0.out⟩

set_option maxHeartbeats 1000000 in
theorem rAmong_any (l : List Int) (key : Int) (a : Option Addr) (len cap : Nat) (w : World) (hV : Arr w.heap.size w a (cellsI l)) (hlen : len = l.length) (hmax : len ≤ 140737488355328) :
    Calls Try.prog 40 #[.slice a len cap, .int .i64 key] w fun e w' => e = .returned (.bool (decide (key ∈ l))) ∧ w = w' := by
  have HV := Lib.hid hV
  have HL := Lib.hid hlen
  clear hV hlen
  obtain ⟨R, hR⟩ : ∃ R, decide (key ∈ l) = R := ⟨_, rfl⟩
  rw [hR]
  have HR := Lib.hid hR
  clear hR
  go_enter Try.func40, Try.ntmps40
  go_wp2
  go_loop [5] (fun i => ∃ k : Nat, k ≤ len ∧ i = .int .i64 k ∧ Hid (key ∉ l.take k)) (fun i => len - (intOf i).toNat)
  case atStart => exact ⟨0, by omega, rfl, by simp [Hid]⟩
  case round =>
    obtain ⟨k, hk, rfl, HI⟩ := hrel
    by_cases hlt : k < len
    · have hkl : k < l.length := by have := HL.out; omega
      obtain ⟨b, o, rfl, hbN, c0⟩ := intAt HV.out hkl
      have hg := List.getElem?_eq_getElem hkl
      obtain ⟨y, hy⟩ : ∃ y, y = l[k] := ⟨_, rfl⟩
      rw [← hy] at c0 hg
      clear hy
      by_cases hky : y = key
      · subst hky
        have HG : Hid (R = true) := by rw [Hid, ← HR.out]; exact decide_eq_true (List.mem_of_getElem? hg)
        clear hg
        go_wp2
        go_ret
        exact ⟨ret_b HG.out.symm, rfl⟩
      · have q1 : (y == key) = false := by simpa using hky
        have HT : Hid (key ∉ l.take (k + 1)) := by
          intro hm
          rw [List.take_add_one, hg] at hm
          rcases List.mem_append.1 hm with hm | hm
          · exact HI.out hm
          · simp at hm; exact hky hm.symm
        clear hg hky
        go_wp2
        go_round
        case rel => exact ⟨k + 1, by omega, by go_num, HT⟩
        case measure => simp [intOf]; omega
    · have HG : Hid (R = false) := by rw [Hid, ← HR.out]; exact decide_eq_false (by have := HI.out; rwa [List.take_of_length_le (by have := HL.out; omega)] at this)
      go_wp2
      go_ret
      exact ⟨ret_b HG.out.symm, rfl⟩

set_option maxHeartbeats 1000000 in
theorem rFind_any (t : Tb) (m : TM) (s : ByteArray) (w : World) (h : TAt w t m) :
    Calls Try.prog 15 #[m.v t, .string s] w fun e w' => e = .returned (.int .i64 (findC t.cols s)) ∧ Below w.heap.size w w' := by
  have hcmax := h.cmax
  have hcl := h.hc
  have HV := Lib.hid h.carr
  obtain ⟨ca, cl, cc, ka, kl, kc⟩ := m
  clear h
  dsimp only at hcmax hcl HV
  subst hcl
  have HB0 : Hid (Below w.heap.size w (w.alloc (.cells (TM.cs ⟨ca, t.cols.length, cc, ka, kl, kc⟩ t) 30))) := (Below.refl _ w).alloc (Nat.le_refl _) _
  obtain ⟨R, hR⟩ : ∃ R, findC t.cols s = R := ⟨_, rfl⟩
  rw [hR]
  have HR := Lib.hid hR
  clear hR
  go_enter Try.func15, Try.ntmps15
  go_wp2
  go_loop [5] (fun i => ∃ k : Nat, k ≤ t.cols.length ∧ i = .int .i64 k ∧ Hid (∀ c ∈ t.cols.take k, c.nm ≠ s)) (fun i => t.cols.length - (intOf i).toNat)
  case atStart => exact ⟨0, by omega, rfl, by simp [Hid]⟩
  case round =>
    obtain ⟨k, hk, rfl, HI⟩ := hrel
    by_cases hlt : k < t.cols.length
    · obtain ⟨b, o, rfl, hbN, c0, -, -⟩ := colAt HV.out hlt
      replace c0 := (HB0.out.cell (p := ⟨b, o + k * 3, none⟩) hbN).trans c0
      have HF : Hid (t.cols[k].nm = s → R = k) := fun h => by rw [← HR.out]; exact findC_hit hlt h HI.out
      have HN : Hid (t.cols[k].nm ≠ s → ∀ c ∈ t.cols.take (k + 1), c.nm ≠ s) := fun h c hc => by
        rw [List.take_succ_eq_append_getElem hlt] at hc
        rcases List.mem_append.1 hc with h1 | h1
        · exact HI.out c h1
        · simp at h1; subst h1; exact h
      generalize t.cols[k].nm = nm at *
      clear hbN
      by_cases hxs : nm = s
      · have HA := Lib.hid (HF.out hxs)
        subst hxs
        clear HF HN
        go_wp2
        go_ret
        exact ⟨by rw [HA.out]; rfl, HB0.out⟩
      · have HA := Lib.hid (HN.out hxs)
        have hnb : (nm.toList == s.toList) = false := by rw [beq_eq_false_iff_ne]; exact fun h => hxs (toList_inj h)
        have hnb2 : ¬ nm.toList = s.toList := fun h => hxs (toList_inj h)
        clear HF HN hxs
        go_wp2
        go_round
        case rel => exact ⟨k + 1, by omega, by go_num, HA⟩
        case measure => simp [intOf]; omega
    · have HA : Hid (R = -1) := by rw [Hid, ← HR.out]; exact findC_none (by have := HI.out; rwa [List.take_of_length_le (by omega)] at this)
      go_wp2
      go_ret
      exact ⟨by rw [HA.out]; rfl, HB0.out⟩
end Go.Proofs.Ytialpfdhdcjpaaa

/- The reference of layer 15: the walk of columns. -/
set_option linter.unusedSimpArgs false
set_option linter.unusedVariables false
set_option maxRecDepth 100000
namespace Go.Proofs.Ytialpfdhdcjpaaa
open Go.RowKit

theorem nodup_find {l : List Col} (h : (l.map Col.nm).Nodup) (k : Nat) (hk : k < l.length) : findC l l[k].nm = k := by
  refine findC_hit hk rfl fun c hc he => ?_
  rw [List.mem_take_iff_getElem] at hc
  obtain ⟨j, hj, rfl⟩ := hc
  have hjk : j < k := by omega
  have := (List.pairwise_iff_getElem.1 h) j k (by simpa using (show j < l.length by omega)) (by simpa using hk) hjk
  apply this
  simpa using he
theorem find_nodup {l : List Col} (h : ∀ (k : Nat) (hk : k < l.length), findC l l[k].nm = k) : (l.map Col.nm).Nodup := by
  refine List.pairwise_iff_getElem.2 ?_
  intro i j hi hj hij he
  have hj' : j < l.length := by simpa using hj
  have hi' : i < l.length := by simpa using hi
  have he : l[i].nm = l[j].nm := by simpa using he
  have e1 := h i hi'
  have e2 := h j hj'
  rw [he] at e1
  rw [e1] at e2
  omega

set_option maxHeartbeats 4000000 in
theorem rColumns_any (t : Tb) (m : TM) (w : World) (h : TAt w t m) :
    Calls Try.prog 38 #[m.v t] w fun e w' => e = .returned (.bool (colsOk t.cols)) ∧ Below w.heap.size w w' := by
  have hcmax := h.cmax
  have hcl := h.hc
  have HV := Lib.hid h.carr
  have HF := Lib.hid h.fair.cols
  have HFi := Lib.hid (fun s W (hb : Below w.heap.size w W) => rFind_any t m s W (h.later hb))
  obtain ⟨ca, cl, cc, ka, kl, kc⟩ := m
  clear h
  dsimp only at hcmax hcl HV
  subst hcl
  have HB0 : Hid (Below w.heap.size w (w.alloc (.cells (TM.cs ⟨ca, t.cols.length, cc, ka, kl, kc⟩ t) 30))) := (Below.refl _ w).alloc (Nat.le_refl _) _
  have HX0 : Hid (TBox (w.alloc (.cells (TM.cs ⟨ca, t.cols.length, cc, ka, kl, kc⟩ t) 30)) w.heap.size ⟨ca, t.cols.length, cc, ka, kl, kc⟩ t) := TBox.new w _ t _
  have hs0 : w.heap.size < (w.alloc (.cells (TM.cs ⟨ca, t.cols.length, cc, ka, kl, kc⟩ t) 30)).heap.size := by simp
  obtain ⟨R, hR⟩ : ∃ R, colsOk t.cols = R := ⟨_, rfl⟩
  rw [hR]
  have HBad : Hid (∀ (k : Nat) (hk : k < t.cols.length), (t.cols[k].ok = false ∨ findC t.cols t.cols[k].nm ≠ k) → R = false) := fun k hk hh => by
    rw [← hR]
    refine colsOk_false (fun H => ?_)
    rcases hh with h1 | h1
    · have := H.2.2.1 _ (List.getElem_mem hk); rw [h1] at this; cases this
    · exact h1 (nodup_find H.2.2.2 k hk)
  have HEnd : Hid ((∀ (k : Nat) (hk : k < t.cols.length), t.cols[k].ok = true ∧ findC t.cols t.cols[k].nm = k) → R = (decide (1 ≤ t.cols.length) && decide (t.cols.length ≤ 16))) := fun hh => by
    rw [← hR, Bool.eq_iff_iff, colsOk_iff]
    simp only [Bool.and_eq_true, decide_eq_true_eq]
    constructor
    · exact fun H => ⟨H.1, H.2.1⟩
    · rintro ⟨h1, h2⟩
      refine ⟨h1, h2, fun c hc => ?_, find_nodup fun k hk => (hh k hk).2⟩
      obtain ⟨k, hk, rfl⟩ := List.getElem_of_mem hc
      exact (hh k hk).1
  clear hR
  go_enter Try.func38, Try.ntmps38
  go_wp2
  go_loopw [3] (fun i wr => ∃ k : Nat, k ≤ t.cols.length ∧ i = .int .i64 k ∧ Hid (∀ (j : Nat) (hj : j < t.cols.length), j < k → t.cols[j].ok = true ∧ findC t.cols t.cols[j].nm = j) ∧ Below w.heap.size w wr ∧ Hid (TBox wr w.heap.size ⟨ca, t.cols.length, cc, ka, kl, kc⟩ t) ∧ w.heap.size < wr.heap.size) (fun i _ => t.cols.length - (intOf i).toNat)
  case atStart => exact ⟨0, by omega, rfl, (by intro j hj h0; omega), HB0.out, HX0, hs0⟩
  case round =>
    clear HX0 HB0 hs0
    obtain ⟨k, hk, rfl, HI, hb, HX, hsz⟩ := hrel
    obtain ⟨x0, x1, x2, x3, x4, x5, x6, x7⟩ := HX.out
    dsimp only at x0 x1 x2 x3 x4 x5 x6 x7
    by_cases hlt : k < t.cols.length
    · obtain ⟨b, o, rfl, hbN, c0, c1, c2⟩ := colAt HV.out hlt
      replace c0 := (hb.cell (p := ⟨b, o + k * 3, none⟩) hbN).trans c0
      replace c1 := (hb.cell (p := ⟨b, o + k * 3 + 1, none⟩) hbN).trans c1
      replace c2 := (hb.cell (p := ⟨b, o + k * 3 + 2, none⟩) hbN).trans c2
      have hfx := HF.out _ (List.getElem_mem hlt)
      have HB1 := Lib.hid (HBad.out k hlt)
      have HNx : Hid (t.cols[k].ok = true → findC t.cols t.cols[k].nm = k → ∀ (j : Nat) (hj : j < t.cols.length), j < k + 1 → t.cols[j].ok = true ∧ findC t.cols t.cols[j].nm = j) := fun h1 h2 j hj hjk => by
        by_cases hik : j = k
        · subst hik; exact ⟨h1, h2⟩
        · exact HI.out j hj (by omega)
      generalize t.cols[k] = x at *
      clear HI hbN HBad HEnd
      obtain ⟨nm, kd, nn⟩ := x
      dsimp only at c0 c1 c2 hfx HB1 HNx
      have HN := Lib.hid (fun W => rIsName_any nm W hfx.1)
      have HFn := Lib.hid (fun W hb => HFi.out nm W hb)
      have hkd := hfx.2
      have HKs : Hid (∀ W, Below (wr.heap.size + 1) (wr.alloc (.cells #[.string nm, .int .u8 (kd : Int), .bool nn] 69)) W → W.cell? ⟨wr.heap.size, 0, none⟩ = some (.string nm) ∧ W.cell? ⟨wr.heap.size, 1, none⟩ = some (.int .u8 (kd : Int)) ∧ TBox W w.heap.size ⟨some ⟨b, o, none⟩, t.cols.length, cc, ka, kl, kc⟩ t ∧ Below w.heap.size w W ∧ w.heap.size < W.heap.size) := fun W hB => by
        have hk0 := Blk.new wr 69 #[.string nm, .int .u8 (kd : Int), .bool nn]
        have hb1 := hB.cell (p := ⟨wr.heap.size, 0, none⟩) (by show wr.heap.size < _; omega)
        have hb2 := hB.cell (p := ⟨wr.heap.size, 1, none⟩) (by show wr.heap.size < _; omega)
        have h3 : Below wr.heap.size wr W := ((Below.refl _ wr).alloc (Nat.le_refl _) _).trans (hB.mono (by omega))
        exact ⟨hb1.trans ((hk0.cell 0).trans rfl), hb2.trans ((hk0.cell 1).trans rfl), HX.out.later hsz h3, hb.trans (h3.mono (by omega)), by have := h3.size; omega⟩
      clear HX hb
      obtain ⟨F, hF⟩ : ∃ F, findC t.cols nm = F := ⟨_, rfl⟩
      rw [hF] at HFn HB1 HNx
      clear hF
      obtain ⟨bN, hbN⟩ : ∃ bN, isNm nm = bN := ⟨_, rfl⟩
      have hokE : (⟨nm, kd, nn⟩ : Col).ok = (bN && !decide (nm = sysF) && !decide (nm = sysT) && decide (1 ≤ kd) && decide (kd ≤ 3)) := by unfold Col.ok; rw [hbN]
      have HOK := Lib.hid hokE
      rw [hbN] at HN
      clear hbN hokE hfx
      cases bN with
      | false =>
        have HB2 := Lib.hid (HB1.out (.inl (by rw [HOK.out]; rfl)))
        clear HB1 HNx HOK 
        go_wp2_with fail
        refine (HN.out _).mono ?_
        rintro e w1 ⟨rfl, hb1⟩
        have hB1 : Below (wr.heap.size + 1) (wr.alloc (.cells #[.string nm, .int .u8 (kd : Int), .bool nn] 69)) w1 := hb1.mono (by simp)
        obtain ⟨d0, d1, hX1, hbw, hsz1⟩ := HKs.out w1 hB1
        obtain ⟨y0, y1, y2, y3, y4, y5, y6, y7⟩ := hX1
        dsimp only at y0 y1 y2 y3 y4 y5 y6 y7
        clear c0 c1 c2 x0 x1 x2 x3 x4 x5 x6 x7 HN hb1
        have HBw := Lib.hid hbw
        clear hB1 HKs hbw
        go_wp2
        go_ret
        exact ⟨ret_b HB2.out.symm, HBw.out⟩
      | true =>
        by_cases hF : nm = sysF
        · have HB2 := Lib.hid (HB1.out (.inl (by rw [HOK.out, decide_eq_true hF]; rfl)))
          have qF : (nm.toList == [115, 121, 115, 95, 102, 114, 111, 109]) = true := by rw [hF]; decide +kernel
          have qF2 : nm.toList = [115, 121, 115, 95, 102, 114, 111, 109] := by rw [hF]; decide +kernel
          clear HB1 HNx HOK hF
          go_wp2_with fail
          refine (HN.out _).mono ?_
          rintro e w1 ⟨rfl, hb1⟩
          have hB1 : Below (wr.heap.size + 1) (wr.alloc (.cells #[.string nm, .int .u8 (kd : Int), .bool nn] 69)) w1 := hb1.mono (by simp)
          obtain ⟨d0, d1, hX1, hbw, hsz1⟩ := HKs.out w1 hB1
          obtain ⟨y0, y1, y2, y3, y4, y5, y6, y7⟩ := hX1
          dsimp only at y0 y1 y2 y3 y4 y5 y6 y7
          clear c0 c1 c2 x0 x1 x2 x3 x4 x5 x6 x7 HN hb1
          have HBw := Lib.hid hbw
          clear hB1 HKs hbw
          go_wp2
          go_ret
          exact ⟨ret_b HB2.out.symm, HBw.out⟩
        · have qF : (nm.toList == [115, 121, 115, 95, 102, 114, 111, 109]) = false := by rw [beq_eq_false_iff_ne]; exact fun h => hF (toList_inj (h.trans (by decide +kernel)))
          have qF2 : ¬ nm.toList = [115, 121, 115, 95, 102, 114, 111, 109] := fun h => hF (toList_inj (h.trans (by decide +kernel)))
          by_cases hT : nm = sysT
          · have HB2 := Lib.hid (HB1.out (.inl (by rw [HOK.out, decide_eq_true hT]; simp)))
            have qT : (nm.toList == [115, 121, 115, 95, 116, 111]) = true := by rw [hT]; decide +kernel
            have qT2 : nm.toList = [115, 121, 115, 95, 116, 111] := by rw [hT]; decide +kernel
            clear HB1 HNx HOK hF hT
            go_wp2_with fail
            refine (HN.out _).mono ?_
            rintro e w1 ⟨rfl, hb1⟩
            have hB1 : Below (wr.heap.size + 1) (wr.alloc (.cells #[.string nm, .int .u8 (kd : Int), .bool nn] 69)) w1 := hb1.mono (by simp)
            obtain ⟨d0, d1, hX1, hbw, hsz1⟩ := HKs.out w1 hB1
            obtain ⟨y0, y1, y2, y3, y4, y5, y6, y7⟩ := hX1
            dsimp only at y0 y1 y2 y3 y4 y5 y6 y7
            clear c0 c1 c2 x0 x1 x2 x3 x4 x5 x6 x7 HN hb1
            have HBw := Lib.hid hbw
            clear hB1 HKs hbw
            go_wp2
            go_ret
            exact ⟨ret_b HB2.out.symm, HBw.out⟩
          · have qT : (nm.toList == [115, 121, 115, 95, 116, 111]) = false := by rw [beq_eq_false_iff_ne]; exact fun h => hT (toList_inj (h.trans (by decide +kernel)))
            have qT2 : ¬ nm.toList = [115, 121, 115, 95, 116, 111] := fun h => hT (toList_inj (h.trans (by decide +kernel)))
            by_cases hk3 : 1 ≤ kd ∧ kd ≤ 3
            · have HOk2 : Hid ((⟨nm, kd, nn⟩ : Col).ok = true) := by
                show _ = _
                rw [HOK.out, decide_eq_false hF, decide_eq_false hT, decide_eq_true hk3.1, decide_eq_true hk3.2]; rfl
              have hk1 : kd = 1 ∨ kd = 2 ∨ kd = 3 := by omega
              clear hF hT HOK hk3 hkd
              rcases hk1 with hk1 | hk1 | hk1
              · have qk1 : ((kd : Int) != 1) = false := by simp; omega
                clear hk1
                go_wp2_with fail
                refine (HN.out _).mono ?_
                rintro e w1 ⟨rfl, hb1⟩
                have hB1 : Below (wr.heap.size + 1) (wr.alloc (.cells #[.string nm, .int .u8 (kd : Int), .bool nn] 69)) w1 := hb1.mono (by simp)
                obtain ⟨d0, d1, hX1, hbw, hsz1⟩ := HKs.out w1 hB1
                obtain ⟨y0, y1, y2, y3, y4, y5, y6, y7⟩ := hX1
                dsimp only at y0 y1 y2 y3 y4 y5 y6 y7
                clear c0 c1 c2 x0 x1 x2 x3 x4 x5 x6 x7 HN hb1
                go_wp2_with fail
                refine (HFn.out _ hbw).mono ?_
                rintro e w2 ⟨rfl, hb2⟩
                obtain ⟨e0, e1, hX2, hbw2, hsz2⟩ := HKs.out w2 (hB1.trans (hb2.mono (by have := hB1.size; simp at this; omega)))
                have HXx := Lib.hid hX2
                clear d0 d1 y0 y1 y2 y3 y4 y5 y6 y7 hX2 HKs HFn hb2 hB1
                by_cases hFk : F = (k : Int)
                · have qf : (F != (k : Int)) = false := by simp [hFk]
                  have HA := Lib.hid (HNx.out HOk2.out hFk)
                  clear hFk HB1 HNx HOk2
                  go_wp2
                  go_roundw
                  case rel => exact ⟨k + 1, by omega, by go_num, HA.out, hbw2, HXx, hsz2⟩
                  case measure => simp [intOf]; omega
                · have qf : (F != (k : Int)) = true := by simpa using hFk
                  have HB2 := Lib.hid (HB1.out (.inr hFk))
                  have HBw := Lib.hid hbw2
                  clear hFk HB1 HNx HOk2 hbw hbw2 HXx
                  go_wp2
                  go_ret
                  exact ⟨ret_b HB2.out.symm, HBw.out⟩
              · have qk1 : ((kd : Int) != 1) = true := by simp; omega
                have qk2 : ((kd : Int) != 2) = false := by simp; omega
                clear hk1
                go_wp2_with fail
                refine (HN.out _).mono ?_
                rintro e w1 ⟨rfl, hb1⟩
                have hB1 : Below (wr.heap.size + 1) (wr.alloc (.cells #[.string nm, .int .u8 (kd : Int), .bool nn] 69)) w1 := hb1.mono (by simp)
                obtain ⟨d0, d1, hX1, hbw, hsz1⟩ := HKs.out w1 hB1
                obtain ⟨y0, y1, y2, y3, y4, y5, y6, y7⟩ := hX1
                dsimp only at y0 y1 y2 y3 y4 y5 y6 y7
                clear c0 c1 c2 x0 x1 x2 x3 x4 x5 x6 x7 HN hb1
                go_wp2_with fail
                refine (HFn.out _ hbw).mono ?_
                rintro e w2 ⟨rfl, hb2⟩
                obtain ⟨e0, e1, hX2, hbw2, hsz2⟩ := HKs.out w2 (hB1.trans (hb2.mono (by have := hB1.size; simp at this; omega)))
                have HXx := Lib.hid hX2
                clear d0 d1 y0 y1 y2 y3 y4 y5 y6 y7 hX2 HKs HFn hb2 hB1
                by_cases hFk : F = (k : Int)
                · have qf : (F != (k : Int)) = false := by simp [hFk]
                  have HA := Lib.hid (HNx.out HOk2.out hFk)
                  clear hFk HB1 HNx HOk2
                  go_wp2
                  go_roundw
                  case rel => exact ⟨k + 1, by omega, by go_num, HA.out, hbw2, HXx, hsz2⟩
                  case measure => simp [intOf]; omega
                · have qf : (F != (k : Int)) = true := by simpa using hFk
                  have HB2 := Lib.hid (HB1.out (.inr hFk))
                  have HBw := Lib.hid hbw2
                  clear hFk HB1 HNx HOk2 hbw hbw2 HXx
                  go_wp2
                  go_ret
                  exact ⟨ret_b HB2.out.symm, HBw.out⟩
              · have qk1 : ((kd : Int) != 1) = true := by simp; omega
                have qk2 : ((kd : Int) != 2) = true := by simp; omega
                have qk3 : ((kd : Int) != 3) = false := by simp; omega
                clear hk1
                go_wp2_with fail
                refine (HN.out _).mono ?_
                rintro e w1 ⟨rfl, hb1⟩
                have hB1 : Below (wr.heap.size + 1) (wr.alloc (.cells #[.string nm, .int .u8 (kd : Int), .bool nn] 69)) w1 := hb1.mono (by simp)
                obtain ⟨d0, d1, hX1, hbw, hsz1⟩ := HKs.out w1 hB1
                obtain ⟨y0, y1, y2, y3, y4, y5, y6, y7⟩ := hX1
                dsimp only at y0 y1 y2 y3 y4 y5 y6 y7
                clear c0 c1 c2 x0 x1 x2 x3 x4 x5 x6 x7 HN hb1
                go_wp2_with fail
                refine (HFn.out _ hbw).mono ?_
                rintro e w2 ⟨rfl, hb2⟩
                obtain ⟨e0, e1, hX2, hbw2, hsz2⟩ := HKs.out w2 (hB1.trans (hb2.mono (by have := hB1.size; simp at this; omega)))
                have HXx := Lib.hid hX2
                clear d0 d1 y0 y1 y2 y3 y4 y5 y6 y7 hX2 HKs HFn hb2 hB1
                by_cases hFk : F = (k : Int)
                · have qf : (F != (k : Int)) = false := by simp [hFk]
                  have HA := Lib.hid (HNx.out HOk2.out hFk)
                  clear hFk HB1 HNx HOk2
                  go_wp2
                  go_roundw
                  case rel => exact ⟨k + 1, by omega, by go_num, HA.out, hbw2, HXx, hsz2⟩
                  case measure => simp [intOf]; omega
                · have qf : (F != (k : Int)) = true := by simpa using hFk
                  have HB2 := Lib.hid (HB1.out (.inr hFk))
                  have HBw := Lib.hid hbw2
                  clear hFk HB1 HNx HOk2 hbw hbw2 HXx
                  go_wp2
                  go_ret
                  exact ⟨ret_b HB2.out.symm, HBw.out⟩
            · have qk1 : ((kd : Int) != 1) = true := by simp; omega
              have qk2 : ((kd : Int) != 2) = true := by simp; omega
              have qk3 : ((kd : Int) != 3) = true := by simp; omega
              have HB2 := Lib.hid (HB1.out (.inl (by rw [HOK.out, Bool.eq_false_iff]; intro hh; simp only [Bool.and_eq_true, decide_eq_true_eq] at hh; omega)))
              clear HB1 HNx HOK hF hT hk3
              go_wp2_with fail
              refine (HN.out _).mono ?_
              rintro e w1 ⟨rfl, hb1⟩
              have hB1 : Below (wr.heap.size + 1) (wr.alloc (.cells #[.string nm, .int .u8 (kd : Int), .bool nn] 69)) w1 := hb1.mono (by simp)
              obtain ⟨d0, d1, hX1, hbw, hsz1⟩ := HKs.out w1 hB1
              obtain ⟨y0, y1, y2, y3, y4, y5, y6, y7⟩ := hX1
              dsimp only at y0 y1 y2 y3 y4 y5 y6 y7
              clear c0 c1 c2 x0 x1 x2 x3 x4 x5 x6 x7 HN hb1
              have HBw := Lib.hid hbw
              clear hB1 HKs hbw
              go_wp2
              go_ret
              exact ⟨ret_b HB2.out.symm, HBw.out⟩
    · have HA := Lib.hid (HEnd.out (fun j hj => HI.out j hj (by omega)))
      have HBw := Lib.hid hb
      obtain ⟨g1, hg1⟩ : ∃ g, decide (1 ≤ t.cols.length) = g := ⟨_, rfl⟩
      obtain ⟨g2, hg2⟩ : ∃ g, decide (t.cols.length ≤ 16) = g := ⟨_, rfl⟩
      have p1 : decide ((1 : Int) ≤ (t.cols.length : Int)) = g1 := by rw [← hg1, Bool.eq_iff_iff]; simp; omega
      have p2 : decide ((t.cols.length : Int) ≤ 16) = g2 := by rw [← hg2, Bool.eq_iff_iff]; simp; omega
      rw [hg1, hg2] at HA
      clear hg1 hg2 HI HBad HEnd hb HX
      cases g1 with
      | true =>
        go_wp2
        go_ret
        exact ⟨ret_b (by rw [HA.out]; rfl), HBw.out⟩
      | false =>
        go_wp2
        go_ret
        exact ⟨ret_b (by rw [HA.out]; rfl), HBw.out⟩
end Go.Proofs.Ytialpfdhdcjpaaa

/- The reference of layer 15: the walk of Right. -/
set_option linter.unusedSimpArgs false
set_option linter.unusedVariables false
set_option maxRecDepth 100000
namespace Go.Proofs.Ytialpfdhdcjpaaa
open Go.RowKit

theorem edge_kind {l : List Col} {j : Nat} (h : j < l.length) (hs : l[j].nn = true) : edgeB l j = decide (l[j].kd = 1) := by rw [edgeB_eq h, hs, Bool.and_true]
theorem edge_sound {l : List Col} {i : Int} (h : soundB l i = false) : edgeB l i = false := edgeB_false (fun ⟨h1, c, h2, h3, _⟩ => by
  have := soundB_iff.2 ⟨h1, c, h2, h3⟩
  rw [h] at this; cases this)

set_option maxHeartbeats 8000000 in
theorem rRight_any (t : Tb) (m : TM) (w : World) (h : TAt w t m) :
    Calls Try.prog 13 #[m.v t] w fun e w' => e = .returned (.bool t.ok) ∧ Below w.heap.size w w' := by
  have hkmax := h.kmax
  have hcmax := h.cmax
  have hcl := h.hc
  have hkl := h.hk
  have hcap := h.kcap
  have HCol := Lib.hid h.carr
  have HKey := Lib.hid h.karr
  have HN := Lib.hid (fun W => rIsName_any t.name W h.fair.nm)
  have HC := Lib.hid (fun W (hb : Below w.heap.size w W) => rColumns_any t m W (h.later hb))
  have HS := Lib.hid (fun i W (hb : Below w.heap.size w W) => rSound_any t m i W (h.later hb))
  have HNp := Lib.hid (fun W => rIsName_any t.per W h.fair.per)
  have HFp := Lib.hid (fun W (hb : Below w.heap.size w W) => rFind_any t m t.per W (h.later hb))
  have HAm := Lib.hid (fun x W (hb : Below w.heap.size w W) => rAmong_any t.key x m.ka m.kl m.kc W (h.karr.later (N := 0) hb) hkl (by omega))
  have HSlice := Lib.hid (fun k (hk : k ≤ m.kl) => (h.karr.frontS 23 3 1 Try.underlying23 sizeOf_intS m.kl m.kc k (by rw [cellsI_len, hkl]) hk hcap).2)
  have HCon := Lib.hid (fun k x (hk : k ≤ m.kl) W (hb : Below w.heap.size w W) => rAmong_any (t.key.take k) x m.ka k m.kc W (by
    have := (h.karr.frontS 23 3 1 Try.underlying23 sizeOf_intS m.kl m.kc k (by rw [cellsI_len, hkl]) hk hcap).1
    unfold cellsI at this
    rw [← cellsOf_take _ 1 (fun _ => rfl)] at this
    exact this.later (N := 0) hb) (by rw [List.length_take]; omega) (by omega))
  have HX0 : Hid (TBox (w.alloc (.cells (m.cs t) 30)) w.heap.size m t) := TBox.new w m t _
  have HB0 : Hid (Below w.heap.size w (w.alloc (.cells (m.cs t) 30))) := (Below.refl _ w).alloc (Nat.le_refl _) _
  have hs0 : w.heap.size < (w.alloc (.cells (m.cs t) 30)).heap.size := by simp
  have hok := Tb.ok_eq t
  have hper := perOk_eq t
  have hap := apOk_eq t
  obtain ⟨T, hT⟩ : ∃ T, t.ok = T := ⟨_, rfl⟩
  obtain ⟨b1, h1'⟩ : ∃ b, isNm t.name = b := ⟨_, rfl⟩
  obtain ⟨b2, h2'⟩ : ∃ b, colsOk t.cols = b := ⟨_, rfl⟩
  obtain ⟨K, hK'⟩ : ∃ b, keyOkB t.cols t.key = b := ⟨_, rfl⟩
  obtain ⟨Pb, hP'⟩ : ∃ b, perOk t = b := ⟨_, rfl⟩
  obtain ⟨Ab, hA'⟩ : ∃ b, apOk t = b := ⟨_, rfl⟩
  rw [hT, h1', h2', hK', hP', hA'] at hok
  rw [hP'] at hper
  rw [hA'] at hap
  have HKF : Hid (¬ KeyOk t.cols t.key → K = false) := fun hh => by rw [← hK']; exact keyOk_false hh
  have HKT : Hid (KeyOk t.cols t.key → K = true) := fun hh => by rw [← hK']; exact keyOk_iff.2 hh
  rw [h1'] at HN
  rw [h2'] at HC
  rw [hT]
  have HOk := Lib.hid hok
  have HPer := Lib.hid hper
  have HAp := Lib.hid hap
  obtain ⟨ca, cl, cc, ka, kl, kc⟩ := m
  dsimp only at hkmax hcmax hcl hkl hcap HCol HKey
  subst hcl hkl
  clear h hT h1' h2' hK' hP' hA' hok hper hap
  obtain ⟨c1, hc1⟩ : ∃ c, decide (t.key.length < 1) = c := ⟨_, rfl⟩
  obtain ⟨c2, hc2⟩ : ∃ c, decide (8 < t.key.length) = c := ⟨_, rfl⟩
  have q1 : decide ((t.key.length : Int) < 1) = c1 := by rw [← hc1, Bool.eq_iff_iff, decide_eq_true_iff, decide_eq_true_iff]; omega
  have q2 : decide ((8 : Int) < (t.key.length : Int)) = c2 := by rw [← hc2, Bool.eq_iff_iff]; simp; omega
  go_enter Try.func13, Try.ntmps13
  go_wp2_with fail
  refine (HN.out _).mono ?_
  rintro e w1 ⟨rfl, hb1⟩
  have hX1 := HX0.out.later hs0 hb1
  have hs1 := Nat.lt_of_lt_of_le hs0 hb1.size
  have HB1 := Lib.hid (HB0.out.trans (hb1.mono (Nat.le_of_lt hs0)))
  have HX1 := Lib.hid hX1
  clear hb1 hs0 HX0 HB0
  obtain ⟨x0, x1, x2, x3, x4, x5, x6, x7⟩ := hX1
  dsimp only at x0 x1 x2 x3 x4 x5 x6 x7
  cases b1 with
  | false =>
    go_wp2
    go_ret
    exact ⟨ret_b (by rw [HOk.out]; simp), HB1.out⟩
  | true =>
    go_wp2_with fail
    refine (HC.out _ HB1.out).mono ?_
    rintro e w2 ⟨rfl, hb2⟩
    have hX2 := HX1.out.later hs1 hb2
    have hs2 := Nat.lt_of_lt_of_le hs1 hb2.size
    have HB2 := Lib.hid (HB1.out.trans (hb2.mono (Nat.le_of_lt hs1)))
    have HX2 := Lib.hid hX2
    clear hb2 hs1 HX1 HB1 x0 x1 x2 x3 x4 x5 x6 x7
    obtain ⟨x0, x1, x2, x3, x4, x5, x6, x7⟩ := hX2
    dsimp only at x0 x1 x2 x3 x4 x5 x6 x7
    cases b2 with
    | false =>
      go_wp2
      go_ret
      exact ⟨ret_b (by rw [HOk.out]; simp), HB2.out⟩
    | true =>
      cases c1 with
      | true =>
        have HA := Lib.hid (HKF.out (fun H => by have := H.1; have := of_decide_eq_true hc1; omega))
        go_wp2
        go_ret
        exact ⟨ret_b (by rw [HOk.out, HA.out]; simp), HB2.out⟩
      | false =>
        cases c2 with
        | true =>
          have HA := Lib.hid (HKF.out (fun H => by have := H.2.1; have := of_decide_eq_true hc2; omega))
          go_wp2
          go_ret
          exact ⟨ret_b (by rw [HOk.out, HA.out]; simp), HB2.out⟩
        | false =>
          have hl1 : 1 ≤ t.key.length := by have := of_decide_eq_false hc1; omega
          have hl8 : t.key.length ≤ 8 := by have := of_decide_eq_false hc2; omega
          clear hc1 hc2
          go_wp2_with fail
          go_loopw [3] (fun i wr => ∃ k : Nat, k ≤ t.key.length ∧ i = .int .i64 k ∧ Hid (∀ (i : Nat) x, i < k → t.key[i]? = some x → SoundAt t.cols x ∧ x ∉ t.key.take i) ∧ Below w.heap.size w wr ∧ Hid (TBox wr w.heap.size ⟨ca, t.cols.length, cc, ka, t.key.length, kc⟩ t) ∧ w.heap.size < wr.heap.size) (fun i _ => t.key.length - (intOf i).toNat)
          case atStart => exact ⟨0, by omega, rfl, (by intro i x hi; omega), HB2.out, HX2, hs2⟩
          case round =>
            clear x0 x1 x2 x3 x4 x5 x6 x7 HX2 HB2 hs2
            obtain ⟨k, hk, rfl, HI, hb, HX, hsz⟩ := hrel
            obtain ⟨x0, x1, x2, x3, x4, x5, x6, x7⟩ := HX.out
            dsimp only at x0 x1 x2 x3 x4 x5 x6 x7
            by_cases hlt : k < t.key.length
            · obtain ⟨b, o, rfl, hbN, c0⟩ := intAt HKey.out hlt
              have hg := List.getElem?_eq_getElem hlt
              have hsl := HSlice.out k hk
              have HC2 := Lib.hid (fun x W hb => HCon.out k x hk W hb)
              obtain ⟨x, hx⟩ : ∃ x, x = t.key[k] := ⟨_, rfl⟩
              rw [← hx] at c0 hg
              clear hx
              have HNo : Hid (¬ (SoundAt t.cols x ∧ x ∉ t.key.take k) → T = false) := fun h1 => by rw [HOk.out, HKF.out (fun H => h1 (H.2.2 k x hg))]; simp
              have HYes : Hid (SoundAt t.cols x ∧ x ∉ t.key.take k → ∀ (i : Nat) y, i < k + 1 → t.key[i]? = some y → SoundAt t.cols y ∧ y ∉ t.key.take i) := by
                intro h1 i y hi hy
                by_cases hik : i = k
                · subst hik
                  rw [hg] at hy; injection hy with hy; subst hy; exact h1
                · exact HI.out i y (by omega) hy
              have HL : Hid (∀ W, Later wr.drew W → TBox W w.heap.size ⟨ca, t.cols.length, cc, some ⟨b, o, none⟩, t.key.length, kc⟩ t ∧ W.cell? ⟨b, o + k, none⟩ = some (.int .i64 x) ∧ Below w.heap.size w W ∧ w.heap.size < W.heap.size) := fun W hW => by
                have h1 := Later.undrew hW
                have h2 : Below w.heap.size w W := hb.trans (Below.mono h1 (by omega))
                exact ⟨HX.out.later hsz h1, (h2.cell (p := ⟨b, o + k, none⟩) hbN).trans c0, h2, by have := h1.size; omega⟩
              clear hg HI c0 hbN HCon HSlice
              obtain ⟨bs, hbs⟩ : ∃ bs, soundB t.cols x = bs := ⟨_, rfl⟩
              obtain ⟨bi, hbi⟩ : ∃ bi, decide (x ∈ t.key.take k) = bi := ⟨_, rfl⟩
              have HSx := Lib.hid (HS.out x)
              have HCx := Lib.hid (HC2.out x)
              rw [hbs] at HSx
              rw [hbi] at HCx
              have HBs := Lib.hid hbs
              have HBi := Lib.hid hbi
              clear hbs hbi HC2
              have e0 := fun W hW => (HL.out W hW).1.c0
              have e1 := fun W hW => (HL.out W hW).1.c1
              have e2 := fun W hW => (HL.out W hW).1.c2
              have e3 := fun W hW => (HL.out W hW).1.c3
              have e4 := fun W hW => (HL.out W hW).1.c4
              have e5 := fun W hW => (HL.out W hW).1.c5
              have e6 := fun W hW => (HL.out W hW).1.c6
              have e7 := fun W hW => (HL.out W hW).1.c7
              have e8 := fun W hW => (HL.out W hW).2.1
              dsimp only at e0 e1 e2 e3 e4 e5 e6 e7
              cases bs with
              | false =>
                have HA := Lib.hid (HNo.out (fun H => by have := soundB_iff.2 H.1; rw [HBs.out] at this; cases this))
                clear HNo HYes HX
                go_wp2_with fail
                clear x0 x1 x2 x3 x4 x5 x6 x7
                refine wp_region_ord [(0, true), (1, true), (2, true), (3, true), (4, true), (5, true), (6, false), (7, true), (8, true), (9, true), (10, true), (11, true), (12, true), (13, true), (14, true), (15, true), (16, true), (17, true), (18, false), (19, true)] (by kernel_rfl) (by kernel_rfl) (by kernel_rfl) (by kernel_rfl) ?_
                repeat (first | (refine wpO_F (v := ?_) rfl (by rfl) (fun w' hL => ?_) ?_; rotate_left; (solve | (go_simp; with_reducible rfl) | go_simp); try simp only [Act.put, List.setIfInBounds_toArray, List.set_cons_zero, List.set_cons_succ]) | (refine wpO_G rfl (by rfl) ?_; try simp only [Act.put, List.setIfInBounds_toArray, List.set_cons_zero, List.set_cons_succ]))
                refine wpO_C rfl (by rfl) ?_
                go_simp
                refine (HSx.out _ (HL.out _ (Later.refl _)).2.2.1).mono ?_
                rintro e w3 ⟨rfl, hb3⟩
                refine ⟨hb3, ?_⟩
                try simp only [Act.put, List.setIfInBounds_toArray, List.set_cons_zero, List.set_cons_succ]
                have HBw := Lib.hid (HL.out w3 hb3).2.2.1
                clear e0 e1 e2 e3 e4 e5 e6 e7 e8
                repeat (first | (refine wpO_F (v := ?_) rfl (by rfl) (fun w' hL => ?_) ?_; rotate_left; (solve | (go_simp; with_reducible rfl) | go_simp); try simp only [Act.put, List.setIfInBounds_toArray, List.set_cons_zero, List.set_cons_succ]) | (refine wpO_G rfl (by rfl) ?_; try simp only [Act.put, List.setIfInBounds_toArray, List.set_cons_zero, List.set_cons_succ]))
                refine wpO_nil ?_
                go_wp2
                go_ret
                exact ⟨ret_b HA.out.symm, HBw.out⟩
              | true =>
                go_wp2_with fail
                clear x0 x1 x2 x3 x4 x5 x6 x7
                refine wp_region_ord [(0, true), (1, true), (2, true), (3, true), (4, true), (5, true), (6, false), (7, true), (8, true), (9, true), (10, true), (11, true), (12, true), (13, true), (14, true), (15, true), (16, true), (17, true), (18, false), (19, true)] (by kernel_rfl) (by kernel_rfl) (by kernel_rfl) (by kernel_rfl) ?_
                repeat (first | (refine wpO_F (v := ?_) rfl (by rfl) (fun w' hL => ?_) ?_; rotate_left; (solve | (go_simp; with_reducible rfl) | go_simp); try simp only [Act.put, List.setIfInBounds_toArray, List.set_cons_zero, List.set_cons_succ]) | (refine wpO_G rfl (by rfl) ?_; try simp only [Act.put, List.setIfInBounds_toArray, List.set_cons_zero, List.set_cons_succ]))
                refine wpO_C rfl (by rfl) ?_
                go_simp
                refine (HSx.out _ (HL.out _ (Later.refl _)).2.2.1).mono ?_
                rintro e w3 ⟨rfl, hb3⟩
                refine ⟨hb3, ?_⟩
                try simp only [Act.put, List.setIfInBounds_toArray, List.set_cons_zero, List.set_cons_succ]
                clear e0 e1 e2 e3 e4 e5 e6 e7 e8
                have k2 := fun W (hW : Later w3 W) => (HL.out W (Later.trans hb3 hW)).1.c2
                have k8 := fun W (hW : Later w3 W) => (HL.out W (Later.trans hb3 hW)).2.1
                dsimp only at k2
                have HEn := Lib.hid (HL.out w3 hb3)
                clear HX HL
                repeat (first | (refine wpO_F (v := ?_) rfl (by rfl) (fun w' hL => ?_) ?_; rotate_left; (solve | (go_simp; with_reducible rfl) | go_simp); try simp only [Act.put, List.setIfInBounds_toArray, List.set_cons_zero, List.set_cons_succ]) | (refine wpO_G rfl (by rfl) ?_; try simp only [Act.put, List.setIfInBounds_toArray, List.set_cons_zero, List.set_cons_succ]))
                refine wpO_C rfl (by rfl) ?_
                go_simp
                refine (HCx.out _ HEn.out.2.2.1).mono ?_
                rintro e w4 ⟨rfl, hw4⟩
                refine ⟨(by subst hw4; exact Later.refl _), ?_⟩
                try simp only [Act.put, List.setIfInBounds_toArray, List.set_cons_zero, List.set_cons_succ]
                subst hw4
                repeat (first | (refine wpO_F (v := ?_) rfl (by rfl) (fun w' hL => ?_) ?_; rotate_left; (solve | (go_simp; with_reducible rfl) | go_simp); try simp only [Act.put, List.setIfInBounds_toArray, List.set_cons_zero, List.set_cons_succ]) | (refine wpO_G rfl (by rfl) ?_; try simp only [Act.put, List.setIfInBounds_toArray, List.set_cons_zero, List.set_cons_succ]))
                refine wpO_nil ?_
                clear k2 k8
                cases bi with
                | true =>
                  have HA := Lib.hid (HNo.out (fun H => H.2 (of_decide_eq_true HBi.out)))
                  clear HNo HYes
                  go_wp2
                  go_ret
                  exact ⟨ret_b HA.out.symm, HEn.out.2.2.1⟩
                | false =>
                  have HA := Lib.hid (HYes.out ⟨soundB_iff.1 HBs.out, of_decide_eq_false HBi.out⟩)
                  clear HNo HYes
                  go_wp2
                  go_roundw
                  case rel => exact ⟨k + 1, by omega, by go_num, HA.out, HEn.out.2.2.1, HEn.out.1, HEn.out.2.2.2⟩
                  case measure => simp [intOf]; omega
            · have hKt := HKT.out ⟨hl1, hl8, fun i x hi => HI.out i x (by have := (List.getElem?_eq_some_iff.1 hi).1; omega) hi⟩
              subst hKt
              have HBk := Lib.hid hb
              clear HI HKF HKT HCon HSlice
              have hs5 := hsz
              have HB5 := HBk
              have HX5 := HX
              clear hb hsz HX HBk
              by_cases hp : t.per.size = 0
              · have hpe : t.per = ⟨#[]⟩ := size0 hp
                have qp : (t.per.toList == []) = true := by rw [hpe]; decide +kernel
                have qp2 : t.per.toList = [] := by rw [hpe]; decide +kernel
                obtain ⟨c4, hc4⟩ : ∃ c, decide (t.fr = -1) = c := ⟨_, rfl⟩
                obtain ⟨c5, hc5⟩ : ∃ c, decide (t.tt = -1) = c := ⟨_, rfl⟩
                have q4 : (t.fr == -1) = c4 := by rw [← hc4]; rfl
                have q5 : (t.tt == -1) = c5 := by rw [← hc5]; rfl
                have HP := HPer.out
                rw [if_pos hp, hc4, hc5] at HP
                have HA := HAp.out
                rw [show decide (t.per.size ≠ 0) = false by simp [hp]] at HA
                have HOk2 : Hid (T = ((c4 && c5) && (!t.apart || false))) := by
                  show _ = _
                  rw [HOk.out, HP, HA]; simp
                clear HP HA hpe hp hc4 hc5 HPer HAp HOk
                cases c4 with
                | false =>
                  go_wp2
                  go_ret
                  exact ⟨ret_b (by rw [HOk2.out]; simp), HB5.out⟩
                | true =>
                  cases c5 with
                  | false =>
                    go_wp2
                    go_ret
                    exact ⟨ret_b (by rw [HOk2.out]; simp), HB5.out⟩
                  | true =>
                    go_wp2
                    go_ret
                    exact ⟨ret_b (by rw [HOk2.out]; simp), HB5.out⟩
              · have qp2 : ¬ t.per.toList = [] := by
                  intro h
                  have : t.per = ⟨#[]⟩ := toList_inj (by rw [h]; decide +kernel)
                  rw [this] at hp; exact hp rfl
                have qp : (t.per.toList == []) = false := by rw [beq_eq_false_iff_ne]; exact qp2
                obtain ⟨n6, hn6⟩ : ∃ c, isNm t.per = c := ⟨_, rfl⟩
                obtain ⟨r, hr'⟩ : ∃ r, findC t.cols t.per = r := ⟨_, rfl⟩
                obtain ⟨f7, hf7⟩ : ∃ c, decide (r = -1) = c := ⟨_, rfl⟩
                obtain ⟨d8, hd8⟩ : ∃ c, decide (t.fr ≠ t.tt) = c := ⟨_, rfl⟩
                obtain ⟨g1, hg1⟩ : ∃ c, edgeB t.cols t.fr = c := ⟨_, rfl⟩
                obtain ⟨g2, hg2⟩ : ∃ c, edgeB t.cols t.tt = c := ⟨_, rfl⟩
                obtain ⟨u1, hu1⟩ : ∃ c, soundB t.cols t.fr = c := ⟨_, rfl⟩
                obtain ⟨u2, hu2⟩ : ∃ c, soundB t.cols t.tt = c := ⟨_, rfl⟩
                have q7 : (r != -1) = !f7 := by rw [← hf7, Bool.eq_iff_iff]; simp
                have q8 : (t.fr == t.tt) = !d8 := by rw [← hd8, Bool.eq_iff_iff]; simp
                have HP := HPer.out
                rw [if_neg hp, hn6, hr', hf7, hd8, hg1, hg2] at HP
                have HA := HAp.out
                rw [show decide (t.per.size ≠ 0) = true by simp [hp], Bool.true_and] at HA
                have HOk2 : Hid (T = ((n6 && (f7 && (d8 && (g1 && g2)))) && (!t.apart || Ab))) := by
                  show _ = _
                  rw [HOk.out, HP]; simp
                have HA2 := Lib.hid HA
                have HS1 := Lib.hid (HS.out t.fr)
                have HS2 := Lib.hid (HS.out t.tt)
                rw [hn6] at HNp
                rw [hr'] at HFp
                rw [hu1] at HS1
                rw [hu2] at HS2
                have HU1 := Lib.hid hu1
                have HU2 := Lib.hid hu2
                have HG1 := Lib.hid hg1
                have HG2 := Lib.hid hg2
                clear HP HA hp hn6 hr' hf7 hd8 hg1 hg2 hu1 hu2 HPer HAp HOk HS
                go_wp2_with fail
                refine (HNp.out _).mono ?_
                rintro e w6 ⟨rfl, hb6⟩
                have hX6 := HX5.out.later hs5 hb6
                have hs6 := Nat.lt_of_lt_of_le hs5 hb6.size
                have HB6 := Lib.hid (HB5.out.trans (hb6.mono (Nat.le_of_lt hs5)))
                have HX6 := Lib.hid hX6
                clear hb6 hs5 HX5 HB5 x0 x1 x2 x3 x4 x5 x6 x7
                obtain ⟨x0, x1, x2, x3, x4, x5, x6, x7⟩ := hX6
                dsimp only at x0 x1 x2 x3 x4 x5 x6 x7
                cases n6 with
                | false =>
                  go_wp2
                  go_ret
                  exact ⟨ret_b (by rw [HOk2.out]; simp), HB6.out⟩
                | true =>
                  go_wp2_with fail
                  refine (HFp.out _ HB6.out).mono ?_
                  rintro e w7 ⟨rfl, hb7⟩
                  have hX7 := HX6.out.later hs6 hb7
                  have hs7 := Nat.lt_of_lt_of_le hs6 hb7.size
                  have HB7 := Lib.hid (HB6.out.trans (hb7.mono (Nat.le_of_lt hs6)))
                  have HX7 := Lib.hid hX7
                  clear hb7 hs6 HX6 HB6 x0 x1 x2 x3 x4 x5 x6 x7
                  obtain ⟨x0, x1, x2, x3, x4, x5, x6, x7⟩ := hX7
                  dsimp only at x0 x1 x2 x3 x4 x5 x6 x7
                  cases f7 with
                  | false =>
                    simp only [Bool.not_false] at q7
                    go_wp2
                    go_ret
                    exact ⟨ret_b (by rw [HOk2.out]; simp), HB7.out⟩
                  | true =>
                    simp only [Bool.not_true] at q7
                    go_wp2_with fail
                    refine (HS1.out _ HB7.out).mono ?_
                    rintro e w8 ⟨rfl, hb8⟩
                    have hX8 := HX7.out.later hs7 hb8
                    have hs8 := Nat.lt_of_lt_of_le hs7 hb8.size
                    have HB8 := Lib.hid (HB7.out.trans (hb8.mono (Nat.le_of_lt hs7)))
                    have HX8 := Lib.hid hX8
                    clear hb8 hs7 HX7 HB7 x0 x1 x2 x3 x4 x5 x6 x7
                    obtain ⟨x0, x1, x2, x3, x4, x5, x6, x7⟩ := hX8
                    dsimp only at x0 x1 x2 x3 x4 x5 x6 x7
                    cases u1 with
                    | false =>
                      have HZ : Hid (g1 = false) := by rw [Hid, ← HG1.out]; exact edge_sound HU1.out
                      go_wp2
                      go_ret
                      exact ⟨ret_b (by rw [HOk2.out, HZ.out]; simp), HB8.out⟩
                    | true =>
                      go_wp2_with fail
                      refine (HS2.out _ HB8.out).mono ?_
                      rintro e w9 ⟨rfl, hb9⟩
                      have hX9 := HX8.out.later hs8 hb9
                      have hs9 := Nat.lt_of_lt_of_le hs8 hb9.size
                      have HB9 := Lib.hid (HB8.out.trans (hb9.mono (Nat.le_of_lt hs8)))
                      have HX9 := Lib.hid hX9
                      clear hb9 hs8 HX8 HB8 x0 x1 x2 x3 x4 x5 x6 x7
                      obtain ⟨x0, x1, x2, x3, x4, x5, x6, x7⟩ := hX9
                      dsimp only at x0 x1 x2 x3 x4 x5 x6 x7
                      cases u2 with
                      | false =>
                        have HZ : Hid (g2 = false) := by rw [Hid, ← HG2.out]; exact edge_sound HU2.out
                        go_wp2
                        go_ret
                        exact ⟨ret_b (by rw [HOk2.out, HZ.out]; simp), HB9.out⟩
                      | true =>
                        cases d8 with
                        | false =>
                          simp only [Bool.not_false] at q8
                          go_wp2
                          go_ret
                          exact ⟨ret_b (by rw [HOk2.out]; simp), HB9.out⟩
                        | true =>
                          simp only [Bool.not_true] at q8
                          obtain ⟨i, hfi, hil⟩ := (soundB_iff.1 HU1.out).nat
                          obtain ⟨j, hfj, hjl⟩ := (soundB_iff.1 HU2.out).nat
                          have hg1 := HG1.out
                          have hg2 := HG2.out
                          have hn1 := HU1.out
                          have hn2 := HU2.out
                          rw [hfi] at hg1 hn1 x4
                          rw [hfj] at hg2 hn2 x5
                          rw [soundB_eq hil] at hn1
                          rw [soundB_eq hjl] at hn2
                          rw [edge_kind hil hn1] at hg1
                          rw [edge_kind hjl hn2] at hg2
                          have HA3 := HA2.out
                          rw [hfi, hfj] at HA3 q8
                          obtain ⟨b, o, hca, hbN, -, k1, -⟩ := colAt HCol.out hil
                          obtain ⟨b', o', hca', hbN', -, k2, -⟩ := colAt HCol.out hjl
                          subst hca
                          simp only [Option.some.injEq, Addr.mk.injEq, and_true] at hca'
                          obtain ⟨rfl, rfl⟩ := hca'
                          replace k1 := (HB9.out.cell (p := ⟨b, o + i * 3 + 1, none⟩) hbN).trans k1
                          replace k2 := (HB9.out.cell (p := ⟨b, o + j * 3 + 1, none⟩) hbN).trans k2
                          have z1 : ((t.cols[i].kd : Int) != 1) = !g1 := by rw [← hg1, Bool.eq_iff_iff]; simp; omega
                          have z2 : ((t.cols[j].kd : Int) != 1) = !g2 := by rw [← hg2, Bool.eq_iff_iff]; simp; omega
                          obtain ⟨a1, ha1⟩ : ∃ c, decide ((i : Int) ∈ t.key) = c := ⟨_, rfl⟩
                          obtain ⟨a2, ha2⟩ : ∃ c, decide ((j : Int) ∈ t.key) = c := ⟨_, rfl⟩
                          have HM1 := Lib.hid (HAm.out (i : Int))
                          have HM2 := Lib.hid (HAm.out (j : Int))
                          rw [ha1] at HM1 HA3
                          rw [ha2] at HM2 HA3
                          obtain ⟨ap, hap⟩ : ∃ c, t.apart = c := ⟨_, rfl⟩
                          rw [hap] at x6 HOk2
                          have HA4 := Lib.hid HA3
                          generalize t.cols[i].kd = kd1 at *
                          generalize t.cols[j].kd = kd2 at *
                          clear hg1 hg2 hn1 hn2 hfi hfj HA3 ha1 ha2 hap hbN hbN' HAm HA2 HU1 HU2 HG1 HG2
                          cases g1 with
                          | false =>
                            simp only [Bool.not_false] at z1
                            go_wp2
                            go_ret
                            exact ⟨ret_b (by rw [HOk2.out]; simp), HB9.out⟩
                          | true =>
                            simp only [Bool.not_true] at z1
                            cases g2 with
                            | false =>
                              simp only [Bool.not_false] at z2
                              go_wp2
                              go_ret
                              exact ⟨ret_b (by rw [HOk2.out]; simp), HB9.out⟩
                            | true =>
                              simp only [Bool.not_true] at z2
                              cases ap with
                              | false =>
                                go_wp2
                                go_ret
                                exact ⟨ret_b (by rw [HOk2.out]; simp), HB9.out⟩
                              | true =>
                                go_wp2_with fail
                                refine (HM1.out _ HB9.out).mono ?_
                                rintro e wy ⟨rfl, rfl⟩
                                cases a1 with
                                | true =>
                                  go_wp2
                                  go_ret
                                  exact ⟨ret_b (by rw [HOk2.out, HA4.out]; simp), HB9.out⟩
                                | false =>
                                  go_wp2_with fail
                                  refine (HM2.out _ HB9.out).mono ?_
                                  rintro e wz ⟨rfl, rfl⟩
                                  go_wp2
                                  go_ret
                                  exact ⟨ret_b (by rw [HOk2.out, HA4.out]; simp), HB9.out⟩
end Go.Proofs.Ytialpfdhdcjpaaa

/- The reference of layer 15: the walk of Same. -/
set_option linter.unusedSimpArgs false
set_option linter.unusedVariables false
set_option maxRecDepth 100000
namespace Go.Proofs.Ytialpfdhdcjpaaa
open Go.RowKit

@[go_sem high] theorem eqColR (n n' : Int) (s s' : ByteArray) (p p' : Bool) (w : World) : (Op.equalIn 10000 69 (.agg #[.string s, .int .u8 n, .bool p]) (.agg #[.string s', .int .u8 n', .bool p'])).run Try.prog w = .ok (s.toList == s'.toList && (n == n' && p == p')) w := by
  have hS : Try.prog.underlying 69 = some (.struct (Try.prog.fieldsOf 69)) := by kernel_rfl
  have hp : Try.prog.stoodInHeld 69 = false := by kernel_rfl
  rw [show (10000 : Nat) = 9999 + 1 from rfl, run_equalIn_agg w 9999 69 _ _ hS hp]
  simp only [Program.fieldsOf, Try.underlying69]
  go_simp
  by_cases h1 : n = n' <;> by_cases h2 : s.toList = s'.toList <;> by_cases h3 : p = p' <;> simp [h1, h2, h3]
@[go_sem] theorem eqGuardColR : Try.prog.eqGuardType Try.prog.depth 69 = false := by kernel_rfl

set_option maxHeartbeats 4000000 in
theorem rSame_any (t u : Tb) (m n : TM) (w : World) (h : TAt w t m) (h' : TAt w u n) :
    Calls Try.prog 17 #[m.v t, n.v u] w fun e w' => e = .returned (.bool (decide (t = u))) ∧ Below w.heap.size w w' := by
  have HTC := Lib.hid h.carr
  have HUC := Lib.hid h'.carr
  have HTK := Lib.hid h.karr
  have HUK := Lib.hid h'.karr
  have hcl := h.hc
  have hcl' := h'.hc
  have hkl := h.hk
  have hkl' := h'.hk
  have hcm := h.cmax
  have hkm := h.kmax
  have hcm' := h'.cmax
  have hkm' := h'.kmax
  have hd : decide (t = u) = (decide (t.name = u.name) && (decide (t.cols = u.cols) && (decide (t.key = u.key) && (decide (t.per = u.per) && (decide (t.fr = u.fr) && (decide (t.tt = u.tt) && (decide (t.apart = u.apart) && decide (t.vers = u.vers)))))))) := by
    obtain ⟨a1, a2, a3, a4, a5, a6, a7, a8⟩ := t
    obtain ⟨b1, b2, b3, b4, b5, b6, b7, b8⟩ := u
    rw [Bool.eq_iff_iff]
    simp
  rw [hd]
  obtain ⟨W0, hW0⟩ : ∃ W0, W0 = (w.alloc (.cells (m.cs t) 30)).alloc (.cells (n.cs u) 30) := ⟨_, rfl⟩
  have hBW : Below w.heap.size w W0 := by rw [hW0]; exact ((Below.refl _ w).alloc (Nat.le_refl _) _).alloc (by simp) _
  have hX0 : TBox W0 w.heap.size m t := by rw [hW0]; exact (TBox.new w m t _).later (N := w.heap.size + 1) (by omega) ((Below.refl _ _).alloc (by simp) _)
  have hY0 : TBox W0 (w.heap.size + 1) n u := by
    rw [hW0]
    have := TBox.new (w.alloc (.cells (m.cs t) 30)) n u 30
    rw [show (w.alloc (.cells (m.cs t) 30)).heap.size = w.heap.size + 1 by simp] at this
    exact this
  have hs0 : w.heap.size + 1 < W0.heap.size := by rw [hW0]; simp
  clear hd h h'
  obtain ⟨c1, q1⟩ : ∃ c, decide (t.name = u.name) = c := ⟨_, rfl⟩
  obtain ⟨c2, q2⟩ : ∃ c, decide (t.cols = u.cols) = c := ⟨_, rfl⟩
  obtain ⟨c3, q3⟩ : ∃ c, decide (t.key = u.key) = c := ⟨_, rfl⟩
  obtain ⟨c4, q4⟩ : ∃ c, decide (t.per = u.per) = c := ⟨_, rfl⟩
  obtain ⟨c5, q5⟩ : ∃ c, decide (t.fr = u.fr) = c := ⟨_, rfl⟩
  obtain ⟨c6, q6⟩ : ∃ c, decide (t.tt = u.tt) = c := ⟨_, rfl⟩
  obtain ⟨c7, q7⟩ : ∃ c, decide (t.apart = u.apart) = c := ⟨_, rfl⟩
  obtain ⟨c8, q8⟩ : ∃ c, decide (t.vers = u.vers) = c := ⟨_, rfl⟩
  have p1 : (t.name.toList == u.name.toList) = c1 := by rw [← q1, Bool.eq_iff_iff, beq_iff_eq, decide_eq_true_iff]; exact ⟨fun h => toList_inj h, fun h => by rw [h]⟩
  have p4 : (t.per.toList == u.per.toList) = c4 := by rw [← q4, Bool.eq_iff_iff, beq_iff_eq, decide_eq_true_iff]; exact ⟨fun h => toList_inj h, fun h => by rw [h]⟩
  have p5 : (t.fr == u.fr) = c5 := by rw [← q5]; rfl
  have p6 : (t.tt == u.tt) = c6 := by rw [← q6]; rfl
  have p7 : (t.apart == u.apart) = c7 := by rw [← q7]; rfl
  have p8 : (t.vers == u.vers) = c8 := by rw [← q8]; rfl
  rw [q1, q2, q3, q4, q5, q6, q7, q8]
  have Q2 := Lib.hid q2
  have Q3 := Lib.hid q3
  have HB0 := Lib.hid hBW
  have HX0 := Lib.hid hX0
  have HY0 := Lib.hid hY0
  have HTL := Lib.hid (fun W W' (hX : TBox W w.heap.size m t) (hY : TBox W (w.heap.size + 1) n u) (hlt : w.heap.size + 1 < W.heap.size) (hb : Below W.heap.size W W') => And.intro (TBox.later hX (N := W.heap.size) (by omega) hb) (TBox.later hY hlt hb))
  have p1' := p1
  clear q1 q2 q3 q4 q5 q6 q7 q8 hBW hX0 hY0 p1 HTL
  obtain ⟨ca, cl, cc, ka, kl, kc⟩ := m
  obtain ⟨ca', cl', cc', ka', kl', kc'⟩ := n
  dsimp only at hcl hcl' hkl hkl' hcm hkm hcm' hkm' HTC HUC HTK HUK
  subst hcl hcl' hkl hkl'
  obtain ⟨x0, x1, x2, x3, x4, x5, x6, x7⟩ := HX0.out
  obtain ⟨y0, y1, y2, y3, y4, y5, y6, y7⟩ := HY0.out
  dsimp only at x0 x1 x2 x3 x4 x5 x6 x7 y0 y1 y2 y3 y4 y5 y6 y7
  subst hW0
  go_enter Try.func17, Try.ntmps17
  cases c1 with
  | false =>
    have hnb2 : ¬ t.name.toList = u.name.toList := by simpa using p1'
    go_wp2
    go_ret
    exact ⟨ret_b (by simp), HB0.out⟩
  | true =>
    have hnb2 : t.name.toList = u.name.toList := by simpa using p1'
    by_cases hlc : t.cols.length = u.cols.length
    · have ql : ((t.cols.length : Int) != (u.cols.length : Int)) = false := by simp [hlc]
      have HLC := Lib.hid hlc
      clear hlc
      by_cases hlk : t.key.length = u.key.length
      · have qk : ((t.key.length : Int) != (u.key.length : Int)) = false := by simp [hlk]
        have HLK := Lib.hid hlk
        clear hlk
        go_wp2_with fail
        go_loopw [5] (fun i wr => ∃ k : Nat, k ≤ t.cols.length ∧ i = .int .i64 k ∧ Hid (t.cols.take k = u.cols.take k) ∧ Below w.heap.size w wr ∧ Hid (TBox wr w.heap.size ⟨ca, t.cols.length, cc, ka, t.key.length, kc⟩ t ∧ TBox wr (w.heap.size + 1) ⟨ca', u.cols.length, cc', ka', u.key.length, kc'⟩ u) ∧ w.heap.size + 1 < wr.heap.size) (fun i _ => t.cols.length - (intOf i).toNat)
        case atStart => exact ⟨0, by omega, rfl, (by simp [Hid]), HB0.out, ⟨HX0.out, HY0.out⟩, hs0⟩
        case round =>
          clear x0 x1 x2 x3 x4 x5 x6 x7 y0 y1 y2 y3 y4 y5 y6 y7 HX0 HY0 HB0 hs0
          obtain ⟨k, hk, rfl, HI, hb, HXY, hsz⟩ := hrel
          obtain ⟨x0, x1, x2, x3, x4, x5, x6, x7⟩ := HXY.out.1
          obtain ⟨y0, y1, y2, y3, y4, y5, y6, y7⟩ := HXY.out.2
          dsimp only at x0 x1 x2 x3 x4 x5 x6 x7 y0 y1 y2 y3 y4 y5 y6 y7
          by_cases hlt : k < t.cols.length
          · have hku : k < u.cols.length := by have := HLC.out; omega
            obtain ⟨b, o, rfl, hbN, g0, g1, g2⟩ := colAt HTC.out hlt
            obtain ⟨b', o', rfl, hbN', z0, z1, z2⟩ := colAt HUC.out hku
            have HL : Hid (∀ W, Later wr.drew W → Below w.heap.size w W ∧ W.cell? ⟨w.heap.size, 1, none⟩ = some (.slice (some ⟨b, o, none⟩) t.cols.length cc) ∧ W.cell? ⟨w.heap.size + 1, 1, none⟩ = some (.slice (some ⟨b', o', none⟩) u.cols.length cc')) := fun W hW => by
              have h1 := Later.undrew hW
              exact ⟨hb.trans (Below.mono h1 (by omega)), (Below.cell h1 (p := ⟨w.heap.size, 1, none⟩) (by show w.heap.size < wr.heap.size; omega)).trans x1, (Below.cell h1 (p := ⟨w.heap.size + 1, 1, none⟩) hsz).trans y1⟩
            have e1 := fun W hW => (HL.out W hW).2.1
            have e2 := fun W hW => (HL.out W hW).2.2
            have d0 : ∀ W, Later wr.drew W → W.cell? ⟨b, o + k * 3, none⟩ = some (.string t.cols[k].nm) := fun W hW => ((HL.out W hW).1.cell (p := ⟨b, o + k * 3, none⟩) hbN).trans g0
            have d1 : ∀ W, Later wr.drew W → W.cell? ⟨b, o + k * 3 + 1, none⟩ = some (.int .u8 (t.cols[k].kd : Int)) := fun W hW => ((HL.out W hW).1.cell (p := ⟨b, o + k * 3 + 1, none⟩) hbN).trans g1
            have d2 : ∀ W, Later wr.drew W → W.cell? ⟨b, o + k * 3 + 2, none⟩ = some (.bool t.cols[k].nn) := fun W hW => ((HL.out W hW).1.cell (p := ⟨b, o + k * 3 + 2, none⟩) hbN).trans g2
            have d3 : ∀ W, Later wr.drew W → W.cell? ⟨b', o' + k * 3, none⟩ = some (.string u.cols[k].nm) := fun W hW => ((HL.out W hW).1.cell (p := ⟨b', o' + k * 3, none⟩) hbN').trans z0
            have d4 : ∀ W, Later wr.drew W → W.cell? ⟨b', o' + k * 3 + 1, none⟩ = some (.int .u8 (u.cols[k].kd : Int)) := fun W hW => ((HL.out W hW).1.cell (p := ⟨b', o' + k * 3 + 1, none⟩) hbN').trans z1
            have d5 : ∀ W, Later wr.drew W → W.cell? ⟨b', o' + k * 3 + 2, none⟩ = some (.bool u.cols[k].nn) := fun W hW => ((HL.out W hW).1.cell (p := ⟨b', o' + k * 3 + 2, none⟩) hbN').trans z2
            have HT : Hid (t.cols[k] = u.cols[k] → t.cols.take (k + 1) = u.cols.take (k + 1)) := fun h => take_stepS hlt hku HI.out h
            have HF : Hid (t.cols[k] ≠ u.cols[k] → c2 = false) := fun h => by rw [← Q2.out]; exact decide_eq_false (ne_of_getS hlt hku h)
            generalize t.cols[k] = x at *
            generalize u.cols[k] = y at *
            clear g0 g1 g2 z0 z1 z2 hbN hbN' HI
            by_cases hxy : x = y
            · subst hxy
              have HT2 := Lib.hid (HT.out rfl)
              clear HT HF
              go_wp2_with fail
              clear x0 x1 x2 x3 x4 x5 x6 x7 y0 y1 y2 y3 y4 y5 y6 y7
              refine wp_region_ord [(0, true), (1, true), (2, true), (3, true), (4, true), (5, true), (6, true), (7, true), (8, true), (9, true), (10, true)] (by kernel_rfl) (by kernel_rfl) (by kernel_rfl) (by kernel_rfl) ?_
              repeat (first | (refine wpO_F (v := ?_) rfl (by rfl) (fun w' hL => ?_) ?_; rotate_left; (solve | (go_simp; with_reducible rfl) | go_simp); try simp only [Act.put, List.setIfInBounds_toArray, List.set_cons_zero, List.set_cons_succ]) | (refine wpO_G rfl (by rfl) ?_; try simp only [Act.put, List.setIfInBounds_toArray, List.set_cons_zero, List.set_cons_succ]))
              refine wpO_nil ?_
              clear d0 d1 d2 d3 d4 d5 e1 e2
              go_wp2
              go_roundw
              case rel => exact ⟨k + 1, by omega, by go_num, HT2, hb.drew, ⟨⟨HXY.out.1.c0, HXY.out.1.c1, HXY.out.1.c2, HXY.out.1.c3, HXY.out.1.c4, HXY.out.1.c5, HXY.out.1.c6, HXY.out.1.c7⟩, ⟨HXY.out.2.c0, HXY.out.2.c1, HXY.out.2.c2, HXY.out.2.c3, HXY.out.2.c4, HXY.out.2.c5, HXY.out.2.c6, HXY.out.2.c7⟩⟩, hsz⟩
              case measure => simp [intOf]; omega
            · have HF2 := Lib.hid (HF.out hxy)
              obtain ⟨xn, xk, xb⟩ := x
              obtain ⟨yn, yk, yb⟩ := y
              have hnb := ne_colS xn yn xk yk xb yb hxy
              simp only at d0 d1 d2 d3 d4 d5
              have HBw := Lib.hid hb
              clear HT HF hxy hb HXY
              go_wp2_with fail
              clear x0 x1 x2 x3 x4 x5 x6 x7 y0 y1 y2 y3 y4 y5 y6 y7
              refine wp_region_ord [(0, true), (1, true), (2, true), (3, true), (4, true), (5, true), (6, true), (7, true), (8, true), (9, true), (10, true)] (by kernel_rfl) (by kernel_rfl) (by kernel_rfl) (by kernel_rfl) ?_
              repeat (first | (refine wpO_F (v := ?_) rfl (by rfl) (fun w' hL => ?_) ?_; rotate_left; (solve | (go_simp; with_reducible rfl) | go_simp); try simp only [Act.put, List.setIfInBounds_toArray, List.set_cons_zero, List.set_cons_succ]) | (refine wpO_G rfl (by rfl) ?_; try simp only [Act.put, List.setIfInBounds_toArray, List.set_cons_zero, List.set_cons_succ]))
              refine wpO_nil ?_
              clear d0 d1 d2 d3 d4 d5 e1 e2
              go_wp2
              go_ret
              exact ⟨ret_b (by rw [HF2.out]; simp), HBw.out.drew⟩
          · have hce : t.cols = u.cols := by
              have h1 : t.cols.take k = t.cols := List.take_of_length_le (by omega)
              have h2 : u.cols.take k = u.cols := List.take_of_length_le (by have := HLC.out; omega)
              have := HI.out
              rw [h1, h2] at this; exact this
            have hc2 : c2 = true := by rw [← Q2.out]; exact decide_eq_true hce
            subst hc2
            clear HI hce HTC HUC
            go_wp2_with fail
            go_loopw [6] (fun i wr => ∃ k : Nat, k ≤ t.key.length ∧ i = .int .i64 k ∧ Hid (t.key.take k = u.key.take k) ∧ Below w.heap.size w wr ∧ Hid (TBox wr w.heap.size ⟨ca, t.cols.length, cc, ka, t.key.length, kc⟩ t ∧ TBox wr (w.heap.size + 1) ⟨ca', u.cols.length, cc', ka', u.key.length, kc'⟩ u) ∧ w.heap.size + 1 < wr.heap.size) (fun i _ => t.key.length - (intOf i).toNat)
            case atStart => exact ⟨0, by omega, rfl, (by simp [Hid]), hb, HXY, hsz⟩
            case round =>
              clear x0 x1 x2 x3 x4 x5 x6 x7 y0 y1 y2 y3 y4 y5 y6 y7 HXY hb hsz
              obtain ⟨k, hk, rfl, HI, hb, HXY, hsz⟩ := hrel
              obtain ⟨x0, x1, x2, x3, x4, x5, x6, x7⟩ := HXY.out.1
              obtain ⟨y0, y1, y2, y3, y4, y5, y6, y7⟩ := HXY.out.2
              dsimp only at x0 x1 x2 x3 x4 x5 x6 x7 y0 y1 y2 y3 y4 y5 y6 y7
              by_cases hlt : k < t.key.length
              · have hku : k < u.key.length := by have := HLK.out; omega
                obtain ⟨b, o, rfl, hbN, g0⟩ := intAt HTK.out hlt
                obtain ⟨b', o', rfl, hbN', z0⟩ := intAt HUK.out hku
                have HL : Hid (∀ W, Later wr.drew W → Below w.heap.size w W ∧ W.cell? ⟨w.heap.size, 2, none⟩ = some (.slice (some ⟨b, o, none⟩) t.key.length kc) ∧ W.cell? ⟨w.heap.size + 1, 2, none⟩ = some (.slice (some ⟨b', o', none⟩) u.key.length kc')) := fun W hW => by
                  have h1 := Later.undrew hW
                  exact ⟨hb.trans (Below.mono h1 (by omega)), (Below.cell h1 (p := ⟨w.heap.size, 2, none⟩) (by show w.heap.size < wr.heap.size; omega)).trans x2, (Below.cell h1 (p := ⟨w.heap.size + 1, 2, none⟩) hsz).trans y2⟩
                have e1 := fun W hW => (HL.out W hW).2.1
                have e2 := fun W hW => (HL.out W hW).2.2
                have d0 : ∀ W, Later wr.drew W → W.cell? ⟨b, o + k, none⟩ = some (.int .i64 t.key[k]) := fun W hW => ((HL.out W hW).1.cell (p := ⟨b, o + k, none⟩) hbN).trans g0
                have d3 : ∀ W, Later wr.drew W → W.cell? ⟨b', o' + k, none⟩ = some (.int .i64 u.key[k]) := fun W hW => ((HL.out W hW).1.cell (p := ⟨b', o' + k, none⟩) hbN').trans z0
                have HT : Hid (t.key[k] = u.key[k] → t.key.take (k + 1) = u.key.take (k + 1)) := fun h => take_stepS hlt hku HI.out h
                have HF : Hid (t.key[k] ≠ u.key[k] → c3 = false) := fun h => by rw [← Q3.out]; exact decide_eq_false (ne_of_getS hlt hku h)
                generalize t.key[k] = x at *
                generalize u.key[k] = y at *
                clear g0 z0 hbN hbN' HI
                by_cases hxy : x = y
                · subst hxy
                  have HT2 := Lib.hid (HT.out rfl)
                  clear HT HF
                  go_wp2_with fail
                  clear x0 x1 x2 x3 x4 x5 x6 x7 y0 y1 y2 y3 y4 y5 y6 y7
                  refine wp_region_ord [(0, true), (1, true), (2, true), (3, true), (4, true), (5, true), (6, true), (7, true), (8, true), (9, true), (10, true)] (by kernel_rfl) (by kernel_rfl) (by kernel_rfl) (by kernel_rfl) ?_
                  repeat (first | (refine wpO_F (v := ?_) rfl (by rfl) (fun w' hL => ?_) ?_; rotate_left; (solve | (go_simp; with_reducible rfl) | go_simp); try simp only [Act.put, List.setIfInBounds_toArray, List.set_cons_zero, List.set_cons_succ]) | (refine wpO_G rfl (by rfl) ?_; try simp only [Act.put, List.setIfInBounds_toArray, List.set_cons_zero, List.set_cons_succ]))
                  refine wpO_nil ?_
                  clear d0 d3 e1 e2
                  go_wp2
                  go_roundw
                  case rel => exact ⟨k + 1, by omega, by go_num, HT2, hb.drew, ⟨⟨HXY.out.1.c0, HXY.out.1.c1, HXY.out.1.c2, HXY.out.1.c3, HXY.out.1.c4, HXY.out.1.c5, HXY.out.1.c6, HXY.out.1.c7⟩, ⟨HXY.out.2.c0, HXY.out.2.c1, HXY.out.2.c2, HXY.out.2.c3, HXY.out.2.c4, HXY.out.2.c5, HXY.out.2.c6, HXY.out.2.c7⟩⟩, hsz⟩
                  case measure => simp [intOf]; omega
                · have HF2 := Lib.hid (HF.out hxy)
                  have hnb : (x == y) = false := by simpa using hxy
                  have hnb2 : (x != y) = true := by simpa using hxy
                  have HBw := Lib.hid hb
                  clear HT HF hxy hb HXY
                  go_wp2_with fail
                  clear x0 x1 x2 x3 x4 x5 x6 x7 y0 y1 y2 y3 y4 y5 y6 y7
                  refine wp_region_ord [(0, true), (1, true), (2, true), (3, true), (4, true), (5, true), (6, true), (7, true), (8, true), (9, true), (10, true)] (by kernel_rfl) (by kernel_rfl) (by kernel_rfl) (by kernel_rfl) ?_
                  repeat (first | (refine wpO_F (v := ?_) rfl (by rfl) (fun w' hL => ?_) ?_; rotate_left; (solve | (go_simp; with_reducible rfl) | go_simp); try simp only [Act.put, List.setIfInBounds_toArray, List.set_cons_zero, List.set_cons_succ]) | (refine wpO_G rfl (by rfl) ?_; try simp only [Act.put, List.setIfInBounds_toArray, List.set_cons_zero, List.set_cons_succ]))
                  refine wpO_nil ?_
                  clear d0 d3 e1 e2
                  go_wp2
                  go_ret
                  exact ⟨ret_b (by rw [HF2.out]; simp), HBw.out.drew⟩
              · have hce : t.key = u.key := by
                  have h1 : t.key.take k = t.key := List.take_of_length_le (by omega)
                  have h2 : u.key.take k = u.key := List.take_of_length_le (by have := HLK.out; omega)
                  have := HI.out
                  rw [h1, h2] at this; exact this
                have hc3 : c3 = true := by rw [← Q3.out]; exact decide_eq_true hce
                subst hc3
                have HBw := Lib.hid hb
                clear HI hce HTK HUK hb HXY
                cases c4 with
                | false =>
                  go_wp2
                  go_ret
                  exact ⟨ret_b (by simp), HBw.out⟩
                | true =>
                  cases c5 with
                  | false =>
                    go_wp2
                    go_ret
                    exact ⟨ret_b (by simp), HBw.out⟩
                  | true =>
                    cases c6 with
                    | false =>
                      go_wp2
                      go_ret
                      exact ⟨ret_b (by simp), HBw.out⟩
                    | true =>
                      cases c7 with
                      | false =>
                        go_wp2
                        go_ret
                        exact ⟨ret_b (by simp), HBw.out⟩
                      | true =>
                        go_wp2
                        go_ret
                        exact ⟨ret_b (by simp), HBw.out⟩
      · have qk : ((t.key.length : Int) != (u.key.length : Int)) = true := by simp; omega
        have hc3 : c3 = false := by rw [← Q3.out]; exact decide_eq_false (by intro h; rw [h] at hlk; exact hlk rfl)
        subst hc3
        clear hlk
        go_wp2
        go_ret
        exact ⟨ret_b (by simp), HB0.out⟩
    · have ql : ((t.cols.length : Int) != (u.cols.length : Int)) = true := by simp; omega
      have hc2 : c2 = false := by rw [← Q2.out]; exact decide_eq_false (by intro h; rw [h] at hlc; exact hlc rfl)
      subst hc2
      clear hlc
      go_wp2
      go_ret
      exact ⟨ret_b (by simp), HB0.out⟩
end Go.Proofs.Ytialpfdhdcjpaaa
