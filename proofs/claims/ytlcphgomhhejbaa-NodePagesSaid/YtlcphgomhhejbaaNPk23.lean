/- Several texts of one proof, one behind the other. -/
import Derived.Test.YtlcphgomhhejbaaNPk22
import Derived.IntWalk
import Derived.Deep.Cut
set_option linter.unusedSimpArgs false
set_option linter.unusedVariables false

/- The walk of the law's As, of a leaf. -/
namespace Go.Proofs.Ytlcphgomhhejbaa
open Go.RowKit

/-- The world's last block holds something else. -/
theorem chg_alloc2 (w : World) (T : TypeId) (a b : Array Value) : Chg [w.heap.size] (w.alloc (.cells a T)).drew (w.alloc (.cells b T)).drew := by
  refine ⟨rfl, rfl, rfl, by simp, fun k hk hn => ?_⟩
  have hk2 : k < w.heap.size := by
    have h1 : (w.alloc (.cells a T)).drew.heap.size = w.heap.size + 1 := by simp
    rw [h1] at hk
    simp only [List.mem_singleton] at hn
    omega
  exact (Below.heap_alloc w _ k hk2).trans (Below.heap_alloc w _ k hk2).symm

theorem info_part : (Try.prog.info? 65).map (fun i => (i.zero, i.size, i.bytes)) = some (some (.agg #[.string ⟨#[]⟩, .int .i64 0, .string ⟨#[]⟩, .int .i64 0]), 4, 48) := by kernel_rfl
theorem asR_fair {w : World} {n : Nd} {m : NB} (h : NAt w n m) (hs : n.shaped = true) : ∀ p ∈ n.asR.l, p.fair := by
  intro p hp
  obtain ⟨i, hi⟩ := List.getElem?_of_mem hp
  cases hl : n.leaf with
  | true =>
    obtain ⟨h1, h2⟩ := (part_leaf hs hl).2.2 i p hi
    have hk := h.kfair _ (List.mem_of_getElem? h1)
    have hc := h.cfair _ (List.mem_of_getElem? h2)
    exact ⟨hk, hc.1, hc.2.1, hc.2.2⟩
  | false =>
    obtain ⟨h1, h2, h3, h4⟩ := (part_inner hs hl).2.2.2 i p hi
    have hk := h.kfair _ (List.mem_of_getElem? h1)
    have hd := h.dfair _ (List.mem_of_getElem? h2)
    exact ⟨hk, by rw [h4]; simp [ByteArray.size], by omega, hd⟩
theorem asR_kidfair {w : World} {n : Nd} {m : NB} (h : NAt w n m) (hs : n.shaped = true) : -9223372036854775808 ≤ n.asR.kid ∧ n.asR.kid ≤ 9223372036854775807 := by
  cases hl : n.leaf with
  | true => unfold Nd.asR; rw [hl]; simp
  | false => exact h.dfair _ (List.mem_of_getElem? (part_inner hs hl).2.2.1)

/-- Where the loop stands. -/
structure AsInvleaf (w wr : World) (ka : Option Addr) (kl kc : Nat) (ca : Option Addr) (cl cc : Nat) (da : Option Addr) (dl dc : Nat) (kid : Int) (l : List Pt) (k : Nat) (la : Option Addr) (lc : Nat) : Prop where
  box : Blk wr w.heap.size 26 #[.bool true, .slice ka kl kc, .slice ca cl cc, .slice da dl dc]
  res : Blk wr (w.heap.size + 1) 32 #[.bool false, .int .i64 0, .slice none 0 0]
  out : Blk wr (w.heap.size + 1 + 1) 32 #[.bool true, .int .i64 kid, .slice la k lc]
  row : wr.ownsRow (w.heap.size + 1 + 1 + 1) 65 4 (.slice la k lc) k (cellsP (l.take k))
  bel : Below w.heap.size w wr

set_option maxRecDepth 100000 in
set_option maxHeartbeats 4000000 in
theorem as_leaf (n : Nd) (m : NB) (w : World) (h : NAt w n m) (hl : n.leaf = true) (hs : n.shaped = true) (hbig : m.kl ≤ 100000000) :
    Calls Try.prog 10 #[m.v true] w (RetAs w n) := by
  obtain ⟨iP, hiP, hzP, hsP, hbP⟩ := info_parts info_part
  have HX : Hid (∀ (la : Option Addr) (lc : Nat) W, m.kl ≤ lc → lc ≤ 9223372036854775807 → Arr W.heap.size W la (cellsP n.asR.l) → Below w.heap.size w W → RetAs w n (.returned (.tuple #[.agg #[.bool true, .int .i64 n.asR.kid, .slice la m.kl lc], .bool true])) W) := by
    intro la lc W h1 h2 h3 hb
    refine ⟨n.asR, ⟨la, m.kl, lc⟩, by rw [hs, asR_leaf, hl], fun _ => rfl, ⟨?_, h1, h.kmax, h3, ?_, ?_⟩, hb⟩
    · rw [asR_len hs]; exact h.hk
    · exact asR_kidfair h hs
    · exact asR_fair h hs
  have HLen : Hid (n.asR.l.length = m.kl) := by
    show _ = _
    rw [asR_len hs, h.hk]
  have HAt := Lib.hid (part_leaf hs hl)
  have HKA := Lib.hid h.karr
  have HCA := Lib.hid h.carr
  have HKF := Lib.hid (asR_fair h hs)
  have hsh := hs
  unfold Nd.shaped at hsh
  rw [hl] at hsh
  have hc := h.hc
  have hd := h.hd
  have hk := h.hk
  simp only [if_true, decide_eq_true_eq] at hsh
  have e1 : m.cl = m.kl := by omega
  have e2 : m.dl = 0 := by omega
  have hlR := asR_leaf n
  rw [hl] at hlR
  obtain ⟨R, hR⟩ : ∃ R, n.asR = R := ⟨_, rfl⟩
  rw [hR] at HX HLen HAt hlR HKF
  have hkid : R.kid = 0 := by rw [← hR]; unfold Nd.asR; rw [hl]; rfl
  obtain ⟨kid, hkd⟩ : ∃ kid, R.kid = kid := ⟨_, rfl⟩
  rw [hkd] at HX hkid
  
  clear hR hkd hsh hc hd hk hs h
  obtain ⟨ka, kl, kc, ca, cl, cc, da, dl, dc⟩ := m
  simp only at *
  obtain rfl : kl = cl := e1.symm
  subst e2 hkid
  generalize hRR : RetAs w n = RR at *
  clear hRR
  have HB0 : Hid (Below w.heap.size w (((w.alloc (.cells #[.bool true, .slice ka kl kc, .slice ca kl cc, .slice da 0 dc] 26)).alloc (.cells #[.bool false, .int .i64 0, .slice none 0 0] 32)).alloc (.cells #[.bool true, .int .i64 0, .slice none 0 0] 32))) := (((Below.refl _ w).alloc (Nat.le_refl _) _).alloc (by simp) _).alloc (by simp; omega) _
  have HI0 : Hid (AsInvleaf w (((w.alloc (.cells #[.bool true, .slice ka kl kc, .slice ca kl cc, .slice da 0 dc] 26)).alloc (.cells #[.bool false, .int .i64 0, .slice none 0 0] 32)).alloc (.cells #[.bool true, .int .i64 0, .slice none 0 0] 32)) ka kl kc ca kl cc da 0 dc 0 R.l 0 none 0) :=
    ⟨((Blk.new w _ _).alloc _).alloc _, (as_blks w _ _ _ _).1, (as_blks w _ _ _ _).2, World.ownsRow_nil _ _ _ _, HB0.out⟩
  clear HB0
  have q1 : ((kl : Int) != (kl : Int)) = false := by simp
  go_enter Try.func10, Try.ntmps10
  go_wp2_with fail
  go_loopw [5] (fun i wr => ∃ (k : Nat) (la : Option Addr) (lc : Nat), k ≤ kl ∧ i = .int .i64 k ∧ Hid (AsInvleaf w wr ka kl kc ca kl cc da 0 dc 0 R.l k la lc)) (fun i _ => kl - (intOf i).toNat)
  case atStart => exact ⟨0, none, 0, by omega, rfl, HI0⟩
  case round =>
    obtain ⟨k, la, lc, hk, rfl, HI⟩ := hrel
    have b0 : wr.cell? ⟨w.heap.size, 0, none⟩ = some (.bool true) := HI.out.box.cell 0
    have b1 : wr.cell? ⟨w.heap.size, 1, none⟩ = some (.slice ka kl kc) := HI.out.box.cell 1
    have hwlt : w.heap.size + 1 + 1 < wr.heap.size := HI.out.out.lt
    have hwlt0 : w.heap.size < wr.heap.size := by omega
    by_cases hlt : k < kl
    · have hkl : k < R.l.length := by have := HLen.out; omega
      have hx := List.getElem?_eq_getElem hkl
      have HXk := Lib.hid hx
      obtain ⟨hk1, hc1⟩ := HAt.out.2.2 k _ hx
      have hfr := HKF.out _ (List.getElem_mem hkl)
      obtain ⟨hkkl, hkke⟩ := List.getElem?_eq_some_iff.1 hk1
      obtain ⟨hccl, hcce⟩ := List.getElem?_eq_some_iff.1 hc1
      obtain ⟨b, o, rfl, hb, c0⟩ := strAt HKA.out hkkl
      obtain ⟨b2, o2, rfl, hb2, c1, c2, c3⟩ := cellAt HCA.out hccl
      rw [hkke] at c0
      rw [hcce] at c1 c2 c3
      clear hx hk1 hc1 hkke hcce hkkl hccl
      obtain ⟨⟨xk, xl, xd, xp⟩, hxx⟩ : ∃ x, R.l[k] = x := ⟨_, rfl⟩
      rw [hxx] at c0 c1 c2 c3 HXk hfr
      unfold Pt.fair at hfr
      simp only at c0 c1 c2 c3 hfr
      clear hxx
      obtain ⟨f1, f2, f3, f4⟩ := hfr
      have c0 := (HI.out.bel.cell (p := ⟨b, o + k, none⟩) hb).trans c0
      have D : Hid (∀ W, Chg [wr.heap.size] (wr.alloc (.cells #[.string xk, .int .i64 0, .string ⟨#[]⟩, .int .i64 0] 65)).drew W → W.cell? ⟨w.heap.size, 2, none⟩ = some (.slice (some ⟨b2, o2, none⟩) kl cc) ∧ W.cell? ⟨b2, o2 + k * 3, none⟩ = some (.int .i64 xl) ∧ W.cell? ⟨b2, o2 + k * 3 + 1, none⟩ = some (.string xd) ∧ W.cell? ⟨b2, o2 + k * 3 + 2, none⟩ = some (.int .i64 xp)) := by
        intro W hW
        have hW2 : Below wr.heap.size wr W := ((Below.refl _ wr).alloc (Nat.le_refl _) _).trans (hW.undrew.below (by simp) (by simp))
        have hW3 := HI.out.bel.trans (hW2.mono HI.out.bel.size)
        exact ⟨(HI.out.box.bel hW2 HI.out.box.lt).cell 2, (hW3.cell (p := ⟨b2, o2 + k * 3, none⟩) hb2).trans c1, (hW3.cell (p := ⟨b2, o2 + k * 3 + 1, none⟩) hb2).trans c2, (hW3.cell (p := ⟨b2, o2 + k * 3 + 2, none⟩) hb2).trans c3⟩
      clear c1 c2 c3
      have d0 : ∀ W, Chg [wr.heap.size] (wr.alloc (.cells #[.string xk, .int .i64 0, .string ⟨#[]⟩, .int .i64 0] 65)).drew W → W.cell? ⟨w.heap.size, 2, none⟩ = some (.slice (some ⟨b2, o2, none⟩) kl cc) := fun W h => (D.out W h).1
      have d1 : ∀ W, Chg [wr.heap.size] (wr.alloc (.cells #[.string xk, .int .i64 0, .string ⟨#[]⟩, .int .i64 0] 65)).drew W → W.cell? ⟨b2, o2 + k * 3, none⟩ = some (.int .i64 xl) := fun W h => (D.out W h).2.1
      have d2 : ∀ W, Chg [wr.heap.size] (wr.alloc (.cells #[.string xk, .int .i64 0, .string ⟨#[]⟩, .int .i64 0] 65)).drew W → W.cell? ⟨b2, o2 + k * 3 + 1, none⟩ = some (.string xd) := fun W h => (D.out W h).2.2.1
      have d3 : ∀ W, Chg [wr.heap.size] (wr.alloc (.cells #[.string xk, .int .i64 0, .string ⟨#[]⟩, .int .i64 0] 65)).drew W → W.cell? ⟨b2, o2 + k * 3 + 2, none⟩ = some (.int .i64 xp) := fun W h => (D.out W h).2.2.2
      go_wp2_with fail
      refine wp_region_ordS [wr.heap.size] [(0, true), (1, true), (2, true), (3, true), (4, true), (5, true), (6, true), (7, true), (8, true), (9, true), (10, true), (11, true), (12, true), (13, true), (14, true), (15, true), (16, true), (17, true), (18, true), (19, false), (20, true), (21, false), (22, true), (23, false)] (by kernel_rfl) (by kernel_rfl) (by kernel_rfl) (by kernel_rfl) ?_
      repeat (first | (refine wpO_F (v := ?_) rfl (by rfl) (fun w' hL => ?_) ?_; rotate_left; (solve | (go_simp; with_reducible rfl) | go_simp); try simp only [Act.put, List.setIfInBounds_toArray, List.set_cons_zero, List.set_cons_succ]) | (refine wpO_G' (Chg.refl _) rfl (by rfl) ?_; try simp only [Act.put, List.setIfInBounds_toArray, List.set_cons_zero, List.set_cons_succ]))
      refine wpO_C rfl (by rfl) ?_
      go_simp
      refine ⟨chg_alloc2 _ _ _ _, ?_⟩
      try simp only [Act.put, List.setIfInBounds_toArray, List.set_cons_zero, List.set_cons_succ]
      repeat (first | (refine wpO_F (v := ?_) rfl (by rfl) (fun w' hL => ?_) ?_; rotate_left; (solve | (go_simp; with_reducible rfl) | go_simp); try simp only [Act.put, List.setIfInBounds_toArray, List.set_cons_zero, List.set_cons_succ]) | (refine wpO_G' (Chg.refl _) rfl (by rfl) ?_; try simp only [Act.put, List.setIfInBounds_toArray, List.set_cons_zero, List.set_cons_succ]))
      refine wpO_C rfl (by rfl) ?_
      go_simp
      refine ⟨chg_alloc2 _ _ _ _, ?_⟩
      try simp only [Act.put, List.setIfInBounds_toArray, List.set_cons_zero, List.set_cons_succ]
      repeat (first | (refine wpO_F (v := ?_) rfl (by rfl) (fun w' hL => ?_) ?_; rotate_left; (solve | (go_simp; with_reducible rfl) | go_simp); try simp only [Act.put, List.setIfInBounds_toArray, List.set_cons_zero, List.set_cons_succ]) | (refine wpO_G' (Chg.refl _) rfl (by rfl) ?_; try simp only [Act.put, List.setIfInBounds_toArray, List.set_cons_zero, List.set_cons_succ]))
      refine wpO_C rfl (by rfl) ?_
      go_simp
      refine ⟨chg_alloc2 _ _ _ _, ?_⟩
      try simp only [Act.put, List.setIfInBounds_toArray, List.set_cons_zero, List.set_cons_succ]
      refine wpO_nil ?_
      clear d0 d1 d2 d3
      obtain ⟨X, hX⟩ : ∃ X, (wr.alloc (.cells #[.string xk, .int .i64 xl, .string xd, .int .i64 xp] 65)).drew = X := ⟨_, rfl⟩
      have HXB : Hid (Below wr.heap.size wr X) := by rw [← hX]; exact ((Below.refl _ wr).alloc (Nat.le_refl _) _).drew
      have hPb : Blk X wr.heap.size 65 #[.string xk, .int .i64 xl, .string xd, .int .i64 xp] := by rw [← hX]; exact (Blk.new wr _ _).drew
      have HRow : Hid (X.ownsRow (w.heap.size + 1 + 1 + 1) 65 4 (.slice la k lc) k (cellsP (R.l.take k))) := by rw [← hX]; exact World.ownsRow.alloc HI.out.row _
      rw [hX]
      clear hX
      have z0 : X.cell? ⟨wr.heap.size, 0, none⟩ = some _ := hPb.cell 0
      have z1 : X.cell? ⟨wr.heap.size, 1, none⟩ = some _ := hPb.cell 1
      have z2 : X.cell? ⟨wr.heap.size, 2, none⟩ = some _ := hPb.cell 2
      have z3 : X.cell? ⟨wr.heap.size, 3, none⟩ = some _ := hPb.cell 3
      have y2 : X.cell? ⟨w.heap.size + 1 + 1, 2, none⟩ = some (.slice la k lc) := (HI.out.out.bel HXB.out hwlt).cell 2
      have hXs : wr.heap.size < X.heap.size := hPb.lt
      have hbs : w.heap.size + 1 + 1 + 1 ≤ X.heap.size := by omega
      have HNew : Hid (∀ x6 (la2 : Option Addr) (lc2 : Nat), x6.ownsRow (w.heap.size + 1 + 1 + 1) 65 4 (.slice la2 (k + 1) lc2) (k + 1) (cellsP (R.l.take k) ++ [.string xk, .int .i64 xl, .string xd, .int .i64 xp]) → Below (w.heap.size + 1 + 1 + 1) X x6 →
          AsInvleaf w (x6.setCell ⟨w.heap.size + 1 + 1, 2, none⟩ (.slice la2 (k + 1) lc2)) (some ⟨b, o, none⟩) kl kc (some ⟨b2, o2, none⟩) kl cc da 0 dc 0 R.l (k + 1) la2 lc2 ∧ x6.cell? ⟨w.heap.size + 1 + 1, 2, none⟩ = some (.slice la k lc) ∧ x6.frozen? ⟨w.heap.size + 1 + 1, 2, none⟩ = false ∧ w.heap.size + 1 + 1 < x6.heap.size) := by
        intro x6 la2 lc2 hk6 hb6
        have o1 := (HI.out.out.bel HXB.out hwlt).bel hb6 (Nat.lt_succ_self _)
        have o2 := (HI.out.box.bel HXB.out hwlt0).bel hb6 (by omega)
        have o3 := (HI.out.res.bel HXB.out (by omega)).bel hb6 (by omega)
        refine ⟨⟨o2.far (by omega) _, o3.far (by omega) _, ?_, ?_, ?_⟩, o1.cell 2, o1.frozen 2, o1.lt⟩
        · have := o1.set_ 2 (.slice la2 (k + 1) lc2)
          simpa using this
        · have e : cellsP (R.l.take (k + 1)) = cellsP (R.l.take k) ++ [.string xk, .int .i64 xl, .string xd, .int .i64 xp] := by
            rw [List.take_add_one, HXk.out]
            exact cellsOf_snoc _ _ _
          rw [e]
          exact ownsRow_setCell_below hk6 (Nat.lt_succ_self _) _
        · exact Below.setCell (HI.out.bel.trans ((HXB.out.mono HI.out.bel.size).trans (hb6.mono (by omega)))) (by show w.heap.size ≤ w.heap.size + 1 + 1; omega) _
      clear hPb HXB
      go_wp2_with (at_builtin; refine wpList_appN rfl (.tmp 101) (.tmp 103) 30 rfl (w.heap.size + 1 + 1 + 1) 65 iP (.agg #[.string ⟨#[]⟩, .int .i64 0, .string ⟨#[]⟩, .int .i64 0]) 4 48 Try.underlying30 hiP hzP rfl hsP (by omega) hbP (by omega) (.slice la k lc) k _ [.string xk, .int .i64 xl, .string xd, .int .i64 xp] X HRow.out rfl _ rfl rfl (by simp [Value.oneCell']) rfl (by omega) hbs ?_; intro v6 x6 hk6 hb6 hs6; obtain ⟨la2, lc2, rfl, _, _, _⟩ := own_slice hk6; obtain ⟨hInv, u1, u2, u3⟩ := HNew.out x6 la2 lc2 hk6 hb6; have HInv := Lib.hid hInv; clear hInv hk6 hb6 y2 z0 z1 z2 z3)
      go_roundw
      case rel => exact ⟨k + 1, la2, lc2, by omega, by go_num, HInv⟩
      case measure => simp [intOf]; omega
    · have hkk : k = kl := by omega
      subst hkk
      obtain ⟨_, _, e1, g1, g2, harr⟩ := own_slice HI.out.row
      simp only [Value.slice.injEq, true_and] at e1
      obtain ⟨rfl, rfl⟩ := e1
      have hfar := own_far HI.out.row
      rw [List.take_of_length_le (by have := HLen.out; omega)] at harr hfar
      have r0 : wr.cell? ⟨w.heap.size + 1, 0, none⟩ = some (.bool false) := HI.out.res.cell 0
      have r1 : wr.cell? ⟨w.heap.size + 1, 1, none⟩ = some (.int .i64 0) := HI.out.res.cell 1
      have r2 : wr.cell? ⟨w.heap.size + 1, 2, none⟩ = some (.slice none 0 0) := HI.out.res.cell 2
      have f0 := HI.out.res.frozen 0
      have f1 := HI.out.res.frozen 1
      have f2 := HI.out.res.frozen 2
      have o0 : wr.cell? ⟨w.heap.size + 1 + 1, 0, none⟩ = some (.bool true) := HI.out.out.cell 0
      have o1 : wr.cell? ⟨w.heap.size + 1 + 1, 1, none⟩ = some (.int .i64 0) := HI.out.out.cell 1
      have o2 : wr.cell? ⟨w.heap.size + 1 + 1, 2, none⟩ = some (.slice la k lc) := HI.out.out.cell 2
      have hwlt1 : w.heap.size + 1 < wr.heap.size := by omega
      have HFin : Hid (∀ v0 v1 v2, RR (.returned (.tuple #[.agg #[.bool true, .int .i64 0, .slice la k lc], .bool true])) (((wr.setCell ⟨w.heap.size + 1, 0, none⟩ v0).setCell ⟨w.heap.size + 1, 1, none⟩ v1).setCell ⟨w.heap.size + 1, 2, none⟩ v2)) := by
        intro v0 v1 v2
        have hlt2 : w.heap.size + 1 < w.heap.size + 1 + 1 + 1 := by omega
        refine HX.out la lc _ g1 g2 (((harr.set_far hfar hlt2).set_far hfar hlt2).set_far hfar hlt2) ?_
        refine Below.setCell (Below.setCell (Below.setCell HI.out.bel ?_ _) ?_ _) ?_ _ <;> exact Nat.le_succ _
      clear harr hfar
      go_wp2
      refine bodyPost_ret (v := .tuple #[.agg #[.bool true, .int .i64 0, .slice la k lc], .bool true]) (by simp [results, Try.results10, go_sem, r0, r1, r2, hwlt1]) rfl (HFin.out _ _ _)
end Go.Proofs.Ytlcphgomhhejbaa

/- What the walk of the reference's Halve stands on. -/
namespace Go.Proofs.Ytlcphgomhhejbaa
open Go.RowKit

theorem rBytes_any (x : Rn) (m : RB) (w : World) (h : RAt w x m) (hok : x.Ok) (hbig : m.ll ≤ 60000) :
    Calls Try.prog 14 #[m.v x.leaf x.kid] w (RetOwn w (encN x)) := by
  cases hl : x.leaf with
  | true => exact rBytesL_any x m w h hok hl hbig
  | false => exact rBytesI_any x m w h hok hl hbig

def zeroR : Rn := ⟨false, 0, []⟩
theorem RAt_zero (w : World) : RAt w zeroR ⟨none, 0, 0⟩ := RAt_empty w false 0 (by omega)
def movedR (x : Rn) : Nat := if x.leaf then 0 else 1
/-- The first half, the key and the second half. -/
def halfA (x : Rn) (i : Nat) : Rn := ⟨x.leaf, x.kid, x.l.take i⟩
def halfB (x : Rn) (i : Nat) (p : Pt) : Rn := if x.leaf then ⟨true, 0, x.l.drop i⟩ else ⟨false, p.page, x.l.drop (i + 1)⟩
def IsRHalf (x a : Rn) (k : ByteArray) (b : Rn) : Prop :=
  (¬ (x.Ok ∧ 2 + movedR x ≤ x.l.length) ∧ a = zeroR ∧ k = ⟨#[]⟩ ∧ b = zeroR) ∨
  (x.Ok ∧ 2 + movedR x ≤ x.l.length ∧ ∃ i p, IsShare x (x.l.length - 1 - movedR x) i ∧ a = halfA x i ∧ x.l[i]? = some p ∧ k = p.key ∧ b = halfB x i p)
def RetRH (w : World) (x : Rn) (e : Ending) (w' : World) : Prop :=
  ∃ (a b : Rn) (k : ByteArray) (ma mb : RB), e = .returned (.tuple #[ma.v a.leaf a.kid, .string k, mb.v b.leaf b.kid]) ∧ IsRHalf x a k b ∧ RAt w' a ma ∧ RAt w' b mb ∧ Below w.heap.size w w'

theorem Rn.Ok.take {x : Rn} (h : x.Ok) {k : Nat} (hk : 1 ≤ k) : (⟨x.leaf, x.kid, x.l.take k⟩ : Rn).Ok := by
  refine ⟨?_, ?_⟩
  · simp only [List.map_take]
    exact h.1.take k
  · have h2 := h.2
    simp only
    cases hl : x.leaf with
    | true =>
      rw [hl] at h2
      simp only [if_true] at h2 ⊢
      exact ⟨h2.1, fun y hy => h2.2 y (List.mem_of_mem_take hy)⟩
    | false =>
      rw [hl] at h2
      simp only [Bool.false_eq_true, if_false] at h2 ⊢
      refine ⟨fun h0 => h2.1 ?_, h2.2.1, fun y hy => h2.2.2 y (List.mem_of_mem_take hy)⟩
      cases hx : x.l with
      | nil => rfl
      | cons y r => rw [hx] at h0; cases k with
        | zero => omega
        | succ k => simp at h0
theorem encN_take (x : Rn) (k : Nat) : (encN ⟨x.leaf, x.kid, x.l.take k⟩).length = lenTo x k := by
  unfold encN lenTo
  rw [List.length_append, headN_len]

/-- Three cells of a block of the call's own are stored into. -/
def set3 (w : World) (b : Nat) (v0 v1 v2 : Value) : World := ((w.setCell ⟨b, 0, none⟩ v0).setCell ⟨b, 1, none⟩ v1).setCell ⟨b, 2, none⟩ v2
theorem set3_below {w0 w : World} {N b : Nat} (h : Below N w0 w) (hb : N ≤ b) (v0 v1 v2 : Value) : Below N w0 (set3 w b v0 v1 v2) := by
  unfold set3
  refine Below.setCell (Below.setCell (Below.setCell h ?_ _) ?_ _) ?_ _ <;> exact hb
theorem set3_chg {w : World} {b : Nat} {S : List Nat} (hb : b ∈ S) (v0 v1 v2 : Value) : Chg S w (set3 w b v0 v1 v2) := by
  unfold set3
  exact (((Chg.refl S w).setCell (.inl hb) _).setCell (.inl hb) _).setCell (.inl hb) _
theorem Arr.set3 {w : World} {a : Option Addr} {vs : List Value} {N c : Nat} (h : Arr w.heap.size w a vs) (hf : Far N a vs) (hc : c < N) (v0 v1 v2 : Value) : Arr (set3 w c v0 v1 v2).heap.size (set3 w c v0 v1 v2) a vs :=
  ((h.set_far hf hc).set_far hf hc).set_far hf hc

/-- How many of its parts the node in a block has still to get. -/
def lackR (w : World) (nb count : Nat) : Nat := match w.cell? ⟨nb, 2, none⟩ with
  | some (.slice _ n _) => count - n
  | _ => 0

/-- Where the loop of the reference's Halve stands. -/
structure RHv (w wr : World) (bx : Array Value) (ab : Nat) (lf : Bool) (kid : Int) (l : List Pt) (aa : Option Addr) (k ac : Nat) : Prop where
  box : Blk wr w.heap.size 32 bx
  r1 : Blk wr (w.heap.size + 1) 32 #[.bool false, .int .i64 0, .slice none 0 0]
  r2 : Blk wr (w.heap.size + 1 + 1) 32 #[.bool false, .int .i64 0, .slice none 0 0]
  av : Blk wr ab 32 #[.bool lf, .int .i64 kid, .slice aa k ac]
  row : wr.ownsRow (ab + 1) 65 4 (.slice aa k ac) k (cellsP (l.take k))
  bel : Below w.heap.size w wr
  ablt : w.heap.size + 1 + 1 < ab

theorem RHv.lat {w wr W : World} {bx : Array Value} {ab : Nat} {lf : Bool} {kid : Int} {l : List Pt} {aa : Option Addr} {k ac : Nat} (h : RHv w wr bx ab lf kid l aa k ac) (hl : Later wr W) : RHv w W bx ab lf kid l aa k ac :=
  ⟨h.box.bel hl h.box.lt, h.r1.bel hl h.r1.lt, h.r2.bel hl h.r2.lt, h.av.bel hl h.av.lt, own_below h.row (Nat.le_refl _) hl, h.bel.trans (Below.mono hl h.bel.size), h.ablt⟩
theorem RHv.rat {w wr : World} {bx : Array Value} {ab : Nat} {lf : Bool} {kid : Int} {l : List Pt} {aa : Option Addr} {k ac : Nat} (h : RHv w wr bx ab lf kid l aa k ac) (hk : k ≤ l.length) (hb : k ≤ 60000) (hkid : -9223372036854775808 ≤ kid ∧ kid ≤ 9223372036854775807) (hf : ∀ p ∈ l, p.fair) : RAt wr ⟨lf, kid, l.take k⟩ ⟨aa, k, ac⟩ := by
  obtain ⟨_, _, e1, g1, g2, harr⟩ := own_slice h.row
  simp only [Value.slice.injEq, true_and] at e1
  obtain ⟨rfl, rfl⟩ := e1
  exact ⟨by simp only [List.length_take]; omega, g1, by simp only; omega, harr, hkid, fun p hp => hf p (List.mem_of_mem_take hp)⟩
theorem RHv.add {w wr x6 : World} {bx : Array Value} {ab : Nat} {lf : Bool} {kid : Int} {l : List Pt} {aa aa' : Option Addr} {k ac ac' : Nat} {p : Pt} {o : Obj} (h : RHv w wr bx ab lf kid l aa k ac) (hp : l[k]? = some p)
    (hown : x6.ownsRow (ab + 1) 65 4 (.slice aa' (k + 1) ac') (k + 1) (cellsP (l.take k) ++ [.string p.key, .int .i64 p.len, .string p.data, .int .i64 p.page])) (hc : Chg (Value.slice aa k ac).ownBlock.toList (wr.alloc o) x6) :
    RHv w (x6.setCell ⟨ab, 2, none⟩ (.slice aa' (k + 1) ac')) bx ab lf kid l aa' (k + 1) ac' ∧ x6.cell? ⟨ab, 2, none⟩ = some (.slice aa k ac) ∧ x6.frozen? ⟨ab, 2, none⟩ = false ∧ ab < x6.heap.size := by
  have hb : Below (ab + 1) (wr.alloc o) x6 := hc.below (by have := h.av.lt; simp; omega) (fun g hg => by
    rw [Option.mem_toList] at hg
    exact (h.row.lt g hg).1)
  have e : cellsP (l.take (k + 1)) = cellsP (l.take k) ++ [.string p.key, .int .i64 p.len, .string p.data, .int .i64 p.page] := by
    rw [List.take_add_one, hp]
    exact cellsOf_snoc _ _ _
  have hab := h.ablt
  have a1 := (h.av.alloc o).bel hb (Nat.lt_succ_self _)
  have b1 := (h.box.alloc o).bel hb (by omega)
  have c1 := (h.r1.alloc o).bel hb (by omega)
  have d1 := (h.r2.alloc o).bel hb (by omega)
  refine ⟨⟨b1.far (by omega) _, c1.far (by omega) _, d1.far (by omega) _, ?_, ?_, ?_, hab⟩, a1.cell 2, a1.frozen 2, a1.lt⟩
  · have := a1.set_ 2 (.slice aa' (k + 1) ac')
    simpa using this
  · rw [e]
    exact ownsRow_setCell_below hown (Nat.lt_succ_self _) _
  · exact Below.setCell (h.bel.trans (((Below.refl _ wr).alloc (Nat.le_refl _) o).mono h.bel.size |>.trans (hb.mono (by omega)))) (by show w.heap.size ≤ ab; omega) _

/-- 'b[k:]' of such a slice. -/
theorem Arr.from {P : Program} {N : Nat} {w : World} {a : Option Addr} {l : List Value} (h : Arr N w a l) (t e : TypeId) (z : Nat) (ht : P.underlying t = some (.slice e)) (hz : ∀ w, (Go.sizeOf e).run P w = .ok z w)
    (len cap k : Nat) (hlen : l.length = len * z) (hk : k ≤ len) (hcap : len ≤ cap) (hz0 : 0 < z) :
    ∃ a', Arr N w a' (l.drop (k * z)) ∧ ∀ W, (Instr.slice t (.slice a len cap) (some (.int .i64 (k : Int))) none none).run P W = .ok (.slice a' (len - k) (cap - k)) W := by
  have ht' : P.underlying t = some (.slice (P.elem t)) := by simp [Program.elem, ht]
  have hee : P.elem t = e := by simp [Program.elem, ht]
  refine ⟨if cap = k then a else a.map (·.add (k * z)), ?_, fun W => ?_⟩
  · rcases h with h2 | ⟨b, o, ha, hN, hc⟩
    · exact .inl (by simp [h2])
    · by_cases hkl : k = len
      · exact .inl (by rw [hkl, ← hlen]; simp)
      · right
        refine ⟨b, o + k * z, ?_, hN, fun i c hi => ?_⟩
        · rw [if_neg (by omega), ha]
          by_cases h0 : k = 0
          · subst h0; simp [Addr.add]
          · have : ¬ k * z = 0 := by have := Nat.mul_pos (show 0 < k by omega) hz0; omega
            simp [Addr.add]
            exact this
        · rw [List.getElem?_drop] at hi
          rw [Nat.add_assoc]; exact hc _ _ hi
  · have := run_slice_l (P := P) W t a len cap ht' .i64 (k : Int) (by omega) (by omega)
    rw [this, hee, hz W]
    simp [Result.andThen, sliced]
theorem sizeOf_part : ∀ w, (Go.sizeOf 65).run Try.prog w = .ok 4 w := by
  intro w
  obtain ⟨i, hi, _⟩ := info_parts info_part
  have := run_sizeOf (P := Try.prog) w hi
  rw [show Try.prog.cellsOf 65 = 4 from by kernel_rfl] at this
  exact this
theorem Arr.set_above {N : Nat} {w : World} {a : Option Addr} {vs : List Value} (h : Arr N w a vs) {c o : Nat} (hc : N ≤ c) (v : Value) : Arr N (w.setCell ⟨c, o, none⟩ v) a vs := by
  rcases h with h | ⟨b, o', ha, hN, hcell⟩
  · exact .inl h
  · refine .inr ⟨b, o', ha, hN, fun i u hu => ?_⟩
    rw [← hcell i u hu]
    exact World.cell?_of_block (a := ⟨b, o' + i, none⟩) (Below.heap_setCell w ⟨c, o, none⟩ v b (by show b ≠ c; omega))
theorem elem_parts : Try.prog.underlying 30 = some (.slice (Try.prog.elem 30)) := by simp [Program.elem, Try.underlying30]
/-- 'b[:k-1]' of such a slice. -/
theorem slice_to (aa : Option Addr) (k ac i : Nat) (hk : k = i + 1) (hac : k ≤ ac) (W : World) :
    (Instr.slice 30 (.slice aa k ac) none (some (.int .i64 ((k : Int) - 1))) none).run Try.prog W = .ok (.slice aa i ac) W := by
  have hee : Try.prog.elem 30 = 65 := by simp [Program.elem, Try.underlying30]
  have e : ((k : Int) - 1).toNat = i := by omega
  have := run_slice_h (P := Try.prog) W 30 aa k ac elem_parts .i64 ((k : Int) - 1) (by omega) (by omega)
  rw [this, hee, sizeOf_part W, e]
  have hne : ¬ ac = 0 := by omega
  cases aa with
  | none => simp [Result.andThen, sliced]
  | some ad => simp [Result.andThen, sliced, hne, Addr.add]
theorem one_P (l : List Pt) : ∀ u ∈ cellsP l, u.oneCell' = true := by
  intro u hu
  obtain ⟨x, _, hx⟩ := List.mem_flatMap.1 hu
  simp at hx; rcases hx with rfl | rfl | rfl | rfl <;> rfl

/-- What is known when the first half is made. -/
structure RHf (w wr : World) (bx : Array Value) (ab : Nat) (lf : Bool) (kid : Int) (l : List Pt) (aa : Option Addr) (i ac : Nat) : Prop where
  box : Blk wr w.heap.size 32 bx
  r1 : Blk wr (w.heap.size + 1) 32 #[.bool false, .int .i64 0, .slice none 0 0]
  r2 : Blk wr (w.heap.size + 1 + 1) 32 #[.bool false, .int .i64 0, .slice none 0 0]
  av : Blk wr ab 32 #[.bool lf, .int .i64 kid, .slice aa i ac]
  arr : Arr wr.heap.size wr aa (cellsP (l.take i))
  far : Far (w.heap.size + 1 + 1 + 1) aa (cellsP (l.take i))
  cap : i ≤ ac
  bel : Below w.heap.size w wr
  ablt : w.heap.size + 1 + 1 < ab
theorem RHv.f {w wr : World} {bx : Array Value} {ab : Nat} {lf : Bool} {kid : Int} {l : List Pt} {aa : Option Addr} {k ac : Nat} (h : RHv w wr bx ab lf kid l aa k ac) : RHf w wr bx ab lf kid l aa k ac := by
  obtain ⟨_, _, e1, g1, g2, harr⟩ := own_slice h.row
  simp only [Value.slice.injEq, true_and] at e1
  obtain ⟨rfl, rfl⟩ := e1
  exact ⟨h.box, h.r1, h.r2, h.av, harr, (own_far h.row).mono (by have := h.ablt; omega), g1, h.bel, h.ablt⟩
theorem RHv.cut {w wr : World} {bx : Array Value} {ab : Nat} {lf : Bool} {kid : Int} {l : List Pt} {aa : Option Addr} {k ac : Nat} (h : RHv w wr bx ab lf kid l aa (k + 1) ac) :
    RHf w (wr.setCell ⟨ab, 2, none⟩ (.slice aa k ac)) bx ab lf kid l aa k ac := by
  have hf := h.f
  have hab := h.ablt
  have e : cellsP (l.take k) = (cellsP (l.take (k + 1))).take (k * 4) := by
    unfold cellsP
    rw [← cellsOf_take _ 4 (fun _ => rfl), List.take_take, Nat.min_eq_left (Nat.le_succ k)]
  have harr : Arr wr.heap.size wr aa (cellsP (l.take k)) := by
    rw [e]
    rcases hf.arr with h1 | ⟨b, o, ha, hN, hc⟩
    · exact .inl (by rw [h1]; simp)
    · refine .inr ⟨b, o, ha, hN, fun i v hi => ?_⟩
      rw [List.getElem?_take] at hi
      split at hi
      · exact hc i v hi
      · simp at hi
  have hfar0 : Far (ab + 1) aa (cellsP (l.take k)) := by
    have h0 := own_far h.row
    rcases h0 with h1 | h1
    · exact .inl (by rw [e, h1]; simp)
    · exact .inr h1
  refine ⟨h.box.far (by omega) _, h.r1.far (by omega) _, h.r2.far (by omega) _, ?_, harr.set_far hfar0 (Nat.lt_succ_self _), hfar0.mono (by omega), by have := hf.cap; omega, Below.setCell h.bel (by show w.heap.size ≤ ab; omega) _, hab⟩
  have := h.av.set_ 2 (.slice aa k ac)
  simpa using this
end Go.Proofs.Ytlcphgomhhejbaa

/- The walk of the law's As, of an inner node. -/
namespace Go.Proofs.Ytlcphgomhhejbaa
open Go.RowKit

/-- Where the loop stands. -/
structure AsInvinner (w wr : World) (ka : Option Addr) (kl kc : Nat) (ca : Option Addr) (cl cc : Nat) (da : Option Addr) (dl dc : Nat) (kid : Int) (l : List Pt) (k : Nat) (la : Option Addr) (lc : Nat) : Prop where
  box : Blk wr w.heap.size 26 #[.bool false, .slice ka kl kc, .slice ca cl cc, .slice da dl dc]
  res : Blk wr (w.heap.size + 1) 32 #[.bool false, .int .i64 0, .slice none 0 0]
  out : Blk wr (w.heap.size + 1 + 1) 32 #[.bool false, .int .i64 kid, .slice la k lc]
  row : wr.ownsRow (w.heap.size + 1 + 1 + 1) 65 4 (.slice la k lc) k (cellsP (l.take k))
  bel : Below w.heap.size w wr

set_option maxRecDepth 100000 in
set_option maxHeartbeats 4000000 in
theorem as_inner (n : Nd) (m : NB) (w : World) (h : NAt w n m) (hl : n.leaf = false) (hs : n.shaped = true) (hbig : m.kl ≤ 100000000) :
    Calls Try.prog 10 #[m.v false] w (RetAs w n) := by
  obtain ⟨iP, hiP, hzP, hsP, hbP⟩ := info_parts info_part
  have HX : Hid (∀ (la : Option Addr) (lc : Nat) W, m.kl ≤ lc → lc ≤ 9223372036854775807 → Arr W.heap.size W la (cellsP n.asR.l) → Below w.heap.size w W → RetAs w n (.returned (.tuple #[.agg #[.bool false, .int .i64 n.asR.kid, .slice la m.kl lc], .bool true])) W) := by
    intro la lc W h1 h2 h3 hb
    refine ⟨n.asR, ⟨la, m.kl, lc⟩, by rw [hs, asR_leaf, hl], fun _ => rfl, ⟨?_, h1, h.kmax, h3, ?_, ?_⟩, hb⟩
    · rw [asR_len hs]; exact h.hk
    · exact asR_kidfair h hs
    · exact asR_fair h hs
  have HLen : Hid (n.asR.l.length = m.kl) := by
    show _ = _
    rw [asR_len hs, h.hk]
  have HAt := Lib.hid (part_inner hs hl)
  have HKA := Lib.hid h.karr
  have HCA := Lib.hid h.darr
  have HKF := Lib.hid (asR_fair h hs)
  have hsh := hs
  unfold Nd.shaped at hsh
  rw [hl] at hsh
  have hc := h.hc
  have hd := h.hd
  have hk := h.hk
  simp only [Bool.false_eq_true, if_false, decide_eq_true_eq] at hsh
  have e1 : m.dl = m.kl + 1 := by omega
  have e2 : m.cl = 0 := by omega
  have hlR := asR_leaf n
  rw [hl] at hlR
  obtain ⟨R, hR⟩ : ∃ R, n.asR = R := ⟨_, rfl⟩
  rw [hR] at HX HLen HAt hlR HKF
  have hkid := HAt.out.2.2.1
  obtain ⟨kid, hkd⟩ : ∃ kid, R.kid = kid := ⟨_, rfl⟩
  rw [hkd] at HX hkid
  have HKidLen := Lib.hid hd
  clear hR hkd hsh hc hd hk hs h
  obtain ⟨ka, kl, kc, ca, cl, cc, da, dl, dc⟩ := m
  simp only at *
  subst e1
  subst e2
  generalize hRR : RetAs w n = RR at *
  clear hRR
  have q1 : (((kl + 1 : Nat) : Int) != (kl : Int) + 1) = false := by simp
  obtain ⟨hkd0, hkde⟩ := List.getElem?_eq_some_iff.1 hkid
  obtain ⟨bd, od, rfl, hbdN, cd0⟩ := intAt HCA.out hkd0
  rw [hkde] at cd0
  have cd0 : w.cell? ⟨bd, od, none⟩ = some (.int .i64 kid) := cd0
  clear hkid hkde hkd0
  have hbd1 : bd < w.heap.size + 1 := by omega
  have hbd2 : bd < w.heap.size + 1 + 1 := by omega
  have HB0 : Hid (Below w.heap.size w (((w.alloc (.cells #[.bool false, .slice ka kl kc, .slice ca 0 cc, .slice (some ⟨bd, od, none⟩) (kl + 1) dc] 26)).alloc (.cells #[.bool false, .int .i64 0, .slice none 0 0] 32)).alloc (.cells #[.bool false, .int .i64 kid, .slice none 0 0] 32))) := (((Below.refl _ w).alloc (Nat.le_refl _) _).alloc (by simp) _).alloc (by simp; omega) _
  have HI0 : Hid (AsInvinner w (((w.alloc (.cells #[.bool false, .slice ka kl kc, .slice ca 0 cc, .slice (some ⟨bd, od, none⟩) (kl + 1) dc] 26)).alloc (.cells #[.bool false, .int .i64 0, .slice none 0 0] 32)).alloc (.cells #[.bool false, .int .i64 kid, .slice none 0 0] 32)) ka kl kc ca 0 cc (some ⟨bd, od, none⟩) (kl + 1) dc kid R.l 0 none 0) :=
    ⟨((Blk.new w _ _).alloc _).alloc _, (as_blks w _ _ _ _).1, (as_blks w _ _ _ _).2, World.ownsRow_nil _ _ _ _, HB0.out⟩
  clear HB0
  go_enter Try.func10, Try.ntmps10
  go_wp2_with fail
  go_loopw [5] (fun i wr => ∃ (k : Nat) (la : Option Addr) (lc : Nat), k ≤ kl ∧ i = .int .i64 k ∧ Hid (AsInvinner w wr ka kl kc ca 0 cc (some ⟨bd, od, none⟩) (kl + 1) dc kid R.l k la lc)) (fun i _ => kl - (intOf i).toNat)
  case atStart => exact ⟨0, none, 0, by omega, rfl, HI0⟩
  case round =>
    obtain ⟨k, la, lc, hk, rfl, HI⟩ := hrel
    have b0 : wr.cell? ⟨w.heap.size, 0, none⟩ = some (.bool false) := HI.out.box.cell 0
    have b1 : wr.cell? ⟨w.heap.size, 1, none⟩ = some (.slice ka kl kc) := HI.out.box.cell 1
    have hwlt : w.heap.size + 1 + 1 < wr.heap.size := HI.out.out.lt
    have hwlt0 : w.heap.size < wr.heap.size := by omega
    by_cases hlt : k < kl
    · have hkl : k < R.l.length := by have := HLen.out; omega
      have hx := List.getElem?_eq_getElem hkl
      have HXk := Lib.hid hx
      obtain ⟨hk1, hc1, hl0, hd0⟩ := HAt.out.2.2.2 k _ hx
      have hfr := HKF.out _ (List.getElem_mem hkl)
      obtain ⟨hkkl, hkke⟩ := List.getElem?_eq_some_iff.1 hk1
      obtain ⟨hccl, hcce⟩ := List.getElem?_eq_some_iff.1 hc1
      obtain ⟨b, o, rfl, hb, c0⟩ := strAt HKA.out hkkl
      obtain ⟨b2, o2, he, hb2, c1⟩ := intAt HCA.out hccl
      simp only [Option.some.injEq, Addr.mk.injEq, and_true] at he
      obtain ⟨rfl, rfl⟩ := he
      rw [hkke] at c0
      rw [hcce] at c1
      clear hx hk1 hc1 hkke hcce hkkl hccl
      obtain ⟨⟨xk, xl, xd, xp⟩, hxx⟩ : ∃ x, R.l[k] = x := ⟨_, rfl⟩
      rw [hxx] at c0 c1 HXk hfr hl0 hd0
      unfold Pt.fair at hfr
      simp only at c0 c1 hfr hl0 hd0
      subst hl0 hd0
      clear hxx
      obtain ⟨f1, f2, f3, f4⟩ := hfr
      have c0 := (HI.out.bel.cell (p := ⟨b, o + k, none⟩) hb).trans c0
      have c1 : wr.cell? ⟨bd, od + (k + 1), none⟩ = some (.int .i64 xp) := (HI.out.bel.cell (p := ⟨bd, od + (k + 1), none⟩) hb2).trans c1
      have hbw : bd < wr.heap.size := Nat.lt_of_lt_of_le hb2 HI.out.bel.size
      have b3 : wr.cell? ⟨w.heap.size, 3, none⟩ = some (.slice (some ⟨bd, od, none⟩) (kl + 1) dc) := HI.out.box.cell 3
      have hXe : Hid (∃ X, wr.alloc (.cells #[.string xk, .int .i64 0, .string ⟨#[]⟩, .int .i64 xp] 65) = X ∧ Below wr.heap.size wr X ∧ Blk X wr.heap.size 65 #[.string xk, .int .i64 0, .string ⟨#[]⟩, .int .i64 xp] ∧ X.ownsRow (w.heap.size + 1 + 1 + 1) 65 4 (.slice la k lc) k (cellsP (R.l.take k))) := ⟨_, rfl, (Below.refl _ wr).alloc (Nat.le_refl _) _, Blk.new wr _ _, World.ownsRow.alloc HI.out.row _⟩
      go_upto_region 13 with (fail)
      obtain ⟨X, hX, hXB0, hPb, hRow0⟩ := hXe.out
      rw [hX]
      have HXB := Lib.hid hXB0
      have HRow := Lib.hid hRow0
      clear hX hXB0 hRow0 hXe c1 b3
      have z0 : X.cell? ⟨wr.heap.size, 0, none⟩ = some _ := hPb.cell 0
      have z1 : X.cell? ⟨wr.heap.size, 1, none⟩ = some _ := hPb.cell 1
      have z2 : X.cell? ⟨wr.heap.size, 2, none⟩ = some _ := hPb.cell 2
      have z3 : X.cell? ⟨wr.heap.size, 3, none⟩ = some _ := hPb.cell 3
      have y2 : X.cell? ⟨w.heap.size + 1 + 1, 2, none⟩ = some (.slice la k lc) := (HI.out.out.bel HXB.out hwlt).cell 2
      have hXs : wr.heap.size < X.heap.size := hPb.lt
      have hbs : w.heap.size + 1 + 1 + 1 ≤ X.heap.size := by omega
      have HNew : Hid (∀ x6 (la2 : Option Addr) (lc2 : Nat), x6.ownsRow (w.heap.size + 1 + 1 + 1) 65 4 (.slice la2 (k + 1) lc2) (k + 1) (cellsP (R.l.take k) ++ [.string xk, .int .i64 0, .string ⟨#[]⟩, .int .i64 xp]) → Below (w.heap.size + 1 + 1 + 1) X x6 →
          AsInvinner w (x6.setCell ⟨w.heap.size + 1 + 1, 2, none⟩ (.slice la2 (k + 1) lc2)) (some ⟨b, o, none⟩) kl kc ca 0 cc (some ⟨bd, od, none⟩) (kl + 1) dc kid R.l (k + 1) la2 lc2 ∧ x6.cell? ⟨w.heap.size + 1 + 1, 2, none⟩ = some (.slice la k lc) ∧ x6.frozen? ⟨w.heap.size + 1 + 1, 2, none⟩ = false ∧ w.heap.size + 1 + 1 < x6.heap.size) := by
        intro x6 la2 lc2 hk6 hb6
        have o1 := (HI.out.out.bel HXB.out hwlt).bel hb6 (Nat.lt_succ_self _)
        have o2 := (HI.out.box.bel HXB.out hwlt0).bel hb6 (by omega)
        have o3 := (HI.out.res.bel HXB.out (by omega)).bel hb6 (by omega)
        refine ⟨⟨o2.far (by omega) _, o3.far (by omega) _, ?_, ?_, ?_⟩, o1.cell 2, o1.frozen 2, o1.lt⟩
        · have := o1.set_ 2 (.slice la2 (k + 1) lc2)
          simpa using this
        · have e : cellsP (R.l.take (k + 1)) = cellsP (R.l.take k) ++ [.string xk, .int .i64 0, .string ⟨#[]⟩, .int .i64 xp] := by
            rw [List.take_add_one, HXk.out]
            exact cellsOf_snoc _ _ _
          rw [e]
          exact ownsRow_setCell_below hk6 (Nat.lt_succ_self _) _
        · exact Below.setCell (HI.out.bel.trans ((HXB.out.mono HI.out.bel.size).trans (hb6.mono (by omega)))) (by show w.heap.size ≤ w.heap.size + 1 + 1; omega) _
      clear hPb HXB
      go_wp2_with (at_builtin; refine wpList_appN rfl (.tmp 101) (.tmp 103) 30 rfl (w.heap.size + 1 + 1 + 1) 65 iP (.agg #[.string ⟨#[]⟩, .int .i64 0, .string ⟨#[]⟩, .int .i64 0]) 4 48 Try.underlying30 hiP hzP rfl hsP (by omega) hbP (by omega) (.slice la k lc) k _ [.string xk, .int .i64 0, .string ⟨#[]⟩, .int .i64 xp] X HRow.out rfl _ rfl rfl (by simp [Value.oneCell']) rfl (by omega) hbs ?_; intro v6 x6 hk6 hb6 hs6; obtain ⟨la2, lc2, rfl, _, _, _⟩ := own_slice hk6; obtain ⟨hInv, u1, u2, u3⟩ := HNew.out x6 la2 lc2 hk6 hb6; have HInv := Lib.hid hInv; clear hInv hk6 hb6 y2 z0 z1 z2 z3)
      go_roundw
      case rel => exact ⟨k + 1, la2, lc2, by omega, by go_num, HInv⟩
      case measure => simp [intOf]; omega
    · have hkk : k = kl := by omega
      subst hkk
      obtain ⟨_, _, e1, g1, g2, harr⟩ := own_slice HI.out.row
      simp only [Value.slice.injEq, true_and] at e1
      obtain ⟨rfl, rfl⟩ := e1
      have hfar := own_far HI.out.row
      rw [List.take_of_length_le (by have := HLen.out; omega)] at harr hfar
      have r0 : wr.cell? ⟨w.heap.size + 1, 0, none⟩ = some (.bool false) := HI.out.res.cell 0
      have r1 : wr.cell? ⟨w.heap.size + 1, 1, none⟩ = some (.int .i64 0) := HI.out.res.cell 1
      have r2 : wr.cell? ⟨w.heap.size + 1, 2, none⟩ = some (.slice none 0 0) := HI.out.res.cell 2
      have f0 := HI.out.res.frozen 0
      have f1 := HI.out.res.frozen 1
      have f2 := HI.out.res.frozen 2
      have o0 : wr.cell? ⟨w.heap.size + 1 + 1, 0, none⟩ = some (.bool false) := HI.out.out.cell 0
      have o1 : wr.cell? ⟨w.heap.size + 1 + 1, 1, none⟩ = some (.int .i64 kid) := HI.out.out.cell 1
      have o2 : wr.cell? ⟨w.heap.size + 1 + 1, 2, none⟩ = some (.slice la k lc) := HI.out.out.cell 2
      have hwlt1 : w.heap.size + 1 < wr.heap.size := by omega
      have HFin : Hid (∀ v0 v1 v2, RR (.returned (.tuple #[.agg #[.bool false, .int .i64 kid, .slice la k lc], .bool true])) (((wr.setCell ⟨w.heap.size + 1, 0, none⟩ v0).setCell ⟨w.heap.size + 1, 1, none⟩ v1).setCell ⟨w.heap.size + 1, 2, none⟩ v2)) := by
        intro v0 v1 v2
        have hlt2 : w.heap.size + 1 < w.heap.size + 1 + 1 + 1 := by omega
        refine HX.out la lc _ g1 g2 (((harr.set_far hfar hlt2).set_far hfar hlt2).set_far hfar hlt2) ?_
        refine Below.setCell (Below.setCell (Below.setCell HI.out.bel ?_ _) ?_ _) ?_ _ <;> exact Nat.le_succ _
      clear harr hfar
      go_wp2
      refine bodyPost_ret (v := .tuple #[.agg #[.bool false, .int .i64 kid, .slice la k lc], .bool true]) (by simp [results, Try.results10, go_sem, r0, r1, r2, hwlt1]) rfl (HFin.out _ _ _)
end Go.Proofs.Ytlcphgomhhejbaa

/- The law's As, of any node. -/
namespace Go.Proofs.Ytlcphgomhhejbaa
open Go.RowKit
theorem NAs_any (n : Nd) (m : NB) (w : World) (h : NAt w n m) (hbig : m.kl ≤ 100000000) :
    Calls Try.prog 10 #[m.v n.leaf] w (RetAs w n) := by
  cases hs : n.shaped with
  | false => exact as_no n m w h hs
  | true =>
    cases hl : n.leaf with
    | true => exact as_leaf n m w h hl hs hbig
    | false => exact as_inner n m w h hl hs hbig
end Go.Proofs.Ytlcphgomhhejbaa
