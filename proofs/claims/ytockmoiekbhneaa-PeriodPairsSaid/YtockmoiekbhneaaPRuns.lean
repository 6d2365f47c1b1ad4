/- The walk of the reference's Runs. -/
import Derived.Test.YtockmoiekbhneaaPEdges
import Derived.Test.YtockmoiekbhneaaPAs
import Derived.Deep.AppendLies
namespace Go.Proofs.Ytockmoiekbhneaa
open Go.RowKit

theorem joinE_nil (f t : Int) : joinE [] f t = [(f, t)] := rfl
theorem joinE_eq (r : List (Int × Int)) (s : Int × Int) (f t : Int) (h : s.2 = f) : joinE (r ++ [s]) f t = r ++ [(s.1, t)] := by
  unfold joinE; rw [List.getLast?_concat]; simp only; rw [if_pos h, List.dropLast_concat]
theorem joinE_ne (r : List (Int × Int)) (s : Int × Int) (f t : Int) (h : ¬ s.2 = f) : joinE (r ++ [s]) f t = (r ++ [s]) ++ [(f, t)] := by
  unfold joinE; rw [List.getLast?_concat]; simp only; rw [if_neg h]
theorem cellsT_set (r : List (Int × Int)) (s : Int × Int) (t : Int) : (cellsT (r ++ [s])).set (r.length * 2 + 1) (.int .i64 t) = cellsT (r ++ [(s.1, t)]) := by
  have e : (cellsT r).length = r.length * 2 := cellsT_len r
  have h1 : cellsT (r ++ [s]) = cellsT r ++ [.int .i64 s.1, .int .i64 s.2] := by simp [cellsOf, encS]
  have h2 : cellsT (r ++ [(s.1, t)]) = cellsT r ++ [.int .i64 s.1, .int .i64 t] := by simp [cellsOf, encS]
  rw [h1, h2, List.set_append_right _ _ (by omega), e]
  simp
theorem list_last {α : Type} (l : List α) : l = [] ∨ ∃ r s, l = r ++ [s] := by
  rcases List.eq_nil_or_concat l with h | ⟨r, s, h⟩
  · exact .inl h
  · exact .inr ⟨r, s, by simpa using h⟩

set_option maxRecDepth 100000 in
set_option maxHeartbeats 4000000 in
theorem runs_any (N : Nat) (l m : List (Int × Int)) (a : Option Addr) (n cap : Nat) (a' : Option Addr) (n' cap' : Nat) (w : World) (h : Arr N w a (cellsT l)) (h' : Arr N w a' (cellsT m)) (hN : N ≤ w.heap.size) (hn : n = l.length) (hn' : n' = m.length) (hmax : n ≤ 100000) (hmax' : n' ≤ 100000) :
    Calls Try.prog 15 #[.slice a n cap, .slice a' n' cap'] w (RetOwn 32 (runsL l m) w) := by
  obtain ⟨iP, hiP, hzP, hsP, hbP⟩ := info_parts info_rspan
  have HH := Lib.hid (h.mono hN)
  have HH' := Lib.hid (h'.mono hN)
  have HN := Lib.hid hn
  have HN' := Lib.hid hn'
  have HL1 : Hid ((cellsT l).length = n * 2) := by show _ = _; rw [cellsT_len, hn]
  have HL2 : Hid ((cellsT m).length = n' * 2) := by show _ = _; rw [cellsT_len, hn']
  clear h h' hn hn' hN
  go_enter Try.func15, Try.ntmps15
  go_wp2_with (first
    | (refine wpList_appS rfl (.tmp 9) (.tmp 10) 24 rfl w.heap.size 32 iP (.agg #[.int .i64 0, .int .i64 0]) 2 16 Try.underlying24 hiP hzP rfl hsP (by omega) hbP (by omega) (.slice none 0 0) 0 [] w (World.ownsRow_nil _ _ _ _) rfl _ a n cap _ HH.out HL1.out (one_T _) rfl (by omega) (Nat.le_refl _) ?_; intro v1 x1 h1 _ hb1; have H1 := Lib.hid h1; have HB1 := Lib.hid hb1; have HH2 := Lib.hid (HH'.out.later (N := 0) hb1); clear h1 hb1)
    | (refine wpList_appS rfl (.tmp 12) (.tmp 13) 24 rfl w.heap.size 32 iP (.agg #[.int .i64 0, .int .i64 0]) 2 16 Try.underlying24 hiP hzP rfl hsP (by omega) hbP (by omega) v1 (0 + n) _ x1 H1.out rfl _ a' n' cap' _ HH2.out HL2.out (one_T _) rfl (by omega) HB1.out.size ?_; intro v2 x2 h2 _ hb2; obtain ⟨a3, c3, rfl, _, _, harr⟩ := own_slice h2; have HA3 : Hid (Arr x2.heap.size x2 a3 (cellsT (l ++ m))) := (by show Arr _ _ _ (cellsOf encS _); unfold cellsOf; rw [List.flatMap_append]; simpa [cellsOf] using harr); have HB2 := Lib.hid (HB1.out.trans hb2); clear h2 hb2 harr)
    | fail)
  have HLen : Hid (n + n' = (l ++ m).length) := by show _ = _; rw [List.length_append, ← HN.out, ← HN'.out]
  (with_reducible refine (edges_any _ (l ++ m) a3 (n + n') c3 x2 HA3.out (Nat.le_refl _) HLen.out (by omega)).mono ?_)
  rintro e w3 ⟨ve, rfl, hown3, hb3⟩
  obtain ⟨ae, ce, rfl, hce, _, harr⟩ := own_slice hown3
  have HE := Lib.hid harr
  have HB3 := Lib.hid (HB2.out.trans (hb3.mono HB2.out.size))
  obtain ⟨E, hE⟩ : ∃ E, E = (edges (l ++ m)).length := ⟨_, rfl⟩
  have hE2 : E ≤ 2 * (n + n') := by
    rw [hE]; unfold edges
    have := edgesTo_len (l ++ m) (2 * (l ++ m).length)
    have := HLen.out
    omega
  rw [← hE]
  have HEl := Lib.hid hE
  have HR : Hid (∀ v w', w'.ownsRow w.heap.size 32 2 v (runsL l m).length (cellsT (runsL l m)) → Below w.heap.size w w' → RetOwn 32 (runsL l m) w (.returned v) w') := fun v w' h1 h2 => ⟨v, rfl, h1, h2⟩
  generalize RetOwn 32 (runsL l m) w = RR at *
  have hws : w.heap.size ≤ w3.heap.size := HB3.out.size
  clear hown3 hb3 harr hE HA3 HB2
  go_wp2
  go_loopw [7, 8] (fun v i wr => ∃ (k q : Nat) (a2 : Option Addr) (c2 : Nat), v = .slice a2 q c2 ∧ i = .int .i64 k ∧ k ≤ E ∧ (k + 1 ≤ E ∨ k = 0) ∧ q ≤ k ∧ q ≤ c2 ∧ Hid (q = (runsTo l m (edges (l ++ m)) k).length) ∧ Hid (wr.ownsRow w3.heap.size 32 2 (.slice a2 q c2) q (cellsT (runsTo l m (edges (l ++ m)) k))) ∧ Hid (Below w3.heap.size w3 wr)) (fun _ i _ => E - (intOf i).toNat)
  case atStart => exact ⟨0, 0, none, 0, rfl, rfl, by omega, by omega, by omega, by omega, rfl, World.ownsRow_nil _ _ _ _, Below.refl _ _⟩
  case round =>
    obtain ⟨k, q, a2, c2, rfl, rfl, hkE, hk1, hqk, hqc, HQ, HO, HB⟩ := hrel
    have hbw := HB.out.size
    by_cases hlt : k + 1 < E
    · have hkl : k < (edges (l ++ m)).length := by have := HEl.out; omega
      have hkl1 : k + 1 < (edges (l ++ m)).length := by have := HEl.out; omega
      obtain ⟨be, oe, h0, hbe, c0⟩ := numAt HE.out hkl
      subst h0
      obtain ⟨be', oe', h0, _, c1⟩ := numAt HE.out hkl1
      simp only [Option.some.injEq, Addr.mk.injEq, and_true] at h0
      obtain ⟨rfl, rfl⟩ := h0
      obtain ⟨p, hp⟩ : ∃ p, p = (edges (l ++ m))[k] := ⟨_, rfl⟩
      obtain ⟨p', hp'⟩ : ∃ p', p' = (edges (l ++ m))[k + 1] := ⟨_, rfl⟩
      have HRun : Hid (runsTo l m (edges (l ++ m)) (k + 1) = if goodB l m p then joinE (runsTo l m (edges (l ++ m)) k) p p' else runsTo l m (edges (l ++ m)) k) := by
        show _ = _
        rw [hp, hp']
        have e1 : (edges (l ++ m)).getD k 0 = (edges (l ++ m))[k] := by simp [List.getD, List.getElem?_eq_getElem hkl]
        have e2 : (edges (l ++ m)).getD (k + 1) 0 = (edges (l ++ m))[k + 1] := by simp [List.getD, List.getElem?_eq_getElem hkl1]
        rw [← e1, ← e2]; rfl
      rw [← hp] at c0
      rw [← hp'] at c1
      have C0 := Lib.hid c0
      have C1 := Lib.hid c1
      have d0 : wr.cell? ⟨be, oe + k, none⟩ = some (.int .i64 p) := (HB.out.cell (p := ⟨be, oe + k, none⟩) hbe).trans c0
      have hltI : (k : Int) + 1 < (E : Int) := by omega
      clear hp hp' c0 c1 hlt
      have hwr : w.heap.size ≤ wr.heap.size := Nat.le_trans hws hbw
      have HA := Lib.hid ((HH.out.below (HB3.out.trans (HB.out.mono hws))))
      have HA' := Lib.hid ((HH'.out.below (HB3.out.trans (HB.out.mono hws))))
      have hgood : (anyB l p = false ∧ Hid (goodB l m p = false)) ∨ (anyB l p = true ∧ anyB m p = true ∧ Hid (goodB l m p = false)) ∨ (anyB l p = true ∧ anyB m p = false ∧ Hid (goodB l m p = true)) := by
        unfold goodB
        cases anyB l p <;> cases anyB m p <;> simp [Hid]
      go_wp2_with fail
      with_reducible refine (any_any w.heap.size l a n cap p _ HA.out (by omega) HN.out (by omega)).mono ?_
      rintro e w4 ⟨rfl, hb4⟩
      rcases hgood with ⟨h1, hg⟩ | ⟨h1, h2, hg⟩ | ⟨h1, h2, hg⟩
      · rw [h1]
        have hrun := HRun.out
        rw [hg.out] at hrun
        have HRn := Lib.hid hrun
        have HO4 := Lib.hid (own_below HO.out (Nat.le_refl _) hb4)
        have HB4 := Lib.hid (HB.out.trans (hb4.mono hbw))
        clear h1 hg hrun HRun hb4 d0
        go_wp2
        go_roundw
        case rel => exact ⟨k + 1, q, a2, c2, rfl, by go_num, by omega, by omega, by omega, hqc, by show _ = _; rw [HRn.out]; exact HQ.out, by show World.ownsRow _ _ _ _ _ _ _; rw [HRn.out]; exact HO4.out, HB4⟩
        case measure => simp [intOf]; omega
      · rw [h1]
        have d1 : w4.cell? ⟨be, oe + k, none⟩ = some (.int .i64 p) := (hb4.cell (p := ⟨be, oe + k, none⟩) (by show be < _; omega)).trans d0
        have HA4 := Lib.hid (HA'.out.below (hb4.mono hwr))
        have hw4 := hb4.size
        have HO4 := Lib.hid (own_below HO.out (Nat.le_refl _) hb4)
        have HB4 := Lib.hid (HB.out.trans (hb4.mono hbw))
        clear h1 hb4 d0
        go_wp2_with fail
        with_reducible refine (any_any w.heap.size m a' n' cap' p _ (HA4.out.below (Below.refl _ _)) (by omega) HN'.out (by omega)).mono ?_
        rintro e w5 ⟨rfl, hb5⟩
        rw [h2]
        have hrun := HRun.out
        rw [hg.out] at hrun
        have HRn := Lib.hid hrun
        have HO5 := Lib.hid (own_below HO4.out (Nat.le_refl _) hb5)
        have HB5 := Lib.hid (HB4.out.trans (hb5.mono HB4.out.size))
        clear h2 hg hrun HRun hb5 d1
        go_wp2
        go_roundw
        case rel => exact ⟨k + 1, q, a2, c2, rfl, by go_num, by omega, by omega, by omega, hqc, by show _ = _; rw [HRn.out]; exact HQ.out, by show World.ownsRow _ _ _ _ _ _ _; rw [HRn.out]; exact HO5.out, HB5⟩
        case measure => simp [intOf]; omega
      · rw [h1]
        have d1 : w4.cell? ⟨be, oe + k, none⟩ = some (.int .i64 p) := (hb4.cell (p := ⟨be, oe + k, none⟩) (by show be < _; omega)).trans d0
        have HA4 := Lib.hid (HA'.out.below (hb4.mono hwr))
        have hw4 := hb4.size
        have HO4 := Lib.hid (own_below HO.out (Nat.le_refl _) hb4)
        have HB4 := Lib.hid (HB.out.trans (hb4.mono hbw))
        clear h1 hb4 d0
        go_wp2_with fail
        with_reducible refine (any_any w.heap.size m a' n' cap' p _ (HA4.out.below (Below.refl _ _)) (by omega) HN'.out (by omega)).mono ?_
        rintro e w5 ⟨rfl, hb5⟩
        rw [h2]
        have hrun := HRun.out
        rw [hg.out, if_pos rfl] at hrun
        have HRn := Lib.hid hrun
        have HO5 := Lib.hid (own_below HO4.out (Nat.le_refl _) hb5)
        have HB5 := Lib.hid (HB4.out.trans (hb5.mono HB4.out.size))
        clear h2 hg hrun HRun hb5 d1 HO4 HB4 HA4
        have hws5 : w3.heap.size ≤ w5.heap.size := HB5.out.size
        obtain ⟨R, hR⟩ : ∃ R, R = runsTo l m (edges (l ++ m)) k := ⟨_, rfl⟩
        rw [← hR] at HQ HO5 HRn
        have hRl := list_last R
        clear hR HO
        have e0 : ∀ W, Later w5.drew W → W.cell? ⟨be, oe + k, none⟩ = some (.int .i64 p) := fun W hW => ((HB5.out.drew.trans (hW.mono (show w3.heap.size ≤ w5.heap.size from hws5))).cell (p := ⟨be, oe + k, none⟩) hbe).trans C0.out
        rcases hRl with rfl | ⟨I, s, rfl⟩
        · have hq0 : q = 0 := HQ.out
          have q1 : decide ((0 : Int) < (q : Int)) = false := by simp; omega
          have q2 : decide (0 < q) = false := by simp; omega
          clear hq0
          go_wp2_with fail
          refine wp_region_ord [(0, true), (1, true), (2, true), (3, true), (4, true), (5, true), (6, true), (7, true), (8, true), (9, true), (10, true), (11, true), (12, true), (13, true), (14, true), (15, true), (16, true)] (by kernel_rfl) (by kernel_rfl) (by kernel_rfl) (by kernel_rfl) ?_
          repeat (first | (refine wpO_F (v := ?_) rfl (by rfl) (fun w' hL => ?_) ?_; rotate_left; (solve | (go_simp; with_reducible rfl) | go_simp); try simp only [Act.put, List.setIfInBounds_toArray, List.set_cons_zero, List.set_cons_succ]) | (refine wpO_G rfl (by rfl) ?_; try simp only [Act.put, List.setIfInBounds_toArray, List.set_cons_zero, List.set_cons_succ]))
          refine wpO_nil ?_
          clear e0 q1 q2
          go_wp2_with fail
          have hSx : be ∉ (Value.slice a2 q c2).ownBlock.toList := by
            intro hm
            rw [Option.mem_toList] at hm
            have := (World.ownsRow.lt HO5.out be hm).1
            omega
          have D : Hid (∀ W, Chg (Value.slice a2 q c2).ownBlock.toList w5.drew.drew W → W.cell? ⟨be, oe + k, none⟩ = some (.int .i64 p) ∧ W.cell? ⟨be, oe + (k + 1), none⟩ = some (.int .i64 p')) := by
            intro W hW
            exact ⟨(hW.undrew.undrew.cell (by omega) hSx).trans ((HB5.out.cell (p := ⟨be, oe + k, none⟩) hbe).trans C0.out), (hW.undrew.undrew.cell (by omega) hSx).trans ((HB5.out.cell (p := ⟨be, oe + (k + 1), none⟩) hbe).trans C1.out)⟩
          have d0 : ∀ W, Chg (Value.slice a2 q c2).ownBlock.toList w5.drew.drew W → W.cell? ⟨be, oe + k, none⟩ = some (.int .i64 p) := fun W h => (D.out W h).1
          have d1 : ∀ W, Chg (Value.slice a2 q c2).ownBlock.toList w5.drew.drew W → W.cell? ⟨be, oe + (k + 1), none⟩ = some (.int .i64 p') := fun W h => (D.out W h).2
          have hown := Lib.hid (World.ownsRow.alloc (w := w5.drew.drew) HO5.out (.cells #[.int .i64 p, .int .i64 p'] 32))
          have hA := Lib.hid (arr_new1 w5.drew.drew 32 p p')
          have b1 : IntKind.i64.wrap ((k : Int) + 1) = (k : Int) + 1 := IntWalk.i64_in _ ⟨by omega, by omega⟩
          have b2 : ((k : Int) + 1).toNat = k + 1 := by omega
          have b3 : (0 : Int) ≤ (k : Int) + 1 := by omega
          have b4 : k < E := by omega
          have b5 : k + 1 < E := by omega
          refine wp_region_ordS (Value.slice a2 q c2).ownBlock.toList [(0, true), (1, true), (2, true), (3, true), (4, true), (5, true), (6, true), (7, true), (8, true), (9, true), (10, true), (11, false), (12, false), (13, true)] (by kernel_rfl) (by kernel_rfl) (by kernel_rfl) (by kernel_rfl) ?_
          repeat (first | (refine wpO_F (v := ?_) rfl (by rfl) (fun w' hL => ?_) ?_; rotate_left; (solve | (go_simp; with_reducible rfl) | go_simp); try simp only [Act.put, List.setIfInBounds_toArray, List.set_cons_zero, List.set_cons_succ]) | (refine wpO_G' (Chg.refl _) rfl (by rfl) ?_; try simp only [Act.put, List.setIfInBounds_toArray, List.set_cons_zero, List.set_cons_succ]))
          refine wpO_C rfl (by rfl) ?_
          go_simp
          refine ⟨(Chg.refl _ _).alloc _, ?_⟩
          try simp only [Act.put, List.setIfInBounds_toArray, List.set_cons_zero, List.set_cons_succ]
          refine wpO_C rfl (by rfl) ?_
          refine wp_appS (.tmp 66) (.tmp 77) 24 rfl w3.heap.size 32 iP (.agg #[.int .i64 0, .int .i64 0]) 2 16 Try.underlying24 hiP hzP rfl hsP (by omega) hbP (by omega) (.slice a2 q c2) q _ _ hown.out rfl _ (some ⟨w5.heap.size, 0, none⟩) 1 1 _ hA.out rfl (one_T _) rfl (by omega) (by simp; omega) ?_
          intro v6 x6 h6 hc6 hb6
          refine ⟨hc6, ?_⟩
          try simp only [Act.put, List.setIfInBounds_toArray, List.set_cons_zero, List.set_cons_succ]
          obtain ⟨a6, c6, rfl, hc6', _, _⟩ := own_slice h6
          have H6 := Lib.hid h6
          have HB6 := Lib.hid ((HB5.out.drew.drew.alloc (show w3.heap.size ≤ w5.heap.size from hws5) _).trans hb6)
          clear h6 hc6 hb6
          repeat (first | (refine wpO_F (v := ?_) rfl (by rfl) (fun w' hL => ?_) ?_; rotate_left; (solve | (go_simp; with_reducible rfl) | go_simp); try simp only [Act.put, List.setIfInBounds_toArray, List.set_cons_zero, List.set_cons_succ]) | (refine wpO_G' (Chg.refl _) rfl (by rfl) ?_; try simp only [Act.put, List.setIfInBounds_toArray, List.set_cons_zero, List.set_cons_succ]))
          refine wpO_nil ?_
          clear d0 d1 b1 b2 b3 b4 b5 D
          go_wp2
          go_roundw
          case rel => exact ⟨k + 1, q + 1, a6, c6, rfl, by go_num, by omega, by omega, by omega, hc6', by show _ = _; rw [HRn.out, joinE_nil]; have := HQ.out; simp at this ⊢; omega, by show World.ownsRow _ _ _ _ _ _ _; rw [HRn.out, joinE_nil]; simpa [cellsOf] using H6.out, HB6⟩
          case measure => simp [intOf]; omega
        · have hq1 : q = I.length + 1 := by have := HQ.out; rw [List.length_append] at this; simpa using this
          obtain ⟨g, cg, hv, hg1, hg2⟩ := World.ownsRow.form HO5.out (by omega)
          simp only [Value.slice.injEq, true_and] at hv
          obtain ⟨rfl, rfl⟩ := hv
          have hlast : w5.cell? ⟨g, (q - 1) * 2 + 1, none⟩ = some (.int .i64 s.2) := by
            rw [World.ownsRow.cellAt HO5.out _ (by omega)]
            have := cellsOf_get encS 2 encS_len (I ++ [s]) (q - 1) 1 s (.int .i64 s.2) (by rw [hq1]; simp) rfl
            exact this
          have e1 : ∀ W, Later w5.drew W → W.cell? ⟨g, (q - 1) * 2 + 1, none⟩ = some (.int .i64 s.2) := fun W hW => ((Below.refl w5.heap.size w5).drew.trans hW |>.cell (p := ⟨g, (q - 1) * 2 + 1, none⟩) hg2).trans hlast
          have q1 : decide ((0 : Int) < (q : Int)) = true := by simp; omega
          have q2 : decide (0 < q) = true := by simp; omega
          have b0 : IntKind.i64.wrap ((q : Int) - 1) = ((q - 1 : Nat) : Int) := by rw [IntWalk.i64_in _ ⟨by omega, by omega⟩]; omega
          have b1 : q - 1 < q := by omega
          have b4 : k < E := by omega
          have HQ1 := Lib.hid hq1
          have hql : 1 ≤ q := by omega
          clear hq1
          by_cases hs : s.2 = p
          · have q3 : (s.2 == p) = true := by simp [hs]
            have HS := Lib.hid hs
            clear hs
            go_wp2_with fail
            refine wp_region_ord [(0, true), (1, true), (2, true), (3, true), (4, true), (5, true), (6, true), (7, true), (8, true), (9, true), (10, true), (11, true), (12, true), (13, true), (14, true), (15, true), (16, true)] (by kernel_rfl) (by kernel_rfl) (by kernel_rfl) (by kernel_rfl) ?_
            repeat (first | (refine wpO_F (v := ?_) rfl (by rfl) (fun w' hL => ?_) ?_; rotate_left; (solve | (go_simp; with_reducible rfl) | go_simp); try simp only [Act.put, List.setIfInBounds_toArray, List.set_cons_zero, List.set_cons_succ]) | (refine wpO_G rfl (by rfl) ?_; try simp only [Act.put, List.setIfInBounds_toArray, List.set_cons_zero, List.set_cons_succ]))
            refine wpO_nil ?_
            clear e0 e1 q1 q2 q3 b0 b4
            have b0 : ((q : Int) - 1) = ((q - 1 : Nat) : Int) := by omega
            have c1 : w5.drew.cell? ⟨be, oe + (k + 1), none⟩ = some (.int .i64 p') := (HB5.out.cell (p := ⟨be, oe + (k + 1), none⟩) hbe).trans C1.out
            have g0 : w5.drew.cell? ⟨g, (q - 1) * 2 + 1, none⟩ = some (.int .i64 s.2) := hlast
            have g1 : w5.drew.frozen? ⟨g, (q - 1) * 2 + 1, none⟩ = false := World.ownsRow.frozenAt HO5.out _
            have hst := (World.ownsRow.stored (w := w5.drew) HO5.out ((q - 1) * 2 + 1) (.int .i64 p')).1
            have hI : (q - 1) * 2 + 1 = I.length * 2 + 1 := by have := HQ1.out; omega
            rw [show (cellsT (I ++ [s])).set ((q - 1) * 2 + 1) (.int .i64 p') = cellsT (I ++ [(s.1, p')]) by rw [hI]; exact cellsT_set I s p'] at hst
            have HSt := Lib.hid hst
            have hbl : Below w3.heap.size w3 (w5.drew.setCell ⟨g, (q - 1) * 2 + 1, none⟩ (.int .i64 p')) := HB5.out.drew.setCell hg1 _
            have HBl := Lib.hid hbl
            clear hst hbl hlast hI
            go_wp2
            go_roundw
            case rel => exact ⟨k + 1, q, some ⟨g, 0, none⟩, c2, rfl, by go_num, by omega, by omega, by omega, hqc, by show _ = _; rw [HRn.out, joinE_eq _ _ _ _ HS.out, List.length_append, HQ1.out]; rfl, by show World.ownsRow _ _ _ _ _ _ _; rw [HRn.out, joinE_eq _ _ _ _ HS.out]; exact HSt.out, HBl.out⟩
            case measure => simp [intOf]; omega
          · have q3 : (s.2 == p) = false := by simp [hs]
            have HS := Lib.hid hs
            clear hs hlast
            go_wp2_with fail
            refine wp_region_ord [(0, true), (1, true), (2, true), (3, true), (4, true), (5, true), (6, true), (7, true), (8, true), (9, true), (10, true), (11, true), (12, true), (13, true), (14, true), (15, true), (16, true)] (by kernel_rfl) (by kernel_rfl) (by kernel_rfl) (by kernel_rfl) ?_
            repeat (first | (refine wpO_F (v := ?_) rfl (by rfl) (fun w' hL => ?_) ?_; rotate_left; (solve | (go_simp; with_reducible rfl) | go_simp); try simp only [Act.put, List.setIfInBounds_toArray, List.set_cons_zero, List.set_cons_succ]) | (refine wpO_G rfl (by rfl) ?_; try simp only [Act.put, List.setIfInBounds_toArray, List.set_cons_zero, List.set_cons_succ]))
            refine wpO_nil ?_
            clear e0 e1 q1 q2 q3 b0 b1 b4
            go_wp2_with fail
            have hSx : be ∉ (Value.slice (some ⟨g, 0, none⟩) q c2).ownBlock.toList := by
              intro hm
              rw [Option.mem_toList] at hm
              have := (World.ownsRow.lt HO5.out be hm).1
              omega
            have D : Hid (∀ W, Chg (Value.slice (some ⟨g, 0, none⟩) q c2).ownBlock.toList w5.drew.drew W → W.cell? ⟨be, oe + k, none⟩ = some (.int .i64 p) ∧ W.cell? ⟨be, oe + (k + 1), none⟩ = some (.int .i64 p')) := by
              intro W hW
              exact ⟨(hW.undrew.undrew.cell (by omega) hSx).trans ((HB5.out.cell (p := ⟨be, oe + k, none⟩) hbe).trans C0.out), (hW.undrew.undrew.cell (by omega) hSx).trans ((HB5.out.cell (p := ⟨be, oe + (k + 1), none⟩) hbe).trans C1.out)⟩
            have d0 : ∀ W, Chg (Value.slice (some ⟨g, 0, none⟩) q c2).ownBlock.toList w5.drew.drew W → W.cell? ⟨be, oe + k, none⟩ = some (.int .i64 p) := fun W h => (D.out W h).1
            have d1 : ∀ W, Chg (Value.slice (some ⟨g, 0, none⟩) q c2).ownBlock.toList w5.drew.drew W → W.cell? ⟨be, oe + (k + 1), none⟩ = some (.int .i64 p') := fun W h => (D.out W h).2
            have hown := Lib.hid (World.ownsRow.alloc (w := w5.drew.drew) HO5.out (.cells #[.int .i64 p, .int .i64 p'] 32))
            have hA := Lib.hid (arr_new1 w5.drew.drew 32 p p')
            have b1 : IntKind.i64.wrap ((k : Int) + 1) = (k : Int) + 1 := IntWalk.i64_in _ ⟨by omega, by omega⟩
            have b2 : ((k : Int) + 1).toNat = k + 1 := by omega
            have b3 : (0 : Int) ≤ (k : Int) + 1 := by omega
            have b4 : k < E := by omega
            have b5 : k + 1 < E := by omega
            refine wp_region_ordS (Value.slice (some ⟨g, 0, none⟩) q c2).ownBlock.toList [(0, true), (1, true), (2, true), (3, true), (4, true), (5, true), (6, true), (7, true), (8, true), (9, true), (10, true), (11, false), (12, false), (13, true)] (by kernel_rfl) (by kernel_rfl) (by kernel_rfl) (by kernel_rfl) ?_
            repeat (first | (refine wpO_F (v := ?_) rfl (by rfl) (fun w' hL => ?_) ?_; rotate_left; (solve | (go_simp; with_reducible rfl) | go_simp); try simp only [Act.put, List.setIfInBounds_toArray, List.set_cons_zero, List.set_cons_succ]) | (refine wpO_G' (Chg.refl _) rfl (by rfl) ?_; try simp only [Act.put, List.setIfInBounds_toArray, List.set_cons_zero, List.set_cons_succ]))
            refine wpO_C rfl (by rfl) ?_
            go_simp
            refine ⟨(Chg.refl _ _).alloc _, ?_⟩
            try simp only [Act.put, List.setIfInBounds_toArray, List.set_cons_zero, List.set_cons_succ]
            refine wpO_C rfl (by rfl) ?_
            refine wp_appS (.tmp 66) (.tmp 77) 24 rfl w3.heap.size 32 iP (.agg #[.int .i64 0, .int .i64 0]) 2 16 Try.underlying24 hiP hzP rfl hsP (by omega) hbP (by omega) (.slice (some ⟨g, 0, none⟩) q c2) q _ _ hown.out rfl _ (some ⟨w5.heap.size, 0, none⟩) 1 1 _ hA.out rfl (one_T _) rfl (by omega) (by simp; omega) ?_
            intro v6 x6 h6 hc6 hb6
            refine ⟨hc6, ?_⟩
            try simp only [Act.put, List.setIfInBounds_toArray, List.set_cons_zero, List.set_cons_succ]
            obtain ⟨a6, c6, rfl, hc6', _, _⟩ := own_slice h6
            have H6 := Lib.hid h6
            have HB6 := Lib.hid ((HB5.out.drew.drew.alloc (show w3.heap.size ≤ w5.heap.size from hws5) _).trans hb6)
            clear h6 hc6 hb6
            repeat (first | (refine wpO_F (v := ?_) rfl (by rfl) (fun w' hL => ?_) ?_; rotate_left; (solve | (go_simp; with_reducible rfl) | go_simp); try simp only [Act.put, List.setIfInBounds_toArray, List.set_cons_zero, List.set_cons_succ]) | (refine wpO_G' (Chg.refl _) rfl (by rfl) ?_; try simp only [Act.put, List.setIfInBounds_toArray, List.set_cons_zero, List.set_cons_succ]))
            refine wpO_nil ?_
            clear d0 d1 b1 b2 b3 b4 b5 D
            go_wp2
            go_roundw
            case rel => exact ⟨k + 1, q + 1, a6, c6, rfl, by go_num, by omega, by omega, by omega, hc6', by show _ = _; rw [HRn.out, joinE_ne _ _ _ _ HS.out]; have := HQ.out; simp at this ⊢; omega, by show World.ownsRow _ _ _ _ _ _ _; rw [HRn.out, joinE_ne _ _ _ _ HS.out]; rw [cellsT_app]; exact H6.out, HB6⟩
            case measure => simp [intOf]; omega
    · have hend : (edges (l ++ m)).length - 1 = k ∨ (k = 0 ∧ E = 0) := by have := HEl.out; omega
      have hrl : runsL l m = runsTo l m (edges (l ++ m)) k := by
        unfold runsL
        rcases hend with h1 | ⟨h1, h2⟩
        · rw [h1]
        · have : (edges (l ++ m)).length = 0 := by have := HEl.out; omega
          rw [this, h1]
      have HRl := Lib.hid hrl
      have q1 : decide ((k : Int) + 1 < (E : Int)) = false := by simp; omega
      have q2 : decide (k + 1 < E) = false := by simp; omega
      clear hend hrl hlt
      go_wp2
      refine HR.out _ _ ?_ (HB3.out.trans (HB.out.mono hws))
      rw [HRl.out, ← HQ.out]
      exact own_base HO.out hws
end Go.Proofs.Ytockmoiekbhneaa
