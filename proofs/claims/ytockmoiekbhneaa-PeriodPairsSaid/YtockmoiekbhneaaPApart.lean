/- The walks of period.Minus and period.Apart. -/
import Derived.Test.YtockmoiekbhneaaPValid
import Derived.Test.YtockmoiekbhneaaNApp
namespace Go.Proofs.Ytockmoiekbhneaa
open Go.RowKit

theorem cutS_le (s b : Int × Int) : (cutS s b).length ≤ 2 := by
  unfold cutS
  split
  · exact Nat.le_trans (validL_le _) (by simp)
  · exact Nat.le_trans (validL_le _) (by simp)
theorem minusS_snoc (l : List (Int × Int)) (s b : Int × Int) : minusS (l ++ [s]) b = minusS l b ++ cutS s b := by
  unfold minusS; rw [List.flatMap_append]; simp
theorem cellsT_app (l m : List (Int × Int)) : cellsT (l ++ m) = cellsT l ++ cellsT m := by simp [cellsOf]

set_option maxHeartbeats 2000000 in
theorem minus_any (N : Nat) (l : List (Int × Int)) (a : Option Addr) (n cap : Nat) (b1 b2 : Int) (w : World) (h : Arr N w a (cellsT l)) (hN : N ≤ w.heap.size) (hn : n = l.length) (hmax : n ≤ 1000000) :
    Calls Try.prog 21 #[.slice a n cap, .agg #[.int .i64 b1, .int .i64 b2]] w (RetOwn 23 (minusS l (b1, b2)) w) := by
  obtain ⟨iP, hiP, hzP, hsP, hbP⟩ := info_parts info_span
  have HH := Lib.hid h
  have HN := Lib.hid hn
  clear h hn
  have hBk := Blk.new w 23 #[.int .i64 b1, .int .i64 b2]
  have hB0 : Below w.heap.size w (w.alloc (.cells #[.int .i64 b1, .int .i64 b2] 23)) := (Below.refl _ _).alloc (Nat.le_refl _) _
  have HBk := Lib.hid hBk
  have HB0 := Lib.hid hB0
  clear hBk hB0
  go_enter Try.func21, Try.ntmps21
  go_wp2
  go_loopw [5, 13] (fun v i wr => ∃ k m : Nat, k ≤ n ∧ i = .int .i64 k ∧ m ≤ 2 * k ∧ Hid (m = (minusS (l.take k) (b1, b2)).length) ∧ Hid (wr.ownsRow (w.heap.size + 1) 23 2 v m (cellsT (minusS (l.take k) (b1, b2)))) ∧ Hid (Blk wr w.heap.size 23 #[.int .i64 b1, .int .i64 b2]) ∧ Hid (Below w.heap.size w wr)) (fun _ i _ => n - (intOf i).toNat)
  case atStart => exact ⟨0, 0, by omega, rfl, by omega, rfl, World.ownsRow_nil _ _ _ _, HBk, HB0⟩
  case round =>
    obtain ⟨k, m, hk, rfl, hm, HM, HO, HBk, HB⟩ := hrel
    by_cases hlt : k < n
    · have hkl : k < l.length := by have := HN.out; omega
      obtain ⟨b, o, rfl, hb1, c0, c1⟩ := spanAt HH.out hkl
      have c0 := (HB.out.cell (p := ⟨b, o + k * 2, none⟩) (by show b < _; omega)).trans c0
      have c1 := (HB.out.cell (p := ⟨b, o + k * 2 + 1, none⟩) (by show b < _; omega)).trans c1
      have HS := Lib.hid (show minusS (l.take (k + 1)) (b1, b2) = _ by rw [take_snocS l k hkl, minusS_snoc])
      have HL := Lib.hid (cutS_le l[k] (b1, b2))
      obtain ⟨⟨f, t⟩, hft⟩ : ∃ x, x = l[k] := ⟨_, rfl⟩
      rw [← hft] at c0 c1 HS HL
      clear hft
      simp only at c0 c1
      have e0 : wr.cell? ⟨w.heap.size, 0, none⟩ = some (.int .i64 b1) := HBk.out.cell 0
      have e1 : wr.cell? ⟨w.heap.size, 1, none⟩ = some (.int .i64 b2) := HBk.out.cell 1
      have hz0 : w.heap.size < wr.heap.size := HBk.out.lt
      have hsz := HB.out.size
      go_wp2_with fail
      refine (cut_any _ _ _ _ _).mono ?_
      rintro e w1 ⟨cv, rfl, hcut, hb2⟩
      obtain ⟨ca, cc, rfl, _, _, hcA⟩ := own_arr hcut
      have HCA := Lib.hid hcA
      have hs1 : wr.heap.size < w1.heap.size := by have := hb2.size; simp at this; omega
      have hw : Below w.heap.size w w1 := (HB.out.alloc (by omega) _).trans (hb2.mono (by simp; omega))
      have HW := Lib.hid hw
      have hown := Lib.hid (own_below (World.ownsRow.alloc HO.out _) (Nat.le_refl _) hb2)
      have HBk1 := Lib.hid ((HBk.out.alloc _).bel2 hb2 (by simp; omega))
      generalize bothS (f, t) (b1, b2) = bs at *
      obtain ⟨bs1, bs2⟩ := bs
      obtain ⟨bs3, bs4⟩ := bs1
      have HP : Hid (∀ v6 x6, x6.ownsRow (w.heap.size + 1) 23 2 v6 (m + (cutS (f, t) (b1, b2)).length) (cellsT (minusS (l.take k) (b1, b2)) ++ cellsT (cutS (f, t) (b1, b2))) → Below (w.heap.size + 1) (w1.alloc (.cells #[.int .i64 bs3, .int .i64 bs4] 23)) x6 →
          Blk x6 w.heap.size 23 #[.int .i64 b1, .int .i64 b2] ∧ Below w.heap.size w x6) := by
        intro v6 x6 h1 h2
        refine ⟨(HBk1.out.alloc _).bel2 h2 (by omega), ?_⟩
        exact (HW.out.alloc (by omega) _).trans (h2.mono (by omega))
      have hone := Lib.hid (one_T (cutS (f, t) (b1, b2)))
      have hlen := Lib.hid (cellsT_len (cutS (f, t) (b1, b2)))
      obtain ⟨q, hq⟩ : ∃ q, q = (cutS (f, t) (b1, b2)).length := ⟨_, rfl⟩
      have HQ := Lib.hid hq
      have hq2 : q ≤ 2 := by rw [hq]; exact HL.out
      rw [← hq] at HP hlen
      have hownA := Lib.hid (World.ownsRow.alloc hown.out (.cells #[.int .i64 bs3, .int .i64 bs4] 23))
      have hcAA := Lib.hid (HCA.out.later (N := 0) ((Below.refl _ w1).alloc (Nat.le_refl _) (.cells #[.int .i64 bs3, .int .i64 bs4] 23)))
      clear hcut hcA hw hb2 c0 c1 e0 e1
      rw [← hq]
      clear hq
      go_wp2_with (refine wpList_appS rfl (.tmp 24) (.tmp 25) 26 rfl (w.heap.size + 1) 23 iP (.agg #[.int .i64 0, .int .i64 0]) 2 16 Try.underlying26 hiP hzP rfl hsP (by omega) hbP (by omega) _ m _ _ hownA.out rfl _ ca q cc _ hcAA.out hlen.out hone.out rfl (by omega) (by simp; omega) ?_; intro v6 x6 h6 _ hb6; obtain ⟨hp1, hp2⟩ := HP.out v6 x6 h6 hb6; have H6 := Lib.hid h6; have HP1 := Lib.hid hp1; have HP2 := Lib.hid hp2; clear h6 hb6 hp1 hp2)
      go_roundw
      case rel => exact ⟨k + 1, m + q, by omega, by go_num, by omega, by show _ = _; rw [HS.out, List.length_append, ← HM.out, ← HQ.out], by show World.ownsRow _ _ _ _ _ _ _; rw [HS.out, cellsT_app]; exact H6.out, HP1, HP2⟩
      case measure => simp [intOf]; omega
    · have hkl : l.take k = l := List.take_of_length_le (by have := HN.out; omega)
      rw [hkl] at HM HO
      clear hkl
      go_wp2
      go_ret
      exact ⟨_, rfl, by rw [← HM.out]; exact own_base HO.out (by omega), HB.out⟩

set_option maxHeartbeats 2000000 in
theorem apart_any (N : Nat) (l : List (Int × Int)) (a : Option Addr) (n cap : Nat) (w : World) (h : Arr N w a (cellsT l)) (hN : N ≤ w.heap.size) (hn : n = l.length) (hmax : n ≤ 1000000) :
    Calls Try.prog 22 #[.slice a n cap] w fun e w' => e = .returned (.bool (apartTo l l.length)) ∧ Below w.heap.size w w' := by
  have HH := Lib.hid h
  have HN := Lib.hid hn
  clear h hn
  go_enter Try.func22, Try.ntmps22
  go_wp2
  go_loopw [7] (fun i wr => ∃ k : Nat, k ≤ n ∧ i = .int .i64 k ∧ Hid (apartTo l k = true) ∧ Hid (Below w.heap.size w wr)) (fun i _ => n - (intOf i).toNat)
  case atStart => exact ⟨0, by omega, rfl, rfl, Below.refl _ _⟩
  case round =>
    obtain ⟨k, hk, rfl, HA, HB⟩ := hrel
    by_cases hlt : k < n
    · have hkl : k < l.length := by have := HN.out; omega
      have hget := List.getElem?_eq_getElem hkl
      have HGet := Lib.hid hget
      obtain ⟨b, o, rfl, hb1, c0, c1⟩ := spanAt HH.out hkl
      have hbw := HB.out.size
      have c0 := (HB.out.cell (p := ⟨b, o + k * 2, none⟩) (by show b < _; omega)).trans c0
      have c1 := (HB.out.cell (p := ⟨b, o + k * 2 + 1, none⟩) (by show b < _; omega)).trans c1
      obtain ⟨⟨f, t⟩, hft⟩ : ∃ x, x = l[k] := ⟨_, rfl⟩
      rw [← hft] at c0 c1 HGet
      clear hft hget
      simp only at c0 c1
      have HSucc := Lib.hid (apartTo_succ l k)
      have HFin : Hid (apartTo l (k + 1) = false → apartTo l l.length = false) := by
        intro h1
        cases h2 : apartTo l l.length with
        | false => rfl
        | true => rw [apartTo_le h2 (by omega)] at h1; cases h1
      have HW := Lib.hid (HB.out.alloc (show w.heap.size ≤ wr.heap.size by omega) (.cells #[.int .i64 f, .int .i64 t] 23))
      have hBv := Lib.hid (Blk.new wr 23 #[.int .i64 f, .int .i64 t])
      have D : Hid (∀ W, Later (wr.alloc (.cells #[.int .i64 f, .int .i64 t] 23)).drew W → W.cell? ⟨wr.heap.size, 0, none⟩ = some (.int .i64 f) ∧ W.cell? ⟨wr.heap.size, 1, none⟩ = some (.int .i64 t)) := by
        intro W hW
        have h2 := hBv.out.drew.bel2 hW (by simp)
        exact ⟨h2.cell 0, h2.cell 1⟩
      have d0 : ∀ W, Later (wr.alloc (.cells #[.int .i64 f, .int .i64 t] 23)).drew W → W.cell? ⟨wr.heap.size, 0, none⟩ = some (.int .i64 f) := fun W h => (D.out W h).1
      have d1 : ∀ W, Later (wr.alloc (.cells #[.int .i64 f, .int .i64 t] 23)).drew W → W.cell? ⟨wr.heap.size, 1, none⟩ = some (.int .i64 t) := fun W h => (D.out W h).2
      by_cases hr : f < t
      · by_cases h0 : 0 < k
        · obtain ⟨⟨pf, pt⟩, hp⟩ : ∃ x, x = l[k - 1] := ⟨_, rfl⟩
          have hkl1 : k - 1 < l.length := by omega
          have hgp : l[k - 1]? = some (pf, pt) := by rw [hp]; exact List.getElem?_eq_getElem hkl1
          obtain ⟨b2, o2, he, hb3, _, e1⟩ := spanAt HH.out hkl1
          simp only [Option.some.injEq, Addr.mk.injEq, and_true] at he
          obtain ⟨rfl, rfl⟩ := he
          rw [← hp] at e1
          simp only at e1
          have E1 := Lib.hid ((HB.out.cell (p := ⟨b, o + (k - 1) * 2 + 1, none⟩) (by show b < _; omega)).trans e1)
          have HOk : Hid (apartTo l (k + 1) = decide (pt ≤ f)) := by
            show _ = _
            rw [HSucc.out, HA.out]
            have e : k = (k - 1) + 1 := by omega
            have h1 := HGet.out
            rw [e] at h1
            rw [e, okAt_succ h1 hgp]
            simp [hr]
          have D1 : Hid (∀ W1, Below (wr.heap.size + 1) (wr.alloc (.cells #[.int .i64 f, .int .i64 t] 23)).drew W1 → ∀ W, Later W1 W → W.cell? ⟨wr.heap.size, 0, none⟩ = some (.int .i64 f) ∧ W.cell? ⟨b, o + (k - 1) * 2 + 1, none⟩ = some (.int .i64 pt)) := by
            intro W1 h1 W hW
            have h2 := (hBv.out.drew.bel2 h1 (by omega)).bel2 hW (by have := h1.size; simp at this; omega)
            have h4 : Below wr.heap.size wr W := ((Below.refl _ _).alloc (Nat.le_refl _) _).drew.trans ((h1.mono (by omega)).trans (Below.mono hW (by have := h1.size; simp at this; omega)))
            exact ⟨h2.cell 0, (h4.cell (p := ⟨b, o + (k - 1) * 2 + 1, none⟩) (by show b < _; omega)).trans E1.out⟩
          have q0 : decide ((0 : Int) < (k : Int)) = true := by simp; omega
          have q1 : decide (0 < k) = true := by simp; omega
          have w1k : IntKind.i64.wrap ((k : Int) - 1) = ((k - 1 : Nat) : Int) := by rw [IntWalk.i64_in _ ⟨by omega, by omega⟩]; omega
          have hk1n : k - 1 < n := by omega
          clear hgp e1 hp
          by_cases hq : pt ≤ f
          · have HOk2 : Hid (apartTo l (k + 1) = true) := by show _ = _; rw [HOk.out]; simpa using hq
            go_wp2_with fail
            refine wp_region_ord [(0, true), (1, false), (2, true), (3, true), (4, true), (5, true), (6, true), (7, true), (8, true), (9, true), (10, true), (11, true), (12, true), (13, true), (14, true), (15, true), (16, true), (17, true)] (by kernel_rfl) (by kernel_rfl) (by kernel_rfl) (by kernel_rfl) ?_
            repeat (first | (refine wpO_F (v := ?_) rfl (by rfl) (fun w' hL => ?_) ?_; rotate_left; (solve | (go_simp; with_reducible rfl) | go_simp); try simp only [Act.put, List.setIfInBounds_toArray, List.set_cons_zero, List.set_cons_succ]) | (refine wpO_G rfl (by rfl) ?_; try simp only [Act.put, List.setIfInBounds_toArray, List.set_cons_zero, List.set_cons_succ]))
            refine wpO_C rfl (by rfl) ?_
            go_simp
            refine (PRight_yes _ _ _ hr).mono ?_
            rintro e w1 ⟨rfl, hb2⟩
            refine ⟨hb2, ?_⟩
            try simp only [Act.put, List.setIfInBounds_toArray, List.set_cons_zero, List.set_cons_succ]
            have hs1 : (wr.alloc (.cells #[.int .i64 f, .int .i64 t] 23)).drew.heap.size = wr.heap.size + 1 := by simp
            have d2 : ∀ W, Later w1 W → W.cell? ⟨wr.heap.size, 0, none⟩ = some (.int .i64 f) := fun W h => (D1.out w1 (by rw [← hs1]; exact hb2) W h).1
            have d3 : ∀ W, Later w1 W → W.cell? ⟨b, o + (k - 1) * 2 + 1, none⟩ = some (.int .i64 pt) := fun W h => (D1.out w1 (by rw [← hs1]; exact hb2) W h).2
            repeat (first | (refine wpO_F (v := ?_) rfl (by rfl) (fun w' hL => ?_) ?_; rotate_left; (solve | (go_simp; with_reducible rfl) | go_simp); try simp only [Act.put, List.setIfInBounds_toArray, List.set_cons_zero, List.set_cons_succ]) | (refine wpO_G rfl (by rfl) ?_; try simp only [Act.put, List.setIfInBounds_toArray, List.set_cons_zero, List.set_cons_succ]))
            refine wpO_nil ?_
            clear d0 d1 d2 d3 w1k
            have hw2 := Lib.hid (HW.out.drew.trans (Below.mono hb2 (by simp; omega)))
            go_wp2
            go_roundw
            case rel => exact ⟨k + 1, by omega, by go_num, HOk2, hw2⟩
            case measure => simp [intOf]; omega
          · have HOk2 : Hid (apartTo l l.length = false) := by apply HFin.out; rw [HOk.out]; simpa using hq
            go_wp2_with fail
            refine wp_region_ord [(0, true), (1, false), (2, true), (3, true), (4, true), (5, true), (6, true), (7, true), (8, true), (9, true), (10, true), (11, true), (12, true), (13, true), (14, true), (15, true), (16, true), (17, true)] (by kernel_rfl) (by kernel_rfl) (by kernel_rfl) (by kernel_rfl) ?_
            repeat (first | (refine wpO_F (v := ?_) rfl (by rfl) (fun w' hL => ?_) ?_; rotate_left; (solve | (go_simp; with_reducible rfl) | go_simp); try simp only [Act.put, List.setIfInBounds_toArray, List.set_cons_zero, List.set_cons_succ]) | (refine wpO_G rfl (by rfl) ?_; try simp only [Act.put, List.setIfInBounds_toArray, List.set_cons_zero, List.set_cons_succ]))
            refine wpO_C rfl (by rfl) ?_
            go_simp
            refine (PRight_yes _ _ _ hr).mono ?_
            rintro e w1 ⟨rfl, hb2⟩
            refine ⟨hb2, ?_⟩
            try simp only [Act.put, List.setIfInBounds_toArray, List.set_cons_zero, List.set_cons_succ]
            have hs1 : (wr.alloc (.cells #[.int .i64 f, .int .i64 t] 23)).drew.heap.size = wr.heap.size + 1 := by simp
            have d2 : ∀ W, Later w1 W → W.cell? ⟨wr.heap.size, 0, none⟩ = some (.int .i64 f) := fun W h => (D1.out w1 (by rw [← hs1]; exact hb2) W h).1
            have d3 : ∀ W, Later w1 W → W.cell? ⟨b, o + (k - 1) * 2 + 1, none⟩ = some (.int .i64 pt) := fun W h => (D1.out w1 (by rw [← hs1]; exact hb2) W h).2
            repeat (first | (refine wpO_F (v := ?_) rfl (by rfl) (fun w' hL => ?_) ?_; rotate_left; (solve | (go_simp; with_reducible rfl) | go_simp); try simp only [Act.put, List.setIfInBounds_toArray, List.set_cons_zero, List.set_cons_succ]) | (refine wpO_G rfl (by rfl) ?_; try simp only [Act.put, List.setIfInBounds_toArray, List.set_cons_zero, List.set_cons_succ]))
            refine wpO_nil ?_
            clear d0 d1 d2 d3 w1k
            have hw2 := Lib.hid (HW.out.drew.trans (Below.mono hb2 (by simp; omega)))
            go_wp2
            go_ret
            exact ⟨ret_bool (by rw [HOk2.out]), hw2.out⟩
        · have HOk : Hid (apartTo l (k + 1) = true) := by
            show _ = _
            have e : k = 0 := by omega
            have h1 := HGet.out
            rw [e] at h1
            rw [HSucc.out, HA.out, e, okAt_zero h1]; simpa using hr
          have q0 : decide ((0 : Int) < (k : Int)) = false := by simp; omega
          have q1 : decide (0 < k) = false := by simp; omega
          go_wp2_with fail
          refine wp_region_ord [(0, true), (1, false), (2, true), (3, true), (4, true), (5, true), (6, true), (7, true), (8, true), (9, true), (10, true), (11, true), (12, true), (13, true), (14, true), (15, true), (16, true), (17, true)] (by kernel_rfl) (by kernel_rfl) (by kernel_rfl) (by kernel_rfl) ?_
          repeat (first | (refine wpO_F (v := ?_) rfl (by rfl) (fun w' hL => ?_) ?_; rotate_left; (solve | (go_simp; with_reducible rfl) | go_simp); try simp only [Act.put, List.setIfInBounds_toArray, List.set_cons_zero, List.set_cons_succ]) | (refine wpO_G rfl (by rfl) ?_; try simp only [Act.put, List.setIfInBounds_toArray, List.set_cons_zero, List.set_cons_succ]))
          refine wpO_C rfl (by rfl) ?_
          go_simp
          refine (PRight_yes _ _ _ hr).mono ?_
          rintro e w1 ⟨rfl, hb2⟩
          refine ⟨hb2, ?_⟩
          try simp only [Act.put, List.setIfInBounds_toArray, List.set_cons_zero, List.set_cons_succ]
          repeat (first | (refine wpO_F (v := ?_) rfl (by rfl) (fun w' hL => ?_) ?_; rotate_left; (solve | (go_simp; with_reducible rfl) | go_simp); try simp only [Act.put, List.setIfInBounds_toArray, List.set_cons_zero, List.set_cons_succ]) | (refine wpO_G rfl (by rfl) ?_; try simp only [Act.put, List.setIfInBounds_toArray, List.set_cons_zero, List.set_cons_succ]))
          refine wpO_nil ?_
          clear d0 d1
          have hw2 := Lib.hid (HW.out.drew.trans (Below.mono hb2 (by simp; omega)))
          go_wp2
          go_roundw
          case rel => exact ⟨k + 1, by omega, by go_num, HOk, hw2⟩
          case measure => simp [intOf]; omega
      · have HNo : Hid (apartTo l l.length = false) := by
          apply HFin.out
          rw [HSucc.out, HA.out]
          unfold okAt rightB; rw [HGet.out]; simp; omega
        go_wp2_with fail
        refine wp_region_ord [(0, true), (1, false), (2, true), (3, true), (4, true), (5, true), (6, true), (7, true), (8, true), (9, true), (10, true), (11, true), (12, true), (13, true), (14, true), (15, true), (16, true), (17, true)] (by kernel_rfl) (by kernel_rfl) (by kernel_rfl) (by kernel_rfl) ?_
        repeat (first | (refine wpO_F (v := ?_) rfl (by rfl) (fun w' hL => ?_) ?_; rotate_left; (solve | (go_simp; with_reducible rfl) | go_simp); try simp only [Act.put, List.setIfInBounds_toArray, List.set_cons_zero, List.set_cons_succ]) | (refine wpO_G rfl (by rfl) ?_; try simp only [Act.put, List.setIfInBounds_toArray, List.set_cons_zero, List.set_cons_succ]))
        refine wpO_C rfl (by rfl) ?_
        go_simp
        refine (PRight_no _ _ _ (by omega)).mono ?_
        rintro e w1 ⟨rfl, hb2⟩
        refine ⟨hb2, ?_⟩
        try simp only [Act.put, List.setIfInBounds_toArray, List.set_cons_zero, List.set_cons_succ]
        repeat (first | (refine wpO_F (v := ?_) rfl (by rfl) (fun w' hL => ?_) ?_; rotate_left; (solve | (go_simp; with_reducible rfl) | go_simp); try simp only [Act.put, List.setIfInBounds_toArray, List.set_cons_zero, List.set_cons_succ]) | (refine wpO_G rfl (by rfl) ?_; try simp only [Act.put, List.setIfInBounds_toArray, List.set_cons_zero, List.set_cons_succ]))
        refine wpO_nil ?_
        clear d0 d1
        have hw2 := Lib.hid (HW.out.drew.trans (Below.mono hb2 (by simp; omega)))
        go_wp2
        go_ret
        exact ⟨ret_bool (by rw [HNo.out]), hw2.out⟩
    · obtain rfl : k = n := by omega
      go_wp2
      go_ret
      exact ⟨ret_bool (by rw [← HN.out, HA.out]), HB.out⟩
end Go.Proofs.Ytockmoiekbhneaa
