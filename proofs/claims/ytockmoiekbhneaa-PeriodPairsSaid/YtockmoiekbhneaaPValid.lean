/- The walks of period.valid and period.Cut. -/
import Derived.Test.YtockmoiekbhneaaPList
import Derived.Test.YtockmoiekbhneaaFoot
namespace Go.Proofs.Ytockmoiekbhneaa
open Go.RowKit

/-- A row of spans in memory of the call's own. -/
def RetOwn (T : TypeId) (l : List (Int × Int)) (w : World) (e : Ending) (w' : World) : Prop := ∃ v, e = .returned v ∧ w'.ownsRow w.heap.size T 2 v l.length (cellsT l) ∧ Below w.heap.size w w'

theorem validL_snoc (l : List (Int × Int)) (s : Int × Int) : validL (l ++ [s]) = validL l ++ if s.1 < s.2 then [s] else [] := by
  unfold validL; rw [List.filter_append]
  by_cases h : s.1 < s.2 <;> simp [List.filter_cons, rightB, h]
theorem validL_le (l : List (Int × Int)) : (validL l).length ≤ l.length := List.length_filter_le _ _

set_option maxHeartbeats 1000000 in
theorem valid_any (N : Nat) (l : List (Int × Int)) (a : Option Addr) (n cap : Nat) (w : World) (h : Arr N w a (cellsT l)) (hN : N ≤ w.heap.size) (hn : n = l.length) (hmax : n ≤ 1000000) :
    Calls Try.prog 24 #[.slice a n cap] w (RetOwn 23 (validL l) w) := by
  obtain ⟨iP, hiP, hzP, hsP, hbP⟩ := info_parts info_span
  have HH := Lib.hid h
  have HN := Lib.hid hn
  clear h hn
  go_enter Try.func24, Try.ntmps24
  go_wp2
  go_loopw [3, 8] (fun v i wr => ∃ k m : Nat, k ≤ n ∧ i = .int .i64 k ∧ m ≤ k ∧ Hid (m = (validL (l.take k)).length) ∧ Hid (wr.ownsRow w.heap.size 23 2 v m (cellsT (validL (l.take k)))) ∧ Below w.heap.size w wr) (fun _ i _ => n - (intOf i).toNat)
  case atStart => exact ⟨0, 0, by omega, rfl, by omega, rfl, World.ownsRow_nil _ _ _ _, Below.refl _ _⟩
  case round =>
    obtain ⟨k, m, hk, rfl, hm, HM, HO, hb⟩ := hrel
    by_cases hlt : k < n
    · have hkl : k < l.length := by have := HN.out; omega
      obtain ⟨b, o, rfl, hb1, c0, c1⟩ := spanAt HH.out hkl
      have c0 := (hb.cell (p := ⟨b, o + k * 2, none⟩) (by show b < _; omega)).trans c0
      have c1 := (hb.cell (p := ⟨b, o + k * 2 + 1, none⟩) (by show b < _; omega)).trans c1
      have HS := Lib.hid (show validL (l.take (k + 1)) = _ by rw [take_snocS l k hkl, validL_snoc])
      obtain ⟨⟨f, t⟩, hft⟩ : ∃ x, x = l[k] := ⟨_, rfl⟩
      rw [← hft] at c0 c1 HS
      clear hft
      simp only at c0 c1
      have hsz := hb.size
      by_cases hq : f < t
      · rw [if_pos hq] at HS
        go_wp2_with fail
        refine (PRight_yes _ _ _ hq).mono ?_
        rintro e w1 ⟨rfl, hb2⟩
        have hw : Below w.heap.size w w1 := (hb.alloc (by omega) _).trans (hb2.mono (by simp; omega))
        have hown := Lib.hid (own_below (World.ownsRow.alloc HO.out _) (Nat.le_refl _) hb2)
        obtain ⟨hc, hf⟩ := bcell hb2
        have hz : wr.heap.size < w1.heap.size := by have := hb2.size; simp at this; omega
        go_wp2_with (at_builtin; refine wpList_appN rfl (.tmp 14) (.tmp 16) 26 rfl w.heap.size 23 iP (.agg #[.int .i64 0, .int .i64 0]) 2 16 Try.underlying26 hiP hzP rfl hsP (by omega) hbP (by omega) _ m _ [.int .i64 f, .int .i64 t] w1 hown.out rfl _ rfl rfl (by simp [Value.oneCell']) rfl (by omega) (by omega) ?_; intro v' w2 hk2 hb3 hs2)
        have HK := Lib.hid hk2
        clear hk2
        go_roundw
        case rel => exact ⟨k + 1, m + 1, by omega, by go_num, by omega, by show _ = _; rw [HS.out, List.length_append, ← HM.out]; rfl, by show World.ownsRow _ _ _ _ _ _ _; rw [HS.out]; show World.ownsRow _ _ _ _ _ _ (cellsOf encS _); rw [cellsOf_snoc]; exact HK.out, hw.trans hb3⟩
        case measure => simp [intOf]; omega
      · rw [if_neg hq, List.append_nil] at HS
        go_wp2_with fail
        refine (PRight_no _ _ _ (by omega)).mono ?_
        rintro e w1 ⟨rfl, hb2⟩
        have hw : Below w.heap.size w w1 := (hb.alloc (by omega) _).trans (hb2.mono (by simp; omega))
        have hown := Lib.hid (own_below (World.ownsRow.alloc HO.out _) (Nat.le_refl _) hb2)
        go_wp2
        go_roundw
        case rel => exact ⟨k + 1, m, by omega, by go_num, by omega, by show _ = _; rw [HS.out, ← HM.out], by show World.ownsRow _ _ _ _ _ _ _; rw [HS.out]; exact hown.out, hw⟩
        case measure => simp [intOf]; omega
    · have hkl : l.take k = l := List.take_of_length_le (by have := HN.out; omega)
      rw [hkl] at HM HO
      clear hkl
      go_wp2
      go_ret
      exact ⟨_, rfl, by rw [← HM.out]; exact HO.out, hb⟩

theorem own_arr {w : World} {base : Nat} {T : TypeId} {v : Value} {l : List (Int × Int)} (h : w.ownsRow base T 2 v l.length (cellsT l)) : ∃ a cap, v = .slice a l.length cap ∧ l.length ≤ cap ∧ cap ≤ 9223372036854775807 ∧ Arr w.heap.size w a (cellsT l) := own_slice h

/-- What Cut returns. -/
def RetCut (s b : Int × Int) (w : World) (e : Ending) (w' : World) : Prop :=
  ∃ v, e = .returned (.tuple #[v, .agg #[.int .i64 (bothS s b).1.1, .int .i64 (bothS s b).1.2], .bool (bothS s b).2]) ∧ w'.ownsRow w.heap.size 23 2 v (cutS s b).length (cellsT (cutS s b)) ∧ Below w.heap.size w w'

theorem own_base {w : World} {base base' : Nat} {T : TypeId} {z n : Nat} {v : Value} {xs : List Value} (h : w.ownsRow base T z v n xs) (hb : base' ≤ base) : w.ownsRow base' T z v n xs := by
  obtain ⟨h1, h2⟩ := h
  refine ⟨h1, ?_⟩
  rcases h2 with h2 | ⟨g, cap, cur, hv, hg, r⟩
  · exact .inl h2
  · exact .inr ⟨g, cap, cur, hv, by omega, r⟩
theorem own_set {w : World} {base c o : Nat} {T : TypeId} {z n : Nat} {v : Value} {xs : List Value} (h : w.ownsRow base T z v n xs) (hc : c < base) (u : Value) : (w.setCell ⟨c, o, none⟩ u).ownsRow base T z v n xs := by
  obtain ⟨h1, h2⟩ := h
  refine ⟨h1, ?_⟩
  rcases h2 with h2 | ⟨g, cap, cur, hv, hg, hh, r⟩
  · exact .inl h2
  · refine .inr ⟨g, cap, cur, hv, hg, ?_, r⟩
    rw [Below.heap_setCell w ⟨c, o, none⟩ u g (by show g ≠ c; omega)]
    exact hh

theorem arr_new1 (w : World) (T : TypeId) (f t : Int) : Arr (w.heap.size + 1) (w.alloc (.cells #[.int .i64 f, .int .i64 t] T)) (some ⟨w.heap.size, 0, none⟩) (cellsT [(f, t)]) :=
  .inr ⟨w.heap.size, 0, rfl, by omega, fun i v hi => by
    rw [World.cell?_alloc_new, Nat.zero_add]
    match i, hi with
    | 0, hi => exact hi
    | 1, hi => exact hi⟩
theorem arr_new2 (w : World) (T : TypeId) (f t g u : Int) : Arr (w.heap.size + 1) (w.alloc (.cells #[.int .i64 f, .int .i64 t, .int .i64 g, .int .i64 u] T)) (some ⟨w.heap.size, 0, none⟩) (cellsT [(f, t), (g, u)]) :=
  .inr ⟨w.heap.size, 0, rfl, by omega, fun i v hi => by
    rw [World.cell?_alloc_new, Nat.zero_add]
    match i, hi with
    | 0, hi => exact hi
    | 1, hi => exact hi
    | 2, hi => exact hi
    | 3, hi => exact hi⟩

theorem Blk.bel2 {w w' : World} {g N : Nat} {t : TypeId} {cs : Array Value} (h : Blk w g t cs) (hb : Below N w w') (hg : g < N) : Blk w' g t cs := (hb.block g hg).trans h
theorem blks3 (w : World) (A B C : Array Value) (T : TypeId) (w1 : World) (hb : Below (((w.alloc (.cells A T)).alloc (.cells B T)).alloc (.cells C T)).heap.size (((w.alloc (.cells A T)).alloc (.cells B T)).alloc (.cells C T)) w1) :
    Blk w1 w.heap.size T A ∧ Blk w1 (w.heap.size + 1) T B ∧ Blk w1 (w.heap.size + 1 + 1) T C ∧ Below w.heap.size w w1 := by
  have h1 := ((Blk.new w T A).alloc (.cells B T)).alloc (.cells C T)
  have h2 := (Blk.new (w.alloc (.cells A T)) T B).alloc (.cells C T)
  have h3 := Blk.new ((w.alloc (.cells A T)).alloc (.cells B T)) T C
  have e1 : (w.alloc (.cells A T)).heap.size = w.heap.size + 1 := by simp
  have e2 : ((w.alloc (.cells A T)).alloc (.cells B T)).heap.size = w.heap.size + 1 + 1 := by simp
  have e3 : (((w.alloc (.cells A T)).alloc (.cells B T)).alloc (.cells C T)).heap.size = w.heap.size + 1 + 1 + 1 := by simp
  rw [e1] at h2
  rw [e2] at h3
  rw [e3] at hb
  refine ⟨h1.bel2 hb (by omega), h2.bel2 hb (by omega), h3.bel2 hb (by omega), ?_⟩
  exact ((((Below.refl _ _).alloc (Nat.le_refl _) _).alloc (by rw [e1]; omega) _).alloc (by rw [e2]; omega) _).trans (hb.mono (by omega))

theorem valid_new1 (W : World) (b : Nat) (f t : Int) (hb : W.heap.size = b) :
    Calls Try.prog 24 #[.slice (some ⟨b, 0, none⟩) 1 1] (W.alloc (.cells #[.int .i64 f, .int .i64 t] 23)) (RetOwn 23 (validL [(f, t)]) (W.alloc (.cells #[.int .i64 f, .int .i64 t] 23))) := by
  subst hb
  exact valid_any (W.heap.size + 1) [(f, t)] (some ⟨W.heap.size, 0, none⟩) 1 1 (W.alloc (.cells #[.int .i64 f, .int .i64 t] 23)) (arr_new1 W _ f t) (by simp) rfl (by omega)
theorem valid_new2 (W : World) (b : Nat) (f t g u : Int) (hb : W.heap.size = b) :
    Calls Try.prog 24 #[.slice (some ⟨b, 0, none⟩) 2 2] (W.alloc (.cells #[.int .i64 f, .int .i64 t, .int .i64 g, .int .i64 u] 23)) (RetOwn 23 (validL [(f, t), (g, u)]) (W.alloc (.cells #[.int .i64 f, .int .i64 t, .int .i64 g, .int .i64 u] 23))) := by
  subst hb
  exact valid_any (W.heap.size + 1) [(f, t), (g, u)] (some ⟨W.heap.size, 0, none⟩) 2 2 (W.alloc (.cells #[.int .i64 f, .int .i64 t, .int .i64 g, .int .i64 u] 23)) (arr_new2 W _ f t g u) (by simp) rfl (by omega)

set_option maxHeartbeats 1000000 in
theorem cut_no (a1 a2 b1 b2 : Int) (w : World) (hq : ¬ max a1 b1 < min a2 b2) :
    Calls Try.prog 8 #[.agg #[.int .i64 a1, .int .i64 a2], .agg #[.int .i64 b1, .int .i64 b2]] w (RetCut (a1, a2) (b1, b2) w) := by
  have HB : Hid (bothS (a1, a2) (b1, b2) = ((0, 0), false)) := by show _ = _; simp only [bothS]; rw [if_neg hq]
  have HC : Hid (cutS (a1, a2) (b1, b2) = validL [(a1, a2)]) := by show _ = _; simp only [cutS]; rw [if_neg hq]
  have HX : Hid (∀ W v, World.ownsRow W w.heap.size 23 2 v (validL [(a1, a2)]).length (cellsT (validL [(a1, a2)])) → Below w.heap.size w W → RetCut (a1, a2) (b1, b2) w (.returned (.tuple #[v, .agg #[.int .i64 0, .int .i64 0], .bool false])) W) := by
    intro W v h1 h2
    exact ⟨v, by rw [HB.out], by rw [HC.out]; exact h1, h2⟩
  generalize hRR : RetCut (a1, a2) (b1, b2) w = RR at *
  clear hRR HC hq
  go_enter Try.func8, Try.ntmps8
  go_wp2_with fail
  refine (PBoth_any _ _ _ _ _).mono ?_
  rintro e w1 ⟨he, hb⟩
  rw [HB.out] at he
  subst he
  obtain ⟨hA, _, hR, hw⟩ := blks3 w _ _ _ _ w1 hb
  have k0 : w1.cell? ⟨w.heap.size, 0, none⟩ = some (.int .i64 a1) := hA.cell 0
  have k1 : w1.cell? ⟨w.heap.size, 1, none⟩ = some (.int .i64 a2) := hA.cell 1
  have hz0 : w.heap.size < w1.heap.size := hA.lt
  have hz2 : w.heap.size + 1 + 1 < w1.heap.size := hR.lt
  have HR := Lib.hid hR
  clear hA hR hb
  go_wp2_with fail
  refine (valid_new1 _ _ a1 a2 (by simp)).mono ?_
  rintro e w2 ⟨v, rfl, hown, hb2⟩
  have hs1 : w1.heap.size + 1 + 1 ≤ w2.heap.size := by have := hb2.size; simp at this; omega
  have hR2 := (((HR.out.alloc _).alloc _).bel2 hb2 (by simp; omega))
  have r0 : w2.cell? ⟨w.heap.size + 1 + 1, 0, none⟩ = some (.int .i64 0) := hR2.cell 0
  have r1 : w2.cell? ⟨w.heap.size + 1 + 1, 1, none⟩ = some (.int .i64 0) := hR2.cell 1
  have g0 := hR2.frozen 0
  have g1 := hR2.frozen 1
  have hz3 := hR2.lt
  have hw2 : Below w.heap.size w w2 := ((hw.alloc (by omega) _).alloc (by simp; omega) _).trans (hb2.mono (by simp; omega))
  have HO : Hid (∀ u0 u1, World.ownsRow ((w2.setCell ⟨w.heap.size + 1 + 1, 0, none⟩ u0).setCell ⟨w.heap.size + 1 + 1, 1, none⟩ u1) w.heap.size 23 2 v (validL [(a1, a2)]).length (cellsT (validL [(a1, a2)])) ∧ Below w.heap.size w ((w2.setCell ⟨w.heap.size + 1 + 1, 0, none⟩ u0).setCell ⟨w.heap.size + 1 + 1, 1, none⟩ u1)) := by
    intro u0 u1
    refine ⟨own_base (own_set (own_set hown (by simp; omega) _) (by simp; omega) _) (by simp; omega), ?_⟩
    refine Below.setCell (Below.setCell hw2 ?_ _) ?_ _ <;> (show w.heap.size ≤ w.heap.size + 1 + 1; omega)
  clear hown hw2 hb2 hR2
  go_wp2
  refine bodyPost_ret (v := .tuple #[v, .agg #[.int .i64 0, .int .i64 0], .bool false]) (by simp [results, Try.results8, go_sem, r0, r1, hz3]) rfl (HX.out _ _ (HO.out _ _).1 (HO.out _ _).2)

theorem valid_new2d (W : World) (b : Nat) (f t g u : Int) (hb : W.heap.size = b) :
    Calls Try.prog 24 #[.slice (some ⟨b, 0, none⟩) 2 2] (W.alloc (.cells #[.int .i64 f, .int .i64 t, .int .i64 g, .int .i64 u] 23)).drew (RetOwn 23 (validL [(f, t), (g, u)]) (W.alloc (.cells #[.int .i64 f, .int .i64 t, .int .i64 g, .int .i64 u] 23)).drew) :=
  valid_new2 W.drew b f t g u hb

set_option maxHeartbeats 2000000 in
theorem cut_yes (a1 a2 b1 b2 : Int) (w : World) (hq : max a1 b1 < min a2 b2) :
    Calls Try.prog 8 #[.agg #[.int .i64 a1, .int .i64 a2], .agg #[.int .i64 b1, .int .i64 b2]] w (RetCut (a1, a2) (b1, b2) w) := by
  obtain ⟨x, hx⟩ : ∃ x, x = max a1 b1 := ⟨_, rfl⟩
  obtain ⟨y, hy⟩ : ∃ y, y = min a2 b2 := ⟨_, rfl⟩
  have HB : Hid (bothS (a1, a2) (b1, b2) = ((x, y), true)) := by show _ = _; simp only [bothS]; rw [if_pos hq, hx, hy]
  have HC : Hid (cutS (a1, a2) (b1, b2) = validL [(a1, x), (y, a2)]) := by show _ = _; simp only [cutS]; rw [if_pos hq, hx, hy]
  have HX : Hid (∀ W v, World.ownsRow W w.heap.size 23 2 v (validL [(a1, x), (y, a2)]).length (cellsT (validL [(a1, x), (y, a2)])) → Below w.heap.size w W → RetCut (a1, a2) (b1, b2) w (.returned (.tuple #[v, .agg #[.int .i64 x, .int .i64 y], .bool true])) W) := by
    intro W v h1 h2
    exact ⟨v, by rw [HB.out], by rw [HC.out]; exact h1, h2⟩
  generalize hRR : RetCut (a1, a2) (b1, b2) w = RR at *
  clear hRR HC hq hx hy
  go_enter Try.func8, Try.ntmps8
  go_wp2_with fail
  refine (PBoth_any _ _ _ _ _).mono ?_
  rintro e w1 ⟨he, hb⟩
  rw [HB.out] at he
  subst he
  obtain ⟨hA, _, hR, hw⟩ := blks3 w _ _ _ _ w1 hb
  have hz0 : w.heap.size < w1.heap.size := hA.lt
  have hz2 : w.heap.size + 1 + 1 < w1.heap.size := hR.lt
  have HR := Lib.hid hR
  have HA := Lib.hid hA
  have HW := Lib.hid hw
  clear hA hR hb hw
  have D : Hid (∀ W, Chg [w.heap.size + 1 + 1] (w1.alloc (.cells #[.int .i64 x, .int .i64 y] 23)).drew W → W.cell? ⟨w.heap.size, 0, none⟩ = some (.int .i64 a1) ∧ W.cell? ⟨w.heap.size, 1, none⟩ = some (.int .i64 a2) ∧ W.cell? ⟨w1.heap.size, 0, none⟩ = some (.int .i64 x) ∧ W.cell? ⟨w1.heap.size, 1, none⟩ = some (.int .i64 y)) := by
    intro W hW
    have h1 := (HA.out.alloc (.cells #[.int .i64 x, .int .i64 y] 23)).chg hW.undrew (by simp; omega)
    have h2 := (Blk.new w1 23 #[.int .i64 x, .int .i64 y]).chg hW.undrew (by simp; omega)
    exact ⟨h1.cell 0, h1.cell 1, h2.cell 0, h2.cell 1⟩
  have d0 : ∀ W, Chg [w.heap.size + 1 + 1] (w1.alloc (.cells #[.int .i64 x, .int .i64 y] 23)).drew W → W.cell? ⟨w.heap.size, 0, none⟩ = some (.int .i64 a1) := fun W h => (D.out W h).1
  have d1 : ∀ W, Chg [w.heap.size + 1 + 1] (w1.alloc (.cells #[.int .i64 x, .int .i64 y] 23)).drew W → W.cell? ⟨w.heap.size, 1, none⟩ = some (.int .i64 a2) := fun W h => (D.out W h).2.1
  have d2 : ∀ W, Chg [w.heap.size + 1 + 1] (w1.alloc (.cells #[.int .i64 x, .int .i64 y] 23)).drew W → W.cell? ⟨w1.heap.size, 0, none⟩ = some (.int .i64 x) := fun W h => (D.out W h).2.2.1
  have d3 : ∀ W, Chg [w.heap.size + 1 + 1] (w1.alloc (.cells #[.int .i64 x, .int .i64 y] 23)).drew W → W.cell? ⟨w1.heap.size, 1, none⟩ = some (.int .i64 y) := fun W h => (D.out W h).2.2.2
  go_wp2_with fail
  refine wp_region_ordS [w.heap.size + 1 + 1] [(0, true), (1, true), (2, true), (3, true), (4, true), (5, true), (6, true), (7, true), (8, true), (9, true), (12, true), (10, false), (11, false), (13, true), (14, false), (15, true)] (by kernel_rfl) (by kernel_rfl) (by kernel_rfl) (by kernel_rfl) ?_
  repeat (first | (refine wpO_F (v := ?_) rfl (by rfl) (fun w' hL => ?_) ?_; rotate_left; (solve | (go_simp; with_reducible rfl) | go_simp); try simp only [Act.put, List.setIfInBounds_toArray, List.set_cons_zero, List.set_cons_succ]) | (refine wpO_G' (Chg.refl _) rfl (by rfl) ?_; try simp only [Act.put, List.setIfInBounds_toArray, List.set_cons_zero, List.set_cons_succ]))
  refine wpO_C rfl (by rfl) ?_
  go_simp
  refine ⟨(Chg.refl _ _).alloc _, ?_⟩
  try simp only [Act.put, List.setIfInBounds_toArray, List.set_cons_zero, List.set_cons_succ]
  repeat (first | (refine wpO_F (v := ?_) rfl (by rfl) (fun w' hL => ?_) ?_; rotate_left; (solve | (go_simp; with_reducible rfl) | go_simp); try simp only [Act.put, List.setIfInBounds_toArray, List.set_cons_zero, List.set_cons_succ]) | (refine wpO_G' (Chg.refl _) rfl (by rfl) ?_; try simp only [Act.put, List.setIfInBounds_toArray, List.set_cons_zero, List.set_cons_succ]))
  refine wpO_C rfl (by rfl) ?_
  go_simp
  refine (valid_new2d _ _ _ _ _ _ (by simp)).mono ?_
  rintro e w2 ⟨v, rfl, hown, hb2⟩
  refine ⟨Below.chg0 hb2 _, ?_⟩
  try simp only [Act.put, List.setIfInBounds_toArray, List.set_cons_zero, List.set_cons_succ]
  clear d0 d1 d2 d3
  have hs1 : w1.heap.size + 1 + 1 ≤ w2.heap.size := by have := hb2.size; simp at this; omega
  have hR2 := ((((HR.out.alloc (.cells #[.int .i64 x, .int .i64 y] 23)).alloc (.cells #[.int .i64 a1, .int .i64 x, .int .i64 y, .int .i64 a2] 23)).drew).bel2 hb2 (by simp; omega))
  have r0 : w2.cell? ⟨w.heap.size + 1 + 1, 0, none⟩ = some (.int .i64 0) := hR2.cell 0
  have r1 : w2.cell? ⟨w.heap.size + 1 + 1, 1, none⟩ = some (.int .i64 0) := hR2.cell 1
  have g0 := hR2.frozen 0
  have g1 := hR2.frozen 1
  have hz3 := hR2.lt
  have hw2 : Below w.heap.size w w2 := (((HW.out.alloc (by omega) (.cells #[.int .i64 x, .int .i64 y] 23)).alloc (by simp; omega) (.cells #[.int .i64 a1, .int .i64 x, .int .i64 y, .int .i64 a2] 23)).drew).trans (hb2.mono (by simp; omega))
  have HO : Hid (∀ u0 u1, World.ownsRow ((w2.setCell ⟨w.heap.size + 1 + 1, 0, none⟩ u0).setCell ⟨w.heap.size + 1 + 1, 1, none⟩ u1) w.heap.size 23 2 v (validL [(a1, x), (y, a2)]).length (cellsT (validL [(a1, x), (y, a2)])) ∧ Below w.heap.size w ((w2.setCell ⟨w.heap.size + 1 + 1, 0, none⟩ u0).setCell ⟨w.heap.size + 1 + 1, 1, none⟩ u1)) := by
    intro u0 u1
    refine ⟨own_base (own_set (own_set hown (by simp; omega) _) (by simp; omega) _) (by simp; omega), ?_⟩
    refine Below.setCell (Below.setCell hw2 ?_ _) ?_ _ <;> (show w.heap.size ≤ w.heap.size + 1 + 1; omega)
  clear hown hw2 hb2 hR2
  repeat (first | (refine wpO_F (v := ?_) rfl (by rfl) (fun w' hL => ?_) ?_; rotate_left; (solve | (go_simp; with_reducible rfl) | go_simp); try simp only [Act.put, List.setIfInBounds_toArray, List.set_cons_zero, List.set_cons_succ]) | (refine wpO_G' (Chg.refl _) rfl (by rfl) ?_; try simp only [Act.put, List.setIfInBounds_toArray, List.set_cons_zero, List.set_cons_succ]))
  refine wpO_C rfl (by rfl) ?_
  go_simp
  refine ⟨((Chg.refl _ _).setCell (.inl (by simp)) _).setCell (.inl (by simp)) _, ?_⟩
  try simp only [Act.put, List.setIfInBounds_toArray, List.set_cons_zero, List.set_cons_succ]
  repeat (first | (refine wpO_F (v := ?_) rfl (by rfl) (fun w' hL => ?_) ?_; rotate_left; (solve | (go_simp; with_reducible rfl) | go_simp); try simp only [Act.put, List.setIfInBounds_toArray, List.set_cons_zero, List.set_cons_succ]) | (refine wpO_G' (Chg.refl _) rfl (by rfl) ?_; try simp only [Act.put, List.setIfInBounds_toArray, List.set_cons_zero, List.set_cons_succ]))
  refine wpO_nil ?_
  go_wp2
  refine bodyPost_ret (v := .tuple #[v, .agg #[.int .i64 x, .int .i64 y], .bool true]) (by simp [results, Try.results8, go_sem, r0, r1, hz3]) rfl (HX.out _ _ (HO.out _ _).1 (HO.out _ _).2)

theorem cut_any (a1 a2 b1 b2 : Int) (w : World) :
    Calls Try.prog 8 #[.agg #[.int .i64 a1, .int .i64 a2], .agg #[.int .i64 b1, .int .i64 b2]] w (RetCut (a1, a2) (b1, b2) w) := by
  by_cases hq : max a1 b1 < min a2 b2
  · exact cut_yes a1 a2 b1 b2 w hq
  · exact cut_no a1 a2 b1 b2 w hq
end Go.Proofs.Ytockmoiekbhneaa
