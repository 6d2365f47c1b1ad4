/- Period: PeriodPairs, walked. (Made by wip/gen/genprs.py.) -/
import Derived.Test.YtockmoiekbhneaaPLsts
import Derived.Test.YtockmoiekbhneaaPar
import Derived.Test.YtockmoiekbhneaaTree
namespace Go.Proofs.Ytockmoiekbhneaa
open Go.RowKit

/-- What the law has laid: both spans, the document's of each. -/
structure PE (w : World) (f0 t0 f1 t1 : Int) (xb xo yb yo : Nat) (W : World) : Prop where
  k0 : Blk W w.heap.size 23 #[.int .i64 f0, .int .i64 t0]
  k1 : Blk W (w.heap.size + 1) 23 #[.int .i64 f1, .int .i64 t1]
  kx : Arr W.heap.size W (some ⟨xb, xo, none⟩) (cellsT [(f0, t0)])
  ky : Arr W.heap.size W (some ⟨yb, yo, none⟩) (cellsT [(f1, t1)])
  x0 : W.cell? ⟨xb, xo, none⟩ = some (.int .i64 f0)
  x1 : W.cell? ⟨xb, xo + 1, none⟩ = some (.int .i64 t0)
  y0 : W.cell? ⟨yb, yo, none⟩ = some (.int .i64 f1)
  y1 : W.cell? ⟨yb, yo + 1, none⟩ = some (.int .i64 t1)
  xl : xb < W.heap.size
  yl : yb < W.heap.size
  kb : Below w.heap.size w W
theorem PE.go {w : World} {f0 t0 f1 t1 : Int} {xb xo yb yo : Nat} {W W' : World} (h : PE w f0 t0 f1 t1 xb xo yb yo W) (hb : Below W.heap.size W W') : PE w f0 t0 f1 t1 xb xo yb yo W' :=
  ⟨h.k0.bel2 hb h.k0.lt, h.k1.bel2 hb h.k1.lt, h.kx.later (N := 0) hb, h.ky.later (N := 0) hb, (hb.cell (p := ⟨xb, xo, none⟩) h.xl).trans h.x0, (hb.cell (p := ⟨xb, xo + 1, none⟩) h.xl).trans h.x1, (hb.cell (p := ⟨yb, yo, none⟩) h.yl).trans h.y0, (hb.cell (p := ⟨yb, yo + 1, none⟩) h.yl).trans h.y1, Nat.lt_of_lt_of_le h.xl hb.size, Nat.lt_of_lt_of_le h.yl hb.size, h.kb.trans (hb.mono h.kb.size)⟩
/-- And what Cut and Both returned. -/
structure PF (w : World) (f0 t0 f1 t1 : Int) (xb xo yb yo : Nat) (la : Option Addr) (left : List (Int × Int)) (mb nb : Nat) (bx by_ : Int) (W : World) : Prop extends PE w f0 t0 f1 t1 xb xo yb yo W where
  l0 : Arr W.heap.size W la (cellsT left)
  m0 : Blk W mb 23 #[.int .i64 bx, .int .i64 by_]
  n0 : Blk W nb 23 #[.int .i64 bx, .int .i64 by_]
theorem PF.go {w : World} {f0 t0 f1 t1 : Int} {xb xo yb yo : Nat} {la : Option Addr} {left : List (Int × Int)} {mb nb : Nat} {bx by_ : Int} {W W' : World} (h : PF w f0 t0 f1 t1 xb xo yb yo la left mb nb bx by_ W) (hb : Below W.heap.size W W') : PF w f0 t0 f1 t1 xb xo yb yo la left mb nb bx by_ W' :=
  ⟨h.toPE.go hb, h.l0.later (N := 0) hb, h.m0.bel2 hb h.m0.lt, h.n0.bel2 hb h.n0.lt⟩

theorem inside_is (a b : Int × Int) (ha : a.1 < a.2) (hb : b.1 < b.2) : (((cutS b a).length : Int) == 0) = containsB a b := by
  have e : containsB a b = (decide (a.1 ≤ b.1) && decide (b.2 ≤ a.2)) := by simp [containsB, rightB, ha, hb]
  rw [e]
  unfold cutS validL rightB
  by_cases h : max b.1 a.1 < min b.2 a.2
  · rw [if_pos h]
    by_cases h1 : a.1 ≤ b.1 <;> by_cases h2 : b.2 ≤ a.2
    · have g1 : ¬ b.1 < max b.1 a.1 := by omega
      have g2 : ¬ min b.2 a.2 < b.2 := by omega
      simp [List.filter_cons, h1, h2, g1, g2]
    · have g2 : min b.2 a.2 < b.2 := by omega
      simp only [List.filter_cons, g2, h1, h2, decide_true, decide_false, if_true, List.filter_nil, Bool.and_false]
      split <;> simp <;> omega
    · have g1 : b.1 < max b.1 a.1 := by omega
      simp only [List.filter_cons, g1, h1, h2, decide_true, decide_false, if_true, List.filter_nil, Bool.false_and]
      split <;> simp <;> omega
    · have g1 : b.1 < max b.1 a.1 := by omega
      simp only [List.filter_cons, g1, h1, h2, decide_true, decide_false, if_true, List.filter_nil, Bool.false_and]
      split <;> simp <;> omega
  · rw [if_neg h]
    have g : (decide (a.1 ≤ b.1) && decide (b.2 ≤ a.2)) = false := by
      rw [Bool.eq_false_iff]
      intro hc
      simp only [Bool.and_eq_true, decide_eq_true_eq] at hc
      omega
    rw [g]
    simp [hb]
theorem contains_no (a b : Int × Int) (h : ¬ (a.1 < a.2 ∧ b.1 < b.2)) : containsB a b = false ∧ meetsB a b = false := by
  unfold containsB meetsB rightB
  by_cases h1 : a.1 < a.2
  · have h2 : ¬ b.1 < b.2 := fun h2 => h ⟨h1, h2⟩
    simp [h1, h2]
  · simp [h1]
theorem meets_is (a b : Int × Int) (ha : a.1 < a.2) (hb : b.1 < b.2) : meetsB a b = (a.2 == b.1) := by
  unfold meetsB rightB
  simp only [ha, hb, decide_true, Bool.true_and]
  rw [Bool.eq_iff_iff]; simp
theorem shared_is (a b : Int × Int) (h : (bothS a b).2 = true) : runsL [a] (cutS a b) = [(bothS a b).1] := by
  unfold bothS at h ⊢
  by_cases hq : max a.1 b.1 < min a.2 b.2
  · rw [if_pos hq]
    refine Nrm.same (runsL_nrm _ _) ⟨hq, by simp, trivial⟩ fun p => ?_
    rw [runsL_pts, cutS_pts, Pts_cons, Pts_nil, Pts_cons, Pts_nil]
    simp only [or_false]
    constructor
    · rintro ⟨h1, h2⟩
      by_cases h3 : b.1 ≤ p ∧ p < b.2
      · omega
      · exact absurd ⟨h1, h3⟩ h2
    · intro h1
      exact ⟨by omega, fun h2 => h2.2 (by omega)⟩
  · rw [if_neg hq] at h; cases h

set_option maxRecDepth 100000 in
set_option maxHeartbeats 8000000 in
theorem pairs_way (f0 t0 f1 t1 at_ : Int) (w : World) :
    Calls Try.prog 3 #[.agg #[.int .i64 f0, .int .i64 t0], .agg #[.int .i64 f1, .int .i64 t1], .int .i64 at_] w fun e w' => e = .returned (.bool true) ∧ Below w.heap.size w w' := by
  obtain ⟨⟨⟨bx, by_⟩, bs⟩, hbo⟩ : ∃ r, r = bothS (f0, t0) (f1, t1) := ⟨_, rfl⟩
  obtain ⟨r0, hr0⟩ : ∃ r, r = decide (f0 < t0) := ⟨_, rfl⟩
  obtain ⟨r1, hr1⟩ : ∃ r, r = decide (f1 < t1) := ⟨_, rfl⟩
  obtain ⟨hs, hhs⟩ : ∃ r, r = hasB (f0, t0) at_ := ⟨_, rfl⟩
  obtain ⟨ins, hins⟩ : ∃ r, r = containsB (f0, t0) (f1, t1) := ⟨_, rfl⟩
  obtain ⟨mt, hmt⟩ : ∃ r, r = meetsB (f0, t0) (f1, t1) := ⟨_, rfl⟩
  have HBo := Lib.hid hbo
  have HR0 := Lib.hid hr0
  have HR1 := Lib.hid hr1
  have HHs := Lib.hid hhs
  have HIns := Lib.hid hins
  have HMt := Lib.hid hmt
  have HSelf : Hid (∀ l : List (Int × Int), sameB l l = true) := fun l => by unfold sameB; simp
  have HPass : Hid (∀ x y : Bool, x = r0 → y = r1 → ((x = true ∧ y = true ∧ (((cutS (f1, t1) (f0, t0)).length : Int) == 0) = ins ∧ (t0 == f1) = mt) ∨ (¬ (x = true ∧ y = true) ∧ ins = false ∧ mt = false))) := by
    rintro x y rfl rfl
    by_cases h : f0 < t0 ∧ f1 < t1
    · left
      rw [hr0, hr1, hins, hmt]
      exact ⟨by simpa using h.1, by simpa using h.2, inside_is (f0, t0) (f1, t1) h.1 h.2, (meets_is (f0, t0) (f1, t1) h.1 h.2).symm⟩
    · right
      have := contains_no (f0, t0) (f1, t1) h
      rw [hr0, hr1, hins, hmt]
      exact ⟨by simpa using h, this.1, this.2⟩
  have HSh : Hid (bs = true → runsL [(f0, t0)] (cutS (f0, t0) (f1, t1)) = [(bx, by_)]) := by
    intro h
    have := shared_is (f0, t0) (f1, t1) (by rw [← hbo]; exact h)
    rw [← hbo] at this
    exact this
  have HNo : Hid (bs = false → bx = 0 ∧ by_ = 0) := by
    intro h
    subst h
    unfold bothS at hbo
    split at hbo
    · cases hbo
    · injection hbo with h1 h2; injection h1 with h3 h4; exact ⟨h3, h4⟩
  have q0 : (r0 != r0) = false := by simp
  have q1 : (bs != bs) = false := by simp
  have q2 : (hs != hs) = false := by simp
  have q3 : (ins != ins) = false := by simp
  have q4 : (mt != mt) = false := by simp
  have K0 := Lib.hid ((Blk.new w 23 #[.int .i64 f0, .int .i64 t0]).alloc (.cells #[.int .i64 f1, .int .i64 t1] 23))
  have hk1 := Blk.new (w.alloc (.cells #[.int .i64 f0, .int .i64 t0] 23)) 23 #[.int .i64 f1, .int .i64 t1]
  rw [show (w.alloc (.cells #[.int .i64 f0, .int .i64 t0] 23)).heap.size = w.heap.size + 1 by simp] at hk1
  have K1 := Lib.hid hk1
  have KB := Lib.hid (((Below.refl w.heap.size w).alloc (Nat.le_refl _) (.cells #[.int .i64 f0, .int .i64 t0] 23)).alloc (by simp) (.cells #[.int .i64 f1, .int .i64 t1] 23))
  clear hbo hr0 hr1 hhs hins hmt hk1
  go_enter Try.func3, Try.ntmps3
  go_wp2_with fail
  generalize ((w.alloc (.cells #[.int .i64 f0, .int .i64 t0] 23)).alloc (.cells #[.int .i64 f1, .int .i64 t1] 23)) = W0 at *
  have HC : Hid (∀ W, Chg [] W0.drew W → Blk W w.heap.size 23 #[.int .i64 f0, .int .i64 t0] ∧ Blk W (w.heap.size + 1) 23 #[.int .i64 f1, .int .i64 t1] ∧ Below w.heap.size w W) := by
    intro W hW
    have hb : Below W0.heap.size W0 W := hW.undrew.below (Nat.le_refl _) (by simp)
    exact ⟨K0.out.bel2 hb K0.out.lt, K1.out.bel2 hb K1.out.lt, KB.out.trans (hb.mono KB.out.size)⟩
  have c00 : ∀ W, Chg [] W0.drew W → W.cell? ⟨w.heap.size, 0, none⟩ = some (.int .i64 f0) := fun W h => (HC.out W h).1.cell 0
  have c01 : ∀ W, Chg [] W0.drew W → W.cell? ⟨w.heap.size, 1, none⟩ = some (.int .i64 t0) := fun W h => (HC.out W h).1.cell 1
  have c10 : ∀ W, Chg [] W0.drew W → W.cell? ⟨w.heap.size + 1, 0, none⟩ = some (.int .i64 f1) := fun W h => (HC.out W h).2.1.cell 0
  have c11 : ∀ W, Chg [] W0.drew W → W.cell? ⟨w.heap.size + 1, 1, none⟩ = some (.int .i64 t1) := fun W h => (HC.out W h).2.1.cell 1
  clear K0 K1 KB
  refine wp_region_par [] [.f 0, .f 3, .p [[1, 2], [4]], .c 5, .f 6, .f 7] (by kernel_rfl) (by kernel_rfl) (by kernel_rfl) (by kernel_rfl) ?_
  repeat (first | (refine wpP_F (v := ?_) rfl (by rfl) (fun w' hL => ?_) ?_; rotate_left; (solve | (go_simp; with_reducible rfl) | go_simp); try simp only [Act.put, List.setIfInBounds_toArray, List.set_cons_zero, List.set_cons_succ]) | (refine wpP_G rfl (by rfl) ?_; try simp only [Act.put, List.setIfInBounds_toArray, List.set_cons_zero, List.set_cons_succ]) | (refine wpP_skip (Chg.refl _) rfl (by rfl) ?_; try simp only [Act.put, List.setIfInBounds_toArray, List.set_cons_zero, List.set_cons_succ]))
  clear c00 c01 c10 c11
  refine wpP_two (fun l W => ∃ v20 xa xc, l = [(some 20, v20), (some 21, .slice xa 1 xc)] ∧ Arr W.heap.size W xa (cellsT [(f0, t0)])) (fun l W => ∃ b, l = [(some 23, .slice (some ⟨b, 0, none⟩) 1 1)] ∧ Arr W.heap.size W (some ⟨b, 0, none⟩) (cellsT [(f1, t1)])) ?_ ?_ ?_
  · refine rob_C rfl (by rfl) ?_
    intro x1 hL1 K HK
    simp only [puts, List.foldl_cons, List.foldl_nil, Act.put, List.setIfInBounds_toArray, List.set_cons_zero, List.set_cons_succ]
    have HA1 := Lib.hid (arr_new1 x1 23 f0 t0)
    go_simp
    refine HK.out (.slice (some ⟨x1.heap.size, 0, none⟩) 1 1) _ _ (by simp only [puts, List.foldl_cons, List.foldl_nil, Act.put, List.setIfInBounds_toArray, List.set_cons_zero, List.set_cons_succ]) ((Chg.refl _ _).alloc _) ?_
    clear HK
    refine rob_C rfl (by rfl) ?_
    intro x2 hL2 K HK
    simp only [puts, List.nil_append, List.cons_append, List.foldl_cons, List.foldl_nil, Act.put, List.setIfInBounds_toArray, List.set_cons_zero, List.set_cons_succ]
    have HA2 := Lib.hid (HA1.out.below (Chg.below hL2 (N := x1.heap.size + 1) (by simp) (by simp)))
    have hsz2 : x1.heap.size + 1 ≤ x2.heap.size := by have := hL2.size; simpa using this
    clear HA1 hL1 hL2
    go_simp
    refine (as_any _ [(f0, t0)] (some ⟨x1.heap.size, 0, none⟩) 1 1 _ HA2.out hsz2 rfl (by omega)).mono ?_
    rintro e x3 ⟨v, rfl, hown, hb⟩
    obtain ⟨xa, xc, rfl, _, _, hxA⟩ := own_arr hown
    refine HK.out (.slice xa 1 xc) _ _ (by simp only [puts, List.nil_append, List.cons_append, List.foldl_cons, List.foldl_nil, Act.put, List.setIfInBounds_toArray, List.set_cons_zero, List.set_cons_succ]; rfl) (Below.chg0 hb _) ?_
    refine rob_nil ?_
    intro x4 hL4
    exact ⟨_, xa, xc, rfl, hxA.later (N := 0) (Chg.below hL4 (N := x3.heap.size) (Nat.le_refl _) (by simp))⟩
  · refine rob_C rfl (by rfl) ?_
    intro x1 hL1 K HK
    simp only [puts, List.foldl_cons, List.foldl_nil, Act.put, List.setIfInBounds_toArray, List.set_cons_zero, List.set_cons_succ]
    have HA1 := Lib.hid (arr_new1 x1 23 f1 t1)
    go_simp
    refine HK.out (.slice (some ⟨x1.heap.size, 0, none⟩) 1 1) _ _ (by simp only [puts, List.foldl_cons, List.foldl_nil, Act.put, List.setIfInBounds_toArray, List.set_cons_zero, List.set_cons_succ]) ((Chg.refl _ _).alloc _) ?_
    refine rob_nil ?_
    intro x4 hL4
    exact ⟨x1.heap.size, rfl, (HA1.out.below (Chg.below hL4 (N := x1.heap.size + 1) (by simp) (by simp))).mono (by have := hL4.size; simpa using this)⟩
  rintro l1 l2 w1 hL1 ⟨v20, xa, xc, rfl, hxA⟩ ⟨b, rfl, hyA⟩
  simp only [puts, List.nil_append, List.cons_append, List.foldl_cons, List.foldl_nil, Act.put, List.setIfInBounds_toArray, List.set_cons_zero, List.set_cons_succ]
  have HXA := Lib.hid hxA
  have HYA := Lib.hid hyA
  have HL1 := Lib.hid hL1
  clear hL1 hxA hyA
  refine wpP_C rfl (by rfl) ?_
  go_simp
  refine (as_any _ [(f1, t1)] (some ⟨b, 0, none⟩) 1 1 _ HYA.out (Nat.le_refl _) rfl (by omega)).mono ?_
  rintro e w2 ⟨yv, rfl, hown, hb⟩
  refine ⟨Below.chg0 hb _, ?_⟩
  try simp only [Act.put, List.setIfInBounds_toArray, List.set_cons_zero, List.set_cons_succ]
  obtain ⟨ya, yc, rfl, _, _, hyA⟩ := own_arr hown
  have hxA := HXA.out.later (N := 0) hb
  have hE := HC.out _ (HL1.out.trans (Below.chg0 hb _))
  obtain ⟨xb, xo, rfl, hxb, hx0, hx1⟩ := spanAt hxA (k := 0) (by simp)
  obtain ⟨yb, yo, rfl, hyb, hy0, hy1⟩ := spanAt hyA (k := 0) (by simp)
  have HP : Hid (PE w f0 t0 f1 t1 xb xo yb yo w2) := ⟨hE.1, hE.2.1, hxA, hyA, by simpa using hx0, by simpa using hx1, by simpa using hy0, by simpa using hy1, hxb, hyb, hE.2.2⟩
  clear hxA hyA hE hx0 hx1 hy0 hy1 hxb hyb hown hb HXA HYA HL1 HC
  repeat (first | (refine wpP_F (v := ?_) rfl (by rfl) (fun w' hL => ?_) ?_; rotate_left; (solve | (go_simp; with_reducible rfl) | go_simp); try simp only [Act.put, List.setIfInBounds_toArray, List.set_cons_zero, List.set_cons_succ]) | (refine wpP_G rfl (by rfl) ?_; try simp only [Act.put, List.setIfInBounds_toArray, List.set_cons_zero, List.set_cons_succ]) | (refine wpP_skip (Chg.refl _) rfl (by rfl) ?_; try simp only [Act.put, List.setIfInBounds_toArray, List.set_cons_zero, List.set_cons_succ]))
  refine wpP_nil ?_
  have c00 : w2.cell? ⟨w.heap.size, 0, none⟩ = some (.int .i64 f0) := by have p := HP.out; exact p.k0.cell 0
  have c01 : w2.cell? ⟨w.heap.size, 1, none⟩ = some (.int .i64 t0) := by have p := HP.out; exact p.k0.cell 1
  have c10 : w2.cell? ⟨w.heap.size + 1, 0, none⟩ = some (.int .i64 f1) := by have p := HP.out; exact p.k1.cell 0
  have c11 : w2.cell? ⟨w.heap.size + 1, 1, none⟩ = some (.int .i64 t1) := by have p := HP.out; exact p.k1.cell 1
  have lt0 : w.heap.size < w2.heap.size := HP.out.k0.lt
  have lt1 : w.heap.size + 1 < w2.heap.size := HP.out.k1.lt
  go_wp2_with fail
  clear c00 c01 c10 c11
  refine (cut_any f0 t0 f1 t1 _).mono ?_
  rintro e w3 ⟨lv, he, hown, hb⟩
  rw [← HBo.out] at he
  subst he
  obtain ⟨la, lc, rfl, _, _, hlA⟩ := own_arr hown
  clear lt0 lt1
  replace HP := Lib.hid (HP.out.go hb)
  obtain ⟨left, hleft⟩ : ∃ l, l = cutS (f0, t0) (f1, t1) := ⟨_, rfl⟩
  rw [← hleft] at hlA ⊢
  have HLeft := Lib.hid hleft
  have HL0 := Lib.hid (hlA.later (N := 0) ((Below.refl w3.heap.size w3).alloc (Nat.le_refl _) (.cells #[.int .i64 bx, .int .i64 by_] 23)))
  have HM0 := Lib.hid (Blk.new w3 23 #[.int .i64 bx, .int .i64 by_])
  replace HP := Lib.hid (HP.out.go ((Below.refl w3.heap.size w3).alloc (Nat.le_refl _) (.cells #[.int .i64 bx, .int .i64 by_] 23)))
  have HP3 := HP
  clear hown hb hlA hleft
  have c00 : (w3.alloc (.cells #[.int .i64 bx, .int .i64 by_] 23)).cell? ⟨w.heap.size, 0, none⟩ = some (.int .i64 f0) := by have p := HP.out; exact p.k0.cell 0
  have c01 : (w3.alloc (.cells #[.int .i64 bx, .int .i64 by_] 23)).cell? ⟨w.heap.size, 1, none⟩ = some (.int .i64 t0) := by have p := HP.out; exact p.k0.cell 1
  have c10 : (w3.alloc (.cells #[.int .i64 bx, .int .i64 by_] 23)).cell? ⟨w.heap.size + 1, 0, none⟩ = some (.int .i64 f1) := by have p := HP.out; exact p.k1.cell 0
  have c11 : (w3.alloc (.cells #[.int .i64 bx, .int .i64 by_] 23)).cell? ⟨w.heap.size + 1, 1, none⟩ = some (.int .i64 t1) := by have p := HP.out; exact p.k1.cell 1
  have lt0 : w.heap.size < (w3.alloc (.cells #[.int .i64 bx, .int .i64 by_] 23)).heap.size := HP.out.k0.lt
  have lt1 : w.heap.size + 1 < (w3.alloc (.cells #[.int .i64 bx, .int .i64 by_] 23)).heap.size := HP.out.k1.lt
  go_wp2_with fail
  clear c00 c01 c10 c11
  refine (PBoth_any f0 t0 f1 t1 _).mono ?_
  rintro e w4 ⟨he, hb⟩
  rw [← HBo.out] at he
  subst he
  clear lt0 lt1
  replace HP := Lib.hid (HP.out.go hb)
  replace HL0 := Lib.hid (HL0.out.later (N := 0) hb)
  replace HM0 := Lib.hid (HM0.out.bel2 hb HM0.out.lt)
  have hA4 := (Below.refl w4.heap.size w4).alloc (Nat.le_refl _) (.cells #[.int .i64 bx, .int .i64 by_] 23)
  have HF : Hid (PF w f0 t0 f1 t1 xb xo yb yo la left w3.heap.size w4.heap.size bx by_ (w4.alloc (.cells #[.int .i64 bx, .int .i64 by_] 23))) := ⟨HP.out.go hA4, HL0.out.later (N := 0) hA4, HM0.out.bel2 hA4 HM0.out.lt, Blk.new w4 23 #[.int .i64 bx, .int .i64 by_]⟩
  clear HP HP3 HL0 HM0 hA4 hb
  go_wp2_with fail
  generalize (w4.alloc (.cells #[.int .i64 bx, .int .i64 by_] 23)) = V5 at *
  generalize w4.heap.size = nb at *
  generalize w3.heap.size = mb at *
  have HP := HF
  clear HF
  have c00 : ∀ W, Later V5.drew W → W.cell? ⟨w.heap.size, 0, none⟩ = some (.int .i64 f0) := fun W hW => by have p := HP.out.go (undrewL hW); exact p.k0.cell 0
  have c01 : ∀ W, Later V5.drew W → W.cell? ⟨w.heap.size, 1, none⟩ = some (.int .i64 t0) := fun W hW => by have p := HP.out.go (undrewL hW); exact p.k0.cell 1
  have c10 : ∀ W, Later V5.drew W → W.cell? ⟨w.heap.size + 1, 0, none⟩ = some (.int .i64 f1) := fun W hW => by have p := HP.out.go (undrewL hW); exact p.k1.cell 0
  have c11 : ∀ W, Later V5.drew W → W.cell? ⟨w.heap.size + 1, 1, none⟩ = some (.int .i64 t1) := fun W hW => by have p := HP.out.go (undrewL hW); exact p.k1.cell 1
  refine wp_region_ord [(0, true), (1, true), (2, true), (3, true), (4, true), (5, true), (6, true), (7, true), (8, true), (9, true), (10, true), (11, true)] (by kernel_rfl) (by kernel_rfl) (by kernel_rfl) (by kernel_rfl) ?_
  repeat (first | (refine wpO_F (v := ?_) rfl (by rfl) (fun w' hL => ?_) ?_; rotate_left; (solve | (go_simp; with_reducible rfl) | go_simp); try simp only [Act.put, List.setIfInBounds_toArray, List.set_cons_zero, List.set_cons_succ]) | (refine wpO_G rfl (by rfl) ?_; try simp only [Act.put, List.setIfInBounds_toArray, List.set_cons_zero, List.set_cons_succ]))
  refine wpO_nil ?_
  clear c00 c01 c10 c11
  rw [← HR0.out, ← HR1.out]
  replace HP := Lib.hid (HP.out.go (Below.refl V5.heap.size V5).drew)
  generalize V5.drew = V6 at *
  have x0 : ∀ W, Later V6.drew W → W.cell? ⟨xb, xo, none⟩ = some (.int .i64 f0) := fun W hW => by have p := HP.out.go (undrewL hW); exact p.x0
  have x1 : ∀ W, Later V6.drew W → W.cell? ⟨xb, xo + 1, none⟩ = some (.int .i64 t0) := fun W hW => by have p := HP.out.go (undrewL hW); exact p.x1
  have y0 : ∀ W, Later V6.drew W → W.cell? ⟨yb, yo, none⟩ = some (.int .i64 f1) := fun W hW => by have p := HP.out.go (undrewL hW); exact p.y0
  have y1 : ∀ W, Later V6.drew W → W.cell? ⟨yb, yo + 1, none⟩ = some (.int .i64 t1) := fun W hW => by have p := HP.out.go (undrewL hW); exact p.y1
  go_wp2_with fail
  refine wp_region_ord [(0, true), (1, true), (2, true), (3, true), (4, true), (5, true), (6, false), (7, true)] (by kernel_rfl) (by kernel_rfl) (by kernel_rfl) (by kernel_rfl) ?_
  repeat (first | (refine wpO_F (v := ?_) rfl (by rfl) (fun w' hL => ?_) ?_; rotate_left; (solve | (go_simp; with_reducible rfl) | go_simp); try simp only [Act.put, List.setIfInBounds_toArray, List.set_cons_zero, List.set_cons_succ]) | (refine wpO_G rfl (by rfl) ?_; try simp only [Act.put, List.setIfInBounds_toArray, List.set_cons_zero, List.set_cons_succ]))
  clear x0 x1 y0 y1
  replace HP := Lib.hid (HP.out.go (Below.refl V6.heap.size V6).drew)
  refine wpO_C rfl (by rfl) ?_
  go_simp
  refine (roverlaps_any f0 t0 f1 t1 _).mono ?_
  rintro e w6 ⟨rfl, hb⟩
  refine ⟨hb, ?_⟩
  try simp only [Act.put, List.setIfInBounds_toArray, List.set_cons_zero, List.set_cons_succ]
  rw [← HBo.out]
  replace HP := Lib.hid (HP.out.go hb)
  clear hb
  repeat (first | (refine wpO_F (v := ?_) rfl (by rfl) (fun w' hL => ?_) ?_; rotate_left; (solve | (go_simp; with_reducible rfl) | go_simp); try simp only [Act.put, List.setIfInBounds_toArray, List.set_cons_zero, List.set_cons_succ]) | (refine wpO_G rfl (by rfl) ?_; try simp only [Act.put, List.setIfInBounds_toArray, List.set_cons_zero, List.set_cons_succ]))
  refine wpO_nil ?_
  have c00 : ∀ W, Later w6.drew W → W.cell? ⟨w.heap.size, 0, none⟩ = some (.int .i64 f0) := fun W hW => by have p := HP.out.go (undrewL hW); exact p.k0.cell 0
  have c01 : ∀ W, Later w6.drew W → W.cell? ⟨w.heap.size, 1, none⟩ = some (.int .i64 t0) := fun W hW => by have p := HP.out.go (undrewL hW); exact p.k0.cell 1
  have c10 : ∀ W, Later w6.drew W → W.cell? ⟨w.heap.size + 1, 0, none⟩ = some (.int .i64 f1) := fun W hW => by have p := HP.out.go (undrewL hW); exact p.k1.cell 0
  have c11 : ∀ W, Later w6.drew W → W.cell? ⟨w.heap.size + 1, 1, none⟩ = some (.int .i64 t1) := fun W hW => by have p := HP.out.go (undrewL hW); exact p.k1.cell 1
  have x0 : ∀ W, Later w6.drew W → W.cell? ⟨xb, xo, none⟩ = some (.int .i64 f0) := fun W hW => by have p := HP.out.go (undrewL hW); exact p.x0
  have x1 : ∀ W, Later w6.drew W → W.cell? ⟨xb, xo + 1, none⟩ = some (.int .i64 t0) := fun W hW => by have p := HP.out.go (undrewL hW); exact p.x1
  go_wp2_with fail
  refine wp_region_ord [(0, true), (2, true), (1, false), (3, true), (4, true), (5, true), (6, true), (8, true), (9, true), (10, true), (11, true), (7, false), (12, false), (13, true), (14, true), (15, true), (16, true), (17, true), (19, true), (18, false), (20, true), (21, true), (22, true), (23, true), (24, true), (25, true), (26, true), (27, true), (28, true), (29, true), (30, true), (31, true), (32, true), (33, true), (34, true), (35, true), (36, true)] (by kernel_rfl) (by kernel_rfl) (by kernel_rfl) (by kernel_rfl) ?_
  repeat (first | (refine wpO_F (v := ?_) rfl (by rfl) (fun w' hL => ?_) ?_; rotate_left; (solve | (go_simp; with_reducible rfl) | go_simp); try simp only [Act.put, List.setIfInBounds_toArray, List.set_cons_zero, List.set_cons_succ]) | (refine wpO_G rfl (by rfl) ?_; try simp only [Act.put, List.setIfInBounds_toArray, List.set_cons_zero, List.set_cons_succ]))
  clear c00 c01 c10 c11 x0 x1
  replace HP := Lib.hid (HP.out.go (Below.refl w6.heap.size w6).drew)
  refine wpO_C rfl (by rfl) ?_
  go_simp
  refine (PRight_any f0 t0 _).mono ?_
  rintro e w7 ⟨rfl, hb⟩
  refine ⟨hb, ?_⟩
  try simp only [Act.put, List.setIfInBounds_toArray, List.set_cons_zero, List.set_cons_succ]
  rw [← HR0.out]
  replace HP := Lib.hid (HP.out.go hb)
  clear hb
  have c00 : ∀ W, Later w7 W → W.cell? ⟨w.heap.size, 0, none⟩ = some (.int .i64 f0) := fun W hW => by have p := HP.out.go hW; exact p.k0.cell 0
  have c01 : ∀ W, Later w7 W → W.cell? ⟨w.heap.size, 1, none⟩ = some (.int .i64 t0) := fun W hW => by have p := HP.out.go hW; exact p.k0.cell 1
  have x0 : ∀ W, Later w7 W → W.cell? ⟨xb, xo, none⟩ = some (.int .i64 f0) := fun W hW => by have p := HP.out.go hW; exact p.x0
  have x1 : ∀ W, Later w7 W → W.cell? ⟨xb, xo + 1, none⟩ = some (.int .i64 t0) := fun W hW => by have p := HP.out.go hW; exact p.x1
  repeat (first | (refine wpO_F (v := ?_) rfl (by rfl) (fun w' hL => ?_) ?_; rotate_left; (solve | (go_simp; with_reducible rfl) | go_simp); try simp only [Act.put, List.setIfInBounds_toArray, List.set_cons_zero, List.set_cons_succ]) | (refine wpO_G rfl (by rfl) ?_; try simp only [Act.put, List.setIfInBounds_toArray, List.set_cons_zero, List.set_cons_succ]))
  clear c00 c01 x0 x1
  refine wpO_C rfl (by rfl) ?_
  go_simp
  refine (PHas_any f0 t0 at_ _).mono ?_
  rintro e w8 ⟨rfl, hb⟩
  refine ⟨hb, ?_⟩
  try simp only [Act.put, List.setIfInBounds_toArray, List.set_cons_zero, List.set_cons_succ]
  rw [← HHs.out]
  replace HP := Lib.hid (HP.out.go hb)
  clear hb
  refine wpO_C rfl (by rfl) ?_
  go_simp
  refine (rhas_any f0 t0 at_ _).mono ?_
  rintro e w9 ⟨rfl, hb⟩
  refine ⟨hb, ?_⟩
  try simp only [Act.put, List.setIfInBounds_toArray, List.set_cons_zero, List.set_cons_succ]
  rw [← HHs.out]
  replace HP := Lib.hid (HP.out.go hb)
  clear hb
  have c00 : ∀ W, Later w9 W → W.cell? ⟨w.heap.size, 0, none⟩ = some (.int .i64 f0) := fun W hW => by have p := HP.out.go hW; exact p.k0.cell 0
  have c01 : ∀ W, Later w9 W → W.cell? ⟨w.heap.size, 1, none⟩ = some (.int .i64 t0) := fun W hW => by have p := HP.out.go hW; exact p.k0.cell 1
  have c10 : ∀ W, Later w9 W → W.cell? ⟨w.heap.size + 1, 0, none⟩ = some (.int .i64 f1) := fun W hW => by have p := HP.out.go hW; exact p.k1.cell 0
  have c11 : ∀ W, Later w9 W → W.cell? ⟨w.heap.size + 1, 1, none⟩ = some (.int .i64 t1) := fun W hW => by have p := HP.out.go hW; exact p.k1.cell 1
  repeat (first | (refine wpO_F (v := ?_) rfl (by rfl) (fun w' hL => ?_) ?_; rotate_left; (solve | (go_simp; with_reducible rfl) | go_simp); try simp only [Act.put, List.setIfInBounds_toArray, List.set_cons_zero, List.set_cons_succ]) | (refine wpO_G rfl (by rfl) ?_; try simp only [Act.put, List.setIfInBounds_toArray, List.set_cons_zero, List.set_cons_succ]))
  clear c00 c01 c10 c11
  refine wpO_C rfl (by rfl) ?_
  go_simp
  refine (POverlaps_any f0 t0 f1 t1 _).mono ?_
  rintro e w10 ⟨rfl, hb⟩
  refine ⟨hb, ?_⟩
  try simp only [Act.put, List.setIfInBounds_toArray, List.set_cons_zero, List.set_cons_succ]
  rw [← HBo.out]
  replace HP := Lib.hid (HP.out.go hb)
  clear hb
  have m0 : ∀ W, Later w10 W → W.cell? ⟨mb, 0, none⟩ = some (.int .i64 bx) := fun W hW => by have p := HP.out.go hW; exact p.m0.cell 0
  have m1 : ∀ W, Later w10 W → W.cell? ⟨mb, 1, none⟩ = some (.int .i64 by_) := fun W hW => by have p := HP.out.go hW; exact p.m0.cell 1
  have n0 : ∀ W, Later w10 W → W.cell? ⟨nb, 0, none⟩ = some (.int .i64 bx) := fun W hW => by have p := HP.out.go hW; exact p.n0.cell 0
  have n1 : ∀ W, Later w10 W → W.cell? ⟨nb, 1, none⟩ = some (.int .i64 by_) := fun W hW => by have p := HP.out.go hW; exact p.n0.cell 1
  repeat (first | (refine wpO_F (v := ?_) rfl (by rfl) (fun w' hL => ?_) ?_; rotate_left; (solve | (go_simp; with_reducible rfl) | go_simp); try simp only [Act.put, List.setIfInBounds_toArray, List.set_cons_zero, List.set_cons_succ]) | (refine wpO_G rfl (by rfl) ?_; try simp only [Act.put, List.setIfInBounds_toArray, List.set_cons_zero, List.set_cons_succ]))
  refine wpO_nil ?_
  clear m0 m1 n0 n1
  clear q0 q1 q2
  have HPs := Lib.hid (HPass.out r0 r1 rfl rfl)
  clear HPass HR0 HR1 HHs
  rcases HPs.out with ⟨rfl, rfl, hI, hM⟩ | ⟨hn, rfl, rfl⟩
  · obtain ⟨j, hj⟩ : ∃ j, j = (cutS (f1, t1) (f0, t0)).length := ⟨_, rfl⟩
    rw [← hj] at hI
    have HI := Lib.hid hI
    have HM := Lib.hid hM
    have HJ := Lib.hid hj
    clear hI hM hj HPs
    have HLl : Hid (left.length ≤ 1000000) := by show _ ≤ _; rw [HLeft.out]; exact Nat.le_trans (cutS_le _ _) (by omega)
    have HLl2 : Hid (left.length ≤ 2) := by show _ ≤ _; rw [HLeft.out]; exact cutS_le _ _
    go_wp2_with fail
    refine (runs_any _ [(f1, t1)] [(f0, t0)] (some ⟨yb, yo, none⟩) 1 yc (some ⟨xb, xo, none⟩) 1 xc _ HP.out.ky HP.out.kx (Nat.le_refl _) rfl rfl (by omega) (by omega)).mono ?_
    rintro e w11 ⟨rv, rfl, hown, hb⟩
    rw [runs_cut] at hown
    obtain ⟨ra, rc, rfl, _, _, _⟩ := own_arr hown
    rw [← HJ.out]
    replace HP := Lib.hid (HP.out.go hb)
    clear hb hown
    have i1 : ((j : Int) == 0) = ins := HI.out
    have i2 : (j == 0) = ins := by rw [← HI.out, Bool.eq_iff_iff]; simp
    have i3 : (t0 == f1) = mt := HM.out
    have c00 : w11.cell? ⟨w.heap.size, 0, none⟩ = some (.int .i64 f0) := by have p := HP.out; exact p.k0.cell 0
    have c01 : w11.cell? ⟨w.heap.size, 1, none⟩ = some (.int .i64 t0) := by have p := HP.out; exact p.k0.cell 1
    have c10 : w11.cell? ⟨w.heap.size + 1, 0, none⟩ = some (.int .i64 f1) := by have p := HP.out; exact p.k1.cell 0
    have c11 : w11.cell? ⟨w.heap.size + 1, 1, none⟩ = some (.int .i64 t1) := by have p := HP.out; exact p.k1.cell 1
    have lt0 : w.heap.size < w11.heap.size := HP.out.k0.lt
    have lt1 : w.heap.size + 1 < w11.heap.size := HP.out.k1.lt
    go_wp2_with fail
    clear c00 c01 c10 c11
    clear lt0 lt1
    refine (PContains_any f0 t0 f1 t1 _).mono ?_
    rintro e w12 ⟨rfl, hb⟩
    rw [← HIns.out]
    replace HP := Lib.hid (HP.out.go hb)
    clear hb
    have c00 : w12.cell? ⟨w.heap.size, 0, none⟩ = some (.int .i64 f0) := by have p := HP.out; exact p.k0.cell 0
    have c01 : w12.cell? ⟨w.heap.size, 1, none⟩ = some (.int .i64 t0) := by have p := HP.out; exact p.k0.cell 1
    have c10 : w12.cell? ⟨w.heap.size + 1, 0, none⟩ = some (.int .i64 f1) := by have p := HP.out; exact p.k1.cell 0
    have c11 : w12.cell? ⟨w.heap.size + 1, 1, none⟩ = some (.int .i64 t1) := by have p := HP.out; exact p.k1.cell 1
    have lt0 : w.heap.size < w12.heap.size := HP.out.k0.lt
    have lt1 : w.heap.size + 1 < w12.heap.size := HP.out.k1.lt
    go_wp2_with fail
    clear c00 c01 c10 c11
    clear lt0 lt1
    refine (PMeets_any f0 t0 f1 t1 _).mono ?_
    rintro e w13 ⟨rfl, hb⟩
    rw [← HMt.out]
    replace HP := Lib.hid (HP.out.go hb)
    clear hb
    have c00 : w13.cell? ⟨w.heap.size, 0, none⟩ = some (.int .i64 f0) := by have p := HP.out; exact p.k0.cell 0
    have c01 : w13.cell? ⟨w.heap.size, 1, none⟩ = some (.int .i64 t0) := by have p := HP.out; exact p.k0.cell 1
    have c10 : w13.cell? ⟨w.heap.size + 1, 0, none⟩ = some (.int .i64 f1) := by have p := HP.out; exact p.k1.cell 0
    have c11 : w13.cell? ⟨w.heap.size + 1, 1, none⟩ = some (.int .i64 t1) := by have p := HP.out; exact p.k1.cell 1
    have lt0 : w.heap.size < w13.heap.size := HP.out.k0.lt
    have lt1 : w.heap.size + 1 < w13.heap.size := HP.out.k1.lt
    go_wp2_with fail
    clear c00 c01 c10 c11
    clear lt0 lt1
    refine (runs_any _ [(f0, t0)] [(f1, t1)] (some ⟨xb, xo, none⟩) 1 xc (some ⟨yb, yo, none⟩) 1 yc _ HP.out.kx HP.out.ky (Nat.le_refl _) rfl rfl (by omega) (by omega)).mono ?_
    rintro e w14 ⟨rv, rfl, hown, hb⟩
    rw [runs_cut, ← HLeft.out] at hown
    obtain ⟨ra, rc, rfl, _, _, hrA⟩ := own_arr hown
    have HRA := Lib.hid hrA
    replace HP := Lib.hid (HP.out.go hb)
    clear hb hown hrA
    go_wp2_with fail
    refine (same_any _ left left la _ lc ra _ rc _ HP.out.l0 HRA.out (Nat.le_refl _) rfl rfl HLl.out HLl.out).mono ?_
    rintro e w15 ⟨rfl, hb⟩
    rw [HSelf.out]
    replace HP := Lib.hid (HP.out.go hb)
    clear hb HRA
    cases bs
    · obtain ⟨rfl, rfl⟩ := HNo.out rfl
      go_wp2_with fail
      refine (alive14 _).mono ?_
      rintro e w16 ⟨rfl, hb⟩
      replace HP := Lib.hid (HP.out.go hb)
      clear hb
      have m0 : w16.cell? ⟨mb, 0, none⟩ = some (.int .i64 0) := by have p := HP.out; exact p.m0.cell 0
      have m1 : w16.cell? ⟨mb, 1, none⟩ = some (.int .i64 0) := by have p := HP.out; exact p.m0.cell 1
      have lt2 : mb < w16.heap.size := HP.out.m0.lt
      go_wp2
      go_ret
      exact ⟨rfl, HP.out.kb⟩
    · go_wp2_with fail
      refine (runs_any _ [(f0, t0)] [(f1, t1)] (some ⟨xb, xo, none⟩) 1 xc (some ⟨yb, yo, none⟩) 1 yc _ HP.out.kx HP.out.ky (Nat.le_refl _) rfl rfl (by omega) (by omega)).mono ?_
      rintro e w16 ⟨rv, rfl, hown, hb⟩
      rw [runs_cut, ← HLeft.out] at hown
      obtain ⟨ra, rc, rfl, _, _, hrA⟩ := own_arr hown
      have HRA := Lib.hid hrA
      replace HP := Lib.hid (HP.out.go hb)
      clear hb hown hrA
      go_wp2_with fail
      refine (runs_any _ [(f0, t0)] left (some ⟨xb, xo, none⟩) 1 xc ra _ rc _ HP.out.kx HRA.out (Nat.le_refl _) rfl rfl (by omega) (by have := HLl2.out; omega)).mono ?_
      rintro e w17 ⟨rv, rfl, hown, hb⟩
      rw [HLeft.out, HSh.out (by trivial)] at hown
      obtain ⟨sa, sc, rfl, _, _, hsA⟩ := own_arr hown
      have HSA := Lib.hid hsA
      try rw [HLeft.out, HSh.out (by trivial)]
      replace HP := Lib.hid (HP.out.go hb)
      clear hb hown hsA HRA
      go_wp2_with fail
      refine (alive14 _).mono ?_
      rintro e w18 ⟨rfl, hb⟩
      replace HP := Lib.hid (HP.out.go hb)
      replace HSA := Lib.hid (HSA.out.later (N := 0) hb)
      clear hb
      have m0 : w18.cell? ⟨mb, 0, none⟩ = some (.int .i64 bx) := by have p := HP.out; exact p.m0.cell 0
      have m1 : w18.cell? ⟨mb, 1, none⟩ = some (.int .i64 by_) := by have p := HP.out; exact p.m0.cell 1
      have lt2 : mb < w18.heap.size := HP.out.m0.lt
      go_wp2_with fail
      clear m0 m1
      have hA19 := (Below.refl w18.heap.size w18).alloc (Nat.le_refl _) (.cells #[.int .i64 bx, .int .i64 by_] 23)
      refine (same_any _ [(bx, by_)] [(bx, by_)] (some ⟨w18.heap.size, 0, none⟩) 1 1 sa 1 sc _ ((arr_new1 w18 23 bx by_).mono (by simp)) (HSA.out.later (N := 0) hA19) (Nat.le_refl _) rfl rfl (by omega) (by omega)).mono ?_
      rintro e w20 ⟨rfl, hb⟩
      rw [HSelf.out]
      replace HP := Lib.hid ((HP.out.go hA19).go hb)
      go_wp2
      go_ret
      exact ⟨rfl, HP.out.kb⟩
  · clear HPs
    have HLl : Hid (left.length ≤ 1000000) := by show _ ≤ _; rw [HLeft.out]; exact Nat.le_trans (cutS_le _ _) (by omega)
    have HLl2 : Hid (left.length ≤ 2) := by show _ ≤ _; rw [HLeft.out]; exact cutS_le _ _
    generalize w10 = w11 at *
    cases r0
    all_goals cases r1
    all_goals try (exact absurd ⟨rfl, rfl⟩ hn)
    all_goals
      clear hn
      have c00 : w11.cell? ⟨w.heap.size, 0, none⟩ = some (.int .i64 f0) := by have p := HP.out; exact p.k0.cell 0
      have c01 : w11.cell? ⟨w.heap.size, 1, none⟩ = some (.int .i64 t0) := by have p := HP.out; exact p.k0.cell 1
      have c10 : w11.cell? ⟨w.heap.size + 1, 0, none⟩ = some (.int .i64 f1) := by have p := HP.out; exact p.k1.cell 0
      have c11 : w11.cell? ⟨w.heap.size + 1, 1, none⟩ = some (.int .i64 t1) := by have p := HP.out; exact p.k1.cell 1
      have lt0 : w.heap.size < w11.heap.size := HP.out.k0.lt
      have lt1 : w.heap.size + 1 < w11.heap.size := HP.out.k1.lt
      go_wp2_with fail
      clear c00 c01 c10 c11
      clear lt0 lt1
      refine (PContains_any f0 t0 f1 t1 _).mono ?_
      rintro e w12 ⟨rfl, hb⟩
      rw [← HIns.out]
      replace HP := Lib.hid (HP.out.go hb)
      clear hb
      have c00 : w12.cell? ⟨w.heap.size, 0, none⟩ = some (.int .i64 f0) := by have p := HP.out; exact p.k0.cell 0
      have c01 : w12.cell? ⟨w.heap.size, 1, none⟩ = some (.int .i64 t0) := by have p := HP.out; exact p.k0.cell 1
      have c10 : w12.cell? ⟨w.heap.size + 1, 0, none⟩ = some (.int .i64 f1) := by have p := HP.out; exact p.k1.cell 0
      have c11 : w12.cell? ⟨w.heap.size + 1, 1, none⟩ = some (.int .i64 t1) := by have p := HP.out; exact p.k1.cell 1
      have lt0 : w.heap.size < w12.heap.size := HP.out.k0.lt
      have lt1 : w.heap.size + 1 < w12.heap.size := HP.out.k1.lt
      go_wp2_with fail
      clear c00 c01 c10 c11
      clear lt0 lt1
      refine (PMeets_any f0 t0 f1 t1 _).mono ?_
      rintro e w13 ⟨rfl, hb⟩
      rw [← HMt.out]
      replace HP := Lib.hid (HP.out.go hb)
      clear hb
      go_wp2_with fail
      refine (runs_any _ [(f0, t0)] [(f1, t1)] (some ⟨xb, xo, none⟩) 1 xc (some ⟨yb, yo, none⟩) 1 yc _ HP.out.kx HP.out.ky (Nat.le_refl _) rfl rfl (by omega) (by omega)).mono ?_
      rintro e w14 ⟨rv, rfl, hown, hb⟩
      rw [runs_cut, ← HLeft.out] at hown
      obtain ⟨ra, rc, rfl, _, _, hrA⟩ := own_arr hown
      have HRA := Lib.hid hrA
      replace HP := Lib.hid (HP.out.go hb)
      clear hb hown hrA
      go_wp2_with fail
      refine (same_any _ left left la _ lc ra _ rc _ HP.out.l0 HRA.out (Nat.le_refl _) rfl rfl HLl.out HLl.out).mono ?_
      rintro e w15 ⟨rfl, hb⟩
      rw [HSelf.out]
      replace HP := Lib.hid (HP.out.go hb)
      clear hb HRA
      cases bs
      · obtain ⟨rfl, rfl⟩ := HNo.out rfl
        go_wp2_with fail
        refine (alive14 _).mono ?_
        rintro e w16 ⟨rfl, hb⟩
        replace HP := Lib.hid (HP.out.go hb)
        clear hb
        have m0 : w16.cell? ⟨mb, 0, none⟩ = some (.int .i64 0) := by have p := HP.out; exact p.m0.cell 0
        have m1 : w16.cell? ⟨mb, 1, none⟩ = some (.int .i64 0) := by have p := HP.out; exact p.m0.cell 1
        have lt2 : mb < w16.heap.size := HP.out.m0.lt
        go_wp2
        go_ret
        exact ⟨rfl, HP.out.kb⟩
      · go_wp2_with fail
        refine (runs_any _ [(f0, t0)] [(f1, t1)] (some ⟨xb, xo, none⟩) 1 xc (some ⟨yb, yo, none⟩) 1 yc _ HP.out.kx HP.out.ky (Nat.le_refl _) rfl rfl (by omega) (by omega)).mono ?_
        rintro e w16 ⟨rv, rfl, hown, hb⟩
        rw [runs_cut, ← HLeft.out] at hown
        obtain ⟨ra, rc, rfl, _, _, hrA⟩ := own_arr hown
        have HRA := Lib.hid hrA
        replace HP := Lib.hid (HP.out.go hb)
        clear hb hown hrA
        go_wp2_with fail
        refine (runs_any _ [(f0, t0)] left (some ⟨xb, xo, none⟩) 1 xc ra _ rc _ HP.out.kx HRA.out (Nat.le_refl _) rfl rfl (by omega) (by have := HLl2.out; omega)).mono ?_
        rintro e w17 ⟨rv, rfl, hown, hb⟩
        rw [HLeft.out, HSh.out (by trivial)] at hown
        obtain ⟨sa, sc, rfl, _, _, hsA⟩ := own_arr hown
        have HSA := Lib.hid hsA
        try rw [HLeft.out, HSh.out (by trivial)]
        replace HP := Lib.hid (HP.out.go hb)
        clear hb hown hsA HRA
        go_wp2_with fail
        refine (alive14 _).mono ?_
        rintro e w18 ⟨rfl, hb⟩
        replace HP := Lib.hid (HP.out.go hb)
        replace HSA := Lib.hid (HSA.out.later (N := 0) hb)
        clear hb
        have m0 : w18.cell? ⟨mb, 0, none⟩ = some (.int .i64 bx) := by have p := HP.out; exact p.m0.cell 0
        have m1 : w18.cell? ⟨mb, 1, none⟩ = some (.int .i64 by_) := by have p := HP.out; exact p.m0.cell 1
        have lt2 : mb < w18.heap.size := HP.out.m0.lt
        go_wp2_with fail
        clear m0 m1
        have hA19 := (Below.refl w18.heap.size w18).alloc (Nat.le_refl _) (.cells #[.int .i64 bx, .int .i64 by_] 23)
        refine (same_any _ [(bx, by_)] [(bx, by_)] (some ⟨w18.heap.size, 0, none⟩) 1 1 sa 1 sc _ ((arr_new1 w18 23 bx by_).mono (by simp)) (HSA.out.later (N := 0) hA19) (Nat.le_refl _) rfl rfl (by omega) (by omega)).mono ?_
        rintro e w20 ⟨rfl, hb⟩
        rw [HSelf.out]
        replace HP := Lib.hid ((HP.out.go hA19).go hb)
        go_wp2
        go_ret
        exact ⟨rfl, HP.out.kb⟩
end Go.Proofs.Ytockmoiekbhneaa
