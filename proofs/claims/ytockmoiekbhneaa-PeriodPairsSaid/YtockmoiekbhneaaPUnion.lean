/- The walk of period.Union. -/
import Derived.Test.YtockmoiekbhneaaPSort
import Derived.Test.YtockmoiekbhneaaPEdges
import Derived.Deep.AppendLies
namespace Go.Proofs.Ytockmoiekbhneaa
open Go.RowKit

/-- What Union returns. -/
def RetU (l : List (Int × Int)) (w : World) (e : Ending) (w' : World) : Prop := ∃ u v, IsU l u ∧ e = .returned v ∧ w'.ownsRow w.heap.size 23 2 v u.length (cellsT u) ∧ Below w.heap.size w w'

theorem mrg_len : ∀ (r : List (Int × Int)) (w : Int × Int), (mrg w r).length ≤ r.length + 1
  | [], w => by simp [mrg]
  | s :: r, w => by
    unfold mrg
    split
    · have := mrg_len r s; simp; omega
    · have := mrg_len r (w.1, max w.2 s.2); simp; omega
theorem mrg_same (s : Int × Int) (r : List (Int × Int)) (h : s.1 < s.2) : mrg s (s :: r) = mrg s r := by
  have e : ((s.1, max s.2 s.2) : Int × Int) = s := by rw [Int.max_self]
  conv => lhs; unfold mrg
  rw [if_neg (by omega), e]
theorem mrg_lt (w s : Int × Int) (r : List (Int × Int)) (h : w.2 < s.1) : mrg w (s :: r) = w :: mrg s r := by
  conv => lhs; unfold mrg
  rw [if_pos h]
theorem mrg_ge' (w s : Int × Int) (r : List (Int × Int)) (h : ¬ w.2 < s.1) : mrg w (s :: r) = mrg (w.1, max w.2 s.2) r := by
  conv => lhs; unfold mrg
  rw [if_neg h]
theorem joinS_same (s : Int × Int) (r : List (Int × Int)) (h : s.1 < s.2) : joinS (s :: r) = mrg s (s :: r) := by
  rw [mrg_same s r h]; rfl

def RetSort (V : List (Int × Int)) (v : Value) (base : Nat) (w : World) (e : Ending) (w' : World) : Prop :=
  e = .returned (.tuple #[]) ∧ ∃ (d : List (Int × Int)) (a : Option Addr) (c : Nat), v = .slice a V.length c ∧ V.length ≤ c ∧ d.Perm V ∧ Asc d ∧ Arr w'.heap.size w' a (cellsT d) ∧ Below base w w'
theorem sort_v (V : List (Int × Int)) (v : Value) (base : Nat) (w : World) (hown : w.ownsRow base 23 2 v V.length (cellsT V)) (hbase : base ≤ w.heap.size) (hmax : V.length ≤ 1000000) :
    Calls Try.prog 27 #[v, .func (.func 28) #[] #[]] w (RetSort V v base w) := by
  by_cases h0 : V.length = 0
  · obtain ⟨a, c, rfl, h1, _, _⟩ := own_slice hown
    have hV : V = [] := List.length_eq_zero_iff.1 h0
    subst hV
    refine (sort_none a c w).mono ?_
    rintro e w' ⟨rfl, rfl⟩
    exact ⟨rfl, [], a, c, rfl, h1, List.Perm.refl _, trivial, .inl rfl, Below.refl _ _⟩
  · obtain ⟨g, c, rfl, h1, h2⟩ := World.ownsRow.form hown (by omega)
    obtain ⟨_, _, e1, h3, _, _⟩ := own_slice hown
    simp only [Value.slice.injEq, true_and] at e1
    obtain ⟨_, rfl⟩ := e1
    refine (sort_any V g V.length c base w hown rfl hmax).mono ?_
    rintro e w' ⟨rfl, d, hp, ha, harr, hc⟩
    exact ⟨rfl, d, _, c, rfl, h3, hp, ha, harr, hc.below hbase (by intro k hk; simp at hk; omega)⟩

set_option maxRecDepth 100000 in
set_option maxHeartbeats 4000000 in
theorem union_any (N : Nat) (l : List (Int × Int)) (a : Option Addr) (n0 cap : Nat) (w : World) (h : Arr N w a (cellsT l)) (hN : N ≤ w.heap.size) (hn : n0 = l.length) (hmax : n0 ≤ 1000000) :
    Calls Try.prog 20 #[.slice a n0 cap] w (RetU l w) := by
  obtain ⟨iP, hiP, hzP, hsP, hbP⟩ := info_parts info_span
  have HV := Lib.hid (valid_any N l a n0 cap w h hN hn hmax)
  have hvl : (validL l).length ≤ 1000000 := by have := validL_le l; omega
  clear h hn
  go_enter Try.func20, Try.ntmps20
  go_wp2
  go_step3
  go_wp2_with fail
  refine HV.out.mono ?_
  rintro e w1 ⟨v, rfl, hown, hb1⟩
  clear HV
  go_wp2_with fail
  refine (sort_v (validL l) v w.heap.size w1 hown hb1.size hvl).mono ?_
  rintro e w2 ⟨rfl, d, a3, c3, hv, hnc, hperm, hasc, harr, hb2⟩
  subst hv
  obtain ⟨n, hn⟩ : ∃ n, n = (validL l).length := ⟨_, rfl⟩
  have hdl : d.length = n := by rw [hn]; exact hperm.length_eq
  have hdv : ∀ s ∈ d, s.1 < s.2 := fun s hs => ((validL_mem l s).1 (hperm.mem_iff.1 hs)).2
  rw [← hn] at hnc hvl ⊢
  have HD := Lib.hid harr
  have HDL := Lib.hid hdl
  have HDV := Lib.hid hdv
  have HB2 := Lib.hid (hb1.trans (hb2.mono (Nat.le_refl _)))
  have hw2 : w.heap.size ≤ w2.heap.size := HB2.out.size
  have HR : Hid (∀ u v w', u = joinS d → w'.ownsRow w.heap.size 23 2 v u.length (cellsT u) → Below w.heap.size w w' → RetU l w (.returned v) w') := fun u v w' h1 h2 h3 => ⟨u, v, ⟨d, hperm, hasc, h1⟩, rfl, h2, h3⟩
  generalize RetU l w = RR at *
  clear hown hb1 hb2 hperm hasc harr hdl hdv hn
  go_wp2
  go_step3
  go_wp2
  go_loopw [3, 4] (fun rv uv wr => ∃ (j q : Nat) (b3 : Option Addr) (e3 : Nat) (b4 : Option Addr) (e4 : Nat) (U : List (Int × Int)), rv = .slice b3 (n - j) e3 ∧ uv = .slice b4 q e4 ∧ j ≤ n ∧ q ≤ j ∧ n - j ≤ e3 ∧ Hid (q = U.length) ∧ Hid (Arr w2.heap.size w2 b3 (cellsT (d.drop j))) ∧ Hid (wr.ownsRow w2.heap.size 23 2 (.slice b4 q e4) q (cellsT U)) ∧ Hid (U ++ joinS (d.drop j) = joinS d) ∧ Hid (Below w2.heap.size w2 wr)) (fun rv _ _ => match rv with | .slice _ m _ => m | _ => 0)
  case atStart => exact ⟨0, 0, a3, c3, none, 0, [], rfl, rfl, by omega, by omega, hnc, rfl, HD, World.ownsRow_nil _ _ _ _, rfl, Below.refl _ _⟩
  case round =>
    obtain ⟨j, q, b3, e3, b4, e4, U, rfl, rfl, hj, hqj, hne, HQ, HA, HO, HI, HB⟩ := hrel
    obtain ⟨wo, hwo⟩ : ∃ W, W = wr := ⟨_, rfl⟩
    subst hwo
    have hbw := HB.out.size
    by_cases hlt : j < n
    · have hjl : j < d.length := by have := HDL.out; omega
      have hdrop : d.drop j = d[j] :: d.drop (j + 1) := List.drop_eq_getElem_cons hjl
      have hval := HDV.out _ (List.getElem_mem hjl)
      obtain ⟨b, o, rfl, hb1, c0, c1⟩ := spanAt (k := 0) HA.out (by rw [List.length_drop]; omega)
      have e0 : (d.drop j)[0]'(by rw [List.length_drop]; omega) = d[j] := by simp
      rw [e0] at c0 c1
      have HI1 : Hid (U ++ mrg d[j] (d.drop (j + 1)) = joinS d) := by
        have := HI.out
        rw [hdrop] at this
        exact this
      obtain ⟨⟨f, t0⟩, hft⟩ : ∃ x, x = d[j] := ⟨_, rfl⟩
      rw [← hft] at c0 c1 HI1 hval
      simp only [Nat.zero_mul, Nat.add_zero] at c0 c1 hval
      have HFT := Lib.hid hft
      have k0 := (HB.out.cell (p := ⟨b, o, none⟩) (by show b < _; omega)).trans c0
      have k1 := (HB.out.cell (p := ⟨b, o + 1, none⟩) (by show b < _; omega)).trans c1
      have q0 : decide ((0 : Int) < ((n - j : Nat) : Int)) = true := by simp; omega
      have q1 : decide (0 < n - j) = true := by simp; omega
      have q2 : 0 < n - j := by omega
      have HBn := Lib.hid (Blk.new wo 23 #[.int .i64 f, .int .i64 t0])
      have HWn := Lib.hid ((Below.refl wo.heap.size wo).alloc (Nat.le_refl _) (.cells #[.int .i64 f, .int .i64 t0] 23))
      have hbs : b < w2.heap.size := hb1
      obtain ⟨M, hM⟩ : ∃ M, M = n - j := ⟨_, rfl⟩
      rw [← hM] at q0 q1 q2 hne ⊢
      have HMd := Lib.hid hM
      have hMn : M ≤ n := by omega
      clear c0 c1 hft hdrop hM e0
      go_wp2
      clear k0 k1 q0 q1
      go_loopw [3, 4, 20] (fun rv uv iv wi => ∃ (i : Nat) (t : Int), rv = .slice (some ⟨b, o, none⟩) M e3 ∧ uv = .slice b4 q e4 ∧ iv = .int .i64 i ∧ i ≤ M ∧ Hid (Blk wi wo.heap.size 23 #[.int .i64 f, .int .i64 t]) ∧ Hid (Below wo.heap.size wo wi) ∧ Hid ((i = 0 ∧ t = t0) ∨ (1 ≤ i ∧ U ++ mrg (f, t) (d.drop (j + i)) = joinS d))) (fun _ _ iv _ => M - (intOf iv).toNat)
      case atStart => exact ⟨0, t0, rfl, rfl, rfl, by omega, HBn, HWn, .inl ⟨rfl, rfl⟩⟩
      case round =>
        obtain ⟨i, t, rfl, rfl, rfl, hiM, HK, HW, HInv⟩ := hrel
        have hwi := HW.out.size
        have hkl := HK.out.lt
        have HOi := Lib.hid (own_below HO.out (Nat.le_refl _) HW.out)
        clear HBn HWn
        by_cases hlt2 : i < M
        · have hil : j + i < d.length := by have := HDL.out; have := HMd.out; omega
          obtain ⟨_, _, hbb, _, c0, c1⟩ := spanAt (k := i) HA.out (by rw [List.length_drop]; omega)
          simp only [Option.some.injEq, Addr.mk.injEq, and_true] at hbb
          obtain ⟨rfl, rfl⟩ := hbb
          have e0 : (d.drop j)[i]'(by rw [List.length_drop]; omega) = d[j + i] := by simp
          rw [e0] at c0 c1
          have hvs := HDV.out _ (List.getElem_mem hil)
          have hdr : d.drop (j + i) = d[j + i] :: d.drop (j + i + 1) := List.drop_eq_getElem_cons hil
          obtain ⟨⟨sf, st⟩, hs⟩ : ∃ x, x = d[j + i] := ⟨_, rfl⟩
          rw [← hs] at c0 c1 hvs hdr
          simp only at c0 c1 hvs
          have hz : i = 0 → (sf, st) = (f, t0) := by
            intro h; subst h
            rw [hs, HFT.out]; rfl
          have k0 := (HW.out.cell (p := ⟨b, o + i * 2, none⟩) (by show b < _; omega)).trans ((HB.out.cell (p := ⟨b, o + i * 2, none⟩) (by show b < _; omega)).trans c0)
          have k1 := (HW.out.cell (p := ⟨b, o + i * 2 + 1, none⟩) (by show b < _; omega)).trans ((HB.out.cell (p := ⟨b, o + i * 2 + 1, none⟩) (by show b < _; omega)).trans c1)
          have m0 : wr.cell? ⟨wo.heap.size, 0, none⟩ = some (.int .i64 f) := HK.out.cell 0
          have m1 : wr.cell? ⟨wo.heap.size, 1, none⟩ = some (.int .i64 t) := HK.out.cell 1
          have f1 : wr.frozen? ⟨wo.heap.size, 1, none⟩ = false := HK.out.frozen 1
          have hcase : (t < sf ∧ Hid (1 ≤ i) ∧ Hid (U ++ (f, t) :: mrg (sf, st) (d.drop (j + i + 1)) = joinS d)) ∨ (¬ t < sf ∧ Hid (U ++ mrg (f, max t st) (d.drop (j + (i + 1))) = joinS d)) := by
            rcases HInv.out with ⟨h1, h2⟩ | ⟨h1, h2⟩
            · right
              have hz1 := hz h1
              simp only [Prod.mk.injEq] at hz1
              obtain ⟨rfl, rfl⟩ := hz1
              subst h1 h2
              refine ⟨by omega, ?_⟩
              show _ = _
              rw [Int.max_self]
              exact HI1.out
            · by_cases hts : t < sf
              · left
                refine ⟨hts, h1, ?_⟩
                show _ = _
                rw [← h2, hdr, mrg_lt _ _ _ hts]
              · right
                refine ⟨hts, ?_⟩
                show _ = _
                rw [← h2, hdr, mrg_ge' _ _ _ hts]; rfl
          have HDr := Lib.hid hdr
          have HC0 := Lib.hid c0
          have HC1 := Lib.hid c1
          clear c0 c1 e0 hs hz hdr HInv hvs
          rcases hcase with ⟨hts, hi1, hinv⟩ | ⟨hts, hinv⟩
          · have hi1 := hi1.out
            obtain ⟨x, hx⟩ : ∃ x, x = wr.alloc (.cells #[.int .i64 sf, .int .i64 st] 23) := ⟨_, rfl⟩
            have HOx : Hid (x.drew.ownsRow w2.heap.size 23 2 (.slice b4 q e4) q (cellsT U)) := by rw [hx]; exact World.ownsRow.alloc HOi.out _
            have hKx : Blk x.drew wo.heap.size 23 #[.int .i64 f, .int .i64 t] := by rw [hx]; exact (HK.out.alloc _).drew
            have HBx : Hid (Below w2.heap.size w2 x.drew) := by rw [hx]; exact ((HB.out.trans (HW.out.mono hbw)).alloc (by omega) _).drew
            have hSx : wo.heap.size ∉ (Value.slice b4 q e4).ownBlock.toList := by
              intro hm
              rw [Option.mem_toList] at hm
              have := (World.ownsRow.lt HO.out _ hm).2
              omega
            have hxs : x.drew.heap.size = x.heap.size := rfl
            have hws : w2.heap.size ≤ x.heap.size := HBx.out.size
            have d0 : ∀ W, Chg (Value.slice b4 q e4).ownBlock.toList x.drew W → W.cell? ⟨wo.heap.size, 0, none⟩ = some (.int .i64 f) := fun W h => (hKx.chg h hSx).cell 0
            have d1 : ∀ W, Chg (Value.slice b4 q e4).ownBlock.toList x.drew W → W.cell? ⟨wo.heap.size, 1, none⟩ = some (.int .i64 t) := fun W h => (hKx.chg h hSx).cell 1
            obtain ⟨a6, hA6, hsl⟩ := HA.out.from_ (P := Try.prog) 26 23 2 Try.underlying26 Try.sizeOf23 M e3 i (by rw [cellsT_len, List.length_drop, HDL.out, HMd.out]) (by omega) hne (by omega)
            have hA6' : Arr w2.heap.size w2 a6 (cellsT (d.drop (j + i))) := by
              have e : cellsT (d.drop (j + i)) = (cellsT (d.drop j)).drop (i * 2) := by
                rw [← cellsOf_drop encS 2 encS_len, List.drop_drop]
              rw [e]; exact hA6
            have HA6 := Lib.hid hA6'
            have hown := Lib.hid (World.ownsRow.alloc (w := x.drew) HOx.out (.cells #[.int .i64 f, .int .i64 t] 23))
            have hAn := Lib.hid (arr_new1 x.drew 23 f t)
            have hMi : M - i = n - (j + i) := by have := HMd.out; omega
            have HMi := Lib.hid hMi
            clear hA6 hA6' hMi hKx k0 k1
            have k0 := (HW.out.cell (p := ⟨b, o + i * 2, none⟩) (by show b < _; omega)).trans ((HB.out.cell (p := ⟨b, o + i * 2, none⟩) (by show b < _; omega)).trans HC0.out)
            have k1 := (HW.out.cell (p := ⟨b, o + i * 2 + 1, none⟩) (by show b < _; omega)).trans ((HB.out.cell (p := ⟨b, o + i * 2 + 1, none⟩) (by show b < _; omega)).trans HC1.out)
            have HX := Lib.hid hx
            clear hx
            go_wp2_with fail
            clear k0 k1 m0 m1 f1
            rw [← HX.out]
            refine wp_region_ordS (Value.slice b4 q e4).ownBlock.toList [(0, true), (1, true), (4, true), (5, true), (6, true), (2, false), (3, false), (7, true), (8, true)] (by kernel_rfl) (by kernel_rfl) (by kernel_rfl) (by kernel_rfl) ?_
            repeat (first | (refine wpO_F (v := ?_) rfl (by rfl) (fun w' hL => ?_) ?_; rotate_left; (solve | (go_simp; with_reducible rfl) | go_simp); try simp only [Act.put, List.setIfInBounds_toArray, List.set_cons_zero, List.set_cons_succ]) | (refine wpO_G' (Chg.refl _) rfl (by rfl) ?_; try simp only [Act.put, List.setIfInBounds_toArray, List.set_cons_zero, List.set_cons_succ]))
            refine wpO_C rfl (by rfl) ?_
            go_simp
            refine ⟨(Chg.refl _ _).alloc _, ?_⟩
            try simp only [Act.put, List.setIfInBounds_toArray, List.set_cons_zero, List.set_cons_succ]
            refine wpO_C rfl (by rfl) ?_
            refine wp_appS (.tmp 30) (.tmp 32) 26 rfl w2.heap.size 23 iP (.agg #[.int .i64 0, .int .i64 0]) 2 16 Try.underlying26 hiP hzP rfl hsP (by omega) hbP (by omega) (.slice b4 q e4) q _ _ hown.out rfl _ (some ⟨x.heap.size, 0, none⟩) 1 1 _ hAn.out rfl (one_T _) rfl (by omega) (by simp; omega) ?_
            intro v6 x6 h6 hc6 hb6
            refine ⟨hc6, ?_⟩
            try simp only [Act.put, List.setIfInBounds_toArray, List.set_cons_zero, List.set_cons_succ]
            obtain ⟨b6, c6, rfl, _, _, _⟩ := own_slice h6
            have H6 := Lib.hid h6
            have HB6 := Lib.hid ((HBx.out.alloc (show w2.heap.size ≤ x.drew.heap.size from hws) _).trans hb6)
            clear h6 hc6 hb6
            repeat (first | (refine wpO_F (v := ?_) rfl (by rfl) (fun w' hL => ?_) ?_; rotate_left; (solve | (go_simp; with_reducible rfl) | go_simp); try simp only [Act.put, List.setIfInBounds_toArray, List.set_cons_zero, List.set_cons_succ]) | (refine wpO_G' (Chg.refl _) rfl (by rfl) ?_; try simp only [Act.put, List.setIfInBounds_toArray, List.set_cons_zero, List.set_cons_succ]))
            refine wpO_nil ?_
            clear d0 d1 hsl
            go_wp2
            go_roundw
            case rel => exact ⟨j + i, q + 1, a6, e3 - i, b6, c6, U ++ [(f, t)], by rw [← HMi.out], rfl, by have := HMi.out; omega, by omega, by have := HMi.out; omega, by show _ = _; rw [List.length_append, ← HQ.out]; rfl, HA6, by show World.ownsRow _ _ _ _ _ _ _; rw [cellsT_app]; exact H6.out, by show _ = _; rw [HDr.out, List.append_assoc]; exact hinv.out, HB6⟩
            case measure => first | (simp; done) | (simp; omega)
          · have HKa := Lib.hid ((HK.out.set_ 1 (.int .i64 (max t st))).alloc (.cells #[.int .i64 sf, .int .i64 st] 23))
            have HWa := Lib.hid ((Below.setCell HW.out (p := ⟨wo.heap.size, 1, none⟩) (Nat.le_refl _) (.int .i64 (max t st))).alloc (by simp; omega) (.cells #[.int .i64 sf, .int .i64 st] 23))
            go_wp2
            go_roundw
            case rel => exact ⟨i + 1, max t st, rfl, rfl, by go_num, by omega, HKa, HWa, .inr ⟨by omega, hinv.out⟩⟩
            case measure => simp [intOf]; omega
        · obtain rfl : i = M := by omega
          have m0 : wr.cell? ⟨wo.heap.size, 0, none⟩ = some (.int .i64 f) := HK.out.cell 0
          have m1 : wr.cell? ⟨wo.heap.size, 1, none⟩ = some (.int .i64 t) := HK.out.cell 1
          have hfin : U ++ [(f, t)] = joinS d := by
            rcases HInv.out with ⟨h1, _⟩ | ⟨_, h2⟩
            · omega
            · rw [List.drop_of_length_le (by have := HDL.out; have := HMd.out; omega)] at h2
              exact h2
          have HFin := Lib.hid hfin
          have hown := Lib.hid (World.ownsRow.alloc (w := wr) HOi.out (.cells #[.int .i64 f, .int .i64 t] 23))
          have hAn := Lib.hid (arr_new1 wr 23 f t)
          have HBw := Lib.hid ((HB.out.trans (HW.out.mono hbw)))
          have hwr2 : w2.heap.size ≤ wr.heap.size := HBw.out.size
          clear hfin HInv
          go_wp2_with (refine wpList_appS rfl (.tmp 44) (.tmp 46) 26 rfl w2.heap.size 23 iP (.agg #[.int .i64 0, .int .i64 0]) 2 16 Try.underlying26 hiP hzP rfl hsP (by omega) hbP (by omega) (.slice b4 q e4) q _ _ hown.out rfl _ (some ⟨wr.heap.size, 0, none⟩) 1 1 _ hAn.out rfl (one_T _) rfl (by omega) (by simp; omega) ?_; intro v6 x6 h6 _ hb6; have H6 := Lib.hid h6; have HB6 := Lib.hid ((HBw.out.alloc hwr2 _).trans hb6); clear h6 hb6)
          (try rw [Exit.noGoto_ret])
          have HE := HR.out (U ++ [(f, t)]) v6 x6 HFin.out (by rw [List.length_append, ← HQ.out, cellsT_app]; exact own_base H6.out hw2) (HB2.out.trans (HB6.out.mono hw2))
          first | exact HE | (go_ret; exact HE)
    · obtain rfl : j = n := by omega
      have hdn : joinS d = U := by
        have := HI.out
        rw [List.drop_of_length_le (by have := HDL.out; omega)] at this
        simpa [joinS] using this.symm
      have HDn := Lib.hid hdn
      have q0 : j - j = 0 := by omega
      clear hdn hlt
      rw [q0]
      go_wp2
      (try rw [Exit.noGoto_ret])
      have HE := HR.out U (.slice b4 q e4) wo HDn.out.symm (by rw [← HQ.out]; exact own_base HO.out hw2) (HB2.out.trans (HB.out.mono hw2))
      first | exact HE | (go_ret; exact HE)
end Go.Proofs.Ytockmoiekbhneaa
