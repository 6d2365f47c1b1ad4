/- Several texts of one proof, one behind the other. -/
import Derived.Test.YtlcphgomhhejbaaNPk21

/- The walk of the law NodeParts. (Made by wip/gen/gennp.py.) -/
namespace Go.Proofs.Ytlcphgomhhejbaa
open Go.RowKit

/-- The law's node and both halves, where they lie. -/
structure PX (w : World) (lf : Bool) (m : NB) (n a b : Nd) (ma mb : NB) (ga : Nat) (W : World) : Prop where
  n0 : Blk W w.heap.size 26 #[.bool lf, .slice m.ka m.kl m.kc, .slice m.ca m.cl m.cc, .slice m.da m.dl m.dc]
  a0 : Blk W ga 26 #[.bool a.leaf, .slice ma.ka ma.kl ma.kc, .slice ma.ca ma.cl ma.cc, .slice ma.da ma.dl ma.dc]
  b0 : Blk W (ga + 1) 26 #[.bool b.leaf, .slice mb.ka mb.kl mb.kc, .slice mb.ca mb.cl mb.cc, .slice mb.da mb.dl mb.dc]
  nn : NAt W n m
  na : NAt W a ma
  nb : NAt W b mb
  bel : Below w.heap.size w W
theorem PX.go {w : World} {lf : Bool} {m : NB} {n a b : Nd} {ma mb : NB} {ga : Nat} {W W' : World} (h : PX w lf m n a b ma mb ga W) (hb : Below W.heap.size W W') : PX w lf m n a b ma mb ga W' :=
  ⟨h.n0.bel hb h.n0.lt, h.a0.bel hb h.a0.lt, h.b0.bel hb h.b0.lt, h.nn.later hb, h.na.later hb, h.nb.later hb, h.bel.trans (hb.mono h.bel.size)⟩
theorem cellsS_app (l m : List ByteArray) : cellsS (l ++ m) = cellsS l ++ cellsS m := by simp [cellsS, cellsOf]
theorem cellsC_app (l m : List Cl) : cellsC (l ++ m) = cellsC l ++ cellsC m := by simp [cellsC, cellsOf]
theorem cellsI_app (l m : List Int) : cellsI (l ++ m) = cellsI l ++ cellsI m := by simp [cellsI, cellsOf]
set_option maxRecDepth 100000 in
set_option maxHeartbeats 16000000 in
theorem nodeParts_walk (n : Nd) (m : NB) (at_ : Int) (w : World) (hin : NIn w n m) (hat : (Lit.int .i64 at_).wf = true) :
    Calls Try.prog 7 #[m.v n.leaf, .int .i64 at_] w fun e w' => e = .returned (.bool true) ∧ Below w.heap.size w w' := by
  obtain ⟨iS, hiS, hzS, hsS, hbS⟩ := info_parts info_str
  obtain ⟨iC, hiC, hzC, hsC, hbC⟩ := info_parts info_cell
  obtain ⟨iI, hiI, hzI, hsI, hbI⟩ := info_parts info_int
  have hbx := Below.box w (.cells #[.bool n.leaf, .slice m.ka m.kl m.kc, .slice m.ca m.cl m.cc, .slice m.da m.dl m.dc] 26)
  have HGr := Lib.hid (NGreat_any n m _ (hin.later hbx))
  have HAl := Lib.hid alive_any10
  have HIn := Lib.hid hin
  have HBx := Lib.hid hbx
  have HBlk0 := Lib.hid (Blk.new w 26 #[.bool n.leaf, .slice m.ka m.kl m.kc, .slice m.ca m.cl m.cc, .slice m.da m.dl m.dc])
  obtain ⟨lf, hlf⟩ : ∃ lf, n.leaf = lf := ⟨_, rfl⟩
  rw [hlf] at HGr HBx HBlk0 ⊢
  have HLf := Lib.hid hlf
  have HAt := Lib.hid hat
  clear hin hbx hlf hat
  obtain ⟨ka, kl, kc, ca, cl, cc, da, dl, dc⟩ := m
  simp only at *
  go_enter Try.func7, Try.ntmps7
  go_wp2_with fail
  refine HGr.out.mono ?_
  rintro e w1 ⟨r, rfl, hfit, hb1⟩
  have L01 : Later _ w1 := hb1
  have HB1 : Hid (Below w.heap.size w w1) := HBx.out.trans (Below.mono L01 HBx.out.size)
  cases r with
  | true =>
    clear hfit hb1 L01
    go_wp2_with fail
    refine (HAl.out _).mono ?_
    rintro e w2 ⟨rfl, hb2⟩
    go_wp2
    go_ret
    exact ⟨rfl, HB1.out.trans (Below.mono hb2 HB1.out.size)⟩
  | false =>
    have HF := Lib.hid (hfit rfl)
    have HNA := Lib.hid (HIn.out.at_ HF.out)
    have HBk1 : Hid (Blk w1 w.heap.size 26 #[.bool lf, .slice ka kl kc, .slice ca cl cc, .slice da dl dc]) := HBlk0.out.bel L01 HBlk0.out.lt
    have hkl : kl ≤ 60 := by have := HF.out.kn; have := HNA.out.hk; simp only at this; omega
    have hcl : cl ≤ 60 := by have := HF.out.cn; have := HNA.out.hc; simp only at this; omega
    have hdl : dl ≤ 80 := by have := HF.out.dn; have := HNA.out.hd; simp only at this; omega
    have HAn1 := Lib.hid (HNA.out.later HB1.out)
    have HRt := NRight_any n ⟨ka, kl, kc, ca, cl, cc, da, dl, dc⟩ w1 HAn1.out
    rw [HLf.out] at HRt
    have HRt := Lib.hid HRt
    clear hfit hb1 L01
    have n0 : w1.cell? ⟨w.heap.size, 0, none⟩ = some (.bool lf) := Blk.cell HBk1.out 0
    have n1 : w1.cell? ⟨w.heap.size, 1, none⟩ = some (.slice ka kl kc) := Blk.cell HBk1.out 1
    have n2 : w1.cell? ⟨w.heap.size, 2, none⟩ = some (.slice ca cl cc) := Blk.cell HBk1.out 2
    have n3 : w1.cell? ⟨w.heap.size, 3, none⟩ = some (.slice da dl dc) := Blk.cell HBk1.out 3
    have nlt : w.heap.size < w1.heap.size := Blk.lt HBk1.out
    go_wp2_with fail
    refine HRt.out.mono ?_
    rintro e w2 ⟨rfl, L12⟩
    replace L12 : Later w1 w2 := L12
    have HB2 : Hid (Below w.heap.size w w2) := HB1.out.trans (Below.mono L12 HB1.out.size)
    have HBk2 := Lib.hid (HBk1.out.bel L12 HBk1.out.lt)
    have HAn2 := Lib.hid (HAn1.out.later L12)
    obtain ⟨ok, hok⟩ : ∃ ok, n.ok = ok := ⟨_, rfl⟩
    rw [hok]
    clear L12 HRt
    clear n0 n1 n2 n3 nlt
    cases ok with
    | false =>
      clear hok
      go_wp2_with fail
      refine (HAl.out _).mono ?_
      rintro e w3 ⟨rfl, hb3⟩
      go_wp2
      go_ret
      exact ⟨rfl, HB2.out.trans (Below.mono hb3 HB2.out.size)⟩
    | true =>
      have HOk := Lib.hid (Nd.ok_true hok)
      clear hok
      have HHv := NHalve_any n ⟨ka, kl, kc, ca, cl, cc, da, dl, dc⟩ _ HAn2.out (by simp only; omega)
      rw [HLf.out] at HHv
      have HHv := Lib.hid HHv
      have n0 : w2.cell? ⟨w.heap.size, 0, none⟩ = some (.bool lf) := Blk.cell HBk2.out 0
      have n1 : w2.cell? ⟨w.heap.size, 1, none⟩ = some (.slice ka kl kc) := Blk.cell HBk2.out 1
      have n2 : w2.cell? ⟨w.heap.size, 2, none⟩ = some (.slice ca cl cc) := Blk.cell HBk2.out 2
      have n3 : w2.cell? ⟨w.heap.size, 3, none⟩ = some (.slice da dl dc) := Blk.cell HBk2.out 3
      have nlt : w.heap.size < w2.heap.size := Blk.lt HBk2.out
      go_wp2_with fail
      refine HHv.out.mono ?_
      rintro e w3 ⟨a, b, k, ma, mb, rfl, hH, hNa, hNb, L23⟩
      clear n0 n1 n2 n3 nlt
      have LA : Later w3 ((w3.alloc (.cells #[.bool a.leaf, .slice ma.ka ma.kl ma.kc, .slice ma.ca ma.cl ma.cc, .slice ma.da ma.dl ma.dc] 26)).alloc (.cells #[.bool b.leaf, .slice mb.ka mb.kl mb.kc, .slice mb.ca mb.cl mb.cc, .slice mb.da mb.dl mb.dc] 26)) := ((Below.refl _ w3).alloc (Nat.le_refl _) _).alloc (by simp) _
      have HB3 : Hid (Below w.heap.size w w3) := HB2.out.trans (Below.mono L23 HB2.out.size)
      have HBb3 : Hid (Blk ((w3.alloc (.cells #[.bool a.leaf, .slice ma.ka ma.kl ma.kc, .slice ma.ca ma.cl ma.cc, .slice ma.da ma.dl ma.dc] 26)).alloc (.cells #[.bool b.leaf, .slice mb.ka mb.kl mb.kc, .slice mb.ca mb.cl mb.cc, .slice mb.da mb.dl mb.dc] 26)) (w3.heap.size + 1) 26 #[.bool b.leaf, .slice mb.ka mb.kl mb.kc, .slice mb.ca mb.cl mb.cc, .slice mb.da mb.dl mb.dc]) := by
        have h1 := Blk.new (w3.alloc (.cells #[.bool a.leaf, .slice ma.ka ma.kl ma.kc, .slice ma.ca ma.cl ma.cc, .slice ma.da ma.dl ma.dc] 26)) 26 #[.bool b.leaf, .slice mb.ka mb.kl mb.kc, .slice mb.ca mb.cl mb.cc, .slice mb.da mb.dl mb.dc]
        rw [show (w3.alloc (.cells #[.bool a.leaf, .slice ma.ka ma.kl ma.kc, .slice ma.ca ma.cl ma.cc, .slice ma.da ma.dl ma.dc] 26)).heap.size = w3.heap.size + 1 by simp] at h1
        exact h1
      have HP : Hid (PX w lf ⟨ka, kl, kc, ca, cl, cc, da, dl, dc⟩ n a b ma mb w3.heap.size ((w3.alloc (.cells #[.bool a.leaf, .slice ma.ka ma.kl ma.kc, .slice ma.ca ma.cl ma.cc, .slice ma.da ma.dl ma.dc] 26)).alloc (.cells #[.bool b.leaf, .slice mb.ka mb.kl mb.kc, .slice mb.ca mb.cl mb.cc, .slice mb.da mb.dl mb.dc] 26))) :=
        ⟨(HBk2.out.bel L23 HBk2.out.lt).bel LA (HBk2.out.bel L23 HBk2.out.lt).lt, (Blk.new w3 26 #[.bool a.leaf, .slice ma.ka ma.kl ma.kc, .slice ma.ca ma.cl ma.cc, .slice ma.da ma.dl ma.dc]).alloc (.cells #[.bool b.leaf, .slice mb.ka mb.kl mb.kc, .slice mb.ca mb.cl mb.cc, .slice mb.da mb.dl mb.dc] 26), HBb3.out, (HAn2.out.later L23).later LA, hNa.later LA, hNb.later LA, HB3.out.trans (Below.mono LA HB3.out.size)⟩
      have HH := Lib.hid hH
      have HKL : Hid (kl = n.keys.length) := HNA.out.hk
      have HCL : Hid (cl = n.cells.length) := HNA.out.hc
      have HDL : Hid (dl = n.kids.length) := HNA.out.hd
      clear hH hNa hNb L23 LA HHv HB3 HBb3 HBk2 HAn2 HBk1 HAn1 HB1 HB2 HBlk0 HBx HGr HIn
      go_upto_region 4 with (fail)
      obtain ⟨W3, hW3⟩ : ∃ W3, ((w3.alloc (.cells #[.bool a.leaf, .slice ma.ka ma.kl ma.kc, .slice ma.ca ma.cl ma.cc, .slice ma.da ma.dl ma.dc] 26)).alloc (.cells #[.bool b.leaf, .slice mb.ka mb.kl mb.kc, .slice mb.ca mb.cl mb.cc, .slice mb.da mb.dl mb.dc] 26)) = W3 := ⟨_, rfl⟩
      rw [hW3] at HP
      rw [hW3]
      clear hW3
      generalize w3.heap.size = ga at *
      have a0 : W3.cell? ⟨ga, 0, none⟩ = some (.bool a.leaf) := Blk.cell HP.out.a0 0
      have a1 : W3.cell? ⟨ga, 1, none⟩ = some (.slice ma.ka ma.kl ma.kc) := Blk.cell HP.out.a0 1
      have a2 : W3.cell? ⟨ga, 2, none⟩ = some (.slice ma.ca ma.cl ma.cc) := Blk.cell HP.out.a0 2
      have a3 : W3.cell? ⟨ga, 3, none⟩ = some (.slice ma.da ma.dl ma.dc) := Blk.cell HP.out.a0 3
      have alt : ga < W3.heap.size := Blk.lt HP.out.a0
      rcases HH.out with ⟨hno, rfl, rfl, rfl⟩ | ⟨_, hge, i, hsh, ha, hki, hb⟩
      · have hm0 : ma.kl = 0 := by have := HP.out.na.hk; simpa [zeroN] using this
        obtain ⟨mka, mkl, mkc, mca, mcl, mcc, mda, mdl, mdc⟩ := ma
        simp only at hm0
        subst hm0
        have hno2 : ¬ 2 + movedN n ≤ kl := by intro h; exact hno ⟨HOk.out, by rw [← HKL.out]; exact h⟩
        clear hno HH
        go_wp2_with fail
        clear a0 a1 a2 a3 alt
        refine (HAl.out _).mono ?_
        rintro e w4 ⟨rfl, hb4⟩
        replace HP := Lib.hid (HP.out.go hb4)
        clear hb4
        have n0 : w4.cell? ⟨w.heap.size, 0, none⟩ = some (.bool lf) := Blk.cell HP.out.n0 0
        have n1 : w4.cell? ⟨w.heap.size, 1, none⟩ = some (.slice ka kl kc) := Blk.cell HP.out.n0 1
        have n2 : w4.cell? ⟨w.heap.size, 2, none⟩ = some (.slice ca cl cc) := Blk.cell HP.out.n0 2
        have n3 : w4.cell? ⟨w.heap.size, 3, none⟩ = some (.slice da dl dc) := Blk.cell HP.out.n0 3
        have nlt : w.heap.size < w4.heap.size := Blk.lt HP.out.n0
        by_cases h2 : kl < 2
        · have q2 : decide ((kl : Int) < 2) = true := by simp; omega
          have q2n : decide (kl < 2) = true := by simpa using h2
          go_wp2
          go_ret
          exact ⟨rfl, HP.out.bel⟩
        · have q2 : decide ((kl : Int) < 2) = false := by simp; omega
          have q2n : decide (kl < 2) = false := by simpa using h2
          cases lf with
          | true => exact absurd (by rw [moved_leaf HLf.out]; omega) hno2
          | false =>
            rw [moved_inner HLf.out] at hno2
            have q3 : decide ((kl : Int) < 3) = true := by simp; omega
            have q3n : decide (kl < 3) = true := by simp; omega
            clear h2
            go_wp2
            go_ret
            exact ⟨rfl, HP.out.bel⟩
      · have hbd := hsh.bd
        have HHa : Hid (ma.kl = i) := by
          show _ = _
          have := HP.out.na.hk
          rw [this, ha, partN_keys2, List.length_take, List.drop_zero]
          omega
        have hi0 : ((ma.kl : Int) == 0) = false := by have := HHa.out; simp; omega
        have hi1 : (ma.kl == 0) = false := by have := HHa.out; simp; omega
        clear a0 a1 a2 a3 alt
        have hal : a.leaf = lf := by rw [ha, partN_leaf]; exact HLf.out
        have hbl : b.leaf = lf := by rw [hb, partN_leaf]; exact HLf.out
        have HAl2 := Lib.hid hal
        have HBl2 := Lib.hid hbl
        have HAok : Hid (a.ok = true) := Nd.ok_eq (b := true) ⟨fun _ => rfl, fun _ => by rw [ha]; exact partN_ok HOk.out (by omega) (by omega)⟩
        have hmv : movedN n ≤ 1 := by unfold movedN; split <;> omega
        have HBok : Hid (b.ok = true) := Nd.ok_eq (b := true) ⟨fun _ => rfl, fun _ => by rw [hb]; exact partN_ok HOk.out (by omega) (Nat.le_refl _)⟩
        have hwh := parts_whole HOk.out (i := i) (k := k) (by omega) hki
        rw [← ha, ← hb, HLf.out] at hwh
        have HWh := Lib.hid hwh
        have HSh := Lib.hid hsh
        have HKi := Lib.hid hki
        have HGe := Lib.hid hge
        have HA := Lib.hid ha
        have HB := Lib.hid hb
        have hi1 : 1 ≤ i := hbd.1
        have HI2 : Hid (i ≤ n.keys.length - 1 - movedN n) := hbd.2
        clear hal hbl hmv hwh hsh hki hge ha hb hbd HH
        have HRa := NRight_any a ma W3 HP.out.na
        rw [HAl2.out] at HRa
        have HRa := Lib.hid HRa
        have a0 : W3.cell? ⟨ga, 0, none⟩ = some (.bool lf) := by rw [← HAl2.out]; exact Blk.cell HP.out.a0 0
        have a1 : W3.cell? ⟨ga, 1, none⟩ = some (.slice ma.ka ma.kl ma.kc) := Blk.cell HP.out.a0 1
        have a2 : W3.cell? ⟨ga, 2, none⟩ = some (.slice ma.ca ma.cl ma.cc) := Blk.cell HP.out.a0 2
        have a3 : W3.cell? ⟨ga, 3, none⟩ = some (.slice ma.da ma.dl ma.dc) := Blk.cell HP.out.a0 3
        have alt : ga < W3.heap.size := Blk.lt HP.out.a0
        go_wp2_with fail
        clear a0 a1 a2 a3 alt
        clear hi0 hi1
        refine HRa.out.mono ?_
        rintro e w4 ⟨rfl, hb4⟩
        rw [HAok.out]
        replace HP := Lib.hid (HP.out.go hb4)
        clear hb4 HRa
        have HRb := NRight_any b mb w4 HP.out.nb
        rw [HBl2.out] at HRb
        have HRb := Lib.hid HRb
        have b0 : w4.cell? ⟨ga + 1, 0, none⟩ = some (.bool lf) := by rw [← HBl2.out]; exact Blk.cell HP.out.b0 0
        have b1 : w4.cell? ⟨ga + 1, 1, none⟩ = some (.slice mb.ka mb.kl mb.kc) := Blk.cell HP.out.b0 1
        have b2 : w4.cell? ⟨ga + 1, 2, none⟩ = some (.slice mb.ca mb.cl mb.cc) := Blk.cell HP.out.b0 2
        have b3 : w4.cell? ⟨ga + 1, 3, none⟩ = some (.slice mb.da mb.dl mb.dc) := Blk.cell HP.out.b0 3
        have blt : ga + 1 < w4.heap.size := Blk.lt HP.out.b0
        go_wp2_with fail
        clear b0 b1 b2 b3 blt
        refine HRb.out.mono ?_
        rintro e w5 ⟨rfl, hb5⟩
        rw [HBok.out]
        replace HP := Lib.hid (HP.out.go hb5)
        clear hb5 HRb
        have hmk : ma.kl + mb.kl ≤ 60 ∧ ma.cl + mb.cl = cl ∧ ma.dl + mb.dl = dl := by
          have h1 := HP.out.na.hk
          have h2 := HP.out.nb.hk
          have h3 := HP.out.na.hc
          have h4 := HP.out.nb.hc
          have h5 := HP.out.na.hd
          have h6 := HP.out.nb.hd
          have e1 := congrArg List.length HWh.out.1
          have e2 := congrArg List.length HWh.out.2.1
          have e3 := congrArg List.length HWh.out.2.2
          rw [List.length_append, List.length_append] at e1
          rw [List.length_append] at e2 e3
          have := HKL.out
          have := HCL.out
          have := HDL.out
          omega
        obtain ⟨hmk1, hmk2, hmk3⟩ := hmk
        have HAAl : Hid ((cellsS a.keys).length = ma.kl * 1) := by show _ = _; rw [cellsS_len, HP.out.na.hk]
        have HBAl : Hid ((cellsS b.keys).length = mb.kl * 1) := by show _ = _; rw [cellsS_len, HP.out.nb.hk]
        have a0 : w5.cell? ⟨ga, 0, none⟩ = some (.bool lf) := by rw [← HAl2.out]; exact Blk.cell HP.out.a0 0
        have a1 : w5.cell? ⟨ga, 1, none⟩ = some (.slice ma.ka ma.kl ma.kc) := Blk.cell HP.out.a0 1
        have a2 : w5.cell? ⟨ga, 2, none⟩ = some (.slice ma.ca ma.cl ma.cc) := Blk.cell HP.out.a0 2
        have a3 : w5.cell? ⟨ga, 3, none⟩ = some (.slice ma.da ma.dl ma.dc) := Blk.cell HP.out.a0 3
        have alt : ga < w5.heap.size := Blk.lt HP.out.a0
        go_upto_region 8 with (fail)
        cases lf with
        | true =>
          have HKs : Hid (a.keys ++ b.keys = n.keys ∧ ma.kl + mb.kl = kl) := by
            have h1 : a.keys ++ b.keys = n.keys := by have := HWh.out.1; simpa using this
            refine ⟨h1, ?_⟩
            have e1 := congrArg List.length h1
            rw [List.length_append] at e1
            have h2 := HP.out.na.hk
            have h3 := HP.out.nb.hk
            have := HKL.out
            omega
          go_wp2_with (first | (at_builtin; refine wpList_appS rfl (.tmp 55) (.tmp 57) 22 rfl w5.heap.size 9 iS (.string ⟨#[]⟩) 1 16 Try.underlying22 hiS hzS rfl hsS (by omega) hbS (by omega) (.slice (some ⟨w5.heap.size, 0, none⟩) 0 0) 0 [] _ (own_new0 w5 w5.heap.size 9 1 (Nat.le_refl _)) rfl _ ma.ka ma.kl ma.kc _ (HP.out.na.karr.later (N := 0) ((Below.refl w5.heap.size w5).alloc (Nat.le_refl _) (.cells #[] 9))) HAAl.out (one_S _) rfl (by omega) (by simp) ?_; intro v6 x6 h6 _ hb6; rw [Nat.zero_add, List.nil_append] at h6; obtain ⟨a6, c6, rfl, _, _, _⟩ := own_slice h6; have H6 := Lib.hid h6; have HB6 := Lib.hid (((Below.refl w5.heap.size w5).alloc (Nat.le_refl _) (.cells #[] 9)).trans hb6); have n0 : x6.cell? ⟨w.heap.size, 0, none⟩ = some (.bool true) := Blk.cell (HP.out.go HB6.out).n0 0; have b1 : x6.cell? ⟨ga + 1, 1, none⟩ = some (.slice mb.ka mb.kl mb.kc) := Blk.cell (HP.out.go HB6.out).b0 1; have blt : ga + 1 < x6.heap.size := Blk.lt (HP.out.go HB6.out).b0; have nlt : w.heap.size < x6.heap.size := Blk.lt (HP.out.go HB6.out).n0; have hs6 := HB6.out.size; clear h6 hb6) | (at_builtin; refine wpList_appS rfl (.tmp 66) (.tmp 68) 22 rfl w5.heap.size 9 iS (.string ⟨#[]⟩) 1 16 Try.underlying22 hiS hzS rfl hsS (by omega) hbS (by omega) (.slice a6 ma.kl c6) ma.kl _ x6 H6.out rfl _ mb.ka mb.kl mb.kc _ (HP.out.nb.karr.later (N := 0) HB6.out) HBAl.out (one_S _) rfl (by omega) hs6 ?_; intro v9 x9 h9 _ hb9; rw [← cellsS_app, HKs.out.1] at h9; rw [show ma.kl + mb.kl = kl from HKs.out.2] at h9; obtain ⟨a9, c9, rfl, hc9, hm9, _⟩ := own_slice h9; have H9 := Lib.hid h9; have HB9 := Lib.hid (HB6.out.trans hb9); have hs9 := HB9.out.size; clear h9 hb9))
          have HPX := Lib.hid (HP.out.go HB9.out)
          have HACl : Hid ((cellsC a.cells).length = ma.cl * 3) := by show _ = _; rw [cellsC_len, HPX.out.na.hc]
          have HBCl : Hid ((cellsC b.cells).length = mb.cl * 3) := by show _ = _; rw [cellsC_len, HPX.out.nb.hc]
          have HADl : Hid ((cellsI a.kids).length = ma.dl * 1) := by show _ = _; rw [cellsI_len, HPX.out.na.hd]
          have HBDl : Hid ((cellsI b.kids).length = mb.dl * 1) := by show _ = _; rw [cellsI_len, HPX.out.nb.hd]
          have HKw : Hid (∀ W, Kp x9.heap.size (fun _ => True) x9.drew W → Below x9.heap.size x9 W) := fun W h => h.undrew.below (Nat.le_refl _)
          have n0 : ∀ W, Kp x9.heap.size (fun _ => True) x9.drew W → W.cell? ⟨w.heap.size, 0, none⟩ = some (.bool true) := fun W h => Blk.cell (HPX.out.go (HKw.out W h)).n0 0
          have a2 : ∀ W, Kp x9.heap.size (fun _ => True) x9.drew W → W.cell? ⟨ga, 2, none⟩ = some (.slice ma.ca ma.cl ma.cc) := fun W h => Blk.cell (HPX.out.go (HKw.out W h)).a0 2
          have a3 : ∀ W, Kp x9.heap.size (fun _ => True) x9.drew W → W.cell? ⟨ga, 3, none⟩ = some (.slice ma.da ma.dl ma.dc) := fun W h => Blk.cell (HPX.out.go (HKw.out W h)).a0 3
          have b2 : ∀ W, Kp x9.heap.size (fun _ => True) x9.drew W → W.cell? ⟨ga + 1, 2, none⟩ = some (.slice mb.ca mb.cl mb.cc) := fun W h => Blk.cell (HPX.out.go (HKw.out W h)).b0 2
          have b3 : ∀ W, Kp x9.heap.size (fun _ => True) x9.drew W → W.cell? ⟨ga + 1, 3, none⟩ = some (.slice mb.da mb.dl mb.dc) := fun W h => Blk.cell (HPX.out.go (HKw.out W h)).b0 3
          refine wp_region_main x9.heap.size 200 [.f 0, .f 1, .f 2, .f 4, .f 5, .f 7, .f 8, .f 11, .f 12, .f 14, .f 15, .s [10], .s [18], .c 3, .c 6, .c 9, .w, .c 13, .c 16, .f 17, .w, .c 19] (by kernel_rfl) (by kernel_rfl) (by kernel_rfl) (by kernel_rfl) ?_
          repeat (first | ((refine wpM_F rfl (by rfl) (fun w' hL => exec_load rfl rfl (n0 w' hL)) ?_); try simp only [Act.put, List.setIfInBounds_toArray, List.set_cons_zero, List.set_cons_succ]) | ((refine wpM_F rfl (by rfl) (fun w' hL => exec_load rfl rfl (a2 w' hL)) ?_); try simp only [Act.put, List.setIfInBounds_toArray, List.set_cons_zero, List.set_cons_succ]) | ((refine wpM_F rfl (by rfl) (fun w' hL => exec_load rfl rfl (a3 w' hL)) ?_); try simp only [Act.put, List.setIfInBounds_toArray, List.set_cons_zero, List.set_cons_succ]) | ((refine wpM_F rfl (by rfl) (fun w' hL => exec_load rfl rfl (b2 w' hL)) ?_); try simp only [Act.put, List.setIfInBounds_toArray, List.set_cons_zero, List.set_cons_succ]) | ((refine wpM_F rfl (by rfl) (fun w' hL => exec_load rfl rfl (b3 w' hL)) ?_); try simp only [Act.put, List.setIfInBounds_toArray, List.set_cons_zero, List.set_cons_succ]) | (refine wpM_F (v := ?_) rfl (by rfl) (fun w' hL => ?_) ?_; rotate_left; (solve | (go_simp; with_reducible rfl) | go_simp); try simp only [Act.put, List.setIfInBounds_toArray, List.set_cons_zero, List.set_cons_succ]) | (refine wpM_G rfl (by rfl) ?_; try simp only [Act.put, List.setIfInBounds_toArray, List.set_cons_zero, List.set_cons_succ]))
          clear n0 a2 a3 b2 b3
          refine wpM_S (fun l W => ∃ g, l = [(some 80, .slice (some ⟨g, 0, none⟩) 0 0)] ∧ W.ownsRow x9.heap.size 3 1 (.slice (some ⟨g, 0, none⟩) 0 0) 0 []) (floatT x9.heap.size 3) (floatT_ok _ _) (fun _ _ h => h) (fun _ h => by cases h) ?_
          intro x0 hR0
          have hz0 : x9.heap.size ≤ x0.heap.size := hR0.size
          refine ⟨?_, ?_⟩
          · refine rob_C rfl (by rfl) ?_
            intro x1 hR1 K HK
            have hz1 : x9.heap.size ≤ x1.heap.size := Nat.le_trans hz0 (Kp.size hR1)
            simp only [puts, List.nil_append, List.cons_append, List.foldl_cons, List.foldl_nil, Act.put, List.setIfInBounds_toArray, List.set_cons_zero, List.set_cons_succ]
            have HO1 := Lib.hid (own_new0 x1 x9.heap.size 3 1 hz1)
            clear hR1
            go_simp
            refine HK.out (.slice (some ⟨x1.heap.size, 0, none⟩) 0 0) _ _ (by simp only [puts, List.nil_append, List.cons_append, List.foldl_cons, List.foldl_nil, Act.put, List.setIfInBounds_toArray, List.set_cons_zero, List.set_cons_succ]) (Kp.of_below ((Below.refl _ _).alloc (Nat.le_refl _) _)) ?_
            refine rob_nil ?_
            intro x8 hR8
            exact ⟨x1.heap.size, rfl, own_kpn HO1.out hR8⟩
          refine wpM_S (fun l W => ∃ g, l = [(some 9, .pointer (some ⟨g, 0, none⟩))] ∧ Blk W g 26 #[.bool false, .slice none 0 0, .slice none 0 0, .slice none 0 0] ∧ x9.heap.size ≤ g) (floatT x9.heap.size 26) (floatT_ok _ _) (fun _ _ h => h) (fun d hd => by simp only [List.nil_append, List.mem_singleton] at hd; subst hd; exact floatT_with _ _ _) ?_
          intro y0 hR0b
          have HXY := Lib.hid (HKw.out _ ((hR0.trans hR0b).mono fun _ h => h.elim))
          have hzy : x9.heap.size ≤ y0.heap.size := HXY.out.size
          clear hR0 hR0b hz0
          refine ⟨?_, ?_⟩
          · refine rob_C rfl (by rfl) ?_
            intro x1 hR1 K HK
            have hz1 : x9.heap.size ≤ x1.heap.size := Nat.le_trans hzy (Kp.size hR1)
            simp only [puts, List.nil_append, List.cons_append, List.foldl_cons, List.foldl_nil, Act.put, List.setIfInBounds_toArray, List.set_cons_zero, List.set_cons_succ]
            have HG1 := Lib.hid (Blk.new x1 26 #[.bool false, .slice none 0 0, .slice none 0 0, .slice none 0 0])
            clear hR1
            go_simp
            refine HK.out (.pointer (some ⟨x1.heap.size, 0, none⟩)) _ _ (by simp only [puts, List.nil_append, List.cons_append, List.foldl_cons, List.foldl_nil, Act.put, List.setIfInBounds_toArray, List.set_cons_zero, List.set_cons_succ]) (Kp.of_below ((Below.refl _ _).alloc (Nat.le_refl _) _)) ?_
            refine rob_nil ?_
            intro x8 hR8
            exact ⟨x1.heap.size, rfl, HG1.out.kpn hR8, hz1⟩
          refine wpM_C rfl (by rfl) ?_
          intro y1 hR K HK
          replace HXY := Lib.hid (HXY.out.trans (Kp.below (N := x9.heap.size) hR hzy))
          replace hzy : x9.heap.size ≤ y1.heap.size := HXY.out.size
          have HC := Lib.hid (own_new0 y1 x9.heap.size 63 3 hzy)
          clear hR
          try simp only [puts, List.nil_append, List.cons_append, List.foldl_cons, List.foldl_nil, Act.put, List.setIfInBounds_toArray, List.set_cons_zero, List.set_cons_succ]
          go_simp
          refine HK.out (.slice (some ⟨y1.heap.size, 0, none⟩) 0 0) _ _ (by simp only [puts, List.nil_append, List.cons_append, List.foldl_cons, List.foldl_nil, Act.put, List.setIfInBounds_toArray, List.set_cons_zero, List.set_cons_succ]) (Kp.of_below ((Below.refl _ _).alloc (Nat.le_refl _) _)) (bg2 (Kp.of_below ((Below.refl _ _).alloc (Nat.le_refl _) _)) (Kp.of_below ((Below.refl _ _).alloc (Nat.le_refl _) _))) ?_
          replace HXY := Lib.hid (HXY.out.alloc hzy (.cells #[] 63))
          clear HK
          refine wpM_C rfl (by rfl) ?_
          intro y2 hR K HK
          replace HC := Lib.hid (own_kp0 HC.out hR)
          replace HXY := Lib.hid (HXY.out.trans (Kp.below (N := x9.heap.size) hR HXY.out.size))
          replace hzy : x9.heap.size ≤ y2.heap.size := HXY.out.size
          clear hR
          try simp only [puts, List.nil_append, List.cons_append, List.foldl_cons, List.foldl_nil, Act.put, List.setIfInBounds_toArray, List.set_cons_zero, List.set_cons_succ]
          refine wp_appS (.tmp 73) (.tmp 75) 23 rfl x9.heap.size 63 iC (.agg #[.int .i64 0, .string ⟨#[]⟩, .int .i64 0]) 3 32 Try.underlying23 hiC hzC rfl hsC (by omega) hbC (by omega) (.slice (some ⟨y1.heap.size, 0, none⟩) 0 0) 0 [] y2 HC.out rfl _ ma.ca ma.cl ma.cc _ (HPX.out.go HXY.out).na.carr HACl.out (one_C _) rfl (by omega) hzy ?_
          intro v6 y3 h6 hc6 hb6
          rw [Nat.zero_add, List.nil_append] at h6
          refine HK.out v6 y3 _ (by simp only [puts, List.nil_append, List.cons_append, List.foldl_cons, List.foldl_nil, Act.put, List.setIfInBounds_toArray, List.set_cons_zero, List.set_cons_succ]) (Kp.of_chg hc6 fun q hq => ⟨(own_isT HC.out hq).1, trivial⟩) (bg2 (floatT_R (Kp.of_chg hc6 fun q hq => own_isT HC.out hq) (by decide)) (floatT_R (Kp.of_chg hc6 fun q hq => own_isT HC.out hq) (by decide))) ?_
          replace HC := Lib.hid h6
          replace HXY := Lib.hid (HXY.out.trans hb6)
          clear h6 hc6 hb6 HK
          refine wpM_C rfl (by rfl) ?_
          intro y4 hR K HK
          replace HC := Lib.hid (own_kp0 HC.out hR)
          replace HXY := Lib.hid (HXY.out.trans (Kp.below (N := x9.heap.size) hR HXY.out.size))
          replace hzy : x9.heap.size ≤ y4.heap.size := HXY.out.size
          clear hR
          try simp only [puts, List.nil_append, List.cons_append, List.foldl_cons, List.foldl_nil, Act.put, List.setIfInBounds_toArray, List.set_cons_zero, List.set_cons_succ]
          refine wp_appS (.tmp 76) (.tmp 78) 23 rfl x9.heap.size 63 iC (.agg #[.int .i64 0, .string ⟨#[]⟩, .int .i64 0]) 3 32 Try.underlying23 hiC hzC rfl hsC (by omega) hbC (by omega) v6 ma.cl _ y4 HC.out rfl _ mb.ca mb.cl mb.cc _ (HPX.out.go HXY.out).nb.carr HBCl.out (one_C _) rfl (by omega) hzy ?_
          intro v7 y5 h7 hc7 hb7
          rw [← cellsC_app, HWh.out.2.1, show ma.cl + mb.cl = cl from hmk2] at h7
          obtain ⟨a79, c79, rfl, _, _, _⟩ := own_slice h7
          refine HK.out (.slice a79 cl c79) y5 _ (by simp only [puts, List.nil_append, List.cons_append, List.foldl_cons, List.foldl_nil, Act.put, List.setIfInBounds_toArray, List.set_cons_zero, List.set_cons_succ]) (Kp.of_chg hc7 fun q hq => ⟨(own_isT HC.out hq).1, trivial⟩) (bg2 (floatT_R (Kp.of_chg hc7 fun q hq => own_isT HC.out hq) (by decide)) (floatT_R (Kp.of_chg hc7 fun q hq => own_isT HC.out hq) (by decide))) ?_
          replace HC := Lib.hid h7
          replace HXY := Lib.hid (HXY.out.trans hb7)
          clear h7 hc7 hb7 HK
          refine wpM_W ?_
          intro y6 l hR hE
          obtain ⟨g80, rfl, hI⟩ := hE
          have HI := Lib.hid hI
          replace HC := Lib.hid (own_kp0 HC.out hR)
          replace HXY := Lib.hid (HXY.out.trans (Kp.below (N := x9.heap.size) hR HXY.out.size))
          clear hI hR
          simp only [puts, List.nil_append, List.cons_append, List.foldl_cons, List.foldl_nil, Act.put, List.setIfInBounds_toArray, List.set_cons_zero, List.set_cons_succ]
          refine wpM_C rfl (by rfl) ?_
          intro y7 hR K HK
          replace HC := Lib.hid (own_kp0 HC.out hR)
          replace HXY := Lib.hid (HXY.out.trans (Kp.below (N := x9.heap.size) hR HXY.out.size))
          replace hzy : x9.heap.size ≤ y7.heap.size := HXY.out.size
          replace HI := Lib.hid (own_kp0 HI.out hR)
          clear hR
          try simp only [puts, List.nil_append, List.cons_append, List.foldl_cons, List.foldl_nil, Act.put, List.setIfInBounds_toArray, List.set_cons_zero, List.set_cons_succ]
          refine wp_appS (.tmp 80) (.tmp 82) 24 rfl x9.heap.size 3 iI (.int .i64 0) 1 8 Try.underlying24 hiI hzI rfl hsI (by omega) hbI (by omega) (.slice (some ⟨g80, 0, none⟩) 0 0) 0 [] y7 HI.out rfl _ ma.da ma.dl ma.dc _ (HPX.out.go HXY.out).na.darr HADl.out (one_I _) rfl (by omega) hzy ?_
          intro v83 y8 h83 hc83 hb83
          rw [Nat.zero_add, List.nil_append] at h83
          refine HK.out v83 y8 _ (by simp only [puts, List.nil_append, List.cons_append, List.foldl_cons, List.foldl_nil, Act.put, List.setIfInBounds_toArray, List.set_cons_zero, List.set_cons_succ]) (Kp.of_chg hc83 fun q hq => ⟨(own_isT HI.out hq).1, trivial⟩) (bg1 (floatT_R (Kp.of_chg hc83 fun q hq => own_isT HI.out hq) (by decide))) ?_
          replace HC := Lib.hid (own_chg HC.out hc83 (fun g hg hm => own_apart HC.out HI.out (by decide) g hg (Option.mem_toList.1 hm)))
          replace HI := Lib.hid h83
          replace HXY := Lib.hid (HXY.out.trans hb83)
          clear h83 hc83 hb83 HK
          refine wpM_C rfl (by rfl) ?_
          intro y9 hR K HK
          replace HC := Lib.hid (own_kp0 HC.out hR)
          replace HXY := Lib.hid (HXY.out.trans (Kp.below (N := x9.heap.size) hR HXY.out.size))
          replace hzy : x9.heap.size ≤ y9.heap.size := HXY.out.size
          replace HI := Lib.hid (own_kp0 HI.out hR)
          clear hR
          try simp only [puts, List.nil_append, List.cons_append, List.foldl_cons, List.foldl_nil, Act.put, List.setIfInBounds_toArray, List.set_cons_zero, List.set_cons_succ]
          refine wp_appS (.tmp 83) (.tmp 85) 24 rfl x9.heap.size 3 iI (.int .i64 0) 1 8 Try.underlying24 hiI hzI rfl hsI (by omega) hbI (by omega) v83 ma.dl _ y9 HI.out rfl _ mb.da mb.dl mb.dc _ (HPX.out.go HXY.out).nb.darr HBDl.out (one_I _) rfl (by omega) hzy ?_
          intro v86 y10 h86 hc86 hb86
          rw [← cellsI_app, HWh.out.2.2, show ma.dl + mb.dl = dl from hmk3] at h86
          obtain ⟨a86, c86, rfl, hc86l, hc86m, _⟩ := own_slice h86
          refine HK.out (.slice a86 dl c86) y10 _ (by simp only [puts, List.nil_append, List.cons_append, List.foldl_cons, List.foldl_nil, Act.put, List.setIfInBounds_toArray, List.set_cons_zero, List.set_cons_succ]) (Kp.of_chg hc86 fun q hq => ⟨(own_isT HI.out hq).1, trivial⟩) (bg1 (floatT_R (Kp.of_chg hc86 fun q hq => own_isT HI.out hq) (by decide))) ?_
          replace HC := Lib.hid (own_chg HC.out hc86 (fun g hg hm => own_apart HC.out HI.out (by decide) g hg (Option.mem_toList.1 hm)))
          replace HI := Lib.hid h86
          replace HXY := Lib.hid (HXY.out.trans hb86)
          clear h86 hc86 hb86 HK
          repeat (first | (refine wpM_F (v := ?_) rfl (by rfl) (fun w' hL => ?_) ?_; rotate_left; (solve | (go_simp; with_reducible rfl) | go_simp); try simp only [Act.put, List.setIfInBounds_toArray, List.set_cons_zero, List.set_cons_succ]) | (refine wpM_G rfl (by rfl) ?_; try simp only [Act.put, List.setIfInBounds_toArray, List.set_cons_zero, List.set_cons_succ]))
          refine wpM_W ?_
          intro y11 l hR hE
          obtain ⟨gw, rfl, hG, hgN⟩ := hE
          have HG := Lib.hid hG
          replace HC := Lib.hid (own_kp0 HC.out hR)
          replace HI := Lib.hid (own_kp0 HI.out hR)
          replace HXY := Lib.hid (HXY.out.trans (Kp.below (N := x9.heap.size) hR HXY.out.size))
          clear hG hR
          simp only [puts, List.nil_append, List.cons_append, List.foldl_cons, List.foldl_nil, Act.put, List.setIfInBounds_toArray, List.set_cons_zero, List.set_cons_succ]
          refine wpM_C rfl (by rfl) ?_
          intro y2 hR K HK
          replace HC := Lib.hid (own_kp0 HC.out hR)
          replace HXY := Lib.hid (HXY.out.trans (Kp.below (N := x9.heap.size) hR HXY.out.size))
          replace hzy : x9.heap.size ≤ y2.heap.size := HXY.out.size
          replace HI := Lib.hid (own_kp0 HI.out hR)
          replace HG := Lib.hid (HG.out.kp0 hR)
          clear hR
          try simp only [puts, List.nil_append, List.cons_append, List.foldl_cons, List.foldl_nil, Act.put, List.setIfInBounds_toArray, List.set_cons_zero, List.set_cons_succ]
          have g0 : (y2.cell? ⟨gw, 0, none⟩) = some (.bool false) := HG.out.cell 0
          have gf0 : y2.frozen? ⟨gw, 0, none⟩ = false := HG.out.frozen 0
          have g1 : (y2.cell? ⟨gw, 1, none⟩) = some (.slice none 0 0) := HG.out.cell 1
          have gf1 : y2.frozen? ⟨gw, 1, none⟩ = false := HG.out.frozen 1
          have g2 : (y2.cell? ⟨gw, 2, none⟩) = some (.slice none 0 0) := HG.out.cell 2
          have gf2 : y2.frozen? ⟨gw, 2, none⟩ = false := HG.out.frozen 2
          have g3 : (y2.cell? ⟨gw, 3, none⟩) = some (.slice none 0 0) := HG.out.cell 3
          have gf3 : y2.frozen? ⟨gw, 3, none⟩ = false := HG.out.frozen 3
          have glt := HG.out.lt
          have hzc : Chg [gw] y2 ((((y2.setCell ⟨gw, 0, none⟩ (.bool true)).setCell ⟨gw, 1, none⟩ (.slice a9 kl c9)).setCell ⟨gw, 2, none⟩ (.slice a79 cl c79)).setCell ⟨gw, 3, none⟩ (.slice a86 dl c86)) := set4_chg (by simp) _ _ _ _
          have HXZ : Hid (Below x9.heap.size x9 ((((y2.setCell ⟨gw, 0, none⟩ (.bool true)).setCell ⟨gw, 1, none⟩ (.slice a9 kl c9)).setCell ⟨gw, 2, none⟩ (.slice a79 cl c79)).setCell ⟨gw, 3, none⟩ (.slice a86 dl c86))) := HXY.out.trans (hzc.below HXY.out.size (by simpa using hgN))
          have HGZ : Hid (Blk ((((y2.setCell ⟨gw, 0, none⟩ (.bool true)).setCell ⟨gw, 1, none⟩ (.slice a9 kl c9)).setCell ⟨gw, 2, none⟩ (.slice a79 cl c79)).setCell ⟨gw, 3, none⟩ (.slice a86 dl c86)) gw 26 #[.bool true, .slice a9 kl c9, .slice a79 cl c79, .slice a86 dl c86]) := Blk.st4 HG.out _ _ _ _
          have HWZ : Hid (NAt ((((y2.setCell ⟨gw, 0, none⟩ (.bool true)).setCell ⟨gw, 1, none⟩ (.slice a9 kl c9)).setCell ⟨gw, 2, none⟩ (.slice a79 cl c79)).setCell ⟨gw, 3, none⟩ (.slice a86 dl c86)) n ⟨a9, kl, c9, a79, cl, c79, a86, dl, c86⟩) := by
            have hk := own_chg (own_below H9.out (Nat.le_refl _) HXY.out) hzc (fun g hg hm => own_ne (own_below H9.out (Nat.le_refl _) HXY.out) HG.out (by decide) (by simp at hm; rw [hg, hm]))
            have hc := own_chg HC.out hzc (fun g hg hm => own_ne HC.out HG.out (by decide) (by simp at hm; rw [hg, hm]))
            have hd := own_chg HI.out hzc (fun g hg hm => own_ne HI.out HG.out (by decide) (by simp at hm; rw [hg, hm]))
            obtain ⟨_, _, e1, k1, k2, k3⟩ := own_slice hk
            obtain ⟨_, _, e2, c1, c2, c3⟩ := own_slice hc
            obtain ⟨_, _, e3, d1, d2, d3⟩ := own_slice hd
            simp only [Value.slice.injEq, true_and] at e1 e2 e3
            obtain ⟨rfl, rfl⟩ := e1
            obtain ⟨rfl, rfl⟩ := e2
            obtain ⟨rfl, rfl⟩ := e3
            exact ⟨HKL.out, HCL.out, HDL.out, k1, c1, d1, by simp only; omega, by simp only; omega, by simp only; omega, k3, c3, d3, HPX.out.nn.kfair, HPX.out.nn.cfair, HPX.out.nn.dfair⟩
          clear hzc
          go_simp
          refine HK.out undef _ _ (by simp only [puts, List.nil_append, List.cons_append, List.foldl_cons, List.foldl_nil, Act.put, List.setIfInBounds_toArray, List.set_cons_zero, List.set_cons_succ]) (Kp.of_chg (set4_chg (S := [gw]) (by simp) _ _ _ _) (fun q hq => by simp only [List.mem_singleton] at hq; subst hq; exact ⟨hgN, trivial⟩)) bg0 ?_
          clear HK
          clear g0 gf0 g1 gf1 g2 gf2 g3 gf3 glt HC HI HG HXY H9 HKw hzy
          obtain ⟨Z0, hZ⟩ : ∃ Z, ((((y2.setCell ⟨gw, 0, none⟩ (.bool true)).setCell ⟨gw, 1, none⟩ (.slice a9 kl c9)).setCell ⟨gw, 2, none⟩ (.slice a79 cl c79)).setCell ⟨gw, 3, none⟩ (.slice a86 dl c86)) = Z := ⟨_, rfl⟩
          rw [hZ] at HXZ HGZ HWZ
          rw [hZ]
          clear hZ
          refine wpM_nil ?_
          intro Z hR
          have hbZ : Below x9.heap.size Z0 Z := Kp.below (N := x9.heap.size) hR HXZ.out.size
          have hbZ2 : Below Z0.heap.size Z0 Z := ⟨hR.os, hR.tape, hR.output, hR.size, fun k hk => by rcases hR.block k hk with h1 | ⟨_, h1⟩; exact h1; exact h1.elim⟩
          replace HP := Lib.hid (HPX.out.go (HXZ.out.trans hbZ))
          replace HGZ := Lib.hid (HGZ.out.kp0 hR)
          replace HWZ := Lib.hid (HWZ.out.later hbZ2)
          clear HPX HXZ HACl HBCl HADl HBDl hbZ hbZ2 hR
          have HSm := NSame_any n n ⟨a9, kl, c9, a79, cl, c79, a86, dl, c86⟩ ⟨ka, kl, kc, ca, cl, cc, da, dl, dc⟩ Z HWZ.out HP.out.nn
          rw [HLf.out, decide_eq_true (rfl : n = n)] at HSm
          have HSm := Lib.hid HSm
          have g0 : Z.cell? ⟨gw, 0, none⟩ = some (.bool true) := HGZ.out.cell 0
          have g1 : Z.cell? ⟨gw, 1, none⟩ = some (.slice a9 kl c9) := HGZ.out.cell 1
          have g2 : Z.cell? ⟨gw, 2, none⟩ = some (.slice a79 cl c79) := HGZ.out.cell 2
          have g3 : Z.cell? ⟨gw, 3, none⟩ = some (.slice a86 dl c86) := HGZ.out.cell 3
          have glt : gw < Z.heap.size := HGZ.out.lt
          have n0 : Z.cell? ⟨w.heap.size, 0, none⟩ = some (.bool true) := HP.out.n0.cell 0
          have n1 : Z.cell? ⟨w.heap.size, 1, none⟩ = some (.slice ka kl kc) := HP.out.n0.cell 1
          have n2 : Z.cell? ⟨w.heap.size, 2, none⟩ = some (.slice ca cl cc) := HP.out.n0.cell 2
          have n3 : Z.cell? ⟨w.heap.size, 3, none⟩ = some (.slice da dl dc) := HP.out.n0.cell 3
          have nlt : w.heap.size < Z.heap.size := HP.out.n0.lt
          go_wp2_with fail
          clear g0 g1 g2 g3 glt n0 n1 n2 n3 nlt
          refine HSm.out.mono ?_
          rintro e z1 ⟨rfl, hb⟩
          replace HP := Lib.hid (HP.out.go hb)
          clear hb HSm HWZ HGZ
          have hb0 : b.keys[0]? = some k := by
            rw [HB.out, partN_keys2, moved_leaf HLf.out, Nat.add_zero, List.getElem?_take, if_pos (by have := HI2.out; have := HKL.out; have := HGe.out; omega), List.getElem?_drop, Nat.add_zero]
            exact HKi.out
          obtain ⟨hb1, hb2⟩ := List.getElem?_eq_some_iff.1 hb0
          obtain ⟨bb, bo, hka, hbb, hs0⟩ := strAt HP.out.nb.karr hb1
          rw [hb2, Nat.add_zero] at hs0
          have hbk : 0 < mb.kl := by rw [HP.out.nb.hk]; exact hb1
          have b1 : z1.cell? ⟨ga + 1, 1, none⟩ = some (.slice (some ⟨bb, bo, none⟩) mb.kl mb.kc) := by rw [← hka]; exact HP.out.b0.cell 1
          have blt : ga + 1 < z1.heap.size := HP.out.b0.lt
          clear hb0 hb1 hb2 hka
          have n0 : z1.cell? ⟨w.heap.size, 0, none⟩ = some (.bool true) := HP.out.n0.cell 0
          have n1 : z1.cell? ⟨w.heap.size, 1, none⟩ = some (.slice ka kl kc) := HP.out.n0.cell 1
          have n2 : z1.cell? ⟨w.heap.size, 2, none⟩ = some (.slice ca cl cc) := HP.out.n0.cell 2
          have n3 : z1.cell? ⟨w.heap.size, 3, none⟩ = some (.slice da dl dc) := HP.out.n0.cell 3
          have nlt : w.heap.size < z1.heap.size := HP.out.n0.lt
          by_cases c1 : at_ < 0
          · have q1 : decide (at_ < 0) = true := by simpa using c1
            go_wp2_with fail
            refine (HAl.out _).mono ?_
            rintro e z2 ⟨rfl, hb⟩
            replace HP := Lib.hid (HP.out.go hb)
            go_wp2
            go_ret
            exact ⟨rfl, HP.out.bel⟩
          · have q1 : decide (at_ < 0) = false := by simpa using c1
            by_cases c2 : (kl : Int) ≤ at_
            · have q2 : decide ((kl : Int) ≤ at_) = true := by simpa using c2
              go_wp2_with fail
              refine (HAl.out _).mono ?_
              rintro e z2 ⟨rfl, hb⟩
              replace HP := Lib.hid (HP.out.go hb)
              go_wp2
              go_ret
              exact ⟨rfl, HP.out.bel⟩
            · have q2 : decide ((kl : Int) ≤ at_) = false := by simpa using c2
              obtain ⟨q, rfl⟩ : ∃ q : Nat, at_ = q := ⟨at_.toNat, by omega⟩
              have hq : q < kl := by omega
              have q2n : decide (kl ≤ q) = false := by simp; omega
              clear c1 c2
              go_wp2_with fail
              clear q1 q2 q2n n0 n1 n2 n3 nlt b1 blt hs0 hbb hbk
              have hclk : cl = kl := by have h1 := HOk.out.2; rw [HLf.out] at h1; simp only [if_true] at h1; rw [HCL.out, HKL.out, h1.1]
              have hkk := HP.out.nn.kcap
              have hck := HP.out.nn.ccap
              simp only at hkk hck
              obtain ⟨k1, hk1, hs1⟩ := HP.out.nn.karr.front 22 9 1 Try.underlying22 sizeOf_str kl kc q (by rw [cellsS_len, ← HKL.out]) (by omega) hkk
              obtain ⟨k2, hk2, hs2⟩ := HP.out.nn.karr.from 22 9 1 Try.underlying22 sizeOf_str kl kc (q + 1) (by rw [cellsS_len, ← HKL.out]) (by omega) hkk (by omega)
              obtain ⟨k3, hk3, hs3⟩ := HP.out.nn.carr.front 23 63 3 Try.underlying23 sizeOf_cell cl cc q (by rw [cellsC_len, ← HCL.out]) (by omega) hck
              obtain ⟨k4, hk4, hs4⟩ := HP.out.nn.carr.from 23 63 3 Try.underlying23 sizeOf_cell cl cc (q + 1) (by rw [cellsC_len, ← HCL.out]) (by omega) hck (by omega)
              have hwr : ((q + 1 : Nat) : Int) = IntKind.i64.wrap ((q : Int) + 1) := by rw [IntWalk.i64_in _ ⟨by omega, by omega⟩]; omega
              rw [hwr] at hs2 hs4
              clear hwr
              have hqc : q < cl := by omega
              have HClk := Lib.hid hclk
              clear hclk
              rw [show (cellsS n.keys).take (q * 1) = cellsS (n.keys.take q) from (cellsOf_take _ 1 (fun _ => rfl) _ _).symm] at hk1
              rw [show (cellsS n.keys).drop ((q + 1) * 1) = cellsS (n.keys.drop (q + 1)) from (cellsOf_drop _ 1 (fun _ => rfl) _ _).symm] at hk2
              rw [show (cellsC n.cells).take (q * 3) = cellsC (n.cells.take q) from (cellsOf_take _ 3 (fun _ => rfl) _ _).symm] at hk3
              rw [show (cellsC n.cells).drop ((q + 1) * 3) = cellsC (n.cells.drop (q + 1)) from (cellsOf_drop _ 3 (fun _ => rfl) _ _).symm] at hk4
              have HK1 := Lib.hid hk1
              have HK2 := Lib.hid hk2
              have HK3 := Lib.hid hk3
              have HK4 := Lib.hid hk4
              clear hk1 hk2 hk3 hk4 hkk hck
              have HL1 : Hid ((cellsS (n.keys.take q)).length = q * 1) := by show _ = _; rw [cellsS_len, List.length_take, ← HKL.out]; congr 1; omega
              have HL2 : Hid ((cellsS (n.keys.drop (q + 1))).length = (kl - (q + 1)) * 1) := by show _ = _; rw [cellsS_len, List.length_drop, ← HKL.out]
              have HL3 : Hid ((cellsC (n.cells.take q)).length = q * 3) := by show _ = _; rw [cellsC_len, List.length_take, ← HCL.out]; congr 1; omega
              have HL4 : Hid ((cellsC (n.cells.drop (q + 1))).length = (cl - (q + 1)) * 3) := by show _ = _; rw [cellsC_len, List.length_drop, ← HCL.out]
              have HKw : Hid (∀ W, Kp z1.heap.size (fun _ => True) z1.drew W → Below z1.heap.size z1 W) := fun W h => h.undrew.below (Nat.le_refl _)
              have n1 : ∀ W, Kp z1.heap.size (fun _ => True) z1.drew W → W.cell? ⟨w.heap.size, 1, none⟩ = some (.slice ka kl kc) := fun W h => Blk.cell (HP.out.go (HKw.out W h)).n0 1
              have n2 : ∀ W, Kp z1.heap.size (fun _ => True) z1.drew W → W.cell? ⟨w.heap.size, 2, none⟩ = some (.slice ca cl cc) := fun W h => Blk.cell (HP.out.go (HKw.out W h)).n0 2
              refine wp_region_main z1.heap.size 200 [.f 1, .f 2, .f 3, .f 4, .f 6, .f 7, .f 8, .f 9, .f 10, .f 13, .f 14, .f 15, .f 16, .f 18, .f 19, .f 20, .f 21, .f 22, .s [12], .s [25], .c 0, .c 5, .c 11, .w, .c 17, .c 23, .f 24, .w, .c 26] (by kernel_rfl) (by kernel_rfl) (by kernel_rfl) (by kernel_rfl) ?_
              repeat (first | ((refine wpM_F rfl (by rfl) (fun w' hL => exec_load rfl rfl (n1 w' hL)) ?_); try simp only [Act.put, List.setIfInBounds_toArray, List.set_cons_zero, List.set_cons_succ]) | ((refine wpM_F rfl (by rfl) (fun w' hL => exec_load rfl rfl (n2 w' hL)) ?_); try simp only [Act.put, List.setIfInBounds_toArray, List.set_cons_zero, List.set_cons_succ]) | (refine wpM_F (v := ?_) rfl (by rfl) (fun w' hL => ?_) ?_; rotate_left; (solve | (go_simp; with_reducible rfl) | go_simp); try simp only [Act.put, List.setIfInBounds_toArray, List.set_cons_zero, List.set_cons_succ]) | (refine wpM_G rfl (by rfl) ?_; try simp only [Act.put, List.setIfInBounds_toArray, List.set_cons_zero, List.set_cons_succ]))
              clear n1 n2 hs1 hs2 hs3 hs4
              generalize IntKind.i64.wrap ((q : Int) + 1) = qq at *
              refine wpM_S (fun l W => ∃ g, l = [(some 131, .slice (some ⟨g, 0, none⟩) 0 0)] ∧ W.ownsRow z1.heap.size 63 3 (.slice (some ⟨g, 0, none⟩) 0 0) 0 []) (floatT z1.heap.size 63) (floatT_ok _ _) (fun _ _ h => h) (fun _ h => by cases h) ?_
              intro x0 hR0
              have hz0 : z1.heap.size ≤ x0.heap.size := hR0.size
              refine ⟨?_, ?_⟩
              · refine rob_C rfl (by rfl) ?_
                intro x1 hR1 K HK
                have hz1 : z1.heap.size ≤ x1.heap.size := Nat.le_trans hz0 (Kp.size hR1)
                simp only [puts, List.nil_append, List.cons_append, List.foldl_cons, List.foldl_nil, Act.put, List.setIfInBounds_toArray, List.set_cons_zero, List.set_cons_succ]
                have HO1 := Lib.hid (own_new0 x1 z1.heap.size 63 3 hz1)
                clear hR1
                go_simp
                refine HK.out (.slice (some ⟨x1.heap.size, 0, none⟩) 0 0) _ _ (by simp only [puts, List.nil_append, List.cons_append, List.foldl_cons, List.foldl_nil, Act.put, List.setIfInBounds_toArray, List.set_cons_zero, List.set_cons_succ]) (Kp.of_below ((Below.refl _ _).alloc (Nat.le_refl _) _)) ?_
                refine rob_nil ?_
                intro x8 hR8
                exact ⟨x1.heap.size, rfl, own_kpn HO1.out hR8⟩
              refine wpM_S (fun l W => ∃ g, l = [(some 10, .pointer (some ⟨g, 0, none⟩))] ∧ Blk W g 26 #[.bool false, .slice none 0 0, .slice none 0 0, .slice none 0 0] ∧ z1.heap.size ≤ g) (floatT z1.heap.size 26) (floatT_ok _ _) (fun _ _ h => h) (fun d hd => by simp only [List.nil_append, List.mem_singleton] at hd; subst hd; exact floatT_with _ _ _) ?_
              intro y0 hR0b
              have HXY := Lib.hid (HKw.out _ ((hR0.trans hR0b).mono fun _ h => h.elim))
              have hzy : z1.heap.size ≤ y0.heap.size := HXY.out.size
              clear hR0 hR0b hz0
              refine ⟨?_, ?_⟩
              · refine rob_C rfl (by rfl) ?_
                intro x1 hR1 K HK
                have hz1 : z1.heap.size ≤ x1.heap.size := Nat.le_trans hzy (Kp.size hR1)
                simp only [puts, List.nil_append, List.cons_append, List.foldl_cons, List.foldl_nil, Act.put, List.setIfInBounds_toArray, List.set_cons_zero, List.set_cons_succ]
                have HG1 := Lib.hid (Blk.new x1 26 #[.bool false, .slice none 0 0, .slice none 0 0, .slice none 0 0])
                clear hR1
                go_simp
                refine HK.out (.pointer (some ⟨x1.heap.size, 0, none⟩)) _ _ (by simp only [puts, List.nil_append, List.cons_append, List.foldl_cons, List.foldl_nil, Act.put, List.setIfInBounds_toArray, List.set_cons_zero, List.set_cons_succ]) (Kp.of_below ((Below.refl _ _).alloc (Nat.le_refl _) _)) ?_
                refine rob_nil ?_
                intro x8 hR8
                exact ⟨x1.heap.size, rfl, HG1.out.kpn hR8, hz1⟩
              refine wpM_C rfl (by rfl) ?_
              intro y1 hR K HK
              replace HXY := Lib.hid (HXY.out.trans (Kp.below (N := z1.heap.size) hR hzy))
              replace hzy : z1.heap.size ≤ y1.heap.size := HXY.out.size
              have HS := Lib.hid (own_new0 y1 z1.heap.size 9 1 hzy)
              clear hR
              try simp only [puts, List.nil_append, List.cons_append, List.foldl_cons, List.foldl_nil, Act.put, List.setIfInBounds_toArray, List.set_cons_zero, List.set_cons_succ]
              go_simp
              refine HK.out (.slice (some ⟨y1.heap.size, 0, none⟩) 0 0) _ _ (by simp only [puts, List.nil_append, List.cons_append, List.foldl_cons, List.foldl_nil, Act.put, List.setIfInBounds_toArray, List.set_cons_zero, List.set_cons_succ]) (Kp.of_below ((Below.refl _ _).alloc (Nat.le_refl _) _)) (bg2 (Kp.of_below ((Below.refl _ _).alloc (Nat.le_refl _) _)) (Kp.of_below ((Below.refl _ _).alloc (Nat.le_refl _) _))) ?_
              replace HXY := Lib.hid (HXY.out.alloc hzy (.cells #[] 9))
              clear HK
              refine wpM_C rfl (by rfl) ?_
              intro y2 hR K HK
              replace HS := Lib.hid (own_kp0 HS.out hR)
              replace HXY := Lib.hid (HXY.out.trans (Kp.below (N := z1.heap.size) hR HXY.out.size))
              replace hzy : z1.heap.size ≤ y2.heap.size := HXY.out.size
              clear hR
              try simp only [puts, List.nil_append, List.cons_append, List.foldl_cons, List.foldl_nil, Act.put, List.setIfInBounds_toArray, List.set_cons_zero, List.set_cons_succ]
              refine wp_appS (.tmp 119) (.tmp 123) 22 rfl z1.heap.size 9 iS (.string ⟨#[]⟩) 1 16 Try.underlying22 hiS hzS rfl hsS (by omega) hbS (by omega) (.slice (some ⟨y1.heap.size, 0, none⟩) 0 0) 0 [] y2 HS.out rfl _ k1 q kc _ (HK1.out.below HXY.out) HL1.out (one_S _) rfl (by omega) hzy ?_
              intro v6 y3 h6 hc6 hb6
              rw [Nat.zero_add, List.nil_append] at h6
              refine HK.out v6 y3 _ (by simp only [puts, List.nil_append, List.cons_append, List.foldl_cons, List.foldl_nil, Act.put, List.setIfInBounds_toArray, List.set_cons_zero, List.set_cons_succ]) (Kp.of_chg hc6 fun q hq => ⟨(own_isT HS.out hq).1, trivial⟩) (bg2 (floatT_R (Kp.of_chg hc6 fun q hq => own_isT HS.out hq) (by decide)) (floatT_R (Kp.of_chg hc6 fun q hq => own_isT HS.out hq) (by decide))) ?_
              replace HS := Lib.hid h6
              replace HXY := Lib.hid (HXY.out.trans hb6)
              clear h6 hc6 hb6 HK
              refine wpM_C rfl (by rfl) ?_
              intro y4 hR K HK
              replace HS := Lib.hid (own_kp0 HS.out hR)
              replace HXY := Lib.hid (HXY.out.trans (Kp.below (N := z1.heap.size) hR HXY.out.size))
              replace hzy : z1.heap.size ≤ y4.heap.size := HXY.out.size
              clear hR
              try simp only [puts, List.nil_append, List.cons_append, List.foldl_cons, List.foldl_nil, Act.put, List.setIfInBounds_toArray, List.set_cons_zero, List.set_cons_succ]
              refine wp_appS (.tmp 124) (.tmp 129) 22 rfl z1.heap.size 9 iS (.string ⟨#[]⟩) 1 16 Try.underlying22 hiS hzS rfl hsS (by omega) hbS (by omega) v6 q _ y4 HS.out rfl _ k2 (kl - (q + 1)) (kc - (q + 1)) _ (HK2.out.below HXY.out) HL2.out (one_S _) rfl (by omega) hzy ?_
              intro v7 y5 h7 hc7 hb7
              rw [← cellsS_app] at h7
              obtain ⟨a79, c79, rfl, _, _, _⟩ := own_slice h7
              refine HK.out (.slice a79 (q + (kl - (q + 1))) c79) y5 _ (by simp only [puts, List.nil_append, List.cons_append, List.foldl_cons, List.foldl_nil, Act.put, List.setIfInBounds_toArray, List.set_cons_zero, List.set_cons_succ]) (Kp.of_chg hc7 fun q hq => ⟨(own_isT HS.out hq).1, trivial⟩) (bg2 (floatT_R (Kp.of_chg hc7 fun q hq => own_isT HS.out hq) (by decide)) (floatT_R (Kp.of_chg hc7 fun q hq => own_isT HS.out hq) (by decide))) ?_
              replace HS := Lib.hid h7
              replace HXY := Lib.hid (HXY.out.trans hb7)
              clear h7 hc7 hb7 HK
              refine wpM_W ?_
              intro y6 l hR hE
              obtain ⟨g80, rfl, hC⟩ := hE
              have HC := Lib.hid hC
              replace HS := Lib.hid (own_kp0 HS.out hR)
              replace HXY := Lib.hid (HXY.out.trans (Kp.below (N := z1.heap.size) hR HXY.out.size))
              clear hC hR
              simp only [puts, List.nil_append, List.cons_append, List.foldl_cons, List.foldl_nil, Act.put, List.setIfInBounds_toArray, List.set_cons_zero, List.set_cons_succ]
              refine wpM_C rfl (by rfl) ?_
              intro y7 hR K HK
              replace HS := Lib.hid (own_kp0 HS.out hR)
              replace HC := Lib.hid (own_kp0 HC.out hR)
              replace HXY := Lib.hid (HXY.out.trans (Kp.below (N := z1.heap.size) hR HXY.out.size))
              replace hzy : z1.heap.size ≤ y7.heap.size := HXY.out.size
              clear hR
              try simp only [puts, List.nil_append, List.cons_append, List.foldl_cons, List.foldl_nil, Act.put, List.setIfInBounds_toArray, List.set_cons_zero, List.set_cons_succ]
              refine wp_appS (.tmp 131) (.tmp 135) 23 rfl z1.heap.size 63 iC (.agg #[.int .i64 0, .string ⟨#[]⟩, .int .i64 0]) 3 32 Try.underlying23 hiC hzC rfl hsC (by omega) hbC (by omega) (.slice (some ⟨g80, 0, none⟩) 0 0) 0 [] y7 HC.out rfl _ k3 q cc _ (HK3.out.below HXY.out) HL3.out (one_C _) rfl (by omega) hzy ?_
              intro v83 y8 h83 hc83 hb83
              rw [Nat.zero_add, List.nil_append] at h83
              refine HK.out v83 y8 _ (by simp only [puts, List.nil_append, List.cons_append, List.foldl_cons, List.foldl_nil, Act.put, List.setIfInBounds_toArray, List.set_cons_zero, List.set_cons_succ]) (Kp.of_chg hc83 fun q hq => ⟨(own_isT HC.out hq).1, trivial⟩) (bg1 (floatT_R (Kp.of_chg hc83 fun q hq => own_isT HC.out hq) (by decide))) ?_
              replace HS := Lib.hid (own_chg HS.out hc83 (fun g hg hm => own_apart HS.out HC.out (by decide) g hg (Option.mem_toList.1 hm)))
              replace HC := Lib.hid h83
              replace HXY := Lib.hid (HXY.out.trans hb83)
              clear h83 hc83 hb83 HK
              refine wpM_C rfl (by rfl) ?_
              intro y9 hR K HK
              replace HS := Lib.hid (own_kp0 HS.out hR)
              replace HC := Lib.hid (own_kp0 HC.out hR)
              replace HXY := Lib.hid (HXY.out.trans (Kp.below (N := z1.heap.size) hR HXY.out.size))
              replace hzy : z1.heap.size ≤ y9.heap.size := HXY.out.size
              clear hR
              try simp only [puts, List.nil_append, List.cons_append, List.foldl_cons, List.foldl_nil, Act.put, List.setIfInBounds_toArray, List.set_cons_zero, List.set_cons_succ]
              refine wp_appS (.tmp 136) (.tmp 141) 23 rfl z1.heap.size 63 iC (.agg #[.int .i64 0, .string ⟨#[]⟩, .int .i64 0]) 3 32 Try.underlying23 hiC hzC rfl hsC (by omega) hbC (by omega) v83 q _ y9 HC.out rfl _ k4 (cl - (q + 1)) (cc - (q + 1)) _ (HK4.out.below HXY.out) HL4.out (one_C _) rfl (by omega) hzy ?_
              intro v86 y10 h86 hc86 hb86
              rw [← cellsC_app] at h86
              obtain ⟨a86, c86, rfl, hc86l, hc86m, _⟩ := own_slice h86
              refine HK.out (.slice a86 (q + (cl - (q + 1))) c86) y10 _ (by simp only [puts, List.nil_append, List.cons_append, List.foldl_cons, List.foldl_nil, Act.put, List.setIfInBounds_toArray, List.set_cons_zero, List.set_cons_succ]) (Kp.of_chg hc86 fun q hq => ⟨(own_isT HC.out hq).1, trivial⟩) (bg1 (floatT_R (Kp.of_chg hc86 fun q hq => own_isT HC.out hq) (by decide))) ?_
              replace HS := Lib.hid (own_chg HS.out hc86 (fun g hg hm => own_apart HS.out HC.out (by decide) g hg (Option.mem_toList.1 hm)))
              replace HC := Lib.hid h86
              replace HXY := Lib.hid (HXY.out.trans hb86)
              clear h86 hc86 hb86 HK
              repeat (first | (refine wpM_F (v := ?_) rfl (by rfl) (fun w' hL => ?_) ?_; rotate_left; (solve | (go_simp; with_reducible rfl) | go_simp); try simp only [Act.put, List.setIfInBounds_toArray, List.set_cons_zero, List.set_cons_succ]) | (refine wpM_G rfl (by rfl) ?_; try simp only [Act.put, List.setIfInBounds_toArray, List.set_cons_zero, List.set_cons_succ]))
              refine wpM_W ?_
              intro y11 l hR hE
              obtain ⟨gl, rfl, hG, hgN⟩ := hE
              have HG := Lib.hid hG
              replace HS := Lib.hid (own_kp0 HS.out hR)
              replace HC := Lib.hid (own_kp0 HC.out hR)
              replace HXY := Lib.hid (HXY.out.trans (Kp.below (N := z1.heap.size) hR HXY.out.size))
              clear hG hR
              simp only [puts, List.nil_append, List.cons_append, List.foldl_cons, List.foldl_nil, Act.put, List.setIfInBounds_toArray, List.set_cons_zero, List.set_cons_succ]
              refine wpM_C rfl (by rfl) ?_
              intro y12 hR K HK
              replace HS := Lib.hid (own_kp0 HS.out hR)
              replace HC := Lib.hid (own_kp0 HC.out hR)
              replace HXY := Lib.hid (HXY.out.trans (Kp.below (N := z1.heap.size) hR HXY.out.size))
              replace hzy : z1.heap.size ≤ y12.heap.size := HXY.out.size
              replace HG := Lib.hid (HG.out.kp0 hR)
              clear hR
              try simp only [puts, List.nil_append, List.cons_append, List.foldl_cons, List.foldl_nil, Act.put, List.setIfInBounds_toArray, List.set_cons_zero, List.set_cons_succ]
              have g0 : (y12.cell? ⟨gl, 0, none⟩) = some (.bool false) := HG.out.cell 0
              have gf0 : y12.frozen? ⟨gl, 0, none⟩ = false := HG.out.frozen 0
              have g1 : (y12.cell? ⟨gl, 1, none⟩) = some (.slice none 0 0) := HG.out.cell 1
              have gf1 : y12.frozen? ⟨gl, 1, none⟩ = false := HG.out.frozen 1
              have g2 : (y12.cell? ⟨gl, 2, none⟩) = some (.slice none 0 0) := HG.out.cell 2
              have gf2 : y12.frozen? ⟨gl, 2, none⟩ = false := HG.out.frozen 2
              have g3 : (y12.cell? ⟨gl, 3, none⟩) = some (.slice none 0 0) := HG.out.cell 3
              have gf3 : y12.frozen? ⟨gl, 3, none⟩ = false := HG.out.frozen 3
              have glt := HG.out.lt
              have hzc : Chg [gl] y12 ((((y12.setCell ⟨gl, 0, none⟩ (.bool true)).setCell ⟨gl, 1, none⟩ (.slice a79 (q + (kl - (q + 1))) c79)).setCell ⟨gl, 2, none⟩ (.slice a86 (q + (cl - (q + 1))) c86)).setCell ⟨gl, 3, none⟩ (.slice none 0 0)) := set4_chg (by simp) _ _ _ _
              have HXZ : Hid (Below z1.heap.size z1 ((((y12.setCell ⟨gl, 0, none⟩ (.bool true)).setCell ⟨gl, 1, none⟩ (.slice a79 (q + (kl - (q + 1))) c79)).setCell ⟨gl, 2, none⟩ (.slice a86 (q + (cl - (q + 1))) c86)).setCell ⟨gl, 3, none⟩ (.slice none 0 0))) := HXY.out.trans (hzc.below HXY.out.size (by simpa using hgN))
              have HGZ : Hid (Blk ((((y12.setCell ⟨gl, 0, none⟩ (.bool true)).setCell ⟨gl, 1, none⟩ (.slice a79 (q + (kl - (q + 1))) c79)).setCell ⟨gl, 2, none⟩ (.slice a86 (q + (cl - (q + 1))) c86)).setCell ⟨gl, 3, none⟩ (.slice none 0 0)) gl 26 #[.bool true, .slice a79 (q + (kl - (q + 1))) c79, .slice a86 (q + (cl - (q + 1))) c86, .slice none 0 0]) := Blk.st4 HG.out _ _ _ _
              have HWZ : Hid (NAt ((((y12.setCell ⟨gl, 0, none⟩ (.bool true)).setCell ⟨gl, 1, none⟩ (.slice a79 (q + (kl - (q + 1))) c79)).setCell ⟨gl, 2, none⟩ (.slice a86 (q + (cl - (q + 1))) c86)).setCell ⟨gl, 3, none⟩ (.slice none 0 0)) (lessN n q) ⟨a79, q + (kl - (q + 1)), c79, a86, q + (cl - (q + 1)), c86, none, 0, 0⟩) := by
                have hk := own_chg HS.out hzc (fun g hg hm => own_ne HS.out HG.out (by decide) (by simp at hm; rw [hg, hm]))
                have hc := own_chg HC.out hzc (fun g hg hm => own_ne HC.out HG.out (by decide) (by simp at hm; rw [hg, hm]))
                obtain ⟨_, _, e1, k1, k2, k3⟩ := own_slice hk
                obtain ⟨_, _, e2, c1, c2, c3⟩ := own_slice hc
                simp only [Value.slice.injEq, true_and] at e1 e2
                obtain ⟨rfl, rfl⟩ := e1
                obtain ⟨rfl, rfl⟩ := e2
                have hk0 := HKL.out
                have hc0 := HCL.out
                have hck0 := HClk.out
                refine ⟨?_, ?_, rfl, k1, c1, Nat.le_refl _, by simp only; omega, by simp only; omega, by simp only; omega, k3, c3, .inl rfl, fun x hx => HP.out.nn.kfair x ?_, fun x hx => HP.out.nn.cfair x ?_, fun x hx => by cases hx⟩
                · simp only [lessN, List.length_append, List.length_take, List.length_drop]; omega
                · simp only [lessN, List.length_append, List.length_take, List.length_drop]; omega
                · rcases List.mem_append.1 hx with h | h
                  · exact List.mem_of_mem_take h
                  · exact List.mem_of_mem_drop h
                · rcases List.mem_append.1 hx with h | h
                  · exact List.mem_of_mem_take h
                  · exact List.mem_of_mem_drop h
              clear hzc
              go_simp
              refine HK.out undef _ _ (by simp only [puts, List.nil_append, List.cons_append, List.foldl_cons, List.foldl_nil, Act.put, List.setIfInBounds_toArray, List.set_cons_zero, List.set_cons_succ]) (Kp.of_chg (set4_chg (S := [gl]) (by simp) _ _ _ _) (fun q hq => by simp only [List.mem_singleton] at hq; subst hq; exact ⟨hgN, trivial⟩)) bg0 ?_
              clear HK
              clear g0 gf0 g1 gf1 g2 gf2 g3 gf3 glt HC HS HG HXY HKw hzy HK1 HK2 HK3 HK4 HL1 HL2 HL3 HL4
              obtain ⟨Z0, hZ⟩ : ∃ Z, ((((y12.setCell ⟨gl, 0, none⟩ (.bool true)).setCell ⟨gl, 1, none⟩ (.slice a79 (q + (kl - (q + 1))) c79)).setCell ⟨gl, 2, none⟩ (.slice a86 (q + (cl - (q + 1))) c86)).setCell ⟨gl, 3, none⟩ (.slice none 0 0)) = Z := ⟨_, rfl⟩
              rw [hZ] at HXZ HGZ HWZ
              rw [hZ]
              clear hZ
              refine wpM_nil ?_
              intro Z2 hR
              have hbZ : Below z1.heap.size Z0 Z2 := Kp.below (N := z1.heap.size) hR HXZ.out.size
              have hbZ2 : Below Z0.heap.size Z0 Z2 := ⟨hR.os, hR.tape, hR.output, hR.size, fun k hk => by rcases hR.block k hk with h1 | ⟨_, h1⟩; exact h1; exact h1.elim⟩
              replace HP := Lib.hid (HP.out.go (HXZ.out.trans hbZ))
              replace HGZ := Lib.hid (HGZ.out.kp0 hR)
              replace HWZ := Lib.hid (HWZ.out.later hbZ2)
              clear HXZ hbZ hbZ2 hR
              have HLok : Hid ((lessN n q).ok = true) := Nd.ok_eq (b := true) ⟨fun _ => rfl, fun _ => lessN_ok HOk.out HLf.out q⟩
              have HLes : Hid ((encN (lessN n q).asR).length ≤ 512 → (encN a.asR).length ≤ 512 ∧ (encN b.asR).length ≤ 512) := by
                intro h
                rw [HA.out, HB.out, moved_leaf HLf.out, Nat.add_zero]
                have h1 := HGe.out
                have h2 := HSh.out
                rw [moved_leaf HLf.out] at h1 h2
                exact less_halves HOk.out HLf.out (by omega) (by simpa using h2) (by rw [← HKL.out]; exact hq) h
              go_wp2_with fail
              refine (HAl.out _).mono ?_
              rintro e v1 ⟨rfl, hb⟩
              replace HP := Lib.hid (HP.out.go hb)
              replace HGZ := Lib.hid (HGZ.out.bel hb HGZ.out.lt)
              replace HWZ := Lib.hid (HWZ.out.later hb)
              clear hb
              have g0 : v1.cell? ⟨gl, 0, none⟩ = some (.bool true) := HGZ.out.cell 0
              have g1 : v1.cell? ⟨gl, 1, none⟩ = some (.slice a79 (q + (kl - (q + 1))) c79) := HGZ.out.cell 1
              have g2 : v1.cell? ⟨gl, 2, none⟩ = some (.slice a86 (q + (cl - (q + 1))) c86) := HGZ.out.cell 2
              have g3 : v1.cell? ⟨gl, 3, none⟩ = some (.slice none 0 0) := HGZ.out.cell 3
              have glt : gl < v1.heap.size := HGZ.out.lt
              have HSz := NSize_any (lessN n q) ⟨a79, q + (kl - (q + 1)), c79, a86, q + (cl - (q + 1)), c86, none, 0, 0⟩ v1 HWZ.out (by simp only; omega)
              rw [HLok.out, if_pos rfl] at HSz
              rw [show (lessN n q).leaf = true from rfl] at HSz
              obtain ⟨SL, hSL⟩ : ∃ S, (encN (lessN n q).asR).length = S := ⟨_, rfl⟩
              rw [hSL] at HSz HLes
              have HSz := Lib.hid HSz
              clear hSL
              go_wp2_with fail
              clear g0 g1 g2 g3 glt
              refine HSz.out.mono ?_
              rintro e v2 ⟨rfl, hb⟩
              replace HP := Lib.hid (HP.out.go hb)
              clear hb HSz HWZ HGZ
              by_cases h5 : 512 < SL
              · have q5 : decide ((512 : Int) < (SL : Int)) = true := by simp; omega
                go_wp2
                go_ret
                exact ⟨rfl, HP.out.bel⟩
              · have q5 : decide ((512 : Int) < (SL : Int)) = false := by simp; omega
                obtain ⟨hsa, hsb⟩ := HLes.out (by omega)
                have HSa := NSize_any a ma v2 HP.out.na (by omega)
                rw [HAok.out, if_pos rfl, HAl2.out] at HSa
                obtain ⟨Sa, hSa⟩ : ∃ S, (encN a.asR).length = S := ⟨_, rfl⟩
                rw [hSa] at HSa hsa
                have HSa := Lib.hid HSa
                clear hSa
                have qa : decide ((Sa : Int) ≤ 512) = true := by simp; omega
                have a0 : v2.cell? ⟨ga, 0, none⟩ = some (.bool true) := by rw [← HAl2.out]; exact Blk.cell HP.out.a0 0
                have a1 : v2.cell? ⟨ga, 1, none⟩ = some (.slice ma.ka ma.kl ma.kc) := Blk.cell HP.out.a0 1
                have a2 : v2.cell? ⟨ga, 2, none⟩ = some (.slice ma.ca ma.cl ma.cc) := Blk.cell HP.out.a0 2
                have a3 : v2.cell? ⟨ga, 3, none⟩ = some (.slice ma.da ma.dl ma.dc) := Blk.cell HP.out.a0 3
                have alt : ga < v2.heap.size := Blk.lt HP.out.a0
                go_wp2_with fail
                clear a0 a1 a2 a3 alt
                refine HSa.out.mono ?_
                rintro e v3 ⟨rfl, hb⟩
                replace HP := Lib.hid (HP.out.go hb)
                clear hb HSa
                have HSb := NSize_any b mb v3 HP.out.nb (by omega)
                rw [HBok.out, if_pos rfl, HBl2.out] at HSb
                obtain ⟨Sb, hSb⟩ : ∃ S, (encN b.asR).length = S := ⟨_, rfl⟩
                rw [hSb] at HSb hsb
                have HSb := Lib.hid HSb
                clear hSb
                have qb : decide ((Sb : Int) ≤ 512) = true := by simp; omega
                have b0 : v3.cell? ⟨ga + 1, 0, none⟩ = some (.bool true) := by rw [← HBl2.out]; exact Blk.cell HP.out.b0 0
                have b1 : v3.cell? ⟨ga + 1, 1, none⟩ = some (.slice mb.ka mb.kl mb.kc) := Blk.cell HP.out.b0 1
                have b2 : v3.cell? ⟨ga + 1, 2, none⟩ = some (.slice mb.ca mb.cl mb.cc) := Blk.cell HP.out.b0 2
                have b3 : v3.cell? ⟨ga + 1, 3, none⟩ = some (.slice mb.da mb.dl mb.dc) := Blk.cell HP.out.b0 3
                have blt : ga + 1 < v3.heap.size := Blk.lt HP.out.b0
                go_wp2_with fail
                clear b0 b1 b2 b3 blt
                refine HSb.out.mono ?_
                rintro e v4 ⟨rfl, hb⟩
                replace HP := Lib.hid (HP.out.go hb)
                clear hb HSb
                go_wp2
                go_ret
                exact ⟨rfl, HP.out.bel⟩
        | false =>
          have HKs : Hid (a.keys ++ ([k] ++ b.keys) = n.keys ∧ ma.kl + 1 + mb.kl = kl) := by
            have h1 : a.keys ++ ([k] ++ b.keys) = n.keys := by have := HWh.out.1; simpa using this
            refine ⟨h1, ?_⟩
            have e1 := congrArg List.length h1
            rw [List.length_append, List.length_append, List.length_singleton] at e1
            have h2 := HP.out.na.hk
            have h3 := HP.out.nb.hk
            have := HKL.out
            omega
          go_wp2_with (first | (at_builtin; refine wpList_appS rfl (.tmp 55) (.tmp 57) 22 rfl w5.heap.size 9 iS (.string ⟨#[]⟩) 1 16 Try.underlying22 hiS hzS rfl hsS (by omega) hbS (by omega) (.slice (some ⟨w5.heap.size, 0, none⟩) 0 0) 0 [] _ (own_new0 w5 w5.heap.size 9 1 (Nat.le_refl _)) rfl _ ma.ka ma.kl ma.kc _ (HP.out.na.karr.later (N := 0) ((Below.refl w5.heap.size w5).alloc (Nat.le_refl _) (.cells #[] 9))) HAAl.out (one_S _) rfl (by omega) (by simp) ?_; intro v6 x6 h6 _ hb6; rw [Nat.zero_add, List.nil_append] at h6; obtain ⟨a6, c6, rfl, _, _, _⟩ := own_slice h6; have H6 := Lib.hid h6; have HB6 := Lib.hid (((Below.refl w5.heap.size w5).alloc (Nat.le_refl _) (.cells #[] 9)).trans hb6); have n0 : x6.cell? ⟨w.heap.size, 0, none⟩ = some (.bool false) := Blk.cell (HP.out.go HB6.out).n0 0; have b1 : x6.cell? ⟨ga + 1, 1, none⟩ = some (.slice mb.ka mb.kl mb.kc) := Blk.cell (HP.out.go HB6.out).b0 1; have blt : ga + 1 < x6.heap.size := Blk.lt (HP.out.go HB6.out).b0; have nlt : w.heap.size < x6.heap.size := Blk.lt (HP.out.go HB6.out).n0; have hs6 := HB6.out.size; clear h6 hb6) | (at_builtin; refine wpList_appN rfl (.tmp 62) (.tmp 64) 22 rfl w5.heap.size 9 iS (.string ⟨#[]⟩) 1 16 Try.underlying22 hiS hzS rfl hsS (by omega) hbS (by omega) (.slice a6 ma.kl c6) ma.kl _ [.string k] x6 H6.out rfl _ rfl rfl (by simp [Value.oneCell']) rfl (by omega) hs6 ?_; intro v7 x7 h7 hb7 _; obtain ⟨a7, c7, rfl, _, _, _⟩ := own_slice h7; have H7 := Lib.hid h7; have HB7 := Lib.hid (HB6.out.trans hb7); have b1 : x7.cell? ⟨ga + 1, 1, none⟩ = some (.slice mb.ka mb.kl mb.kc) := Blk.cell (HP.out.go HB7.out).b0 1; have blt : ga + 1 < x7.heap.size := Blk.lt (HP.out.go HB7.out).b0; have hs7 := HB7.out.size; clear h7 hb7) | (at_builtin; refine wpList_appS rfl (.tmp 66) (.tmp 68) 22 rfl w5.heap.size 9 iS (.string ⟨#[]⟩) 1 16 Try.underlying22 hiS hzS rfl hsS (by omega) hbS (by omega) (.slice a7 (ma.kl + 1) c7) (ma.kl + 1) _ x7 H7.out rfl _ mb.ka mb.kl mb.kc _ (HP.out.nb.karr.later (N := 0) HB7.out) HBAl.out (one_S _) rfl (by omega) hs7 ?_; intro v9 x9 h9 _ hb9; rw [show cellsS a.keys ++ [Value.string k] ++ cellsS b.keys = cellsS n.keys by rw [← HKs.out.1, cellsS_app, cellsS_app, List.append_assoc]; rfl] at h9; rw [show (ma.kl + 1) + mb.kl = kl from HKs.out.2] at h9; obtain ⟨a9, c9, rfl, hc9, hm9, _⟩ := own_slice h9; have H9 := Lib.hid h9; have HB9 := Lib.hid (HB7.out.trans hb9); have hs9 := HB9.out.size; clear h9 hb9))
          have HPX := Lib.hid (HP.out.go HB9.out)
          have HACl : Hid ((cellsC a.cells).length = ma.cl * 3) := by show _ = _; rw [cellsC_len, HPX.out.na.hc]
          have HBCl : Hid ((cellsC b.cells).length = mb.cl * 3) := by show _ = _; rw [cellsC_len, HPX.out.nb.hc]
          have HADl : Hid ((cellsI a.kids).length = ma.dl * 1) := by show _ = _; rw [cellsI_len, HPX.out.na.hd]
          have HBDl : Hid ((cellsI b.kids).length = mb.dl * 1) := by show _ = _; rw [cellsI_len, HPX.out.nb.hd]
          have HKw : Hid (∀ W, Kp x9.heap.size (fun _ => True) x9.drew W → Below x9.heap.size x9 W) := fun W h => h.undrew.below (Nat.le_refl _)
          have n0 : ∀ W, Kp x9.heap.size (fun _ => True) x9.drew W → W.cell? ⟨w.heap.size, 0, none⟩ = some (.bool false) := fun W h => Blk.cell (HPX.out.go (HKw.out W h)).n0 0
          have a2 : ∀ W, Kp x9.heap.size (fun _ => True) x9.drew W → W.cell? ⟨ga, 2, none⟩ = some (.slice ma.ca ma.cl ma.cc) := fun W h => Blk.cell (HPX.out.go (HKw.out W h)).a0 2
          have a3 : ∀ W, Kp x9.heap.size (fun _ => True) x9.drew W → W.cell? ⟨ga, 3, none⟩ = some (.slice ma.da ma.dl ma.dc) := fun W h => Blk.cell (HPX.out.go (HKw.out W h)).a0 3
          have b2 : ∀ W, Kp x9.heap.size (fun _ => True) x9.drew W → W.cell? ⟨ga + 1, 2, none⟩ = some (.slice mb.ca mb.cl mb.cc) := fun W h => Blk.cell (HPX.out.go (HKw.out W h)).b0 2
          have b3 : ∀ W, Kp x9.heap.size (fun _ => True) x9.drew W → W.cell? ⟨ga + 1, 3, none⟩ = some (.slice mb.da mb.dl mb.dc) := fun W h => Blk.cell (HPX.out.go (HKw.out W h)).b0 3
          refine wp_region_main x9.heap.size 200 [.f 0, .f 1, .f 2, .f 4, .f 5, .f 7, .f 8, .f 11, .f 12, .f 14, .f 15, .s [10], .s [18], .c 3, .c 6, .c 9, .w, .c 13, .c 16, .f 17, .w, .c 19] (by kernel_rfl) (by kernel_rfl) (by kernel_rfl) (by kernel_rfl) ?_
          repeat (first | ((refine wpM_F rfl (by rfl) (fun w' hL => exec_load rfl rfl (n0 w' hL)) ?_); try simp only [Act.put, List.setIfInBounds_toArray, List.set_cons_zero, List.set_cons_succ]) | ((refine wpM_F rfl (by rfl) (fun w' hL => exec_load rfl rfl (a2 w' hL)) ?_); try simp only [Act.put, List.setIfInBounds_toArray, List.set_cons_zero, List.set_cons_succ]) | ((refine wpM_F rfl (by rfl) (fun w' hL => exec_load rfl rfl (a3 w' hL)) ?_); try simp only [Act.put, List.setIfInBounds_toArray, List.set_cons_zero, List.set_cons_succ]) | ((refine wpM_F rfl (by rfl) (fun w' hL => exec_load rfl rfl (b2 w' hL)) ?_); try simp only [Act.put, List.setIfInBounds_toArray, List.set_cons_zero, List.set_cons_succ]) | ((refine wpM_F rfl (by rfl) (fun w' hL => exec_load rfl rfl (b3 w' hL)) ?_); try simp only [Act.put, List.setIfInBounds_toArray, List.set_cons_zero, List.set_cons_succ]) | (refine wpM_F (v := ?_) rfl (by rfl) (fun w' hL => ?_) ?_; rotate_left; (solve | (go_simp; with_reducible rfl) | go_simp); try simp only [Act.put, List.setIfInBounds_toArray, List.set_cons_zero, List.set_cons_succ]) | (refine wpM_G rfl (by rfl) ?_; try simp only [Act.put, List.setIfInBounds_toArray, List.set_cons_zero, List.set_cons_succ]))
          clear n0 a2 a3 b2 b3
          refine wpM_S (fun l W => ∃ g, l = [(some 80, .slice (some ⟨g, 0, none⟩) 0 0)] ∧ W.ownsRow x9.heap.size 3 1 (.slice (some ⟨g, 0, none⟩) 0 0) 0 []) (floatT x9.heap.size 3) (floatT_ok _ _) (fun _ _ h => h) (fun _ h => by cases h) ?_
          intro x0 hR0
          have hz0 : x9.heap.size ≤ x0.heap.size := hR0.size
          refine ⟨?_, ?_⟩
          · refine rob_C rfl (by rfl) ?_
            intro x1 hR1 K HK
            have hz1 : x9.heap.size ≤ x1.heap.size := Nat.le_trans hz0 (Kp.size hR1)
            simp only [puts, List.nil_append, List.cons_append, List.foldl_cons, List.foldl_nil, Act.put, List.setIfInBounds_toArray, List.set_cons_zero, List.set_cons_succ]
            have HO1 := Lib.hid (own_new0 x1 x9.heap.size 3 1 hz1)
            clear hR1
            go_simp
            refine HK.out (.slice (some ⟨x1.heap.size, 0, none⟩) 0 0) _ _ (by simp only [puts, List.nil_append, List.cons_append, List.foldl_cons, List.foldl_nil, Act.put, List.setIfInBounds_toArray, List.set_cons_zero, List.set_cons_succ]) (Kp.of_below ((Below.refl _ _).alloc (Nat.le_refl _) _)) ?_
            refine rob_nil ?_
            intro x8 hR8
            exact ⟨x1.heap.size, rfl, own_kpn HO1.out hR8⟩
          refine wpM_S (fun l W => ∃ g, l = [(some 9, .pointer (some ⟨g, 0, none⟩))] ∧ Blk W g 26 #[.bool false, .slice none 0 0, .slice none 0 0, .slice none 0 0] ∧ x9.heap.size ≤ g) (floatT x9.heap.size 26) (floatT_ok _ _) (fun _ _ h => h) (fun d hd => by simp only [List.nil_append, List.mem_singleton] at hd; subst hd; exact floatT_with _ _ _) ?_
          intro y0 hR0b
          have HXY := Lib.hid (HKw.out _ ((hR0.trans hR0b).mono fun _ h => h.elim))
          have hzy : x9.heap.size ≤ y0.heap.size := HXY.out.size
          clear hR0 hR0b hz0
          refine ⟨?_, ?_⟩
          · refine rob_C rfl (by rfl) ?_
            intro x1 hR1 K HK
            have hz1 : x9.heap.size ≤ x1.heap.size := Nat.le_trans hzy (Kp.size hR1)
            simp only [puts, List.nil_append, List.cons_append, List.foldl_cons, List.foldl_nil, Act.put, List.setIfInBounds_toArray, List.set_cons_zero, List.set_cons_succ]
            have HG1 := Lib.hid (Blk.new x1 26 #[.bool false, .slice none 0 0, .slice none 0 0, .slice none 0 0])
            clear hR1
            go_simp
            refine HK.out (.pointer (some ⟨x1.heap.size, 0, none⟩)) _ _ (by simp only [puts, List.nil_append, List.cons_append, List.foldl_cons, List.foldl_nil, Act.put, List.setIfInBounds_toArray, List.set_cons_zero, List.set_cons_succ]) (Kp.of_below ((Below.refl _ _).alloc (Nat.le_refl _) _)) ?_
            refine rob_nil ?_
            intro x8 hR8
            exact ⟨x1.heap.size, rfl, HG1.out.kpn hR8, hz1⟩
          refine wpM_C rfl (by rfl) ?_
          intro y1 hR K HK
          replace HXY := Lib.hid (HXY.out.trans (Kp.below (N := x9.heap.size) hR hzy))
          replace hzy : x9.heap.size ≤ y1.heap.size := HXY.out.size
          have HC := Lib.hid (own_new0 y1 x9.heap.size 63 3 hzy)
          clear hR
          try simp only [puts, List.nil_append, List.cons_append, List.foldl_cons, List.foldl_nil, Act.put, List.setIfInBounds_toArray, List.set_cons_zero, List.set_cons_succ]
          go_simp
          refine HK.out (.slice (some ⟨y1.heap.size, 0, none⟩) 0 0) _ _ (by simp only [puts, List.nil_append, List.cons_append, List.foldl_cons, List.foldl_nil, Act.put, List.setIfInBounds_toArray, List.set_cons_zero, List.set_cons_succ]) (Kp.of_below ((Below.refl _ _).alloc (Nat.le_refl _) _)) (bg2 (Kp.of_below ((Below.refl _ _).alloc (Nat.le_refl _) _)) (Kp.of_below ((Below.refl _ _).alloc (Nat.le_refl _) _))) ?_
          replace HXY := Lib.hid (HXY.out.alloc hzy (.cells #[] 63))
          clear HK
          refine wpM_C rfl (by rfl) ?_
          intro y2 hR K HK
          replace HC := Lib.hid (own_kp0 HC.out hR)
          replace HXY := Lib.hid (HXY.out.trans (Kp.below (N := x9.heap.size) hR HXY.out.size))
          replace hzy : x9.heap.size ≤ y2.heap.size := HXY.out.size
          clear hR
          try simp only [puts, List.nil_append, List.cons_append, List.foldl_cons, List.foldl_nil, Act.put, List.setIfInBounds_toArray, List.set_cons_zero, List.set_cons_succ]
          refine wp_appS (.tmp 73) (.tmp 75) 23 rfl x9.heap.size 63 iC (.agg #[.int .i64 0, .string ⟨#[]⟩, .int .i64 0]) 3 32 Try.underlying23 hiC hzC rfl hsC (by omega) hbC (by omega) (.slice (some ⟨y1.heap.size, 0, none⟩) 0 0) 0 [] y2 HC.out rfl _ ma.ca ma.cl ma.cc _ (HPX.out.go HXY.out).na.carr HACl.out (one_C _) rfl (by omega) hzy ?_
          intro v6 y3 h6 hc6 hb6
          rw [Nat.zero_add, List.nil_append] at h6
          refine HK.out v6 y3 _ (by simp only [puts, List.nil_append, List.cons_append, List.foldl_cons, List.foldl_nil, Act.put, List.setIfInBounds_toArray, List.set_cons_zero, List.set_cons_succ]) (Kp.of_chg hc6 fun q hq => ⟨(own_isT HC.out hq).1, trivial⟩) (bg2 (floatT_R (Kp.of_chg hc6 fun q hq => own_isT HC.out hq) (by decide)) (floatT_R (Kp.of_chg hc6 fun q hq => own_isT HC.out hq) (by decide))) ?_
          replace HC := Lib.hid h6
          replace HXY := Lib.hid (HXY.out.trans hb6)
          clear h6 hc6 hb6 HK
          refine wpM_C rfl (by rfl) ?_
          intro y4 hR K HK
          replace HC := Lib.hid (own_kp0 HC.out hR)
          replace HXY := Lib.hid (HXY.out.trans (Kp.below (N := x9.heap.size) hR HXY.out.size))
          replace hzy : x9.heap.size ≤ y4.heap.size := HXY.out.size
          clear hR
          try simp only [puts, List.nil_append, List.cons_append, List.foldl_cons, List.foldl_nil, Act.put, List.setIfInBounds_toArray, List.set_cons_zero, List.set_cons_succ]
          refine wp_appS (.tmp 76) (.tmp 78) 23 rfl x9.heap.size 63 iC (.agg #[.int .i64 0, .string ⟨#[]⟩, .int .i64 0]) 3 32 Try.underlying23 hiC hzC rfl hsC (by omega) hbC (by omega) v6 ma.cl _ y4 HC.out rfl _ mb.ca mb.cl mb.cc _ (HPX.out.go HXY.out).nb.carr HBCl.out (one_C _) rfl (by omega) hzy ?_
          intro v7 y5 h7 hc7 hb7
          rw [← cellsC_app, HWh.out.2.1, show ma.cl + mb.cl = cl from hmk2] at h7
          obtain ⟨a79, c79, rfl, _, _, _⟩ := own_slice h7
          refine HK.out (.slice a79 cl c79) y5 _ (by simp only [puts, List.nil_append, List.cons_append, List.foldl_cons, List.foldl_nil, Act.put, List.setIfInBounds_toArray, List.set_cons_zero, List.set_cons_succ]) (Kp.of_chg hc7 fun q hq => ⟨(own_isT HC.out hq).1, trivial⟩) (bg2 (floatT_R (Kp.of_chg hc7 fun q hq => own_isT HC.out hq) (by decide)) (floatT_R (Kp.of_chg hc7 fun q hq => own_isT HC.out hq) (by decide))) ?_
          replace HC := Lib.hid h7
          replace HXY := Lib.hid (HXY.out.trans hb7)
          clear h7 hc7 hb7 HK
          refine wpM_W ?_
          intro y6 l hR hE
          obtain ⟨g80, rfl, hI⟩ := hE
          have HI := Lib.hid hI
          replace HC := Lib.hid (own_kp0 HC.out hR)
          replace HXY := Lib.hid (HXY.out.trans (Kp.below (N := x9.heap.size) hR HXY.out.size))
          clear hI hR
          simp only [puts, List.nil_append, List.cons_append, List.foldl_cons, List.foldl_nil, Act.put, List.setIfInBounds_toArray, List.set_cons_zero, List.set_cons_succ]
          refine wpM_C rfl (by rfl) ?_
          intro y7 hR K HK
          replace HC := Lib.hid (own_kp0 HC.out hR)
          replace HXY := Lib.hid (HXY.out.trans (Kp.below (N := x9.heap.size) hR HXY.out.size))
          replace hzy : x9.heap.size ≤ y7.heap.size := HXY.out.size
          replace HI := Lib.hid (own_kp0 HI.out hR)
          clear hR
          try simp only [puts, List.nil_append, List.cons_append, List.foldl_cons, List.foldl_nil, Act.put, List.setIfInBounds_toArray, List.set_cons_zero, List.set_cons_succ]
          refine wp_appS (.tmp 80) (.tmp 82) 24 rfl x9.heap.size 3 iI (.int .i64 0) 1 8 Try.underlying24 hiI hzI rfl hsI (by omega) hbI (by omega) (.slice (some ⟨g80, 0, none⟩) 0 0) 0 [] y7 HI.out rfl _ ma.da ma.dl ma.dc _ (HPX.out.go HXY.out).na.darr HADl.out (one_I _) rfl (by omega) hzy ?_
          intro v83 y8 h83 hc83 hb83
          rw [Nat.zero_add, List.nil_append] at h83
          refine HK.out v83 y8 _ (by simp only [puts, List.nil_append, List.cons_append, List.foldl_cons, List.foldl_nil, Act.put, List.setIfInBounds_toArray, List.set_cons_zero, List.set_cons_succ]) (Kp.of_chg hc83 fun q hq => ⟨(own_isT HI.out hq).1, trivial⟩) (bg1 (floatT_R (Kp.of_chg hc83 fun q hq => own_isT HI.out hq) (by decide))) ?_
          replace HC := Lib.hid (own_chg HC.out hc83 (fun g hg hm => own_apart HC.out HI.out (by decide) g hg (Option.mem_toList.1 hm)))
          replace HI := Lib.hid h83
          replace HXY := Lib.hid (HXY.out.trans hb83)
          clear h83 hc83 hb83 HK
          refine wpM_C rfl (by rfl) ?_
          intro y9 hR K HK
          replace HC := Lib.hid (own_kp0 HC.out hR)
          replace HXY := Lib.hid (HXY.out.trans (Kp.below (N := x9.heap.size) hR HXY.out.size))
          replace hzy : x9.heap.size ≤ y9.heap.size := HXY.out.size
          replace HI := Lib.hid (own_kp0 HI.out hR)
          clear hR
          try simp only [puts, List.nil_append, List.cons_append, List.foldl_cons, List.foldl_nil, Act.put, List.setIfInBounds_toArray, List.set_cons_zero, List.set_cons_succ]
          refine wp_appS (.tmp 83) (.tmp 85) 24 rfl x9.heap.size 3 iI (.int .i64 0) 1 8 Try.underlying24 hiI hzI rfl hsI (by omega) hbI (by omega) v83 ma.dl _ y9 HI.out rfl _ mb.da mb.dl mb.dc _ (HPX.out.go HXY.out).nb.darr HBDl.out (one_I _) rfl (by omega) hzy ?_
          intro v86 y10 h86 hc86 hb86
          rw [← cellsI_app, HWh.out.2.2, show ma.dl + mb.dl = dl from hmk3] at h86
          obtain ⟨a86, c86, rfl, hc86l, hc86m, _⟩ := own_slice h86
          refine HK.out (.slice a86 dl c86) y10 _ (by simp only [puts, List.nil_append, List.cons_append, List.foldl_cons, List.foldl_nil, Act.put, List.setIfInBounds_toArray, List.set_cons_zero, List.set_cons_succ]) (Kp.of_chg hc86 fun q hq => ⟨(own_isT HI.out hq).1, trivial⟩) (bg1 (floatT_R (Kp.of_chg hc86 fun q hq => own_isT HI.out hq) (by decide))) ?_
          replace HC := Lib.hid (own_chg HC.out hc86 (fun g hg hm => own_apart HC.out HI.out (by decide) g hg (Option.mem_toList.1 hm)))
          replace HI := Lib.hid h86
          replace HXY := Lib.hid (HXY.out.trans hb86)
          clear h86 hc86 hb86 HK
          repeat (first | (refine wpM_F (v := ?_) rfl (by rfl) (fun w' hL => ?_) ?_; rotate_left; (solve | (go_simp; with_reducible rfl) | go_simp); try simp only [Act.put, List.setIfInBounds_toArray, List.set_cons_zero, List.set_cons_succ]) | (refine wpM_G rfl (by rfl) ?_; try simp only [Act.put, List.setIfInBounds_toArray, List.set_cons_zero, List.set_cons_succ]))
          refine wpM_W ?_
          intro y11 l hR hE
          obtain ⟨gw, rfl, hG, hgN⟩ := hE
          have HG := Lib.hid hG
          replace HC := Lib.hid (own_kp0 HC.out hR)
          replace HI := Lib.hid (own_kp0 HI.out hR)
          replace HXY := Lib.hid (HXY.out.trans (Kp.below (N := x9.heap.size) hR HXY.out.size))
          clear hG hR
          simp only [puts, List.nil_append, List.cons_append, List.foldl_cons, List.foldl_nil, Act.put, List.setIfInBounds_toArray, List.set_cons_zero, List.set_cons_succ]
          refine wpM_C rfl (by rfl) ?_
          intro y2 hR K HK
          replace HC := Lib.hid (own_kp0 HC.out hR)
          replace HXY := Lib.hid (HXY.out.trans (Kp.below (N := x9.heap.size) hR HXY.out.size))
          replace hzy : x9.heap.size ≤ y2.heap.size := HXY.out.size
          replace HI := Lib.hid (own_kp0 HI.out hR)
          replace HG := Lib.hid (HG.out.kp0 hR)
          clear hR
          try simp only [puts, List.nil_append, List.cons_append, List.foldl_cons, List.foldl_nil, Act.put, List.setIfInBounds_toArray, List.set_cons_zero, List.set_cons_succ]
          have g0 : (y2.cell? ⟨gw, 0, none⟩) = some (.bool false) := HG.out.cell 0
          have gf0 : y2.frozen? ⟨gw, 0, none⟩ = false := HG.out.frozen 0
          have g1 : (y2.cell? ⟨gw, 1, none⟩) = some (.slice none 0 0) := HG.out.cell 1
          have gf1 : y2.frozen? ⟨gw, 1, none⟩ = false := HG.out.frozen 1
          have g2 : (y2.cell? ⟨gw, 2, none⟩) = some (.slice none 0 0) := HG.out.cell 2
          have gf2 : y2.frozen? ⟨gw, 2, none⟩ = false := HG.out.frozen 2
          have g3 : (y2.cell? ⟨gw, 3, none⟩) = some (.slice none 0 0) := HG.out.cell 3
          have gf3 : y2.frozen? ⟨gw, 3, none⟩ = false := HG.out.frozen 3
          have glt := HG.out.lt
          have hzc : Chg [gw] y2 ((((y2.setCell ⟨gw, 0, none⟩ (.bool false)).setCell ⟨gw, 1, none⟩ (.slice a9 kl c9)).setCell ⟨gw, 2, none⟩ (.slice a79 cl c79)).setCell ⟨gw, 3, none⟩ (.slice a86 dl c86)) := set4_chg (by simp) _ _ _ _
          have HXZ : Hid (Below x9.heap.size x9 ((((y2.setCell ⟨gw, 0, none⟩ (.bool false)).setCell ⟨gw, 1, none⟩ (.slice a9 kl c9)).setCell ⟨gw, 2, none⟩ (.slice a79 cl c79)).setCell ⟨gw, 3, none⟩ (.slice a86 dl c86))) := HXY.out.trans (hzc.below HXY.out.size (by simpa using hgN))
          have HGZ : Hid (Blk ((((y2.setCell ⟨gw, 0, none⟩ (.bool false)).setCell ⟨gw, 1, none⟩ (.slice a9 kl c9)).setCell ⟨gw, 2, none⟩ (.slice a79 cl c79)).setCell ⟨gw, 3, none⟩ (.slice a86 dl c86)) gw 26 #[.bool false, .slice a9 kl c9, .slice a79 cl c79, .slice a86 dl c86]) := Blk.st4 HG.out _ _ _ _
          have HWZ : Hid (NAt ((((y2.setCell ⟨gw, 0, none⟩ (.bool false)).setCell ⟨gw, 1, none⟩ (.slice a9 kl c9)).setCell ⟨gw, 2, none⟩ (.slice a79 cl c79)).setCell ⟨gw, 3, none⟩ (.slice a86 dl c86)) n ⟨a9, kl, c9, a79, cl, c79, a86, dl, c86⟩) := by
            have hk := own_chg (own_below H9.out (Nat.le_refl _) HXY.out) hzc (fun g hg hm => own_ne (own_below H9.out (Nat.le_refl _) HXY.out) HG.out (by decide) (by simp at hm; rw [hg, hm]))
            have hc := own_chg HC.out hzc (fun g hg hm => own_ne HC.out HG.out (by decide) (by simp at hm; rw [hg, hm]))
            have hd := own_chg HI.out hzc (fun g hg hm => own_ne HI.out HG.out (by decide) (by simp at hm; rw [hg, hm]))
            obtain ⟨_, _, e1, k1, k2, k3⟩ := own_slice hk
            obtain ⟨_, _, e2, c1, c2, c3⟩ := own_slice hc
            obtain ⟨_, _, e3, d1, d2, d3⟩ := own_slice hd
            simp only [Value.slice.injEq, true_and] at e1 e2 e3
            obtain ⟨rfl, rfl⟩ := e1
            obtain ⟨rfl, rfl⟩ := e2
            obtain ⟨rfl, rfl⟩ := e3
            exact ⟨HKL.out, HCL.out, HDL.out, k1, c1, d1, by simp only; omega, by simp only; omega, by simp only; omega, k3, c3, d3, HPX.out.nn.kfair, HPX.out.nn.cfair, HPX.out.nn.dfair⟩
          clear hzc
          go_simp
          refine HK.out undef _ _ (by simp only [puts, List.nil_append, List.cons_append, List.foldl_cons, List.foldl_nil, Act.put, List.setIfInBounds_toArray, List.set_cons_zero, List.set_cons_succ]) (Kp.of_chg (set4_chg (S := [gw]) (by simp) _ _ _ _) (fun q hq => by simp only [List.mem_singleton] at hq; subst hq; exact ⟨hgN, trivial⟩)) bg0 ?_
          clear HK
          clear g0 gf0 g1 gf1 g2 gf2 g3 gf3 glt HC HI HG HXY H9 HKw hzy
          obtain ⟨Z0, hZ⟩ : ∃ Z, ((((y2.setCell ⟨gw, 0, none⟩ (.bool false)).setCell ⟨gw, 1, none⟩ (.slice a9 kl c9)).setCell ⟨gw, 2, none⟩ (.slice a79 cl c79)).setCell ⟨gw, 3, none⟩ (.slice a86 dl c86)) = Z := ⟨_, rfl⟩
          rw [hZ] at HXZ HGZ HWZ
          rw [hZ]
          clear hZ
          refine wpM_nil ?_
          intro Z hR
          have hbZ : Below x9.heap.size Z0 Z := Kp.below (N := x9.heap.size) hR HXZ.out.size
          have hbZ2 : Below Z0.heap.size Z0 Z := ⟨hR.os, hR.tape, hR.output, hR.size, fun k hk => by rcases hR.block k hk with h1 | ⟨_, h1⟩; exact h1; exact h1.elim⟩
          replace HP := Lib.hid (HPX.out.go (HXZ.out.trans hbZ))
          replace HGZ := Lib.hid (HGZ.out.kp0 hR)
          replace HWZ := Lib.hid (HWZ.out.later hbZ2)
          clear HPX HXZ HACl HBCl HADl HBDl hbZ hbZ2 hR
          have HSm := NSame_any n n ⟨a9, kl, c9, a79, cl, c79, a86, dl, c86⟩ ⟨ka, kl, kc, ca, cl, cc, da, dl, dc⟩ Z HWZ.out HP.out.nn
          rw [HLf.out, decide_eq_true (rfl : n = n)] at HSm
          have HSm := Lib.hid HSm
          have g0 : Z.cell? ⟨gw, 0, none⟩ = some (.bool false) := HGZ.out.cell 0
          have g1 : Z.cell? ⟨gw, 1, none⟩ = some (.slice a9 kl c9) := HGZ.out.cell 1
          have g2 : Z.cell? ⟨gw, 2, none⟩ = some (.slice a79 cl c79) := HGZ.out.cell 2
          have g3 : Z.cell? ⟨gw, 3, none⟩ = some (.slice a86 dl c86) := HGZ.out.cell 3
          have glt : gw < Z.heap.size := HGZ.out.lt
          have n0 : Z.cell? ⟨w.heap.size, 0, none⟩ = some (.bool false) := HP.out.n0.cell 0
          have n1 : Z.cell? ⟨w.heap.size, 1, none⟩ = some (.slice ka kl kc) := HP.out.n0.cell 1
          have n2 : Z.cell? ⟨w.heap.size, 2, none⟩ = some (.slice ca cl cc) := HP.out.n0.cell 2
          have n3 : Z.cell? ⟨w.heap.size, 3, none⟩ = some (.slice da dl dc) := HP.out.n0.cell 3
          have nlt : w.heap.size < Z.heap.size := HP.out.n0.lt
          go_wp2_with fail
          clear g0 g1 g2 g3 glt n0 n1 n2 n3 nlt
          refine HSm.out.mono ?_
          rintro e z1 ⟨rfl, hb⟩
          replace HP := Lib.hid (HP.out.go hb)
          clear hb HSm HWZ HGZ
          have n0 : z1.cell? ⟨w.heap.size, 0, none⟩ = some (.bool false) := HP.out.n0.cell 0
          have n1 : z1.cell? ⟨w.heap.size, 1, none⟩ = some (.slice ka kl kc) := HP.out.n0.cell 1
          have n2 : z1.cell? ⟨w.heap.size, 2, none⟩ = some (.slice ca cl cc) := HP.out.n0.cell 2
          have n3 : z1.cell? ⟨w.heap.size, 3, none⟩ = some (.slice da dl dc) := HP.out.n0.cell 3
          have nlt : w.heap.size < z1.heap.size := HP.out.n0.lt
          by_cases c1 : at_ < 0
          · have q1 : decide (at_ < 0) = true := by simpa using c1
            go_wp2_with fail
            refine (HAl.out _).mono ?_
            rintro e z2 ⟨rfl, hb⟩
            replace HP := Lib.hid (HP.out.go hb)
            go_wp2
            go_ret
            exact ⟨rfl, HP.out.bel⟩
          · have q1 : decide (at_ < 0) = false := by simpa using c1
            by_cases c2 : (kl : Int) ≤ at_
            · have q2 : decide ((kl : Int) ≤ at_) = true := by simpa using c2
              go_wp2_with fail
              refine (HAl.out _).mono ?_
              rintro e z2 ⟨rfl, hb⟩
              replace HP := Lib.hid (HP.out.go hb)
              go_wp2
              go_ret
              exact ⟨rfl, HP.out.bel⟩
            · have q2 : decide ((kl : Int) ≤ at_) = false := by simpa using c2
              go_wp2_with fail
              refine (HAl.out _).mono ?_
              rintro e z2 ⟨rfl, hb⟩
              replace HP := Lib.hid (HP.out.go hb)
              go_wp2
              go_ret
              exact ⟨rfl, HP.out.bel⟩
end Go.Proofs.Ytlcphgomhhejbaa
