/- Several texts of one proof, one behind the other. -/
import Derived.Test.YtlcphgomhhejbaaNPk21
import Derived.Deep.Cut
import Derived.IntWalk
set_option linter.unusedSimpArgs false
set_option linter.unusedVariables false

/- The walk of the reference's Bytes of an inner node. -/
namespace Go.Proofs.Ytlcphgomhhejbaa
open Go.RowKit

set_option maxRecDepth 100000 in
set_option maxHeartbeats 8000000 in
theorem rBytesI_any (x : Rn) (m : RB) (w : World) (h : RAt w x m) (hok : x.Ok) (hl : x.leaf = false) (hbig : m.ll ≤ 60000) :
    Calls Try.prog 14 #[m.v false x.kid] w (RetOwn w (encN x)) := by
  obtain ⟨i0, hi0, hz0, hz1, hz2⟩ := info_parts Try.info5
  have HLt : Hid (∀ c ∈ encN x, c < 256) := encN_lt hok
  have HX : Hid (∀ v W, W.ownsRow (w.heap.size + 1) 5 1 v (encN x).length (cellsU (encN x)) → Below w.heap.size w W → RetOwn w (encN x) (.returned v) W) := by
    intro v W h1 h2
    refine ⟨v, rfl, HLt.out, ?_, h2⟩
    exact own_mono h1 (Nat.le_succ _)
  have HArr := Lib.hid h.arr
  have HFair := Lib.hid h.fair
  have HLL : Hid (m.ll = x.l.length) := h.hl
  have HOk := Lib.hid hok
  have hll := h.hl
  have HEnd : Hid (headN x ++ encPs x.leaf (x.l.take m.ll) = encN x) := by
    show _ = _
    rw [hll, List.take_length]; rfl
  have HBd := Lib.hid (fun i hi => lenTo_bd hok i hi)
  have hkid : okPage x.kid = true := by have := hok.2; rw [hl] at this; exact this.2.1
  have hkid2 : 1 ≤ x.kid ∧ x.kid ≤ 4095 := of_decide_eq_true hkid
  have HHead : Hid (headN x = [2, m.ll / 256 % 256, m.ll % 256] ++ beL 4 x.kid.toNat) := by
    show _ = _
    unfold headN; rw [hl, ← hll]; rfl
  clear hkid
  clear h hok hll
  obtain ⟨la, ll, lc⟩ := m
  obtain ⟨xleaf, kid, l⟩ := x
  simp only at *
  subst hl
  generalize hRR : RetOwn w (encN ⟨false, kid, l⟩) = RR at *
  clear hRR
  obtain ⟨kn, hkn⟩ : ∃ kn : Nat, kid = (kn : Int) := ⟨kid.toNat, by omega⟩
  subst hkn
  rw [Int.toNat_natCast] at HHead
  have hkn : kn ≤ 4095 := by omega
  clear hkid2
  go_enter Try.func14, Try.ntmps14
  go_upto_region 4 with (fail)
  have D : Hid (∀ W, Chg [w.heap.size + 1] ((w.alloc (.cells #[.bool false, .int .i64 (kn : Int), .slice la ll lc] 32)).alloc (.cells #[.int .u8 2, .int .u8 0, .int .u8 0] 5)).drew W → W.cell? ⟨w.heap.size, 2, none⟩ = some (.slice la ll lc)) := by
    intro W hW
    have hB := ((Blk.new w 32 #[.bool false, .int .i64 (kn : Int), .slice la ll lc]).alloc (.cells #[.int .u8 2, .int .u8 0, .int .u8 0] 5)).chg hW.undrew (by simp)
    exact hB.cell 2
  have d2 : ∀ W, Chg [w.heap.size + 1] ((w.alloc (.cells #[.bool false, .int .i64 (kn : Int), .slice la ll lc] 32)).alloc (.cells #[.int .u8 2, .int .u8 0, .int .u8 0] 5)).drew W → W.cell? ⟨w.heap.size, 2, none⟩ = some (.slice la ll lc) := fun W h => D.out W h
  refine wp_region_ordS [w.heap.size + 1] [(0, true), (1, true), (2, true), (3, true), (4, true), (5, true), (6, true), (7, true), (8, true), (9, true), (10, true), (11, true), (12, true), (13, false), (14, true), (15, false)] (by kernel_rfl) (by kernel_rfl) (by kernel_rfl) (by kernel_rfl) ?_
  repeat (first | (refine wpO_F (v := ?_) rfl (by rfl) (fun w' hL => ?_) ?_; rotate_left; (solve | (go_simp; with_reducible rfl) | go_simp); try simp only [Act.put, List.setIfInBounds_toArray, List.set_cons_zero, List.set_cons_succ]) | (refine wpO_G' (Chg.refl _) rfl (by rfl) ?_; try simp only [Act.put, List.setIfInBounds_toArray, List.set_cons_zero, List.set_cons_succ]))
  refine wpO_C rfl (by rfl) ?_
  go_simp
  refine ⟨chg_top _ _ _ _ _, ?_⟩
  try simp only [Act.put, List.setIfInBounds_toArray, List.set_cons_zero, List.set_cons_succ]
  repeat (first | (refine wpO_F (v := ?_) rfl (by rfl) (fun w' hL => ?_) ?_; rotate_left; (solve | (go_simp; with_reducible rfl) | go_simp); try simp only [Act.put, List.setIfInBounds_toArray, List.set_cons_zero, List.set_cons_succ]) | (refine wpO_G' (Chg.refl _) rfl (by rfl) ?_; try simp only [Act.put, List.setIfInBounds_toArray, List.set_cons_zero, List.set_cons_succ]))
  refine wpO_C rfl (by rfl) ?_
  go_simp
  refine ⟨chg_top _ _ _ _ _, ?_⟩
  try simp only [Act.put, List.setIfInBounds_toArray, List.set_cons_zero, List.set_cons_succ]
  refine wpO_nil ?_
  have e1 : IntKind.u8.wrap (IntKind.i64.wrap ((ll : Int) / 256)) = (ll : Int) / 256 % 256 := by
    rw [IntWalk.i64_in _ ⟨by omega, by omega⟩, IntWalk.u8_in _ ⟨by omega, by omega⟩]
    omega
  have e2 : IntKind.u8.wrap ((ll : Int).tmod 256) = (ll : Int) % 256 := by
    rw [IntWalk.rem_in _ _ (by omega), IntWalk.u8_in _ ⟨by omega, by omega⟩]
  have e3 : IntKind.i64.wrap ((ll : Int) / 256) = (ll : Int) / 256 := IntWalk.i64_in _ ⟨by omega, by omega⟩
  have e4 : (ll : Int).tmod 256 = (ll : Int) % 256 := IntWalk.rem_in _ _ (by omega)
  rw [e1, e2, e3, e4]
  obtain ⟨W0, hW0⟩ : ∃ W0, ((w.alloc (.cells #[.bool false, .int .i64 (kn : Int), .slice la ll lc] 32)).alloc (.cells #[.int .u8 2, .int .u8 ((ll : Int) / 256 % 256), .int .u8 ((ll : Int) % 256)] 5)).drew = W0 := ⟨_, rfl⟩
  have HB0 : Hid (BHd w W0 #[.bool false, .int .i64 (kn : Int), .slice la ll lc] (some ⟨w.heap.size + 1, 0, none⟩) 3 3 [2, ll / 256 % 256, ll % 256]) := by
    rw [← hW0]
    have e : (w.alloc (.cells #[.bool false, .int .i64 (kn : Int), .slice la ll lc] 32)).heap.size = w.heap.size + 1 := by simp
    have h1 := World.ownsRow_lit (base := w.heap.size + 1) (e := 5) (size := 1) (w.alloc (.cells #[.bool false, .int .i64 (kn : Int), .slice la ll lc] 32)) #[.int .u8 2, .int .u8 ((ll : Int) / 256 % 256), .int .u8 ((ll : Int) % 256)] 3 (by rw [e]; exact Nat.le_refl _) (by unfold maxLen; omega) rfl
    rw [e] at h1
    exact ⟨(Blk.new w 32 #[.bool false, .int .i64 (kn : Int), .slice la ll lc]).alloc _, h1, (((Below.refl _ w).alloc (Nat.le_refl _) _).alloc (by simp) _).drew⟩
  rw [hW0]
  clear hW0 e1 e2 e3 e4 d2 D
  have x0_h : W0.cell? ⟨w.heap.size, 0, none⟩ = some (.bool false) := HB0.out.box.cell 0
  have x1_h : W0.cell? ⟨w.heap.size, 1, none⟩ = some (.int .i64 (kn : Int)) := HB0.out.box.cell 1
  have x2_h : W0.cell? ⟨w.heap.size, 2, none⟩ = some (.slice la ll lc) := HB0.out.box.cell 2
  have xl_h : w.heap.size < W0.heap.size := HB0.out.box.lt
  go_wp2_with fail
  refine (rnum_any kn 4 _ (by omega) (by omega)).mono ?_
  rintro e W12 ⟨v12, rfl, hlt12, hrow12, hL12⟩
  obtain ⟨ra12, rc12, rfl, _, _, harr12⟩ := own_slice hrow12
  have HAr12 := Lib.hid harr12
  have HB12 := Lib.hid (HB0.out.lat hL12)
  have x0_12 : W12.cell? ⟨w.heap.size, 0, none⟩ = some (.bool false) := HB12.out.box.cell 0
  have x1_12 : W12.cell? ⟨w.heap.size, 1, none⟩ = some (.int .i64 (kn : Int)) := HB12.out.box.cell 1
  have x2_12 : W12.cell? ⟨w.heap.size, 2, none⟩ = some (.slice la ll lc) := HB12.out.box.cell 2
  have xl_12 : w.heap.size < W12.heap.size := HB12.out.box.lt
  clear hrow12 harr12 hL12 hlt12 x0_h x1_h x2_h xl_h
  rw [beL_len]
  go_wp2_with (first | (at_builtin; have hbs13 := HB12.out.base; refine wpList_appS rfl (.tmp 28) (.tmp 31) 27 rfl (w.heap.size + 1) 5 i0 (.int .u8 0) 1 1 Try.underlying27 hi0 hz0 rfl hz1 (by omega) hz2 (by omega) (.slice (some ⟨w.heap.size + 1, 0, none⟩) 3 3) 3 _ _ HB12.out.row rfl _ ra12 4 rc12 (cellsU (beL 4 kn)) HAr12.out (by rw [cellsU_len, beL_len]) (one_B _) rfl (by omega) hbs13 ?_; intro v13 W13 hown13 hc13 _; obtain ⟨a13, n13, cap13, rfl, hn13, hB13⟩ := HB12.out.app hown13 hc13; have HB13 := Lib.hid hB13; have HC13 := Lib.hid hc13; clear hown13 hB13 hc13 ; have x0_13 : W13.cell? ⟨w.heap.size, 0, none⟩ = some (.bool false) := HB13.out.box.cell 0; have x1_13 : W13.cell? ⟨w.heap.size, 1, none⟩ = some (.int .i64 (kn : Int)) := HB13.out.box.cell 1; have x2_13 : W13.cell? ⟨w.heap.size, 2, none⟩ = some (.slice la ll lc) := HB13.out.box.cell 2; have xl_13 : w.heap.size < W13.heap.size := HB13.out.box.lt; clear x0_12 x1_12 x2_12 xl_12))
  have HL0 : Hid (([2, ll / 256 % 256, ll % 256] ++ (beL 4 kn)) = headN ⟨false, (kn : Int), l⟩ ++ encPs false (l.take 0)) := by
    show _ = _
    rw [HHead.out]; simp [encPs]
  go_loopw [3, 4] (fun v i wr => ∃ (k : Nat) (a : Option Addr) (n cap : Nat), k ≤ ll ∧ i = .int .i64 k ∧ v = .slice a n cap ∧ Hid (BHd w wr #[.bool false, .int .i64 (kn : Int), .slice la ll lc] a n cap (headN ⟨false, (kn : Int), l⟩ ++ encPs false (l.take k)))) (fun _ i _ => ll - (intOf i).toNat)
  case atStart => exact ⟨0, _, _, _, by omega, rfl, rfl, by rw [← HL0.out]; exact HB13.out⟩
  case round =>
    obtain ⟨k, a, n, cap, hk, rfl, rfl, HI⟩ := hrel
    clear x0_13 x1_13 x2_13 xl_13
    have hn : n ≤ 14000000 := by
      have h1 := HI.out.len
      rw [headN_lenTo ⟨false, (kn : Int), l⟩ k] at h1
      have h2 := HBd.out k (by have := HLL.out; omega)
      omega
    have x0_r : wr.cell? ⟨w.heap.size, 0, none⟩ = some (.bool false) := HI.out.box.cell 0
    have x1_r : wr.cell? ⟨w.heap.size, 1, none⟩ = some (.int .i64 (kn : Int)) := HI.out.box.cell 1
    have x2_r : wr.cell? ⟨w.heap.size, 2, none⟩ = some (.slice la ll lc) := HI.out.box.cell 2
    have xl_r : w.heap.size < wr.heap.size := HI.out.box.lt
    by_cases hlt : k < ll
    · have hkl : k < l.length := by have := HLL.out; omega
      have hx := List.getElem?_eq_getElem hkl
      have hfr := HFair.out _ (List.getElem_mem hkl)
      have hkey := HOk.out.key hx
      have hok := HOk.out.okI rfl (List.mem_of_getElem? hx)
      obtain ⟨b, o, rfl, hb, c0, c1, c2, c3⟩ := partAt HArr.out hkl
      have HXk := Lib.hid hx
      obtain ⟨⟨xk, xl, xd, xp⟩, hxx⟩ : ∃ x, l[k] = x := ⟨_, rfl⟩
      rw [hxx] at c0 c1 c2 c3 HXk hfr hkey hok
      clear hx hxx
      unfold Pt.fair at hfr
      replace hok := okI_bd hok
      simp only at c0 c1 c2 c3 hfr hkey hok
      obtain ⟨f1, f2, f3, f4⟩ := hfr
      have c0 : wr.cell? ⟨b, o + k * 4, none⟩ = some (.string xk) := (HI.out.bel.cell (p := ⟨b, o + k * 4, none⟩) hb).trans c0
      have c1 : wr.cell? ⟨b, o + k * 4 + 1, none⟩ = some (.int .i64 xl) := (HI.out.bel.cell (p := ⟨b, o + k * 4 + 1, none⟩) hb).trans c1
      have c2 : wr.cell? ⟨b, o + k * 4 + 2, none⟩ = some (.string xd) := (HI.out.bel.cell (p := ⟨b, o + k * 4 + 2, none⟩) hb).trans c2
      have c3 : wr.cell? ⟨b, o + k * 4 + 3, none⟩ = some (.int .i64 xp) := (HI.out.bel.cell (p := ⟨b, o + k * 4 + 3, none⟩) hb).trans c3
      have HBp := Lib.hid (HI.out.lat (Below.box wr (.cells #[.string xk, .int .i64 xl, .string xd, .int .i64 xp] 65)))
      have HPp := Lib.hid (Blk.new wr 65 #[.string xk, .int .i64 xl, .string xd, .int .i64 xp])
      obtain ⟨h1, h2, h3, h4⟩ := hok
      subst h1
      obtain ⟨xq, rfl⟩ : ∃ xq : Nat, xp = (xq : Int) := ⟨xp.toNat, by omega⟩
      have HX14 := Lib.hid (HBp.out.lat (Below.box (wr.alloc (.cells #[.string xk, .int .i64 0, .string xd, .int .i64 (xq : Int)] 65)) (.cells #[.int .u8 (xk.size : Int)] 5)))
      have HO14 : Hid (Arr ((wr.alloc (.cells #[.string xk, .int .i64 0, .string xd, .int .i64 (xq : Int)] 65)).alloc (.cells #[.int .u8 (xk.size : Int)] 5)).heap.size ((wr.alloc (.cells #[.string xk, .int .i64 0, .string xd, .int .i64 (xq : Int)] 65)).alloc (.cells #[.int .u8 (xk.size : Int)] 5)) (some ⟨wr.heap.size + 1, 0, none⟩) (cellsU [xk.size])) := by
        have h1 := one_byte (wr.alloc (.cells #[.string xk, .int .i64 0, .string xd, .int .i64 (xq : Int)] 65)) xk.size
        rw [show (some (⟨(wr.alloc (.cells #[.string xk, .int .i64 0, .string xd, .int .i64 (xq : Int)] 65)).heap.size, 0, none⟩ : Addr)) = some ⟨wr.heap.size + 1, 0, none⟩ by simp] at h1
        exact h1
      go_wp2_with (first | (at_builtin; have hbs14 := HX14.out.base; refine wpList_appS rfl (.tmp 45) (.tmp 50) 27 rfl (w.heap.size + 1) 5 i0 (.int .u8 0) 1 1 Try.underlying27 hi0 hz0 rfl hz1 (by omega) hz2 (by omega) (.slice a n cap) n _ _ HX14.out.row rfl _ (some ⟨wr.heap.size + 1, 0, none⟩) 1 1 (cellsU [xk.size]) HO14.out rfl (one_B _) rfl (by omega) hbs14 ?_; intro v14 W14 hown14 hc14 _; obtain ⟨a14, n14, cap14, rfl, hn14, hB14⟩ := HX14.out.app hown14 hc14; have HB14 := Lib.hid hB14; have HC14 := Lib.hid hc14; clear hown14 hB14 hc14 c0 c1 c2 c3; have HP14 := Lib.hid (HX14.out.blk (HPp.out.alloc (.cells #[.int .u8 (xk.size : Int)] 5)) HC14.out); have x0_14 : W14.cell? ⟨w.heap.size, 0, none⟩ = some (.bool false) := HB14.out.box.cell 0; have x1_14 : W14.cell? ⟨w.heap.size, 1, none⟩ = some (.int .i64 (kn : Int)) := HB14.out.box.cell 1; have x2_14 : W14.cell? ⟨w.heap.size, 2, none⟩ = some (.slice (some ⟨b, o, none⟩) ll lc) := HB14.out.box.cell 2; have xl_14 : w.heap.size < W14.heap.size := HB14.out.box.lt; have p0_14 : W14.cell? ⟨wr.heap.size, 0, none⟩ = some (.string xk) := HP14.out.cell 0; have p1_14 : W14.cell? ⟨wr.heap.size, 1, none⟩ = some (.int .i64 0) := HP14.out.cell 1; have p2_14 : W14.cell? ⟨wr.heap.size, 2, none⟩ = some (.string xd) := HP14.out.cell 2; have p3_14 : W14.cell? ⟨wr.heap.size, 3, none⟩ = some (.int .i64 (xq : Int)) := HP14.out.cell 3; have pl_14 : wr.heap.size < W14.heap.size := HP14.out.lt; clear x0_r x1_r x2_r xl_r) | (at_builtin; have hbs15 := HB14.out.base; refine wpList_appT rfl (.tmp 59) (.tmp 61) 27 9 rfl (w.heap.size + 1) 5 i0 Try.underlying27 Try.underlying9 hi0 hz0 hz1 hz2 (.slice a14 n14 cap14) n14 _ _ HB14.out.row rfl xk rfl (by omega) hbs15 ?_; intro v15 W15 hown15 hc15; obtain ⟨a15, n15, cap15, rfl, hn15, hB15⟩ := HB14.out.app hown15 hc15; have HB15 := Lib.hid hB15; have HC15 := Lib.hid hc15; clear hown15 hB15 hc15 ; have HP15 := Lib.hid (HB14.out.blk HP14.out HC15.out); have x0_15 : W15.cell? ⟨w.heap.size, 0, none⟩ = some (.bool false) := HB15.out.box.cell 0; have x1_15 : W15.cell? ⟨w.heap.size, 1, none⟩ = some (.int .i64 (kn : Int)) := HB15.out.box.cell 1; have x2_15 : W15.cell? ⟨w.heap.size, 2, none⟩ = some (.slice (some ⟨b, o, none⟩) ll lc) := HB15.out.box.cell 2; have xl_15 : w.heap.size < W15.heap.size := HB15.out.box.lt; have p0_15 : W15.cell? ⟨wr.heap.size, 0, none⟩ = some (.string xk) := HP15.out.cell 0; have p1_15 : W15.cell? ⟨wr.heap.size, 1, none⟩ = some (.int .i64 0) := HP15.out.cell 1; have p2_15 : W15.cell? ⟨wr.heap.size, 2, none⟩ = some (.string xd) := HP15.out.cell 2; have p3_15 : W15.cell? ⟨wr.heap.size, 3, none⟩ = some (.int .i64 (xq : Int)) := HP15.out.cell 3; have pl_15 : wr.heap.size < W15.heap.size := HP15.out.lt; clear x0_14 x1_14 x2_14 xl_14 p0_14 p1_14 p2_14 p3_14 pl_14))
      go_wp2_with fail
      refine (rnum_any xq 4 _ (by omega) (by omega)).mono ?_
      rintro e W16 ⟨v16, rfl, hlt16, hrow16, hL16⟩
      obtain ⟨ra16, rc16, rfl, _, _, harr16⟩ := own_slice hrow16
      have HAr16 := Lib.hid harr16
      have HB16 := Lib.hid (HB15.out.lat hL16)
      have HP16 := Lib.hid (HP15.out.bel hL16 HP15.out.lt)
      have x0_16 : W16.cell? ⟨w.heap.size, 0, none⟩ = some (.bool false) := HB16.out.box.cell 0
      have x1_16 : W16.cell? ⟨w.heap.size, 1, none⟩ = some (.int .i64 (kn : Int)) := HB16.out.box.cell 1
      have x2_16 : W16.cell? ⟨w.heap.size, 2, none⟩ = some (.slice (some ⟨b, o, none⟩) ll lc) := HB16.out.box.cell 2
      have xl_16 : w.heap.size < W16.heap.size := HB16.out.box.lt
      have p0_16 : W16.cell? ⟨wr.heap.size, 0, none⟩ = some (.string xk) := HP16.out.cell 0
      have p1_16 : W16.cell? ⟨wr.heap.size, 1, none⟩ = some (.int .i64 0) := HP16.out.cell 1
      have p2_16 : W16.cell? ⟨wr.heap.size, 2, none⟩ = some (.string xd) := HP16.out.cell 2
      have p3_16 : W16.cell? ⟨wr.heap.size, 3, none⟩ = some (.int .i64 (xq : Int)) := HP16.out.cell 3
      have pl_16 : wr.heap.size < W16.heap.size := HP16.out.lt
      clear hrow16 harr16 hL16 hlt16 x0_15 x1_15 x2_15 xl_15 p0_15 p1_15 p2_15 p3_15 pl_15
      rw [beL_len]
      go_wp2_with (first | (at_builtin; have hbs17 := HB16.out.base; refine wpList_appS rfl (.tmp 74) (.tmp 77) 27 rfl (w.heap.size + 1) 5 i0 (.int .u8 0) 1 1 Try.underlying27 hi0 hz0 rfl hz1 (by omega) hz2 (by omega) (.slice a15 n15 cap15) n15 _ _ HB16.out.row rfl _ ra16 4 rc16 (cellsU (beL 4 xq)) HAr16.out (by rw [cellsU_len, beL_len]) (one_B _) rfl (by omega) hbs17 ?_; intro v17 W17 hown17 hc17 _; obtain ⟨a17, n17, cap17, rfl, hn17, hB17⟩ := HB16.out.app hown17 hc17; have HB17 := Lib.hid hB17; have HC17 := Lib.hid hc17; clear hown17 hB17 hc17 ; have HP17 := Lib.hid (HB16.out.blk HP16.out HC17.out); have x0_17 : W17.cell? ⟨w.heap.size, 0, none⟩ = some (.bool false) := HB17.out.box.cell 0; have x1_17 : W17.cell? ⟨w.heap.size, 1, none⟩ = some (.int .i64 (kn : Int)) := HB17.out.box.cell 1; have x2_17 : W17.cell? ⟨w.heap.size, 2, none⟩ = some (.slice (some ⟨b, o, none⟩) ll lc) := HB17.out.box.cell 2; have xl_17 : w.heap.size < W17.heap.size := HB17.out.box.lt; have p0_17 : W17.cell? ⟨wr.heap.size, 0, none⟩ = some (.string xk) := HP17.out.cell 0; have p1_17 : W17.cell? ⟨wr.heap.size, 1, none⟩ = some (.int .i64 0) := HP17.out.cell 1; have p2_17 : W17.cell? ⟨wr.heap.size, 2, none⟩ = some (.string xd) := HP17.out.cell 2; have p3_17 : W17.cell? ⟨wr.heap.size, 3, none⟩ = some (.int .i64 (xq : Int)) := HP17.out.cell 3; have pl_17 : wr.heap.size < W17.heap.size := HP17.out.lt; clear x0_16 x1_16 x2_16 xl_16 p0_16 p1_16 p2_16 p3_16 pl_16))
      have HFin : Hid (BHd w W17 #[.bool false, .int .i64 (kn : Int), .slice (some ⟨b, o, none⟩) ll lc] a17 n17 cap17 (headN ⟨false, (kn : Int), l⟩ ++ encPs false (l.take (k + 1)))) := by
        have e : ((((headN ⟨false, (kn : Int), l⟩ ++ encPs false (l.take k)) ++ [xk.size]) ++ bytesOf xk) ++ (beL 4 xq)) = headN ⟨false, (kn : Int), l⟩ ++ encPs false (l.take (k + 1)) := by
          rw [encPs_take _ _ _ _ HXk.out]
          unfold encPt
          simp [List.append_assoc]
        rw [← e]; exact HB17.out
      go_roundw
      case rel => first | exact ⟨k + 1, _, _, _, by omega, by go_num, rfl, HFin⟩ | ((repeat apply Exists.intro); exact ⟨⟨k + 1, _, _, _, by omega, by go_num, rfl, HFin⟩, rfl⟩)
      case measure => simp [intOf]; omega
    · have hkk : k = ll := by omega
      subst hkk
      have HE : Hid (RR (.returned (.slice a n cap)) wr) := by
        have h1 := HI.out.len
        have h2 := HI.out.row
        rw [HEnd.out] at h1 h2
        refine HX.out _ _ ?_ HI.out.bel
        rw [h1]; exact h2
      go_wp2
      exact HE.out
end Go.Proofs.Ytlcphgomhhejbaa

/- The walk of the reference's Right. -/
namespace Go.Proofs.Ytlcphgomhhejbaa
open Go.RowKit

theorem Later.undrew' {w W : World} (h : Later w.drew W) : Below w.heap.size w W := (Below.refl _ _).drew.trans h

set_option maxRecDepth 100000 in
set_option maxHeartbeats 16000000 in
theorem rRight_leaf (x : Rn) (m : RB) (w : World) (h : RAt w x m) (hlf : x.leaf = true) :
    Calls Try.prog 11 #[m.v x.leaf x.kid] w fun e w' => e = .returned (.bool x.ok) ∧ Below w.heap.size w w' := by
  have hll := h.hl
  have HA := Lib.hid h.arr
  have HF := Lib.hid h.fair
  have hmax := h.max
  have HIP := Lib.hid (fun p W => risPage_any p W)
  clear h
  have hhead : (if x.leaf then x.kid = 0 else x.l ≠ [] ∧ okPage x.kid = true) ∨ ¬ x.Ok := by
    by_cases hh : (if x.leaf then x.kid = 0 else x.l ≠ [] ∧ okPage x.kid = true)
    · exact .inl hh
    · refine .inr fun H => hh ?_
      have := H.2
      cases hl : x.leaf with
      | true => rw [hl] at this; exact this.1
      | false => rw [hl] at this; exact ⟨this.1, this.2.1⟩
  have hbadh : ¬ (if x.leaf then x.kid = 0 else x.l ≠ [] ∧ okPage x.kid = true) → x.ok = false := fun hh => Rn.ok_no (hhead.resolve_left hh)
  clear hhead
  have HBH := Lib.hid hbadh
  clear hbadh
  have hne : x.l ≠ [] ↔ 0 < m.ll := by rw [hll]; cases x.l <;> simp
  have HU : Hid (∀ k (p : Pt), x.l[k]? = some p → Upto x k → p.key.size ≤ 100 → (0 < k → ∀ q, x.l[k - 1]? = some q → lessK q.key p.key = true) → p.okK x.leaf = true → Upto x (k + 1)) := fun k p hp hu h1 h2 h3 => hu.step hp h1 h2 h3
  have HAll : Hid ((if x.leaf then x.kid = 0 else x.l ≠ [] ∧ okPage x.kid = true) → Upto x m.ll → x.ok = true) := fun hh hu => Rn.ok_yes (hu.all (by omega) hh)
  have HB1 : Hid (∀ k (p : Pt), x.l[k]? = some p → ¬ p.key.size ≤ 100 → x.ok = false) := fun k p hp h1 => Rn.ok_no (bad_len hp h1)
  have HB2 : Hid (∀ k (p : Pt), x.l[k]? = some p → p.okK x.leaf = false → x.ok = false) := fun k p hp h1 => Rn.ok_no (bad_kind hp h1)
  have HB3 : Hid (∀ k (p q : Pt), x.l[k]? = some p → x.l[k - 1]? = some q → 0 < k → lessK q.key p.key = false → x.ok = false) := fun k p q hp hq h0 h1 => Rn.ok_no (bad_order hp hq h0 h1)
  have HU0 : Hid (Upto x 0) := ⟨by intro i k h; simp at h, by simp⟩
  obtain ⟨leaf, kid, l⟩ := x
  obtain ⟨la, ll, lc⟩ := m
  simp only at *
  subst hlf
  have HLL := Lib.hid hll
  clear hll
  generalize Rn.ok ⟨true, kid, l⟩ = OK at *
  generalize hUp : Upto ⟨true, kid, l⟩ = Up at *
  clear hUp
  have HPart : Hid (∀ k, k < ll → ∃ b o p, la = some ⟨b, o, none⟩ ∧ b < w.heap.size ∧ l[k]? = some p ∧ p.fair ∧ w.cell? ⟨b, o + k * 4, none⟩ = some (.string p.key) ∧ w.cell? ⟨b, o + k * 4 + 1, none⟩ = some (.int .i64 p.len) ∧ w.cell? ⟨b, o + k * 4 + 2, none⟩ = some (.string p.data) ∧ w.cell? ⟨b, o + k * 4 + 3, none⟩ = some (.int .i64 p.page)) := by
    intro k hk
    have hkl : k < l.length := by have := HLL.out; omega
    obtain ⟨b, o, e1, hb, c0, c1, c2, c3⟩ := partAt HA.out hkl
    exact ⟨b, o, l[k], e1, hb, List.getElem?_eq_getElem hkl, HF.out _ (List.getElem_mem hkl), c0, c1, c2, c3⟩
  clear HA HF HLL
  simp only [if_true] at HBH HAll
  by_cases hkid : kid = 0
  · subst hkid
    have HAll2 := Lib.hid (HAll.out rfl)
    clear HAll HBH hne
    go_enter Try.func11, Try.ntmps11
    go_wp2_with fail
    go_loopw [3] (fun iv wr => ∃ k : Nat, k ≤ ll ∧ iv = .int .i64 k ∧ Hid (Up k) ∧ Below w.heap.size w wr ∧ w.heap.size < wr.heap.size ∧ wr.cell? ⟨w.heap.size, 0, none⟩ = some (.bool true) ∧ wr.cell? ⟨w.heap.size, 2, none⟩ = some (.slice la ll lc)) (fun iv _ => ll - (intOf iv).toNat)
    case atStart => exact ⟨0, by omega, rfl, HU0, Below.box _ _, by simp, by simp, by simp⟩
    case round =>
      obtain ⟨k, hk, rfl, HUk, hb, hsz, n0, n2⟩ := hrel
      by_cases hlt : k < ll
      · obtain ⟨b, o, p, rfl, hbN, hp, hpf, c0, c1, c2, c3⟩ := HPart.out k hlt
        obtain ⟨hf1, hf2, hf3, hf4⟩ := hpf
        have d0 := (hb.cell (p := ⟨b, o + k * 4, none⟩) hbN).trans c0
        have d1 := (hb.cell (p := ⟨b, o + k * 4 + 1, none⟩) hbN).trans c1
        have d2 := (hb.cell (p := ⟨b, o + k * 4 + 2, none⟩) hbN).trans c2
        have d3 := (hb.cell (p := ⟨b, o + k * 4 + 3, none⟩) hbN).trans c3
        have HB1k := Lib.hid (HB1.out k p hp)
        have HB2k := Lib.hid (HB2.out k p hp)
        have HB3k := Lib.hid (fun q => HB3.out k p q hp)
        have HUk2 := Lib.hid (HU.out k p hp HUk.out)
        have hways := leaf_ways p
        have hkK : p.okK true = p.okL := rfl
        rw [hkK] at HUk2 HB2k
        have HPrev : Hid (k = 0 ∨ (0 < k ∧ ∃ q : Pt, l[k - 1]? = some q ∧ w.cell? ⟨b, o + (k - 1) * 4, none⟩ = some (.string q.key))) := by
          by_cases h0 : k = 0
          · exact .inl h0
          · obtain ⟨b', o', q, e, _, hq, _, cq, _⟩ := HPart.out (k - 1) (by omega)
            simp only [Option.some.injEq, Addr.mk.injEq, and_true] at e
            obtain ⟨rfl, rfl⟩ := e
            exact .inr ⟨by omega, q, hq, cq⟩
        clear hkK hp c0 c1 c2 c3 HPart HB1 HB2 HB3 HU
        obtain ⟨key, len, data, page⟩ := p
        simp only at *
        have hbV : Below w.heap.size w (wr.alloc (.cells #[.string key, .int .i64 len, .string data, .int .i64 page] 65)) := hb.alloc hb.size _
        have v0 : (wr.alloc (.cells #[.string key, .int .i64 len, .string data, .int .i64 page] 65)).cell? ⟨wr.heap.size, 0, none⟩ = some (.string key) := by simp
        have v1 : (wr.alloc (.cells #[.string key, .int .i64 len, .string data, .int .i64 page] 65)).cell? ⟨wr.heap.size, 1, none⟩ = some (.int .i64 len) := by simp
        have v2 : (wr.alloc (.cells #[.string key, .int .i64 len, .string data, .int .i64 page] 65)).cell? ⟨wr.heap.size, 2, none⟩ = some (.string data) := by simp
        have v3 : (wr.alloc (.cells #[.string key, .int .i64 len, .string data, .int .i64 page] 65)).cell? ⟨wr.heap.size, 3, none⟩ = some (.int .i64 page) := by simp
        have vsz : wr.heap.size < (wr.alloc (.cells #[.string key, .int .i64 len, .string data, .int .i64 page] 65)).heap.size := by simp
        have m0 : (wr.alloc (.cells #[.string key, .int .i64 len, .string data, .int .i64 page] 65)).cell? ⟨w.heap.size, 0, none⟩ = some (.bool true) := by rw [World.cell?_alloc_past _ _ _ hsz]; exact n0
        have m2 : (wr.alloc (.cells #[.string key, .int .i64 len, .string data, .int .i64 page] 65)).cell? ⟨w.heap.size, 2, none⟩ = some (.slice (some ⟨b, o, none⟩) ll lc) := by rw [World.cell?_alloc_past _ _ _ hsz]; exact n2
        go_wp2_with fail
        clear d0 d1 d2 d3 n0 n2 hb
        generalize wr.alloc (.cells #[.string key, .int .i64 len, .string data, .int .i64 page] 65) = V at *
        generalize wr.heap.size = cb at *
        have g0 : ∀ W, Later V.drew W → W.cell? ⟨cb, 0, none⟩ = some (.string key) := fun W h => ((Later.undrew' h).cell (p := ⟨cb, 0, none⟩) vsz).trans v0
        have g2 : ∀ W, Later V.drew W → W.cell? ⟨w.heap.size, 2, none⟩ = some (.slice (some ⟨b, o, none⟩) ll lc) := fun W h => ((Later.undrew' h).cell (p := ⟨w.heap.size, 2, none⟩) (by show w.heap.size < V.heap.size; omega)).trans m2
        by_cases h100 : key.size ≤ 100
        · have q1 : decide ((100 : Int) < (key.size : Int)) = false := by first | (simp; done) | (simp; omega)
          rcases HPrev.out with hk0 | ⟨hk0, q, hq, cq⟩
          · have HU3 := Lib.hid (HUk2.out h100 (fun h => absurd h (by omega)))
            have q0 : decide ((0 : Int) < (k : Int)) = false := by first | (simp; done) | (simp; omega)
            have q0' : decide (0 < k) = false := by first | (simp; done) | (simp; omega)
            have HK0 := Lib.hid hk0
            clear hk0 HB3k HUk2 HPrev
            refine wp_region_ord [(0, true), (1, true), (2, true), (3, true), (4, true), (5, true), (6, true), (7, true), (8, true), (9, true), (10, true), (11, true), (12, true), (13, true), (14, true), (15, true), (16, true), (17, true), (18, true), (19, true)] (by kernel_rfl) (by kernel_rfl) (by kernel_rfl) (by kernel_rfl) ?_
            repeat (first | (refine wpO_F (v := ?_) rfl (by rfl) (fun w' hL => ?_) ?_; rotate_left; (solve | (go_simp; with_reducible rfl) | go_simp); try simp only [Act.put, List.setIfInBounds_toArray, List.set_cons_zero, List.set_cons_succ]) | (refine wpO_G rfl (by rfl) ?_; try simp only [Act.put, List.setIfInBounds_toArray, List.set_cons_zero, List.set_cons_succ]))
            refine wpO_nil ?_
            clear g0 g2
            rcases hways with ⟨h1, hok⟩ | ⟨h1, h2, hok⟩ | ⟨h1, h2, h3, h4, hok⟩ | ⟨h1, h2, h3, rfl, h5, hok⟩ | ⟨h1, h2, h3, rfl, rfl, hok⟩ | ⟨h1, h2, h3, h4, hok⟩ | ⟨h1, h2, h3, h4, hok⟩
            · have x1 : decide (len < 0) = true := by first | (simp; done) | (simp; omega)
              have HBad := Lib.hid (HB2k.out hok)
              clear HU3 HB2k hok
              go_wp2
              go_ret
              exact ⟨ret_b HBad.out.symm, hbV.drew⟩
            · have x1 : decide (len < 0) = false := by first | (simp; done) | (simp; omega)
              have x2 : decide (8192 < len) = true := by first | (simp; done) | (simp; omega)
              have HBad := Lib.hid (HB2k.out hok)
              clear HU3 HB2k hok
              go_wp2
              go_ret
              exact ⟨ret_b HBad.out.symm, hbV.drew⟩
            · have x1 : decide (len < 0) = false := by first | (simp; done) | (simp; omega)
              have x2 : decide (8192 < len) = false := by first | (simp; done) | (simp; omega)
              have x3 : decide (len ≤ 120) = true := by first | (simp; done) | (simp; omega)
              have x4 : ((data.size : Int) != len) = true := by simpa using h4
              have HBad := Lib.hid (HB2k.out hok)
              clear HU3 HB2k hok
              go_wp2
              go_ret
              exact ⟨ret_b HBad.out.symm, hbV.drew⟩
            · have x1 : decide ((data.size : Int) < 0) = false := by first | (simp; done) | (simp; omega)
              have x2 : decide (8192 < (data.size : Int)) = false := by first | (simp; done) | (simp; omega)
              have x3 : decide ((data.size : Int) ≤ 120) = true := by first | (simp; done) | (simp; omega)
              have x5 : (page != 0) = true := by simpa using h5
              have HBad := Lib.hid (HB2k.out hok)
              clear HU3 HB2k hok
              go_wp2
              go_ret
              exact ⟨ret_b HBad.out.symm, hbV.drew⟩
            · have x1 : decide ((data.size : Int) < 0) = false := by first | (simp; done) | (simp; omega)
              have x2 : decide (8192 < (data.size : Int)) = false := by first | (simp; done) | (simp; omega)
              have x3 : decide ((data.size : Int) ≤ 120) = true := by first | (simp; done) | (simp; omega)
              have x4 : decide (120 < (data.size : Int)) = false := by first | (simp; done) | (simp; omega)
              have HU4 := Lib.hid (HU3.out hok)
              clear HU3 HB2k hok
              go_wp2
              go_roundw
              case rel => exact ⟨k + 1, by omega, by go_num, HU4, hbV.drew, by show w.heap.size < V.heap.size; omega, m0, m2⟩
              case measure => simp [intOf]; omega
            · have x1 : decide (len < 0) = false := by first | (simp; done) | (simp; omega)
              have x2 : decide (8192 < len) = false := by first | (simp; done) | (simp; omega)
              have x3 : decide (len ≤ 120) = false := by first | (simp; done) | (simp; omega)
              have x4 : decide (120 < len) = true := by first | (simp; done) | (simp; omega)
              have x5 := empty_not data h4
              have x6 : (!data.toList.isEmpty) = true := by simpa using x5
              have HBad := Lib.hid (HB2k.out hok)
              clear HU3 HB2k hok
              go_wp2
              go_ret
              exact ⟨ret_b HBad.out.symm, hbV.drew⟩
            · have x1 : decide (len < 0) = false := by first | (simp; done) | (simp; omega)
              have x2 : decide (8192 < len) = false := by first | (simp; done) | (simp; omega)
              have x3 : decide (len ≤ 120) = false := by first | (simp; done) | (simp; omega)
              have x4 : decide (120 < len) = true := by first | (simp; done) | (simp; omega)
              have x5 := empty_list data h4
              generalize hr : okPage page = r at *
              have HIPp := HIP.out page
              rw [hr] at HIPp
              have HIPq := Lib.hid HIPp
              clear hr HIPp
              go_wp2_with fail
              refine (HIPq.out _).mono ?_
              rintro e w5 ⟨rfl, rfl⟩
              cases r with
              | true =>
                have HU4 := Lib.hid (HU3.out hok)
                clear HU3 HB2k hok
                go_wp2
                go_roundw
                case rel => exact ⟨k + 1, by omega, by go_num, HU4, hbV.drew, by show w.heap.size < V.heap.size; omega, m0, m2⟩
                case measure => simp [intOf]; omega
              | false =>
                have HBad := Lib.hid (HB2k.out hok)
                clear HU3 HB2k hok
                go_wp2
                go_ret
                exact ⟨ret_b HBad.out.symm, hbV.drew⟩
          · have gq : ∀ W, Later V.drew W → W.cell? ⟨b, o + (k - 1) * 4, none⟩ = some (.string q.key) := fun W h => ((Later.undrew' h).cell (p := ⟨b, o + (k - 1) * 4, none⟩) (by show b < V.heap.size; omega)).trans ((hbV.cell (p := ⟨b, o + (k - 1) * 4, none⟩) hbN).trans cq)
            have q0 : decide ((0 : Int) < (k : Int)) = true := by first | (simp; done) | (simp; omega)
            have q0' : decide (0 < k) = true := by first | (simp; done) | (simp; omega)
            have hk1 : IntKind.i64.wrap ((k : Int) - 1) = ((k - 1 : Nat) : Int) := by rw [IntWalk.i64_in _ ⟨by omega, by omega⟩]; omega
            have hb1 : k - 1 < ll := by omega
            cases hl : lessK q.key key with
            | true =>
              have HU3 := Lib.hid (HUk2.out h100 (fun _ q' hq' => by rw [hq] at hq'; simp at hq'; subst hq'; exact hl))
              have q4 : Op.bytesLess q.key.toList key.toList = true := hl
              have q5 : (!Op.bytesLess q.key.toList key.toList) = false := by rw [q4]; rfl
              clear HB3k HUk2 HPrev hq cq hl
              refine wp_region_ord [(0, true), (1, true), (2, true), (3, true), (4, true), (5, true), (6, true), (7, true), (8, true), (9, true), (10, true), (11, true), (12, true), (13, true), (14, true), (15, true), (16, true), (17, true), (18, true), (19, true)] (by kernel_rfl) (by kernel_rfl) (by kernel_rfl) (by kernel_rfl) ?_
              repeat (first | (refine wpO_F (v := ?_) rfl (by rfl) (fun w' hL => ?_) ?_; rotate_left; (solve | (go_simp; with_reducible rfl) | go_simp); try simp only [Act.put, List.setIfInBounds_toArray, List.set_cons_zero, List.set_cons_succ]) | (refine wpO_G rfl (by rfl) ?_; try simp only [Act.put, List.setIfInBounds_toArray, List.set_cons_zero, List.set_cons_succ]))
              refine wpO_nil ?_
              clear g0 g2 gq hk1
              rcases hways with ⟨h1, hok⟩ | ⟨h1, h2, hok⟩ | ⟨h1, h2, h3, h4, hok⟩ | ⟨h1, h2, h3, rfl, h5, hok⟩ | ⟨h1, h2, h3, rfl, rfl, hok⟩ | ⟨h1, h2, h3, h4, hok⟩ | ⟨h1, h2, h3, h4, hok⟩
              · have x1 : decide (len < 0) = true := by first | (simp; done) | (simp; omega)
                have HBad := Lib.hid (HB2k.out hok)
                clear HU3 HB2k hok
                go_wp2
                go_ret
                exact ⟨ret_b HBad.out.symm, hbV.drew⟩
              · have x1 : decide (len < 0) = false := by first | (simp; done) | (simp; omega)
                have x2 : decide (8192 < len) = true := by first | (simp; done) | (simp; omega)
                have HBad := Lib.hid (HB2k.out hok)
                clear HU3 HB2k hok
                go_wp2
                go_ret
                exact ⟨ret_b HBad.out.symm, hbV.drew⟩
              · have x1 : decide (len < 0) = false := by first | (simp; done) | (simp; omega)
                have x2 : decide (8192 < len) = false := by first | (simp; done) | (simp; omega)
                have x3 : decide (len ≤ 120) = true := by first | (simp; done) | (simp; omega)
                have x4 : ((data.size : Int) != len) = true := by simpa using h4
                have HBad := Lib.hid (HB2k.out hok)
                clear HU3 HB2k hok
                go_wp2
                go_ret
                exact ⟨ret_b HBad.out.symm, hbV.drew⟩
              · have x1 : decide ((data.size : Int) < 0) = false := by first | (simp; done) | (simp; omega)
                have x2 : decide (8192 < (data.size : Int)) = false := by first | (simp; done) | (simp; omega)
                have x3 : decide ((data.size : Int) ≤ 120) = true := by first | (simp; done) | (simp; omega)
                have x5 : (page != 0) = true := by simpa using h5
                have HBad := Lib.hid (HB2k.out hok)
                clear HU3 HB2k hok
                go_wp2
                go_ret
                exact ⟨ret_b HBad.out.symm, hbV.drew⟩
              · have x1 : decide ((data.size : Int) < 0) = false := by first | (simp; done) | (simp; omega)
                have x2 : decide (8192 < (data.size : Int)) = false := by first | (simp; done) | (simp; omega)
                have x3 : decide ((data.size : Int) ≤ 120) = true := by first | (simp; done) | (simp; omega)
                have x4 : decide (120 < (data.size : Int)) = false := by first | (simp; done) | (simp; omega)
                have HU4 := Lib.hid (HU3.out hok)
                clear HU3 HB2k hok
                go_wp2
                go_roundw
                case rel => exact ⟨k + 1, by omega, by go_num, HU4, hbV.drew, by show w.heap.size < V.heap.size; omega, m0, m2⟩
                case measure => simp [intOf]; omega
              · have x1 : decide (len < 0) = false := by first | (simp; done) | (simp; omega)
                have x2 : decide (8192 < len) = false := by first | (simp; done) | (simp; omega)
                have x3 : decide (len ≤ 120) = false := by first | (simp; done) | (simp; omega)
                have x4 : decide (120 < len) = true := by first | (simp; done) | (simp; omega)
                have x5 := empty_not data h4
                have x6 : (!data.toList.isEmpty) = true := by simpa using x5
                have HBad := Lib.hid (HB2k.out hok)
                clear HU3 HB2k hok
                go_wp2
                go_ret
                exact ⟨ret_b HBad.out.symm, hbV.drew⟩
              · have x1 : decide (len < 0) = false := by first | (simp; done) | (simp; omega)
                have x2 : decide (8192 < len) = false := by first | (simp; done) | (simp; omega)
                have x3 : decide (len ≤ 120) = false := by first | (simp; done) | (simp; omega)
                have x4 : decide (120 < len) = true := by first | (simp; done) | (simp; omega)
                have x5 := empty_list data h4
                generalize hr : okPage page = r at *
                have HIPp := HIP.out page
                rw [hr] at HIPp
                have HIPq := Lib.hid HIPp
                clear hr HIPp
                go_wp2_with fail
                refine (HIPq.out _).mono ?_
                rintro e w5 ⟨rfl, rfl⟩
                cases r with
                | true =>
                  have HU4 := Lib.hid (HU3.out hok)
                  clear HU3 HB2k hok
                  go_wp2
                  go_roundw
                  case rel => exact ⟨k + 1, by omega, by go_num, HU4, hbV.drew, by show w.heap.size < V.heap.size; omega, m0, m2⟩
                  case measure => simp [intOf]; omega
                | false =>
                  have HBad := Lib.hid (HB2k.out hok)
                  clear HU3 HB2k hok
                  go_wp2
                  go_ret
                  exact ⟨ret_b HBad.out.symm, hbV.drew⟩
            | false =>
              have HBad := Lib.hid (HB3k.out q hq hk0 hl)
              have q4 : Op.bytesLess q.key.toList key.toList = false := hl
              have q5 : (!Op.bytesLess q.key.toList key.toList) = true := by rw [q4]; rfl
              clear HB3k HUk2 HPrev hq cq hl hways
              refine wp_region_ord [(0, true), (1, true), (2, true), (3, true), (4, true), (5, true), (6, true), (7, true), (8, true), (9, true), (10, true), (11, true), (12, true), (13, true), (14, true), (15, true), (16, true), (17, true), (18, true), (19, true)] (by kernel_rfl) (by kernel_rfl) (by kernel_rfl) (by kernel_rfl) ?_
              repeat (first | (refine wpO_F (v := ?_) rfl (by rfl) (fun w' hL => ?_) ?_; rotate_left; (solve | (go_simp; with_reducible rfl) | go_simp); try simp only [Act.put, List.setIfInBounds_toArray, List.set_cons_zero, List.set_cons_succ]) | (refine wpO_G rfl (by rfl) ?_; try simp only [Act.put, List.setIfInBounds_toArray, List.set_cons_zero, List.set_cons_succ]))
              refine wpO_nil ?_
              go_wp2
              go_ret
              exact ⟨ret_b HBad.out.symm, hbV.drew⟩
        · have q1 : decide ((100 : Int) < (key.size : Int)) = true := by first | (simp; done) | (simp; omega)
          have HBad := Lib.hid (HB1k.out h100)
          clear HB3k HUk2 HPrev hways
          refine wp_region_ord [(0, true), (1, true), (2, true), (3, true), (4, true), (5, true), (6, true), (7, true), (8, true), (9, true), (10, true), (11, true), (12, true), (13, true), (14, true), (15, true), (16, true), (17, true), (18, true), (19, true)] (by kernel_rfl) (by kernel_rfl) (by kernel_rfl) (by kernel_rfl) ?_
          repeat (first | (refine wpO_F (v := ?_) rfl (by rfl) (fun w' hL => ?_) ?_; rotate_left; (solve | (go_simp; with_reducible rfl) | go_simp); try simp only [Act.put, List.setIfInBounds_toArray, List.set_cons_zero, List.set_cons_succ]) | (refine wpO_G rfl (by rfl) ?_; try simp only [Act.put, List.setIfInBounds_toArray, List.set_cons_zero, List.set_cons_succ]))
          refine wpO_nil ?_
          go_wp2
          go_ret
          exact ⟨ret_b HBad.out.symm, hbV.drew⟩
      · have hkk : k = ll := by omega
        have HOk := Lib.hid (HAll2.out (by rw [← hkk]; exact HUk.out))
        go_wp2
        go_ret
        exact ⟨ret_b HOk.out.symm, hb⟩
  · have HBad := Lib.hid (HBH.out (by simpa using hkid))
    have q1 : (kid != 0) = true := by simpa using hkid
    clear HAll HBH hne
    go_enter Try.func11, Try.ntmps11
    go_wp2
    go_ret
    exact ⟨ret_b HBad.out.symm, Below.box _ _⟩
end Go.Proofs.Ytlcphgomhhejbaa

/- The walk of the reference's Right: nodes that are no leaf, and all. -/
namespace Go.Proofs.Ytlcphgomhhejbaa
open Go.RowKit

set_option maxRecDepth 100000 in
set_option maxHeartbeats 16000000 in
theorem rRight_inner (x : Rn) (m : RB) (w : World) (h : RAt w x m) (hlf : x.leaf = false) :
    Calls Try.prog 11 #[m.v x.leaf x.kid] w fun e w' => e = .returned (.bool x.ok) ∧ Below w.heap.size w w' := by
  have hll := h.hl
  have HA := Lib.hid h.arr
  have HF := Lib.hid h.fair
  have hmax := h.max
  have HIP := Lib.hid (fun p W => risPage_any p W)
  clear h
  have hhead : (if x.leaf then x.kid = 0 else x.l ≠ [] ∧ okPage x.kid = true) ∨ ¬ x.Ok := by
    by_cases hh : (if x.leaf then x.kid = 0 else x.l ≠ [] ∧ okPage x.kid = true)
    · exact .inl hh
    · refine .inr fun H => hh ?_
      have := H.2
      cases hl : x.leaf with
      | true => rw [hl] at this; exact this.1
      | false => rw [hl] at this; exact ⟨this.1, this.2.1⟩
  have hbadh : ¬ (if x.leaf then x.kid = 0 else x.l ≠ [] ∧ okPage x.kid = true) → x.ok = false := fun hh => Rn.ok_no (hhead.resolve_left hh)
  clear hhead
  have HBH := Lib.hid hbadh
  clear hbadh
  have hne : x.l ≠ [] ↔ 0 < m.ll := by rw [hll]; cases x.l <;> simp
  have HU : Hid (∀ k (p : Pt), x.l[k]? = some p → Upto x k → p.key.size ≤ 100 → (0 < k → ∀ q, x.l[k - 1]? = some q → lessK q.key p.key = true) → p.okK x.leaf = true → Upto x (k + 1)) := fun k p hp hu h1 h2 h3 => hu.step hp h1 h2 h3
  have HAll : Hid ((if x.leaf then x.kid = 0 else x.l ≠ [] ∧ okPage x.kid = true) → Upto x m.ll → x.ok = true) := fun hh hu => Rn.ok_yes (hu.all (by omega) hh)
  have HB1 : Hid (∀ k (p : Pt), x.l[k]? = some p → ¬ p.key.size ≤ 100 → x.ok = false) := fun k p hp h1 => Rn.ok_no (bad_len hp h1)
  have HB2 : Hid (∀ k (p : Pt), x.l[k]? = some p → p.okK x.leaf = false → x.ok = false) := fun k p hp h1 => Rn.ok_no (bad_kind hp h1)
  have HB3 : Hid (∀ k (p q : Pt), x.l[k]? = some p → x.l[k - 1]? = some q → 0 < k → lessK q.key p.key = false → x.ok = false) := fun k p q hp hq h0 h1 => Rn.ok_no (bad_order hp hq h0 h1)
  have HU0 : Hid (Upto x 0) := ⟨by intro i k h; simp at h, by simp⟩
  obtain ⟨leaf, kid, l⟩ := x
  obtain ⟨la, ll, lc⟩ := m
  simp only at *
  subst hlf
  have HLL := Lib.hid hll
  clear hll
  generalize Rn.ok ⟨false, kid, l⟩ = OK at *
  generalize hUp : Upto ⟨false, kid, l⟩ = Up at *
  clear hUp
  have HPart : Hid (∀ k, k < ll → ∃ b o p, la = some ⟨b, o, none⟩ ∧ b < w.heap.size ∧ l[k]? = some p ∧ p.fair ∧ w.cell? ⟨b, o + k * 4, none⟩ = some (.string p.key) ∧ w.cell? ⟨b, o + k * 4 + 1, none⟩ = some (.int .i64 p.len) ∧ w.cell? ⟨b, o + k * 4 + 2, none⟩ = some (.string p.data) ∧ w.cell? ⟨b, o + k * 4 + 3, none⟩ = some (.int .i64 p.page)) := by
    intro k hk
    have hkl : k < l.length := by have := HLL.out; omega
    obtain ⟨b, o, e1, hb, c0, c1, c2, c3⟩ := partAt HA.out hkl
    exact ⟨b, o, l[k], e1, hb, List.getElem?_eq_getElem hkl, HF.out _ (List.getElem_mem hkl), c0, c1, c2, c3⟩
  clear HA HF HLL
  simp only [Bool.false_eq_true, if_false] at HBH HAll
  rw [hne] at HBH HAll
  by_cases hll0 : 0 < ll
  · have q2 : ((ll : Int) == 0) = false := by first | (simp; done) | (simp; omega)
    have HIPk := HIP.out kid
    cases hpk : okPage kid with
    | true =>
      rw [hpk] at HIPk
      have HIPk2 := Lib.hid HIPk
      have HAll2 := Lib.hid (HAll.out ⟨hll0, hpk⟩)
      clear HAll HBH hne HIPk hpk
      go_enter Try.func11, Try.ntmps11
      go_wp2_with fail
      refine (HIPk2.out _).mono ?_
      rintro e w5 ⟨rfl, rfl⟩
      clear HIPk2
      go_wp2_with fail
      go_loopw [3] (fun iv wr => ∃ k : Nat, k ≤ ll ∧ iv = .int .i64 k ∧ Hid (Up k) ∧ Below w.heap.size w wr ∧ w.heap.size < wr.heap.size ∧ wr.cell? ⟨w.heap.size, 0, none⟩ = some (.bool false) ∧ wr.cell? ⟨w.heap.size, 2, none⟩ = some (.slice la ll lc)) (fun iv _ => ll - (intOf iv).toNat)
      case atStart => exact ⟨0, by omega, rfl, HU0, Below.box _ _, by simp, by simp, by simp⟩
      case round =>
        obtain ⟨k, hk, rfl, HUk, hb, hsz, n0, n2⟩ := hrel
        by_cases hlt : k < ll
        · obtain ⟨b, o, p, rfl, hbN, hp, hpf, c0, c1, c2, c3⟩ := HPart.out k hlt
          obtain ⟨hf1, hf2, hf3, hf4⟩ := hpf
          have d0 := (hb.cell (p := ⟨b, o + k * 4, none⟩) hbN).trans c0
          have d1 := (hb.cell (p := ⟨b, o + k * 4 + 1, none⟩) hbN).trans c1
          have d2 := (hb.cell (p := ⟨b, o + k * 4 + 2, none⟩) hbN).trans c2
          have d3 := (hb.cell (p := ⟨b, o + k * 4 + 3, none⟩) hbN).trans c3
          have HB1k := Lib.hid (HB1.out k p hp)
          have HB2k := Lib.hid (HB2.out k p hp)
          have HB3k := Lib.hid (fun q => HB3.out k p q hp)
          have HUk2 := Lib.hid (HU.out k p hp HUk.out)
          have hways := inner_ways p
          have hkK : p.okK false = p.okI := rfl
          rw [hkK] at HUk2 HB2k
          have HPrev : Hid (k = 0 ∨ (0 < k ∧ ∃ q : Pt, l[k - 1]? = some q ∧ w.cell? ⟨b, o + (k - 1) * 4, none⟩ = some (.string q.key))) := by
            by_cases h0 : k = 0
            · exact .inl h0
            · obtain ⟨b', o', q, e, _, hq, _, cq, _⟩ := HPart.out (k - 1) (by omega)
              simp only [Option.some.injEq, Addr.mk.injEq, and_true] at e
              obtain ⟨rfl, rfl⟩ := e
              exact .inr ⟨by omega, q, hq, cq⟩
          clear hkK hp c0 c1 c2 c3 HPart HB1 HB2 HB3 HU
          obtain ⟨key, len, data, page⟩ := p
          simp only at *
          have hbV : Below w.heap.size w (wr.alloc (.cells #[.string key, .int .i64 len, .string data, .int .i64 page] 65)) := hb.alloc hb.size _
          have v0 : (wr.alloc (.cells #[.string key, .int .i64 len, .string data, .int .i64 page] 65)).cell? ⟨wr.heap.size, 0, none⟩ = some (.string key) := by simp
          have v1 : (wr.alloc (.cells #[.string key, .int .i64 len, .string data, .int .i64 page] 65)).cell? ⟨wr.heap.size, 1, none⟩ = some (.int .i64 len) := by simp
          have v2 : (wr.alloc (.cells #[.string key, .int .i64 len, .string data, .int .i64 page] 65)).cell? ⟨wr.heap.size, 2, none⟩ = some (.string data) := by simp
          have v3 : (wr.alloc (.cells #[.string key, .int .i64 len, .string data, .int .i64 page] 65)).cell? ⟨wr.heap.size, 3, none⟩ = some (.int .i64 page) := by simp
          have vsz : wr.heap.size < (wr.alloc (.cells #[.string key, .int .i64 len, .string data, .int .i64 page] 65)).heap.size := by simp
          have m0 : (wr.alloc (.cells #[.string key, .int .i64 len, .string data, .int .i64 page] 65)).cell? ⟨w.heap.size, 0, none⟩ = some (.bool false) := by rw [World.cell?_alloc_past _ _ _ hsz]; exact n0
          have m2 : (wr.alloc (.cells #[.string key, .int .i64 len, .string data, .int .i64 page] 65)).cell? ⟨w.heap.size, 2, none⟩ = some (.slice (some ⟨b, o, none⟩) ll lc) := by rw [World.cell?_alloc_past _ _ _ hsz]; exact n2
          go_wp2_with fail
          clear d0 d1 d2 d3 n0 n2 hb
          generalize wr.alloc (.cells #[.string key, .int .i64 len, .string data, .int .i64 page] 65) = V at *
          generalize wr.heap.size = cb at *
          have g0 : ∀ W, Later V.drew W → W.cell? ⟨cb, 0, none⟩ = some (.string key) := fun W h => ((Later.undrew' h).cell (p := ⟨cb, 0, none⟩) vsz).trans v0
          have g2 : ∀ W, Later V.drew W → W.cell? ⟨w.heap.size, 2, none⟩ = some (.slice (some ⟨b, o, none⟩) ll lc) := fun W h => ((Later.undrew' h).cell (p := ⟨w.heap.size, 2, none⟩) (by show w.heap.size < V.heap.size; omega)).trans m2
          by_cases h100 : key.size ≤ 100
          · have q1 : decide ((100 : Int) < (key.size : Int)) = false := by first | (simp; done) | (simp; omega)
            rcases HPrev.out with hk0 | ⟨hk0, q, hq, cq⟩
            · have HU3 := Lib.hid (HUk2.out h100 (fun h => absurd h (by omega)))
              have q0 : decide ((0 : Int) < (k : Int)) = false := by first | (simp; done) | (simp; omega)
              have q0' : decide (0 < k) = false := by first | (simp; done) | (simp; omega)
              have HK0 := Lib.hid hk0
              clear hk0 HB3k HUk2 HPrev
              refine wp_region_ord [(0, true), (1, true), (2, true), (3, true), (4, true), (5, true), (6, true), (7, true), (8, true), (9, true), (10, true), (11, true), (12, true), (13, true), (14, true), (15, true), (16, true), (17, true), (18, true), (19, true)] (by kernel_rfl) (by kernel_rfl) (by kernel_rfl) (by kernel_rfl) ?_
              repeat (first | (refine wpO_F (v := ?_) rfl (by rfl) (fun w' hL => ?_) ?_; rotate_left; (solve | (go_simp; with_reducible rfl) | go_simp); try simp only [Act.put, List.setIfInBounds_toArray, List.set_cons_zero, List.set_cons_succ]) | (refine wpO_G rfl (by rfl) ?_; try simp only [Act.put, List.setIfInBounds_toArray, List.set_cons_zero, List.set_cons_succ]))
              refine wpO_nil ?_
              clear g0 g2
              rcases hways with ⟨h1, hok⟩ | ⟨rfl, h4, hok⟩ | ⟨rfl, h4, hok⟩
              · have x1 : (len != 0) = true := by simpa using h1
                have HBad := Lib.hid (HB2k.out hok)
                clear HU3 HB2k hok
                go_wp2
                go_ret
                exact ⟨ret_b HBad.out.symm, hbV.drew⟩
              · have x5 := empty_not data h4
                have x6 : (!data.toList.isEmpty) = true := by simpa using x5
                have HBad := Lib.hid (HB2k.out hok)
                clear HU3 HB2k hok
                go_wp2
                go_ret
                exact ⟨ret_b HBad.out.symm, hbV.drew⟩
              · have x5 := empty_list data h4
                generalize hr : okPage page = r at *
                have HIPp := HIP.out page
                rw [hr] at HIPp
                have HIPq := Lib.hid HIPp
                clear hr HIPp
                go_wp2_with fail
                refine (HIPq.out _).mono ?_
                rintro e w5 ⟨rfl, rfl⟩
                cases r with
                | true =>
                  have HU4 := Lib.hid (HU3.out hok)
                  clear HU3 HB2k hok
                  go_wp2
                  go_roundw
                  case rel => exact ⟨k + 1, by omega, by go_num, HU4, hbV.drew, by show w.heap.size < V.heap.size; omega, m0, m2⟩
                  case measure => simp [intOf]; omega
                | false =>
                  have HBad := Lib.hid (HB2k.out hok)
                  clear HU3 HB2k hok
                  go_wp2
                  go_ret
                  exact ⟨ret_b HBad.out.symm, hbV.drew⟩
            · have gq : ∀ W, Later V.drew W → W.cell? ⟨b, o + (k - 1) * 4, none⟩ = some (.string q.key) := fun W h => ((Later.undrew' h).cell (p := ⟨b, o + (k - 1) * 4, none⟩) (by show b < V.heap.size; omega)).trans ((hbV.cell (p := ⟨b, o + (k - 1) * 4, none⟩) hbN).trans cq)
              have q0 : decide ((0 : Int) < (k : Int)) = true := by first | (simp; done) | (simp; omega)
              have q0' : decide (0 < k) = true := by first | (simp; done) | (simp; omega)
              have hk1 : IntKind.i64.wrap ((k : Int) - 1) = ((k - 1 : Nat) : Int) := by rw [IntWalk.i64_in _ ⟨by omega, by omega⟩]; omega
              have hb1 : k - 1 < ll := by omega
              cases hl : lessK q.key key with
              | true =>
                have HU3 := Lib.hid (HUk2.out h100 (fun _ q' hq' => by rw [hq] at hq'; simp at hq'; subst hq'; exact hl))
                have q4 : Op.bytesLess q.key.toList key.toList = true := hl
                have q5 : (!Op.bytesLess q.key.toList key.toList) = false := by rw [q4]; rfl
                clear HB3k HUk2 HPrev hq cq hl
                refine wp_region_ord [(0, true), (1, true), (2, true), (3, true), (4, true), (5, true), (6, true), (7, true), (8, true), (9, true), (10, true), (11, true), (12, true), (13, true), (14, true), (15, true), (16, true), (17, true), (18, true), (19, true)] (by kernel_rfl) (by kernel_rfl) (by kernel_rfl) (by kernel_rfl) ?_
                repeat (first | (refine wpO_F (v := ?_) rfl (by rfl) (fun w' hL => ?_) ?_; rotate_left; (solve | (go_simp; with_reducible rfl) | go_simp); try simp only [Act.put, List.setIfInBounds_toArray, List.set_cons_zero, List.set_cons_succ]) | (refine wpO_G rfl (by rfl) ?_; try simp only [Act.put, List.setIfInBounds_toArray, List.set_cons_zero, List.set_cons_succ]))
                refine wpO_nil ?_
                clear g0 g2 gq hk1
                rcases hways with ⟨h1, hok⟩ | ⟨rfl, h4, hok⟩ | ⟨rfl, h4, hok⟩
                · have x1 : (len != 0) = true := by simpa using h1
                  have HBad := Lib.hid (HB2k.out hok)
                  clear HU3 HB2k hok
                  go_wp2
                  go_ret
                  exact ⟨ret_b HBad.out.symm, hbV.drew⟩
                · have x5 := empty_not data h4
                  have x6 : (!data.toList.isEmpty) = true := by simpa using x5
                  have HBad := Lib.hid (HB2k.out hok)
                  clear HU3 HB2k hok
                  go_wp2
                  go_ret
                  exact ⟨ret_b HBad.out.symm, hbV.drew⟩
                · have x5 := empty_list data h4
                  generalize hr : okPage page = r at *
                  have HIPp := HIP.out page
                  rw [hr] at HIPp
                  have HIPq := Lib.hid HIPp
                  clear hr HIPp
                  go_wp2_with fail
                  refine (HIPq.out _).mono ?_
                  rintro e w5 ⟨rfl, rfl⟩
                  cases r with
                  | true =>
                    have HU4 := Lib.hid (HU3.out hok)
                    clear HU3 HB2k hok
                    go_wp2
                    go_roundw
                    case rel => exact ⟨k + 1, by omega, by go_num, HU4, hbV.drew, by show w.heap.size < V.heap.size; omega, m0, m2⟩
                    case measure => simp [intOf]; omega
                  | false =>
                    have HBad := Lib.hid (HB2k.out hok)
                    clear HU3 HB2k hok
                    go_wp2
                    go_ret
                    exact ⟨ret_b HBad.out.symm, hbV.drew⟩
              | false =>
                have HBad := Lib.hid (HB3k.out q hq hk0 hl)
                have q4 : Op.bytesLess q.key.toList key.toList = false := hl
                have q5 : (!Op.bytesLess q.key.toList key.toList) = true := by rw [q4]; rfl
                clear HB3k HUk2 HPrev hq cq hl hways
                refine wp_region_ord [(0, true), (1, true), (2, true), (3, true), (4, true), (5, true), (6, true), (7, true), (8, true), (9, true), (10, true), (11, true), (12, true), (13, true), (14, true), (15, true), (16, true), (17, true), (18, true), (19, true)] (by kernel_rfl) (by kernel_rfl) (by kernel_rfl) (by kernel_rfl) ?_
                repeat (first | (refine wpO_F (v := ?_) rfl (by rfl) (fun w' hL => ?_) ?_; rotate_left; (solve | (go_simp; with_reducible rfl) | go_simp); try simp only [Act.put, List.setIfInBounds_toArray, List.set_cons_zero, List.set_cons_succ]) | (refine wpO_G rfl (by rfl) ?_; try simp only [Act.put, List.setIfInBounds_toArray, List.set_cons_zero, List.set_cons_succ]))
                refine wpO_nil ?_
                go_wp2
                go_ret
                exact ⟨ret_b HBad.out.symm, hbV.drew⟩
          · have q1 : decide ((100 : Int) < (key.size : Int)) = true := by first | (simp; done) | (simp; omega)
            have HBad := Lib.hid (HB1k.out h100)
            clear HB3k HUk2 HPrev hways
            refine wp_region_ord [(0, true), (1, true), (2, true), (3, true), (4, true), (5, true), (6, true), (7, true), (8, true), (9, true), (10, true), (11, true), (12, true), (13, true), (14, true), (15, true), (16, true), (17, true), (18, true), (19, true)] (by kernel_rfl) (by kernel_rfl) (by kernel_rfl) (by kernel_rfl) ?_
            repeat (first | (refine wpO_F (v := ?_) rfl (by rfl) (fun w' hL => ?_) ?_; rotate_left; (solve | (go_simp; with_reducible rfl) | go_simp); try simp only [Act.put, List.setIfInBounds_toArray, List.set_cons_zero, List.set_cons_succ]) | (refine wpO_G rfl (by rfl) ?_; try simp only [Act.put, List.setIfInBounds_toArray, List.set_cons_zero, List.set_cons_succ]))
            refine wpO_nil ?_
            go_wp2
            go_ret
            exact ⟨ret_b HBad.out.symm, hbV.drew⟩
        · have hkk : k = ll := by omega
          have HOk := Lib.hid (HAll2.out (by rw [← hkk]; exact HUk.out))
          go_wp2
          go_ret
          exact ⟨ret_b HOk.out.symm, hb⟩
    | false =>
      rw [hpk] at HIPk
      have HIPk2 := Lib.hid HIPk
      have HBad := Lib.hid (HBH.out (by rw [hpk]; simp))
      clear HAll HBH hne HIPk hpk
      go_enter Try.func11, Try.ntmps11
      go_wp2_with fail
      refine (HIPk2.out _).mono ?_
      rintro e w5 ⟨rfl, rfl⟩
      go_wp2
      go_ret
      exact ⟨ret_b HBad.out.symm, Below.box _ _⟩
  · have HBad := Lib.hid (HBH.out (fun h => hll0 h.1))
    have hl0 : ll = 0 := by omega
    subst hl0
    clear HAll HBH hne
    go_enter Try.func11, Try.ntmps11
    go_wp2
    go_ret
    exact ⟨ret_b HBad.out.symm, Below.box _ _⟩

theorem rRight_any (x : Rn) (m : RB) (w : World) (h : RAt w x m) :
    Calls Try.prog 11 #[m.v x.leaf x.kid] w fun e w' => e = .returned (.bool x.ok) ∧ Below w.heap.size w w' := by
  cases hl : x.leaf with
  | true => have := rRight_leaf x m w h hl; rw [hl] at this; exact this
  | false => have := rRight_inner x m w h hl; rw [hl] at this; exact this
end Go.Proofs.Ytlcphgomhhejbaa

/- The walk of the law's As, where the node has not one thing for each key. -/
namespace Go.Proofs.Ytlcphgomhhejbaa
open Go.RowKit

def RetAs (w : World) (n : Nd) (e : Ending) (w' : World) : Prop :=
  ∃ (x : Rn) (mb : RB), e = .returned (.tuple #[mb.v x.leaf x.kid, .bool n.shaped]) ∧ (n.shaped = true → x = n.asR) ∧ RAt w' x mb ∧ Below w.heap.size w w'

theorem as_blks (w : World) (o : Obj) (T : TypeId) (z z' : Array Value) : Blk (((w.alloc o).alloc (.cells z T)).alloc (.cells z' T)) (w.heap.size + 1) T z ∧ Blk (((w.alloc o).alloc (.cells z T)).alloc (.cells z' T)) (w.heap.size + 1 + 1) T z' := by
  have h1 := Blk.new (w.alloc o) T z
  have h2 := Blk.new ((w.alloc o).alloc (.cells z T)) T z'
  simp only [World.alloc, Array.size_push] at h1 h2 ⊢
  exact ⟨Blk.alloc h1 _, h2⟩

theorem RAt_empty (w : World) (leaf : Bool) (kid : Int) (hk : -9223372036854775808 ≤ kid ∧ kid ≤ 9223372036854775807) : RAt w ⟨leaf, kid, []⟩ ⟨none, 0, 0⟩ :=
  ⟨rfl, by simp, by simp, .inl rfl, hk, by simp⟩

set_option maxRecDepth 100000 in
set_option maxHeartbeats 2000000 in
theorem as_no (n : Nd) (m : NB) (w : World) (h : NAt w n m) (hs : n.shaped = false) :
    Calls Try.prog 10 #[m.v n.leaf] w (RetAs w n) := by
  have HX : Hid (∀ W, Below w.heap.size w W → RetAs w n (.returned (.tuple #[.agg #[.bool n.leaf, .int .i64 0, .slice none 0 0], .bool false])) W) := fun W hb =>
    ⟨⟨n.leaf, 0, []⟩, ⟨none, 0, 0⟩, by rw [hs], by rw [hs]; simp, RAt_empty _ _ _ (by omega), hb⟩
  have hk := h.hk
  have hc := h.hc
  have hd := h.hd
  have kmax := h.kmax
  have cmax := h.cmax
  have dmax := h.dmax
  clear h
  obtain ⟨ka, kl, kc, ca, cl, cc, da, dl, dc⟩ := m
  obtain ⟨leaf, ks, cs, ps⟩ := n
  have hways : (leaf = true ∧ (cl ≠ kl ∨ (cl = kl ∧ 0 < dl))) ∨ (leaf = false ∧ (dl ≠ kl + 1 ∨ (dl = kl + 1 ∧ 0 < cl))) := by
    unfold Nd.shaped at hs
    simp only at hs hk hc hd
    cases leaf with
    | true =>
      simp only [if_true, decide_eq_false_iff_not] at hs
      left; refine ⟨rfl, ?_⟩; omega
    | false =>
      simp only [Bool.false_eq_true, if_false, decide_eq_false_iff_not] at hs
      right; refine ⟨rfl, ?_⟩; omega
  simp only at *
  clear hk hc hd hs
  generalize hRR : RetAs w ⟨leaf, ks, cs, ps⟩ = RR at *
  clear hRR
  rcases hways with ⟨rfl, h1 | ⟨h1, h2⟩⟩ | ⟨rfl, h1 | ⟨h1, h2⟩⟩
  · have q1 : ((cl : Int) != (kl : Int)) = true := by simp; omega
    go_enter Try.func10, Try.ntmps10
    go_wp2
    refine bodyPost_ret (v := .tuple #[.agg #[.bool true, .int .i64 0, .slice none 0 0], .bool false]) (by simp [results, Try.results10, go_sem]) rfl (HX.out _ ?_)
    exact (((Below.refl _ w).alloc (Nat.le_refl _) _).alloc (by simp) _).alloc (by simp; omega) _
  · have q1 : ((cl : Int) != (kl : Int)) = false := by simp; omega
    go_enter Try.func10, Try.ntmps10
    go_wp2
    refine bodyPost_ret (v := .tuple #[.agg #[.bool true, .int .i64 0, .slice none 0 0], .bool false]) (by simp [results, Try.results10, go_sem]) rfl (HX.out _ ?_)
    exact (((Below.refl _ w).alloc (Nat.le_refl _) _).alloc (by simp) _).alloc (by simp; omega) _
  · have q1 : ((dl : Int) != (kl : Int) + 1) = true := by simp; omega
    go_enter Try.func10, Try.ntmps10
    go_wp2
    refine bodyPost_ret (v := .tuple #[.agg #[.bool false, .int .i64 0, .slice none 0 0], .bool false]) (by simp [results, Try.results10, go_sem]) rfl (HX.out _ ?_)
    exact (((Below.refl _ w).alloc (Nat.le_refl _) _).alloc (by simp) _).alloc (by simp; omega) _
  · have q1 : ((dl : Int) != (kl : Int) + 1) = false := by simp; omega
    go_enter Try.func10, Try.ntmps10
    go_wp2
    refine bodyPost_ret (v := .tuple #[.agg #[.bool false, .int .i64 0, .slice none 0 0], .bool false]) (by simp [results, Try.results10, go_sem]) rfl (HX.out _ ?_)
    exact (((Below.refl _ w).alloc (Nat.le_refl _) _).alloc (by simp) _).alloc (by simp; omega) _
end Go.Proofs.Ytlcphgomhhejbaa
