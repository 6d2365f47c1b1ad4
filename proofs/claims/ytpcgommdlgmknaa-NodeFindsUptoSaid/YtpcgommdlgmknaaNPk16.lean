/- Several texts of one proof, one behind the other. -/
import Derived.Test.YtpcgommdlgmknaaNPk15
import Derived.Laws.StructEq

/- node.Read of a leaf. -/
namespace Go.Proofs.Ytpcgommdlgmknaa
open Go.RowKit

set_option maxRecDepth 100000 in
set_option maxHeartbeats 4000000 in
theorem read_leaf (b : List Nat) (a : Option Addr) (cap : Nat) (w : World) (hB : Bs w.heap.size w a b) (hl : b.length = 512) (hcap : 512 ≤ cap) (h1 : valL (cutL b 0 1) = 1) :
    Calls Try.prog 17 #[.slice a 512 cap] w (RetRd w b) := by
  have hst : bytesOf (strN b) = b := bytesOf_strB hB.1
  have hs : (strN b).size = 512 := by rw [strN_size, hl]
  have HCV := Lib.hid (fun W (hb : Below w.heap.size w W) => (hB.below hb).conv 27 5 Try.underlying27 Try.underlying5 9 Try.underlying9 512 cap hl.symm)
  have hcv := HCV.out _ (Below.box w (.cells #[.bool false, .slice none 0 0, .slice none 0 0, .slice none 0 0] 26))
  have HN := fun W (hW : Rdr W (w.heap.size + 1) (strN b) 0 true) => rnumber_any (w.heap.size + 1) (strN b) 0 1 true 1 W rfl hW (by omega) (by omega) (by omega)
  rw [rdN_fit (show 0 + 1 ≤ (strN b).size by omega), hst] at HN
  have HN := Lib.hid HN
  have HNo : Hid (∀ W, Below w.heap.size w W → decN b = none → RetRd w b (.returned (.tuple #[.agg #[.bool false, .slice none 0 0, .slice none 0 0, .slice none 0 0], .int .i64 3])) W) := fun W hb hd => RetRd.no hd hb
  have HYes : Hid (∀ (x : Rn) (m : NB) W, decN b = some x → NAt W x.asN m → m.kl ≤ 100000 → Below w.heap.size w W → RetRd w b (.returned (.tuple #[m.v x.leaf, .int .i64 0])) W) := fun x m W h1 h2 h3 h4 => RetRd.yes h1 h2 h3 h4
  have hd : decN b = tailN b 0 true (decs true b 3 (valL (cutL b 1 2))) := by unfold decN; rw [if_pos hl, if_pos h1]
  have hsh : ∀ (l : List Pt) (q : Nat), decs true b 3 (valL (cutL b 1 2)) = some (l, q) → (Rn.mk true 0 l).asN = leafOf l ∧ (leafOf l).ok = (Rn.mk true 0 l).ok := by
    intro l q hq
    have hp : (Rn.mk true 0 l).plain := by
      unfold Rn.plain
      simp
    have h0 : (Rn.mk true 0 l).asN = leafOf l := rfl
    exact ⟨h0, by rw [← h0]; exact ok_asN hp⟩
  have HSh := Lib.hid hsh
  have HD := Lib.hid hd
  rw [h1] at HN
  have HL := fun W (hW : Rdr W (w.heap.size + 1) (strN b) 1 true) => rleaf_any (w.heap.size + 1) (strN b) W hW hs
  rw [hst] at HL
  have HZr := Lib.hid (fun at_ ok W (hW : Rdr W (w.heap.size + 1) (strN b) at_ ok) (ha : at_ ≤ (strN b).size) => zeros_any (w.heap.size + 1) (strN b) at_ ok W hW ha (by omega))
  rw [hst] at HZr
  have HL := Lib.hid HL
  clear hd hsh h1
  obtain ⟨s, hss⟩ : ∃ s, strN b = s := ⟨_, rfl⟩
  rw [hss] at hs hst HN hcv HL HZr
  have HST := Lib.hid hst
  have HS := Lib.hid hs
  clear hB HCV hss hst
  generalize RetRd w b = RR at *
  go_enter Try.func17, Try.ntmps17
  go_wp2_with fail
  refine (HN.out _ ?_).mono ?_
  · exact rdr_new w _ _ s
  rintro e w1 ⟨rfl, hR, hC⟩
  obtain ⟨hb0, hb2⟩ := read_blks w (.cells #[.bool false, .slice none 0 0, .slice none 0 0, .slice none 0 0] 26) (.cells #[.string s, .int .i64 0, .bool true] 78) 26 #[.bool false, .slice none 0 0, .slice none 0 0, .slice none 0 0]
  have hE : Below w.heap.size w w1 := Below.trans ((((Below.refl _ w).alloc (Nat.le_refl _) _).alloc (by simp) _).alloc (by simp; omega) _) (hC.below (by simp; omega) (by simp))
  have HB0 := Lib.hid (hb0.chg hC (by simp))
  have HB2 := Lib.hid (hb2.chg hC (by simp))
  have HE := Lib.hid hE
  have HR1 := Lib.hid hR
  have hsz1 : w.heap.size + 1 + 1 < w1.heap.size := HB2.out.lt
  clear hR hC hb0 hb2 hE HN
  go_wp2_with fail
  refine (HL.out _ HR1.out).mono ?_
  rintro e w2 ⟨l, at_, ok, m, rfl, hNA, hkl, hR, hC, hat, hyes, hnone, hF⟩
  rw [HST.out] at hyes hnone
  have HE2 : Hid (Below w.heap.size w w2) := HE.out.trans (hC.below (by omega) (by simp))
  have hB2 := HB2.out.chg hC (by simp)
  have HB02 := Lib.hid (HB0.out.chg hC (by simp))
  have hsz2 : w.heap.size + 1 + 1 < w2.heap.size := Nat.lt_of_lt_of_le hsz1 hC.size
  have n0 : w2.cell? ⟨w.heap.size + 1 + 1, 0, none⟩ = some (.bool false) := hB2.cell 0
  have n1 : w2.cell? ⟨w.heap.size + 1 + 1, 1, none⟩ = some (.slice none 0 0) := hB2.cell 1
  have n2 : w2.cell? ⟨w.heap.size + 1 + 1, 2, none⟩ = some (.slice none 0 0) := hB2.cell 2
  have n3 : w2.cell? ⟨w.heap.size + 1 + 1, 3, none⟩ = some (.slice none 0 0) := hB2.cell 3
  have f0 := hB2.frozen 0
  have f1 := hB2.frozen 1
  have f2 := hB2.frozen 2
  have f3 := hB2.frozen 3
  have HW3 : Hid (∃ w3, set4 w2 (w.heap.size + 1 + 1) (.bool true) (.slice m.ka m.kl m.kc) (.slice m.ca m.cl m.cc) (.slice m.da m.dl m.dc) = w3 ∧
      Blk w3 (w.heap.size + 1 + 1) 26 #[.bool true, .slice m.ka m.kl m.kc, .slice m.ca m.cl m.cc, .slice m.da m.dl m.dc] ∧ Blk w3 w.heap.size 26 #[.bool false, .slice none 0 0, .slice none 0 0, .slice none 0 0] ∧
      Rdr w3 (w.heap.size + 1) s at_ ok ∧ NAt w3 (leafOf l) m ∧ Below w.heap.size w w3 ∧ w2.heap.size = w3.heap.size) :=
    ⟨_, rfl, hB2.st4 _ _ _ _, HB02.out.st4_far (by omega) _ _ _ _, Blk.st4_far hR (by omega) _ _ _ _, hNA.set4 hF (by omega) _ _ _ _, set4_below HE2.out (by omega) _ _ _ _, (set4_size _ _ _ _ _ _).symm⟩
  have HF := Lib.hid (hF.mono (show w.heap.size + 1 ≤ _ by omega))
  have HYs := Lib.hid hyes
  have HNn := Lib.hid hnone
  clear hyes hnone hF hNA hR hC hB2 HL HR1 HB2
  obtain ⟨w3, hw3, hB3, hB03, hR3, hNA3, hE3, hsz3⟩ := HW3.out
  clear HW3
  go_upto_region 11 with (fail)
  unfold set4 at hw3
  rw [hw3]
  clear hw3 n0 n1 n2 n3 f0 f1 f2 f3
  have hlt3 : w.heap.size + 1 + 1 < w3.heap.size := by omega
  have hlt0 : w.heap.size < w3.heap.size := by omega
  have rd2 : w3.cell? ⟨w.heap.size + 1, 2, none⟩ = some (.bool ok) := hR3.cell 2
  cases ok with
  | false =>
    have hdn : decN b = none := by rw [HD.out, HNn.out rfl]; rfl
    have r0 : w3.cell? ⟨w.heap.size, 0, none⟩ = some (.bool false) := Blk.cell hB03 0
    have r1 : w3.cell? ⟨w.heap.size, 1, none⟩ = some (.slice none 0 0) := Blk.cell hB03 1
    have r2 : w3.cell? ⟨w.heap.size, 2, none⟩ = some (.slice none 0 0) := Blk.cell hB03 2
    have r3 : w3.cell? ⟨w.heap.size, 3, none⟩ = some (.slice none 0 0) := Blk.cell hB03 3
    have f0 : w3.frozen? ⟨w.heap.size, 0, none⟩ = false := Blk.frozen hB03 0
    have f1 : w3.frozen? ⟨w.heap.size, 1, none⟩ = false := Blk.frozen hB03 1
    have f2 : w3.frozen? ⟨w.heap.size, 2, none⟩ = false := Blk.frozen hB03 2
    have f3 : w3.frozen? ⟨w.heap.size, 3, none⟩ = false := Blk.frozen hB03 3
    have HFin : Hid (∀ v0 v1 v2 v3, RR (.returned (.tuple #[.agg #[.bool false, .slice none 0 0, .slice none 0 0, .slice none 0 0], .int .i64 3])) (set4 w3 w.heap.size v0 v1 v2 v3)) := fun v0 v1 v2 v3 => HNo.out _ (set4_below hE3 (Nat.le_refl _) _ _ _ _) hdn
    clear hdn hB3 hB03 hR3 hNA3 hE3
    go_wp2
    refine bodyPost_ret (v := .tuple #[.agg #[.bool false, .slice none 0 0, .slice none 0 0, .slice none 0 0], .int .i64 3]) (by simp [results, Try.results17, go_sem, r0, r1, r2, r3, hlt0]) rfl (HFin.out _ _ _ _)
  | true =>
    have hq := HYs.out rfl
    obtain ⟨hasn, hokn⟩ := HSh.out l at_ hq
    have hdz : decN b = if (b.drop at_).all (· == 0) && (Rn.mk true 0 l).ok then some ⟨true, 0, l⟩ else none := by rw [HD.out, hq]; rfl
    have HZ3 := HZr.out at_ true w3 hR3 hat
    have HRt := Lib.hid (fun W (hb : Below w3.heap.size w3 W) => NRight_any (leafOf l) m W (hNA3.later hb))
    rw [hokn] at HRt
    generalize (b.drop at_).all (· == 0) = z at HZ3 hdz
    generalize (Rn.mk true 0 l).ok = r at HRt hdz
    have HDZ := Lib.hid hdz
    have HAS := Lib.hid hasn
    have HB3 := Lib.hid hB3
    have HB03 := Lib.hid hB03
    have HNA := Lib.hid hNA3
    have HE3 := Lib.hid hE3
    clear hq hasn hokn hdz hB3 hB03 hR3 hNA3 hE3 HZr
    go_wp2_with fail
    refine HZ3.mono ?_
    rintro e w4 ⟨rfl, hb4⟩
    have hlt4 : w.heap.size + 1 + 1 < w4.heap.size := Nat.lt_of_lt_of_le hlt3 hb4.size
    have hlt0 : w.heap.size < w4.heap.size := by omega
    cases z with
    | false =>
      have r0 : w4.cell? ⟨w.heap.size, 0, none⟩ = some (.bool false) := Blk.cell (HB03.out.bel hb4 (by omega)) 0
      have r1 : w4.cell? ⟨w.heap.size, 1, none⟩ = some (.slice none 0 0) := Blk.cell (HB03.out.bel hb4 (by omega)) 1
      have r2 : w4.cell? ⟨w.heap.size, 2, none⟩ = some (.slice none 0 0) := Blk.cell (HB03.out.bel hb4 (by omega)) 2
      have r3 : w4.cell? ⟨w.heap.size, 3, none⟩ = some (.slice none 0 0) := Blk.cell (HB03.out.bel hb4 (by omega)) 3
      have f0 : w4.frozen? ⟨w.heap.size, 0, none⟩ = false := Blk.frozen (HB03.out.bel hb4 (by omega)) 0
      have f1 : w4.frozen? ⟨w.heap.size, 1, none⟩ = false := Blk.frozen (HB03.out.bel hb4 (by omega)) 1
      have f2 : w4.frozen? ⟨w.heap.size, 2, none⟩ = false := Blk.frozen (HB03.out.bel hb4 (by omega)) 2
      have f3 : w4.frozen? ⟨w.heap.size, 3, none⟩ = false := Blk.frozen (HB03.out.bel hb4 (by omega)) 3
      have HFin : Hid (∀ v0 v1 v2 v3, RR (.returned (.tuple #[.agg #[.bool false, .slice none 0 0, .slice none 0 0, .slice none 0 0], .int .i64 3])) (set4 w4 w.heap.size v0 v1 v2 v3)) := fun v0 v1 v2 v3 => HNo.out _ (set4_below (HE3.out.trans (hb4.mono HE3.out.size)) (Nat.le_refl _) _ _ _ _) (by rw [HDZ.out]; rfl)
      clear hb4 rd2 HZ3
      go_wp2
      refine bodyPost_ret (v := .tuple #[.agg #[.bool false, .slice none 0 0, .slice none 0 0, .slice none 0 0], .int .i64 3]) (by simp [results, Try.results17, go_sem, r0, r1, r2, r3, hlt0]) rfl (HFin.out _ _ _ _)
    | true =>
      have hBn := HB3.out.bel hb4 (by omega)
      have m0 : w4.cell? ⟨w.heap.size + 1 + 1, 0, none⟩ = some (.bool true) := hBn.cell 0
      have m1 : w4.cell? ⟨w.heap.size + 1 + 1, 1, none⟩ = some (.slice m.ka m.kl m.kc) := hBn.cell 1
      have m2 : w4.cell? ⟨w.heap.size + 1 + 1, 2, none⟩ = some (.slice m.ca m.cl m.cc) := hBn.cell 2
      have m3 : w4.cell? ⟨w.heap.size + 1 + 1, 3, none⟩ = some (.slice m.da m.dl m.dc) := hBn.cell 3
      have HBn := Lib.hid hBn
      clear hBn rd2 HZ3
      go_wp2_with fail
      refine (HRt.out _ hb4).mono ?_
      rintro e w5 ⟨rfl, hb5⟩
      have hlt5 : w.heap.size + 1 + 1 < w5.heap.size := Nat.lt_of_lt_of_le hlt4 hb5.size
      have hlt0 : w.heap.size < w5.heap.size := by omega
      have hE5 : Below w.heap.size w w5 := HE3.out.trans ((Below.trans hb4 (hb5.mono hb4.size)).mono HE3.out.size)
      have hBn := HBn.out.bel hb5 (by omega)
      have m0 : w5.cell? ⟨w.heap.size + 1 + 1, 0, none⟩ = some (.bool true) := hBn.cell 0
      have m1 : w5.cell? ⟨w.heap.size + 1 + 1, 1, none⟩ = some (.slice m.ka m.kl m.kc) := hBn.cell 1
      have m2 : w5.cell? ⟨w.heap.size + 1 + 1, 2, none⟩ = some (.slice m.ca m.cl m.cc) := hBn.cell 2
      have m3 : w5.cell? ⟨w.heap.size + 1 + 1, 3, none⟩ = some (.slice m.da m.dl m.dc) := hBn.cell 3
      have r0 : w5.cell? ⟨w.heap.size, 0, none⟩ = some (.bool false) := Blk.cell ((HB03.out.bel hb4 (by omega)).bel hb5 (by omega)) 0
      have r1 : w5.cell? ⟨w.heap.size, 1, none⟩ = some (.slice none 0 0) := Blk.cell ((HB03.out.bel hb4 (by omega)).bel hb5 (by omega)) 1
      have r2 : w5.cell? ⟨w.heap.size, 2, none⟩ = some (.slice none 0 0) := Blk.cell ((HB03.out.bel hb4 (by omega)).bel hb5 (by omega)) 2
      have r3 : w5.cell? ⟨w.heap.size, 3, none⟩ = some (.slice none 0 0) := Blk.cell ((HB03.out.bel hb4 (by omega)).bel hb5 (by omega)) 3
      have f0 : w5.frozen? ⟨w.heap.size, 0, none⟩ = false := Blk.frozen ((HB03.out.bel hb4 (by omega)).bel hb5 (by omega)) 0
      have f1 : w5.frozen? ⟨w.heap.size, 1, none⟩ = false := Blk.frozen ((HB03.out.bel hb4 (by omega)).bel hb5 (by omega)) 1
      have f2 : w5.frozen? ⟨w.heap.size, 2, none⟩ = false := Blk.frozen ((HB03.out.bel hb4 (by omega)).bel hb5 (by omega)) 2
      have f3 : w5.frozen? ⟨w.heap.size, 3, none⟩ = false := Blk.frozen ((HB03.out.bel hb4 (by omega)).bel hb5 (by omega)) 3
      cases r with
      | false =>
        have HFin : Hid (∀ v0 v1 v2 v3, RR (.returned (.tuple #[.agg #[.bool false, .slice none 0 0, .slice none 0 0, .slice none 0 0], .int .i64 3])) (set4 w5 w.heap.size v0 v1 v2 v3)) := fun v0 v1 v2 v3 => HNo.out _ (set4_below hE5 (Nat.le_refl _) _ _ _ _) (by rw [HDZ.out]; rfl)
        clear hb4 hb5 hE5 hBn HRt
        go_wp2
        refine bodyPost_ret (v := .tuple #[.agg #[.bool false, .slice none 0 0, .slice none 0 0, .slice none 0 0], .int .i64 3]) (by simp [results, Try.results17, go_sem, r0, r1, r2, r3, hlt0]) rfl (HFin.out _ _ _ _)
      | true =>
        have hNA5 := (HNA.out.later hb4).later hb5
        have HFin : Hid (∀ v0 v1 v2 v3, RR (.returned (.tuple #[m.v true, .int .i64 0])) (set4 w5 w.heap.size v0 v1 v2 v3)) := fun v0 v1 v2 v3 => HYes.out ⟨true, 0, l⟩ m _ (by rw [HDZ.out]; rfl) (by rw [HAS.out]; exact hNA5.set4 HF.out (Nat.lt_succ_self _) _ _ _ _) hkl (set4_below hE5 (Nat.le_refl _) _ _ _ _)
        clear hb4 hb5 hE5 hBn HRt hNA5
        go_wp2
        refine bodyPost_ret (v := .tuple #[m.v true, .int .i64 0]) (by simp [results, Try.results17, go_sem, r0, r1, r2, r3, hlt0]) rfl (HFin.out _ _ _ _)
end Go.Proofs.Ytpcgommdlgmknaa

/- node.Read of an inner node. -/
namespace Go.Proofs.Ytpcgommdlgmknaa
open Go.RowKit

set_option maxRecDepth 100000 in
set_option maxHeartbeats 4000000 in
theorem read_inner (b : List Nat) (a : Option Addr) (cap : Nat) (w : World) (hB : Bs w.heap.size w a b) (hl : b.length = 512) (hcap : 512 ≤ cap) (h1 : valL (cutL b 0 1) = 2) :
    Calls Try.prog 17 #[.slice a 512 cap] w (RetRd w b) := by
  have hst : bytesOf (strN b) = b := bytesOf_strB hB.1
  have hs : (strN b).size = 512 := by rw [strN_size, hl]
  have HCV := Lib.hid (fun W (hb : Below w.heap.size w W) => (hB.below hb).conv 27 5 Try.underlying27 Try.underlying5 9 Try.underlying9 512 cap hl.symm)
  have hcv := HCV.out _ (Below.box w (.cells #[.bool false, .slice none 0 0, .slice none 0 0, .slice none 0 0] 26))
  have HN := fun W (hW : Rdr W (w.heap.size + 1) (strN b) 0 true) => rnumber_any (w.heap.size + 1) (strN b) 0 1 true 1 W rfl hW (by omega) (by omega) (by omega)
  rw [rdN_fit (show 0 + 1 ≤ (strN b).size by omega), hst] at HN
  have HN := Lib.hid HN
  have HNo : Hid (∀ W, Below w.heap.size w W → decN b = none → RetRd w b (.returned (.tuple #[.agg #[.bool false, .slice none 0 0, .slice none 0 0, .slice none 0 0], .int .i64 3])) W) := fun W hb hd => RetRd.no hd hb
  have HYes : Hid (∀ (x : Rn) (m : NB) W, decN b = some x → NAt W x.asN m → m.kl ≤ 100000 → Below w.heap.size w W → RetRd w b (.returned (.tuple #[m.v x.leaf, .int .i64 0])) W) := fun x m W h1 h2 h3 h4 => RetRd.yes h1 h2 h3 h4
  have hd : decN b = tailN b (valL (cutL b 3 4)) false (decs false b 7 (valL (cutL b 1 2))) := by unfold decN; rw [if_pos hl, if_neg (by omega), if_pos h1]
  have hsh : ∀ (l : List Pt) (q : Nat), decs false b 7 (valL (cutL b 1 2)) = some (l, q) → (Rn.mk false (valL (cutL b 3 4)) l).asN = (innerOf (valL (cutL b 3 4) : Nat)) l ∧ ((innerOf (valL (cutL b 3 4) : Nat)) l).ok = (Rn.mk false (valL (cutL b 3 4)) l).ok := by
    intro l q hq
    have hp : (Rn.mk false (valL (cutL b 3 4)) l).plain := by
      unfold Rn.plain
      simp only [Bool.false_eq_true, if_false]; exact decs_plain hq
    have h0 : (Rn.mk false (valL (cutL b 3 4)) l).asN = (innerOf (valL (cutL b 3 4) : Nat)) l := rfl
    exact ⟨h0, by rw [← h0]; exact ok_asN hp⟩
  have HSh := Lib.hid hsh
  have HD := Lib.hid hd
  rw [h1] at HN
  have HL := fun W (hW : Rdr W (w.heap.size + 1) (strN b) 1 true) => rinner_any (w.heap.size + 1) (strN b) W hW hs
  rw [hst] at HL
  have HZr := Lib.hid (fun at_ ok W (hW : Rdr W (w.heap.size + 1) (strN b) at_ ok) (ha : at_ ≤ (strN b).size) => zeros_any (w.heap.size + 1) (strN b) at_ ok W hW ha (by omega))
  rw [hst] at HZr
  have HL := Lib.hid HL
  clear hd hsh h1
  obtain ⟨s, hss⟩ : ∃ s, strN b = s := ⟨_, rfl⟩
  rw [hss] at hs hst HN hcv HL HZr
  have HST := Lib.hid hst
  have HS := Lib.hid hs
  clear hB HCV hss hst
  generalize RetRd w b = RR at *
  go_enter Try.func17, Try.ntmps17
  go_wp2_with fail
  refine (HN.out _ ?_).mono ?_
  · exact rdr_new w _ _ s
  rintro e w1 ⟨rfl, hR, hC⟩
  obtain ⟨hb0, hb2⟩ := read_blks w (.cells #[.bool false, .slice none 0 0, .slice none 0 0, .slice none 0 0] 26) (.cells #[.string s, .int .i64 0, .bool true] 78) 26 #[.bool false, .slice none 0 0, .slice none 0 0, .slice none 0 0]
  have hE : Below w.heap.size w w1 := Below.trans ((((Below.refl _ w).alloc (Nat.le_refl _) _).alloc (by simp) _).alloc (by simp; omega) _) (hC.below (by simp; omega) (by simp))
  have HB0 := Lib.hid (hb0.chg hC (by simp))
  have HB2 := Lib.hid (hb2.chg hC (by simp))
  have HE := Lib.hid hE
  have HR1 := Lib.hid hR
  have hsz1 : w.heap.size + 1 + 1 < w1.heap.size := HB2.out.lt
  clear hR hC hb0 hb2 hE HN
  go_wp2_with fail
  refine (HL.out _ HR1.out).mono ?_
  rintro e w2 ⟨l, at_, ok, m, rfl, hNA, hkl, hR, hC, hat, hyes, hnone, hF⟩
  rw [HST.out] at hyes hnone
  have HE2 : Hid (Below w.heap.size w w2) := HE.out.trans (hC.below (by omega) (by simp))
  have hB2 := HB2.out.chg hC (by simp)
  have HB02 := Lib.hid (HB0.out.chg hC (by simp))
  have hsz2 : w.heap.size + 1 + 1 < w2.heap.size := Nat.lt_of_lt_of_le hsz1 hC.size
  have n0 : w2.cell? ⟨w.heap.size + 1 + 1, 0, none⟩ = some (.bool false) := hB2.cell 0
  have n1 : w2.cell? ⟨w.heap.size + 1 + 1, 1, none⟩ = some (.slice none 0 0) := hB2.cell 1
  have n2 : w2.cell? ⟨w.heap.size + 1 + 1, 2, none⟩ = some (.slice none 0 0) := hB2.cell 2
  have n3 : w2.cell? ⟨w.heap.size + 1 + 1, 3, none⟩ = some (.slice none 0 0) := hB2.cell 3
  have f0 := hB2.frozen 0
  have f1 := hB2.frozen 1
  have f2 := hB2.frozen 2
  have f3 := hB2.frozen 3
  have HW3 : Hid (∃ w3, set4 w2 (w.heap.size + 1 + 1) (.bool false) (.slice m.ka m.kl m.kc) (.slice m.ca m.cl m.cc) (.slice m.da m.dl m.dc) = w3 ∧
      Blk w3 (w.heap.size + 1 + 1) 26 #[.bool false, .slice m.ka m.kl m.kc, .slice m.ca m.cl m.cc, .slice m.da m.dl m.dc] ∧ Blk w3 w.heap.size 26 #[.bool false, .slice none 0 0, .slice none 0 0, .slice none 0 0] ∧
      Rdr w3 (w.heap.size + 1) s at_ ok ∧ NAt w3 ((innerOf (valL (cutL b 3 4) : Nat)) l) m ∧ Below w.heap.size w w3 ∧ w2.heap.size = w3.heap.size) :=
    ⟨_, rfl, hB2.st4 _ _ _ _, HB02.out.st4_far (by omega) _ _ _ _, Blk.st4_far hR (by omega) _ _ _ _, hNA.set4 hF (by omega) _ _ _ _, set4_below HE2.out (by omega) _ _ _ _, (set4_size _ _ _ _ _ _).symm⟩
  have HF := Lib.hid (hF.mono (show w.heap.size + 1 ≤ _ by omega))
  have HYs := Lib.hid hyes
  have HNn := Lib.hid hnone
  clear hyes hnone hF hNA hR hC hB2 HL HR1 HB2
  obtain ⟨w3, hw3, hB3, hB03, hR3, hNA3, hE3, hsz3⟩ := HW3.out
  clear HW3
  go_upto_region 11 with (fail)
  unfold set4 at hw3
  rw [hw3]
  clear hw3 n0 n1 n2 n3 f0 f1 f2 f3
  have hlt3 : w.heap.size + 1 + 1 < w3.heap.size := by omega
  have hlt0 : w.heap.size < w3.heap.size := by omega
  have rd2 : w3.cell? ⟨w.heap.size + 1, 2, none⟩ = some (.bool ok) := hR3.cell 2
  cases ok with
  | false =>
    have hdn : decN b = none := by rw [HD.out, HNn.out rfl]; rfl
    have r0 : w3.cell? ⟨w.heap.size, 0, none⟩ = some (.bool false) := Blk.cell hB03 0
    have r1 : w3.cell? ⟨w.heap.size, 1, none⟩ = some (.slice none 0 0) := Blk.cell hB03 1
    have r2 : w3.cell? ⟨w.heap.size, 2, none⟩ = some (.slice none 0 0) := Blk.cell hB03 2
    have r3 : w3.cell? ⟨w.heap.size, 3, none⟩ = some (.slice none 0 0) := Blk.cell hB03 3
    have f0 : w3.frozen? ⟨w.heap.size, 0, none⟩ = false := Blk.frozen hB03 0
    have f1 : w3.frozen? ⟨w.heap.size, 1, none⟩ = false := Blk.frozen hB03 1
    have f2 : w3.frozen? ⟨w.heap.size, 2, none⟩ = false := Blk.frozen hB03 2
    have f3 : w3.frozen? ⟨w.heap.size, 3, none⟩ = false := Blk.frozen hB03 3
    have HFin : Hid (∀ v0 v1 v2 v3, RR (.returned (.tuple #[.agg #[.bool false, .slice none 0 0, .slice none 0 0, .slice none 0 0], .int .i64 3])) (set4 w3 w.heap.size v0 v1 v2 v3)) := fun v0 v1 v2 v3 => HNo.out _ (set4_below hE3 (Nat.le_refl _) _ _ _ _) hdn
    clear hdn hB3 hB03 hR3 hNA3 hE3
    go_wp2
    refine bodyPost_ret (v := .tuple #[.agg #[.bool false, .slice none 0 0, .slice none 0 0, .slice none 0 0], .int .i64 3]) (by simp [results, Try.results17, go_sem, r0, r1, r2, r3, hlt0]) rfl (HFin.out _ _ _ _)
  | true =>
    have hq := HYs.out rfl
    obtain ⟨hasn, hokn⟩ := HSh.out l at_ hq
    have hdz : decN b = if (b.drop at_).all (· == 0) && (Rn.mk false (valL (cutL b 3 4)) l).ok then some ⟨false, (valL (cutL b 3 4)), l⟩ else none := by rw [HD.out, hq]; rfl
    have HZ3 := HZr.out at_ true w3 hR3 hat
    have HRt := Lib.hid (fun W (hb : Below w3.heap.size w3 W) => NRight_any ((innerOf (valL (cutL b 3 4) : Nat)) l) m W (hNA3.later hb))
    rw [hokn] at HRt
    generalize (b.drop at_).all (· == 0) = z at HZ3 hdz
    generalize (Rn.mk false (valL (cutL b 3 4)) l).ok = r at HRt hdz
    have HDZ := Lib.hid hdz
    have HAS := Lib.hid hasn
    have HB3 := Lib.hid hB3
    have HB03 := Lib.hid hB03
    have HNA := Lib.hid hNA3
    have HE3 := Lib.hid hE3
    clear hq hasn hokn hdz hB3 hB03 hR3 hNA3 hE3 HZr
    go_wp2_with fail
    refine HZ3.mono ?_
    rintro e w4 ⟨rfl, hb4⟩
    have hlt4 : w.heap.size + 1 + 1 < w4.heap.size := Nat.lt_of_lt_of_le hlt3 hb4.size
    have hlt0 : w.heap.size < w4.heap.size := by omega
    cases z with
    | false =>
      have r0 : w4.cell? ⟨w.heap.size, 0, none⟩ = some (.bool false) := Blk.cell (HB03.out.bel hb4 (by omega)) 0
      have r1 : w4.cell? ⟨w.heap.size, 1, none⟩ = some (.slice none 0 0) := Blk.cell (HB03.out.bel hb4 (by omega)) 1
      have r2 : w4.cell? ⟨w.heap.size, 2, none⟩ = some (.slice none 0 0) := Blk.cell (HB03.out.bel hb4 (by omega)) 2
      have r3 : w4.cell? ⟨w.heap.size, 3, none⟩ = some (.slice none 0 0) := Blk.cell (HB03.out.bel hb4 (by omega)) 3
      have f0 : w4.frozen? ⟨w.heap.size, 0, none⟩ = false := Blk.frozen (HB03.out.bel hb4 (by omega)) 0
      have f1 : w4.frozen? ⟨w.heap.size, 1, none⟩ = false := Blk.frozen (HB03.out.bel hb4 (by omega)) 1
      have f2 : w4.frozen? ⟨w.heap.size, 2, none⟩ = false := Blk.frozen (HB03.out.bel hb4 (by omega)) 2
      have f3 : w4.frozen? ⟨w.heap.size, 3, none⟩ = false := Blk.frozen (HB03.out.bel hb4 (by omega)) 3
      have HFin : Hid (∀ v0 v1 v2 v3, RR (.returned (.tuple #[.agg #[.bool false, .slice none 0 0, .slice none 0 0, .slice none 0 0], .int .i64 3])) (set4 w4 w.heap.size v0 v1 v2 v3)) := fun v0 v1 v2 v3 => HNo.out _ (set4_below (HE3.out.trans (hb4.mono HE3.out.size)) (Nat.le_refl _) _ _ _ _) (by rw [HDZ.out]; rfl)
      clear hb4 rd2 HZ3
      go_wp2
      refine bodyPost_ret (v := .tuple #[.agg #[.bool false, .slice none 0 0, .slice none 0 0, .slice none 0 0], .int .i64 3]) (by simp [results, Try.results17, go_sem, r0, r1, r2, r3, hlt0]) rfl (HFin.out _ _ _ _)
    | true =>
      have hBn := HB3.out.bel hb4 (by omega)
      have m0 : w4.cell? ⟨w.heap.size + 1 + 1, 0, none⟩ = some (.bool false) := hBn.cell 0
      have m1 : w4.cell? ⟨w.heap.size + 1 + 1, 1, none⟩ = some (.slice m.ka m.kl m.kc) := hBn.cell 1
      have m2 : w4.cell? ⟨w.heap.size + 1 + 1, 2, none⟩ = some (.slice m.ca m.cl m.cc) := hBn.cell 2
      have m3 : w4.cell? ⟨w.heap.size + 1 + 1, 3, none⟩ = some (.slice m.da m.dl m.dc) := hBn.cell 3
      have HBn := Lib.hid hBn
      clear hBn rd2 HZ3
      go_wp2_with fail
      refine (HRt.out _ hb4).mono ?_
      rintro e w5 ⟨rfl, hb5⟩
      have hlt5 : w.heap.size + 1 + 1 < w5.heap.size := Nat.lt_of_lt_of_le hlt4 hb5.size
      have hlt0 : w.heap.size < w5.heap.size := by omega
      have hE5 : Below w.heap.size w w5 := HE3.out.trans ((Below.trans hb4 (hb5.mono hb4.size)).mono HE3.out.size)
      have hBn := HBn.out.bel hb5 (by omega)
      have m0 : w5.cell? ⟨w.heap.size + 1 + 1, 0, none⟩ = some (.bool false) := hBn.cell 0
      have m1 : w5.cell? ⟨w.heap.size + 1 + 1, 1, none⟩ = some (.slice m.ka m.kl m.kc) := hBn.cell 1
      have m2 : w5.cell? ⟨w.heap.size + 1 + 1, 2, none⟩ = some (.slice m.ca m.cl m.cc) := hBn.cell 2
      have m3 : w5.cell? ⟨w.heap.size + 1 + 1, 3, none⟩ = some (.slice m.da m.dl m.dc) := hBn.cell 3
      have r0 : w5.cell? ⟨w.heap.size, 0, none⟩ = some (.bool false) := Blk.cell ((HB03.out.bel hb4 (by omega)).bel hb5 (by omega)) 0
      have r1 : w5.cell? ⟨w.heap.size, 1, none⟩ = some (.slice none 0 0) := Blk.cell ((HB03.out.bel hb4 (by omega)).bel hb5 (by omega)) 1
      have r2 : w5.cell? ⟨w.heap.size, 2, none⟩ = some (.slice none 0 0) := Blk.cell ((HB03.out.bel hb4 (by omega)).bel hb5 (by omega)) 2
      have r3 : w5.cell? ⟨w.heap.size, 3, none⟩ = some (.slice none 0 0) := Blk.cell ((HB03.out.bel hb4 (by omega)).bel hb5 (by omega)) 3
      have f0 : w5.frozen? ⟨w.heap.size, 0, none⟩ = false := Blk.frozen ((HB03.out.bel hb4 (by omega)).bel hb5 (by omega)) 0
      have f1 : w5.frozen? ⟨w.heap.size, 1, none⟩ = false := Blk.frozen ((HB03.out.bel hb4 (by omega)).bel hb5 (by omega)) 1
      have f2 : w5.frozen? ⟨w.heap.size, 2, none⟩ = false := Blk.frozen ((HB03.out.bel hb4 (by omega)).bel hb5 (by omega)) 2
      have f3 : w5.frozen? ⟨w.heap.size, 3, none⟩ = false := Blk.frozen ((HB03.out.bel hb4 (by omega)).bel hb5 (by omega)) 3
      cases r with
      | false =>
        have HFin : Hid (∀ v0 v1 v2 v3, RR (.returned (.tuple #[.agg #[.bool false, .slice none 0 0, .slice none 0 0, .slice none 0 0], .int .i64 3])) (set4 w5 w.heap.size v0 v1 v2 v3)) := fun v0 v1 v2 v3 => HNo.out _ (set4_below hE5 (Nat.le_refl _) _ _ _ _) (by rw [HDZ.out]; rfl)
        clear hb4 hb5 hE5 hBn HRt
        go_wp2
        refine bodyPost_ret (v := .tuple #[.agg #[.bool false, .slice none 0 0, .slice none 0 0, .slice none 0 0], .int .i64 3]) (by simp [results, Try.results17, go_sem, r0, r1, r2, r3, hlt0]) rfl (HFin.out _ _ _ _)
      | true =>
        have hNA5 := (HNA.out.later hb4).later hb5
        have HFin : Hid (∀ v0 v1 v2 v3, RR (.returned (.tuple #[m.v false, .int .i64 0])) (set4 w5 w.heap.size v0 v1 v2 v3)) := fun v0 v1 v2 v3 => HYes.out ⟨false, (valL (cutL b 3 4)), l⟩ m _ (by rw [HDZ.out]; rfl) (by rw [HAS.out]; exact hNA5.set4 HF.out (Nat.lt_succ_self _) _ _ _ _) hkl (set4_below hE5 (Nat.le_refl _) _ _ _ _)
        clear hb4 hb5 hE5 hBn HRt hNA5
        go_wp2
        refine bodyPost_ret (v := .tuple #[m.v false, .int .i64 0]) (by simp [results, Try.results17, go_sem, r0, r1, r2, r3, hlt0]) rfl (HFin.out _ _ _ _)
end Go.Proofs.Ytpcgommdlgmknaa

/- Halve. -/
namespace Go.Proofs.Ytpcgommdlgmknaa
open Go.RowKit

set_option maxRecDepth 100000 in
set_option maxHeartbeats 4000000 in
theorem halve_yesL (n : Nd) (m : NB) (w : World) (h : NAt w n m) (hl : n.leaf = true) (ho : n.Ok) (hk : 2 + 0 ≤ n.keys.length) (hbig : m.kl ≤ 1000000) :
    Calls Try.prog 26 #[m.v true] w (RetHalf w n) := by
  have HR := fun W (hb : Below w.heap.size w W) => NRight_any n m W (h.later hb)
  rw [hl, Nd.ok_eq (n := n) (b := true) (by simp [ho])] at HR
  have HR := Lib.hid HR
  have hkl := h.hk
  have hmost : ((m.kl - 1 - 0 : Nat) : Int) = (m.kl : Int) - 1 := by omega
  have HSh : Hid (∀ W, Below w.heap.size w W → Calls Try.prog 51 #[m.v true, .int .i64 ((m.kl : Int) - 1)] W (RetShare W n.asR (m.kl - 1 - 0))) := by
    intro W hb
    have := share_any n m (m.kl - 1 - 0) W (h.later hb) ho (by omega) (by omega) hbig
    rw [hl, hmost] at this
    exact this
  have HP1 : Hid (∀ i W, i ≤ m.kl → Below w.heap.size w W → Calls Try.prog 52 #[m.v true, .int .i64 0, .int .i64 (i : Int)] W (RetNdB true W (partN n 0 i))) := by
    intro i W hi hb
    have := part_any n m 0 i W (h.later hb) ho.shaped (by omega) (by omega) hbig
    rw [hl] at this
    exact this.mono (RetNd.b (by rw [partN_leaf, hl]))
  have HP2 : Hid (∀ (i : Nat) W, i + 0 ≤ m.kl → Below w.heap.size w W → Calls Try.prog 52 #[m.v true, .int .i64 ((i : Int)), .int .i64 (m.kl : Int)] W (RetNdB true W (partN n (i + 0) m.kl))) := by
    intro i W hi hb
    have := part_any n m (i + 0) m.kl W (h.later hb) ho.shaped (by omega) (by omega) hbig
    rw [hl] at this
    exact this.mono (RetNd.b (by rw [partN_leaf, hl]))
  have HX : Hid (∀ (i : Nat) (k : ByteArray) (ma mb : NB) W, IsShare n.asR (m.kl - 1 - 0) i → n.keys[i]? = some k → NAt W (partN n 0 i) ma → NAt W (partN n (i + 0) m.kl) mb → Below w.heap.size w W → RetHalf w n (.returned (.tuple #[ma.v true, .string k, mb.v true])) W) := by
    intro i k ma mb W h1 h2 h3 h4 hb
    refine ⟨partN n 0 i, partN n (i + 0) m.kl, k, ma, mb, by rw [partN_leaf, partN_leaf, hl], .inr ⟨ho, by rw [moved_leaf hl]; exact hk, i, ?_, rfl, h2, ?_⟩, h3, h4, hb⟩
    · rw [moved_leaf hl, ← hkl]; exact h1
    · rw [moved_leaf hl, ← hkl]
  have HKA := Lib.hid h.karr
  have kcap := h.kcap
  have HKL := Lib.hid hkl
  have hk2 : 2 + 0 ≤ m.kl := by omega
  have hPL1 : ∀ i, (partN n 0 i).leaf = true := fun i => by rw [partN_leaf, hl]
  have hPL2 : ∀ i j, (partN n i j).leaf = true := fun i j => by rw [partN_leaf, hl]
  clear hmost hk hkl h ho
  obtain ⟨ka, kl, kc, ca, cl, cc, da, dl, dc⟩ := m
  simp only at *
  generalize hRR : RetHalf w n = RR at *
  clear hRR
  have HB0 : Hid (Below w.heap.size w (((w.alloc (.cells #[.bool true, .slice ka kl kc, .slice ca cl cc, .slice da dl dc] 26)).alloc (.cells #[.bool false, .slice none 0 0, .slice none 0 0, .slice none 0 0] 26)).alloc (.cells #[.bool false, .slice none 0 0, .slice none 0 0, .slice none 0 0] 26))) := (((Below.refl _ w).alloc (Nat.le_refl _) _).alloc (by simp) _).alloc (by simp; omega) _
  have HPL1 := Lib.hid hPL1
  have HPL2 := Lib.hid hPL2
  have q1 : decide ((kl : Int) - 1 < 1) = false := by simp; omega
  clear hl hPL1 hPL2
  go_enter Try.func26, Try.ntmps26
  go_wp2_with fail
  refine (HR.out _ HB0.out).mono ?_
  rintro e w1 ⟨rfl, hb⟩
  have hbx : Below (w.heap.size + 3) _ w1 := hb.mono (by simp)
  have hbe := HB0.out.trans (hb.mono HB0.out.size)
  have hsz : w.heap.size + 1 + 1 < w1.heap.size := by have := hbx.size; simp at this; omega
  obtain ⟨hBa, hBb⟩ := three_blocks w (.cells #[.bool true, .slice ka kl kc, .slice ca cl cc, .slice da dl dc] 26) 26 #[.bool false, .slice none 0 0, .slice none 0 0, .slice none 0 0]
  replace hBa := hBa.bel hbx (show w.heap.size + 1 < w.heap.size + 3 by omega)
  replace hBb := hBb.bel hbx (show w.heap.size + 1 + 1 < w.heap.size + 3 by omega)
  have hBn : Blk w1 w.heap.size 26 #[.bool true, .slice ka kl kc, .slice ca cl cc, .slice da dl dc] :=
    (((Blk.new w 26 #[.bool true, .slice ka kl kc, .slice ca cl cc, .slice da dl dc]).alloc _).alloc _).bel hbx (by omega)
  have HBa := Lib.hid hBa
  have HBb := Lib.hid hBb
  have HBn := Lib.hid hBn
  have HBE := Lib.hid hbe
  have l0 : w1.cell? ⟨w.heap.size, 0, none⟩ = some (.bool true) := hBn.cell 0
  have l1 : w1.cell? ⟨w.heap.size, 1, none⟩ = some (.slice ka kl kc) := hBn.cell 1
  have l2 : w1.cell? ⟨w.heap.size, 2, none⟩ = some (.slice ca cl cc) := hBn.cell 2
  have l3 : w1.cell? ⟨w.heap.size, 3, none⟩ = some (.slice da dl dc) := hBn.cell 3
  clear hBa hBb hBn hb hbx hbe HR HB0
  go_wp2_with fail
  refine (HSh.out _ HBE.out).mono ?_
  rintro e w2 ⟨i, rfl, hi, hb2⟩
  have hbd := hi.bd
  have hE2 := HBE.out.trans (hb2.mono HBE.out.size)
  have HE2 := Lib.hid hE2
  have hsz2 : w.heap.size + 1 + 1 < w2.heap.size := Nat.lt_of_lt_of_le hsz hb2.size
  have HBa2 := Lib.hid (HBa.out.bel hb2 (by omega))
  have HBb2 := Lib.hid (HBb.out.bel hb2 (by omega))
  have HBn2 := Lib.hid (HBn.out.bel hb2 (by omega))
  have hik : i < n.keys.length := by have := HKL.out; omega
  have hikl : i < kl := by omega
  obtain ⟨b, o, rfl, hbw, c00⟩ := strAt HKA.out hik
  have hbN : b < w2.heap.size := by omega
  have c0 : w2.cell? ⟨b, o + i, none⟩ = some (.string n.keys[i]) := (HE2.out.cell (p := ⟨b, o + i, none⟩) hbw).trans c00
  clear c00
  have HKk : Hid (n.keys[i]? = some n.keys[i]) := List.getElem?_eq_getElem hik
  generalize n.keys[i]'hik = key at c0 HKk
  have D : Hid (∀ W, Chg [w.heap.size + 1, w.heap.size + 1 + 1] w2.drew W → W.cell? ⟨w.heap.size, 0, none⟩ = some (.bool true) ∧ W.cell? ⟨w.heap.size, 1, none⟩ = some (.slice (some ⟨b, o, none⟩) kl kc) ∧ W.cell? ⟨w.heap.size, 2, none⟩ = some (.slice ca cl cc) ∧ W.cell? ⟨w.heap.size, 3, none⟩ = some (.slice da dl dc) ∧ W.cell? ⟨b, o + i, none⟩ = some (.string key)) := by
    intro W hW
    have hB := HBn2.out.chg hW.undrew (by simp; omega)
    exact ⟨hB.cell 0, hB.cell 1, hB.cell 2, hB.cell 3, (hW.undrew.cell hbN (by simp; omega)).trans c0⟩
  have d0 : ∀ W, Chg [w.heap.size + 1, w.heap.size + 1 + 1] w2.drew W → W.cell? ⟨w.heap.size, 0, none⟩ = some (.bool true) := fun W h => (D.out W h).1
  have d1 : ∀ W, Chg [w.heap.size + 1, w.heap.size + 1 + 1] w2.drew W → W.cell? ⟨w.heap.size, 1, none⟩ = some (.slice (some ⟨b, o, none⟩) kl kc) := fun W h => (D.out W h).2.1
  have d2 : ∀ W, Chg [w.heap.size + 1, w.heap.size + 1 + 1] w2.drew W → W.cell? ⟨w.heap.size, 2, none⟩ = some (.slice ca cl cc) := fun W h => (D.out W h).2.2.1
  have d3 : ∀ W, Chg [w.heap.size + 1, w.heap.size + 1 + 1] w2.drew W → W.cell? ⟨w.heap.size, 3, none⟩ = some (.slice da dl dc) := fun W h => (D.out W h).2.2.2.1
  have d4 : ∀ W, Chg [w.heap.size + 1, w.heap.size + 1 + 1] w2.drew W → W.cell? ⟨b, o + i, none⟩ = some (.string key) := fun W h => (D.out W h).2.2.2.2
  have hwr : IntKind.i64.wrap ((i : Int)) = (i : Int) := IntWalk.i64_in _ ⟨by omega, by omega⟩
  clear l0 l1 l2 l3 c0 hb2 hE2 HSh
  go_wp2_with fail
  refine wp_region_ordS [w.heap.size + 1, w.heap.size + 1 + 1] [(0, true), (1, true), (3, true), (4, true), (5, true), (6, true), (7, true), (8, true), (9, true), (10, true), (11, true), (12, true), (13, true), (14, true), (2, false), (15, false), (16, false), (17, true), (18, false)] (by kernel_rfl) (by kernel_rfl) (by kernel_rfl) (by kernel_rfl) ?_
  repeat (first | (refine wpO_F (v := ?_) rfl (by rfl) (fun w' hL => ?_) ?_; rotate_left; (solve | (go_simp; with_reducible rfl) | go_simp); try simp only [Act.put, List.setIfInBounds_toArray, List.set_cons_zero, List.set_cons_succ]) | (refine wpO_G' (Chg.refl _) rfl (by rfl) ?_; try simp only [Act.put, List.setIfInBounds_toArray, List.set_cons_zero, List.set_cons_succ]))
  refine wpO_C rfl (by rfl) ?_
  go_simp
  refine (HP1.out i _ (by omega) HE2.out.drew).mono ?_
  rintro e w3 ⟨ma, rfl, hA, hb3, hF3⟩
  refine ⟨Below.chg0 hb3 _, ?_⟩
  have hE3 := HE2.out.drew.trans (hb3.mono HE2.out.size)
  have HE3 := Lib.hid hE3
  have HA := Lib.hid hA
  have HF3 := Lib.hid hF3
  have HBa3 := Lib.hid (HBa2.out.drew.bel hb3 (by show _ < w2.heap.size; omega))
  have HBb3 := Lib.hid (HBb2.out.drew.bel hb3 (by show _ < w2.heap.size; omega))
  have hsz3 : w.heap.size + 1 + 1 < w3.heap.size := Nat.lt_of_lt_of_le hsz2 hb3.size
  clear hE3 hA hF3 hb3
  try simp only [Act.put, List.setIfInBounds_toArray, List.set_cons_zero, List.set_cons_succ]
  refine wpO_C rfl (by rfl) ?_
  go_simp
  refine (HP2.out i _ (by omega) HE3.out).mono ?_
  rintro e w4 ⟨mb, rfl, hB, hb4, hF4⟩
  refine ⟨Below.chg0 hb4 _, ?_⟩
  try simp only [Act.put, List.setIfInBounds_toArray, List.set_cons_zero, List.set_cons_succ]
  have hBa := HBa3.out.bel hb4 (by omega)
  have hBb := HBb3.out.bel hb4 (by omega)
  have hsz4 : w.heap.size + 1 + 1 < w4.heap.size := Nat.lt_of_lt_of_le hsz3 hb4.size
  have r0 : w4.cell? ⟨w.heap.size + 1, 0, none⟩ = some (.bool false) := hBa.cell 0
  have r1 : w4.cell? ⟨w.heap.size + 1, 1, none⟩ = some (.slice none 0 0) := hBa.cell 1
  have r2 : w4.cell? ⟨w.heap.size + 1, 2, none⟩ = some (.slice none 0 0) := hBa.cell 2
  have r3 : w4.cell? ⟨w.heap.size + 1, 3, none⟩ = some (.slice none 0 0) := hBa.cell 3
  have f0 := hBa.frozen 0
  have f1 := hBa.frozen 1
  have f2 := hBa.frozen 2
  have f3 := hBa.frozen 3
  have s0 : w4.cell? ⟨w.heap.size + 1 + 1, 0, none⟩ = some (.bool false) := hBb.cell 0
  have s1 : w4.cell? ⟨w.heap.size + 1 + 1, 1, none⟩ = some (.slice none 0 0) := hBb.cell 1
  have s2 : w4.cell? ⟨w.heap.size + 1 + 1, 2, none⟩ = some (.slice none 0 0) := hBb.cell 2
  have s3 : w4.cell? ⟨w.heap.size + 1 + 1, 3, none⟩ = some (.slice none 0 0) := hBb.cell 3
  have g0 := hBb.frozen 0
  have g1 := hBb.frozen 1
  have g2 := hBb.frozen 2
  have g3 := hBb.frozen 3
  have HFin : Hid (∀ v0 v1 v2 v3 u0 u1 u2 u3, RR (.returned (.tuple #[ma.v true, .string key, mb.v true])) (set4 (set4 w4 (w.heap.size + 1) v0 v1 v2 v3) (w.heap.size + 1 + 1) u0 u1 u2 u3)) := by
    intro v0 v1 v2 v3 u0 u1 u2 u3
    have hE4 := HE3.out.trans (hb4.mono HE3.out.size)
    have A1 := HA.out.later hb4
    refine HX.out i key ma mb _ hi HKk.out ?_ ?_ (set4_below (set4_below hE4 (Nat.le_add_right _ 1) _ _ _ _) (Nat.le_add_right _ 2) _ _ _ _)
    · exact (A1.set4 HF3.out (by show _ < w2.heap.size; omega) _ _ _ _).set4 HF3.out (by show _ < w2.heap.size; omega) _ _ _ _
    · exact (hB.set4 hF4 (by omega) _ _ _ _).set4 hF4 (by omega) _ _ _ _
  clear hB hb4 hF4 hBa hBb HX
  refine wpO_C rfl (by rfl) ?_
  go_simp
  refine ⟨set4_chg (by simp) _ _ _ _, ?_⟩
  try simp only [Act.put, List.setIfInBounds_toArray, List.set_cons_zero, List.set_cons_succ]
  repeat (first | (refine wpO_F (v := ?_) rfl (by rfl) (fun w' hL => ?_) ?_; rotate_left; (solve | (go_simp; with_reducible rfl) | go_simp); try simp only [Act.put, List.setIfInBounds_toArray, List.set_cons_zero, List.set_cons_succ]) | (refine wpO_G' (Chg.refl _) rfl (by rfl) ?_; try simp only [Act.put, List.setIfInBounds_toArray, List.set_cons_zero, List.set_cons_succ]))
  refine wpO_C rfl (by rfl) ?_
  go_simp
  refine ⟨set4_chg (by simp) _ _ _ _, ?_⟩
  try simp only [Act.put, List.setIfInBounds_toArray, List.set_cons_zero, List.set_cons_succ]
  refine wpO_nil ?_
  go_wp2
  refine bodyPost_ret (v := .tuple #[ma.v true, .string key, mb.v true]) (by simp [results, Try.results26, go_sem, r0, r1, r2, r3, s0, s1, s2, s3, hsz4]) rfl (HFin.out _ _ _ _ _ _ _ _)

set_option maxRecDepth 100000 in
set_option maxHeartbeats 4000000 in
theorem halve_yesI (n : Nd) (m : NB) (w : World) (h : NAt w n m) (hl : n.leaf = false) (ho : n.Ok) (hk : 2 + 1 ≤ n.keys.length) (hbig : m.kl ≤ 1000000) :
    Calls Try.prog 26 #[m.v false] w (RetHalf w n) := by
  have HR := fun W (hb : Below w.heap.size w W) => NRight_any n m W (h.later hb)
  rw [hl, Nd.ok_eq (n := n) (b := true) (by simp [ho])] at HR
  have HR := Lib.hid HR
  have hkl := h.hk
  have hmost : ((m.kl - 1 - 1 : Nat) : Int) = (m.kl : Int) - 1 - 1 := by omega
  have HSh : Hid (∀ W, Below w.heap.size w W → Calls Try.prog 51 #[m.v false, .int .i64 ((m.kl : Int) - 1 - 1)] W (RetShare W n.asR (m.kl - 1 - 1))) := by
    intro W hb
    have := share_any n m (m.kl - 1 - 1) W (h.later hb) ho (by omega) (by omega) hbig
    rw [hl, hmost] at this
    exact this
  have HP1 : Hid (∀ i W, i ≤ m.kl → Below w.heap.size w W → Calls Try.prog 52 #[m.v false, .int .i64 0, .int .i64 (i : Int)] W (RetNdB false W (partN n 0 i))) := by
    intro i W hi hb
    have := part_any n m 0 i W (h.later hb) ho.shaped (by omega) (by omega) hbig
    rw [hl] at this
    exact this.mono (RetNd.b (by rw [partN_leaf, hl]))
  have HP2 : Hid (∀ (i : Nat) W, i + 1 ≤ m.kl → Below w.heap.size w W → Calls Try.prog 52 #[m.v false, .int .i64 ((i : Int) + 1), .int .i64 (m.kl : Int)] W (RetNdB false W (partN n (i + 1) m.kl))) := by
    intro i W hi hb
    have := part_any n m (i + 1) m.kl W (h.later hb) ho.shaped (by omega) (by omega) hbig
    rw [hl] at this
    exact this.mono (RetNd.b (by rw [partN_leaf, hl]))
  have HX : Hid (∀ (i : Nat) (k : ByteArray) (ma mb : NB) W, IsShare n.asR (m.kl - 1 - 1) i → n.keys[i]? = some k → NAt W (partN n 0 i) ma → NAt W (partN n (i + 1) m.kl) mb → Below w.heap.size w W → RetHalf w n (.returned (.tuple #[ma.v false, .string k, mb.v false])) W) := by
    intro i k ma mb W h1 h2 h3 h4 hb
    refine ⟨partN n 0 i, partN n (i + 1) m.kl, k, ma, mb, by rw [partN_leaf, partN_leaf, hl], .inr ⟨ho, by rw [moved_inner hl]; exact hk, i, ?_, rfl, h2, ?_⟩, h3, h4, hb⟩
    · rw [moved_inner hl, ← hkl]; exact h1
    · rw [moved_inner hl, ← hkl]
  have HKA := Lib.hid h.karr
  have kcap := h.kcap
  have HKL := Lib.hid hkl
  have hk2 : 2 + 1 ≤ m.kl := by omega
  have hPL1 : ∀ i, (partN n 0 i).leaf = false := fun i => by rw [partN_leaf, hl]
  have hPL2 : ∀ i j, (partN n i j).leaf = false := fun i j => by rw [partN_leaf, hl]
  clear hmost hk hkl h ho
  obtain ⟨ka, kl, kc, ca, cl, cc, da, dl, dc⟩ := m
  simp only at *
  generalize hRR : RetHalf w n = RR at *
  clear hRR
  have HB0 : Hid (Below w.heap.size w (((w.alloc (.cells #[.bool false, .slice ka kl kc, .slice ca cl cc, .slice da dl dc] 26)).alloc (.cells #[.bool false, .slice none 0 0, .slice none 0 0, .slice none 0 0] 26)).alloc (.cells #[.bool false, .slice none 0 0, .slice none 0 0, .slice none 0 0] 26))) := (((Below.refl _ w).alloc (Nat.le_refl _) _).alloc (by simp) _).alloc (by simp; omega) _
  have HPL1 := Lib.hid hPL1
  have HPL2 := Lib.hid hPL2
  have q1 : decide ((kl : Int) - 1 - 1 < 1) = false := by simp; omega
  clear hl hPL1 hPL2
  go_enter Try.func26, Try.ntmps26
  go_wp2_with fail
  refine (HR.out _ HB0.out).mono ?_
  rintro e w1 ⟨rfl, hb⟩
  have hbx : Below (w.heap.size + 3) _ w1 := hb.mono (by simp)
  have hbe := HB0.out.trans (hb.mono HB0.out.size)
  have hsz : w.heap.size + 1 + 1 < w1.heap.size := by have := hbx.size; simp at this; omega
  obtain ⟨hBa, hBb⟩ := three_blocks w (.cells #[.bool false, .slice ka kl kc, .slice ca cl cc, .slice da dl dc] 26) 26 #[.bool false, .slice none 0 0, .slice none 0 0, .slice none 0 0]
  replace hBa := hBa.bel hbx (show w.heap.size + 1 < w.heap.size + 3 by omega)
  replace hBb := hBb.bel hbx (show w.heap.size + 1 + 1 < w.heap.size + 3 by omega)
  have hBn : Blk w1 w.heap.size 26 #[.bool false, .slice ka kl kc, .slice ca cl cc, .slice da dl dc] :=
    (((Blk.new w 26 #[.bool false, .slice ka kl kc, .slice ca cl cc, .slice da dl dc]).alloc _).alloc _).bel hbx (by omega)
  have HBa := Lib.hid hBa
  have HBb := Lib.hid hBb
  have HBn := Lib.hid hBn
  have HBE := Lib.hid hbe
  have l0 : w1.cell? ⟨w.heap.size, 0, none⟩ = some (.bool false) := hBn.cell 0
  have l1 : w1.cell? ⟨w.heap.size, 1, none⟩ = some (.slice ka kl kc) := hBn.cell 1
  have l2 : w1.cell? ⟨w.heap.size, 2, none⟩ = some (.slice ca cl cc) := hBn.cell 2
  have l3 : w1.cell? ⟨w.heap.size, 3, none⟩ = some (.slice da dl dc) := hBn.cell 3
  clear hBa hBb hBn hb hbx hbe HR HB0
  go_wp2_with fail
  refine (HSh.out _ HBE.out).mono ?_
  rintro e w2 ⟨i, rfl, hi, hb2⟩
  have hbd := hi.bd
  have hE2 := HBE.out.trans (hb2.mono HBE.out.size)
  have HE2 := Lib.hid hE2
  have hsz2 : w.heap.size + 1 + 1 < w2.heap.size := Nat.lt_of_lt_of_le hsz hb2.size
  have HBa2 := Lib.hid (HBa.out.bel hb2 (by omega))
  have HBb2 := Lib.hid (HBb.out.bel hb2 (by omega))
  have HBn2 := Lib.hid (HBn.out.bel hb2 (by omega))
  have hik : i < n.keys.length := by have := HKL.out; omega
  have hikl : i < kl := by omega
  obtain ⟨b, o, rfl, hbw, c00⟩ := strAt HKA.out hik
  have hbN : b < w2.heap.size := by omega
  have c0 : w2.cell? ⟨b, o + i, none⟩ = some (.string n.keys[i]) := (HE2.out.cell (p := ⟨b, o + i, none⟩) hbw).trans c00
  clear c00
  have HKk : Hid (n.keys[i]? = some n.keys[i]) := List.getElem?_eq_getElem hik
  generalize n.keys[i]'hik = key at c0 HKk
  have D : Hid (∀ W, Chg [w.heap.size + 1, w.heap.size + 1 + 1] w2.drew W → W.cell? ⟨w.heap.size, 0, none⟩ = some (.bool false) ∧ W.cell? ⟨w.heap.size, 1, none⟩ = some (.slice (some ⟨b, o, none⟩) kl kc) ∧ W.cell? ⟨w.heap.size, 2, none⟩ = some (.slice ca cl cc) ∧ W.cell? ⟨w.heap.size, 3, none⟩ = some (.slice da dl dc) ∧ W.cell? ⟨b, o + i, none⟩ = some (.string key)) := by
    intro W hW
    have hB := HBn2.out.chg hW.undrew (by simp; omega)
    exact ⟨hB.cell 0, hB.cell 1, hB.cell 2, hB.cell 3, (hW.undrew.cell hbN (by simp; omega)).trans c0⟩
  have d0 : ∀ W, Chg [w.heap.size + 1, w.heap.size + 1 + 1] w2.drew W → W.cell? ⟨w.heap.size, 0, none⟩ = some (.bool false) := fun W h => (D.out W h).1
  have d1 : ∀ W, Chg [w.heap.size + 1, w.heap.size + 1 + 1] w2.drew W → W.cell? ⟨w.heap.size, 1, none⟩ = some (.slice (some ⟨b, o, none⟩) kl kc) := fun W h => (D.out W h).2.1
  have d2 : ∀ W, Chg [w.heap.size + 1, w.heap.size + 1 + 1] w2.drew W → W.cell? ⟨w.heap.size, 2, none⟩ = some (.slice ca cl cc) := fun W h => (D.out W h).2.2.1
  have d3 : ∀ W, Chg [w.heap.size + 1, w.heap.size + 1 + 1] w2.drew W → W.cell? ⟨w.heap.size, 3, none⟩ = some (.slice da dl dc) := fun W h => (D.out W h).2.2.2.1
  have d4 : ∀ W, Chg [w.heap.size + 1, w.heap.size + 1 + 1] w2.drew W → W.cell? ⟨b, o + i, none⟩ = some (.string key) := fun W h => (D.out W h).2.2.2.2
  have hwr : IntKind.i64.wrap ((i : Int) + 1) = (i : Int) + 1 := IntWalk.i64_in _ ⟨by omega, by omega⟩
  clear l0 l1 l2 l3 c0 hb2 hE2 HSh
  go_wp2_with fail
  refine wp_region_ordS [w.heap.size + 1, w.heap.size + 1 + 1] [(0, true), (1, true), (3, true), (4, true), (5, true), (6, true), (7, true), (8, true), (9, true), (10, true), (11, true), (12, true), (13, true), (14, true), (2, false), (15, false), (16, false), (17, true), (18, false)] (by kernel_rfl) (by kernel_rfl) (by kernel_rfl) (by kernel_rfl) ?_
  repeat (first | (refine wpO_F (v := ?_) rfl (by rfl) (fun w' hL => ?_) ?_; rotate_left; (solve | (go_simp; with_reducible rfl) | go_simp); try simp only [Act.put, List.setIfInBounds_toArray, List.set_cons_zero, List.set_cons_succ]) | (refine wpO_G' (Chg.refl _) rfl (by rfl) ?_; try simp only [Act.put, List.setIfInBounds_toArray, List.set_cons_zero, List.set_cons_succ]))
  refine wpO_C rfl (by rfl) ?_
  go_simp
  refine (HP1.out i _ (by omega) HE2.out.drew).mono ?_
  rintro e w3 ⟨ma, rfl, hA, hb3, hF3⟩
  refine ⟨Below.chg0 hb3 _, ?_⟩
  have hE3 := HE2.out.drew.trans (hb3.mono HE2.out.size)
  have HE3 := Lib.hid hE3
  have HA := Lib.hid hA
  have HF3 := Lib.hid hF3
  have HBa3 := Lib.hid (HBa2.out.drew.bel hb3 (by show _ < w2.heap.size; omega))
  have HBb3 := Lib.hid (HBb2.out.drew.bel hb3 (by show _ < w2.heap.size; omega))
  have hsz3 : w.heap.size + 1 + 1 < w3.heap.size := Nat.lt_of_lt_of_le hsz2 hb3.size
  clear hE3 hA hF3 hb3
  try simp only [Act.put, List.setIfInBounds_toArray, List.set_cons_zero, List.set_cons_succ]
  refine wpO_C rfl (by rfl) ?_
  go_simp
  refine (HP2.out i _ (by omega) HE3.out).mono ?_
  rintro e w4 ⟨mb, rfl, hB, hb4, hF4⟩
  refine ⟨Below.chg0 hb4 _, ?_⟩
  try simp only [Act.put, List.setIfInBounds_toArray, List.set_cons_zero, List.set_cons_succ]
  have hBa := HBa3.out.bel hb4 (by omega)
  have hBb := HBb3.out.bel hb4 (by omega)
  have hsz4 : w.heap.size + 1 + 1 < w4.heap.size := Nat.lt_of_lt_of_le hsz3 hb4.size
  have r0 : w4.cell? ⟨w.heap.size + 1, 0, none⟩ = some (.bool false) := hBa.cell 0
  have r1 : w4.cell? ⟨w.heap.size + 1, 1, none⟩ = some (.slice none 0 0) := hBa.cell 1
  have r2 : w4.cell? ⟨w.heap.size + 1, 2, none⟩ = some (.slice none 0 0) := hBa.cell 2
  have r3 : w4.cell? ⟨w.heap.size + 1, 3, none⟩ = some (.slice none 0 0) := hBa.cell 3
  have f0 := hBa.frozen 0
  have f1 := hBa.frozen 1
  have f2 := hBa.frozen 2
  have f3 := hBa.frozen 3
  have s0 : w4.cell? ⟨w.heap.size + 1 + 1, 0, none⟩ = some (.bool false) := hBb.cell 0
  have s1 : w4.cell? ⟨w.heap.size + 1 + 1, 1, none⟩ = some (.slice none 0 0) := hBb.cell 1
  have s2 : w4.cell? ⟨w.heap.size + 1 + 1, 2, none⟩ = some (.slice none 0 0) := hBb.cell 2
  have s3 : w4.cell? ⟨w.heap.size + 1 + 1, 3, none⟩ = some (.slice none 0 0) := hBb.cell 3
  have g0 := hBb.frozen 0
  have g1 := hBb.frozen 1
  have g2 := hBb.frozen 2
  have g3 := hBb.frozen 3
  have HFin : Hid (∀ v0 v1 v2 v3 u0 u1 u2 u3, RR (.returned (.tuple #[ma.v false, .string key, mb.v false])) (set4 (set4 w4 (w.heap.size + 1) v0 v1 v2 v3) (w.heap.size + 1 + 1) u0 u1 u2 u3)) := by
    intro v0 v1 v2 v3 u0 u1 u2 u3
    have hE4 := HE3.out.trans (hb4.mono HE3.out.size)
    have A1 := HA.out.later hb4
    refine HX.out i key ma mb _ hi HKk.out ?_ ?_ (set4_below (set4_below hE4 (Nat.le_add_right _ 1) _ _ _ _) (Nat.le_add_right _ 2) _ _ _ _)
    · exact (A1.set4 HF3.out (by show _ < w2.heap.size; omega) _ _ _ _).set4 HF3.out (by show _ < w2.heap.size; omega) _ _ _ _
    · exact (hB.set4 hF4 (by omega) _ _ _ _).set4 hF4 (by omega) _ _ _ _
  clear hB hb4 hF4 hBa hBb HX
  refine wpO_C rfl (by rfl) ?_
  go_simp
  refine ⟨set4_chg (by simp) _ _ _ _, ?_⟩
  try simp only [Act.put, List.setIfInBounds_toArray, List.set_cons_zero, List.set_cons_succ]
  repeat (first | (refine wpO_F (v := ?_) rfl (by rfl) (fun w' hL => ?_) ?_; rotate_left; (solve | (go_simp; with_reducible rfl) | go_simp); try simp only [Act.put, List.setIfInBounds_toArray, List.set_cons_zero, List.set_cons_succ]) | (refine wpO_G' (Chg.refl _) rfl (by rfl) ?_; try simp only [Act.put, List.setIfInBounds_toArray, List.set_cons_zero, List.set_cons_succ]))
  refine wpO_C rfl (by rfl) ?_
  go_simp
  refine ⟨set4_chg (by simp) _ _ _ _, ?_⟩
  try simp only [Act.put, List.setIfInBounds_toArray, List.set_cons_zero, List.set_cons_succ]
  refine wpO_nil ?_
  go_wp2
  refine bodyPost_ret (v := .tuple #[ma.v false, .string key, mb.v false]) (by simp [results, Try.results26, go_sem, r0, r1, r2, r3, s0, s1, s2, s3, hsz4]) rfl (HFin.out _ _ _ _ _ _ _ _)

theorem NHalve_any (n : Nd) (m : NB) (w : World) (h : NAt w n m) (hbig : m.kl ≤ 1000000) :
    Calls Try.prog 26 #[m.v n.leaf] w (RetHalf w n) := by
  by_cases hc : n.Ok ∧ 2 + movedN n ≤ n.keys.length
  · cases hl : n.leaf with
    | true => exact halve_yesL n m w h hl hc.1 (by have := hc.2; rw [moved_leaf hl] at this; exact this) hbig
    | false => exact halve_yesI n m w h hl hc.1 (by have := hc.2; rw [moved_inner hl] at this; exact this) hbig
  · cases hl : n.leaf with
    | true => exact halve_noL n m w h hl (by rw [moved_leaf hl] at hc; exact hc) hbig
    | false => exact halve_noI n m w h hl (by rw [moved_inner hl] at hc; exact hc) hbig
end Go.Proofs.Ytpcgommdlgmknaa

/- The walks of slices.Equal over strings, cells and integers, and of node.Same. -/
namespace Go.Proofs.Ytpcgommdlgmknaa
open Go.RowKit

theorem take_stepG {α : Type} {l m : List α} {k : Nat} (hk : k < l.length) (hm : k < m.length) (h : l.take k = m.take k) (he : l[k] = m[k]) : l.take (k + 1) = m.take (k + 1) := by
  rw [List.take_succ_eq_append_getElem hk, List.take_succ_eq_append_getElem hm, h, he]
theorem ne_of_getG {α : Type} {l m : List α} {k : Nat} (hk : k < l.length) (hm : k < m.length) (he : l[k] ≠ m[k]) : l ≠ m := by
  rintro rfl; exact he rfl

@[go_sem high] theorem eqCell (n n' p p' : Int) (s s' : ByteArray) (w : World) : (Op.equalIn 10000 63 (.agg #[.int .i64 n, .string s, .int .i64 p]) (.agg #[.int .i64 n', .string s', .int .i64 p'])).run Try.prog w = .ok (n == n' && (s.toList == s'.toList && p == p')) w := by
  have hS : Try.prog.underlying 63 = some (.struct (Try.prog.fieldsOf 63)) := by kernel_rfl
  have hp : Try.prog.stoodInHeld 63 = false := by kernel_rfl
  rw [show (10000 : Nat) = 9999 + 1 from rfl, run_equalIn_agg w 9999 63 _ _ hS hp]
  simp only [Program.fieldsOf, Try.underlying63]
  go_simp
  by_cases h1 : n = n' <;> by_cases h2 : s.toList = s'.toList <;> by_cases h3 : p = p' <;> simp [h1, h2, h3]
@[go_sem] theorem eqGuardCell : Try.prog.eqGuardType Try.prog.depth 63 = false := by kernel_rfl

theorem ne_cell (n n' p p' : Int) (s s' : ByteArray) (h : (⟨n, s, p⟩ : Cl) ≠ ⟨n', s', p'⟩) : (n == n' && (s.toList == s'.toList && p == p')) = false := by
  rw [Bool.eq_false_iff]
  intro hb
  simp only [Bool.and_eq_true, beq_iff_eq] at hb
  obtain ⟨rfl, h2, rfl⟩ := hb
  exact h (by rw [toList_inj h2])

set_option maxHeartbeats 2000000 in
theorem equalS_any (l m : List ByteArray) (a : Option Addr) (len cap : Nat) (a' : Option Addr) (len' cap' : Nat) (w : World) (hV : Arr w.heap.size w a (cellsS l)) (hlen : len = l.length) (hV' : Arr w.heap.size w a' (cellsS m)) (hlen' : len' = m.length)
    (hmax : len ≤ 140737488355328) (hmax' : len' ≤ 140737488355328) :
    Calls Try.prog 44 #[.slice a len cap, .slice a' len' cap'] w fun e w' => e = .returned (.bool (decide (l = m))) ∧ Below w.heap.size w w' := by
  have HV := Lib.hid hV
  have HV' := Lib.hid hV'
  have HL := Lib.hid hlen
  have HL' := Lib.hid hlen'
  by_cases hne : len = len'
  · subst hne
    clear hV hV' hlen hlen'
    go_enter Try.func44, Try.ntmps44
    go_wp2
    go_loopw [13] (fun i wr => ∃ k : Nat, k ≤ len ∧ i = .int .i64 k ∧ Hid (l.take k = m.take k) ∧ Below w.heap.size w wr) (fun i _ => len - (intOf i).toNat)
    case atStart => exact ⟨0, by omega, rfl, by simp [Hid], Below.refl _ _⟩
    case round =>
      obtain ⟨k, hk, rfl, HI, hb⟩ := hrel
      have hsz := hb.size
      by_cases hlt : k < len
      · have hkl : k < l.length := by have := HL.out; omega
        have hkm : k < m.length := by have := HL'.out; omega
        obtain ⟨b, o, rfl, hbN, c0⟩ := strAt HV.out hkl
        obtain ⟨b', o', rfl, hbN', g0⟩ := strAt HV'.out hkm
        have d0 : ∀ W, Later wr.drew W → W.cell? ⟨b, o + k, none⟩ = some (.string l[k]) := fun W h => ((Later.undrew h : Below wr.heap.size wr W).cell (p := ⟨b, o + k, none⟩) (by show b < wr.heap.size; omega)).trans ((hb.cell (p := ⟨b, o + k, none⟩) hbN).trans c0)
        have e0 : ∀ W, Later wr.drew W → W.cell? ⟨b', o' + k, none⟩ = some (.string m[k]) := fun W h => ((Later.undrew h : Below wr.heap.size wr W).cell (p := ⟨b', o' + k, none⟩) (by show b' < wr.heap.size; omega)).trans ((hb.cell (p := ⟨b', o' + k, none⟩) hbN').trans g0)
        clear c0 g0
        have HT : Hid (l[k] = m[k] → l.take (k + 1) = m.take (k + 1)) := fun h => take_stepG hkl hkm HI.out h
        have HF : Hid (l[k] ≠ m[k] → decide (l = m) = false) := fun h => decide_eq_false (ne_of_getG hkl hkm h)
        obtain ⟨x, hx⟩ : ∃ x, x = l[k] := ⟨_, rfl⟩
        obtain ⟨y, hy⟩ : ∃ y, y = m[k] := ⟨_, rfl⟩
        rw [← hx] at d0 HT HF
        rw [← hy] at e0 HT HF
        clear hx hy
        by_cases hxy : x = y
        · subst hxy
          have HT2 := Lib.hid (HT.out rfl)
          clear HT HF
          go_wp2_with fail
          refine wp_region_ord [(0, true), (1, true), (2, true), (3, true), (4, true), (5, true), (6, true), (7, true), (8, true)] (by kernel_rfl) (by kernel_rfl) (by kernel_rfl) (by kernel_rfl) ?_
          repeat (first | (refine wpO_F (v := ?_) rfl (by rfl) (fun w' hL => ?_) ?_; rotate_left; (solve | (go_simp; with_reducible rfl) | go_simp); try simp only [Act.put, List.setIfInBounds_toArray, List.set_cons_zero, List.set_cons_succ]) | (refine wpO_G rfl (by rfl) ?_; try simp only [Act.put, List.setIfInBounds_toArray, List.set_cons_zero, List.set_cons_succ]))
          refine wpO_nil ?_
          clear d0 e0
          go_wp2
          go_roundw
          case rel => exact ⟨k + 1, by omega, by go_num, HT2, hb.drew⟩
          case measure => simp [intOf]; omega
        · have HF2 := Lib.hid (HF.out hxy)
          have hnb : (x.toList == y.toList) = false := by rw [beq_eq_false_iff_ne]; exact fun h => hxy (toList_inj h)
          have hnb2 : ¬ x.toList = y.toList := fun h => hxy (toList_inj h)
          clear HT HF hxy
          go_wp2_with fail
          refine wp_region_ord [(0, true), (1, true), (2, true), (3, true), (4, true), (5, true), (6, true), (7, true), (8, true)] (by kernel_rfl) (by kernel_rfl) (by kernel_rfl) (by kernel_rfl) ?_
          repeat (first | (refine wpO_F (v := ?_) rfl (by rfl) (fun w' hL => ?_) ?_; rotate_left; (solve | (go_simp; with_reducible rfl) | go_simp); try simp only [Act.put, List.setIfInBounds_toArray, List.set_cons_zero, List.set_cons_succ]) | (refine wpO_G rfl (by rfl) ?_; try simp only [Act.put, List.setIfInBounds_toArray, List.set_cons_zero, List.set_cons_succ]))
          refine wpO_nil ?_
          clear d0 e0
          go_wp2
          go_ret
          exact ⟨ret_b HF2.out.symm, hb.drew⟩
      · have hall : l = m := by
          have h1 : l.take k = l := List.take_of_length_le (by have := HL.out; omega)
          have h2 : m.take k = m := List.take_of_length_le (by have := HL'.out; omega)
          have := HI.out
          rw [h1, h2] at this; exact this
        have HA : Hid (decide (l = m) = true) := decide_eq_true hall
        clear hall
        go_wp2
        go_ret
        exact ⟨ret_b HA.out.symm, hb⟩
  · have HA : Hid (decide (l = m) = false) := decide_eq_false (by rintro rfl; exact hne (hlen.trans hlen'.symm))
    have hne' : ((len : Int) != (len' : Int)) = true := by simp; omega
    clear hV hV' hlen hlen'
    go_enter Try.func44, Try.ntmps44
    go_wp2
    go_ret
    exact ⟨ret_b HA.out.symm, Below.refl _ _⟩

set_option maxHeartbeats 2000000 in
theorem equalI_any (l m : List Int) (a : Option Addr) (len cap : Nat) (a' : Option Addr) (len' cap' : Nat) (w : World) (hV : Arr w.heap.size w a (cellsI l)) (hlen : len = l.length) (hV' : Arr w.heap.size w a' (cellsI m)) (hlen' : len' = m.length)
    (hmax : len ≤ 140737488355328) (hmax' : len' ≤ 140737488355328) :
    Calls Try.prog 46 #[.slice a len cap, .slice a' len' cap'] w fun e w' => e = .returned (.bool (decide (l = m))) ∧ Below w.heap.size w w' := by
  have HV := Lib.hid hV
  have HV' := Lib.hid hV'
  have HL := Lib.hid hlen
  have HL' := Lib.hid hlen'
  by_cases hne : len = len'
  · subst hne
    clear hV hV' hlen hlen'
    go_enter Try.func46, Try.ntmps46
    go_wp2
    go_loopw [13] (fun i wr => ∃ k : Nat, k ≤ len ∧ i = .int .i64 k ∧ Hid (l.take k = m.take k) ∧ Below w.heap.size w wr) (fun i _ => len - (intOf i).toNat)
    case atStart => exact ⟨0, by omega, rfl, by simp [Hid], Below.refl _ _⟩
    case round =>
      obtain ⟨k, hk, rfl, HI, hb⟩ := hrel
      have hsz := hb.size
      by_cases hlt : k < len
      · have hkl : k < l.length := by have := HL.out; omega
        have hkm : k < m.length := by have := HL'.out; omega
        obtain ⟨b, o, rfl, hbN, c0⟩ := intAt HV.out hkl
        obtain ⟨b', o', rfl, hbN', g0⟩ := intAt HV'.out hkm
        have d0 : ∀ W, Later wr.drew W → W.cell? ⟨b, o + k, none⟩ = some (.int .i64 l[k]) := fun W h => ((Later.undrew h : Below wr.heap.size wr W).cell (p := ⟨b, o + k, none⟩) (by show b < wr.heap.size; omega)).trans ((hb.cell (p := ⟨b, o + k, none⟩) hbN).trans c0)
        have e0 : ∀ W, Later wr.drew W → W.cell? ⟨b', o' + k, none⟩ = some (.int .i64 m[k]) := fun W h => ((Later.undrew h : Below wr.heap.size wr W).cell (p := ⟨b', o' + k, none⟩) (by show b' < wr.heap.size; omega)).trans ((hb.cell (p := ⟨b', o' + k, none⟩) hbN').trans g0)
        clear c0 g0
        have HT : Hid (l[k] = m[k] → l.take (k + 1) = m.take (k + 1)) := fun h => take_stepG hkl hkm HI.out h
        have HF : Hid (l[k] ≠ m[k] → decide (l = m) = false) := fun h => decide_eq_false (ne_of_getG hkl hkm h)
        obtain ⟨x, hx⟩ : ∃ x, x = l[k] := ⟨_, rfl⟩
        obtain ⟨y, hy⟩ : ∃ y, y = m[k] := ⟨_, rfl⟩
        rw [← hx] at d0 HT HF
        rw [← hy] at e0 HT HF
        clear hx hy
        by_cases hxy : x = y
        · subst hxy
          have HT2 := Lib.hid (HT.out rfl)
          clear HT HF
          go_wp2_with fail
          refine wp_region_ord [(0, true), (1, true), (2, true), (3, true), (4, true), (5, true), (6, true), (7, true), (8, true)] (by kernel_rfl) (by kernel_rfl) (by kernel_rfl) (by kernel_rfl) ?_
          repeat (first | (refine wpO_F (v := ?_) rfl (by rfl) (fun w' hL => ?_) ?_; rotate_left; (solve | (go_simp; with_reducible rfl) | go_simp); try simp only [Act.put, List.setIfInBounds_toArray, List.set_cons_zero, List.set_cons_succ]) | (refine wpO_G rfl (by rfl) ?_; try simp only [Act.put, List.setIfInBounds_toArray, List.set_cons_zero, List.set_cons_succ]))
          refine wpO_nil ?_
          clear d0 e0
          go_wp2
          go_roundw
          case rel => exact ⟨k + 1, by omega, by go_num, HT2, hb.drew⟩
          case measure => simp [intOf]; omega
        · have HF2 := Lib.hid (HF.out hxy)
          have hnb : (x == y) = false := by simpa using hxy
          have hnb2 : (x != y) = true := by simpa using hxy
          clear HT HF hxy
          go_wp2_with fail
          refine wp_region_ord [(0, true), (1, true), (2, true), (3, true), (4, true), (5, true), (6, true), (7, true), (8, true)] (by kernel_rfl) (by kernel_rfl) (by kernel_rfl) (by kernel_rfl) ?_
          repeat (first | (refine wpO_F (v := ?_) rfl (by rfl) (fun w' hL => ?_) ?_; rotate_left; (solve | (go_simp; with_reducible rfl) | go_simp); try simp only [Act.put, List.setIfInBounds_toArray, List.set_cons_zero, List.set_cons_succ]) | (refine wpO_G rfl (by rfl) ?_; try simp only [Act.put, List.setIfInBounds_toArray, List.set_cons_zero, List.set_cons_succ]))
          refine wpO_nil ?_
          clear d0 e0
          go_wp2
          go_ret
          exact ⟨ret_b HF2.out.symm, hb.drew⟩
      · have hall : l = m := by
          have h1 : l.take k = l := List.take_of_length_le (by have := HL.out; omega)
          have h2 : m.take k = m := List.take_of_length_le (by have := HL'.out; omega)
          have := HI.out
          rw [h1, h2] at this; exact this
        have HA : Hid (decide (l = m) = true) := decide_eq_true hall
        clear hall
        go_wp2
        go_ret
        exact ⟨ret_b HA.out.symm, hb⟩
  · have HA : Hid (decide (l = m) = false) := decide_eq_false (by rintro rfl; exact hne (hlen.trans hlen'.symm))
    have hne' : ((len : Int) != (len' : Int)) = true := by simp; omega
    clear hV hV' hlen hlen'
    go_enter Try.func46, Try.ntmps46
    go_wp2
    go_ret
    exact ⟨ret_b HA.out.symm, Below.refl _ _⟩

set_option maxHeartbeats 2000000 in
theorem equalC_any (l m : List Cl) (a : Option Addr) (len cap : Nat) (a' : Option Addr) (len' cap' : Nat) (w : World) (hV : Arr w.heap.size w a (cellsC l)) (hlen : len = l.length) (hV' : Arr w.heap.size w a' (cellsC m)) (hlen' : len' = m.length)
    (hmax : len ≤ 140737488355328) (hmax' : len' ≤ 140737488355328) :
    Calls Try.prog 45 #[.slice a len cap, .slice a' len' cap'] w fun e w' => e = .returned (.bool (decide (l = m))) ∧ Below w.heap.size w w' := by
  have HV := Lib.hid hV
  have HV' := Lib.hid hV'
  have HL := Lib.hid hlen
  have HL' := Lib.hid hlen'
  by_cases hne : len = len'
  · subst hne
    clear hV hV' hlen hlen'
    go_enter Try.func45, Try.ntmps45
    go_wp2
    go_loopw [13] (fun i wr => ∃ k : Nat, k ≤ len ∧ i = .int .i64 k ∧ Hid (l.take k = m.take k) ∧ Below w.heap.size w wr) (fun i _ => len - (intOf i).toNat)
    case atStart => exact ⟨0, by omega, rfl, by simp [Hid], Below.refl _ _⟩
    case round =>
      obtain ⟨k, hk, rfl, HI, hb⟩ := hrel
      have hsz := hb.size
      by_cases hlt : k < len
      · have hkl : k < l.length := by have := HL.out; omega
        have hkm : k < m.length := by have := HL'.out; omega
        obtain ⟨b, o, rfl, hbN, c0, c1, c2⟩ := cellAt HV.out hkl
        obtain ⟨b', o', rfl, hbN', g0, g1, g2⟩ := cellAt HV'.out hkm
        have d0 : ∀ W, Later wr.drew W → W.cell? ⟨b, o + k * 3, none⟩ = some (.int .i64 l[k].len) := fun W h => ((Later.undrew h : Below wr.heap.size wr W).cell (p := ⟨b, o + k * 3, none⟩) (by show b < wr.heap.size; omega)).trans ((hb.cell (p := ⟨b, o + k * 3, none⟩) hbN).trans c0)
        have d1 : ∀ W, Later wr.drew W → W.cell? ⟨b, o + k * 3 + 1, none⟩ = some (.string l[k].data) := fun W h => ((Later.undrew h : Below wr.heap.size wr W).cell (p := ⟨b, o + k * 3 + 1, none⟩) (by show b < wr.heap.size; omega)).trans ((hb.cell (p := ⟨b, o + k * 3 + 1, none⟩) hbN).trans c1)
        have d2 : ∀ W, Later wr.drew W → W.cell? ⟨b, o + k * 3 + 2, none⟩ = some (.int .i64 l[k].page) := fun W h => ((Later.undrew h : Below wr.heap.size wr W).cell (p := ⟨b, o + k * 3 + 2, none⟩) (by show b < wr.heap.size; omega)).trans ((hb.cell (p := ⟨b, o + k * 3 + 2, none⟩) hbN).trans c2)
        have e0 : ∀ W, Later wr.drew W → W.cell? ⟨b', o' + k * 3, none⟩ = some (.int .i64 m[k].len) := fun W h => ((Later.undrew h : Below wr.heap.size wr W).cell (p := ⟨b', o' + k * 3, none⟩) (by show b' < wr.heap.size; omega)).trans ((hb.cell (p := ⟨b', o' + k * 3, none⟩) hbN').trans g0)
        have e1 : ∀ W, Later wr.drew W → W.cell? ⟨b', o' + k * 3 + 1, none⟩ = some (.string m[k].data) := fun W h => ((Later.undrew h : Below wr.heap.size wr W).cell (p := ⟨b', o' + k * 3 + 1, none⟩) (by show b' < wr.heap.size; omega)).trans ((hb.cell (p := ⟨b', o' + k * 3 + 1, none⟩) hbN').trans g1)
        have e2 : ∀ W, Later wr.drew W → W.cell? ⟨b', o' + k * 3 + 2, none⟩ = some (.int .i64 m[k].page) := fun W h => ((Later.undrew h : Below wr.heap.size wr W).cell (p := ⟨b', o' + k * 3 + 2, none⟩) (by show b' < wr.heap.size; omega)).trans ((hb.cell (p := ⟨b', o' + k * 3 + 2, none⟩) hbN').trans g2)
        clear c0 g0 c1 g1 c2 g2
        have HT : Hid (l[k] = m[k] → l.take (k + 1) = m.take (k + 1)) := fun h => take_stepG hkl hkm HI.out h
        have HF : Hid (l[k] ≠ m[k] → decide (l = m) = false) := fun h => decide_eq_false (ne_of_getG hkl hkm h)
        obtain ⟨x, hx⟩ : ∃ x, x = l[k] := ⟨_, rfl⟩
        obtain ⟨y, hy⟩ : ∃ y, y = m[k] := ⟨_, rfl⟩
        rw [← hx] at d0 d1 d2 HT HF
        rw [← hy] at e0 e1 e2 HT HF
        clear hx hy
        by_cases hxy : x = y
        · subst hxy
          have HT2 := Lib.hid (HT.out rfl)
          clear HT HF
          go_wp2_with fail
          refine wp_region_ord [(0, true), (1, true), (2, true), (3, true), (4, true), (5, true), (6, true), (7, true), (8, true)] (by kernel_rfl) (by kernel_rfl) (by kernel_rfl) (by kernel_rfl) ?_
          repeat (first | (refine wpO_F (v := ?_) rfl (by rfl) (fun w' hL => ?_) ?_; rotate_left; (solve | (go_simp; with_reducible rfl) | go_simp); try simp only [Act.put, List.setIfInBounds_toArray, List.set_cons_zero, List.set_cons_succ]) | (refine wpO_G rfl (by rfl) ?_; try simp only [Act.put, List.setIfInBounds_toArray, List.set_cons_zero, List.set_cons_succ]))
          refine wpO_nil ?_
          clear d0 d1 d2 e0 e1 e2
          go_wp2
          go_roundw
          case rel => exact ⟨k + 1, by omega, by go_num, HT2, hb.drew⟩
          case measure => simp [intOf]; omega
        · have HF2 := Lib.hid (HF.out hxy)
          obtain ⟨xn, xs, xp⟩ := x
          obtain ⟨yn, ys, yp⟩ := y
          have hnb := ne_cell xn yn xp yp xs ys hxy
          simp only at d0 d1 d2 e0 e1 e2
          clear HT HF hxy
          go_wp2_with fail
          refine wp_region_ord [(0, true), (1, true), (2, true), (3, true), (4, true), (5, true), (6, true), (7, true), (8, true)] (by kernel_rfl) (by kernel_rfl) (by kernel_rfl) (by kernel_rfl) ?_
          repeat (first | (refine wpO_F (v := ?_) rfl (by rfl) (fun w' hL => ?_) ?_; rotate_left; (solve | (go_simp; with_reducible rfl) | go_simp); try simp only [Act.put, List.setIfInBounds_toArray, List.set_cons_zero, List.set_cons_succ]) | (refine wpO_G rfl (by rfl) ?_; try simp only [Act.put, List.setIfInBounds_toArray, List.set_cons_zero, List.set_cons_succ]))
          refine wpO_nil ?_
          clear d0 d1 d2 e0 e1 e2
          go_wp2
          go_ret
          exact ⟨ret_b HF2.out.symm, hb.drew⟩
      · have hall : l = m := by
          have h1 : l.take k = l := List.take_of_length_le (by have := HL.out; omega)
          have h2 : m.take k = m := List.take_of_length_le (by have := HL'.out; omega)
          have := HI.out
          rw [h1, h2] at this; exact this
        have HA : Hid (decide (l = m) = true) := decide_eq_true hall
        clear hall
        go_wp2
        go_ret
        exact ⟨ret_b HA.out.symm, hb⟩
  · have HA : Hid (decide (l = m) = false) := decide_eq_false (by rintro rfl; exact hne (hlen.trans hlen'.symm))
    have hne' : ((len : Int) != (len' : Int)) = true := by simp; omega
    clear hV hV' hlen hlen'
    go_enter Try.func45, Try.ntmps45
    go_wp2
    go_ret
    exact ⟨ret_b HA.out.symm, Below.refl _ _⟩

set_option maxHeartbeats 4000000 in
theorem NSame_any (n n' : Nd) (m m' : NB) (w : World) (h : NAt w n m) (h' : NAt w n' m') :
    Calls Try.prog 20 #[m.v n.leaf, m'.v n'.leaf] w fun e w' => e = .returned (.bool (decide (n = n'))) ∧ Below w.heap.size w w' := by
  have HS := Lib.hid (fun W (hb : Below w.heap.size w W) => equalS_any n.keys n'.keys m.ka m.kl m.kc m'.ka m'.kl m'.kc W (h.later hb).karr h.hk (h'.later hb).karr h'.hk h.kmax h'.kmax)
  have HC := Lib.hid (fun W (hb : Below w.heap.size w W) => equalC_any n.cells n'.cells m.ca m.cl m.cc m'.ca m'.cl m'.cc W (h.later hb).carr h.hc (h'.later hb).carr h'.hc h.cmax h'.cmax)
  have HI := Lib.hid (fun W (hb : Below w.heap.size w W) => equalI_any n.kids n'.kids m.da m.dl m.dc m'.da m'.dl m'.dc W (h.later hb).darr h.hd (h'.later hb).darr h'.hd h.dmax h'.dmax)
  have hd : decide (n = n') = (n.leaf == n'.leaf && (decide (n.keys = n'.keys) && (decide (n.cells = n'.cells) && decide (n.kids = n'.kids)))) := by
    obtain ⟨l, ks, cs, ps⟩ := n
    obtain ⟨l', ks', cs', ps'⟩ := n'
    rw [Bool.eq_iff_iff]
    simp
  rw [hd]
  clear hd h h'
  obtain ⟨l, ks, cs, ps⟩ := n
  obtain ⟨l', ks', cs', ps'⟩ := n'
  obtain ⟨ka, kl, kc, ca, cl, cc, da, dl, dc⟩ := m
  obtain ⟨ka', kl', kc', ca', cl', cc', da', dl', dc'⟩ := m'
  simp only at *
  generalize decide (ks = ks') = r1 at *
  generalize decide (cs = cs') = r2 at *
  generalize decide (ps = ps') = r3 at *
  have hB0 := ((Below.refl _ w).alloc (Nat.le_refl _) (.cells #[.bool l, .slice ka kl kc, .slice ca cl cc, .slice da dl dc] 26)).alloc (by simp) (.cells #[.bool l', .slice ka' kl' kc', .slice ca' cl' cc', .slice da' dl' dc'] 26)
  have HB0 := Lib.hid hB0
  have hlp : Hid (∀ W, Below (w.heap.size + 2) ((w.alloc (.cells #[.bool l, .slice ka kl kc, .slice ca cl cc, .slice da dl dc] 26)).alloc (.cells #[.bool l', .slice ka' kl' kc', .slice ca' cl' cc', .slice da' dl' dc'] 26)) W →
      W.cell? ⟨w.heap.size, 2, none⟩ = some (.slice ca cl cc) ∧ W.cell? ⟨w.heap.size, 3, none⟩ = some (.slice da dl dc) ∧ W.cell? ⟨w.heap.size + 1, 2, none⟩ = some (.slice ca' cl' cc') ∧ W.cell? ⟨w.heap.size + 1, 3, none⟩ = some (.slice da' dl' dc')) := by
    intro W hb
    refine ⟨(hb.cell (p := ⟨w.heap.size, 2, none⟩) (by show w.heap.size < _; omega)).trans (by simp), (hb.cell (p := ⟨w.heap.size, 3, none⟩) (by show w.heap.size < _; omega)).trans (by simp), (hb.cell (p := ⟨w.heap.size + 1, 2, none⟩) (by show w.heap.size + 1 < _; omega)).trans (by simp), (hb.cell (p := ⟨w.heap.size + 1, 3, none⟩) (by show w.heap.size + 1 < _; omega)).trans (by simp)⟩
  clear hB0
  by_cases hll : l = l'
  · subst hll
    cases r1 with
    | false =>
      go_enter Try.func20, Try.ntmps20
      go_wp2_with fail
      refine (HS.out _ HB0.out).mono ?_
      rintro e w1 ⟨rfl, hb⟩
      go_wp2
      go_ret
      exact ⟨by cases l <;> rfl, HB0.out.trans (hb.mono HB0.out.size)⟩
    | true =>
      go_enter Try.func20, Try.ntmps20
      go_wp2_with fail
      refine (HS.out _ HB0.out).mono ?_
      rintro e w1 ⟨rfl, hb⟩
      have hb1 := HB0.out.trans (hb.mono HB0.out.size)
      have hbx : Below (w.heap.size + 2) _ w1 := hb.mono (by simp)
      obtain ⟨p2, p3, q2, q3⟩ := hlp.out _ hbx
      clear HS hb
      cases r2 with
      | false =>
        go_wp2_with fail
        refine (HC.out _ hb1).mono ?_
        rintro e w2 ⟨rfl, hb⟩
        go_wp2
        go_ret
        exact ⟨by cases l <;> rfl, hb1.trans (hb.mono hb1.size)⟩
      | true =>
        go_wp2_with fail
        refine (HC.out _ hb1).mono ?_
        rintro e w2 ⟨rfl, hb⟩
        have hb2 := hb1.trans (hb.mono hb1.size)
        have hszw : w.heap.size + 2 ≤ w1.heap.size := by have := hbx.size; simp at this; omega
        have hbx2 := hbx.trans (hb.mono hszw)
        clear p2 p3 q2 q3
        obtain ⟨p2, p3, q2, q3⟩ := hlp.out _ hbx2
        clear HC hb hbx hbx2 hszw
        go_wp2_with fail
        refine (HI.out _ hb2).mono ?_
        rintro e w3 ⟨rfl, hb⟩
        go_wp2
        go_ret
        exact ⟨by cases l <;> cases r3 <;> rfl, hb2.trans (hb.mono hb2.size)⟩
  · have hlb : (l == l') = false := by simpa using hll
    go_enter Try.func20, Try.ntmps20
    go_wp2
    go_ret
    exact ⟨ret_b (by rw [hlb]; simp), HB0.out⟩
end Go.Proofs.Ytpcgommdlgmknaa

/- The walk of the law's alive. -/
namespace Go.Proofs.Ytpcgommdlgmknaa
open Go.RowKit

/-- Read of any bytes. -/
theorem NRead_any (b : List Nat) (a : Option Addr) (n cap : Nat) (w : World) (hB : Bs w.heap.size w a b) (hn : n = b.length) (hcap : n ≤ cap) (hmax : n ≤ 9223372036854775807) :
    Calls Try.prog 17 #[.slice a n cap] w (RetRd w b) := by
  by_cases hl : b.length = 512
  · have h5 : n = 512 := by omega
    subst h5
    by_cases h1 : valL (cutL b 0 1) = 1
    · exact read_leaf b a cap w hB hl hcap h1
    · by_cases h2 : valL (cutL b 0 1) = 2
      · exact read_inner b a cap w hB hl hcap h2
      · exact read_other b a cap w hB hl hcap h1 h2
  · exact read_len b a n cap w hn hl hmax

def n0 : Nd := ⟨true, [⟨#[97]⟩, ⟨#[98]⟩], [⟨1, ⟨#[120]⟩, 0⟩, ⟨200, ⟨#[]⟩, 7⟩], []⟩
theorem n0_ok : n0.Ok := by
  refine ⟨?_, ?_⟩
  · intro i k hi
    have hlt : i < 2 := (List.getElem?_eq_some_iff.1 hi).1
    have hc : i = 0 ∨ i = 1 := by omega
    rcases hc with rfl | rfl
    · simp [n0] at hi; subst hi
      exact ⟨by decide, by omega⟩
    · simp [n0] at hi; subst hi
      refine ⟨by decide, fun _ p hp => ?_⟩
      simp [n0] at hp; subst hp
      simp [lessK, ByteArray.toList_eq, Op.bytesLess]
  · simp [n0, Cl.ok]
    decide
theorem n0_enc : encN n0.asR = [1, 0, 2, 1, 0, 1, 97, 120, 1, 0, 200, 98, 0, 0, 0, 7] := by decide
theorem zeroN_no : zeroN.ok = false := by
  refine Nd.ok_eq ?_
  simp [Nd.Ok, zeroN]
theorem n0_write : writeN n0 = (pageN n0.asR, 0) := by
  unfold writeN
  rw [Nd.ok_eq (n := n0) (b := true) (by simp [n0_ok]), if_pos rfl, if_pos (by rw [n0_enc]; decide)]
theorem zeroN_write : writeN zeroN = ([], 3) := by
  unfold writeN
  rw [zeroN_no]; rfl
theorem n0_read : rdNd (pageN n0.asR) = (n0, 0) := by
  rw [rdNd_yes (decN_page n0_ok.asR (by rw [n0_enc]; decide)), (asN_asR n0_ok.shaped).1]
theorem n0_page : (pageN n0.asR)[0]? = some 1 ∧ (pageN n0.asR)[2]? = some 2 ∧ (pageN n0.asR)[6]? = some 97 ∧ (pageN n0.asR)[7]? = some 120 ∧ (pageN n0.asR).length = 512 := by
  refine ⟨?_, ?_, ?_, ?_, pageN_len (by rw [n0_enc]; decide)⟩ <;> (unfold pageN; rw [n0_enc]; rfl)
theorem n0_half {a b : Nd} {k : ByteArray} (h : IsHalf n0 a k b) : a.keys.length = 1 ∧ k = ⟨#[98]⟩ ∧ b.keys.length = 1 := by
  rcases h with ⟨h, _⟩ | ⟨_, _, i, hi, rfl, hk, rfl⟩
  · exact absurd ⟨n0_ok, by decide⟩ h
  · have h1 := hi.bd
    have hi1 : i = 1 := by
      have : n0.keys.length - 1 - movedN n0 = 1 := by decide
      omega
    subst hi1
    refine ⟨by decide, ?_, by decide⟩
    have : n0.keys[1]? = some ⟨#[98]⟩ := rfl
    rw [this] at hk
    exact (Option.some.inj hk).symm

def m0 (s : Nat) : NB := ⟨some ⟨s, 0, none⟩, 2, 2, some ⟨s + 1, 0, none⟩, 2, 2, none, 0, 0⟩
theorem alive_start (w : World) : ∃ W, (((w.alloc (.cells #[.string ⟨#[97]⟩, .string ⟨#[98]⟩] 9)).alloc (.cells #[.int .i64 1, .string ⟨#[120]⟩, .int .i64 0, .int .i64 200, .string ⟨#[]⟩, .int .i64 7] 63)).alloc (.cells #[.bool true, .slice (some ⟨w.heap.size, 0, none⟩) 2 2, .slice (some ⟨w.heap.size + 1, 0, none⟩) 2 2, .slice none 0 0] 26)) = W ∧
    NAt W n0 (m0 w.heap.size) ∧ Blk W (w.heap.size + 1 + 1) 26 #[.bool true, .slice (some ⟨w.heap.size, 0, none⟩) 2 2, .slice (some ⟨w.heap.size + 1, 0, none⟩) 2 2, .slice none 0 0] ∧ Below w.heap.size w W := by
  refine ⟨_, rfl, ?_, ?_, (((Below.refl _ w).alloc (Nat.le_refl _) _).alloc (by simp) _).alloc (by simp; omega) _⟩
  · have h1 := ((Blk.new w 9 #[.string ⟨#[97]⟩, .string ⟨#[98]⟩]).alloc (.cells #[.int .i64 1, .string ⟨#[120]⟩, .int .i64 0, .int .i64 200, .string ⟨#[]⟩, .int .i64 7] 63)).alloc (.cells #[.bool true, .slice (some ⟨w.heap.size, 0, none⟩) 2 2, .slice (some ⟨w.heap.size + 1, 0, none⟩) 2 2, .slice none 0 0] 26)
    have h2 := (Blk.new (w.alloc (.cells #[.string ⟨#[97]⟩, .string ⟨#[98]⟩] 9)) 63 #[.int .i64 1, .string ⟨#[120]⟩, .int .i64 0, .int .i64 200, .string ⟨#[]⟩, .int .i64 7]).alloc (.cells #[.bool true, .slice (some ⟨w.heap.size, 0, none⟩) 2 2, .slice (some ⟨w.heap.size + 1, 0, none⟩) 2 2, .slice none 0 0] 26)
    have e : (w.alloc (.cells #[.string ⟨#[97]⟩, .string ⟨#[98]⟩] 9)).heap.size = w.heap.size + 1 := by simp
    rw [e] at h2
    refine ⟨rfl, rfl, rfl, by simp [m0], by simp [m0], by simp [m0], by simp [m0], by simp [m0], by simp [m0], .inr ⟨_, 0, rfl, h1.lt, fun i v hi => ?_⟩, .inr ⟨_, 0, rfl, h2.lt, fun i v hi => ?_⟩, .inl rfl, ?_, ?_, ?_⟩
    · rw [Nat.zero_add, h1.cell i]
      have : (#[.string ⟨#[97]⟩, .string ⟨#[98]⟩] : Array Value)[i]? = (cellsS n0.keys)[i]? := by rw [← Array.getElem?_toList]; rfl
      rw [this]; exact hi
    · rw [Nat.zero_add, h2.cell i]
      have : (#[.int .i64 1, .string ⟨#[120]⟩, .int .i64 0, .int .i64 200, .string ⟨#[]⟩, .int .i64 7] : Array Value)[i]? = (cellsC n0.cells)[i]? := by rw [← Array.getElem?_toList]; rfl
      rw [this]; exact hi
    · intro k hk
      simp [n0] at hk
      rcases hk with rfl | rfl <;> simp [ByteArray.size]
    · intro c hc
      simp [n0] at hc
      rcases hc with rfl | rfl <;> simp [Cl.fair, ByteArray.size]
    · simp [n0]
  · have h3 := Blk.new ((w.alloc (.cells #[.string ⟨#[97]⟩, .string ⟨#[98]⟩] 9)).alloc (.cells #[.int .i64 1, .string ⟨#[120]⟩, .int .i64 0, .int .i64 200, .string ⟨#[]⟩, .int .i64 7] 63)) 26 #[.bool true, .slice (some ⟨w.heap.size, 0, none⟩) 2 2, .slice (some ⟨w.heap.size + 1, 0, none⟩) 2 2, .slice none 0 0]
    have e : ((w.alloc (.cells #[.string ⟨#[97]⟩, .string ⟨#[98]⟩] 9)).alloc (.cells #[.int .i64 1, .string ⟨#[120]⟩, .int .i64 0, .int .i64 200, .string ⟨#[]⟩, .int .i64 7] 63)).heap.size = w.heap.size + 1 + 1 := by simp
    rw [e] at h3
    exact h3

set_option maxRecDepth 100000 in
set_option maxHeartbeats 8000000 in
theorem alive_any10 (w : World) :
    Calls Try.prog 9 #[] w fun e w' => e = .returned (.bool true) ∧ Below w.heap.size w w' := by
  go_enter Try.func9, Try.ntmps9
  go_upto_region 2 with (fail)
  obtain ⟨W, hW, hNA, hBn, hBel⟩ := alive_start w
  rw [hW]
  clear hW
  obtain ⟨B, hB⟩ : ∃ B, w.heap.size + 1 + 1 = B := ⟨_, rfl⟩
  have hsB : w.heap.size < B := by omega
  rw [hB] at hBn ⊢
  have HBn := Lib.hid hBn
  have HNA := Lib.hid hNA
  have HBel := Lib.hid hBel
  have n0_ : W.cell? ⟨B, 0, none⟩ = some (.bool true) := hBn.cell 0
  have n1_ : W.cell? ⟨B, 1, none⟩ = some (.slice (some ⟨w.heap.size, 0, none⟩) 2 2) := hBn.cell 1
  have n2_ : W.cell? ⟨B, 2, none⟩ = some (.slice (some ⟨w.heap.size + 1, 0, none⟩) 2 2) := hBn.cell 2
  have n3_ : W.cell? ⟨B, 3, none⟩ = some (.slice none 0 0) := hBn.cell 3
  have hBW : B < W.heap.size := hBn.lt
  clear hB hBn hNA hBel
  have HW := fun X (hb : Below W.heap.size W X) => NWrite_any n0 (m0 w.heap.size) X (HNA.out.later hb) (by simp [m0])
  rw [n0_write] at HW
  have HW := Lib.hid HW
  go_wp2_with fail
  refine (HW.out _ (Below.refl _ _)).mono ?_
  rintro e w1 ⟨a, cap, rfl, hcap, hcm, hBs, hb1⟩
  obtain ⟨p0, p2, p6, p7, pl⟩ := n0_page
  rw [show ((pageN n0.asR, (0 : Int)).1).length = 512 from pl] at hcap ⊢
  have HBs := Lib.hid hBs
  have HRd := NRead_any (pageN n0.asR) a 512 cap w1 hBs pl.symm hcap (by omega)
  have HRd := Lib.hid HRd
  have Hb1 := Lib.hid hb1
  clear hBs hb1 HW
  go_wp2_with fail
  refine HRd.out.mono ?_
  rintro e w2 ⟨m, rfl, hN2, hm, hb2⟩
  rw [n0_read] at hN2 ⊢
  rw [show ((n0, (0 : Int)).1).leaf = true from rfl]
  replace hN2 : NAt w2 n0 m := hN2
  have L02 : Later W w2 := Later.trans Hb1.out hb2
  have hB2 := HBn.out.bel L02 hBW
  have x0 : w2.cell? ⟨B, 0, none⟩ = some (.bool true) := hB2.cell 0
  have x1 : w2.cell? ⟨B, 1, none⟩ = some (.slice (some ⟨w.heap.size, 0, none⟩) 2 2) := hB2.cell 1
  have x2 : w2.cell? ⟨B, 2, none⟩ = some (.slice (some ⟨w.heap.size + 1, 0, none⟩) 2 2) := hB2.cell 2
  have x3 : w2.cell? ⟨B, 3, none⟩ = some (.slice none 0 0) := hB2.cell 3
  have hBw2 : B < w2.heap.size := hB2.lt
  have L23 : Later w2 (w2.alloc (.cells #[.bool true, .slice m.ka m.kl m.kc, .slice m.ca m.cl m.cc, .slice m.da m.dl m.dc] 26)) := Below.box _ _
  have HHv := Lib.hid (NHalve_any n0 (m0 w.heap.size) _ (HNA.out.later (L02.trans L23)) (by simp [m0]))
  have HN2 := Lib.hid hN2
  have HL02 := Lib.hid L02
  have HL12 : Hid (Later w1 w2) := hb2
  have HL23 := Lib.hid L23
  have HB2 := Lib.hid hB2
  clear hN2 L02 L23 hb2 hB2 HRd n0_ n1_ n2_ n3_
  go_wp2_with fail
  refine HHv.out.mono ?_
  rintro e w4 ⟨a1, b1, k1, ma, mb, rfl, hH, hA, hBb, L34⟩
  obtain ⟨ha, rfl, hbk⟩ := n0_half hH
  have hka := hA.hk
  have hkb := hBb.hk
  rw [ha] at hka
  rw [hbk] at hkb
  obtain ⟨ka, kl, kc, ca, cl, cc, da, dl, dc⟩ := ma
  obtain ⟨ka', kl', kc', ca', cl', cc', da', dl', dc'⟩ := mb
  simp only at hka hkb
  subst hka hkb
  have L45 : Later w4 ((w4.alloc (.cells #[.bool a1.leaf, .slice ka 1 kc, .slice ca cl cc, .slice da dl dc] 26)).alloc (.cells #[.bool b1.leaf, .slice ka' 1 kc', .slice ca' cl' cc', .slice da' dl' dc'] 26)) := ((Below.refl _ _).alloc (Nat.le_refl _) _).alloc (by simp) _
  have HWz := NWrite_any zeroN zeroNB ((w4.alloc (.cells #[.bool a1.leaf, .slice ka 1 kc, .slice ca cl cc, .slice da dl dc] 26)).alloc (.cells #[.bool b1.leaf, .slice ka' 1 kc', .slice ca' cl' cc', .slice da' dl' dc'] 26)) (NAt_zero _) (by simp [zeroNB])
  rw [zeroN_write] at HWz
  have HWz := Lib.hid HWz
  have HL34 : Hid (Later _ w4) := L34
  have HL45 := Lib.hid L45
  clear hH hA hBb L34 L45 HHv ha hbk x0 x1 x2 x3
  go_wp2_with fail
  refine HWz.out.mono ?_
  rintro e w6 ⟨az, capz, rfl, _, _, _, L56⟩
  have L46 : Later w4 w6 := Later.trans HL45.out L56
  have L36 : Later _ w6 := Later.trans HL34.out L46
  have L26 : Later w2 w6 := Later.trans HL23.out L36
  have L16 : Later w1 w6 := Later.trans HL12.out L26
  have L06 : Later W w6 := Later.trans HL02.out L26
  have hne : pageN n0.asR ≠ [] := by intro h0; rw [h0] at pl; simp at pl
  obtain ⟨bb, o, rfl, hbb, hcell⟩ := (HBs.out.2.resolve_left hne)
  have y0 : w6.cell? ⟨bb, o + 0, none⟩ = some (.int .u8 1) := (Below.cell (p := ⟨bb, o + 0, none⟩) L16 hbb).trans (hcell 0 1 p0)
  have y2 : w6.cell? ⟨bb, o + 2, none⟩ = some (.int .u8 2) := (Below.cell (p := ⟨bb, o + 2, none⟩) L16 hbb).trans (hcell 2 2 p2)
  have y6 : w6.cell? ⟨bb, o + 6, none⟩ = some (.int .u8 97) := (Below.cell (p := ⟨bb, o + 6, none⟩) L16 hbb).trans (hcell 6 97 p6)
  have y7 : w6.cell? ⟨bb, o + 7, none⟩ = some (.int .u8 120) := (Below.cell (p := ⟨bb, o + 7, none⟩) L16 hbb).trans (hcell 7 120 p7)
  rw [Nat.add_zero] at y0
  have hB6 := HB2.out.bel L26 HB2.out.lt
  have b0 : w6.cell? ⟨B, 0, none⟩ = some (.bool true) := hB6.cell 0
  have b1_ : w6.cell? ⟨B, 1, none⟩ = some (.slice (some ⟨w.heap.size, 0, none⟩) 2 2) := hB6.cell 1
  have b2 : w6.cell? ⟨B, 2, none⟩ = some (.slice (some ⟨w.heap.size + 1, 0, none⟩) 2 2) := hB6.cell 2
  have b3 : w6.cell? ⟨B, 3, none⟩ = some (.slice none 0 0) := hB6.cell 3
  have hT := (Blk.new w2 26 #[.bool true, .slice m.ka m.kl m.kc, .slice m.ca m.cl m.cc, .slice m.da m.dl m.dc]).bel L36 (by simp)
  have t0 : w6.cell? ⟨w2.heap.size, 0, none⟩ = some (.bool true) := hT.cell 0
  have t1 : w6.cell? ⟨w2.heap.size, 1, none⟩ = some (.slice m.ka m.kl m.kc) := hT.cell 1
  have t2 : w6.cell? ⟨w2.heap.size, 2, none⟩ = some (.slice m.ca m.cl m.cc) := hT.cell 2
  have t3 : w6.cell? ⟨w2.heap.size, 3, none⟩ = some (.slice m.da m.dl m.dc) := hT.cell 3
  have hU := ((Blk.new w4 26 #[.bool a1.leaf, .slice ka 1 kc, .slice ca cl cc, .slice da dl dc]).alloc (.cells #[.bool b1.leaf, .slice ka' 1 kc', .slice ca' cl' cc', .slice da' dl' dc'] 26)).bel L56 (by simp; omega)
  have hV := (Blk.new (w4.alloc (.cells #[.bool a1.leaf, .slice ka 1 kc, .slice ca cl cc, .slice da dl dc] 26)) 26 #[.bool b1.leaf, .slice ka' 1 kc', .slice ca' cl' cc', .slice da' dl' dc']).bel L56 (by simp)
  rw [show (w4.alloc (.cells #[.bool a1.leaf, .slice ka 1 kc, .slice ca cl cc, .slice da dl dc] 26)).heap.size = w4.heap.size + 1 by simp] at hV
  have HU := Lib.hid hU
  have HV := Lib.hid hV
  have HB6 := Lib.hid hB6
  have HSm := NSame_any n0 n0 (m0 w.heap.size) m w6 (HNA.out.later L06) (HN2.out.later L26)
  rw [decide_eq_true rfl] at HSm
  have HSm := Lib.hid HSm
  have HSz := fun X (hb : Below w6.heap.size w6 X) => NSize_any n0 (m0 w.heap.size) X (HNA.out.later (L06.trans hb)) (by simp [m0])
  rw [Nd.ok_eq (n := n0) (b := true) (by simp [n0_ok]), if_pos rfl, n0_enc] at HSz
  have HSz := Lib.hid HSz
  have HBe : Hid (Below w.heap.size w w6) := HBel.out.trans (Below.mono L06 HBel.out.size)
  clear L46 L36 L26 L16 L06 L56 hne hcell hbb p0 p2 p6 p7 pl hB6 hT hU hV HWz
  go_wp2_with fail
  refine HSm.out.mono ?_
  rintro e w7 ⟨rfl, L67⟩
  have hU := HU.out.bel L67 HU.out.lt
  have u1 : w7.cell? ⟨w4.heap.size, 1, none⟩ = some (.slice ka 1 kc) := hU.cell 1
  have hV := HV.out.bel L67 HV.out.lt
  have v1 : w7.cell? ⟨w4.heap.size + 1, 1, none⟩ = some (.slice ka' 1 kc') := hV.cell 1
  have hB7 := HB6.out.bel L67 HB6.out.lt
  have b0 : w7.cell? ⟨B, 0, none⟩ = some (.bool true) := hB7.cell 0
  have b1_ : w7.cell? ⟨B, 1, none⟩ = some (.slice (some ⟨w.heap.size, 0, none⟩) 2 2) := hB7.cell 1
  have b2 : w7.cell? ⟨B, 2, none⟩ = some (.slice (some ⟨w.heap.size + 1, 0, none⟩) 2 2) := hB7.cell 2
  have b3 : w7.cell? ⟨B, 3, none⟩ = some (.slice none 0 0) := hB7.cell 3
  have HB7 : Hid (Below w.heap.size w w7) := HBe.out.trans (Below.mono L67 HBe.out.size)
  have HSz7 := Lib.hid (HSz.out w7 L67)
  clear L67 hU hV hB7 t0 t1 t2 t3 y0 y2 y6 y7
  go_wp2_with fail
  refine HSz7.out.mono ?_
  rintro e w8 ⟨rfl, L78⟩
  have HB8 : Hid (Below w.heap.size w w8) := HB7.out.trans (Below.mono L78 HB7.out.size)
  clear L78
  go_wp2
  go_ret
  exact ⟨ret_b (by rfl), HB8.out⟩
end Go.Proofs.Ytpcgommdlgmknaa
