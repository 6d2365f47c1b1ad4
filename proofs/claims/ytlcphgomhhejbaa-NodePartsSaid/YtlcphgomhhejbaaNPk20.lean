/- Several texts of one proof, one behind the other. -/
import Derived.Test.YtlcphgomhhejbaaNPk19
set_option linter.unusedSimpArgs false
set_option linter.unusedVariables false

/- The mathematics of reading what was written, and of writing what was read. -/
namespace Go.Proofs.Ytlcphgomhhejbaa
open Go.RowKit

theorem tailN_some (b : List Nat) (kid : Nat) (leaf : Bool) (l : List Pt) (q : Nat) : tailN b kid leaf (some (l, q)) = if (b.drop q).all (· == 0) && (Rn.mk leaf kid l).ok then some ⟨leaf, kid, l⟩ else none := rfl
theorem all_zero {l : List Nat} (h : l.all (· == 0) = true) : l = List.replicate l.length 0 :=
  List.eq_replicate_of_mem fun c hc => by simpa using List.all_eq_true.1 h c hc

theorem headN_cut (x : Rn) (C : List Nat) : cutL (headN x ++ C) 0 1 = [if x.leaf then 1 else 2] ∧ cutL (headN x ++ C) 1 2 = beL 2 x.l.length ∧ (x.leaf = false → cutL (headN x ++ C) 3 4 = beL 4 x.kid.toNat) := by
  unfold headN cutL
  refine ⟨by simp, ?_, fun h => ?_⟩
  · simp only [List.cons_append, List.drop_succ_cons, List.drop_zero, List.append_assoc]
    exact List.take_left' (beL_len 2 _)
  · rw [h]
    simp only [List.cons_append, List.drop_succ_cons, List.append_assoc, Bool.false_eq_true, if_false]
    rw [List.drop_left' (beL_len 2 _)]
    exact List.take_left' (beL_len 4 _)

theorem Rn.Ok.parts {x : Rn} (h : x.Ok) : ∀ p ∈ x.l, p.key.size < 256 ∧ (if x.leaf then p.okL = true else p.okI = true) := by
  intro p hp
  obtain ⟨i, hi⟩ := List.getElem?_of_mem hp
  refine ⟨by have := h.key hi; omega, ?_⟩
  cases hl : x.leaf with
  | true => simp only [if_true]; exact h.okL hl hp
  | false => simp only [Bool.false_eq_true, if_false]; exact h.okI hl hp

theorem encPs_count (leaf : Bool) (l : List Pt) : l.length ≤ (encPs leaf l).length := by
  induction l with
  | nil => simp [encPs]
  | cons y r ih =>
    have e : encPs leaf (y :: r) = encPt leaf y ++ encPs leaf r := rfl
    have := encPt_pos leaf y
    rw [e, List.length_append, List.length_cons]; omega

theorem Rn.Ok.count {x : Rn} (hl : (encN x).length ≤ 512) : x.l.length ≤ 512 := by
  have := encPs_count x.leaf x.l
  unfold encN at hl
  rw [List.length_append] at hl
  omega

/-- What was written is read. -/
theorem decN_page {x : Rn} (h : x.Ok) (hl : (encN x).length ≤ 512) : decN (pageN x) = some x := by
  have hlen := pageN_len hl
  have hcnt := Rn.Ok.count hl
  have hp : pageN x = headN x ++ (encPs x.leaf x.l ++ List.replicate (512 - (encN x).length) 0) := by
    unfold pageN encN; rw [List.append_assoc]
  obtain ⟨c1, c2, c3⟩ := headN_cut x (encPs x.leaf x.l ++ List.replicate (512 - (encN x).length) 0)
  rw [← hp] at c1 c2 c3
  have hd := decs_of x.leaf (headN x) (List.replicate (512 - (encN x).length) 0) x.l h.parts x.l.length (Nat.le_refl _)
  rw [← hp, List.take_length] at hd
  have hv : valL (cutL (pageN x) 1 2) = x.l.length := by rw [c2, valL_beL]; omega
  have hdr : ((pageN x).drop ((headN x).length + (encPs x.leaf x.l).length)).all (· == 0) = true := by
    rw [hp, ← List.append_assoc, List.drop_left' (by rw [List.length_append])]
    simp
  have hok : x.ok = true := Rn.ok_yes h
  unfold decN
  rw [if_pos hlen, c1, hv]
  cases hlf : x.leaf with
  | true =>
    rw [hlf] at hd hdr
    have hh := headN_len x
    rw [hlf] at hh
    simp only [if_true] at hh ⊢
    rw [hh] at hd hdr
    have hk : x.kid = 0 := by have := h.2; rw [hlf] at this; exact this.1
    have hx : (⟨true, ((0 : Nat) : Int), x.l⟩ : Rn) = x := by
      obtain ⟨a, b, c⟩ := x
      simp only at hlf hk
      subst hlf hk; rfl
    rw [show valL [1] = 1 from rfl, if_pos rfl, hd]
    rw [tailN_some, hx, hdr, hok]; rfl
  | false =>
    rw [hlf] at hd hdr
    have hh := headN_len x
    rw [hlf] at hh
    simp only [Bool.false_eq_true, if_false] at hh ⊢
    rw [hh] at hd hdr
    have hk : okPage x.kid = true := by have := h.2; rw [hlf] at this; exact this.2.1
    have hk2 : 1 ≤ x.kid ∧ x.kid ≤ 4095 := of_decide_eq_true hk
    have hkv : ((valL (cutL (pageN x) 3 4) : Nat) : Int) = x.kid := by rw [c3 hlf, valL_beL]; omega
    have hx : (⟨false, x.kid, x.l⟩ : Rn) = x := by
      obtain ⟨a, b, c⟩ := x
      simp only at hlf
      subst hlf; rfl
    rw [show valL [2] = 2 from rfl, if_neg (by decide), if_pos rfl, hd]
    rw [tailN_some, hkv, hx, hdr, hok]; rfl

theorem cutL_zero (b : List Nat) (k : Nat) : cutL b 0 k = b.take k := by unfold cutL; rw [List.drop_zero]

/-- What was read is written as it was. -/
theorem page_decN {b : List Nat} {x : Rn} (hb : ∀ c ∈ b, c < 256) (h : decN b = some x) : x.Ok ∧ (encN x).length ≤ 512 ∧ pageN x = b := by
  unfold decN at h
  split at h
  · rename_i hlen
    have key : ∀ (leaf : Bool) (kid : Nat) (st : Nat) (l : List Pt) (q : Nat), (if leaf then kid = 0 else kid = valL (cutL b 3 4)) → st = (if leaf then 3 else 7) → valL (cutL b 0 1) = (if leaf then 1 else 2) →
        decs leaf b st (valL (cutL b 1 2)) = some (l, q) → (b.drop q).all (· == 0) = true → (Rn.mk leaf kid l).ok = true → (Rn.mk leaf kid l).Ok ∧ (encN ⟨leaf, kid, l⟩).length ≤ 512 ∧ pageN ⟨leaf, kid, l⟩ = b := by
      intro leaf kid st l q hkid hst h0 hd hz hok
      have hcount := decs_len hd
      have hst7 : st ≤ 7 := by rw [hst]; split <;> omega
      obtain ⟨g1, g2, g3⟩ := decs_enc hb (by rw [hlen]; omega) hd
      have hhead : headN ⟨leaf, kid, l⟩ = b.take st := by
        have e0 : cutL b 0 1 = [valL (cutL b 0 1)] := by
          have := beL_valL (cutL b 0 1) (cutL_lt hb 0 1)
          rw [cutL_len (by omega)] at this
          rw [← this]
          have hlt := valL_lt (cutL b 0 1) (cutL_lt hb 0 1)
          rw [cutL_len (by omega)] at hlt
          simp [beL, valL]
        have e1 : beL 2 (valL (cutL b 1 2)) = cutL b 1 2 := by
          have := beL_valL (cutL b 1 2) (cutL_lt hb 1 2)
          rw [cutL_len (by omega)] at this
          exact this
        have e3 : beL 4 (valL (cutL b 3 4)) = cutL b 3 4 := by
          have := beL_valL (cutL b 3 4) (cutL_lt hb 3 4)
          rw [cutL_len (by omega)] at this
          exact this
        unfold headN
        rw [hcount, e1]
        rw [h0] at e0
        cases leaf with
        | true =>
          simp only [if_true] at *
          subst hst
          rw [← cutL_zero, show (3 : Nat) = 1 + 2 from rfl, cutL_add, Nat.zero_add, e0]
          simp
        | false =>
          simp only [Bool.false_eq_true, if_false] at *
          subst hst
          rw [hkid, Int.toNat_natCast, e3, ← cutL_zero, show (7 : Nat) = 1 + (2 + 4) from rfl, cutL_add, cutL_add, Nat.zero_add, e0]
          rfl
      have henc : encN ⟨leaf, kid, l⟩ = b.take q := by
        unfold encN
        rw [hhead, ← g3]
        unfold cutL
        conv => rhs; rw [show q = st + (q - st) by omega, List.take_add]
      have hle : (encN ⟨leaf, kid, l⟩).length ≤ 512 := by rw [henc, List.length_take]; omega
      refine ⟨Rn.ok_true hok, hle, ?_⟩
      unfold pageN
      rw [henc, List.length_take, hlen]
      conv => rhs; rw [← List.take_append_drop q b, all_zero hz, List.length_drop, hlen]
      congr 2
      omega
    split at h
    · rename_i h1
      cases hd : decs true b 3 (valL (cutL b 1 2)) with
      | none => rw [hd] at h; simp [tailN] at h
      | some r =>
        obtain ⟨l, q⟩ := r
        rw [hd, tailN_some] at h
        split at h
        · rename_i hc
          simp only [Bool.and_eq_true] at hc
          simp only [Option.some.injEq] at h
          subst h
          exact key true 0 3 l q (by simp) rfl (by simpa using h1) hd hc.1 hc.2
        · simp at h
    · split at h
      · rename_i h1
        cases hd : decs false b 7 (valL (cutL b 1 2)) with
        | none => rw [hd] at h; simp [tailN] at h
        | some r =>
          obtain ⟨l, q⟩ := r
          rw [hd, tailN_some] at h
          split at h
          · rename_i hc
            simp only [Bool.and_eq_true] at hc
            simp only [Option.some.injEq] at h
            subst h
            exact key false (valL (cutL b 3 4)) 7 l q (by simp) rfl (by simpa using h1) hd hc.1 hc.2
          · simp at h
      · simp at h
  · simp at h
end Go.Proofs.Ytlcphgomhhejbaa

/- node.Read of a leaf. -/
namespace Go.Proofs.Ytlcphgomhhejbaa
open Go.RowKit

set_option maxRecDepth 100000 in
set_option maxHeartbeats 4000000 in
theorem read_leaf (b : List Nat) (a : Option Addr) (cap : Nat) (w : World) (hB : Bs w.heap.size w a b) (hl : b.length = 512) (hcap : 512 ≤ cap) (h1 : valL (cutL b 0 1) = 1) :
    Calls Try.prog 17 #[.slice a 512 cap] w (RetRd w b) := by
  have hst : bytesOf (strN b) = b := bytesOf_strB hB.1
  have hs : (strN b).size = 512 := by rw [strN_size, hl]
  have HCV := Lib.hid (fun W (hb : Below w.heap.size w W) => (hB.below hb).conv 27 5 Try.underlying27 Try.underlying5 9 Try.underlying9 512 cap hl.symm)
  have hcv := HCV.out _ (Below.box w (.cells #[.bool false, .slice none 0 0, .slice none 0 0, .slice none 0 0] 26))
  have HN := fun W (hW : Rdr W (w.heap.size + 1) (strN b) 0 true) => rnumber_any (w.heap.size + 1) (strN b) 0 1 true 1 W rfl hW (by omega) (by omega) (by omega)
  rw [rdN_fit (show 0 + 1 ≤ (strN b).size by omega), hst] at HN
  have HN := Lib.hid HN
  have HNo : Hid (∀ W, Below w.heap.size w W → decN b = none → RetRd w b (.returned (.tuple #[.agg #[.bool false, .slice none 0 0, .slice none 0 0, .slice none 0 0], .int .i64 3])) W) := fun W hb hd => RetRd.no hd hb
  have HYes : Hid (∀ (x : Rn) (m : NB) W, decN b = some x → NAt W x.asN m → m.kl ≤ 100000 → Below w.heap.size w W → RetRd w b (.returned (.tuple #[m.v x.leaf, .int .i64 0])) W) := fun x m W h1 h2 h3 h4 => RetRd.yes h1 h2 h3 h4
  have hd : decN b = tailN b 0 true (decs true b 3 (valL (cutL b 1 2))) := by unfold decN; rw [if_pos hl, if_pos h1]
  have hsh : ∀ (l : List Pt) (q : Nat), decs true b 3 (valL (cutL b 1 2)) = some (l, q) → (Rn.mk true 0 l).asN = leafOf l ∧ (leafOf l).ok = (Rn.mk true 0 l).ok := by
    intro l q hq
    have hp : (Rn.mk true 0 l).plain := by
      unfold Rn.plain
      simp
    have h0 : (Rn.mk true 0 l).asN = leafOf l := rfl
    exact ⟨h0, by rw [← h0]; exact ok_asN hp⟩
  have HSh := Lib.hid hsh
  have HD := Lib.hid hd
  rw [h1] at HN
  have HL := fun W (hW : Rdr W (w.heap.size + 1) (strN b) 1 true) => rleaf_any (w.heap.size + 1) (strN b) W hW hs
  rw [hst] at HL
  have HZr := Lib.hid (fun at_ ok W (hW : Rdr W (w.heap.size + 1) (strN b) at_ ok) (ha : at_ ≤ (strN b).size) => zeros_any (w.heap.size + 1) (strN b) at_ ok W hW ha (by omega))
  rw [hst] at HZr
  have HL := Lib.hid HL
  clear hd hsh h1
  obtain ⟨s, hss⟩ : ∃ s, strN b = s := ⟨_, rfl⟩
  rw [hss] at hs hst HN hcv HL HZr
  have HST := Lib.hid hst
  have HS := Lib.hid hs
  clear hB HCV hss hst
  generalize RetRd w b = RR at *
  go_enter Try.func17, Try.ntmps17
  go_wp2_with fail
  refine (HN.out _ ?_).mono ?_
  · exact rdr_new w _ _ s
  rintro e w1 ⟨rfl, hR, hC⟩
  obtain ⟨hb0, hb2⟩ := read_blks w (.cells #[.bool false, .slice none 0 0, .slice none 0 0, .slice none 0 0] 26) (.cells #[.string s, .int .i64 0, .bool true] 78) 26 #[.bool false, .slice none 0 0, .slice none 0 0, .slice none 0 0]
  have hE : Below w.heap.size w w1 := Below.trans ((((Below.refl _ w).alloc (Nat.le_refl _) _).alloc (by simp) _).alloc (by simp; omega) _) (hC.below (by simp; omega) (by simp))
  have HB0 := Lib.hid (hb0.chg hC (by simp))
  have HB2 := Lib.hid (hb2.chg hC (by simp))
  have HE := Lib.hid hE
  have HR1 := Lib.hid hR
  have hsz1 : w.heap.size + 1 + 1 < w1.heap.size := HB2.out.lt
  clear hR hC hb0 hb2 hE HN
  go_wp2_with fail
  refine (HL.out _ HR1.out).mono ?_
  rintro e w2 ⟨l, at_, ok, m, rfl, hNA, hkl, hR, hC, hat, hyes, hnone, hF⟩
  rw [HST.out] at hyes hnone
  have HE2 : Hid (Below w.heap.size w w2) := HE.out.trans (hC.below (by omega) (by simp))
  have hB2 := HB2.out.chg hC (by simp)
  have HB02 := Lib.hid (HB0.out.chg hC (by simp))
  have hsz2 : w.heap.size + 1 + 1 < w2.heap.size := Nat.lt_of_lt_of_le hsz1 hC.size
  have n0 : w2.cell? ⟨w.heap.size + 1 + 1, 0, none⟩ = some (.bool false) := hB2.cell 0
  have n1 : w2.cell? ⟨w.heap.size + 1 + 1, 1, none⟩ = some (.slice none 0 0) := hB2.cell 1
  have n2 : w2.cell? ⟨w.heap.size + 1 + 1, 2, none⟩ = some (.slice none 0 0) := hB2.cell 2
  have n3 : w2.cell? ⟨w.heap.size + 1 + 1, 3, none⟩ = some (.slice none 0 0) := hB2.cell 3
  have f0 := hB2.frozen 0
  have f1 := hB2.frozen 1
  have f2 := hB2.frozen 2
  have f3 := hB2.frozen 3
  have HW3 : Hid (∃ w3, set4 w2 (w.heap.size + 1 + 1) (.bool true) (.slice m.ka m.kl m.kc) (.slice m.ca m.cl m.cc) (.slice m.da m.dl m.dc) = w3 ∧
      Blk w3 (w.heap.size + 1 + 1) 26 #[.bool true, .slice m.ka m.kl m.kc, .slice m.ca m.cl m.cc, .slice m.da m.dl m.dc] ∧ Blk w3 w.heap.size 26 #[.bool false, .slice none 0 0, .slice none 0 0, .slice none 0 0] ∧
      Rdr w3 (w.heap.size + 1) s at_ ok ∧ NAt w3 (leafOf l) m ∧ Below w.heap.size w w3 ∧ w2.heap.size = w3.heap.size) :=
    ⟨_, rfl, hB2.st4 _ _ _ _, HB02.out.st4_far (by omega) _ _ _ _, Blk.st4_far hR (by omega) _ _ _ _, hNA.set4 hF (by omega) _ _ _ _, set4_below HE2.out (by omega) _ _ _ _, (set4_size _ _ _ _ _ _).symm⟩
  have HF := Lib.hid (hF.mono (show w.heap.size + 1 ≤ _ by omega))
  have HYs := Lib.hid hyes
  have HNn := Lib.hid hnone
  clear hyes hnone hF hNA hR hC hB2 HL HR1 HB2
  obtain ⟨w3, hw3, hB3, hB03, hR3, hNA3, hE3, hsz3⟩ := HW3.out
  clear HW3
  go_upto_region 11 with (fail)
  unfold set4 at hw3
  rw [hw3]
  clear hw3 n0 n1 n2 n3 f0 f1 f2 f3
  have hlt3 : w.heap.size + 1 + 1 < w3.heap.size := by omega
  have hlt0 : w.heap.size < w3.heap.size := by omega
  have rd2 : w3.cell? ⟨w.heap.size + 1, 2, none⟩ = some (.bool ok) := hR3.cell 2
  cases ok with
  | false =>
    have hdn : decN b = none := by rw [HD.out, HNn.out rfl]; rfl
    have r0 : w3.cell? ⟨w.heap.size, 0, none⟩ = some (.bool false) := Blk.cell hB03 0
    have r1 : w3.cell? ⟨w.heap.size, 1, none⟩ = some (.slice none 0 0) := Blk.cell hB03 1
    have r2 : w3.cell? ⟨w.heap.size, 2, none⟩ = some (.slice none 0 0) := Blk.cell hB03 2
    have r3 : w3.cell? ⟨w.heap.size, 3, none⟩ = some (.slice none 0 0) := Blk.cell hB03 3
    have f0 : w3.frozen? ⟨w.heap.size, 0, none⟩ = false := Blk.frozen hB03 0
    have f1 : w3.frozen? ⟨w.heap.size, 1, none⟩ = false := Blk.frozen hB03 1
    have f2 : w3.frozen? ⟨w.heap.size, 2, none⟩ = false := Blk.frozen hB03 2
    have f3 : w3.frozen? ⟨w.heap.size, 3, none⟩ = false := Blk.frozen hB03 3
    have HFin : Hid (∀ v0 v1 v2 v3, RR (.returned (.tuple #[.agg #[.bool false, .slice none 0 0, .slice none 0 0, .slice none 0 0], .int .i64 3])) (set4 w3 w.heap.size v0 v1 v2 v3)) := fun v0 v1 v2 v3 => HNo.out _ (set4_below hE3 (Nat.le_refl _) _ _ _ _) hdn
    clear hdn hB3 hB03 hR3 hNA3 hE3
    go_wp2
    refine bodyPost_ret (v := .tuple #[.agg #[.bool false, .slice none 0 0, .slice none 0 0, .slice none 0 0], .int .i64 3]) (by simp [results, Try.results17, go_sem, r0, r1, r2, r3, hlt0]) rfl (HFin.out _ _ _ _)
  | true =>
    have hq := HYs.out rfl
    obtain ⟨hasn, hokn⟩ := HSh.out l at_ hq
    have hdz : decN b = if (b.drop at_).all (· == 0) && (Rn.mk true 0 l).ok then some ⟨true, 0, l⟩ else none := by rw [HD.out, hq]; rfl
    have HZ3 := HZr.out at_ true w3 hR3 hat
    have HRt := Lib.hid (fun W (hb : Below w3.heap.size w3 W) => NRight_any (leafOf l) m W (hNA3.later hb))
    rw [hokn] at HRt
    generalize (b.drop at_).all (· == 0) = z at HZ3 hdz
    generalize (Rn.mk true 0 l).ok = r at HRt hdz
    have HDZ := Lib.hid hdz
    have HAS := Lib.hid hasn
    have HB3 := Lib.hid hB3
    have HB03 := Lib.hid hB03
    have HNA := Lib.hid hNA3
    have HE3 := Lib.hid hE3
    clear hq hasn hokn hdz hB3 hB03 hR3 hNA3 hE3 HZr
    go_wp2_with fail
    refine HZ3.mono ?_
    rintro e w4 ⟨rfl, hb4⟩
    have hlt4 : w.heap.size + 1 + 1 < w4.heap.size := Nat.lt_of_lt_of_le hlt3 hb4.size
    have hlt0 : w.heap.size < w4.heap.size := by omega
    cases z with
    | false =>
      have r0 : w4.cell? ⟨w.heap.size, 0, none⟩ = some (.bool false) := Blk.cell (HB03.out.bel hb4 (by omega)) 0
      have r1 : w4.cell? ⟨w.heap.size, 1, none⟩ = some (.slice none 0 0) := Blk.cell (HB03.out.bel hb4 (by omega)) 1
      have r2 : w4.cell? ⟨w.heap.size, 2, none⟩ = some (.slice none 0 0) := Blk.cell (HB03.out.bel hb4 (by omega)) 2
      have r3 : w4.cell? ⟨w.heap.size, 3, none⟩ = some (.slice none 0 0) := Blk.cell (HB03.out.bel hb4 (by omega)) 3
      have f0 : w4.frozen? ⟨w.heap.size, 0, none⟩ = false := Blk.frozen (HB03.out.bel hb4 (by omega)) 0
      have f1 : w4.frozen? ⟨w.heap.size, 1, none⟩ = false := Blk.frozen (HB03.out.bel hb4 (by omega)) 1
      have f2 : w4.frozen? ⟨w.heap.size, 2, none⟩ = false := Blk.frozen (HB03.out.bel hb4 (by omega)) 2
      have f3 : w4.frozen? ⟨w.heap.size, 3, none⟩ = false := Blk.frozen (HB03.out.bel hb4 (by omega)) 3
      have HFin : Hid (∀ v0 v1 v2 v3, RR (.returned (.tuple #[.agg #[.bool false, .slice none 0 0, .slice none 0 0, .slice none 0 0], .int .i64 3])) (set4 w4 w.heap.size v0 v1 v2 v3)) := fun v0 v1 v2 v3 => HNo.out _ (set4_below (HE3.out.trans (hb4.mono HE3.out.size)) (Nat.le_refl _) _ _ _ _) (by rw [HDZ.out]; rfl)
      clear hb4 rd2 HZ3
      go_wp2
      refine bodyPost_ret (v := .tuple #[.agg #[.bool false, .slice none 0 0, .slice none 0 0, .slice none 0 0], .int .i64 3]) (by simp [results, Try.results17, go_sem, r0, r1, r2, r3, hlt0]) rfl (HFin.out _ _ _ _)
    | true =>
      have hBn := HB3.out.bel hb4 (by omega)
      have m0 : w4.cell? ⟨w.heap.size + 1 + 1, 0, none⟩ = some (.bool true) := hBn.cell 0
      have m1 : w4.cell? ⟨w.heap.size + 1 + 1, 1, none⟩ = some (.slice m.ka m.kl m.kc) := hBn.cell 1
      have m2 : w4.cell? ⟨w.heap.size + 1 + 1, 2, none⟩ = some (.slice m.ca m.cl m.cc) := hBn.cell 2
      have m3 : w4.cell? ⟨w.heap.size + 1 + 1, 3, none⟩ = some (.slice m.da m.dl m.dc) := hBn.cell 3
      have HBn := Lib.hid hBn
      clear hBn rd2 HZ3
      go_wp2_with fail
      refine (HRt.out _ hb4).mono ?_
      rintro e w5 ⟨rfl, hb5⟩
      have hlt5 : w.heap.size + 1 + 1 < w5.heap.size := Nat.lt_of_lt_of_le hlt4 hb5.size
      have hlt0 : w.heap.size < w5.heap.size := by omega
      have hE5 : Below w.heap.size w w5 := HE3.out.trans ((Below.trans hb4 (hb5.mono hb4.size)).mono HE3.out.size)
      have hBn := HBn.out.bel hb5 (by omega)
      have m0 : w5.cell? ⟨w.heap.size + 1 + 1, 0, none⟩ = some (.bool true) := hBn.cell 0
      have m1 : w5.cell? ⟨w.heap.size + 1 + 1, 1, none⟩ = some (.slice m.ka m.kl m.kc) := hBn.cell 1
      have m2 : w5.cell? ⟨w.heap.size + 1 + 1, 2, none⟩ = some (.slice m.ca m.cl m.cc) := hBn.cell 2
      have m3 : w5.cell? ⟨w.heap.size + 1 + 1, 3, none⟩ = some (.slice m.da m.dl m.dc) := hBn.cell 3
      have r0 : w5.cell? ⟨w.heap.size, 0, none⟩ = some (.bool false) := Blk.cell ((HB03.out.bel hb4 (by omega)).bel hb5 (by omega)) 0
      have r1 : w5.cell? ⟨w.heap.size, 1, none⟩ = some (.slice none 0 0) := Blk.cell ((HB03.out.bel hb4 (by omega)).bel hb5 (by omega)) 1
      have r2 : w5.cell? ⟨w.heap.size, 2, none⟩ = some (.slice none 0 0) := Blk.cell ((HB03.out.bel hb4 (by omega)).bel hb5 (by omega)) 2
      have r3 : w5.cell? ⟨w.heap.size, 3, none⟩ = some (.slice none 0 0) := Blk.cell ((HB03.out.bel hb4 (by omega)).bel hb5 (by omega)) 3
      have f0 : w5.frozen? ⟨w.heap.size, 0, none⟩ = false := Blk.frozen ((HB03.out.bel hb4 (by omega)).bel hb5 (by omega)) 0
      have f1 : w5.frozen? ⟨w.heap.size, 1, none⟩ = false := Blk.frozen ((HB03.out.bel hb4 (by omega)).bel hb5 (by omega)) 1
      have f2 : w5.frozen? ⟨w.heap.size, 2, none⟩ = false := Blk.frozen ((HB03.out.bel hb4 (by omega)).bel hb5 (by omega)) 2
      have f3 : w5.frozen? ⟨w.heap.size, 3, none⟩ = false := Blk.frozen ((HB03.out.bel hb4 (by omega)).bel hb5 (by omega)) 3
      cases r with
      | false =>
        have HFin : Hid (∀ v0 v1 v2 v3, RR (.returned (.tuple #[.agg #[.bool false, .slice none 0 0, .slice none 0 0, .slice none 0 0], .int .i64 3])) (set4 w5 w.heap.size v0 v1 v2 v3)) := fun v0 v1 v2 v3 => HNo.out _ (set4_below hE5 (Nat.le_refl _) _ _ _ _) (by rw [HDZ.out]; rfl)
        clear hb4 hb5 hE5 hBn HRt
        go_wp2
        refine bodyPost_ret (v := .tuple #[.agg #[.bool false, .slice none 0 0, .slice none 0 0, .slice none 0 0], .int .i64 3]) (by simp [results, Try.results17, go_sem, r0, r1, r2, r3, hlt0]) rfl (HFin.out _ _ _ _)
      | true =>
        have hNA5 := (HNA.out.later hb4).later hb5
        have HFin : Hid (∀ v0 v1 v2 v3, RR (.returned (.tuple #[m.v true, .int .i64 0])) (set4 w5 w.heap.size v0 v1 v2 v3)) := fun v0 v1 v2 v3 => HYes.out ⟨true, 0, l⟩ m _ (by rw [HDZ.out]; rfl) (by rw [HAS.out]; exact hNA5.set4 HF.out (Nat.lt_succ_self _) _ _ _ _) hkl (set4_below hE5 (Nat.le_refl _) _ _ _ _)
        clear hb4 hb5 hE5 hBn HRt hNA5
        go_wp2
        refine bodyPost_ret (v := .tuple #[m.v true, .int .i64 0]) (by simp [results, Try.results17, go_sem, r0, r1, r2, r3, hlt0]) rfl (HFin.out _ _ _ _)
end Go.Proofs.Ytlcphgomhhejbaa

/- node.Read of an inner node. -/
namespace Go.Proofs.Ytlcphgomhhejbaa
open Go.RowKit

set_option maxRecDepth 100000 in
set_option maxHeartbeats 4000000 in
theorem read_inner (b : List Nat) (a : Option Addr) (cap : Nat) (w : World) (hB : Bs w.heap.size w a b) (hl : b.length = 512) (hcap : 512 ≤ cap) (h1 : valL (cutL b 0 1) = 2) :
    Calls Try.prog 17 #[.slice a 512 cap] w (RetRd w b) := by
  have hst : bytesOf (strN b) = b := bytesOf_strB hB.1
  have hs : (strN b).size = 512 := by rw [strN_size, hl]
  have HCV := Lib.hid (fun W (hb : Below w.heap.size w W) => (hB.below hb).conv 27 5 Try.underlying27 Try.underlying5 9 Try.underlying9 512 cap hl.symm)
  have hcv := HCV.out _ (Below.box w (.cells #[.bool false, .slice none 0 0, .slice none 0 0, .slice none 0 0] 26))
  have HN := fun W (hW : Rdr W (w.heap.size + 1) (strN b) 0 true) => rnumber_any (w.heap.size + 1) (strN b) 0 1 true 1 W rfl hW (by omega) (by omega) (by omega)
  rw [rdN_fit (show 0 + 1 ≤ (strN b).size by omega), hst] at HN
  have HN := Lib.hid HN
  have HNo : Hid (∀ W, Below w.heap.size w W → decN b = none → RetRd w b (.returned (.tuple #[.agg #[.bool false, .slice none 0 0, .slice none 0 0, .slice none 0 0], .int .i64 3])) W) := fun W hb hd => RetRd.no hd hb
  have HYes : Hid (∀ (x : Rn) (m : NB) W, decN b = some x → NAt W x.asN m → m.kl ≤ 100000 → Below w.heap.size w W → RetRd w b (.returned (.tuple #[m.v x.leaf, .int .i64 0])) W) := fun x m W h1 h2 h3 h4 => RetRd.yes h1 h2 h3 h4
  have hd : decN b = tailN b (valL (cutL b 3 4)) false (decs false b 7 (valL (cutL b 1 2))) := by unfold decN; rw [if_pos hl, if_neg (by omega), if_pos h1]
  have hsh : ∀ (l : List Pt) (q : Nat), decs false b 7 (valL (cutL b 1 2)) = some (l, q) → (Rn.mk false (valL (cutL b 3 4)) l).asN = (innerOf (valL (cutL b 3 4) : Nat)) l ∧ ((innerOf (valL (cutL b 3 4) : Nat)) l).ok = (Rn.mk false (valL (cutL b 3 4)) l).ok := by
    intro l q hq
    have hp : (Rn.mk false (valL (cutL b 3 4)) l).plain := by
      unfold Rn.plain
      simp only [Bool.false_eq_true, if_false]; exact decs_plain hq
    have h0 : (Rn.mk false (valL (cutL b 3 4)) l).asN = (innerOf (valL (cutL b 3 4) : Nat)) l := rfl
    exact ⟨h0, by rw [← h0]; exact ok_asN hp⟩
  have HSh := Lib.hid hsh
  have HD := Lib.hid hd
  rw [h1] at HN
  have HL := fun W (hW : Rdr W (w.heap.size + 1) (strN b) 1 true) => rinner_any (w.heap.size + 1) (strN b) W hW hs
  rw [hst] at HL
  have HZr := Lib.hid (fun at_ ok W (hW : Rdr W (w.heap.size + 1) (strN b) at_ ok) (ha : at_ ≤ (strN b).size) => zeros_any (w.heap.size + 1) (strN b) at_ ok W hW ha (by omega))
  rw [hst] at HZr
  have HL := Lib.hid HL
  clear hd hsh h1
  obtain ⟨s, hss⟩ : ∃ s, strN b = s := ⟨_, rfl⟩
  rw [hss] at hs hst HN hcv HL HZr
  have HST := Lib.hid hst
  have HS := Lib.hid hs
  clear hB HCV hss hst
  generalize RetRd w b = RR at *
  go_enter Try.func17, Try.ntmps17
  go_wp2_with fail
  refine (HN.out _ ?_).mono ?_
  · exact rdr_new w _ _ s
  rintro e w1 ⟨rfl, hR, hC⟩
  obtain ⟨hb0, hb2⟩ := read_blks w (.cells #[.bool false, .slice none 0 0, .slice none 0 0, .slice none 0 0] 26) (.cells #[.string s, .int .i64 0, .bool true] 78) 26 #[.bool false, .slice none 0 0, .slice none 0 0, .slice none 0 0]
  have hE : Below w.heap.size w w1 := Below.trans ((((Below.refl _ w).alloc (Nat.le_refl _) _).alloc (by simp) _).alloc (by simp; omega) _) (hC.below (by simp; omega) (by simp))
  have HB0 := Lib.hid (hb0.chg hC (by simp))
  have HB2 := Lib.hid (hb2.chg hC (by simp))
  have HE := Lib.hid hE
  have HR1 := Lib.hid hR
  have hsz1 : w.heap.size + 1 + 1 < w1.heap.size := HB2.out.lt
  clear hR hC hb0 hb2 hE HN
  go_wp2_with fail
  refine (HL.out _ HR1.out).mono ?_
  rintro e w2 ⟨l, at_, ok, m, rfl, hNA, hkl, hR, hC, hat, hyes, hnone, hF⟩
  rw [HST.out] at hyes hnone
  have HE2 : Hid (Below w.heap.size w w2) := HE.out.trans (hC.below (by omega) (by simp))
  have hB2 := HB2.out.chg hC (by simp)
  have HB02 := Lib.hid (HB0.out.chg hC (by simp))
  have hsz2 : w.heap.size + 1 + 1 < w2.heap.size := Nat.lt_of_lt_of_le hsz1 hC.size
  have n0 : w2.cell? ⟨w.heap.size + 1 + 1, 0, none⟩ = some (.bool false) := hB2.cell 0
  have n1 : w2.cell? ⟨w.heap.size + 1 + 1, 1, none⟩ = some (.slice none 0 0) := hB2.cell 1
  have n2 : w2.cell? ⟨w.heap.size + 1 + 1, 2, none⟩ = some (.slice none 0 0) := hB2.cell 2
  have n3 : w2.cell? ⟨w.heap.size + 1 + 1, 3, none⟩ = some (.slice none 0 0) := hB2.cell 3
  have f0 := hB2.frozen 0
  have f1 := hB2.frozen 1
  have f2 := hB2.frozen 2
  have f3 := hB2.frozen 3
  have HW3 : Hid (∃ w3, set4 w2 (w.heap.size + 1 + 1) (.bool false) (.slice m.ka m.kl m.kc) (.slice m.ca m.cl m.cc) (.slice m.da m.dl m.dc) = w3 ∧
      Blk w3 (w.heap.size + 1 + 1) 26 #[.bool false, .slice m.ka m.kl m.kc, .slice m.ca m.cl m.cc, .slice m.da m.dl m.dc] ∧ Blk w3 w.heap.size 26 #[.bool false, .slice none 0 0, .slice none 0 0, .slice none 0 0] ∧
      Rdr w3 (w.heap.size + 1) s at_ ok ∧ NAt w3 ((innerOf (valL (cutL b 3 4) : Nat)) l) m ∧ Below w.heap.size w w3 ∧ w2.heap.size = w3.heap.size) :=
    ⟨_, rfl, hB2.st4 _ _ _ _, HB02.out.st4_far (by omega) _ _ _ _, Blk.st4_far hR (by omega) _ _ _ _, hNA.set4 hF (by omega) _ _ _ _, set4_below HE2.out (by omega) _ _ _ _, (set4_size _ _ _ _ _ _).symm⟩
  have HF := Lib.hid (hF.mono (show w.heap.size + 1 ≤ _ by omega))
  have HYs := Lib.hid hyes
  have HNn := Lib.hid hnone
  clear hyes hnone hF hNA hR hC hB2 HL HR1 HB2
  obtain ⟨w3, hw3, hB3, hB03, hR3, hNA3, hE3, hsz3⟩ := HW3.out
  clear HW3
  go_upto_region 11 with (fail)
  unfold set4 at hw3
  rw [hw3]
  clear hw3 n0 n1 n2 n3 f0 f1 f2 f3
  have hlt3 : w.heap.size + 1 + 1 < w3.heap.size := by omega
  have hlt0 : w.heap.size < w3.heap.size := by omega
  have rd2 : w3.cell? ⟨w.heap.size + 1, 2, none⟩ = some (.bool ok) := hR3.cell 2
  cases ok with
  | false =>
    have hdn : decN b = none := by rw [HD.out, HNn.out rfl]; rfl
    have r0 : w3.cell? ⟨w.heap.size, 0, none⟩ = some (.bool false) := Blk.cell hB03 0
    have r1 : w3.cell? ⟨w.heap.size, 1, none⟩ = some (.slice none 0 0) := Blk.cell hB03 1
    have r2 : w3.cell? ⟨w.heap.size, 2, none⟩ = some (.slice none 0 0) := Blk.cell hB03 2
    have r3 : w3.cell? ⟨w.heap.size, 3, none⟩ = some (.slice none 0 0) := Blk.cell hB03 3
    have f0 : w3.frozen? ⟨w.heap.size, 0, none⟩ = false := Blk.frozen hB03 0
    have f1 : w3.frozen? ⟨w.heap.size, 1, none⟩ = false := Blk.frozen hB03 1
    have f2 : w3.frozen? ⟨w.heap.size, 2, none⟩ = false := Blk.frozen hB03 2
    have f3 : w3.frozen? ⟨w.heap.size, 3, none⟩ = false := Blk.frozen hB03 3
    have HFin : Hid (∀ v0 v1 v2 v3, RR (.returned (.tuple #[.agg #[.bool false, .slice none 0 0, .slice none 0 0, .slice none 0 0], .int .i64 3])) (set4 w3 w.heap.size v0 v1 v2 v3)) := fun v0 v1 v2 v3 => HNo.out _ (set4_below hE3 (Nat.le_refl _) _ _ _ _) hdn
    clear hdn hB3 hB03 hR3 hNA3 hE3
    go_wp2
    refine bodyPost_ret (v := .tuple #[.agg #[.bool false, .slice none 0 0, .slice none 0 0, .slice none 0 0], .int .i64 3]) (by simp [results, Try.results17, go_sem, r0, r1, r2, r3, hlt0]) rfl (HFin.out _ _ _ _)
  | true =>
    have hq := HYs.out rfl
    obtain ⟨hasn, hokn⟩ := HSh.out l at_ hq
    have hdz : decN b = if (b.drop at_).all (· == 0) && (Rn.mk false (valL (cutL b 3 4)) l).ok then some ⟨false, (valL (cutL b 3 4)), l⟩ else none := by rw [HD.out, hq]; rfl
    have HZ3 := HZr.out at_ true w3 hR3 hat
    have HRt := Lib.hid (fun W (hb : Below w3.heap.size w3 W) => NRight_any ((innerOf (valL (cutL b 3 4) : Nat)) l) m W (hNA3.later hb))
    rw [hokn] at HRt
    generalize (b.drop at_).all (· == 0) = z at HZ3 hdz
    generalize (Rn.mk false (valL (cutL b 3 4)) l).ok = r at HRt hdz
    have HDZ := Lib.hid hdz
    have HAS := Lib.hid hasn
    have HB3 := Lib.hid hB3
    have HB03 := Lib.hid hB03
    have HNA := Lib.hid hNA3
    have HE3 := Lib.hid hE3
    clear hq hasn hokn hdz hB3 hB03 hR3 hNA3 hE3 HZr
    go_wp2_with fail
    refine HZ3.mono ?_
    rintro e w4 ⟨rfl, hb4⟩
    have hlt4 : w.heap.size + 1 + 1 < w4.heap.size := Nat.lt_of_lt_of_le hlt3 hb4.size
    have hlt0 : w.heap.size < w4.heap.size := by omega
    cases z with
    | false =>
      have r0 : w4.cell? ⟨w.heap.size, 0, none⟩ = some (.bool false) := Blk.cell (HB03.out.bel hb4 (by omega)) 0
      have r1 : w4.cell? ⟨w.heap.size, 1, none⟩ = some (.slice none 0 0) := Blk.cell (HB03.out.bel hb4 (by omega)) 1
      have r2 : w4.cell? ⟨w.heap.size, 2, none⟩ = some (.slice none 0 0) := Blk.cell (HB03.out.bel hb4 (by omega)) 2
      have r3 : w4.cell? ⟨w.heap.size, 3, none⟩ = some (.slice none 0 0) := Blk.cell (HB03.out.bel hb4 (by omega)) 3
      have f0 : w4.frozen? ⟨w.heap.size, 0, none⟩ = false := Blk.frozen (HB03.out.bel hb4 (by omega)) 0
      have f1 : w4.frozen? ⟨w.heap.size, 1, none⟩ = false := Blk.frozen (HB03.out.bel hb4 (by omega)) 1
      have f2 : w4.frozen? ⟨w.heap.size, 2, none⟩ = false := Blk.frozen (HB03.out.bel hb4 (by omega)) 2
      have f3 : w4.frozen? ⟨w.heap.size, 3, none⟩ = false := Blk.frozen (HB03.out.bel hb4 (by omega)) 3
      have HFin : Hid (∀ v0 v1 v2 v3, RR (.returned (.tuple #[.agg #[.bool false, .slice none 0 0, .slice none 0 0, .slice none 0 0], .int .i64 3])) (set4 w4 w.heap.size v0 v1 v2 v3)) := fun v0 v1 v2 v3 => HNo.out _ (set4_below (HE3.out.trans (hb4.mono HE3.out.size)) (Nat.le_refl _) _ _ _ _) (by rw [HDZ.out]; rfl)
      clear hb4 rd2 HZ3
      go_wp2
      refine bodyPost_ret (v := .tuple #[.agg #[.bool false, .slice none 0 0, .slice none 0 0, .slice none 0 0], .int .i64 3]) (by simp [results, Try.results17, go_sem, r0, r1, r2, r3, hlt0]) rfl (HFin.out _ _ _ _)
    | true =>
      have hBn := HB3.out.bel hb4 (by omega)
      have m0 : w4.cell? ⟨w.heap.size + 1 + 1, 0, none⟩ = some (.bool false) := hBn.cell 0
      have m1 : w4.cell? ⟨w.heap.size + 1 + 1, 1, none⟩ = some (.slice m.ka m.kl m.kc) := hBn.cell 1
      have m2 : w4.cell? ⟨w.heap.size + 1 + 1, 2, none⟩ = some (.slice m.ca m.cl m.cc) := hBn.cell 2
      have m3 : w4.cell? ⟨w.heap.size + 1 + 1, 3, none⟩ = some (.slice m.da m.dl m.dc) := hBn.cell 3
      have HBn := Lib.hid hBn
      clear hBn rd2 HZ3
      go_wp2_with fail
      refine (HRt.out _ hb4).mono ?_
      rintro e w5 ⟨rfl, hb5⟩
      have hlt5 : w.heap.size + 1 + 1 < w5.heap.size := Nat.lt_of_lt_of_le hlt4 hb5.size
      have hlt0 : w.heap.size < w5.heap.size := by omega
      have hE5 : Below w.heap.size w w5 := HE3.out.trans ((Below.trans hb4 (hb5.mono hb4.size)).mono HE3.out.size)
      have hBn := HBn.out.bel hb5 (by omega)
      have m0 : w5.cell? ⟨w.heap.size + 1 + 1, 0, none⟩ = some (.bool false) := hBn.cell 0
      have m1 : w5.cell? ⟨w.heap.size + 1 + 1, 1, none⟩ = some (.slice m.ka m.kl m.kc) := hBn.cell 1
      have m2 : w5.cell? ⟨w.heap.size + 1 + 1, 2, none⟩ = some (.slice m.ca m.cl m.cc) := hBn.cell 2
      have m3 : w5.cell? ⟨w.heap.size + 1 + 1, 3, none⟩ = some (.slice m.da m.dl m.dc) := hBn.cell 3
      have r0 : w5.cell? ⟨w.heap.size, 0, none⟩ = some (.bool false) := Blk.cell ((HB03.out.bel hb4 (by omega)).bel hb5 (by omega)) 0
      have r1 : w5.cell? ⟨w.heap.size, 1, none⟩ = some (.slice none 0 0) := Blk.cell ((HB03.out.bel hb4 (by omega)).bel hb5 (by omega)) 1
      have r2 : w5.cell? ⟨w.heap.size, 2, none⟩ = some (.slice none 0 0) := Blk.cell ((HB03.out.bel hb4 (by omega)).bel hb5 (by omega)) 2
      have r3 : w5.cell? ⟨w.heap.size, 3, none⟩ = some (.slice none 0 0) := Blk.cell ((HB03.out.bel hb4 (by omega)).bel hb5 (by omega)) 3
      have f0 : w5.frozen? ⟨w.heap.size, 0, none⟩ = false := Blk.frozen ((HB03.out.bel hb4 (by omega)).bel hb5 (by omega)) 0
      have f1 : w5.frozen? ⟨w.heap.size, 1, none⟩ = false := Blk.frozen ((HB03.out.bel hb4 (by omega)).bel hb5 (by omega)) 1
      have f2 : w5.frozen? ⟨w.heap.size, 2, none⟩ = false := Blk.frozen ((HB03.out.bel hb4 (by omega)).bel hb5 (by omega)) 2
      have f3 : w5.frozen? ⟨w.heap.size, 3, none⟩ = false := Blk.frozen ((HB03.out.bel hb4 (by omega)).bel hb5 (by omega)) 3
      cases r with
      | false =>
        have HFin : Hid (∀ v0 v1 v2 v3, RR (.returned (.tuple #[.agg #[.bool false, .slice none 0 0, .slice none 0 0, .slice none 0 0], .int .i64 3])) (set4 w5 w.heap.size v0 v1 v2 v3)) := fun v0 v1 v2 v3 => HNo.out _ (set4_below hE5 (Nat.le_refl _) _ _ _ _) (by rw [HDZ.out]; rfl)
        clear hb4 hb5 hE5 hBn HRt
        go_wp2
        refine bodyPost_ret (v := .tuple #[.agg #[.bool false, .slice none 0 0, .slice none 0 0, .slice none 0 0], .int .i64 3]) (by simp [results, Try.results17, go_sem, r0, r1, r2, r3, hlt0]) rfl (HFin.out _ _ _ _)
      | true =>
        have hNA5 := (HNA.out.later hb4).later hb5
        have HFin : Hid (∀ v0 v1 v2 v3, RR (.returned (.tuple #[m.v false, .int .i64 0])) (set4 w5 w.heap.size v0 v1 v2 v3)) := fun v0 v1 v2 v3 => HYes.out ⟨false, (valL (cutL b 3 4)), l⟩ m _ (by rw [HDZ.out]; rfl) (by rw [HAS.out]; exact hNA5.set4 HF.out (Nat.lt_succ_self _) _ _ _ _) hkl (set4_below hE5 (Nat.le_refl _) _ _ _ _)
        clear hb4 hb5 hE5 hBn HRt hNA5
        go_wp2
        refine bodyPost_ret (v := .tuple #[m.v false, .int .i64 0]) (by simp [results, Try.results17, go_sem, r0, r1, r2, r3, hlt0]) rfl (HFin.out _ _ _ _)
end Go.Proofs.Ytlcphgomhhejbaa

/- Halve. -/
namespace Go.Proofs.Ytlcphgomhhejbaa
open Go.RowKit

set_option maxRecDepth 100000 in
set_option maxHeartbeats 4000000 in
theorem halve_yesL (n : Nd) (m : NB) (w : World) (h : NAt w n m) (hl : n.leaf = true) (ho : n.Ok) (hk : 2 + 0 ≤ n.keys.length) (hbig : m.kl ≤ 1000000) :
    Calls Try.prog 26 #[m.v true] w (RetHalf w n) := by
  have HR := fun W (hb : Below w.heap.size w W) => NRight_any n m W (h.later hb)
  rw [hl, Nd.ok_eq (n := n) (b := true) (by simp [ho])] at HR
  have HR := Lib.hid HR
  have hkl := h.hk
  have hmost : ((m.kl - 1 - 0 : Nat) : Int) = (m.kl : Int) - 1 := by omega
  have HSh : Hid (∀ W, Below w.heap.size w W → Calls Try.prog 51 #[m.v true, .int .i64 ((m.kl : Int) - 1)] W (RetShare W n.asR (m.kl - 1 - 0))) := by
    intro W hb
    have := share_any n m (m.kl - 1 - 0) W (h.later hb) ho (by omega) (by omega) hbig
    rw [hl, hmost] at this
    exact this
  have HP1 : Hid (∀ i W, i ≤ m.kl → Below w.heap.size w W → Calls Try.prog 52 #[m.v true, .int .i64 0, .int .i64 (i : Int)] W (RetNdB true W (partN n 0 i))) := by
    intro i W hi hb
    have := part_any n m 0 i W (h.later hb) ho.shaped (by omega) (by omega) hbig
    rw [hl] at this
    exact this.mono (RetNd.b (by rw [partN_leaf, hl]))
  have HP2 : Hid (∀ (i : Nat) W, i + 0 ≤ m.kl → Below w.heap.size w W → Calls Try.prog 52 #[m.v true, .int .i64 ((i : Int)), .int .i64 (m.kl : Int)] W (RetNdB true W (partN n (i + 0) m.kl))) := by
    intro i W hi hb
    have := part_any n m (i + 0) m.kl W (h.later hb) ho.shaped (by omega) (by omega) hbig
    rw [hl] at this
    exact this.mono (RetNd.b (by rw [partN_leaf, hl]))
  have HX : Hid (∀ (i : Nat) (k : ByteArray) (ma mb : NB) W, IsShare n.asR (m.kl - 1 - 0) i → n.keys[i]? = some k → NAt W (partN n 0 i) ma → NAt W (partN n (i + 0) m.kl) mb → Below w.heap.size w W → RetHalf w n (.returned (.tuple #[ma.v true, .string k, mb.v true])) W) := by
    intro i k ma mb W h1 h2 h3 h4 hb
    refine ⟨partN n 0 i, partN n (i + 0) m.kl, k, ma, mb, by rw [partN_leaf, partN_leaf, hl], .inr ⟨ho, by rw [moved_leaf hl]; exact hk, i, ?_, rfl, h2, ?_⟩, h3, h4, hb⟩
    · rw [moved_leaf hl, ← hkl]; exact h1
    · rw [moved_leaf hl, ← hkl]
  have HKA := Lib.hid h.karr
  have kcap := h.kcap
  have HKL := Lib.hid hkl
  have hk2 : 2 + 0 ≤ m.kl := by omega
  have hPL1 : ∀ i, (partN n 0 i).leaf = true := fun i => by rw [partN_leaf, hl]
  have hPL2 : ∀ i j, (partN n i j).leaf = true := fun i j => by rw [partN_leaf, hl]
  clear hmost hk hkl h ho
  obtain ⟨ka, kl, kc, ca, cl, cc, da, dl, dc⟩ := m
  simp only at *
  generalize hRR : RetHalf w n = RR at *
  clear hRR
  have HB0 : Hid (Below w.heap.size w (((w.alloc (.cells #[.bool true, .slice ka kl kc, .slice ca cl cc, .slice da dl dc] 26)).alloc (.cells #[.bool false, .slice none 0 0, .slice none 0 0, .slice none 0 0] 26)).alloc (.cells #[.bool false, .slice none 0 0, .slice none 0 0, .slice none 0 0] 26))) := (((Below.refl _ w).alloc (Nat.le_refl _) _).alloc (by simp) _).alloc (by simp; omega) _
  have HPL1 := Lib.hid hPL1
  have HPL2 := Lib.hid hPL2
  have q1 : decide ((kl : Int) - 1 < 1) = false := by simp; omega
  clear hl hPL1 hPL2
  go_enter Try.func26, Try.ntmps26
  go_wp2_with fail
  refine (HR.out _ HB0.out).mono ?_
  rintro e w1 ⟨rfl, hb⟩
  have hbx : Below (w.heap.size + 3) _ w1 := hb.mono (by simp)
  have hbe := HB0.out.trans (hb.mono HB0.out.size)
  have hsz : w.heap.size + 1 + 1 < w1.heap.size := by have := hbx.size; simp at this; omega
  obtain ⟨hBa, hBb⟩ := three_blocks w (.cells #[.bool true, .slice ka kl kc, .slice ca cl cc, .slice da dl dc] 26) 26 #[.bool false, .slice none 0 0, .slice none 0 0, .slice none 0 0]
  replace hBa := hBa.bel hbx (show w.heap.size + 1 < w.heap.size + 3 by omega)
  replace hBb := hBb.bel hbx (show w.heap.size + 1 + 1 < w.heap.size + 3 by omega)
  have hBn : Blk w1 w.heap.size 26 #[.bool true, .slice ka kl kc, .slice ca cl cc, .slice da dl dc] :=
    (((Blk.new w 26 #[.bool true, .slice ka kl kc, .slice ca cl cc, .slice da dl dc]).alloc _).alloc _).bel hbx (by omega)
  have HBa := Lib.hid hBa
  have HBb := Lib.hid hBb
  have HBn := Lib.hid hBn
  have HBE := Lib.hid hbe
  have l0 : w1.cell? ⟨w.heap.size, 0, none⟩ = some (.bool true) := hBn.cell 0
  have l1 : w1.cell? ⟨w.heap.size, 1, none⟩ = some (.slice ka kl kc) := hBn.cell 1
  have l2 : w1.cell? ⟨w.heap.size, 2, none⟩ = some (.slice ca cl cc) := hBn.cell 2
  have l3 : w1.cell? ⟨w.heap.size, 3, none⟩ = some (.slice da dl dc) := hBn.cell 3
  clear hBa hBb hBn hb hbx hbe HR HB0
  go_wp2_with fail
  refine (HSh.out _ HBE.out).mono ?_
  rintro e w2 ⟨i, rfl, hi, hb2⟩
  have hbd := hi.bd
  have hE2 := HBE.out.trans (hb2.mono HBE.out.size)
  have HE2 := Lib.hid hE2
  have hsz2 : w.heap.size + 1 + 1 < w2.heap.size := Nat.lt_of_lt_of_le hsz hb2.size
  have HBa2 := Lib.hid (HBa.out.bel hb2 (by omega))
  have HBb2 := Lib.hid (HBb.out.bel hb2 (by omega))
  have HBn2 := Lib.hid (HBn.out.bel hb2 (by omega))
  have hik : i < n.keys.length := by have := HKL.out; omega
  have hikl : i < kl := by omega
  obtain ⟨b, o, rfl, hbw, c00⟩ := strAt HKA.out hik
  have hbN : b < w2.heap.size := by omega
  have c0 : w2.cell? ⟨b, o + i, none⟩ = some (.string n.keys[i]) := (HE2.out.cell (p := ⟨b, o + i, none⟩) hbw).trans c00
  clear c00
  have HKk : Hid (n.keys[i]? = some n.keys[i]) := List.getElem?_eq_getElem hik
  generalize n.keys[i]'hik = key at c0 HKk
  have D : Hid (∀ W, Chg [w.heap.size + 1, w.heap.size + 1 + 1] w2.drew W → W.cell? ⟨w.heap.size, 0, none⟩ = some (.bool true) ∧ W.cell? ⟨w.heap.size, 1, none⟩ = some (.slice (some ⟨b, o, none⟩) kl kc) ∧ W.cell? ⟨w.heap.size, 2, none⟩ = some (.slice ca cl cc) ∧ W.cell? ⟨w.heap.size, 3, none⟩ = some (.slice da dl dc) ∧ W.cell? ⟨b, o + i, none⟩ = some (.string key)) := by
    intro W hW
    have hB := HBn2.out.chg hW.undrew (by simp; omega)
    exact ⟨hB.cell 0, hB.cell 1, hB.cell 2, hB.cell 3, (hW.undrew.cell hbN (by simp; omega)).trans c0⟩
  have d0 : ∀ W, Chg [w.heap.size + 1, w.heap.size + 1 + 1] w2.drew W → W.cell? ⟨w.heap.size, 0, none⟩ = some (.bool true) := fun W h => (D.out W h).1
  have d1 : ∀ W, Chg [w.heap.size + 1, w.heap.size + 1 + 1] w2.drew W → W.cell? ⟨w.heap.size, 1, none⟩ = some (.slice (some ⟨b, o, none⟩) kl kc) := fun W h => (D.out W h).2.1
  have d2 : ∀ W, Chg [w.heap.size + 1, w.heap.size + 1 + 1] w2.drew W → W.cell? ⟨w.heap.size, 2, none⟩ = some (.slice ca cl cc) := fun W h => (D.out W h).2.2.1
  have d3 : ∀ W, Chg [w.heap.size + 1, w.heap.size + 1 + 1] w2.drew W → W.cell? ⟨w.heap.size, 3, none⟩ = some (.slice da dl dc) := fun W h => (D.out W h).2.2.2.1
  have d4 : ∀ W, Chg [w.heap.size + 1, w.heap.size + 1 + 1] w2.drew W → W.cell? ⟨b, o + i, none⟩ = some (.string key) := fun W h => (D.out W h).2.2.2.2
  have hwr : IntKind.i64.wrap ((i : Int)) = (i : Int) := IntWalk.i64_in _ ⟨by omega, by omega⟩
  clear l0 l1 l2 l3 c0 hb2 hE2 HSh
  go_wp2_with fail
  refine wp_region_ordS [w.heap.size + 1, w.heap.size + 1 + 1] [(0, true), (1, true), (3, true), (4, true), (5, true), (6, true), (7, true), (8, true), (9, true), (10, true), (11, true), (12, true), (13, true), (14, true), (2, false), (15, false), (16, false), (17, true), (18, false)] (by kernel_rfl) (by kernel_rfl) (by kernel_rfl) (by kernel_rfl) ?_
  repeat (first | (refine wpO_F (v := ?_) rfl (by rfl) (fun w' hL => ?_) ?_; rotate_left; (solve | (go_simp; with_reducible rfl) | go_simp); try simp only [Act.put, List.setIfInBounds_toArray, List.set_cons_zero, List.set_cons_succ]) | (refine wpO_G' (Chg.refl _) rfl (by rfl) ?_; try simp only [Act.put, List.setIfInBounds_toArray, List.set_cons_zero, List.set_cons_succ]))
  refine wpO_C rfl (by rfl) ?_
  go_simp
  refine (HP1.out i _ (by omega) HE2.out.drew).mono ?_
  rintro e w3 ⟨ma, rfl, hA, hb3, hF3⟩
  refine ⟨Below.chg0 hb3 _, ?_⟩
  have hE3 := HE2.out.drew.trans (hb3.mono HE2.out.size)
  have HE3 := Lib.hid hE3
  have HA := Lib.hid hA
  have HF3 := Lib.hid hF3
  have HBa3 := Lib.hid (HBa2.out.drew.bel hb3 (by show _ < w2.heap.size; omega))
  have HBb3 := Lib.hid (HBb2.out.drew.bel hb3 (by show _ < w2.heap.size; omega))
  have hsz3 : w.heap.size + 1 + 1 < w3.heap.size := Nat.lt_of_lt_of_le hsz2 hb3.size
  clear hE3 hA hF3 hb3
  try simp only [Act.put, List.setIfInBounds_toArray, List.set_cons_zero, List.set_cons_succ]
  refine wpO_C rfl (by rfl) ?_
  go_simp
  refine (HP2.out i _ (by omega) HE3.out).mono ?_
  rintro e w4 ⟨mb, rfl, hB, hb4, hF4⟩
  refine ⟨Below.chg0 hb4 _, ?_⟩
  try simp only [Act.put, List.setIfInBounds_toArray, List.set_cons_zero, List.set_cons_succ]
  have hBa := HBa3.out.bel hb4 (by omega)
  have hBb := HBb3.out.bel hb4 (by omega)
  have hsz4 : w.heap.size + 1 + 1 < w4.heap.size := Nat.lt_of_lt_of_le hsz3 hb4.size
  have r0 : w4.cell? ⟨w.heap.size + 1, 0, none⟩ = some (.bool false) := hBa.cell 0
  have r1 : w4.cell? ⟨w.heap.size + 1, 1, none⟩ = some (.slice none 0 0) := hBa.cell 1
  have r2 : w4.cell? ⟨w.heap.size + 1, 2, none⟩ = some (.slice none 0 0) := hBa.cell 2
  have r3 : w4.cell? ⟨w.heap.size + 1, 3, none⟩ = some (.slice none 0 0) := hBa.cell 3
  have f0 := hBa.frozen 0
  have f1 := hBa.frozen 1
  have f2 := hBa.frozen 2
  have f3 := hBa.frozen 3
  have s0 : w4.cell? ⟨w.heap.size + 1 + 1, 0, none⟩ = some (.bool false) := hBb.cell 0
  have s1 : w4.cell? ⟨w.heap.size + 1 + 1, 1, none⟩ = some (.slice none 0 0) := hBb.cell 1
  have s2 : w4.cell? ⟨w.heap.size + 1 + 1, 2, none⟩ = some (.slice none 0 0) := hBb.cell 2
  have s3 : w4.cell? ⟨w.heap.size + 1 + 1, 3, none⟩ = some (.slice none 0 0) := hBb.cell 3
  have g0 := hBb.frozen 0
  have g1 := hBb.frozen 1
  have g2 := hBb.frozen 2
  have g3 := hBb.frozen 3
  have HFin : Hid (∀ v0 v1 v2 v3 u0 u1 u2 u3, RR (.returned (.tuple #[ma.v true, .string key, mb.v true])) (set4 (set4 w4 (w.heap.size + 1) v0 v1 v2 v3) (w.heap.size + 1 + 1) u0 u1 u2 u3)) := by
    intro v0 v1 v2 v3 u0 u1 u2 u3
    have hE4 := HE3.out.trans (hb4.mono HE3.out.size)
    have A1 := HA.out.later hb4
    refine HX.out i key ma mb _ hi HKk.out ?_ ?_ (set4_below (set4_below hE4 (Nat.le_add_right _ 1) _ _ _ _) (Nat.le_add_right _ 2) _ _ _ _)
    · exact (A1.set4 HF3.out (by show _ < w2.heap.size; omega) _ _ _ _).set4 HF3.out (by show _ < w2.heap.size; omega) _ _ _ _
    · exact (hB.set4 hF4 (by omega) _ _ _ _).set4 hF4 (by omega) _ _ _ _
  clear hB hb4 hF4 hBa hBb HX
  refine wpO_C rfl (by rfl) ?_
  go_simp
  refine ⟨set4_chg (by simp) _ _ _ _, ?_⟩
  try simp only [Act.put, List.setIfInBounds_toArray, List.set_cons_zero, List.set_cons_succ]
  repeat (first | (refine wpO_F (v := ?_) rfl (by rfl) (fun w' hL => ?_) ?_; rotate_left; (solve | (go_simp; with_reducible rfl) | go_simp); try simp only [Act.put, List.setIfInBounds_toArray, List.set_cons_zero, List.set_cons_succ]) | (refine wpO_G' (Chg.refl _) rfl (by rfl) ?_; try simp only [Act.put, List.setIfInBounds_toArray, List.set_cons_zero, List.set_cons_succ]))
  refine wpO_C rfl (by rfl) ?_
  go_simp
  refine ⟨set4_chg (by simp) _ _ _ _, ?_⟩
  try simp only [Act.put, List.setIfInBounds_toArray, List.set_cons_zero, List.set_cons_succ]
  refine wpO_nil ?_
  go_wp2
  refine bodyPost_ret (v := .tuple #[ma.v true, .string key, mb.v true]) (by simp [results, Try.results26, go_sem, r0, r1, r2, r3, s0, s1, s2, s3, hsz4]) rfl (HFin.out _ _ _ _ _ _ _ _)

set_option maxRecDepth 100000 in
set_option maxHeartbeats 4000000 in
theorem halve_yesI (n : Nd) (m : NB) (w : World) (h : NAt w n m) (hl : n.leaf = false) (ho : n.Ok) (hk : 2 + 1 ≤ n.keys.length) (hbig : m.kl ≤ 1000000) :
    Calls Try.prog 26 #[m.v false] w (RetHalf w n) := by
  have HR := fun W (hb : Below w.heap.size w W) => NRight_any n m W (h.later hb)
  rw [hl, Nd.ok_eq (n := n) (b := true) (by simp [ho])] at HR
  have HR := Lib.hid HR
  have hkl := h.hk
  have hmost : ((m.kl - 1 - 1 : Nat) : Int) = (m.kl : Int) - 1 - 1 := by omega
  have HSh : Hid (∀ W, Below w.heap.size w W → Calls Try.prog 51 #[m.v false, .int .i64 ((m.kl : Int) - 1 - 1)] W (RetShare W n.asR (m.kl - 1 - 1))) := by
    intro W hb
    have := share_any n m (m.kl - 1 - 1) W (h.later hb) ho (by omega) (by omega) hbig
    rw [hl, hmost] at this
    exact this
  have HP1 : Hid (∀ i W, i ≤ m.kl → Below w.heap.size w W → Calls Try.prog 52 #[m.v false, .int .i64 0, .int .i64 (i : Int)] W (RetNdB false W (partN n 0 i))) := by
    intro i W hi hb
    have := part_any n m 0 i W (h.later hb) ho.shaped (by omega) (by omega) hbig
    rw [hl] at this
    exact this.mono (RetNd.b (by rw [partN_leaf, hl]))
  have HP2 : Hid (∀ (i : Nat) W, i + 1 ≤ m.kl → Below w.heap.size w W → Calls Try.prog 52 #[m.v false, .int .i64 ((i : Int) + 1), .int .i64 (m.kl : Int)] W (RetNdB false W (partN n (i + 1) m.kl))) := by
    intro i W hi hb
    have := part_any n m (i + 1) m.kl W (h.later hb) ho.shaped (by omega) (by omega) hbig
    rw [hl] at this
    exact this.mono (RetNd.b (by rw [partN_leaf, hl]))
  have HX : Hid (∀ (i : Nat) (k : ByteArray) (ma mb : NB) W, IsShare n.asR (m.kl - 1 - 1) i → n.keys[i]? = some k → NAt W (partN n 0 i) ma → NAt W (partN n (i + 1) m.kl) mb → Below w.heap.size w W → RetHalf w n (.returned (.tuple #[ma.v false, .string k, mb.v false])) W) := by
    intro i k ma mb W h1 h2 h3 h4 hb
    refine ⟨partN n 0 i, partN n (i + 1) m.kl, k, ma, mb, by rw [partN_leaf, partN_leaf, hl], .inr ⟨ho, by rw [moved_inner hl]; exact hk, i, ?_, rfl, h2, ?_⟩, h3, h4, hb⟩
    · rw [moved_inner hl, ← hkl]; exact h1
    · rw [moved_inner hl, ← hkl]
  have HKA := Lib.hid h.karr
  have kcap := h.kcap
  have HKL := Lib.hid hkl
  have hk2 : 2 + 1 ≤ m.kl := by omega
  have hPL1 : ∀ i, (partN n 0 i).leaf = false := fun i => by rw [partN_leaf, hl]
  have hPL2 : ∀ i j, (partN n i j).leaf = false := fun i j => by rw [partN_leaf, hl]
  clear hmost hk hkl h ho
  obtain ⟨ka, kl, kc, ca, cl, cc, da, dl, dc⟩ := m
  simp only at *
  generalize hRR : RetHalf w n = RR at *
  clear hRR
  have HB0 : Hid (Below w.heap.size w (((w.alloc (.cells #[.bool false, .slice ka kl kc, .slice ca cl cc, .slice da dl dc] 26)).alloc (.cells #[.bool false, .slice none 0 0, .slice none 0 0, .slice none 0 0] 26)).alloc (.cells #[.bool false, .slice none 0 0, .slice none 0 0, .slice none 0 0] 26))) := (((Below.refl _ w).alloc (Nat.le_refl _) _).alloc (by simp) _).alloc (by simp; omega) _
  have HPL1 := Lib.hid hPL1
  have HPL2 := Lib.hid hPL2
  have q1 : decide ((kl : Int) - 1 - 1 < 1) = false := by simp; omega
  clear hl hPL1 hPL2
  go_enter Try.func26, Try.ntmps26
  go_wp2_with fail
  refine (HR.out _ HB0.out).mono ?_
  rintro e w1 ⟨rfl, hb⟩
  have hbx : Below (w.heap.size + 3) _ w1 := hb.mono (by simp)
  have hbe := HB0.out.trans (hb.mono HB0.out.size)
  have hsz : w.heap.size + 1 + 1 < w1.heap.size := by have := hbx.size; simp at this; omega
  obtain ⟨hBa, hBb⟩ := three_blocks w (.cells #[.bool false, .slice ka kl kc, .slice ca cl cc, .slice da dl dc] 26) 26 #[.bool false, .slice none 0 0, .slice none 0 0, .slice none 0 0]
  replace hBa := hBa.bel hbx (show w.heap.size + 1 < w.heap.size + 3 by omega)
  replace hBb := hBb.bel hbx (show w.heap.size + 1 + 1 < w.heap.size + 3 by omega)
  have hBn : Blk w1 w.heap.size 26 #[.bool false, .slice ka kl kc, .slice ca cl cc, .slice da dl dc] :=
    (((Blk.new w 26 #[.bool false, .slice ka kl kc, .slice ca cl cc, .slice da dl dc]).alloc _).alloc _).bel hbx (by omega)
  have HBa := Lib.hid hBa
  have HBb := Lib.hid hBb
  have HBn := Lib.hid hBn
  have HBE := Lib.hid hbe
  have l0 : w1.cell? ⟨w.heap.size, 0, none⟩ = some (.bool false) := hBn.cell 0
  have l1 : w1.cell? ⟨w.heap.size, 1, none⟩ = some (.slice ka kl kc) := hBn.cell 1
  have l2 : w1.cell? ⟨w.heap.size, 2, none⟩ = some (.slice ca cl cc) := hBn.cell 2
  have l3 : w1.cell? ⟨w.heap.size, 3, none⟩ = some (.slice da dl dc) := hBn.cell 3
  clear hBa hBb hBn hb hbx hbe HR HB0
  go_wp2_with fail
  refine (HSh.out _ HBE.out).mono ?_
  rintro e w2 ⟨i, rfl, hi, hb2⟩
  have hbd := hi.bd
  have hE2 := HBE.out.trans (hb2.mono HBE.out.size)
  have HE2 := Lib.hid hE2
  have hsz2 : w.heap.size + 1 + 1 < w2.heap.size := Nat.lt_of_lt_of_le hsz hb2.size
  have HBa2 := Lib.hid (HBa.out.bel hb2 (by omega))
  have HBb2 := Lib.hid (HBb.out.bel hb2 (by omega))
  have HBn2 := Lib.hid (HBn.out.bel hb2 (by omega))
  have hik : i < n.keys.length := by have := HKL.out; omega
  have hikl : i < kl := by omega
  obtain ⟨b, o, rfl, hbw, c00⟩ := strAt HKA.out hik
  have hbN : b < w2.heap.size := by omega
  have c0 : w2.cell? ⟨b, o + i, none⟩ = some (.string n.keys[i]) := (HE2.out.cell (p := ⟨b, o + i, none⟩) hbw).trans c00
  clear c00
  have HKk : Hid (n.keys[i]? = some n.keys[i]) := List.getElem?_eq_getElem hik
  generalize n.keys[i]'hik = key at c0 HKk
  have D : Hid (∀ W, Chg [w.heap.size + 1, w.heap.size + 1 + 1] w2.drew W → W.cell? ⟨w.heap.size, 0, none⟩ = some (.bool false) ∧ W.cell? ⟨w.heap.size, 1, none⟩ = some (.slice (some ⟨b, o, none⟩) kl kc) ∧ W.cell? ⟨w.heap.size, 2, none⟩ = some (.slice ca cl cc) ∧ W.cell? ⟨w.heap.size, 3, none⟩ = some (.slice da dl dc) ∧ W.cell? ⟨b, o + i, none⟩ = some (.string key)) := by
    intro W hW
    have hB := HBn2.out.chg hW.undrew (by simp; omega)
    exact ⟨hB.cell 0, hB.cell 1, hB.cell 2, hB.cell 3, (hW.undrew.cell hbN (by simp; omega)).trans c0⟩
  have d0 : ∀ W, Chg [w.heap.size + 1, w.heap.size + 1 + 1] w2.drew W → W.cell? ⟨w.heap.size, 0, none⟩ = some (.bool false) := fun W h => (D.out W h).1
  have d1 : ∀ W, Chg [w.heap.size + 1, w.heap.size + 1 + 1] w2.drew W → W.cell? ⟨w.heap.size, 1, none⟩ = some (.slice (some ⟨b, o, none⟩) kl kc) := fun W h => (D.out W h).2.1
  have d2 : ∀ W, Chg [w.heap.size + 1, w.heap.size + 1 + 1] w2.drew W → W.cell? ⟨w.heap.size, 2, none⟩ = some (.slice ca cl cc) := fun W h => (D.out W h).2.2.1
  have d3 : ∀ W, Chg [w.heap.size + 1, w.heap.size + 1 + 1] w2.drew W → W.cell? ⟨w.heap.size, 3, none⟩ = some (.slice da dl dc) := fun W h => (D.out W h).2.2.2.1
  have d4 : ∀ W, Chg [w.heap.size + 1, w.heap.size + 1 + 1] w2.drew W → W.cell? ⟨b, o + i, none⟩ = some (.string key) := fun W h => (D.out W h).2.2.2.2
  have hwr : IntKind.i64.wrap ((i : Int) + 1) = (i : Int) + 1 := IntWalk.i64_in _ ⟨by omega, by omega⟩
  clear l0 l1 l2 l3 c0 hb2 hE2 HSh
  go_wp2_with fail
  refine wp_region_ordS [w.heap.size + 1, w.heap.size + 1 + 1] [(0, true), (1, true), (3, true), (4, true), (5, true), (6, true), (7, true), (8, true), (9, true), (10, true), (11, true), (12, true), (13, true), (14, true), (2, false), (15, false), (16, false), (17, true), (18, false)] (by kernel_rfl) (by kernel_rfl) (by kernel_rfl) (by kernel_rfl) ?_
  repeat (first | (refine wpO_F (v := ?_) rfl (by rfl) (fun w' hL => ?_) ?_; rotate_left; (solve | (go_simp; with_reducible rfl) | go_simp); try simp only [Act.put, List.setIfInBounds_toArray, List.set_cons_zero, List.set_cons_succ]) | (refine wpO_G' (Chg.refl _) rfl (by rfl) ?_; try simp only [Act.put, List.setIfInBounds_toArray, List.set_cons_zero, List.set_cons_succ]))
  refine wpO_C rfl (by rfl) ?_
  go_simp
  refine (HP1.out i _ (by omega) HE2.out.drew).mono ?_
  rintro e w3 ⟨ma, rfl, hA, hb3, hF3⟩
  refine ⟨Below.chg0 hb3 _, ?_⟩
  have hE3 := HE2.out.drew.trans (hb3.mono HE2.out.size)
  have HE3 := Lib.hid hE3
  have HA := Lib.hid hA
  have HF3 := Lib.hid hF3
  have HBa3 := Lib.hid (HBa2.out.drew.bel hb3 (by show _ < w2.heap.size; omega))
  have HBb3 := Lib.hid (HBb2.out.drew.bel hb3 (by show _ < w2.heap.size; omega))
  have hsz3 : w.heap.size + 1 + 1 < w3.heap.size := Nat.lt_of_lt_of_le hsz2 hb3.size
  clear hE3 hA hF3 hb3
  try simp only [Act.put, List.setIfInBounds_toArray, List.set_cons_zero, List.set_cons_succ]
  refine wpO_C rfl (by rfl) ?_
  go_simp
  refine (HP2.out i _ (by omega) HE3.out).mono ?_
  rintro e w4 ⟨mb, rfl, hB, hb4, hF4⟩
  refine ⟨Below.chg0 hb4 _, ?_⟩
  try simp only [Act.put, List.setIfInBounds_toArray, List.set_cons_zero, List.set_cons_succ]
  have hBa := HBa3.out.bel hb4 (by omega)
  have hBb := HBb3.out.bel hb4 (by omega)
  have hsz4 : w.heap.size + 1 + 1 < w4.heap.size := Nat.lt_of_lt_of_le hsz3 hb4.size
  have r0 : w4.cell? ⟨w.heap.size + 1, 0, none⟩ = some (.bool false) := hBa.cell 0
  have r1 : w4.cell? ⟨w.heap.size + 1, 1, none⟩ = some (.slice none 0 0) := hBa.cell 1
  have r2 : w4.cell? ⟨w.heap.size + 1, 2, none⟩ = some (.slice none 0 0) := hBa.cell 2
  have r3 : w4.cell? ⟨w.heap.size + 1, 3, none⟩ = some (.slice none 0 0) := hBa.cell 3
  have f0 := hBa.frozen 0
  have f1 := hBa.frozen 1
  have f2 := hBa.frozen 2
  have f3 := hBa.frozen 3
  have s0 : w4.cell? ⟨w.heap.size + 1 + 1, 0, none⟩ = some (.bool false) := hBb.cell 0
  have s1 : w4.cell? ⟨w.heap.size + 1 + 1, 1, none⟩ = some (.slice none 0 0) := hBb.cell 1
  have s2 : w4.cell? ⟨w.heap.size + 1 + 1, 2, none⟩ = some (.slice none 0 0) := hBb.cell 2
  have s3 : w4.cell? ⟨w.heap.size + 1 + 1, 3, none⟩ = some (.slice none 0 0) := hBb.cell 3
  have g0 := hBb.frozen 0
  have g1 := hBb.frozen 1
  have g2 := hBb.frozen 2
  have g3 := hBb.frozen 3
  have HFin : Hid (∀ v0 v1 v2 v3 u0 u1 u2 u3, RR (.returned (.tuple #[ma.v false, .string key, mb.v false])) (set4 (set4 w4 (w.heap.size + 1) v0 v1 v2 v3) (w.heap.size + 1 + 1) u0 u1 u2 u3)) := by
    intro v0 v1 v2 v3 u0 u1 u2 u3
    have hE4 := HE3.out.trans (hb4.mono HE3.out.size)
    have A1 := HA.out.later hb4
    refine HX.out i key ma mb _ hi HKk.out ?_ ?_ (set4_below (set4_below hE4 (Nat.le_add_right _ 1) _ _ _ _) (Nat.le_add_right _ 2) _ _ _ _)
    · exact (A1.set4 HF3.out (by show _ < w2.heap.size; omega) _ _ _ _).set4 HF3.out (by show _ < w2.heap.size; omega) _ _ _ _
    · exact (hB.set4 hF4 (by omega) _ _ _ _).set4 hF4 (by omega) _ _ _ _
  clear hB hb4 hF4 hBa hBb HX
  refine wpO_C rfl (by rfl) ?_
  go_simp
  refine ⟨set4_chg (by simp) _ _ _ _, ?_⟩
  try simp only [Act.put, List.setIfInBounds_toArray, List.set_cons_zero, List.set_cons_succ]
  repeat (first | (refine wpO_F (v := ?_) rfl (by rfl) (fun w' hL => ?_) ?_; rotate_left; (solve | (go_simp; with_reducible rfl) | go_simp); try simp only [Act.put, List.setIfInBounds_toArray, List.set_cons_zero, List.set_cons_succ]) | (refine wpO_G' (Chg.refl _) rfl (by rfl) ?_; try simp only [Act.put, List.setIfInBounds_toArray, List.set_cons_zero, List.set_cons_succ]))
  refine wpO_C rfl (by rfl) ?_
  go_simp
  refine ⟨set4_chg (by simp) _ _ _ _, ?_⟩
  try simp only [Act.put, List.setIfInBounds_toArray, List.set_cons_zero, List.set_cons_succ]
  refine wpO_nil ?_
  go_wp2
  refine bodyPost_ret (v := .tuple #[ma.v false, .string key, mb.v false]) (by simp [results, Try.results26, go_sem, r0, r1, r2, r3, s0, s1, s2, s3, hsz4]) rfl (HFin.out _ _ _ _ _ _ _ _)

theorem NHalve_any (n : Nd) (m : NB) (w : World) (h : NAt w n m) (hbig : m.kl ≤ 1000000) :
    Calls Try.prog 26 #[m.v n.leaf] w (RetHalf w n) := by
  by_cases hc : n.Ok ∧ 2 + movedN n ≤ n.keys.length
  · cases hl : n.leaf with
    | true => exact halve_yesL n m w h hl hc.1 (by have := hc.2; rw [moved_leaf hl] at this; exact this) hbig
    | false => exact halve_yesI n m w h hl hc.1 (by have := hc.2; rw [moved_inner hl] at this; exact this) hbig
  · cases hl : n.leaf with
    | true => exact halve_noL n m w h hl (by rw [moved_leaf hl] at hc; exact hc) hbig
    | false => exact halve_noI n m w h hl (by rw [moved_inner hl] at hc; exact hc) hbig
end Go.Proofs.Ytlcphgomhhejbaa
