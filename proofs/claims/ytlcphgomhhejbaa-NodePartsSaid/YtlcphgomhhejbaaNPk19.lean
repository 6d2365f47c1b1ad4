/- Several texts of one proof, one behind the other. -/
import Derived.Test.YtlcphgomhhejbaaNPk18
import Derived.Deep.OwnRows
set_option linter.unusedSimpArgs false
set_option linter.unusedVariables false

/- The walk of the writer's leaf. -/
namespace Go.Proofs.Ytlcphgomhhejbaa
open Go.RowKit

theorem beL_one {n : Nat} (h : n < 256) : beL 1 n = [n] := by
  simp [beL]; omega

theorem take_snocG {α : Type} (l : List α) (k : Nat) (x : α) (h : l[k]? = some x) : l.take (k + 1) = l.take k ++ [x] := by
  rw [List.take_add_one, h]; rfl

/-- A round's bytes fit. -/
theorem room_at {R : Rn} {k : Nat} {x : Pt} (hx : R.l[k]? = some x) (h512 : (encN R).length ≤ 512) : (headN R ++ encPs R.leaf (R.l.take k)).length + lenPt R.leaf x ≤ 512 := by
  have h1 := encPs_le R.leaf R.l (k + 1)
  rw [encN_len_take R k x hx] at h1
  unfold encN at h512
  rw [List.length_append] at h512 ⊢
  omega

set_option maxRecDepth 100000 in
set_option maxHeartbeats 4000000 in
theorem leafW_any (n : Nd) (m : NB) (w0 w : World) (wb g : Nat) (h : NAt w0 n m) (hb0 : Below w0.heap.size w0 w) (hwb : w0.heap.size ≤ wb) (hgb : w0.heap.size ≤ g) (ho : n.Ok) (hl : n.leaf = true) (h512 : (encN n.asR).length ≤ 512) (hW : Wrt w wb g []) :
    Calls Try.prog 30 #[.pointer (some ⟨wb, 0, none⟩), m.v n.leaf] w (RetWr w wb g (encN n.asR)) := by
  have hk := h.hk
  have hc := h.hc
  have HKA := Lib.hid h.karr
  have HCA := Lib.hid h.carr
  obtain ⟨hRl, hRlen, hparts⟩ := part_leaf ho.shaped hl
  have hRok := ho.asR
  rw [hl]
  generalize n.asR = R at *
  have hlen512 : R.l.length ≤ 512 := by
    have h1 : ∀ l : List Pt, l.length ≤ (encPs R.leaf l).length := by
      intro l
      induction l with
      | nil => simp
      | cons x r ih =>
        have e : encPs R.leaf (x :: r) = encPt R.leaf x ++ encPs R.leaf r := rfl
        have := encPt_pos R.leaf x
        rw [e, List.length_append, List.length_cons]; omega
    have := h1 R.l
    unfold encN at h512
    rw [List.length_append] at h512
    omega
  have HK : Hid (∀ k x, R.l[k]? = some x → k < m.kl ∧ k < m.cl ∧ x.key.size ≤ 100 ∧ x.okL = true ∧ ∃ b o b2 o2, m.ka = some ⟨b, o, none⟩ ∧ m.ca = some ⟨b2, o2, none⟩ ∧ b < w0.heap.size ∧ b2 < w0.heap.size ∧ w0.cell? ⟨b, o + k, none⟩ = some (.string x.key) ∧
      w0.cell? ⟨b2, o2 + k * 3, none⟩ = some (.int .i64 x.len) ∧ w0.cell? ⟨b2, o2 + k * 3 + 1, none⟩ = some (.string x.data) ∧ w0.cell? ⟨b2, o2 + k * 3 + 2, none⟩ = some (.int .i64 x.page)) := by
    intro k x hx
    obtain ⟨h1, h2⟩ := hparts k x hx
    obtain ⟨hkl, hke⟩ := List.getElem?_eq_some_iff.1 h1
    obtain ⟨hcl, hce⟩ := List.getElem?_eq_some_iff.1 h2
    obtain ⟨b, o, e1, hb, c0⟩ := strAt HKA.out hkl
    obtain ⟨b2, o2, e2, hb2, c1, c2, c3⟩ := cellAt HCA.out hcl
    rw [hke] at c0
    rw [hce] at c1 c2 c3
    exact ⟨by omega, by omega, hRok.key hx, hRok.okL hRl (List.mem_of_getElem? hx), b, o, b2, o2, e1, e2, hb, hb2, c0, c1, c2, c3⟩
  have HRoom : Hid (∀ k x, R.l[k]? = some x → (headN R ++ encPs R.leaf (R.l.take k)).length + lenPt true x ≤ 512) := fun k x hx => by
    have h1 := room_at hx h512
    have e : lenPt R.leaf x = lenPt true x := by rw [hRl]
    omega
  have hkR : m.kl = R.l.length := by omega
  have hhead : headN R = [1] ++ beL 2 m.kl := by unfold headN; rw [hRl, ← hkR]; simp
  have HEnd : Hid (headN R ++ encPs R.leaf (R.l.take m.kl) = encN R) := by
    show _ = _
    rw [hkR, List.take_length]; rfl
  have HStart : Hid (headN R ++ encPs R.leaf (R.l.take 0) = [] ++ beL 1 1 ++ beL 2 m.kl) := by
    show _ = _
    rw [hhead, beL_one (by omega)]; simp [encPs]
  have HStep : Hid (∀ k x, R.l[k]? = some x → headN R ++ encPs R.leaf (R.l.take (k + 1)) = headN R ++ encPs R.leaf (R.l.take k) ++ encPt true x) := by
    intro k x hx
    rw [encPs_take _ _ _ _ hx, List.append_assoc, hRl]
  have hwlt := hW.blk.lt
  have hglt := hW.page.lt
  have hkl512 : m.kl ≤ 512 := by omega
  have HL0 : Hid (R.l.length = m.kl) := hkR.symm
  have HLeaf := Lib.hid hRl
  generalize encN R = E at *
  clear hparts hhead hlen512 h512 ho hRlen hc hk h hRok hRl
  obtain ⟨ka, kl, kc, ca, cl, cc, da, dl, dc⟩ := m
  simp only at *
  clear hkR
  have hW1 : Wrt (w.alloc (.cells #[.bool true, .slice ka kl kc, .slice ca cl cc, .slice da dl dc] 26)) wb g [] := hW.chg (S := []) ((Chg.refl _ _).alloc _) (by simp) (by simp)
  have HW1 := Lib.hid hW1
  clear hW hW1
  go_enter Try.func30, Try.ntmps30
  go_wp2_with fail
  refine (number_any wb g [] 1 1 _ _ _ rfl rfl HW1.out (by omega) (by omega) (by simp) (by omega)).mono ?_
  rintro e w1 ⟨rfl, hw1, hc1⟩
  have HW2 := Lib.hid hw1
  have hcc : Chg [wb, g] w w1 := ((Chg.refl _ _).alloc _).trans hc1
  have hsz1 : w.heap.size < w1.heap.size := by have := hc1.size; simp at this; omega
  have l0 := (hc1.cell (b := w.heap.size) (o := 0) (by simp) (by simp; omega)).trans ((Blk.new w 26 _).cell 0)
  have l1 := (hc1.cell (b := w.heap.size) (o := 1) (by simp) (by simp; omega)).trans ((Blk.new w 26 _).cell 1)
  have l2 := (hc1.cell (b := w.heap.size) (o := 2) (by simp) (by simp; omega)).trans ((Blk.new w 26 _).cell 2)
  have l3 := (hc1.cell (b := w.heap.size) (o := 3) (by simp) (by simp; omega)).trans ((Blk.new w 26 _).cell 3)
  simp at l0 l1 l2 l3
  clear hw1 hc1 HW1
  go_wp2_with fail
  refine (number_any wb g _ kl 2 _ _ _ rfl rfl HW2.out (by omega) (by omega) (by rw [List.length_append, beL_len]; simp) (by omega)).mono ?_
  rintro e w2 ⟨rfl, hw2, hc2⟩
  rw [← HStart.out] at hw2
  have HW3 := Lib.hid hw2
  replace hcc := hcc.trans hc2
  have n1 := (hc2.cell (b := w.heap.size) (o := 1) hsz1 (by simp; omega)).trans l1
  have n2 := (hc2.cell (b := w.heap.size) (o := 2) hsz1 (by simp; omega)).trans l2
  have hsz2 : w.heap.size < w2.heap.size := by have := hc2.size; omega
  clear l0 l1 l2 l3 hw2 hc2 HW2 hsz1
  go_wp2_with fail
  have HN : Hid (∀ W, Chg [wb, g] w2 W → W.cell? ⟨w.heap.size, 1, none⟩ = some (.slice ka kl kc) ∧ W.cell? ⟨w.heap.size, 2, none⟩ = some (.slice ca cl cc)) := fun W hc => ⟨(hc.cell (b := w.heap.size) hsz2 (by simp; omega)).trans n1, (hc.cell (b := w.heap.size) hsz2 (by simp; omega)).trans n2⟩
  have HB0 : Hid (∀ W, Chg [wb, g] w W → Below w0.heap.size w0 W) := fun W hc => hb0.trans (hc.below hb0.size (by simp; omega))
  go_loopw [17] (fun iv wr => ∃ k : Nat, k ≤ kl ∧ iv = .int .i64 k ∧ Hid (Wrt wr wb g (headN R ++ encPs R.leaf (R.l.take k))) ∧ Chg [wb, g] w2 wr) (fun iv _ => kl - (intOf iv).toNat)
  case atStart => exact ⟨0, by omega, rfl, HW3, Chg.refl _ _⟩
  case round =>
    obtain ⟨k, hk, rfl, HWr, hcr⟩ := hrel
    obtain ⟨p1, p2⟩ := HN.out wr hcr
    by_cases hlt : k < kl
    · obtain ⟨x, hx⟩ : ∃ x, R.l[k]? = some x := ⟨_, List.getElem?_eq_getElem (by have := HL0.out; omega)⟩
      obtain ⟨q1, q2, hks, hok, b, o, b2, o2, rfl, rfl, hb, hb2, c0, c1, c2, c3⟩ := HK.out k x hx
      have hbel := HB0.out wr (hcc.trans hcr)
      have d0 := (hbel.cell (p := ⟨b, o + k, none⟩) hb).trans c0
      have d1 := (hbel.cell (p := ⟨b2, o2 + k * 3, none⟩) hb2).trans c1
      have d2 := (hbel.cell (p := ⟨b2, o2 + k * 3 + 1, none⟩) hb2).trans c2
      have d3 := (hbel.cell (p := ⟨b2, o2 + k * 3 + 2, none⟩) hb2).trans c3
      have hroom := HRoom.out k x hx
      have HSt := Lib.hid (HStep.out k x hx)
      clear c0 c1 c2 c3 hbel hx
      obtain ⟨key, len, data, page⟩ := x
      simp only at *
      have hszr : w.heap.size ≤ wr.heap.size := by have := hcr.size; omega
      have hWa : Wrt (wr.alloc (.cells #[.int .i64 len, .string data, .int .i64 page] 63)) wb g (headN R ++ encPs R.leaf (R.l.take k)) := HWr.out.chg (S := []) ((Chg.refl _ _).alloc _) (by simp) (by simp)
      have hca : Chg [wb, g] w2 (wr.alloc (.cells #[.int .i64 len, .string data, .int .i64 page] 63)) := hcr.alloc _
      have HCB : Hid (∀ W, Chg [wb, g] (wr.alloc (.cells #[.int .i64 len, .string data, .int .i64 page] 63)) W → W.cell? ⟨wr.heap.size, 0, none⟩ = some (.int .i64 len) ∧ W.cell? ⟨wr.heap.size, 1, none⟩ = some (.string data) ∧ W.cell? ⟨wr.heap.size, 2, none⟩ = some (.int .i64 page)) := fun W hc =>
        ⟨(hc.cell (b := wr.heap.size) (o := 0) (by simp) (by simp; omega)).trans ((Blk.new wr 63 _).cell 0), (hc.cell (b := wr.heap.size) (o := 1) (by simp) (by simp; omega)).trans ((Blk.new wr 63 _).cell 1), (hc.cell (b := wr.heap.size) (o := 2) (by simp) (by simp; omega)).trans ((Blk.new wr 63 _).cell 2)⟩
      obtain ⟨b0, b8, b120, bpg⟩ := okL_bd hok
      simp only at b0 b8 b120 bpg
      have hlp : lenPt true ⟨key, len, data, page⟩ = 1 + key.size + 2 + (if len ≤ 120 then data.size else 4) := by unfold lenPt; simp only [if_true]; omega
      rw [hlp] at hroom
      have henc : encPt true ⟨key, len, data, page⟩ = [key.size] ++ beL 2 len.toNat ++ bytesOf key ++ (if len ≤ 120 then bytesOf data else beL 4 page.toNat) := by unfold encPt; simp [List.append_assoc]
      rw [henc, ← beL_one (show key.size < 256 by omega)] at HSt
      have HSt2 := Lib.hid HSt
      have HWa := Lib.hid hWa
      have HCA2 := Lib.hid hca
      generalize hLk : headN R ++ encPs R.leaf (R.l.take k) = L at *
      clear hlp henc hWa hca hok HWr hcr
      go_wp2_with fail
      clear d0 d1 d2 d3 p1 p2
      refine (number_any wb g L key.size 1 _ _ _ rfl rfl HWa.out (by omega) (by omega) (by omega) (by omega)).mono ?_
      rintro e v1 ⟨rfl, hw1, hc1⟩
      obtain ⟨a0, a1, a2⟩ := HCB.out _ hc1
      have HW1 := Lib.hid hw1
      have hchg := hc1
      clear hw1 hc1 HWa
      go_wp2_with fail
      refine (number_any wb g _ len.toNat 2 _ _ _ (by omega) rfl HW1.out (by omega) (by omega) (by rw [List.length_append, beL_len]; omega) (by omega)).mono ?_
      rintro e v2 ⟨rfl, hw1, hc1⟩
      replace hchg := hchg.trans hc1
      clear a0 a1 a2
      obtain ⟨a0, a1, a2⟩ := HCB.out _ hchg
      have HW2 := Lib.hid hw1
      clear hw1 hc1 HW1
      go_wp2_with fail
      refine (text_any wb g _ key _ HW2.out (by simp only [List.length_append, beL_len]; omega)).mono ?_
      rintro e v3 ⟨rfl, hw1, hc1⟩
      replace hchg := hchg.trans hc1
      clear a0 a1 a2
      obtain ⟨a0, a1, a2⟩ := HCB.out _ hchg
      have HW3 := Lib.hid hw1
      clear hw1 hc1 HW2
      by_cases h120 : len ≤ 120
      · have q120 : decide (len ≤ 120) = true := by simpa using h120
        rw [if_pos h120] at hroom HSt2
        go_wp2_with fail
        refine (text_any wb g _ data _ HW3.out (by simp only [List.length_append, beL_len, bytesOf_len]; omega)).mono ?_
        rintro e v4 ⟨rfl, hw1, hc1⟩
        replace hchg := hchg.trans hc1
        have HW4 := Lib.hid hw1
        clear hw1 hc1 HW3 a0 a1 a2
        go_wp2
        go_roundw
        case rel => exact ⟨k + 1, by omega, by go_num, by rw [HSt2.out.out]; exact Lib.hid (by simpa [List.append_assoc] using HW4.out), HCA2.out.trans hchg⟩
        case measure => simp [intOf]; omega
      · have q120 : decide (len ≤ 120) = false := by simpa using h120
        rw [if_neg h120] at hroom HSt2
        have hpg := bpg (by omega)
        go_wp2_with fail
        refine (number_any wb g _ page.toNat 4 _ _ _ (by omega) rfl HW3.out (by omega) (by omega) (by simp only [List.length_append, beL_len, bytesOf_len]; omega) (by omega)).mono ?_
        rintro e v4 ⟨rfl, hw1, hc1⟩
        replace hchg := hchg.trans hc1
        have HW4 := Lib.hid hw1
        clear hw1 hc1 HW3 a0 a1 a2
        go_wp2
        go_roundw
        case rel => exact ⟨k + 1, by omega, by go_num, by rw [HSt2.out.out]; exact Lib.hid (by simpa [List.append_assoc] using HW4.out), HCA2.out.trans hchg⟩
        case measure => simp [intOf]; omega
    · obtain rfl : k = kl := by omega
      go_wp2
      refine bodyPost_end (v := .tuple #[]) (results_none rfl _ _ _) rfl ⟨rfl, ?_, hcc.trans hcr⟩
      rw [← HEnd.out]; exact HWr.out
end Go.Proofs.Ytlcphgomhhejbaa

/- The walk of the writer's inner. -/
namespace Go.Proofs.Ytlcphgomhhejbaa
open Go.RowKit

set_option maxRecDepth 100000 in
set_option maxHeartbeats 4000000 in
theorem innerW_any (n : Nd) (m : NB) (w0 w : World) (wb g : Nat) (h : NAt w0 n m) (hb0 : Below w0.heap.size w0 w) (hwb : w0.heap.size ≤ wb) (hgb : w0.heap.size ≤ g) (ho : n.Ok) (hl : n.leaf = false) (h512 : (encN n.asR).length ≤ 512) (hW : Wrt w wb g []) :
    Calls Try.prog 31 #[.pointer (some ⟨wb, 0, none⟩), m.v n.leaf] w (RetWr w wb g (encN n.asR)) := by
  have hk := h.hk
  have hd := h.hd
  have HKA := Lib.hid h.karr
  have HDA := Lib.hid h.darr
  obtain ⟨hRl, hRlen, hkid, hparts⟩ := part_inner ho.shaped hl
  have hRok := ho.asR
  rw [hl]
  generalize n.asR = R at *
  have hlen512 : R.l.length ≤ 512 := by
    have h1 : ∀ l : List Pt, l.length ≤ (encPs R.leaf l).length := by
      intro l
      induction l with
      | nil => simp
      | cons x r ih =>
        have e : encPs R.leaf (x :: r) = encPt R.leaf x ++ encPs R.leaf r := rfl
        have := encPt_pos R.leaf x
        rw [e, List.length_append, List.length_cons]; omega
    have := h1 R.l
    unfold encN at h512
    rw [List.length_append] at h512
    omega
  have hkidok : 1 ≤ R.kid ∧ R.kid ≤ 4095 := by
    have := hRok.2
    rw [hRl] at this
    exact of_decide_eq_true this.2.1
  have HK : Hid (∀ k x, R.l[k]? = some x → k < m.kl ∧ k + 1 < m.dl ∧ x.key.size ≤ 100 ∧ x.okI = true ∧ ∃ b o b2 o2, m.ka = some ⟨b, o, none⟩ ∧ m.da = some ⟨b2, o2, none⟩ ∧ b < w0.heap.size ∧ b2 < w0.heap.size ∧ w0.cell? ⟨b, o + k, none⟩ = some (.string x.key) ∧
      w0.cell? ⟨b2, o2 + (k + 1), none⟩ = some (.int .i64 x.page)) := by
    intro k x hx
    obtain ⟨h1, h2, _, _⟩ := hparts k x hx
    obtain ⟨hkl, hke⟩ := List.getElem?_eq_some_iff.1 h1
    obtain ⟨hcl, hce⟩ := List.getElem?_eq_some_iff.1 h2
    obtain ⟨b, o, e1, hb, c0⟩ := strAt HKA.out hkl
    obtain ⟨b2, o2, e2, hb2, c1⟩ := intAt HDA.out hcl
    rw [hke] at c0
    rw [hce] at c1
    exact ⟨by omega, by omega, hRok.key hx, hRok.okI hRl (List.mem_of_getElem? hx), b, o, b2, o2, e1, e2, hb, hb2, c0, c1⟩
  have HK0 : ∃ b2 o2, m.da = some ⟨b2, o2, none⟩ ∧ 0 < m.dl ∧ b2 < w0.heap.size ∧ w0.cell? ⟨b2, o2, none⟩ = some (.int .i64 R.kid) := by
    obtain ⟨hcl, hce⟩ := List.getElem?_eq_some_iff.1 hkid
    obtain ⟨b2, o2, e2, hb2, c1⟩ := intAt HDA.out hcl
    rw [hce] at c1
    exact ⟨b2, o2, e2, by omega, hb2, by simpa using c1⟩
  have HRoom : Hid (∀ k x, R.l[k]? = some x → (headN R ++ encPs R.leaf (R.l.take k)).length + lenPt false x ≤ 512) := fun k x hx => by
    have h1 := room_at hx h512
    have e : lenPt R.leaf x = lenPt false x := by rw [hRl]
    omega
  have hkR : m.kl = R.l.length := by omega
  have hhead : headN R = [2] ++ beL 2 m.kl ++ beL 4 R.kid.toNat := by unfold headN; rw [hRl, ← hkR]; simp
  have HEnd : Hid (headN R ++ encPs R.leaf (R.l.take m.kl) = encN R) := by
    show _ = _
    rw [hkR, List.take_length]; rfl
  have HStart : Hid (headN R ++ encPs R.leaf (R.l.take 0) = [] ++ beL 1 2 ++ beL 2 m.kl ++ beL 4 R.kid.toNat) := by
    show _ = _
    rw [hhead, beL_one (by omega)]; simp [encPs]
  have HStep : Hid (∀ k x, R.l[k]? = some x → headN R ++ encPs R.leaf (R.l.take (k + 1)) = headN R ++ encPs R.leaf (R.l.take k) ++ encPt false x) := by
    intro k x hx
    rw [encPs_take _ _ _ _ hx, List.append_assoc, hRl]
  have hwlt := hW.blk.lt
  have hglt := hW.page.lt
  have hkl512 : m.kl ≤ 512 := by omega
  have HL0 : Hid (R.l.length = m.kl) := hkR.symm
  have HLeaf := Lib.hid hRl
  generalize encN R = E at *
  clear hparts hhead hlen512 h512 ho hRlen hd hk h hRok hRl hkid
  obtain ⟨ka, kl, kc, ca, cl, cc, da, dl, dc⟩ := m
  simp only at *
  clear hkR
  obtain ⟨b2, o2, rfl, hdl0, hb2, c1⟩ := HK0
  generalize hKid : R.kid = kid at *
  clear hKid
  have hW1 : Wrt (w.alloc (.cells #[.bool false, .slice ka kl kc, .slice ca cl cc, .slice (some ⟨b2, o2, none⟩) dl dc] 26)) wb g [] := hW.chg (S := []) ((Chg.refl _ _).alloc _) (by simp) (by simp)
  have HW1 := Lib.hid hW1
  clear hW hW1
  go_enter Try.func31, Try.ntmps31
  go_wp2_with fail
  refine (number_any wb g [] 2 1 _ _ _ rfl rfl HW1.out (by omega) (by omega) (by simp) (by omega)).mono ?_
  rintro e w1 ⟨rfl, hw1, hc1⟩
  have HW2 := Lib.hid hw1
  have hcc : Chg [wb, g] w w1 := ((Chg.refl _ _).alloc _).trans hc1
  have hsz1 : w.heap.size < w1.heap.size := by have := hc1.size; simp at this; omega
  have l0 := (hc1.cell (b := w.heap.size) (o := 0) (by simp) (by simp; omega)).trans ((Blk.new w 26 _).cell 0)
  have l1 := (hc1.cell (b := w.heap.size) (o := 1) (by simp) (by simp; omega)).trans ((Blk.new w 26 _).cell 1)
  have l2 := (hc1.cell (b := w.heap.size) (o := 2) (by simp) (by simp; omega)).trans ((Blk.new w 26 _).cell 2)
  have l3 := (hc1.cell (b := w.heap.size) (o := 3) (by simp) (by simp; omega)).trans ((Blk.new w 26 _).cell 3)
  simp at l0 l1 l2 l3
  clear hw1 hc1 HW1
  go_wp2_with fail
  refine (number_any wb g _ kl 2 _ _ _ rfl rfl HW2.out (by omega) (by omega) (by rw [List.length_append, beL_len]; simp) (by omega)).mono ?_
  rintro e w2 ⟨rfl, hw2, hc2⟩
  replace hcc := hcc.trans hc2
  have n1 := (hc2.cell (b := w.heap.size) (o := 1) hsz1 (by simp; omega)).trans l1
  have n3 := (hc2.cell (b := w.heap.size) (o := 3) hsz1 (by simp; omega)).trans l3
  have hsz2 : w.heap.size < w2.heap.size := by have := hc2.size; omega
  have c1' := ((hb0.trans (hcc.below hb0.size (by simp; omega))).cell (p := ⟨b2, o2, none⟩) hb2).trans c1
  have HW3 := Lib.hid hw2
  clear l0 l1 l2 l3 hw2 hc2 HW2 hsz1
  go_wp2_with fail
  refine (number_any wb g _ kid.toNat 4 _ _ _ (by omega) rfl HW3.out (by omega) (by omega) (by simp only [List.length_append, beL_len, List.length_nil]; omega) (by omega)).mono ?_
  rintro e w3 ⟨rfl, hw3, hc3⟩
  rw [← HStart.out] at hw3
  replace hcc := hcc.trans hc3
  have n1 := (hc3.cell (b := w.heap.size) (o := 1) hsz2 (by simp; omega)).trans n1
  have n3 := (hc3.cell (b := w.heap.size) (o := 3) hsz2 (by simp; omega)).trans n3
  have hsz3 : w.heap.size < w3.heap.size := by have := hc3.size; omega
  have HW4 := Lib.hid hw3
  clear hw3 hc3 HW3 hsz2 c1'
  go_wp2_with fail
  have HN : Hid (∀ W, Chg [wb, g] w3 W → W.cell? ⟨w.heap.size, 1, none⟩ = some (.slice ka kl kc) ∧ W.cell? ⟨w.heap.size, 3, none⟩ = some (.slice (some ⟨b2, o2, none⟩) dl dc)) := fun W hc => ⟨(hc.cell (b := w.heap.size) hsz3 (by simp; omega)).trans n1, (hc.cell (b := w.heap.size) hsz3 (by simp; omega)).trans n3⟩
  have HB0 : Hid (∀ W, Chg [wb, g] w W → Below w0.heap.size w0 W) := fun W hc => hb0.trans (hc.below hb0.size (by simp; omega))
  go_loopw [22] (fun iv wr => ∃ k : Nat, k ≤ kl ∧ iv = .int .i64 k ∧ Hid (Wrt wr wb g (headN R ++ encPs R.leaf (R.l.take k))) ∧ Chg [wb, g] w3 wr) (fun iv _ => kl - (intOf iv).toNat)
  case atStart => exact ⟨0, by omega, rfl, HW4, Chg.refl _ _⟩
  case round =>
    obtain ⟨k, hk, rfl, HWr, hcr⟩ := hrel
    obtain ⟨p1, p2⟩ := HN.out wr hcr
    by_cases hlt : k < kl
    · obtain ⟨x, hx⟩ : ∃ x, R.l[k]? = some x := ⟨_, List.getElem?_eq_getElem (by have := HL0.out; omega)⟩
      obtain ⟨q1, q2, hks, hok, b, o, b2', o2', rfl, hda, hb, _, c0, c4⟩ := HK.out k x hx
      simp only [Option.some.injEq, Addr.mk.injEq, and_true] at hda
      obtain ⟨rfl, rfl⟩ := hda
      have hbel := HB0.out wr (hcc.trans hcr)
      have d0 := (hbel.cell (p := ⟨b, o + k, none⟩) hb).trans c0
      have HD4 : Hid (∀ W, Chg [wb, g] wr W → W.cell? ⟨b2, o2 + (k + 1), none⟩ = some (.int .i64 x.page)) := fun W hc => ((HB0.out W (hcc.trans (hcr.trans hc))).cell (p := ⟨b2, o2 + (k + 1), none⟩) hb2).trans c4
      have hroom := HRoom.out k x hx
      have HSt := Lib.hid (HStep.out k x hx)
      clear c0 c4 hbel hx
      obtain ⟨key, len, data, page⟩ := x
      obtain ⟨_, _, bp1, bp2⟩ := okI_bd hok
      simp only at *
      have hlp : lenPt false ⟨key, len, data, page⟩ = 1 + key.size + 4 := by simp [lenPt]
      rw [hlp] at hroom
      have henc : encPt false ⟨key, len, data, page⟩ = [key.size] ++ bytesOf key ++ beL 4 page.toNat := by unfold encPt; simp [List.append_assoc]
      rw [henc, ← beL_one (show key.size < 256 by omega)] at HSt
      have HSt2 := Lib.hid HSt
      have HCR := Lib.hid hcr
      have HNr : Hid (∀ W, Chg [wb, g] wr W → W.cell? ⟨w.heap.size, 1, none⟩ = some (.slice (some ⟨b, o, none⟩) kl kc) ∧ W.cell? ⟨w.heap.size, 3, none⟩ = some (.slice (some ⟨b2, o2, none⟩) dl dc)) := fun W hc => HN.out W (hcr.trans hc)
      generalize hLk : headN R ++ encPs R.leaf (R.l.take k) = L at *
      clear hlp henc hok hcr
      go_wp2_with fail
      refine (number_any wb g L key.size 1 _ _ _ rfl rfl HWr.out (by omega) (by omega) (by omega) (by omega)).mono ?_
      rintro e v1 ⟨rfl, hw1, hc1⟩
      have hchg := hc1
      have HW1 := Lib.hid hw1
      clear hw1 hc1 HWr d0 p1 p2
      go_wp2_with fail
      refine (text_any wb g _ key _ HW1.out (by simp only [List.length_append, beL_len]; omega)).mono ?_
      rintro e v3 ⟨rfl, hw1, hc1⟩
      replace hchg := hchg.trans hc1
      obtain ⟨p1, p2⟩ := HNr.out _ hchg
      have d4 : v3.cell? ⟨b2, o2 + (k + 1), none⟩ = some (.int .i64 page) := HD4.out _ hchg
      have HW3 := Lib.hid hw1
      clear hw1 hc1 HW1
      go_wp2_with fail
      refine (number_any wb g _ page.toNat 4 _ _ _ (by omega) rfl HW3.out (by omega) (by omega) (by simp only [List.length_append, beL_len, bytesOf_len]; omega) (by omega)).mono ?_
      rintro e v4 ⟨rfl, hw1, hc1⟩
      replace hchg := hchg.trans hc1
      have HW4 := Lib.hid hw1
      clear hw1 hc1 HW3 p1 p2 d4
      go_wp2
      go_roundw
      case rel => exact ⟨k + 1, by omega, by go_num, by rw [HSt2.out.out]; exact Lib.hid (by simpa [List.append_assoc] using HW4.out), HCR.out.trans hchg⟩
      case measure => simp [intOf]; omega
    · obtain rfl : k = kl := by omega
      go_wp2
      refine bodyPost_end (v := .tuple #[]) (results_none rfl _ _ _) rfl ⟨rfl, ?_, hcc.trans hcr⟩
      rw [← HEnd.out]; exact HWr.out
end Go.Proofs.Ytlcphgomhhejbaa

/- The walk of node.Write. -/
namespace Go.Proofs.Ytlcphgomhhejbaa
open Go.RowKit

/-- What Write answers. -/
noncomputable def writeN (n : Nd) : List Nat × Int := if n.ok then (if (encN n.asR).length ≤ 512 then (pageN n.asR, 0) else ([], 2)) else ([], 3)

/-- A call hands back bytes and an error. -/
def RetBytes (w : World) (r : List Nat × Int) (e : Ending) (w' : World) : Prop :=
  ∃ a cap, e = .returned (.tuple #[.slice a r.1.length cap, .int .i64 r.2]) ∧ r.1.length ≤ cap ∧ cap ≤ 9223372036854775807 ∧ Bs w'.heap.size w' a r.1 ∧ Below w.heap.size w w'

theorem RetBytes.none {w w' : World} {q : Int} (hb : Below w.heap.size w w') : RetBytes w ([], q) (.returned (.tuple #[.slice Option.none 0 0, .int .i64 q])) w' :=
  ⟨Option.none, 0, rfl, by simp, by omega, ⟨by simp, .inl rfl⟩, hb⟩

theorem encPt_lt (leaf : Bool) (x : Pt) (h : x.key.size < 256) : ∀ c ∈ encPt leaf x, c < 256 := by
  intro c hc
  unfold encPt at hc
  simp only [List.mem_cons, List.mem_append] at hc
  rcases hc with rfl | hc | hc | hc
  · exact h
  · split at hc
    · exact beL_lt _ _ c hc
    · simp at hc
  · exact bytesOf_lt _ c hc
  · split at hc
    · exact bytesOf_lt _ c hc
    · exact beL_lt _ _ c hc
theorem encN_lt {n : Rn} (h : n.Ok) : ∀ c ∈ encN n, c < 256 := by
  intro c hc
  unfold encN headN at hc
  simp only [List.mem_cons, List.mem_append, List.cons_append] at hc
  rcases hc with rfl | (hc | hc) | hc
  · split <;> omega
  · exact beL_lt _ _ c hc
  · split at hc
    · simp at hc
    · exact beL_lt _ _ c hc
  · unfold encPs at hc
    obtain ⟨x, hx, hc⟩ := List.mem_flatMap.1 hc
    obtain ⟨i, hi⟩ := List.getElem?_of_mem hx
    exact encPt_lt _ x (by have := h.key hi; omega) c hc
theorem pageN_lt {n : Rn} (h : n.Ok) : ∀ c ∈ pageN n, c < 256 := by
  intro c hc
  unfold pageN at hc
  rcases List.mem_append.1 hc with hc | hc
  · exact encN_lt h c hc
  · have := List.eq_of_mem_replicate hc; omega
theorem pageN_len {n : Rn} (h : (encN n).length ≤ 512) : (pageN n).length = 512 := by
  unfold pageN; rw [List.length_append, List.length_replicate]; omega

theorem pageA_bs {w : World} {g : Nat} {n : Rn} (ho : n.Ok) (h : (encN n).length ≤ 512) (hB : Blk w g 5 (pageA (encN n))) : Bs w.heap.size w (some ⟨g, 0, none⟩) (pageN n) := by
  refine ⟨pageN_lt ho, .inr ⟨g, 0, rfl, hB.lt, fun i c hi => ?_⟩⟩
  rw [Nat.zero_add, hB.cell i]
  have e : (pageA (encN n))[i]? = (pageA (encN n)).toList[i]? := (Array.getElem?_toList ..).symm
  rw [e, pageA_list]
  have e2 : (encN n).map byteV ++ List.replicate (512 - (encN n).length) (byteV 0) = (pageN n).map byteV := by
    unfold pageN; rw [List.map_append, List.map_replicate]
  rw [e2, List.getElem?_map, hi]
  rfl

set_option maxRecDepth 100000 in
theorem zeroPage (W : World) : (Instr.makeSlice 27 (.int .i64 512) (.int .i64 512)).run Try.prog W = .ok (.slice (some ⟨W.heap.size, 0, none⟩) 512 512) (W.alloc (.cells (pageA []) 5)) := by
  have := run_make_row' (P := Try.prog) 27 5 (.int .u8 0) 1 Try.underlying27 (by kernel_rfl) rfl .i64 .i64 512 (by omega) (by omega) W
  have e : pageA [] = madeCells #[.int .u8 0] 512 := by
    apply Array.toList_inj.1
    rw [pageA_list, toList_madeCells_one]
    rfl
  rw [e]
  exact this

set_option maxRecDepth 100000 in
set_option maxHeartbeats 1000000 in
theorem NWrite_any (n : Nd) (m : NB) (w : World) (h : NAt w n m) (hbig : m.kl ≤ 140737488355) :
    Calls Try.prog 12 #[m.v n.leaf] w (RetBytes w (writeN n)) := by
  have HR := Lib.hid (fun W (hb : Below w.heap.size w W) => NRight_any n m W (h.later hb))
  have HS := Lib.hid (fun (ho : n.ok = true) W (hb : Below w.heap.size w W) => sizeOf_any n m W (h.later hb) (Nd.ok_true ho) hbig)
  cases hok : n.ok with
  | false =>
    have HE : Hid (writeN n = ([], 3)) := by show _ = _; unfold writeN; rw [hok]; rfl
    rw [hok] at HR
    clear HS h hbig hok
    obtain ⟨leaf, ks, cs, ps⟩ := n
    obtain ⟨ka, kl, kc, ca, cl, cc, da, dl, dc⟩ := m
    simp only at *
    rw [HE.out]
    go_enter Try.func12, Try.ntmps12
    go_wp2_with fail
    refine (HR.out _ (Below.box _ _)).mono ?_
    rintro e w1 ⟨rfl, hb⟩
    go_wp2
    go_ret2
    exact RetBytes.none ((Below.box _ _).trans (hb.mono (by simp)))
  | true =>
    have HS2 := Lib.hid (HS.out hok)
    rw [hok] at HR
    clear HS
    have hOk := Nd.ok_true hok
    by_cases h512 : (encN n.asR).length ≤ 512
    · have HE : Hid (writeN n = (pageN n.asR, 0)) := by show _ = _; unfold writeN; rw [hok, if_pos rfl, if_pos h512]
      rw [HE.out]
      have HLf := Lib.hid (fun (hl : n.leaf = true) W wb g h1 h2 h3 h4 => leafW_any n m w W wb g h h1 h2 h3 hOk hl h512 h4)
      have HIn := Lib.hid (fun (hl : n.leaf = false) W wb g h1 h2 h3 h4 => innerW_any n m w W wb g h h1 h2 h3 hOk hl h512 h4)
      have HBs := Lib.hid (fun (W : World) (g : Nat) => pageA_bs (w := W) (g := g) hOk.asR h512)
      have hpl := pageN_len h512
      generalize n.asR = R at *
      generalize hT : (encN R).length = T at *
      have q512 : decide ((512 : Int) < (T : Int)) = false := by simp; omega
      have HZ := Lib.hid zeroPage
      clear h hbig hok HE hOk hT
      obtain ⟨leaf, ks, cs, ps⟩ := n
      obtain ⟨ka, kl, kc, ca, cl, cc, da, dl, dc⟩ := m
      simp only at *
      go_enter Try.func12, Try.ntmps12
      go_wp2_with fail
      refine (HR.out _ (Below.box _ _)).mono ?_
      rintro e w1 ⟨rfl, hb⟩
      have hw : Below w.heap.size w w1 := (Below.box _ _).trans (hb.mono (by simp))
      have hcl : ∀ i, w1.cell? ⟨w.heap.size, i, none⟩ = (w.alloc (.cells #[.bool leaf, .slice ka kl kc, .slice ca cl cc, .slice da dl dc] 26)).cell? ⟨w.heap.size, i, none⟩ := fun i => hb.cell (p := ⟨w.heap.size, i, none⟩) (by simp)
      have l0 := hcl 0
      have l1 := hcl 1
      have l2 := hcl 2
      have l3 := hcl 3
      simp at l0 l1 l2 l3
      have hsz : w.heap.size < w1.heap.size := by have := hb.size; simp at this; omega
      clear hcl hb HR
      go_wp2_with fail
      refine (HS2.out _ hw).mono ?_
      rintro e w2 ⟨rfl, hb2⟩
      have hcl : ∀ i, w2.cell? ⟨w.heap.size, i, none⟩ = w1.cell? ⟨w.heap.size, i, none⟩ := fun i => hb2.cell (p := ⟨w.heap.size, i, none⟩) hsz
      have hw2 := hw.trans (hb2.mono hw.size)
      have n0 := (hcl 0).trans l0
      have n1 := (hcl 1).trans l1
      have n2 := (hcl 2).trans l2
      have n3 := (hcl 3).trans l3
      have hsz2 : w.heap.size < w2.heap.size := by have := hb2.size; omega
      clear l0 l1 l2 l3 hcl hb2 HS2 hw hsz
      have hz := HZ.out w2
      have HWrt : Hid (Wrt ((w2.alloc (.cells (pageA []) 5)).alloc (.cells #[.slice (some ⟨w2.heap.size, 0, none⟩) 512 512, .int .i64 0] 69)) (w2.heap.size + 1) w2.heap.size []) := by
        have := (Blk.new (w2.alloc (.cells (pageA []) 5)) 69 #[.slice (some ⟨w2.heap.size, 0, none⟩) 512 512, .int .i64 0])
        refine ⟨by simp, by omega, by simpa using this, (Blk.new w2 _ _).alloc _⟩
      have HBe : Hid (Below w.heap.size w ((w2.alloc (.cells (pageA []) 5)).alloc (.cells #[.slice (some ⟨w2.heap.size, 0, none⟩) 512 512, .int .i64 0] 69))) := (hw2.alloc hw2.size _).alloc (by have := hw2.size; simp; omega) _
      have hwsz := hw2.size
      cases leaf with
      | true =>
        have HLf2 := Lib.hid (HLf.out rfl)
        clear HLf HIn
        go_wp2_with fail
        refine (HLf2.out _ (w2.heap.size + 1) w2.heap.size HBe.out (by omega) hwsz HWrt.out).mono ?_
        rintro e w3 ⟨rfl, hW3, hC3⟩
        have hbe : Below w.heap.size w w3 := HBe.out.trans (hC3.below HBe.out.size (by simp; omega))
        have hbs := HBs.out _ _ hW3.page
        have HB := Lib.hid hbs
        have c0 := (hW3.blk.cell 0).trans rfl
        clear n0 n1 n2 n3 hW3 hC3 hbs HLf2 HWrt HBe hz
        go_wp2
        go_ret2
        exact ⟨some ⟨w2.heap.size, 0, Option.none⟩, 512, by rw [hpl]; rfl, by rw [hpl]; exact Nat.le_refl _, by omega, HB.out, hbe⟩
      | false =>
        have HIn2 := Lib.hid (HIn.out rfl)
        clear HLf HIn
        go_wp2_with fail
        refine (HIn2.out _ (w2.heap.size + 1) w2.heap.size HBe.out (by omega) hwsz HWrt.out).mono ?_
        rintro e w3 ⟨rfl, hW3, hC3⟩
        have hbe : Below w.heap.size w w3 := HBe.out.trans (hC3.below HBe.out.size (by simp; omega))
        have hbs := HBs.out _ _ hW3.page
        have HB := Lib.hid hbs
        have c0 := (hW3.blk.cell 0).trans rfl
        clear n0 n1 n2 n3 hW3 hC3 hbs HIn2 HWrt HBe hz
        go_wp2
        go_ret2
        exact ⟨some ⟨w2.heap.size, 0, Option.none⟩, 512, by rw [hpl]; rfl, by rw [hpl]; exact Nat.le_refl _, by omega, HB.out, hbe⟩
    · have HE : Hid (writeN n = ([], 2)) := by show _ = _; unfold writeN; rw [hok, if_pos rfl, if_neg h512]
      rw [HE.out]
      generalize hT : (encN n.asR).length = T at *
      have q512 : decide ((512 : Int) < (T : Int)) = true := by simp; omega
      clear h hbig hok HE hOk hT
      obtain ⟨leaf, ks, cs, ps⟩ := n
      obtain ⟨ka, kl, kc, ca, cl, cc, da, dl, dc⟩ := m
      simp only at *
      go_enter Try.func12, Try.ntmps12
      go_wp2_with fail
      refine (HR.out _ (Below.box _ _)).mono ?_
      rintro e w1 ⟨rfl, hb⟩
      have hw : Below w.heap.size w w1 := (Below.box _ _).trans (hb.mono (by simp))
      have hcl : ∀ i, w1.cell? ⟨w.heap.size, i, none⟩ = (w.alloc (.cells #[.bool leaf, .slice ka kl kc, .slice ca cl cc, .slice da dl dc] 26)).cell? ⟨w.heap.size, i, none⟩ := fun i => hb.cell (p := ⟨w.heap.size, i, none⟩) (by simp)
      have l0 := hcl 0
      have l1 := hcl 1
      have l2 := hcl 2
      have l3 := hcl 3
      simp at l0 l1 l2 l3
      clear hcl hb HR
      go_wp2_with fail
      refine (HS2.out _ hw).mono ?_
      rintro e w2 ⟨rfl, hb2⟩
      go_wp2
      go_ret2
      exact RetBytes.none (hw.trans (hb2.mono hw.size))
end Go.Proofs.Ytlcphgomhhejbaa

/- The document's node in memory; the walks of the reference's isPage and Right. -/
namespace Go.Proofs.Ytlcphgomhhejbaa
open Go.RowKit

theorem risPage_any (p : Int) (w : World) : Calls Try.prog 28 #[.int .i64 p] w fun e w' => e = .returned (.bool (okPage p)) ∧ w = w' := by
  by_cases h1 : 1 ≤ p
  · by_cases h2 : p ≤ 4095
    · have HR : Hid (okPage p = true) := decide_eq_true (by omega)
      go_enter Try.func28, Try.ntmps28
      go_wp2
      go_ret
      exact ⟨ret_b (by first | (rw [HR.out]; done) | (rw [HR.out]; simp [h2])), rfl⟩
    · have HR : Hid (okPage p = false) := decide_eq_false (by omega)
      go_enter Try.func28, Try.ntmps28
      go_wp2
      go_ret
      exact ⟨ret_b (by first | (rw [HR.out]; done) | (rw [HR.out]; simp; omega)), rfl⟩
  · have HR : Hid (okPage p = false) := decide_eq_false (by omega)
    have q1 : decide (1 ≤ p) = false := by simpa using h1
    go_enter Try.func28, Try.ntmps28
    go_wp2
    go_ret
    exact ⟨ret_b HR.out.symm, rfl⟩

/-- Where a node's parts lie. -/
structure RB where
  la : Option Addr
  ll : Nat
  lc : Nat
abbrev RB.v (m : RB) (leaf : Bool) (kid : Int) : Value := .agg #[.bool leaf, .int .i64 kid, .slice m.la m.ll m.lc]

def Pt.fair (x : Pt) : Prop := x.key.size ≤ 140737488355328 ∧ x.data.size ≤ 140737488355328 ∧ (-9223372036854775808 ≤ x.len ∧ x.len ≤ 9223372036854775807) ∧ (-9223372036854775808 ≤ x.page ∧ x.page ≤ 9223372036854775807)

structure RAt (w : World) (x : Rn) (m : RB) : Prop where
  hl : m.ll = x.l.length
  cap : m.ll ≤ m.lc
  max : m.ll ≤ 140737488355328
  arr : Arr w.heap.size w m.la (cellsP x.l)
  kid : -9223372036854775808 ≤ x.kid ∧ x.kid ≤ 9223372036854775807
  fair : ∀ p ∈ x.l, p.fair

theorem RAt.later {w w' : World} {x : Rn} {m : RB} (h : RAt w x m) (hb : Below w.heap.size w w') : RAt w' x m :=
  ⟨h.hl, h.cap, h.max, h.arr.later (N := 0) hb, h.kid, h.fair⟩

open Classical in
theorem Rn.ok_yes {n : Rn} (h : n.Ok) : n.ok = true := decide_eq_true h
open Classical in
theorem Rn.ok_no {n : Rn} (h : ¬ n.Ok) : n.ok = false := decide_eq_false h
open Classical in
theorem Rn.ok_true {n : Rn} (h : n.ok = true) : n.Ok := by simpa [Rn.ok] using h

/-- Is this part of the node right, by itself? -/
def Pt.okK (leaf : Bool) (x : Pt) : Bool := if leaf then x.okL else x.okI

/-- The parts so far are right. -/
def Upto (n : Rn) (k : Nat) : Prop := KeysOk ((n.l.map Pt.key).take k) ∧ ∀ x ∈ n.l.take k, x.okK n.leaf = true

theorem Upto.step {n : Rn} {k : Nat} {x : Pt} (h : Upto n k) (hx : n.l[k]? = some x) (h1 : x.key.size ≤ 100) (h2 : 0 < k → ∀ p, n.l[k - 1]? = some p → lessK p.key x.key = true) (h3 : x.okK n.leaf = true) : Upto n (k + 1) := by
  obtain ⟨hk, hxe⟩ := List.getElem?_eq_some_iff.1 hx
  refine ⟨KeysOk.succ h.1 (by rw [List.length_map]; exact hk) (by rw [List.getElem_map, hxe]; exact h1) (fun h0 p hp => ?_), fun y hy => ?_⟩
  · rw [List.getElem_map, hxe]
    rw [List.getElem?_map] at hp
    cases hq : n.l[k - 1]? with
    | none => rw [hq] at hp; simp at hp
    | some q =>
      rw [hq] at hp
      simp at hp
      subst hp
      exact h2 h0 q hq
  · rw [(show n.l.take (k + 1) = n.l.take k ++ [x] by rw [List.take_add_one, hx]; rfl)] at hy
    rcases List.mem_append.1 hy with hy | hy
    · exact h.2 y hy
    · simp at hy; subst hy; exact h3
theorem Upto.all {n : Rn} {k : Nat} (h : Upto n k) (hk : n.l.length ≤ k) (h0 : if n.leaf then n.kid = 0 else n.l ≠ [] ∧ okPage n.kid = true) : n.Ok := by
  obtain ⟨h1, h2⟩ := h
  rw [List.take_of_length_le (by rw [List.length_map]; omega)] at h1
  rw [List.take_of_length_le hk] at h2
  refine ⟨h1, ?_⟩
  cases hl : n.leaf with
  | true => rw [hl] at h0 h2; exact ⟨h0, h2⟩
  | false => rw [hl] at h0 h2; exact ⟨h0.1, h0.2, h2⟩
theorem bad_len {n : Rn} {k : Nat} {x : Pt} (hx : n.l[k]? = some x) (h : ¬ x.key.size ≤ 100) : ¬ n.Ok := fun H => h (H.key hx)
theorem bad_kind {n : Rn} {k : Nat} {x : Pt} (hx : n.l[k]? = some x) (h : x.okK n.leaf = false) : ¬ n.Ok := fun H => by
  have hm := List.mem_of_getElem? hx
  cases hl : n.leaf with
  | true => rw [hl] at h; have := H.okL hl hm; unfold Pt.okK at h; simp [this] at h
  | false => rw [hl] at h; have := H.okI hl hm; unfold Pt.okK at h; simp [this] at h
theorem bad_order {n : Rn} {k : Nat} {x p : Pt} (hx : n.l[k]? = some x) (hp : n.l[k - 1]? = some p) (h0 : 0 < k) (h : lessK p.key x.key = false) : ¬ n.Ok := fun H => by
  have := (H.1 k x.key (by rw [List.getElem?_map, hx]; rfl)).2 h0 p.key (by rw [List.getElem?_map, hp]; rfl)
  rw [h] at this; cases this

/-- How a part of a leaf can be. -/
theorem leaf_ways (x : Pt) : (x.len < 0 ∧ x.okL = false) ∨ (¬ x.len < 0 ∧ 8192 < x.len ∧ x.okL = false) ∨
    (¬ x.len < 0 ∧ ¬ 8192 < x.len ∧ x.len ≤ 120 ∧ (x.data.size : Int) ≠ x.len ∧ x.okL = false) ∨ (¬ x.len < 0 ∧ ¬ 8192 < x.len ∧ x.len ≤ 120 ∧ (x.data.size : Int) = x.len ∧ x.page ≠ 0 ∧ x.okL = false) ∨
    (¬ x.len < 0 ∧ ¬ 8192 < x.len ∧ x.len ≤ 120 ∧ (x.data.size : Int) = x.len ∧ x.page = 0 ∧ x.okL = true) ∨
    (¬ x.len < 0 ∧ ¬ 8192 < x.len ∧ ¬ x.len ≤ 120 ∧ x.data.size ≠ 0 ∧ x.okL = false) ∨ (¬ x.len < 0 ∧ ¬ 8192 < x.len ∧ ¬ x.len ≤ 120 ∧ x.data.size = 0 ∧ x.okL = okPage x.page) := by
  obtain ⟨key, len, data, page⟩ := x
  unfold Pt.okL Cl.ok okPage
  simp only
  by_cases h1 : len < 0
  · exact .inl ⟨h1, decide_eq_false (by omega)⟩
  · by_cases h2 : 8192 < len
    · exact .inr (.inl ⟨h1, h2, decide_eq_false (by omega)⟩)
    · by_cases h3 : len ≤ 120
      · by_cases h4 : (data.size : Int) = len
        · by_cases h5 : page = 0
          · exact .inr (.inr (.inr (.inr (.inl ⟨h1, h2, h3, h4, h5, decide_eq_true (by omega)⟩))))
          · exact .inr (.inr (.inr (.inl ⟨h1, h2, h3, h4, h5, decide_eq_false (by omega)⟩)))
        · exact .inr (.inr (.inl ⟨h1, h2, h3, h4, decide_eq_false (by omega)⟩))
      · by_cases h4 : data.size = 0
        · exact .inr (.inr (.inr (.inr (.inr (.inr ⟨h1, h2, h3, h4, decide_eq_decide.2 (by omega)⟩)))))
        · exact .inr (.inr (.inr (.inr (.inr (.inl ⟨h1, h2, h3, h4, decide_eq_false (by omega)⟩)))))
theorem inner_ways (x : Pt) : (x.len ≠ 0 ∧ x.okI = false) ∨ (x.len = 0 ∧ x.data.size ≠ 0 ∧ x.okI = false) ∨ (x.len = 0 ∧ x.data.size = 0 ∧ x.okI = okPage x.page) := by
  obtain ⟨key, len, data, page⟩ := x
  unfold Pt.okI okPage
  simp only
  by_cases h1 : len = 0
  · by_cases h4 : data.size = 0
    · exact .inr (.inr ⟨h1, h4, decide_eq_decide.2 (by omega)⟩)
    · exact .inr (.inl ⟨h1, h4, decide_eq_false (by omega)⟩)
  · exact .inl ⟨h1, decide_eq_false (by omega)⟩
end Go.Proofs.Ytlcphgomhhejbaa
