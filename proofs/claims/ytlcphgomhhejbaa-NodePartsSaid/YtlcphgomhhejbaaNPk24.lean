/- Several texts of one proof, one behind the other. -/
import Derived.Test.YtlcphgomhhejbaaNPk23
set_option linter.unusedSimpArgs false
set_option linter.unusedVariables false

/- The walks of the reference's Same and of the law's same. -/
namespace Go.Proofs.Ytlcphgomhhejbaa
open Go.RowKit

@[go_sem high] theorem eqPart (s s' d d' : ByteArray) (n n' p p' : Int) (w : World) : (Op.equalIn 10000 65 (.agg #[.string s, .int .i64 n, .string d, .int .i64 p]) (.agg #[.string s', .int .i64 n', .string d', .int .i64 p'])).run Try.prog w = .ok (s.toList == s'.toList && (n == n' && (d.toList == d'.toList && p == p'))) w := by
  have hS : Try.prog.underlying 65 = some (.struct (Try.prog.fieldsOf 65)) := by kernel_rfl
  have hp : Try.prog.stoodInHeld 65 = false := by kernel_rfl
  rw [show (10000 : Nat) = 9999 + 1 from rfl, run_equalIn_agg w 9999 65 _ _ hS hp]
  simp only [Program.fieldsOf, Try.underlying65]
  go_simp
  by_cases h1 : s.toList = s'.toList <;> by_cases h2 : n = n' <;> by_cases h3 : d.toList = d'.toList <;> by_cases h4 : p = p' <;> simp [h1, h2, h3, h4]
@[go_sem] theorem eqGuardPart : Try.prog.eqGuardType Try.prog.depth 65 = false := by kernel_rfl

theorem ne_part (s s' d d' : ByteArray) (n n' p p' : Int) (h : (⟨s, n, d, p⟩ : Pt) ≠ ⟨s', n', d', p'⟩) : (s.toList == s'.toList && (n == n' && (d.toList == d'.toList && p == p'))) = false := by
  rw [Bool.eq_false_iff]
  intro hb
  simp only [Bool.and_eq_true, beq_iff_eq] at hb
  obtain ⟨h1, rfl, h2, rfl⟩ := hb
  exact h (by rw [toList_inj h1, toList_inj h2])

set_option maxRecDepth 100000 in
set_option maxHeartbeats 4000000 in
theorem rSame_any (x y : Rn) (m m' : RB) (w : World) (h : RAt w x m) (h' : RAt w y m') :
    Calls Try.prog 21 #[m.v x.leaf x.kid, m'.v y.leaf y.kid] w fun e w' => e = .returned (.bool (decide (x = y))) ∧ Below w.heap.size w w' := by
  have HB0 : Hid (Below w.heap.size w ((w.alloc (.cells #[.bool x.leaf, .int .i64 x.kid, .slice m.la m.ll m.lc] 32)).alloc (.cells #[.bool y.leaf, .int .i64 y.kid, .slice m'.la m'.ll m'.lc] 32))) := ((Below.refl _ w).alloc (Nat.le_refl _) _).alloc (by simp) _
  have HBx : Hid (Blk ((w.alloc (.cells #[.bool x.leaf, .int .i64 x.kid, .slice m.la m.ll m.lc] 32)).alloc (.cells #[.bool y.leaf, .int .i64 y.kid, .slice m'.la m'.ll m'.lc] 32)) w.heap.size 32 #[.bool x.leaf, .int .i64 x.kid, .slice m.la m.ll m.lc]) := (Blk.new w _ _).alloc _
  have HBy : Hid (Blk ((w.alloc (.cells #[.bool x.leaf, .int .i64 x.kid, .slice m.la m.ll m.lc] 32)).alloc (.cells #[.bool y.leaf, .int .i64 y.kid, .slice m'.la m'.ll m'.lc] 32)) (w.heap.size + 1) 32 #[.bool y.leaf, .int .i64 y.kid, .slice m'.la m'.ll m'.lc]) := by
    have h1 := Blk.new (w.alloc (.cells #[.bool x.leaf, .int .i64 x.kid, .slice m.la m.ll m.lc] 32)) 32 #[.bool y.leaf, .int .i64 y.kid, .slice m'.la m'.ll m'.lc]
    have e : (w.alloc (.cells #[.bool x.leaf, .int .i64 x.kid, .slice m.la m.ll m.lc] 32)).heap.size = w.heap.size + 1 := by simp
    rw [e] at h1
    exact h1
  have HA := Lib.hid h.arr
  have HA' := Lib.hid h'.arr
  have HL := Lib.hid h.hl
  have HL' := Lib.hid h'.hl
  have hmax := h.max
  have hmax' := h'.max
  have hk := h.kid
  have hk' := h'.kid
  have HD : Hid (decide (x = y) = (x.leaf == y.leaf && (x.kid == y.kid && decide (x.l = y.l)))) := by
    show _ = _
    obtain ⟨a, b, c⟩ := x
    obtain ⟨a', b', c'⟩ := y
    rw [Bool.eq_iff_iff]
    simp
  clear h h'
  rw [HD.out]
  obtain ⟨xf, xk, l⟩ := x
  obtain ⟨yf, yk, l'⟩ := y
  obtain ⟨la, ll, lc⟩ := m
  obtain ⟨la', ll', lc'⟩ := m'
  simp only at *
  clear HD
  have hways : (xf ≠ yf) ∨ (xf = yf ∧ xk ≠ yk) ∨ (xf = yf ∧ xk = yk ∧ ll ≠ ll') ∨ (xf = yf ∧ xk = yk ∧ ll = ll') := by
    by_cases h1 : xf = yf <;> by_cases h2 : xk = yk <;> by_cases h3 : ll = ll' <;> simp [h1, h2, h3]
  rcases hways with h1 | ⟨rfl, h2⟩ | ⟨rfl, rfl, h3⟩ | ⟨rfl, rfl, rfl⟩
  · have q : (xf != yf) = true := by simpa using h1
    have q2 : (xf == yf) = false := by simpa using h1
    go_enter Try.func21, Try.ntmps21
    go_wp2
    go_ret
    exact ⟨by rw [q2]; rfl, HB0.out⟩
  · have q : (xk != yk) = true := by simpa using h2
    have q2 : (xk == yk) = false := by simpa using h2
    go_enter Try.func21, Try.ntmps21
    go_wp2
    go_ret
    exact ⟨by rw [q2]; cases xf <;> rfl, HB0.out⟩
  · have q : ((ll : Int) != (ll' : Int)) = true := by simp; omega
    have HN : Hid (decide (l = l') = false) := decide_eq_false (by rintro rfl; exact h3 (HL.out.trans HL'.out.symm))
    go_enter Try.func21, Try.ntmps21
    go_wp2
    go_ret
    exact ⟨by rw [HN.out]; cases xf <;> simp, HB0.out⟩
  · have HE : Hid (∀ r, decide (l = l') = r → (Ending.returned (.bool r) = .returned (.bool (xf == xf && (xk == xk && decide (l = l')))))) := by
      intro r hr
      rw [hr]; simp
    have x2 : ((w.alloc (.cells #[.bool xf, .int .i64 xk, .slice la ll lc] 32)).alloc (.cells #[.bool xf, .int .i64 xk, .slice la' ll lc'] 32)).cell? ⟨w.heap.size, 2, none⟩ = some (.slice la ll lc) := HBx.out.cell 2
    go_enter Try.func21, Try.ntmps21
    go_wp2_with fail
    go_loopw [5] (fun i wr => ∃ k : Nat, k ≤ ll ∧ i = .int .i64 k ∧ Hid (l.take k = l'.take k) ∧ Hid (Below ((w.alloc (.cells #[.bool xf, .int .i64 xk, .slice la ll lc] 32)).alloc (.cells #[.bool xf, .int .i64 xk, .slice la' ll lc'] 32)).heap.size ((w.alloc (.cells #[.bool xf, .int .i64 xk, .slice la ll lc] 32)).alloc (.cells #[.bool xf, .int .i64 xk, .slice la' ll lc'] 32)) wr)) (fun i _ => ll - (intOf i).toNat)
    case atStart => exact ⟨0, by omega, rfl, by simp [Hid], Below.refl _ _⟩
    case round =>
      obtain ⟨k, hk, rfl, HI, HBr⟩ := hrel
      have hwr : Hid (Below w.heap.size w wr) := HB0.out.trans (Below.mono HBr.out HB0.out.size)
      have x2 : wr.cell? ⟨w.heap.size, 2, none⟩ = some (.slice la ll lc) := (HBx.out.bel HBr.out HBx.out.lt).cell 2
      by_cases hlt : k < ll
      · have hkl : k < l.length := by have := HL.out; omega
        have hkm : k < l'.length := by have := HL'.out; omega
        obtain ⟨b, o, rfl, hbN, c0, c1, c2, c3⟩ := partAt HA.out hkl
        obtain ⟨b', o', rfl, hbN', g0, g1, g2, g3⟩ := partAt HA'.out hkm
        have HT : Hid (l[k] = l'[k] → l.take (k + 1) = l'.take (k + 1)) := fun h => take_stepG hkl hkm HI.out h
        have HF : Hid (l[k] ≠ l'[k] → decide (l = l') = false) := fun h => decide_eq_false (ne_of_getG hkl hkm h)
        have D : Hid (∀ W, Later wr.drew W → (W.cell? ⟨w.heap.size, 2, none⟩ = some (.slice (some ⟨b, o, none⟩) ll lc) ∧ W.cell? ⟨w.heap.size + 1, 2, none⟩ = some (.slice (some ⟨b', o', none⟩) ll lc')) ∧ (W.cell? ⟨b, o + k * 4, none⟩ = some (.string l[k].key) ∧ W.cell? ⟨b, o + k * 4 + 1, none⟩ = some (.int .i64 l[k].len) ∧ W.cell? ⟨b, o + k * 4 + 2, none⟩ = some (.string l[k].data) ∧ W.cell? ⟨b, o + k * 4 + 3, none⟩ = some (.int .i64 l[k].page)) ∧ (W.cell? ⟨b', o' + k * 4, none⟩ = some (.string l'[k].key) ∧ W.cell? ⟨b', o' + k * 4 + 1, none⟩ = some (.int .i64 l'[k].len) ∧ W.cell? ⟨b', o' + k * 4 + 2, none⟩ = some (.string l'[k].data) ∧ W.cell? ⟨b', o' + k * 4 + 3, none⟩ = some (.int .i64 l'[k].page))) := by
          intro W hW
          have h1 := Later.trans HBr.out (Later.undrew hW)
          have h2 : Below w.heap.size w W := HB0.out.trans (Below.mono h1 HB0.out.size)
          exact ⟨⟨(HBx.out.bel h1 HBx.out.lt).cell 2, (HBy.out.bel h1 HBy.out.lt).cell 2⟩, ⟨(h2.cell (p := ⟨b, _, none⟩) hbN).trans c0, (h2.cell (p := ⟨b, _, none⟩) hbN).trans c1, (h2.cell (p := ⟨b, _, none⟩) hbN).trans c2, (h2.cell (p := ⟨b, _, none⟩) hbN).trans c3⟩,
            ⟨(h2.cell (p := ⟨b', _, none⟩) hbN').trans g0, (h2.cell (p := ⟨b', _, none⟩) hbN').trans g1, (h2.cell (p := ⟨b', _, none⟩) hbN').trans g2, (h2.cell (p := ⟨b', _, none⟩) hbN').trans g3⟩⟩
        clear c0 c1 c2 c3 g0 g1 g2 g3
        obtain ⟨x, hx⟩ : ∃ x, x = l[k] := ⟨_, rfl⟩
        obtain ⟨y, hy⟩ : ∃ y, y = l'[k] := ⟨_, rfl⟩
        rw [← hx] at D HT HF
        rw [← hy] at D HT HF
        clear hx hy
        obtain ⟨sk, sn, sd, sp⟩ := x
        obtain ⟨tk, tn, td, tp⟩ := y
        simp only at D
        have d0 : ∀ W, Later wr.drew W → W.cell? ⟨w.heap.size, 2, none⟩ = some (.slice (some ⟨b, o, none⟩) ll lc) := fun W h => (D.out W h).1.1
        have d1 : ∀ W, Later wr.drew W → W.cell? ⟨w.heap.size + 1, 2, none⟩ = some (.slice (some ⟨b', o', none⟩) ll lc') := fun W h => (D.out W h).1.2
        have d2 : ∀ W, Later wr.drew W → W.cell? ⟨b, o + k * 4, none⟩ = some (.string sk) := fun W h => (D.out W h).2.1.1
        have d3 : ∀ W, Later wr.drew W → W.cell? ⟨b, o + k * 4 + 1, none⟩ = some (.int .i64 sn) := fun W h => (D.out W h).2.1.2.1
        have d4 : ∀ W, Later wr.drew W → W.cell? ⟨b, o + k * 4 + 2, none⟩ = some (.string sd) := fun W h => (D.out W h).2.1.2.2.1
        have d5 : ∀ W, Later wr.drew W → W.cell? ⟨b, o + k * 4 + 3, none⟩ = some (.int .i64 sp) := fun W h => (D.out W h).2.1.2.2.2
        have d6 : ∀ W, Later wr.drew W → W.cell? ⟨b', o' + k * 4, none⟩ = some (.string tk) := fun W h => (D.out W h).2.2.1
        have d7 : ∀ W, Later wr.drew W → W.cell? ⟨b', o' + k * 4 + 1, none⟩ = some (.int .i64 tn) := fun W h => (D.out W h).2.2.2.1
        have d8 : ∀ W, Later wr.drew W → W.cell? ⟨b', o' + k * 4 + 2, none⟩ = some (.string td) := fun W h => (D.out W h).2.2.2.2.1
        have d9 : ∀ W, Later wr.drew W → W.cell? ⟨b', o' + k * 4 + 3, none⟩ = some (.int .i64 tp) := fun W h => (D.out W h).2.2.2.2.2
        have HDr : Hid (Below ((w.alloc (.cells #[.bool xf, .int .i64 xk, .slice (some ⟨b, o, none⟩) ll lc] 32)).alloc (.cells #[.bool xf, .int .i64 xk, .slice (some ⟨b', o', none⟩) ll lc'] 32)).heap.size _ wr.drew) := HBr.out.drew
        have hwr2 : Hid (Below w.heap.size w wr.drew) := hwr.out.drew
        by_cases hxy : (⟨sk, sn, sd, sp⟩ : Pt) = ⟨tk, tn, td, tp⟩
        · have HT2 := Lib.hid (HT.out hxy)
          simp only [Pt.mk.injEq] at hxy
          obtain ⟨rfl, rfl, rfl, rfl⟩ := hxy
          clear HT HF
          go_wp2_with fail
          refine wp_region_ord [(0, true), (1, true), (2, true), (3, true), (4, true), (5, true), (6, true), (7, true), (8, true), (9, true), (10, true)] (by kernel_rfl) (by kernel_rfl) (by kernel_rfl) (by kernel_rfl) ?_
          repeat (first | (refine wpO_F (v := ?_) rfl (by rfl) (fun w' hL => ?_) ?_; rotate_left; (solve | (go_simp; with_reducible rfl) | go_simp); try simp only [Act.put, List.setIfInBounds_toArray, List.set_cons_zero, List.set_cons_succ]) | (refine wpO_G rfl (by rfl) ?_; try simp only [Act.put, List.setIfInBounds_toArray, List.set_cons_zero, List.set_cons_succ]))
          refine wpO_nil ?_
          clear d0 d1 d2 d3 d4 d5 d6 d7 d8 d9
          go_wp2
          go_roundw
          case rel => exact ⟨k + 1, by omega, by go_num, HT2, HDr⟩
          case measure => simp [intOf]; omega
        · have HF2 := Lib.hid (HF.out hxy)
          have hnb := ne_part sk tk sd td sn tn sp tp hxy
          clear HT HF hxy
          go_wp2_with fail
          refine wp_region_ord [(0, true), (1, true), (2, true), (3, true), (4, true), (5, true), (6, true), (7, true), (8, true), (9, true), (10, true)] (by kernel_rfl) (by kernel_rfl) (by kernel_rfl) (by kernel_rfl) ?_
          repeat (first | (refine wpO_F (v := ?_) rfl (by rfl) (fun w' hL => ?_) ?_; rotate_left; (solve | (go_simp; with_reducible rfl) | go_simp); try simp only [Act.put, List.setIfInBounds_toArray, List.set_cons_zero, List.set_cons_succ]) | (refine wpO_G rfl (by rfl) ?_; try simp only [Act.put, List.setIfInBounds_toArray, List.set_cons_zero, List.set_cons_succ]))
          refine wpO_nil ?_
          clear d0 d1 d2 d3 d4 d5 d6 d7 d8 d9
          go_wp2
          go_ret
          exact ⟨HE.out false HF2.out, hwr2.out⟩
      · have hall : l = l' := by
          have h1 : l.take k = l := List.take_of_length_le (by have := HL.out; omega)
          have h2 : l'.take k = l' := List.take_of_length_le (by have := HL'.out; omega)
          have := HI.out
          rw [h1, h2] at this; exact this
        have HA2 : Hid (decide (l = l') = true) := decide_eq_true hall
        clear hall
        go_wp2
        go_ret
        exact ⟨HE.out true HA2.out, hwr.out⟩
end Go.Proofs.Ytlcphgomhhejbaa

/- Both ways of halving tell the same; the walk of the law's same. -/
namespace Go.Proofs.Ytlcphgomhhejbaa
open Go.RowKit

theorem asN_keys (x : Rn) : x.asN.keys = x.l.map Pt.key := by
  unfold Rn.asN
  cases x.leaf <;> rfl
theorem partA_eq (x : Rn) (i : Nat) : partN x.asN 0 i = (halfA x i).asN := by
  unfold partN halfA
  rw [asN_leaf]
  unfold Rn.asN
  cases hl : x.leaf with
  | true => simp
  | false => simp
theorem partB_eq (x : Rn) (i : Nat) (p : Pt) (hp : x.l[i]? = some p) : partN x.asN (i + movedR x) x.l.length = (halfB x i p).asN := by
  have hil := (List.getElem?_eq_some_iff.1 hp).1
  unfold partN halfB movedR
  rw [asN_leaf]
  unfold Rn.asN
  cases hl : x.leaf with
  | true =>
    simp only [if_true, Nat.add_zero, List.map_drop, Nd.mk.injEq, true_and, and_true]
    refine ⟨?_, ?_⟩
    · rw [List.take_of_length_le]; simp
    · rw [List.take_of_length_le]; simp
  | false =>
    simp only [Bool.false_eq_true, if_false, List.map_drop, Nd.mk.injEq, true_and, List.drop_succ_cons]
    refine ⟨?_, ?_⟩
    · rw [List.take_of_length_le]; simp
    · rw [List.take_of_length_le (by simp)]
      have h1 : (x.l.map Pt.page)[i]? = some p.page := by rw [List.getElem?_map, hp]; rfl
      obtain ⟨h2, h3⟩ := List.getElem?_eq_some_iff.1 h1
      rw [List.drop_eq_getElem_cons h2, h3]
theorem halfA_plain {x : Rn} (h : x.plain) (i : Nat) : (halfA x i).plain := by
  unfold Rn.plain halfA at *
  cases hl : x.leaf with
  | true => rw [hl] at h; simpa using h
  | false => rw [hl] at h; simp only [Bool.false_eq_true, if_false] at h ⊢; exact fun p hp => h p (List.mem_of_mem_take hp)
theorem halfB_plain {x : Rn} (h : x.plain) (i : Nat) (p : Pt) : (halfB x i p).plain := by
  unfold halfB
  cases hl : x.leaf with
  | true => simp [Rn.plain]
  | false =>
    unfold Rn.plain at h
    rw [hl] at h
    simp only [Bool.false_eq_true, if_false] at h
    simp only [Bool.false_eq_true, if_false, Rn.plain]
    exact fun q hq => h q (List.mem_of_mem_drop hq)

theorem partN_keys (n : Nd) (i j : Nat) : (partN n i j).keys.length ≤ n.keys.length := by
  have : (partN n i j).keys = (n.keys.drop i).take (j - i) := by unfold partN; cases n.leaf <;> rfl
  rw [this, List.length_take, List.length_drop]
  omega
/-- What both halvings tell of one node. -/
theorem halves_eq {n : Nd} {a b : Nd} {k : ByteArray} {c d : Rn} {l : ByteArray} (hs : n.shaped = true) (h : IsHalf n a k b) (h' : IsRHalf n.asR c l d) :
    (a = zeroN ∧ k = ⟨#[]⟩ ∧ b = zeroN ∧ c = zeroR ∧ l = ⟨#[]⟩ ∧ d = zeroR) ∨
    (n.asR.ok = true ∧ c.l ≠ [] ∧ a.shaped = true ∧ a.asR = c ∧ k = l ∧ b.shaped = true ∧ b.asR = d ∧ a.keys.length ≤ n.keys.length ∧ b.keys.length ≤ n.keys.length) := by
  have hok := ok_iff n
  have hnn := (asN_asR hs).1
  have hpl := (asN_asR hs).2
  have hkeys : n.keys = n.asR.l.map Pt.key := by
    conv => lhs; rw [← hnn]
    exact asN_keys _
  have hlen : n.keys.length = n.asR.l.length := by rw [hkeys, List.length_map]
  have hmv : movedN n = movedR n.asR := by unfold movedN movedR; rw [asR_leaf]
  rcases h with ⟨hno, rfl, rfl, rfl⟩ | ⟨ho, hl2, i, hi, rfl, hk, rfl⟩
  · rcases h' with ⟨_, rfl, rfl, rfl⟩ | ⟨ho', hl', _⟩
    · exact .inl ⟨rfl, rfl, rfl, rfl, rfl, rfl⟩
    · exact absurd ⟨hok.2 ⟨hs, ho'⟩, by rw [hmv, hlen]; exact hl'⟩ hno
  · rcases h' with ⟨hno', _⟩ | ⟨ho', hl', i', p, hi', rfl, hp, rfl, rfl⟩
    · exact absurd ⟨(hok.1 ho).2, by rw [← hmv, ← hlen]; exact hl2⟩ hno'
    · right
      rw [hmv, hlen] at hi
      have hii := hi.uniq hi'
      subst hii
      have hbd := hi.bd
      have hA := partA_eq n.asR i
      rw [hnn] at hA
      have hB := partB_eq n.asR i p hp
      rw [hnn] at hB
      have hpA := asR_asN (halfA_plain hpl i)
      have hpB := asR_asN (halfB_plain hpl i p)
      refine ⟨Rn.ok_yes ho', ?_, by rw [hA]; exact hpA.2, by rw [hA]; exact hpA.1, ?_, by rw [hmv, hlen, hB]; exact hpB.2, by rw [hmv, hlen, hB]; exact hpB.1, partN_keys _ _ _, partN_keys _ _ _⟩
      · intro h0
        have h1 : (halfA n.asR i).l.length = 0 := by rw [h0]; rfl
        unfold halfA at h1
        simp only [List.length_take] at h1
        omega
      · rw [hkeys, List.getElem?_map, hp] at hk
        exact (Option.some.inj hk).symm
end Go.Proofs.Ytlcphgomhhejbaa

/- The walks of node.Find and node.Way, and of the reference's. -/
namespace Go.Proofs.Ytlcphgomhhejbaa
open Go.RowKit

/-- How many there are. -/
def cntL (p : ByteArray → Bool) (l : List ByteArray) : Nat := (l.filter p).length
theorem cntL_take (p : ByteArray → Bool) (l : List ByteArray) (k : Nat) (y : ByteArray) (h : l[k]? = some y) : cntL p (l.take (k + 1)) = cntL p (l.take k) + (if p y then 1 else 0) := by
  unfold cntL
  rw [List.take_add_one, h, Option.toList_some, List.filter_append, List.length_append]
  cases hp : p y <;> simp [List.filter_cons, hp]
theorem cntL_le (p : ByteArray → Bool) (l : List ByteArray) (k : Nat) : cntL p (l.take k) ≤ k := by
  unfold cntL
  exact Nat.le_trans (List.length_filter_le _ _) (List.length_take_le _ _)
def leqK (k key : ByteArray) : Bool := Op.bytesLess k.toList key.toList || k.toList == key.toList

/-- Where a key is first, or that it is nowhere. -/
def IsIdx (l : List ByteArray) (key : ByteArray) (r : Int) : Prop := (r = -1 ∧ key ∉ l) ∨ ∃ i : Nat, r = i ∧ l[i]? = some key
def RetIdx (w : World) (l : List ByteArray) (key : ByteArray) (e : Ending) (w' : World) : Prop := ∃ r : Int, e = .returned (.int .i64 r) ∧ IsIdx l key r ∧ w = w'

set_option maxHeartbeats 1000000 in
theorem index_any (l : List ByteArray) (key : ByteArray) (a : Option Addr) (len cap : Nat) (w : World) (hV : Arr w.heap.size w a (cellsS l)) (hlen : len = l.length) (hmax : len ≤ 140737488355328) :
    Calls Try.prog 47 #[.slice a len cap, .string key] w (RetIdx w l key) := by
  have HV := Lib.hid hV
  have HL := Lib.hid hlen
  clear hV hlen
  go_enter Try.func47, Try.ntmps47
  go_wp2
  go_loop [8] (fun i => ∃ k : Nat, k ≤ len ∧ i = .int .i64 k ∧ Hid (key ∉ l.take k)) (fun i => len - (intOf i).toNat)
  case atStart => exact ⟨0, by omega, rfl, by simp [Hid]⟩
  case round =>
    obtain ⟨k, hk, rfl, HI⟩ := hrel
    by_cases hlt : k < len
    · have hkl : k < l.length := by have := HL.out; omega
      obtain ⟨b, o, rfl, hbN, c0⟩ := strAt HV.out hkl
      have hg := List.getElem?_eq_getElem hkl
      obtain ⟨y, hy⟩ : ∃ y, y = l[k] := ⟨_, rfl⟩
      rw [← hy] at c0 hg
      clear hy
      by_cases hky : key = y
      · subst hky
        have HG := Lib.hid hg
        clear hg
        go_wp2
        go_ret
        exact ⟨k, rfl, .inr ⟨k, rfl, HG.out⟩, rfl⟩
      · have q1 : (key.toList == y.toList) = false := by rw [beq_eq_false_iff_ne]; exact fun h => hky (toList_inj h)
        have HT : Hid (key ∉ l.take (k + 1)) := by
          intro hm
          rw [List.take_add_one, hg] at hm
          rcases List.mem_append.1 hm with hm | hm
          · exact HI.out hm
          · simp at hm; exact hky hm
        clear hg hky
        go_wp2
        go_round
        case rel => exact ⟨k + 1, by omega, by go_num, HT⟩
        case measure => simp [intOf]; omega
    · go_wp2
      go_ret
      exact ⟨-1, rfl, .inl ⟨rfl, by have := HI.out; rwa [List.take_of_length_le (by have := HL.out; omega)] at this⟩, rfl⟩

theorem cntLess_clo (k key : ByteArray) (c : Nat) (w : World) (hc : w.cell? ⟨c, 0, none⟩ = some (.string key)) :
    Calls Try.prog 49 #[.string k, .pointer (some ⟨c, 0, none⟩)] w fun e w' => e = .returned (.bool (lessK k key)) ∧ w = w' := by
  unfold lessK
  go_enter Try.func49, Try.ntmps49
  go_wp2
  go_ret
  exact ⟨rfl, rfl⟩

set_option maxHeartbeats 1000000 in
theorem cntLess_any (l : List ByteArray) (key : ByteArray) (c : Nat) (a : Option Addr) (len cap : Nat) (w : World) (hc : w.cell? ⟨c, 0, none⟩ = some (.string key)) (hV : Arr w.heap.size w a (cellsS l)) (hlen : len = l.length) (hmax : len ≤ 140737488355328) :
    Calls Try.prog 48 #[.slice a len cap, .func (.func 49) #[] #[.pointer (some ⟨c, 0, none⟩)]] w fun e w' => e = .returned (.int .i64 ((cntL (lessK · key) l : Nat) : Int)) ∧ w = w' := by
  have HV := Lib.hid hV
  have HL := Lib.hid hlen
  have HT := Lib.hid (fun k y => cntL_take (lessK · key) l k y)
  have HB := Lib.hid (fun k => cntL_le (lessK · key) l k)
  have HCl := Lib.hid (fun y => cntLess_clo y key c w hc)
  clear hV hlen hc
  go_enter Try.func48, Try.ntmps48
  go_wp2
  go_loop [5, 10] (fun n i => ∃ k N : Nat, k ≤ len ∧ i = .int .i64 k ∧ n = .int .i64 (N : Int) ∧ Hid (N = cntL (lessK · key) (l.take k))) (fun _ i => len - (intOf i).toNat)
  case atStart => exact ⟨0, 0, by omega, rfl, rfl, rfl⟩
  case round =>
    obtain ⟨k, N, hk, rfl, rfl, HN⟩ := hrel
    by_cases hlt : k < len
    · have hkl : k < l.length := by have := HL.out; omega
      obtain ⟨b, o, rfl, hbN, c0⟩ := strAt HV.out hkl
      have hNk : N ≤ k := by have := HB.out k; rw [← HN.out] at this; exact this
      have HTk := Lib.hid (HT.out k _ (List.getElem?_eq_getElem hkl))
      obtain ⟨y, hy⟩ : ∃ y, y = l[k] := ⟨_, rfl⟩
      rw [← hy] at c0 HTk
      clear hy
      have hcl := HCl.out y
      obtain ⟨r, hr⟩ : ∃ r, lessK y key = r := ⟨_, rfl⟩
      rw [hr] at hcl HTk
      have HC := Lib.hid hcl
      clear hr hcl
      go_wp2_with fail
      refine HC.out.mono ?_
      rintro e w1 ⟨rfl, rfl⟩
      cases r with
      | true =>
        go_wp2
        go_round
        case rel => exact ⟨k + 1, N + 1, by omega, by go_num, by go_num, by rw [HTk.out, ← HN.out]; rfl⟩
        case measure => simp [intOf]; omega
      | false =>
        go_wp2
        go_round
        case rel => exact ⟨k + 1, N, by omega, by go_num, by go_num, by rw [HTk.out, ← HN.out]; rfl⟩
        case measure => simp [intOf]; omega
    · go_wp2
      go_ret
      exact ⟨by rw [HN.out, List.take_of_length_le (by have := HL.out; omega)]; rfl, rfl⟩

theorem cntLeq_clo (k key : ByteArray) (c : Nat) (w : World) (hc : w.cell? ⟨c, 0, none⟩ = some (.string key)) :
    Calls Try.prog 50 #[.string k, .pointer (some ⟨c, 0, none⟩)] w fun e w' => e = .returned (.bool (leqK k key)) ∧ w = w' := by
  unfold leqK
  go_enter Try.func50, Try.ntmps50
  go_wp2
  go_ret
  exact ⟨rfl, rfl⟩

set_option maxHeartbeats 1000000 in
theorem cntLeq_any (l : List ByteArray) (key : ByteArray) (c : Nat) (a : Option Addr) (len cap : Nat) (w : World) (hc : w.cell? ⟨c, 0, none⟩ = some (.string key)) (hV : Arr w.heap.size w a (cellsS l)) (hlen : len = l.length) (hmax : len ≤ 140737488355328) :
    Calls Try.prog 48 #[.slice a len cap, .func (.func 50) #[] #[.pointer (some ⟨c, 0, none⟩)]] w fun e w' => e = .returned (.int .i64 ((cntL (leqK · key) l : Nat) : Int)) ∧ w = w' := by
  have HV := Lib.hid hV
  have HL := Lib.hid hlen
  have HT := Lib.hid (fun k y => cntL_take (leqK · key) l k y)
  have HB := Lib.hid (fun k => cntL_le (leqK · key) l k)
  have HCl := Lib.hid (fun y => cntLeq_clo y key c w hc)
  clear hV hlen hc
  go_enter Try.func48, Try.ntmps48
  go_wp2
  go_loop [5, 10] (fun n i => ∃ k N : Nat, k ≤ len ∧ i = .int .i64 k ∧ n = .int .i64 (N : Int) ∧ Hid (N = cntL (leqK · key) (l.take k))) (fun _ i => len - (intOf i).toNat)
  case atStart => exact ⟨0, 0, by omega, rfl, rfl, rfl⟩
  case round =>
    obtain ⟨k, N, hk, rfl, rfl, HN⟩ := hrel
    by_cases hlt : k < len
    · have hkl : k < l.length := by have := HL.out; omega
      obtain ⟨b, o, rfl, hbN, c0⟩ := strAt HV.out hkl
      have hNk : N ≤ k := by have := HB.out k; rw [← HN.out] at this; exact this
      have HTk := Lib.hid (HT.out k _ (List.getElem?_eq_getElem hkl))
      obtain ⟨y, hy⟩ : ∃ y, y = l[k] := ⟨_, rfl⟩
      rw [← hy] at c0 HTk
      clear hy
      have hcl := HCl.out y
      obtain ⟨r, hr⟩ : ∃ r, leqK y key = r := ⟨_, rfl⟩
      rw [hr] at hcl HTk
      have HC := Lib.hid hcl
      clear hr hcl
      go_wp2_with fail
      refine HC.out.mono ?_
      rintro e w1 ⟨rfl, rfl⟩
      cases r with
      | true =>
        go_wp2
        go_round
        case rel => exact ⟨k + 1, N + 1, by omega, by go_num, by go_num, by rw [HTk.out, ← HN.out]; rfl⟩
        case measure => simp [intOf]; omega
      | false =>
        go_wp2
        go_round
        case rel => exact ⟨k + 1, N, by omega, by go_num, by go_num, by rw [HTk.out, ← HN.out]; rfl⟩
        case measure => simp [intOf]; omega
    · go_wp2
      go_ret
      exact ⟨by rw [HN.out, List.take_of_length_le (by have := HL.out; omega)]; rfl, rfl⟩

/-- What Find answers of a node with these keys. -/
def FindIs (l : List ByteArray) (key : ByteArray) (r : Nat × Bool) : Prop := (r.2 = true ∧ l[r.1]? = some key) ∨ (r.2 = false ∧ key ∉ l ∧ r.1 = cntL (lessK · key) l)
def RetFind (w : World) (l : List ByteArray) (key : ByteArray) (e : Ending) (w' : World) : Prop := ∃ r : Nat × Bool, e = .returned (.tuple #[.int .i64 (r.1 : Int), .bool r.2]) ∧ FindIs l key r ∧ Below w.heap.size w w'

set_option maxHeartbeats 1000000 in
theorem NFind_any (n : Nd) (m : NB) (key : ByteArray) (w : World) (h : NAt w n m) :
    Calls Try.prog 22 #[m.v n.leaf, .string key] w (RetFind w n.keys key) := by
  have HI := Lib.hid (fun W (hb : Below w.heap.size w W) => index_any n.keys key m.ka m.kl m.kc W (h.later hb).karr h.hk h.kmax)
  have HC := Lib.hid (fun c W (hb : Below w.heap.size w W) hc => cntLess_any n.keys key c m.ka m.kl m.kc W hc (h.later hb).karr h.hk h.kmax)
  have hkl := h.hk
  clear h
  obtain ⟨l, ks, cs, ps⟩ := n
  obtain ⟨ka, kl, kc, ca, cl, cc, da, dl, dc⟩ := m
  simp only at *
  have HK := Lib.hid hkl
  clear hkl
  have hB0 := ((Below.refl _ w).alloc (Nat.le_refl _) (.cells #[.bool l, .slice ka kl kc, .slice ca cl cc, .slice da dl dc] 26)).alloc (by simp) (.cells #[.string key] 9)
  have HB0 := Lib.hid hB0
  clear hB0
  generalize hcn : cntL (lessK · key) ks = cn at *
  have HCn := Lib.hid hcn
  clear hcn
  go_enter Try.func22, Try.ntmps22
  go_wp2_with fail
  refine (HI.out _ HB0.out).mono ?_
  rintro e w1 ⟨r, rfl, hr, rfl⟩
  rcases hr with ⟨rfl, hno⟩ | ⟨i, rfl, hi⟩
  · have HNo := Lib.hid hno
    clear hno
    go_wp2_with fail
    refine (HC.out _ _ HB0.out (by simp)).mono ?_
    rintro e w1 ⟨rfl, rfl⟩
    go_wp2
    go_ret2
    exact ⟨(cn, false), rfl, .inr ⟨rfl, HNo.out, HCn.out.symm⟩, HB0.out⟩
  · have HIi := Lib.hid hi
    clear hi
    go_wp2
    go_ret2
    exact ⟨(i, true), rfl, .inl ⟨rfl, HIi.out⟩, HB0.out⟩

set_option maxHeartbeats 1000000 in
theorem NWay_any (n : Nd) (m : NB) (key : ByteArray) (w : World) (h : NAt w n m) :
    Calls Try.prog 24 #[m.v n.leaf, .string key] w fun e w' => e = .returned (.int .i64 ((cntL (leqK · key) n.keys : Nat) : Int)) ∧ Below w.heap.size w w' := by
  have HC := Lib.hid (fun c W (hb : Below w.heap.size w W) hc => cntLeq_any n.keys key c m.ka m.kl m.kc W hc (h.later hb).karr h.hk h.kmax)
  clear h
  obtain ⟨l, ks, cs, ps⟩ := n
  obtain ⟨ka, kl, kc, ca, cl, cc, da, dl, dc⟩ := m
  simp only at *
  have hB0 := ((Below.refl _ w).alloc (Nat.le_refl _) (.cells #[.bool l, .slice ka kl kc, .slice ca cl cc, .slice da dl dc] 26)).alloc (by simp) (.cells #[.string key] 9)
  have HB0 := Lib.hid hB0
  clear hB0
  generalize cntL (leqK · key) ks = cn at *
  go_enter Try.func24, Try.ntmps24
  go_wp2_with fail
  refine (HC.out _ _ HB0.out (by simp)).mono ?_
  rintro e w1 ⟨rfl, rfl⟩
  go_wp2
  go_ret
  exact ⟨rfl, HB0.out⟩
end Go.Proofs.Ytlcphgomhhejbaa

/- The walks of the reference's Find and Way. -/
namespace Go.Proofs.Ytlcphgomhhejbaa
open Go.RowKit

/-- Where the reference's search stands or ends. -/
def Past (p : ByteArray → Bool) (l : List ByteArray) (k : Nat) : Prop := ∀ y ∈ l.take k, p y = true
theorem Past.step {p : ByteArray → Bool} {l : List ByteArray} {k : Nat} {y : ByteArray} (h : Past p l k) (hy : l[k]? = some y) (hp : p y = true) : Past p l (k + 1) := by
  intro z hz
  rw [List.take_add_one, hy] at hz
  rcases List.mem_append.1 hz with hz | hz
  · exact h z hz
  · simp at hz; subst hz; exact hp
def IsRF (l : List ByteArray) (key : ByteArray) (r : Nat × Bool) : Prop := Past (lessK · key) l r.1 ∧ ((r.1 = l.length ∧ r.2 = false) ∨ ∃ y, l[r.1]? = some y ∧ lessK y key = false ∧ r.2 = decide (y = key))
def RetRF (w : World) (l : List ByteArray) (key : ByteArray) (e : Ending) (w' : World) : Prop := ∃ r : Nat × Bool, e = .returned (.tuple #[.int .i64 (r.1 : Int), .bool r.2]) ∧ IsRF l key r ∧ Below w.heap.size w w'
def RetRW (w : World) (l : List ByteArray) (key : ByteArray) (e : Ending) (w' : World) : Prop := ∃ k : Nat, e = .returned (.int .i64 (k : Int)) ∧ Past (leqK · key) l k ∧ (k = l.length ∨ ∃ y, l[k]? = some y ∧ leqK y key = false) ∧ Below w.heap.size w w'

set_option maxRecDepth 100000 in
set_option maxHeartbeats 4000000 in
theorem rFind_any (x : Rn) (m : RB) (key : ByteArray) (w : World) (h : RAt w x m) :
    Calls Try.prog 23 #[m.v x.leaf x.kid, .string key] w (RetRF w (x.l.map Pt.key) key) := by
  have HA := Lib.hid h.arr
  have hll := h.hl
  have hmax := h.max
  clear h
  obtain ⟨leaf, kid, l⟩ := x
  obtain ⟨la, ll, lc⟩ := m
  simp only at *
  have HL := Lib.hid hll
  clear hll
  have HB := Lib.hid (Below.box w (.cells #[.bool leaf, .int .i64 kid, .slice la ll lc] 32))
  go_enter Try.func23, Try.ntmps23
  go_wp2
  go_loop [6] (fun i => ∃ k : Nat, k ≤ ll ∧ i = .int .i64 k ∧ Hid (Past (lessK · key) (l.map Pt.key) k)) (fun i => ll - (intOf i).toNat)
  case atStart => exact ⟨0, by omega, rfl, by intro y hy; simp at hy⟩
  case round =>
    obtain ⟨k, hk, rfl, HI⟩ := hrel
    have v2 : (w.alloc (.cells #[.bool leaf, .int .i64 kid, .slice la ll lc] 32)).cell? ⟨w.heap.size, 2, none⟩ = some (.slice la ll lc) := by simp
    by_cases hlt : k < ll
    · have hkl : k < l.length := by have := HL.out; omega
      obtain ⟨b, o, rfl, hbN, c0, _⟩ := partAt (HA.out.later (N := 0) HB.out) hkl
      have hg : (l.map Pt.key)[k]? = some l[k].key := by rw [List.getElem?_map, List.getElem?_eq_getElem hkl]; rfl
      generalize l[k].key = y at *
      cases hl : lessK y key with
      | true =>
        have HT := Lib.hid (HI.out.step hg hl)
        have q1 : Op.bytesLess y.toList key.toList = true := hl
        clear hg hl
        go_wp2
        go_round
        case rel => exact ⟨k + 1, by omega, by go_num, HT⟩
        case measure => simp [intOf]; omega
      | false =>
        have HE : Hid (∀ r, r = decide (y = key) → RetRF w (l.map Pt.key) key (.returned (.tuple #[.int .i64 (k : Int), .bool r])) (w.alloc (.cells #[.bool leaf, .int .i64 kid, .slice (some ⟨b, o, none⟩) ll lc] 32)).drew) := fun r hr => ⟨(k, r), rfl, ⟨HI.out, .inr ⟨y, hg, hl, hr⟩⟩, HB.out.drew⟩
        have q1 : Op.bytesLess y.toList key.toList = false := hl
        clear hg hl
        have g2 : ∀ W, Later (w.alloc (.cells #[.bool leaf, .int .i64 kid, .slice (some ⟨b, o, none⟩) ll lc] 32)).drew W → W.cell? ⟨w.heap.size, 2, none⟩ = some (.slice (some ⟨b, o, none⟩) ll lc) := fun W h => ((Later.undrew h : Below _ _ W).cell (p := ⟨w.heap.size, 2, none⟩) (by simp)).trans v2
        have g0 : ∀ W, Later (w.alloc (.cells #[.bool leaf, .int .i64 kid, .slice (some ⟨b, o, none⟩) ll lc] 32)).drew W → W.cell? ⟨b, o + k * 4, none⟩ = some (.string y) := fun W h => ((Later.undrew h : Below _ _ W).cell (p := ⟨b, o + k * 4, none⟩) hbN).trans c0
        by_cases hky : y = key
        · have q2 : (y.toList == key.toList) = true := by rw [hky]; simp
          have HE2 := Lib.hid (HE.out true (by simp [hky]))
          clear HE hky
          go_wp2_with fail
          refine wp_region_ord [(0, true), (1, true), (2, true), (3, true), (4, true), (5, true), (6, true), (7, true), (8, true), (9, true), (10, true), (11, true), (12, true), (13, true), (14, true), (15, true), (16, true), (17, true)] (by kernel_rfl) (by kernel_rfl) (by kernel_rfl) (by kernel_rfl) ?_
          repeat (first | (refine wpO_F (v := ?_) rfl (by rfl) (fun w' hL => ?_) ?_; rotate_left; (solve | (go_simp; with_reducible rfl) | go_simp); try simp only [Act.put, List.setIfInBounds_toArray, List.set_cons_zero, List.set_cons_succ]) | (refine wpO_G rfl (by rfl) ?_; try simp only [Act.put, List.setIfInBounds_toArray, List.set_cons_zero, List.set_cons_succ]))
          refine wpO_nil ?_
          clear g0 g2
          go_wp2
          go_ret2
          exact HE2.out
        · have q2 : (y.toList == key.toList) = false := by rw [beq_eq_false_iff_ne]; exact fun h => hky (toList_inj h)
          have HE2 := Lib.hid (HE.out false (by simp [hky]))
          clear HE hky
          go_wp2_with fail
          refine wp_region_ord [(0, true), (1, true), (2, true), (3, true), (4, true), (5, true), (6, true), (7, true), (8, true), (9, true), (10, true), (11, true), (12, true), (13, true), (14, true), (15, true), (16, true), (17, true)] (by kernel_rfl) (by kernel_rfl) (by kernel_rfl) (by kernel_rfl) ?_
          repeat (first | (refine wpO_F (v := ?_) rfl (by rfl) (fun w' hL => ?_) ?_; rotate_left; (solve | (go_simp; with_reducible rfl) | go_simp); try simp only [Act.put, List.setIfInBounds_toArray, List.set_cons_zero, List.set_cons_succ]) | (refine wpO_G rfl (by rfl) ?_; try simp only [Act.put, List.setIfInBounds_toArray, List.set_cons_zero, List.set_cons_succ]))
          refine wpO_nil ?_
          clear g0 g2
          go_wp2
          go_ret2
          exact HE2.out
    · have hkk : k = ll := by omega
      have HE : Hid (RetRF w (l.map Pt.key) key (.returned (.tuple #[.int .i64 (k : Int), .bool false])) (w.alloc (.cells #[.bool leaf, .int .i64 kid, .slice la ll lc] 32)).drew) := ⟨(k, false), rfl, ⟨HI.out, .inl ⟨by rw [List.length_map]; have := HL.out; simp only; omega, rfl⟩⟩, HB.out.drew⟩
      have g2 : ∀ W, Later (w.alloc (.cells #[.bool leaf, .int .i64 kid, .slice la ll lc] 32)).drew W → W.cell? ⟨w.heap.size, 2, none⟩ = some (.slice la ll lc) := fun W h => ((Later.undrew h : Below _ _ W).cell (p := ⟨w.heap.size, 2, none⟩) (by simp)).trans v2
      clear hkk
      go_wp2_with fail
      refine wp_region_ord [(0, true), (1, true), (2, true), (3, true), (4, true), (5, true), (6, true), (7, true), (8, true), (9, true), (10, true), (11, true), (12, true), (13, true), (14, true), (15, true), (16, true), (17, true)] (by kernel_rfl) (by kernel_rfl) (by kernel_rfl) (by kernel_rfl) ?_
      repeat (first | (refine wpO_F (v := ?_) rfl (by rfl) (fun w' hL => ?_) ?_; rotate_left; (solve | (go_simp; with_reducible rfl) | go_simp); try simp only [Act.put, List.setIfInBounds_toArray, List.set_cons_zero, List.set_cons_succ]) | (refine wpO_G rfl (by rfl) ?_; try simp only [Act.put, List.setIfInBounds_toArray, List.set_cons_zero, List.set_cons_succ]))
      refine wpO_nil ?_
      clear g2
      go_wp2
      go_ret2
      exact HE.out

set_option maxRecDepth 100000 in
set_option maxHeartbeats 4000000 in
theorem rWay_any (x : Rn) (m : RB) (key : ByteArray) (w : World) (h : RAt w x m) :
    Calls Try.prog 25 #[m.v x.leaf x.kid, .string key] w (RetRW w (x.l.map Pt.key) key) := by
  have HA := Lib.hid h.arr
  have hll := h.hl
  have hmax := h.max
  clear h
  obtain ⟨leaf, kid, l⟩ := x
  obtain ⟨la, ll, lc⟩ := m
  simp only at *
  have HL := Lib.hid hll
  clear hll
  have HB := Lib.hid (Below.box w (.cells #[.bool leaf, .int .i64 kid, .slice la ll lc] 32))
  go_enter Try.func25, Try.ntmps25
  go_wp2
  go_loop [5] (fun i => ∃ k : Nat, k ≤ ll ∧ i = .int .i64 k ∧ Hid (Past (leqK · key) (l.map Pt.key) k)) (fun i => ll - (intOf i).toNat)
  case atStart => exact ⟨0, by omega, rfl, by intro y hy; simp at hy⟩
  case round =>
    obtain ⟨k, hk, rfl, HI⟩ := hrel
    have v2 : (w.alloc (.cells #[.bool leaf, .int .i64 kid, .slice la ll lc] 32)).cell? ⟨w.heap.size, 2, none⟩ = some (.slice la ll lc) := by simp
    by_cases hlt : k < ll
    · have hkl : k < l.length := by have := HL.out; omega
      obtain ⟨b, o, rfl, hbN, c0, _⟩ := partAt (HA.out.later (N := 0) HB.out) hkl
      have hg : (l.map Pt.key)[k]? = some l[k].key := by rw [List.getElem?_map, List.getElem?_eq_getElem hkl]; rfl
      generalize l[k].key = y at *
      have hways : (leqK y key = true ∧ ((Op.bytesLess y.toList key.toList = true) ∨ (Op.bytesLess y.toList key.toList = false ∧ (y.toList == key.toList) = true))) ∨ (leqK y key = false ∧ Op.bytesLess y.toList key.toList = false ∧ (y.toList == key.toList) = false) := by
        unfold leqK
        cases Op.bytesLess y.toList key.toList <;> cases (y.toList == key.toList) <;> simp
      rcases hways with ⟨hl, hw2⟩ | ⟨hl, q1, q2⟩
      · have HT := Lib.hid (HI.out.step hg hl)
        clear hg hl
        rcases hw2 with q1 | ⟨q1, q2⟩
        · go_wp2
          go_round
          case rel => exact ⟨k + 1, by omega, by go_num, HT⟩
          case measure => simp [intOf]; omega
        · go_wp2
          go_round
          case rel => exact ⟨k + 1, by omega, by go_num, HT⟩
          case measure => simp [intOf]; omega
      · have HE : Hid (RetRW w (l.map Pt.key) key (.returned (.int .i64 (k : Int))) (w.alloc (.cells #[.bool leaf, .int .i64 kid, .slice (some ⟨b, o, none⟩) ll lc] 32))) := ⟨k, rfl, HI.out, .inr ⟨y, hg, hl⟩, HB.out⟩
        clear hg hl
        go_wp2
        go_ret
        exact HE.out
    · have hkk : k = ll := by omega
      have HE : Hid (RetRW w (l.map Pt.key) key (.returned (.int .i64 (k : Int))) (w.alloc (.cells #[.bool leaf, .int .i64 kid, .slice la ll lc] 32))) := ⟨k, rfl, HI.out, .inl (by rw [List.length_map]; have := HL.out; omega), HB.out⟩
      clear hkk
      go_wp2
      go_ret
      exact HE.out
end Go.Proofs.Ytlcphgomhhejbaa
