/- Several texts of one proof, one behind the other. -/
import Derived.Test.YtlcphgomhhejbaaNPk18
import Derived.IntWalk
import Derived.Deep.Cut

/- The walk of the law's As, of an inner node. -/
namespace Go.Proofs.Ytlcphgomhhejbaa
open Go.RowKit

/-- Where the loop stands. -/
structure AsInvinner (w wr : World) (ka : Option Addr) (kl kc : Nat) (ca : Option Addr) (cl cc : Nat) (da : Option Addr) (dl dc : Nat) (kid : Int) (l : List Pt) (k : Nat) (la : Option Addr) (lc : Nat) : Prop where
  box : Blk wr w.heap.size 26 #[.bool false, .slice ka kl kc, .slice ca cl cc, .slice da dl dc]
  res : Blk wr (w.heap.size + 1) 32 #[.bool false, .int .i64 0, .slice none 0 0]
  out : Blk wr (w.heap.size + 1 + 1) 32 #[.bool false, .int .i64 kid, .slice la k lc]
  row : wr.ownsRow (w.heap.size + 1 + 1 + 1) 65 4 (.slice la k lc) k (cellsP (l.take k))
  bel : Below w.heap.size w wr

set_option maxRecDepth 100000 in
set_option maxHeartbeats 4000000 in
theorem as_inner (n : Nd) (m : NB) (w : World) (h : NAt w n m) (hl : n.leaf = false) (hs : n.shaped = true) (hbig : m.kl ≤ 100000000) :
    Calls Try.prog 10 #[m.v false] w (RetAs w n) := by
  obtain ⟨iP, hiP, hzP, hsP, hbP⟩ := info_parts info_part
  have HX : Hid (∀ (la : Option Addr) (lc : Nat) W, m.kl ≤ lc → lc ≤ 9223372036854775807 → Arr W.heap.size W la (cellsP n.asR.l) → Below w.heap.size w W → RetAs w n (.returned (.tuple #[.agg #[.bool false, .int .i64 n.asR.kid, .slice la m.kl lc], .bool true])) W) := by
    intro la lc W h1 h2 h3 hb
    refine ⟨n.asR, ⟨la, m.kl, lc⟩, by rw [hs, asR_leaf, hl], fun _ => rfl, ⟨?_, h1, h.kmax, h3, ?_, ?_⟩, hb⟩
    · rw [asR_len hs]; exact h.hk
    · exact asR_kidfair h hs
    · exact asR_fair h hs
  have HLen : Hid (n.asR.l.length = m.kl) := by
    show _ = _
    rw [asR_len hs, h.hk]
  have HAt := Lib.hid (part_inner hs hl)
  have HKA := Lib.hid h.karr
  have HCA := Lib.hid h.darr
  have HKF := Lib.hid (asR_fair h hs)
  have hsh := hs
  unfold Nd.shaped at hsh
  rw [hl] at hsh
  have hc := h.hc
  have hd := h.hd
  have hk := h.hk
  simp only [Bool.false_eq_true, if_false, decide_eq_true_eq] at hsh
  have e1 : m.dl = m.kl + 1 := by omega
  have e2 : m.cl = 0 := by omega
  have hlR := asR_leaf n
  rw [hl] at hlR
  obtain ⟨R, hR⟩ : ∃ R, n.asR = R := ⟨_, rfl⟩
  rw [hR] at HX HLen HAt hlR HKF
  have hkid := HAt.out.2.2.1
  obtain ⟨kid, hkd⟩ : ∃ kid, R.kid = kid := ⟨_, rfl⟩
  rw [hkd] at HX hkid
  have HKidLen := Lib.hid hd
  clear hR hkd hsh hc hd hk hs h
  obtain ⟨ka, kl, kc, ca, cl, cc, da, dl, dc⟩ := m
  simp only at *
  subst e1
  subst e2
  generalize hRR : RetAs w n = RR at *
  clear hRR
  have q1 : (((kl + 1 : Nat) : Int) != (kl : Int) + 1) = false := by simp
  obtain ⟨hkd0, hkde⟩ := List.getElem?_eq_some_iff.1 hkid
  obtain ⟨bd, od, rfl, hbdN, cd0⟩ := intAt HCA.out hkd0
  rw [hkde] at cd0
  have cd0 : w.cell? ⟨bd, od, none⟩ = some (.int .i64 kid) := cd0
  clear hkid hkde hkd0
  have hbd1 : bd < w.heap.size + 1 := by omega
  have hbd2 : bd < w.heap.size + 1 + 1 := by omega
  have HB0 : Hid (Below w.heap.size w (((w.alloc (.cells #[.bool false, .slice ka kl kc, .slice ca 0 cc, .slice (some ⟨bd, od, none⟩) (kl + 1) dc] 26)).alloc (.cells #[.bool false, .int .i64 0, .slice none 0 0] 32)).alloc (.cells #[.bool false, .int .i64 kid, .slice none 0 0] 32))) := (((Below.refl _ w).alloc (Nat.le_refl _) _).alloc (by simp) _).alloc (by simp; omega) _
  have HI0 : Hid (AsInvinner w (((w.alloc (.cells #[.bool false, .slice ka kl kc, .slice ca 0 cc, .slice (some ⟨bd, od, none⟩) (kl + 1) dc] 26)).alloc (.cells #[.bool false, .int .i64 0, .slice none 0 0] 32)).alloc (.cells #[.bool false, .int .i64 kid, .slice none 0 0] 32)) ka kl kc ca 0 cc (some ⟨bd, od, none⟩) (kl + 1) dc kid R.l 0 none 0) :=
    ⟨((Blk.new w _ _).alloc _).alloc _, (as_blks w _ _ _ _).1, (as_blks w _ _ _ _).2, World.ownsRow_nil _ _ _ _, HB0.out⟩
  clear HB0
  go_enter Try.func10, Try.ntmps10
  go_wp2_with fail
  go_loopw [5] (fun i wr => ∃ (k : Nat) (la : Option Addr) (lc : Nat), k ≤ kl ∧ i = .int .i64 k ∧ Hid (AsInvinner w wr ka kl kc ca 0 cc (some ⟨bd, od, none⟩) (kl + 1) dc kid R.l k la lc)) (fun i _ => kl - (intOf i).toNat)
  case atStart => exact ⟨0, none, 0, by omega, rfl, HI0⟩
  case round =>
    obtain ⟨k, la, lc, hk, rfl, HI⟩ := hrel
    have b0 : wr.cell? ⟨w.heap.size, 0, none⟩ = some (.bool false) := HI.out.box.cell 0
    have b1 : wr.cell? ⟨w.heap.size, 1, none⟩ = some (.slice ka kl kc) := HI.out.box.cell 1
    have hwlt : w.heap.size + 1 + 1 < wr.heap.size := HI.out.out.lt
    have hwlt0 : w.heap.size < wr.heap.size := by omega
    by_cases hlt : k < kl
    · have hkl : k < R.l.length := by have := HLen.out; omega
      have hx := List.getElem?_eq_getElem hkl
      have HXk := Lib.hid hx
      obtain ⟨hk1, hc1, hl0, hd0⟩ := HAt.out.2.2.2 k _ hx
      have hfr := HKF.out _ (List.getElem_mem hkl)
      obtain ⟨hkkl, hkke⟩ := List.getElem?_eq_some_iff.1 hk1
      obtain ⟨hccl, hcce⟩ := List.getElem?_eq_some_iff.1 hc1
      obtain ⟨b, o, rfl, hb, c0⟩ := strAt HKA.out hkkl
      obtain ⟨b2, o2, he, hb2, c1⟩ := intAt HCA.out hccl
      simp only [Option.some.injEq, Addr.mk.injEq, and_true] at he
      obtain ⟨rfl, rfl⟩ := he
      rw [hkke] at c0
      rw [hcce] at c1
      clear hx hk1 hc1 hkke hcce hkkl hccl
      obtain ⟨⟨xk, xl, xd, xp⟩, hxx⟩ : ∃ x, R.l[k] = x := ⟨_, rfl⟩
      rw [hxx] at c0 c1 HXk hfr hl0 hd0
      unfold Pt.fair at hfr
      simp only at c0 c1 hfr hl0 hd0
      subst hl0 hd0
      clear hxx
      obtain ⟨f1, f2, f3, f4⟩ := hfr
      have c0 := (HI.out.bel.cell (p := ⟨b, o + k, none⟩) hb).trans c0
      have c1 : wr.cell? ⟨bd, od + (k + 1), none⟩ = some (.int .i64 xp) := (HI.out.bel.cell (p := ⟨bd, od + (k + 1), none⟩) hb2).trans c1
      have hbw : bd < wr.heap.size := Nat.lt_of_lt_of_le hb2 HI.out.bel.size
      have b3 : wr.cell? ⟨w.heap.size, 3, none⟩ = some (.slice (some ⟨bd, od, none⟩) (kl + 1) dc) := HI.out.box.cell 3
      have hXe : Hid (∃ X, wr.alloc (.cells #[.string xk, .int .i64 0, .string ⟨#[]⟩, .int .i64 xp] 65) = X ∧ Below wr.heap.size wr X ∧ Blk X wr.heap.size 65 #[.string xk, .int .i64 0, .string ⟨#[]⟩, .int .i64 xp] ∧ X.ownsRow (w.heap.size + 1 + 1 + 1) 65 4 (.slice la k lc) k (cellsP (R.l.take k))) := ⟨_, rfl, (Below.refl _ wr).alloc (Nat.le_refl _) _, Blk.new wr _ _, World.ownsRow.alloc HI.out.row _⟩
      go_upto_region 13 with (fail)
      obtain ⟨X, hX, hXB0, hPb, hRow0⟩ := hXe.out
      rw [hX]
      have HXB := Lib.hid hXB0
      have HRow := Lib.hid hRow0
      clear hX hXB0 hRow0 hXe c1 b3
      have z0 : X.cell? ⟨wr.heap.size, 0, none⟩ = some _ := hPb.cell 0
      have z1 : X.cell? ⟨wr.heap.size, 1, none⟩ = some _ := hPb.cell 1
      have z2 : X.cell? ⟨wr.heap.size, 2, none⟩ = some _ := hPb.cell 2
      have z3 : X.cell? ⟨wr.heap.size, 3, none⟩ = some _ := hPb.cell 3
      have y2 : X.cell? ⟨w.heap.size + 1 + 1, 2, none⟩ = some (.slice la k lc) := (HI.out.out.bel HXB.out hwlt).cell 2
      have hXs : wr.heap.size < X.heap.size := hPb.lt
      have hbs : w.heap.size + 1 + 1 + 1 ≤ X.heap.size := by omega
      have HNew : Hid (∀ x6 (la2 : Option Addr) (lc2 : Nat), x6.ownsRow (w.heap.size + 1 + 1 + 1) 65 4 (.slice la2 (k + 1) lc2) (k + 1) (cellsP (R.l.take k) ++ [.string xk, .int .i64 0, .string ⟨#[]⟩, .int .i64 xp]) → Below (w.heap.size + 1 + 1 + 1) X x6 →
          AsInvinner w (x6.setCell ⟨w.heap.size + 1 + 1, 2, none⟩ (.slice la2 (k + 1) lc2)) (some ⟨b, o, none⟩) kl kc ca 0 cc (some ⟨bd, od, none⟩) (kl + 1) dc kid R.l (k + 1) la2 lc2 ∧ x6.cell? ⟨w.heap.size + 1 + 1, 2, none⟩ = some (.slice la k lc) ∧ x6.frozen? ⟨w.heap.size + 1 + 1, 2, none⟩ = false ∧ w.heap.size + 1 + 1 < x6.heap.size) := by
        intro x6 la2 lc2 hk6 hb6
        have o1 := (HI.out.out.bel HXB.out hwlt).bel hb6 (Nat.lt_succ_self _)
        have o2 := (HI.out.box.bel HXB.out hwlt0).bel hb6 (by omega)
        have o3 := (HI.out.res.bel HXB.out (by omega)).bel hb6 (by omega)
        refine ⟨⟨o2.far (by omega) _, o3.far (by omega) _, ?_, ?_, ?_⟩, o1.cell 2, o1.frozen 2, o1.lt⟩
        · have := o1.set_ 2 (.slice la2 (k + 1) lc2)
          simpa using this
        · have e : cellsP (R.l.take (k + 1)) = cellsP (R.l.take k) ++ [.string xk, .int .i64 0, .string ⟨#[]⟩, .int .i64 xp] := by
            rw [List.take_add_one, HXk.out]
            exact cellsOf_snoc _ _ _
          rw [e]
          exact ownsRow_setCell_below hk6 (Nat.lt_succ_self _) _
        · exact Below.setCell (HI.out.bel.trans ((HXB.out.mono HI.out.bel.size).trans (hb6.mono (by omega)))) (by show w.heap.size ≤ w.heap.size + 1 + 1; omega) _
      clear hPb HXB
      go_wp2_with (at_builtin; refine wpList_appN rfl (.tmp 101) (.tmp 103) 30 rfl (w.heap.size + 1 + 1 + 1) 65 iP (.agg #[.string ⟨#[]⟩, .int .i64 0, .string ⟨#[]⟩, .int .i64 0]) 4 48 Try.underlying30 hiP hzP rfl hsP (by omega) hbP (by omega) (.slice la k lc) k _ [.string xk, .int .i64 0, .string ⟨#[]⟩, .int .i64 xp] X HRow.out rfl _ rfl rfl (by simp [Value.oneCell']) rfl (by omega) hbs ?_; intro v6 x6 hk6 hb6 hs6; obtain ⟨la2, lc2, rfl, _, _, _⟩ := own_slice hk6; obtain ⟨hInv, u1, u2, u3⟩ := HNew.out x6 la2 lc2 hk6 hb6; have HInv := Lib.hid hInv; clear hInv hk6 hb6 y2 z0 z1 z2 z3)
      go_roundw
      case rel => exact ⟨k + 1, la2, lc2, by omega, by go_num, HInv⟩
      case measure => simp [intOf]; omega
    · have hkk : k = kl := by omega
      subst hkk
      obtain ⟨_, _, e1, g1, g2, harr⟩ := own_slice HI.out.row
      simp only [Value.slice.injEq, true_and] at e1
      obtain ⟨rfl, rfl⟩ := e1
      have hfar := own_far HI.out.row
      rw [List.take_of_length_le (by have := HLen.out; omega)] at harr hfar
      have r0 : wr.cell? ⟨w.heap.size + 1, 0, none⟩ = some (.bool false) := HI.out.res.cell 0
      have r1 : wr.cell? ⟨w.heap.size + 1, 1, none⟩ = some (.int .i64 0) := HI.out.res.cell 1
      have r2 : wr.cell? ⟨w.heap.size + 1, 2, none⟩ = some (.slice none 0 0) := HI.out.res.cell 2
      have f0 := HI.out.res.frozen 0
      have f1 := HI.out.res.frozen 1
      have f2 := HI.out.res.frozen 2
      have o0 : wr.cell? ⟨w.heap.size + 1 + 1, 0, none⟩ = some (.bool false) := HI.out.out.cell 0
      have o1 : wr.cell? ⟨w.heap.size + 1 + 1, 1, none⟩ = some (.int .i64 kid) := HI.out.out.cell 1
      have o2 : wr.cell? ⟨w.heap.size + 1 + 1, 2, none⟩ = some (.slice la k lc) := HI.out.out.cell 2
      have hwlt1 : w.heap.size + 1 < wr.heap.size := by omega
      have HFin : Hid (∀ v0 v1 v2, RR (.returned (.tuple #[.agg #[.bool false, .int .i64 kid, .slice la k lc], .bool true])) (((wr.setCell ⟨w.heap.size + 1, 0, none⟩ v0).setCell ⟨w.heap.size + 1, 1, none⟩ v1).setCell ⟨w.heap.size + 1, 2, none⟩ v2)) := by
        intro v0 v1 v2
        have hlt2 : w.heap.size + 1 < w.heap.size + 1 + 1 + 1 := by omega
        refine HX.out la lc _ g1 g2 (((harr.set_far hfar hlt2).set_far hfar hlt2).set_far hfar hlt2) ?_
        refine Below.setCell (Below.setCell (Below.setCell HI.out.bel ?_ _) ?_ _) ?_ _ <;> exact Nat.le_succ _
      clear harr hfar
      go_wp2
      refine bodyPost_ret (v := .tuple #[.agg #[.bool false, .int .i64 kid, .slice la k lc], .bool true]) (by simp [results, Try.results10, go_sem, r0, r1, r2, hwlt1]) rfl (HFin.out _ _ _)
end Go.Proofs.Ytlcphgomhhejbaa

/- The law's As, of any node. -/
namespace Go.Proofs.Ytlcphgomhhejbaa
open Go.RowKit
theorem NAs_any (n : Nd) (m : NB) (w : World) (h : NAt w n m) (hbig : m.kl ≤ 100000000) :
    Calls Try.prog 10 #[m.v n.leaf] w (RetAs w n) := by
  cases hs : n.shaped with
  | false => exact as_no n m w h hs
  | true =>
    cases hl : n.leaf with
    | true => exact as_leaf n m w h hl hs hbig
    | false => exact as_inner n m w h hl hs hbig
end Go.Proofs.Ytlcphgomhhejbaa

/- The walks of the reference's Same and of the law's same. -/
namespace Go.Proofs.Ytlcphgomhhejbaa
open Go.RowKit

@[go_sem high] theorem eqPart (s s' d d' : ByteArray) (n n' p p' : Int) (w : World) : (Op.equalIn 10000 65 (.agg #[.string s, .int .i64 n, .string d, .int .i64 p]) (.agg #[.string s', .int .i64 n', .string d', .int .i64 p'])).run Try.prog w = .ok (s.toList == s'.toList && (n == n' && (d.toList == d'.toList && p == p'))) w := by
  have hS : Try.prog.underlying 65 = some (.struct (Try.prog.fieldsOf 65)) := by kernel_rfl
  have hp : Try.prog.stoodInHeld 65 = false := by kernel_rfl
  rw [show (10000 : Nat) = 9999 + 1 from rfl, run_equalIn_agg w 9999 65 _ _ hS hp]
  simp only [Program.fieldsOf, Try.underlying65]
  go_simp
  by_cases h1 : s.toList = s'.toList <;> by_cases h2 : n = n' <;> by_cases h3 : d.toList = d'.toList <;> by_cases h4 : p = p' <;> simp [h1, h2, h3, h4]
@[go_sem] theorem eqGuardPart : Try.prog.eqGuardType Try.prog.depth 65 = false := by kernel_rfl

theorem ne_part (s s' d d' : ByteArray) (n n' p p' : Int) (h : (⟨s, n, d, p⟩ : Pt) ≠ ⟨s', n', d', p'⟩) : (s.toList == s'.toList && (n == n' && (d.toList == d'.toList && p == p'))) = false := by
  rw [Bool.eq_false_iff]
  intro hb
  simp only [Bool.and_eq_true, beq_iff_eq] at hb
  obtain ⟨h1, rfl, h2, rfl⟩ := hb
  exact h (by rw [toList_inj h1, toList_inj h2])

set_option maxRecDepth 100000 in
set_option maxHeartbeats 4000000 in
theorem rSame_any (x y : Rn) (m m' : RB) (w : World) (h : RAt w x m) (h' : RAt w y m') :
    Calls Try.prog 21 #[m.v x.leaf x.kid, m'.v y.leaf y.kid] w fun e w' => e = .returned (.bool (decide (x = y))) ∧ Below w.heap.size w w' := by
  have HB0 : Hid (Below w.heap.size w ((w.alloc (.cells #[.bool x.leaf, .int .i64 x.kid, .slice m.la m.ll m.lc] 32)).alloc (.cells #[.bool y.leaf, .int .i64 y.kid, .slice m'.la m'.ll m'.lc] 32))) := ((Below.refl _ w).alloc (Nat.le_refl _) _).alloc (by simp) _
  have HBx : Hid (Blk ((w.alloc (.cells #[.bool x.leaf, .int .i64 x.kid, .slice m.la m.ll m.lc] 32)).alloc (.cells #[.bool y.leaf, .int .i64 y.kid, .slice m'.la m'.ll m'.lc] 32)) w.heap.size 32 #[.bool x.leaf, .int .i64 x.kid, .slice m.la m.ll m.lc]) := (Blk.new w _ _).alloc _
  have HBy : Hid (Blk ((w.alloc (.cells #[.bool x.leaf, .int .i64 x.kid, .slice m.la m.ll m.lc] 32)).alloc (.cells #[.bool y.leaf, .int .i64 y.kid, .slice m'.la m'.ll m'.lc] 32)) (w.heap.size + 1) 32 #[.bool y.leaf, .int .i64 y.kid, .slice m'.la m'.ll m'.lc]) := by
    have h1 := Blk.new (w.alloc (.cells #[.bool x.leaf, .int .i64 x.kid, .slice m.la m.ll m.lc] 32)) 32 #[.bool y.leaf, .int .i64 y.kid, .slice m'.la m'.ll m'.lc]
    have e : (w.alloc (.cells #[.bool x.leaf, .int .i64 x.kid, .slice m.la m.ll m.lc] 32)).heap.size = w.heap.size + 1 := by simp
    rw [e] at h1
    exact h1
  have HA := Lib.hid h.arr
  have HA' := Lib.hid h'.arr
  have HL := Lib.hid h.hl
  have HL' := Lib.hid h'.hl
  have hmax := h.max
  have hmax' := h'.max
  have hk := h.kid
  have hk' := h'.kid
  have HD : Hid (decide (x = y) = (x.leaf == y.leaf && (x.kid == y.kid && decide (x.l = y.l)))) := by
    show _ = _
    obtain ⟨a, b, c⟩ := x
    obtain ⟨a', b', c'⟩ := y
    rw [Bool.eq_iff_iff]
    simp
  clear h h'
  rw [HD.out]
  obtain ⟨xf, xk, l⟩ := x
  obtain ⟨yf, yk, l'⟩ := y
  obtain ⟨la, ll, lc⟩ := m
  obtain ⟨la', ll', lc'⟩ := m'
  simp only at *
  clear HD
  have hways : (xf ≠ yf) ∨ (xf = yf ∧ xk ≠ yk) ∨ (xf = yf ∧ xk = yk ∧ ll ≠ ll') ∨ (xf = yf ∧ xk = yk ∧ ll = ll') := by
    by_cases h1 : xf = yf <;> by_cases h2 : xk = yk <;> by_cases h3 : ll = ll' <;> simp [h1, h2, h3]
  rcases hways with h1 | ⟨rfl, h2⟩ | ⟨rfl, rfl, h3⟩ | ⟨rfl, rfl, rfl⟩
  · have q : (xf != yf) = true := by simpa using h1
    have q2 : (xf == yf) = false := by simpa using h1
    go_enter Try.func21, Try.ntmps21
    go_wp2
    go_ret
    exact ⟨by rw [q2]; rfl, HB0.out⟩
  · have q : (xk != yk) = true := by simpa using h2
    have q2 : (xk == yk) = false := by simpa using h2
    go_enter Try.func21, Try.ntmps21
    go_wp2
    go_ret
    exact ⟨by rw [q2]; cases xf <;> rfl, HB0.out⟩
  · have q : ((ll : Int) != (ll' : Int)) = true := by simp; omega
    have HN : Hid (decide (l = l') = false) := decide_eq_false (by rintro rfl; exact h3 (HL.out.trans HL'.out.symm))
    go_enter Try.func21, Try.ntmps21
    go_wp2
    go_ret
    exact ⟨by rw [HN.out]; cases xf <;> simp, HB0.out⟩
  · have HE : Hid (∀ r, decide (l = l') = r → (Ending.returned (.bool r) = .returned (.bool (xf == xf && (xk == xk && decide (l = l')))))) := by
      intro r hr
      rw [hr]; simp
    have x2 : ((w.alloc (.cells #[.bool xf, .int .i64 xk, .slice la ll lc] 32)).alloc (.cells #[.bool xf, .int .i64 xk, .slice la' ll lc'] 32)).cell? ⟨w.heap.size, 2, none⟩ = some (.slice la ll lc) := HBx.out.cell 2
    go_enter Try.func21, Try.ntmps21
    go_wp2_with fail
    go_loopw [5] (fun i wr => ∃ k : Nat, k ≤ ll ∧ i = .int .i64 k ∧ Hid (l.take k = l'.take k) ∧ Hid (Below ((w.alloc (.cells #[.bool xf, .int .i64 xk, .slice la ll lc] 32)).alloc (.cells #[.bool xf, .int .i64 xk, .slice la' ll lc'] 32)).heap.size ((w.alloc (.cells #[.bool xf, .int .i64 xk, .slice la ll lc] 32)).alloc (.cells #[.bool xf, .int .i64 xk, .slice la' ll lc'] 32)) wr)) (fun i _ => ll - (intOf i).toNat)
    case atStart => exact ⟨0, by omega, rfl, by simp [Hid], Below.refl _ _⟩
    case round =>
      obtain ⟨k, hk, rfl, HI, HBr⟩ := hrel
      have hwr : Hid (Below w.heap.size w wr) := HB0.out.trans (Below.mono HBr.out HB0.out.size)
      have x2 : wr.cell? ⟨w.heap.size, 2, none⟩ = some (.slice la ll lc) := (HBx.out.bel HBr.out HBx.out.lt).cell 2
      by_cases hlt : k < ll
      · have hkl : k < l.length := by have := HL.out; omega
        have hkm : k < l'.length := by have := HL'.out; omega
        obtain ⟨b, o, rfl, hbN, c0, c1, c2, c3⟩ := partAt HA.out hkl
        obtain ⟨b', o', rfl, hbN', g0, g1, g2, g3⟩ := partAt HA'.out hkm
        have HT : Hid (l[k] = l'[k] → l.take (k + 1) = l'.take (k + 1)) := fun h => take_stepG hkl hkm HI.out h
        have HF : Hid (l[k] ≠ l'[k] → decide (l = l') = false) := fun h => decide_eq_false (ne_of_getG hkl hkm h)
        have D : Hid (∀ W, Later wr.drew W → (W.cell? ⟨w.heap.size, 2, none⟩ = some (.slice (some ⟨b, o, none⟩) ll lc) ∧ W.cell? ⟨w.heap.size + 1, 2, none⟩ = some (.slice (some ⟨b', o', none⟩) ll lc')) ∧ (W.cell? ⟨b, o + k * 4, none⟩ = some (.string l[k].key) ∧ W.cell? ⟨b, o + k * 4 + 1, none⟩ = some (.int .i64 l[k].len) ∧ W.cell? ⟨b, o + k * 4 + 2, none⟩ = some (.string l[k].data) ∧ W.cell? ⟨b, o + k * 4 + 3, none⟩ = some (.int .i64 l[k].page)) ∧ (W.cell? ⟨b', o' + k * 4, none⟩ = some (.string l'[k].key) ∧ W.cell? ⟨b', o' + k * 4 + 1, none⟩ = some (.int .i64 l'[k].len) ∧ W.cell? ⟨b', o' + k * 4 + 2, none⟩ = some (.string l'[k].data) ∧ W.cell? ⟨b', o' + k * 4 + 3, none⟩ = some (.int .i64 l'[k].page))) := by
          intro W hW
          have h1 := Later.trans HBr.out (Later.undrew hW)
          have h2 : Below w.heap.size w W := HB0.out.trans (Below.mono h1 HB0.out.size)
          exact ⟨⟨(HBx.out.bel h1 HBx.out.lt).cell 2, (HBy.out.bel h1 HBy.out.lt).cell 2⟩, ⟨(h2.cell (p := ⟨b, _, none⟩) hbN).trans c0, (h2.cell (p := ⟨b, _, none⟩) hbN).trans c1, (h2.cell (p := ⟨b, _, none⟩) hbN).trans c2, (h2.cell (p := ⟨b, _, none⟩) hbN).trans c3⟩,
            ⟨(h2.cell (p := ⟨b', _, none⟩) hbN').trans g0, (h2.cell (p := ⟨b', _, none⟩) hbN').trans g1, (h2.cell (p := ⟨b', _, none⟩) hbN').trans g2, (h2.cell (p := ⟨b', _, none⟩) hbN').trans g3⟩⟩
        clear c0 c1 c2 c3 g0 g1 g2 g3
        obtain ⟨x, hx⟩ : ∃ x, x = l[k] := ⟨_, rfl⟩
        obtain ⟨y, hy⟩ : ∃ y, y = l'[k] := ⟨_, rfl⟩
        rw [← hx] at D HT HF
        rw [← hy] at D HT HF
        clear hx hy
        obtain ⟨sk, sn, sd, sp⟩ := x
        obtain ⟨tk, tn, td, tp⟩ := y
        simp only at D
        have d0 : ∀ W, Later wr.drew W → W.cell? ⟨w.heap.size, 2, none⟩ = some (.slice (some ⟨b, o, none⟩) ll lc) := fun W h => (D.out W h).1.1
        have d1 : ∀ W, Later wr.drew W → W.cell? ⟨w.heap.size + 1, 2, none⟩ = some (.slice (some ⟨b', o', none⟩) ll lc') := fun W h => (D.out W h).1.2
        have d2 : ∀ W, Later wr.drew W → W.cell? ⟨b, o + k * 4, none⟩ = some (.string sk) := fun W h => (D.out W h).2.1.1
        have d3 : ∀ W, Later wr.drew W → W.cell? ⟨b, o + k * 4 + 1, none⟩ = some (.int .i64 sn) := fun W h => (D.out W h).2.1.2.1
        have d4 : ∀ W, Later wr.drew W → W.cell? ⟨b, o + k * 4 + 2, none⟩ = some (.string sd) := fun W h => (D.out W h).2.1.2.2.1
        have d5 : ∀ W, Later wr.drew W → W.cell? ⟨b, o + k * 4 + 3, none⟩ = some (.int .i64 sp) := fun W h => (D.out W h).2.1.2.2.2
        have d6 : ∀ W, Later wr.drew W → W.cell? ⟨b', o' + k * 4, none⟩ = some (.string tk) := fun W h => (D.out W h).2.2.1
        have d7 : ∀ W, Later wr.drew W → W.cell? ⟨b', o' + k * 4 + 1, none⟩ = some (.int .i64 tn) := fun W h => (D.out W h).2.2.2.1
        have d8 : ∀ W, Later wr.drew W → W.cell? ⟨b', o' + k * 4 + 2, none⟩ = some (.string td) := fun W h => (D.out W h).2.2.2.2.1
        have d9 : ∀ W, Later wr.drew W → W.cell? ⟨b', o' + k * 4 + 3, none⟩ = some (.int .i64 tp) := fun W h => (D.out W h).2.2.2.2.2
        have HDr : Hid (Below ((w.alloc (.cells #[.bool xf, .int .i64 xk, .slice (some ⟨b, o, none⟩) ll lc] 32)).alloc (.cells #[.bool xf, .int .i64 xk, .slice (some ⟨b', o', none⟩) ll lc'] 32)).heap.size _ wr.drew) := HBr.out.drew
        have hwr2 : Hid (Below w.heap.size w wr.drew) := hwr.out.drew
        by_cases hxy : (⟨sk, sn, sd, sp⟩ : Pt) = ⟨tk, tn, td, tp⟩
        · have HT2 := Lib.hid (HT.out hxy)
          simp only [Pt.mk.injEq] at hxy
          obtain ⟨rfl, rfl, rfl, rfl⟩ := hxy
          clear HT HF
          go_wp2_with fail
          refine wp_region_ord [(0, true), (1, true), (2, true), (3, true), (4, true), (5, true), (6, true), (7, true), (8, true), (9, true), (10, true)] (by kernel_rfl) (by kernel_rfl) (by kernel_rfl) (by kernel_rfl) ?_
          repeat (first | (refine wpO_F (v := ?_) rfl (by rfl) (fun w' hL => ?_) ?_; rotate_left; (solve | (go_simp; with_reducible rfl) | go_simp); try simp only [Act.put, List.setIfInBounds_toArray, List.set_cons_zero, List.set_cons_succ]) | (refine wpO_G rfl (by rfl) ?_; try simp only [Act.put, List.setIfInBounds_toArray, List.set_cons_zero, List.set_cons_succ]))
          refine wpO_nil ?_
          clear d0 d1 d2 d3 d4 d5 d6 d7 d8 d9
          go_wp2
          go_roundw
          case rel => exact ⟨k + 1, by omega, by go_num, HT2, HDr⟩
          case measure => simp [intOf]; omega
        · have HF2 := Lib.hid (HF.out hxy)
          have hnb := ne_part sk tk sd td sn tn sp tp hxy
          clear HT HF hxy
          go_wp2_with fail
          refine wp_region_ord [(0, true), (1, true), (2, true), (3, true), (4, true), (5, true), (6, true), (7, true), (8, true), (9, true), (10, true)] (by kernel_rfl) (by kernel_rfl) (by kernel_rfl) (by kernel_rfl) ?_
          repeat (first | (refine wpO_F (v := ?_) rfl (by rfl) (fun w' hL => ?_) ?_; rotate_left; (solve | (go_simp; with_reducible rfl) | go_simp); try simp only [Act.put, List.setIfInBounds_toArray, List.set_cons_zero, List.set_cons_succ]) | (refine wpO_G rfl (by rfl) ?_; try simp only [Act.put, List.setIfInBounds_toArray, List.set_cons_zero, List.set_cons_succ]))
          refine wpO_nil ?_
          clear d0 d1 d2 d3 d4 d5 d6 d7 d8 d9
          go_wp2
          go_ret
          exact ⟨HE.out false HF2.out, hwr2.out⟩
      · have hall : l = l' := by
          have h1 : l.take k = l := List.take_of_length_le (by have := HL.out; omega)
          have h2 : l'.take k = l' := List.take_of_length_le (by have := HL'.out; omega)
          have := HI.out
          rw [h1, h2] at this; exact this
        have HA2 : Hid (decide (l = l') = true) := decide_eq_true hall
        clear hall
        go_wp2
        go_ret
        exact ⟨HE.out true HA2.out, hwr.out⟩
end Go.Proofs.Ytlcphgomhhejbaa

/- Both ways of halving tell the same; the walk of the law's same. -/
namespace Go.Proofs.Ytlcphgomhhejbaa
open Go.RowKit

theorem asN_keys (x : Rn) : x.asN.keys = x.l.map Pt.key := by
  unfold Rn.asN
  cases x.leaf <;> rfl
theorem partA_eq (x : Rn) (i : Nat) : partN x.asN 0 i = (halfA x i).asN := by
  unfold partN halfA
  rw [asN_leaf]
  unfold Rn.asN
  cases hl : x.leaf with
  | true => simp
  | false => simp
theorem partB_eq (x : Rn) (i : Nat) (p : Pt) (hp : x.l[i]? = some p) : partN x.asN (i + movedR x) x.l.length = (halfB x i p).asN := by
  have hil := (List.getElem?_eq_some_iff.1 hp).1
  unfold partN halfB movedR
  rw [asN_leaf]
  unfold Rn.asN
  cases hl : x.leaf with
  | true =>
    simp only [if_true, Nat.add_zero, List.map_drop, Nd.mk.injEq, true_and, and_true]
    refine ⟨?_, ?_⟩
    · rw [List.take_of_length_le]; simp
    · rw [List.take_of_length_le]; simp
  | false =>
    simp only [Bool.false_eq_true, if_false, List.map_drop, Nd.mk.injEq, true_and, List.drop_succ_cons]
    refine ⟨?_, ?_⟩
    · rw [List.take_of_length_le]; simp
    · rw [List.take_of_length_le (by simp)]
      have h1 : (x.l.map Pt.page)[i]? = some p.page := by rw [List.getElem?_map, hp]; rfl
      obtain ⟨h2, h3⟩ := List.getElem?_eq_some_iff.1 h1
      rw [List.drop_eq_getElem_cons h2, h3]
theorem halfA_plain {x : Rn} (h : x.plain) (i : Nat) : (halfA x i).plain := by
  unfold Rn.plain halfA at *
  cases hl : x.leaf with
  | true => rw [hl] at h; simpa using h
  | false => rw [hl] at h; simp only [Bool.false_eq_true, if_false] at h ⊢; exact fun p hp => h p (List.mem_of_mem_take hp)
theorem halfB_plain {x : Rn} (h : x.plain) (i : Nat) (p : Pt) : (halfB x i p).plain := by
  unfold halfB
  cases hl : x.leaf with
  | true => simp [Rn.plain]
  | false =>
    unfold Rn.plain at h
    rw [hl] at h
    simp only [Bool.false_eq_true, if_false] at h
    simp only [Bool.false_eq_true, if_false, Rn.plain]
    exact fun q hq => h q (List.mem_of_mem_drop hq)

theorem partN_keys (n : Nd) (i j : Nat) : (partN n i j).keys.length ≤ n.keys.length := by
  have : (partN n i j).keys = (n.keys.drop i).take (j - i) := by unfold partN; cases n.leaf <;> rfl
  rw [this, List.length_take, List.length_drop]
  omega
/-- What both halvings tell of one node. -/
theorem halves_eq {n : Nd} {a b : Nd} {k : ByteArray} {c d : Rn} {l : ByteArray} (hs : n.shaped = true) (h : IsHalf n a k b) (h' : IsRHalf n.asR c l d) :
    (a = zeroN ∧ k = ⟨#[]⟩ ∧ b = zeroN ∧ c = zeroR ∧ l = ⟨#[]⟩ ∧ d = zeroR) ∨
    (n.asR.ok = true ∧ c.l ≠ [] ∧ a.shaped = true ∧ a.asR = c ∧ k = l ∧ b.shaped = true ∧ b.asR = d ∧ a.keys.length ≤ n.keys.length ∧ b.keys.length ≤ n.keys.length) := by
  have hok := ok_iff n
  have hnn := (asN_asR hs).1
  have hpl := (asN_asR hs).2
  have hkeys : n.keys = n.asR.l.map Pt.key := by
    conv => lhs; rw [← hnn]
    exact asN_keys _
  have hlen : n.keys.length = n.asR.l.length := by rw [hkeys, List.length_map]
  have hmv : movedN n = movedR n.asR := by unfold movedN movedR; rw [asR_leaf]
  rcases h with ⟨hno, rfl, rfl, rfl⟩ | ⟨ho, hl2, i, hi, rfl, hk, rfl⟩
  · rcases h' with ⟨_, rfl, rfl, rfl⟩ | ⟨ho', hl', _⟩
    · exact .inl ⟨rfl, rfl, rfl, rfl, rfl, rfl⟩
    · exact absurd ⟨hok.2 ⟨hs, ho'⟩, by rw [hmv, hlen]; exact hl'⟩ hno
  · rcases h' with ⟨hno', _⟩ | ⟨ho', hl', i', p, hi', rfl, hp, rfl, rfl⟩
    · exact absurd ⟨(hok.1 ho).2, by rw [← hmv, ← hlen]; exact hl2⟩ hno'
    · right
      rw [hmv, hlen] at hi
      have hii := hi.uniq hi'
      subst hii
      have hbd := hi.bd
      have hA := partA_eq n.asR i
      rw [hnn] at hA
      have hB := partB_eq n.asR i p hp
      rw [hnn] at hB
      have hpA := asR_asN (halfA_plain hpl i)
      have hpB := asR_asN (halfB_plain hpl i p)
      refine ⟨Rn.ok_yes ho', ?_, by rw [hA]; exact hpA.2, by rw [hA]; exact hpA.1, ?_, by rw [hmv, hlen, hB]; exact hpB.2, by rw [hmv, hlen, hB]; exact hpB.1, partN_keys _ _ _, partN_keys _ _ _⟩
      · intro h0
        have h1 : (halfA n.asR i).l.length = 0 := by rw [h0]; rfl
        unfold halfA at h1
        simp only [List.length_take] at h1
        omega
      · rw [hkeys, List.getElem?_map, hp] at hk
        exact (Option.some.inj hk).symm
end Go.Proofs.Ytlcphgomhhejbaa

/- The walks of node.Find and node.Way, and of the reference's. -/
namespace Go.Proofs.Ytlcphgomhhejbaa
open Go.RowKit

/-- How many there are. -/
def cntL (p : ByteArray → Bool) (l : List ByteArray) : Nat := (l.filter p).length
theorem cntL_take (p : ByteArray → Bool) (l : List ByteArray) (k : Nat) (y : ByteArray) (h : l[k]? = some y) : cntL p (l.take (k + 1)) = cntL p (l.take k) + (if p y then 1 else 0) := by
  unfold cntL
  rw [List.take_add_one, h, Option.toList_some, List.filter_append, List.length_append]
  cases hp : p y <;> simp [List.filter_cons, hp]
theorem cntL_le (p : ByteArray → Bool) (l : List ByteArray) (k : Nat) : cntL p (l.take k) ≤ k := by
  unfold cntL
  exact Nat.le_trans (List.length_filter_le _ _) (List.length_take_le _ _)
def leqK (k key : ByteArray) : Bool := Op.bytesLess k.toList key.toList || k.toList == key.toList

/-- Where a key is first, or that it is nowhere. -/
def IsIdx (l : List ByteArray) (key : ByteArray) (r : Int) : Prop := (r = -1 ∧ key ∉ l) ∨ ∃ i : Nat, r = i ∧ l[i]? = some key
def RetIdx (w : World) (l : List ByteArray) (key : ByteArray) (e : Ending) (w' : World) : Prop := ∃ r : Int, e = .returned (.int .i64 r) ∧ IsIdx l key r ∧ w = w'

set_option maxHeartbeats 1000000 in
theorem index_any (l : List ByteArray) (key : ByteArray) (a : Option Addr) (len cap : Nat) (w : World) (hV : Arr w.heap.size w a (cellsS l)) (hlen : len = l.length) (hmax : len ≤ 140737488355328) :
    Calls Try.prog 47 #[.slice a len cap, .string key] w (RetIdx w l key) := by
  have HV := Lib.hid hV
  have HL := Lib.hid hlen
  clear hV hlen
  go_enter Try.func47, Try.ntmps47
  go_wp2
  go_loop [8] (fun i => ∃ k : Nat, k ≤ len ∧ i = .int .i64 k ∧ Hid (key ∉ l.take k)) (fun i => len - (intOf i).toNat)
  case atStart => exact ⟨0, by omega, rfl, by simp [Hid]⟩
  case round =>
    obtain ⟨k, hk, rfl, HI⟩ := hrel
    by_cases hlt : k < len
    · have hkl : k < l.length := by have := HL.out; omega
      obtain ⟨b, o, rfl, hbN, c0⟩ := strAt HV.out hkl
      have hg := List.getElem?_eq_getElem hkl
      obtain ⟨y, hy⟩ : ∃ y, y = l[k] := ⟨_, rfl⟩
      rw [← hy] at c0 hg
      clear hy
      by_cases hky : key = y
      · subst hky
        have HG := Lib.hid hg
        clear hg
        go_wp2
        go_ret
        exact ⟨k, rfl, .inr ⟨k, rfl, HG.out⟩, rfl⟩
      · have q1 : (key.toList == y.toList) = false := by rw [beq_eq_false_iff_ne]; exact fun h => hky (toList_inj h)
        have HT : Hid (key ∉ l.take (k + 1)) := by
          intro hm
          rw [List.take_add_one, hg] at hm
          rcases List.mem_append.1 hm with hm | hm
          · exact HI.out hm
          · simp at hm; exact hky hm
        clear hg hky
        go_wp2
        go_round
        case rel => exact ⟨k + 1, by omega, by go_num, HT⟩
        case measure => simp [intOf]; omega
    · go_wp2
      go_ret
      exact ⟨-1, rfl, .inl ⟨rfl, by have := HI.out; rwa [List.take_of_length_le (by have := HL.out; omega)] at this⟩, rfl⟩

theorem cntLess_clo (k key : ByteArray) (c : Nat) (w : World) (hc : w.cell? ⟨c, 0, none⟩ = some (.string key)) :
    Calls Try.prog 49 #[.string k, .pointer (some ⟨c, 0, none⟩)] w fun e w' => e = .returned (.bool (lessK k key)) ∧ w = w' := by
  unfold lessK
  go_enter Try.func49, Try.ntmps49
  go_wp2
  go_ret
  exact ⟨rfl, rfl⟩

set_option maxHeartbeats 1000000 in
theorem cntLess_any (l : List ByteArray) (key : ByteArray) (c : Nat) (a : Option Addr) (len cap : Nat) (w : World) (hc : w.cell? ⟨c, 0, none⟩ = some (.string key)) (hV : Arr w.heap.size w a (cellsS l)) (hlen : len = l.length) (hmax : len ≤ 140737488355328) :
    Calls Try.prog 48 #[.slice a len cap, .func (.func 49) #[] #[.pointer (some ⟨c, 0, none⟩)]] w fun e w' => e = .returned (.int .i64 ((cntL (lessK · key) l : Nat) : Int)) ∧ w = w' := by
  have HV := Lib.hid hV
  have HL := Lib.hid hlen
  have HT := Lib.hid (fun k y => cntL_take (lessK · key) l k y)
  have HB := Lib.hid (fun k => cntL_le (lessK · key) l k)
  have HCl := Lib.hid (fun y => cntLess_clo y key c w hc)
  clear hV hlen hc
  go_enter Try.func48, Try.ntmps48
  go_wp2
  go_loop [5, 10] (fun n i => ∃ k N : Nat, k ≤ len ∧ i = .int .i64 k ∧ n = .int .i64 (N : Int) ∧ Hid (N = cntL (lessK · key) (l.take k))) (fun _ i => len - (intOf i).toNat)
  case atStart => exact ⟨0, 0, by omega, rfl, rfl, rfl⟩
  case round =>
    obtain ⟨k, N, hk, rfl, rfl, HN⟩ := hrel
    by_cases hlt : k < len
    · have hkl : k < l.length := by have := HL.out; omega
      obtain ⟨b, o, rfl, hbN, c0⟩ := strAt HV.out hkl
      have hNk : N ≤ k := by have := HB.out k; rw [← HN.out] at this; exact this
      have HTk := Lib.hid (HT.out k _ (List.getElem?_eq_getElem hkl))
      obtain ⟨y, hy⟩ : ∃ y, y = l[k] := ⟨_, rfl⟩
      rw [← hy] at c0 HTk
      clear hy
      have hcl := HCl.out y
      obtain ⟨r, hr⟩ : ∃ r, lessK y key = r := ⟨_, rfl⟩
      rw [hr] at hcl HTk
      have HC := Lib.hid hcl
      clear hr hcl
      go_wp2_with fail
      refine HC.out.mono ?_
      rintro e w1 ⟨rfl, rfl⟩
      cases r with
      | true =>
        go_wp2
        go_round
        case rel => exact ⟨k + 1, N + 1, by omega, by go_num, by go_num, by rw [HTk.out, ← HN.out]; rfl⟩
        case measure => simp [intOf]; omega
      | false =>
        go_wp2
        go_round
        case rel => exact ⟨k + 1, N, by omega, by go_num, by go_num, by rw [HTk.out, ← HN.out]; rfl⟩
        case measure => simp [intOf]; omega
    · go_wp2
      go_ret
      exact ⟨by rw [HN.out, List.take_of_length_le (by have := HL.out; omega)]; rfl, rfl⟩

theorem cntLeq_clo (k key : ByteArray) (c : Nat) (w : World) (hc : w.cell? ⟨c, 0, none⟩ = some (.string key)) :
    Calls Try.prog 50 #[.string k, .pointer (some ⟨c, 0, none⟩)] w fun e w' => e = .returned (.bool (leqK k key)) ∧ w = w' := by
  unfold leqK
  go_enter Try.func50, Try.ntmps50
  go_wp2
  go_ret
  exact ⟨rfl, rfl⟩

set_option maxHeartbeats 1000000 in
theorem cntLeq_any (l : List ByteArray) (key : ByteArray) (c : Nat) (a : Option Addr) (len cap : Nat) (w : World) (hc : w.cell? ⟨c, 0, none⟩ = some (.string key)) (hV : Arr w.heap.size w a (cellsS l)) (hlen : len = l.length) (hmax : len ≤ 140737488355328) :
    Calls Try.prog 48 #[.slice a len cap, .func (.func 50) #[] #[.pointer (some ⟨c, 0, none⟩)]] w fun e w' => e = .returned (.int .i64 ((cntL (leqK · key) l : Nat) : Int)) ∧ w = w' := by
  have HV := Lib.hid hV
  have HL := Lib.hid hlen
  have HT := Lib.hid (fun k y => cntL_take (leqK · key) l k y)
  have HB := Lib.hid (fun k => cntL_le (leqK · key) l k)
  have HCl := Lib.hid (fun y => cntLeq_clo y key c w hc)
  clear hV hlen hc
  go_enter Try.func48, Try.ntmps48
  go_wp2
  go_loop [5, 10] (fun n i => ∃ k N : Nat, k ≤ len ∧ i = .int .i64 k ∧ n = .int .i64 (N : Int) ∧ Hid (N = cntL (leqK · key) (l.take k))) (fun _ i => len - (intOf i).toNat)
  case atStart => exact ⟨0, 0, by omega, rfl, rfl, rfl⟩
  case round =>
    obtain ⟨k, N, hk, rfl, rfl, HN⟩ := hrel
    by_cases hlt : k < len
    · have hkl : k < l.length := by have := HL.out; omega
      obtain ⟨b, o, rfl, hbN, c0⟩ := strAt HV.out hkl
      have hNk : N ≤ k := by have := HB.out k; rw [← HN.out] at this; exact this
      have HTk := Lib.hid (HT.out k _ (List.getElem?_eq_getElem hkl))
      obtain ⟨y, hy⟩ : ∃ y, y = l[k] := ⟨_, rfl⟩
      rw [← hy] at c0 HTk
      clear hy
      have hcl := HCl.out y
      obtain ⟨r, hr⟩ : ∃ r, leqK y key = r := ⟨_, rfl⟩
      rw [hr] at hcl HTk
      have HC := Lib.hid hcl
      clear hr hcl
      go_wp2_with fail
      refine HC.out.mono ?_
      rintro e w1 ⟨rfl, rfl⟩
      cases r with
      | true =>
        go_wp2
        go_round
        case rel => exact ⟨k + 1, N + 1, by omega, by go_num, by go_num, by rw [HTk.out, ← HN.out]; rfl⟩
        case measure => simp [intOf]; omega
      | false =>
        go_wp2
        go_round
        case rel => exact ⟨k + 1, N, by omega, by go_num, by go_num, by rw [HTk.out, ← HN.out]; rfl⟩
        case measure => simp [intOf]; omega
    · go_wp2
      go_ret
      exact ⟨by rw [HN.out, List.take_of_length_le (by have := HL.out; omega)]; rfl, rfl⟩

/-- What Find answers of a node with these keys. -/
def FindIs (l : List ByteArray) (key : ByteArray) (r : Nat × Bool) : Prop := (r.2 = true ∧ l[r.1]? = some key) ∨ (r.2 = false ∧ key ∉ l ∧ r.1 = cntL (lessK · key) l)
def RetFind (w : World) (l : List ByteArray) (key : ByteArray) (e : Ending) (w' : World) : Prop := ∃ r : Nat × Bool, e = .returned (.tuple #[.int .i64 (r.1 : Int), .bool r.2]) ∧ FindIs l key r ∧ Below w.heap.size w w'

set_option maxHeartbeats 1000000 in
theorem NFind_any (n : Nd) (m : NB) (key : ByteArray) (w : World) (h : NAt w n m) :
    Calls Try.prog 22 #[m.v n.leaf, .string key] w (RetFind w n.keys key) := by
  have HI := Lib.hid (fun W (hb : Below w.heap.size w W) => index_any n.keys key m.ka m.kl m.kc W (h.later hb).karr h.hk h.kmax)
  have HC := Lib.hid (fun c W (hb : Below w.heap.size w W) hc => cntLess_any n.keys key c m.ka m.kl m.kc W hc (h.later hb).karr h.hk h.kmax)
  have hkl := h.hk
  clear h
  obtain ⟨l, ks, cs, ps⟩ := n
  obtain ⟨ka, kl, kc, ca, cl, cc, da, dl, dc⟩ := m
  simp only at *
  have HK := Lib.hid hkl
  clear hkl
  have hB0 := ((Below.refl _ w).alloc (Nat.le_refl _) (.cells #[.bool l, .slice ka kl kc, .slice ca cl cc, .slice da dl dc] 26)).alloc (by simp) (.cells #[.string key] 9)
  have HB0 := Lib.hid hB0
  clear hB0
  generalize hcn : cntL (lessK · key) ks = cn at *
  have HCn := Lib.hid hcn
  clear hcn
  go_enter Try.func22, Try.ntmps22
  go_wp2_with fail
  refine (HI.out _ HB0.out).mono ?_
  rintro e w1 ⟨r, rfl, hr, rfl⟩
  rcases hr with ⟨rfl, hno⟩ | ⟨i, rfl, hi⟩
  · have HNo := Lib.hid hno
    clear hno
    go_wp2_with fail
    refine (HC.out _ _ HB0.out (by simp)).mono ?_
    rintro e w1 ⟨rfl, rfl⟩
    go_wp2
    go_ret2
    exact ⟨(cn, false), rfl, .inr ⟨rfl, HNo.out, HCn.out.symm⟩, HB0.out⟩
  · have HIi := Lib.hid hi
    clear hi
    go_wp2
    go_ret2
    exact ⟨(i, true), rfl, .inl ⟨rfl, HIi.out⟩, HB0.out⟩

set_option maxHeartbeats 1000000 in
theorem NWay_any (n : Nd) (m : NB) (key : ByteArray) (w : World) (h : NAt w n m) :
    Calls Try.prog 24 #[m.v n.leaf, .string key] w fun e w' => e = .returned (.int .i64 ((cntL (leqK · key) n.keys : Nat) : Int)) ∧ Below w.heap.size w w' := by
  have HC := Lib.hid (fun c W (hb : Below w.heap.size w W) hc => cntLeq_any n.keys key c m.ka m.kl m.kc W hc (h.later hb).karr h.hk h.kmax)
  clear h
  obtain ⟨l, ks, cs, ps⟩ := n
  obtain ⟨ka, kl, kc, ca, cl, cc, da, dl, dc⟩ := m
  simp only at *
  have hB0 := ((Below.refl _ w).alloc (Nat.le_refl _) (.cells #[.bool l, .slice ka kl kc, .slice ca cl cc, .slice da dl dc] 26)).alloc (by simp) (.cells #[.string key] 9)
  have HB0 := Lib.hid hB0
  clear hB0
  generalize cntL (leqK · key) ks = cn at *
  go_enter Try.func24, Try.ntmps24
  go_wp2_with fail
  refine (HC.out _ _ HB0.out (by simp)).mono ?_
  rintro e w1 ⟨rfl, rfl⟩
  go_wp2
  go_ret
  exact ⟨rfl, HB0.out⟩
end Go.Proofs.Ytlcphgomhhejbaa
