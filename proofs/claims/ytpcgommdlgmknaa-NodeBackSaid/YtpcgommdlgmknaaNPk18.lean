/- Several texts of one proof, one behind the other. -/
import Derived.Test.YtpcgommdlgmknaaNPk17
import Derived.IntWalk
import Derived.Deep.Cut

/- The walk of the law's As, of an inner node. -/
namespace Go.Proofs.Ytpcgommdlgmknaa
open Go.RowKit

/-- Where the loop stands. -/
structure AsInvinner (w wr : World) (ka : Option Addr) (kl kc : Nat) (ca : Option Addr) (cl cc : Nat) (da : Option Addr) (dl dc : Nat) (kid : Int) (l : List Pt) (k : Nat) (la : Option Addr) (lc : Nat) : Prop where
  box : Blk wr w.heap.size 26 #[.bool false, .slice ka kl kc, .slice ca cl cc, .slice da dl dc]
  res : Blk wr (w.heap.size + 1) 32 #[.bool false, .int .i64 0, .slice none 0 0]
  out : Blk wr (w.heap.size + 1 + 1) 32 #[.bool false, .int .i64 kid, .slice la k lc]
  row : wr.ownsRow (w.heap.size + 1 + 1 + 1) 65 4 (.slice la k lc) k (cellsP (l.take k))
  bel : Below w.heap.size w wr

set_option maxRecDepth 100000 in
set_option maxHeartbeats 4000000 in
theorem as_inner (n : Nd) (m : NB) (w : World) (h : NAt w n m) (hl : n.leaf = false) (hs : n.shaped = true) (hbig : m.kl ≤ 100000000) :
    Calls Try.prog 10 #[m.v false] w (RetAs w n) := by
  obtain ⟨iP, hiP, hzP, hsP, hbP⟩ := info_parts info_part
  have HX : Hid (∀ (la : Option Addr) (lc : Nat) W, m.kl ≤ lc → lc ≤ 9223372036854775807 → Arr W.heap.size W la (cellsP n.asR.l) → Below w.heap.size w W → RetAs w n (.returned (.tuple #[.agg #[.bool false, .int .i64 n.asR.kid, .slice la m.kl lc], .bool true])) W) := by
    intro la lc W h1 h2 h3 hb
    refine ⟨n.asR, ⟨la, m.kl, lc⟩, by rw [hs, asR_leaf, hl], fun _ => rfl, ⟨?_, h1, h.kmax, h3, ?_, ?_⟩, hb⟩
    · rw [asR_len hs]; exact h.hk
    · exact asR_kidfair h hs
    · exact asR_fair h hs
  have HLen : Hid (n.asR.l.length = m.kl) := by
    show _ = _
    rw [asR_len hs, h.hk]
  have HAt := Lib.hid (part_inner hs hl)
  have HKA := Lib.hid h.karr
  have HCA := Lib.hid h.darr
  have HKF := Lib.hid (asR_fair h hs)
  have hsh := hs
  unfold Nd.shaped at hsh
  rw [hl] at hsh
  have hc := h.hc
  have hd := h.hd
  have hk := h.hk
  simp only [Bool.false_eq_true, if_false, decide_eq_true_eq] at hsh
  have e1 : m.dl = m.kl + 1 := by omega
  have e2 : m.cl = 0 := by omega
  have hlR := asR_leaf n
  rw [hl] at hlR
  obtain ⟨R, hR⟩ : ∃ R, n.asR = R := ⟨_, rfl⟩
  rw [hR] at HX HLen HAt hlR HKF
  have hkid := HAt.out.2.2.1
  obtain ⟨kid, hkd⟩ : ∃ kid, R.kid = kid := ⟨_, rfl⟩
  rw [hkd] at HX hkid
  have HKidLen := Lib.hid hd
  clear hR hkd hsh hc hd hk hs h
  obtain ⟨ka, kl, kc, ca, cl, cc, da, dl, dc⟩ := m
  simp only at *
  subst e1
  subst e2
  generalize hRR : RetAs w n = RR at *
  clear hRR
  have q1 : (((kl + 1 : Nat) : Int) != (kl : Int) + 1) = false := by simp
  obtain ⟨hkd0, hkde⟩ := List.getElem?_eq_some_iff.1 hkid
  obtain ⟨bd, od, rfl, hbdN, cd0⟩ := intAt HCA.out hkd0
  rw [hkde] at cd0
  have cd0 : w.cell? ⟨bd, od, none⟩ = some (.int .i64 kid) := cd0
  clear hkid hkde hkd0
  have hbd1 : bd < w.heap.size + 1 := by omega
  have hbd2 : bd < w.heap.size + 1 + 1 := by omega
  have HB0 : Hid (Below w.heap.size w (((w.alloc (.cells #[.bool false, .slice ka kl kc, .slice ca 0 cc, .slice (some ⟨bd, od, none⟩) (kl + 1) dc] 26)).alloc (.cells #[.bool false, .int .i64 0, .slice none 0 0] 32)).alloc (.cells #[.bool false, .int .i64 kid, .slice none 0 0] 32))) := (((Below.refl _ w).alloc (Nat.le_refl _) _).alloc (by simp) _).alloc (by simp; omega) _
  have HI0 : Hid (AsInvinner w (((w.alloc (.cells #[.bool false, .slice ka kl kc, .slice ca 0 cc, .slice (some ⟨bd, od, none⟩) (kl + 1) dc] 26)).alloc (.cells #[.bool false, .int .i64 0, .slice none 0 0] 32)).alloc (.cells #[.bool false, .int .i64 kid, .slice none 0 0] 32)) ka kl kc ca 0 cc (some ⟨bd, od, none⟩) (kl + 1) dc kid R.l 0 none 0) :=
    ⟨((Blk.new w _ _).alloc _).alloc _, (as_blks w _ _ _ _).1, (as_blks w _ _ _ _).2, World.ownsRow_nil _ _ _ _, HB0.out⟩
  clear HB0
  go_enter Try.func10, Try.ntmps10
  go_wp2_with fail
  go_loopw [5] (fun i wr => ∃ (k : Nat) (la : Option Addr) (lc : Nat), k ≤ kl ∧ i = .int .i64 k ∧ Hid (AsInvinner w wr ka kl kc ca 0 cc (some ⟨bd, od, none⟩) (kl + 1) dc kid R.l k la lc)) (fun i _ => kl - (intOf i).toNat)
  case atStart => exact ⟨0, none, 0, by omega, rfl, HI0⟩
  case round =>
    obtain ⟨k, la, lc, hk, rfl, HI⟩ := hrel
    have b0 : wr.cell? ⟨w.heap.size, 0, none⟩ = some (.bool false) := HI.out.box.cell 0
    have b1 : wr.cell? ⟨w.heap.size, 1, none⟩ = some (.slice ka kl kc) := HI.out.box.cell 1
    have hwlt : w.heap.size + 1 + 1 < wr.heap.size := HI.out.out.lt
    have hwlt0 : w.heap.size < wr.heap.size := by omega
    by_cases hlt : k < kl
    · have hkl : k < R.l.length := by have := HLen.out; omega
      have hx := List.getElem?_eq_getElem hkl
      have HXk := Lib.hid hx
      obtain ⟨hk1, hc1, hl0, hd0⟩ := HAt.out.2.2.2 k _ hx
      have hfr := HKF.out _ (List.getElem_mem hkl)
      obtain ⟨hkkl, hkke⟩ := List.getElem?_eq_some_iff.1 hk1
      obtain ⟨hccl, hcce⟩ := List.getElem?_eq_some_iff.1 hc1
      obtain ⟨b, o, rfl, hb, c0⟩ := strAt HKA.out hkkl
      obtain ⟨b2, o2, he, hb2, c1⟩ := intAt HCA.out hccl
      simp only [Option.some.injEq, Addr.mk.injEq, and_true] at he
      obtain ⟨rfl, rfl⟩ := he
      rw [hkke] at c0
      rw [hcce] at c1
      clear hx hk1 hc1 hkke hcce hkkl hccl
      obtain ⟨⟨xk, xl, xd, xp⟩, hxx⟩ : ∃ x, R.l[k] = x := ⟨_, rfl⟩
      rw [hxx] at c0 c1 HXk hfr hl0 hd0
      unfold Pt.fair at hfr
      simp only at c0 c1 hfr hl0 hd0
      subst hl0 hd0
      clear hxx
      obtain ⟨f1, f2, f3, f4⟩ := hfr
      have c0 := (HI.out.bel.cell (p := ⟨b, o + k, none⟩) hb).trans c0
      have c1 : wr.cell? ⟨bd, od + (k + 1), none⟩ = some (.int .i64 xp) := (HI.out.bel.cell (p := ⟨bd, od + (k + 1), none⟩) hb2).trans c1
      have hbw : bd < wr.heap.size := Nat.lt_of_lt_of_le hb2 HI.out.bel.size
      have b3 : wr.cell? ⟨w.heap.size, 3, none⟩ = some (.slice (some ⟨bd, od, none⟩) (kl + 1) dc) := HI.out.box.cell 3
      have hXe : Hid (∃ X, wr.alloc (.cells #[.string xk, .int .i64 0, .string ⟨#[]⟩, .int .i64 xp] 65) = X ∧ Below wr.heap.size wr X ∧ Blk X wr.heap.size 65 #[.string xk, .int .i64 0, .string ⟨#[]⟩, .int .i64 xp] ∧ X.ownsRow (w.heap.size + 1 + 1 + 1) 65 4 (.slice la k lc) k (cellsP (R.l.take k))) := ⟨_, rfl, (Below.refl _ wr).alloc (Nat.le_refl _) _, Blk.new wr _ _, World.ownsRow.alloc HI.out.row _⟩
      go_upto_region 13 with (fail)
      obtain ⟨X, hX, hXB0, hPb, hRow0⟩ := hXe.out
      rw [hX]
      have HXB := Lib.hid hXB0
      have HRow := Lib.hid hRow0
      clear hX hXB0 hRow0 hXe c1 b3
      have z0 : X.cell? ⟨wr.heap.size, 0, none⟩ = some _ := hPb.cell 0
      have z1 : X.cell? ⟨wr.heap.size, 1, none⟩ = some _ := hPb.cell 1
      have z2 : X.cell? ⟨wr.heap.size, 2, none⟩ = some _ := hPb.cell 2
      have z3 : X.cell? ⟨wr.heap.size, 3, none⟩ = some _ := hPb.cell 3
      have y2 : X.cell? ⟨w.heap.size + 1 + 1, 2, none⟩ = some (.slice la k lc) := (HI.out.out.bel HXB.out hwlt).cell 2
      have hXs : wr.heap.size < X.heap.size := hPb.lt
      have hbs : w.heap.size + 1 + 1 + 1 ≤ X.heap.size := by omega
      have HNew : Hid (∀ x6 (la2 : Option Addr) (lc2 : Nat), x6.ownsRow (w.heap.size + 1 + 1 + 1) 65 4 (.slice la2 (k + 1) lc2) (k + 1) (cellsP (R.l.take k) ++ [.string xk, .int .i64 0, .string ⟨#[]⟩, .int .i64 xp]) → Below (w.heap.size + 1 + 1 + 1) X x6 →
          AsInvinner w (x6.setCell ⟨w.heap.size + 1 + 1, 2, none⟩ (.slice la2 (k + 1) lc2)) (some ⟨b, o, none⟩) kl kc ca 0 cc (some ⟨bd, od, none⟩) (kl + 1) dc kid R.l (k + 1) la2 lc2 ∧ x6.cell? ⟨w.heap.size + 1 + 1, 2, none⟩ = some (.slice la k lc) ∧ x6.frozen? ⟨w.heap.size + 1 + 1, 2, none⟩ = false ∧ w.heap.size + 1 + 1 < x6.heap.size) := by
        intro x6 la2 lc2 hk6 hb6
        have o1 := (HI.out.out.bel HXB.out hwlt).bel hb6 (Nat.lt_succ_self _)
        have o2 := (HI.out.box.bel HXB.out hwlt0).bel hb6 (by omega)
        have o3 := (HI.out.res.bel HXB.out (by omega)).bel hb6 (by omega)
        refine ⟨⟨o2.far (by omega) _, o3.far (by omega) _, ?_, ?_, ?_⟩, o1.cell 2, o1.frozen 2, o1.lt⟩
        · have := o1.set_ 2 (.slice la2 (k + 1) lc2)
          simpa using this
        · have e : cellsP (R.l.take (k + 1)) = cellsP (R.l.take k) ++ [.string xk, .int .i64 0, .string ⟨#[]⟩, .int .i64 xp] := by
            rw [List.take_add_one, HXk.out]
            exact cellsOf_snoc _ _ _
          rw [e]
          exact ownsRow_setCell_below hk6 (Nat.lt_succ_self _) _
        · exact Below.setCell (HI.out.bel.trans ((HXB.out.mono HI.out.bel.size).trans (hb6.mono (by omega)))) (by show w.heap.size ≤ w.heap.size + 1 + 1; omega) _
      clear hPb HXB
      go_wp2_with (at_builtin; refine wpList_appN rfl (.tmp 101) (.tmp 103) 30 rfl (w.heap.size + 1 + 1 + 1) 65 iP (.agg #[.string ⟨#[]⟩, .int .i64 0, .string ⟨#[]⟩, .int .i64 0]) 4 48 Try.underlying30 hiP hzP rfl hsP (by omega) hbP (by omega) (.slice la k lc) k _ [.string xk, .int .i64 0, .string ⟨#[]⟩, .int .i64 xp] X HRow.out rfl _ rfl rfl (by simp [Value.oneCell']) rfl (by omega) hbs ?_; intro v6 x6 hk6 hb6 hs6; obtain ⟨la2, lc2, rfl, _, _, _⟩ := own_slice hk6; obtain ⟨hInv, u1, u2, u3⟩ := HNew.out x6 la2 lc2 hk6 hb6; have HInv := Lib.hid hInv; clear hInv hk6 hb6 y2 z0 z1 z2 z3)
      go_roundw
      case rel => exact ⟨k + 1, la2, lc2, by omega, by go_num, HInv⟩
      case measure => simp [intOf]; omega
    · have hkk : k = kl := by omega
      subst hkk
      obtain ⟨_, _, e1, g1, g2, harr⟩ := own_slice HI.out.row
      simp only [Value.slice.injEq, true_and] at e1
      obtain ⟨rfl, rfl⟩ := e1
      have hfar := own_far HI.out.row
      rw [List.take_of_length_le (by have := HLen.out; omega)] at harr hfar
      have r0 : wr.cell? ⟨w.heap.size + 1, 0, none⟩ = some (.bool false) := HI.out.res.cell 0
      have r1 : wr.cell? ⟨w.heap.size + 1, 1, none⟩ = some (.int .i64 0) := HI.out.res.cell 1
      have r2 : wr.cell? ⟨w.heap.size + 1, 2, none⟩ = some (.slice none 0 0) := HI.out.res.cell 2
      have f0 := HI.out.res.frozen 0
      have f1 := HI.out.res.frozen 1
      have f2 := HI.out.res.frozen 2
      have o0 : wr.cell? ⟨w.heap.size + 1 + 1, 0, none⟩ = some (.bool false) := HI.out.out.cell 0
      have o1 : wr.cell? ⟨w.heap.size + 1 + 1, 1, none⟩ = some (.int .i64 kid) := HI.out.out.cell 1
      have o2 : wr.cell? ⟨w.heap.size + 1 + 1, 2, none⟩ = some (.slice la k lc) := HI.out.out.cell 2
      have hwlt1 : w.heap.size + 1 < wr.heap.size := by omega
      have HFin : Hid (∀ v0 v1 v2, RR (.returned (.tuple #[.agg #[.bool false, .int .i64 kid, .slice la k lc], .bool true])) (((wr.setCell ⟨w.heap.size + 1, 0, none⟩ v0).setCell ⟨w.heap.size + 1, 1, none⟩ v1).setCell ⟨w.heap.size + 1, 2, none⟩ v2)) := by
        intro v0 v1 v2
        have hlt2 : w.heap.size + 1 < w.heap.size + 1 + 1 + 1 := by omega
        refine HX.out la lc _ g1 g2 (((harr.set_far hfar hlt2).set_far hfar hlt2).set_far hfar hlt2) ?_
        refine Below.setCell (Below.setCell (Below.setCell HI.out.bel ?_ _) ?_ _) ?_ _ <;> exact Nat.le_succ _
      clear harr hfar
      go_wp2
      refine bodyPost_ret (v := .tuple #[.agg #[.bool false, .int .i64 kid, .slice la k lc], .bool true]) (by simp [results, Try.results10, go_sem, r0, r1, r2, hwlt1]) rfl (HFin.out _ _ _)
end Go.Proofs.Ytpcgommdlgmknaa

/- The law's As, of any node. -/
namespace Go.Proofs.Ytpcgommdlgmknaa
open Go.RowKit
theorem NAs_any (n : Nd) (m : NB) (w : World) (h : NAt w n m) (hbig : m.kl ≤ 100000000) :
    Calls Try.prog 10 #[m.v n.leaf] w (RetAs w n) := by
  cases hs : n.shaped with
  | false => exact as_no n m w h hs
  | true =>
    cases hl : n.leaf with
    | true => exact as_leaf n m w h hl hs hbig
    | false => exact as_inner n m w h hl hs hbig
end Go.Proofs.Ytpcgommdlgmknaa

/- The walks of node.Find and node.Way, and of the reference's. -/
namespace Go.Proofs.Ytpcgommdlgmknaa
open Go.RowKit

/-- How many there are. -/
def cntL (p : ByteArray → Bool) (l : List ByteArray) : Nat := (l.filter p).length
theorem cntL_take (p : ByteArray → Bool) (l : List ByteArray) (k : Nat) (y : ByteArray) (h : l[k]? = some y) : cntL p (l.take (k + 1)) = cntL p (l.take k) + (if p y then 1 else 0) := by
  unfold cntL
  rw [List.take_add_one, h, Option.toList_some, List.filter_append, List.length_append]
  cases hp : p y <;> simp [List.filter_cons, hp]
theorem cntL_le (p : ByteArray → Bool) (l : List ByteArray) (k : Nat) : cntL p (l.take k) ≤ k := by
  unfold cntL
  exact Nat.le_trans (List.length_filter_le _ _) (List.length_take_le _ _)
def leqK (k key : ByteArray) : Bool := Op.bytesLess k.toList key.toList || k.toList == key.toList

/-- Where a key is first, or that it is nowhere. -/
def IsIdx (l : List ByteArray) (key : ByteArray) (r : Int) : Prop := (r = -1 ∧ key ∉ l) ∨ ∃ i : Nat, r = i ∧ l[i]? = some key
def RetIdx (w : World) (l : List ByteArray) (key : ByteArray) (e : Ending) (w' : World) : Prop := ∃ r : Int, e = .returned (.int .i64 r) ∧ IsIdx l key r ∧ w = w'

set_option maxHeartbeats 1000000 in
theorem index_any (l : List ByteArray) (key : ByteArray) (a : Option Addr) (len cap : Nat) (w : World) (hV : Arr w.heap.size w a (cellsS l)) (hlen : len = l.length) (hmax : len ≤ 140737488355328) :
    Calls Try.prog 47 #[.slice a len cap, .string key] w (RetIdx w l key) := by
  have HV := Lib.hid hV
  have HL := Lib.hid hlen
  clear hV hlen
  go_enter Try.func47, Try.ntmps47
  go_wp2
  go_loop [8] (fun i => ∃ k : Nat, k ≤ len ∧ i = .int .i64 k ∧ Hid (key ∉ l.take k)) (fun i => len - (intOf i).toNat)
  case atStart => exact ⟨0, by omega, rfl, by simp [Hid]⟩
  case round =>
    obtain ⟨k, hk, rfl, HI⟩ := hrel
    by_cases hlt : k < len
    · have hkl : k < l.length := by have := HL.out; omega
      obtain ⟨b, o, rfl, hbN, c0⟩ := strAt HV.out hkl
      have hg := List.getElem?_eq_getElem hkl
      obtain ⟨y, hy⟩ : ∃ y, y = l[k] := ⟨_, rfl⟩
      rw [← hy] at c0 hg
      clear hy
      by_cases hky : key = y
      · subst hky
        have HG := Lib.hid hg
        clear hg
        go_wp2
        go_ret
        exact ⟨k, rfl, .inr ⟨k, rfl, HG.out⟩, rfl⟩
      · have q1 : (key.toList == y.toList) = false := by rw [beq_eq_false_iff_ne]; exact fun h => hky (toList_inj h)
        have HT : Hid (key ∉ l.take (k + 1)) := by
          intro hm
          rw [List.take_add_one, hg] at hm
          rcases List.mem_append.1 hm with hm | hm
          · exact HI.out hm
          · simp at hm; exact hky hm
        clear hg hky
        go_wp2
        go_round
        case rel => exact ⟨k + 1, by omega, by go_num, HT⟩
        case measure => simp [intOf]; omega
    · go_wp2
      go_ret
      exact ⟨-1, rfl, .inl ⟨rfl, by have := HI.out; rwa [List.take_of_length_le (by have := HL.out; omega)] at this⟩, rfl⟩

theorem cntLess_clo (k key : ByteArray) (c : Nat) (w : World) (hc : w.cell? ⟨c, 0, none⟩ = some (.string key)) :
    Calls Try.prog 49 #[.string k, .pointer (some ⟨c, 0, none⟩)] w fun e w' => e = .returned (.bool (lessK k key)) ∧ w = w' := by
  unfold lessK
  go_enter Try.func49, Try.ntmps49
  go_wp2
  go_ret
  exact ⟨rfl, rfl⟩

set_option maxHeartbeats 1000000 in
theorem cntLess_any (l : List ByteArray) (key : ByteArray) (c : Nat) (a : Option Addr) (len cap : Nat) (w : World) (hc : w.cell? ⟨c, 0, none⟩ = some (.string key)) (hV : Arr w.heap.size w a (cellsS l)) (hlen : len = l.length) (hmax : len ≤ 140737488355328) :
    Calls Try.prog 48 #[.slice a len cap, .func (.func 49) #[] #[.pointer (some ⟨c, 0, none⟩)]] w fun e w' => e = .returned (.int .i64 ((cntL (lessK · key) l : Nat) : Int)) ∧ w = w' := by
  have HV := Lib.hid hV
  have HL := Lib.hid hlen
  have HT := Lib.hid (fun k y => cntL_take (lessK · key) l k y)
  have HB := Lib.hid (fun k => cntL_le (lessK · key) l k)
  have HCl := Lib.hid (fun y => cntLess_clo y key c w hc)
  clear hV hlen hc
  go_enter Try.func48, Try.ntmps48
  go_wp2
  go_loop [5, 10] (fun n i => ∃ k N : Nat, k ≤ len ∧ i = .int .i64 k ∧ n = .int .i64 (N : Int) ∧ Hid (N = cntL (lessK · key) (l.take k))) (fun _ i => len - (intOf i).toNat)
  case atStart => exact ⟨0, 0, by omega, rfl, rfl, rfl⟩
  case round =>
    obtain ⟨k, N, hk, rfl, rfl, HN⟩ := hrel
    by_cases hlt : k < len
    · have hkl : k < l.length := by have := HL.out; omega
      obtain ⟨b, o, rfl, hbN, c0⟩ := strAt HV.out hkl
      have hNk : N ≤ k := by have := HB.out k; rw [← HN.out] at this; exact this
      have HTk := Lib.hid (HT.out k _ (List.getElem?_eq_getElem hkl))
      obtain ⟨y, hy⟩ : ∃ y, y = l[k] := ⟨_, rfl⟩
      rw [← hy] at c0 HTk
      clear hy
      have hcl := HCl.out y
      obtain ⟨r, hr⟩ : ∃ r, lessK y key = r := ⟨_, rfl⟩
      rw [hr] at hcl HTk
      have HC := Lib.hid hcl
      clear hr hcl
      go_wp2_with fail
      refine HC.out.mono ?_
      rintro e w1 ⟨rfl, rfl⟩
      cases r with
      | true =>
        go_wp2
        go_round
        case rel => exact ⟨k + 1, N + 1, by omega, by go_num, by go_num, by rw [HTk.out, ← HN.out]; rfl⟩
        case measure => simp [intOf]; omega
      | false =>
        go_wp2
        go_round
        case rel => exact ⟨k + 1, N, by omega, by go_num, by go_num, by rw [HTk.out, ← HN.out]; rfl⟩
        case measure => simp [intOf]; omega
    · go_wp2
      go_ret
      exact ⟨by rw [HN.out, List.take_of_length_le (by have := HL.out; omega)]; rfl, rfl⟩

theorem cntLeq_clo (k key : ByteArray) (c : Nat) (w : World) (hc : w.cell? ⟨c, 0, none⟩ = some (.string key)) :
    Calls Try.prog 50 #[.string k, .pointer (some ⟨c, 0, none⟩)] w fun e w' => e = .returned (.bool (leqK k key)) ∧ w = w' := by
  unfold leqK
  go_enter Try.func50, Try.ntmps50
  go_wp2
  go_ret
  exact ⟨rfl, rfl⟩

set_option maxHeartbeats 1000000 in
theorem cntLeq_any (l : List ByteArray) (key : ByteArray) (c : Nat) (a : Option Addr) (len cap : Nat) (w : World) (hc : w.cell? ⟨c, 0, none⟩ = some (.string key)) (hV : Arr w.heap.size w a (cellsS l)) (hlen : len = l.length) (hmax : len ≤ 140737488355328) :
    Calls Try.prog 48 #[.slice a len cap, .func (.func 50) #[] #[.pointer (some ⟨c, 0, none⟩)]] w fun e w' => e = .returned (.int .i64 ((cntL (leqK · key) l : Nat) : Int)) ∧ w = w' := by
  have HV := Lib.hid hV
  have HL := Lib.hid hlen
  have HT := Lib.hid (fun k y => cntL_take (leqK · key) l k y)
  have HB := Lib.hid (fun k => cntL_le (leqK · key) l k)
  have HCl := Lib.hid (fun y => cntLeq_clo y key c w hc)
  clear hV hlen hc
  go_enter Try.func48, Try.ntmps48
  go_wp2
  go_loop [5, 10] (fun n i => ∃ k N : Nat, k ≤ len ∧ i = .int .i64 k ∧ n = .int .i64 (N : Int) ∧ Hid (N = cntL (leqK · key) (l.take k))) (fun _ i => len - (intOf i).toNat)
  case atStart => exact ⟨0, 0, by omega, rfl, rfl, rfl⟩
  case round =>
    obtain ⟨k, N, hk, rfl, rfl, HN⟩ := hrel
    by_cases hlt : k < len
    · have hkl : k < l.length := by have := HL.out; omega
      obtain ⟨b, o, rfl, hbN, c0⟩ := strAt HV.out hkl
      have hNk : N ≤ k := by have := HB.out k; rw [← HN.out] at this; exact this
      have HTk := Lib.hid (HT.out k _ (List.getElem?_eq_getElem hkl))
      obtain ⟨y, hy⟩ : ∃ y, y = l[k] := ⟨_, rfl⟩
      rw [← hy] at c0 HTk
      clear hy
      have hcl := HCl.out y
      obtain ⟨r, hr⟩ : ∃ r, leqK y key = r := ⟨_, rfl⟩
      rw [hr] at hcl HTk
      have HC := Lib.hid hcl
      clear hr hcl
      go_wp2_with fail
      refine HC.out.mono ?_
      rintro e w1 ⟨rfl, rfl⟩
      cases r with
      | true =>
        go_wp2
        go_round
        case rel => exact ⟨k + 1, N + 1, by omega, by go_num, by go_num, by rw [HTk.out, ← HN.out]; rfl⟩
        case measure => simp [intOf]; omega
      | false =>
        go_wp2
        go_round
        case rel => exact ⟨k + 1, N, by omega, by go_num, by go_num, by rw [HTk.out, ← HN.out]; rfl⟩
        case measure => simp [intOf]; omega
    · go_wp2
      go_ret
      exact ⟨by rw [HN.out, List.take_of_length_le (by have := HL.out; omega)]; rfl, rfl⟩

/-- What Find answers of a node with these keys. -/
def FindIs (l : List ByteArray) (key : ByteArray) (r : Nat × Bool) : Prop := (r.2 = true ∧ l[r.1]? = some key) ∨ (r.2 = false ∧ key ∉ l ∧ r.1 = cntL (lessK · key) l)
def RetFind (w : World) (l : List ByteArray) (key : ByteArray) (e : Ending) (w' : World) : Prop := ∃ r : Nat × Bool, e = .returned (.tuple #[.int .i64 (r.1 : Int), .bool r.2]) ∧ FindIs l key r ∧ Below w.heap.size w w'

set_option maxHeartbeats 1000000 in
theorem NFind_any (n : Nd) (m : NB) (key : ByteArray) (w : World) (h : NAt w n m) :
    Calls Try.prog 22 #[m.v n.leaf, .string key] w (RetFind w n.keys key) := by
  have HI := Lib.hid (fun W (hb : Below w.heap.size w W) => index_any n.keys key m.ka m.kl m.kc W (h.later hb).karr h.hk h.kmax)
  have HC := Lib.hid (fun c W (hb : Below w.heap.size w W) hc => cntLess_any n.keys key c m.ka m.kl m.kc W hc (h.later hb).karr h.hk h.kmax)
  have hkl := h.hk
  clear h
  obtain ⟨l, ks, cs, ps⟩ := n
  obtain ⟨ka, kl, kc, ca, cl, cc, da, dl, dc⟩ := m
  simp only at *
  have HK := Lib.hid hkl
  clear hkl
  have hB0 := ((Below.refl _ w).alloc (Nat.le_refl _) (.cells #[.bool l, .slice ka kl kc, .slice ca cl cc, .slice da dl dc] 26)).alloc (by simp) (.cells #[.string key] 9)
  have HB0 := Lib.hid hB0
  clear hB0
  generalize hcn : cntL (lessK · key) ks = cn at *
  have HCn := Lib.hid hcn
  clear hcn
  go_enter Try.func22, Try.ntmps22
  go_wp2_with fail
  refine (HI.out _ HB0.out).mono ?_
  rintro e w1 ⟨r, rfl, hr, rfl⟩
  rcases hr with ⟨rfl, hno⟩ | ⟨i, rfl, hi⟩
  · have HNo := Lib.hid hno
    clear hno
    go_wp2_with fail
    refine (HC.out _ _ HB0.out (by simp)).mono ?_
    rintro e w1 ⟨rfl, rfl⟩
    go_wp2
    go_ret2
    exact ⟨(cn, false), rfl, .inr ⟨rfl, HNo.out, HCn.out.symm⟩, HB0.out⟩
  · have HIi := Lib.hid hi
    clear hi
    go_wp2
    go_ret2
    exact ⟨(i, true), rfl, .inl ⟨rfl, HIi.out⟩, HB0.out⟩

set_option maxHeartbeats 1000000 in
theorem NWay_any (n : Nd) (m : NB) (key : ByteArray) (w : World) (h : NAt w n m) :
    Calls Try.prog 24 #[m.v n.leaf, .string key] w fun e w' => e = .returned (.int .i64 ((cntL (leqK · key) n.keys : Nat) : Int)) ∧ Below w.heap.size w w' := by
  have HC := Lib.hid (fun c W (hb : Below w.heap.size w W) hc => cntLeq_any n.keys key c m.ka m.kl m.kc W hc (h.later hb).karr h.hk h.kmax)
  clear h
  obtain ⟨l, ks, cs, ps⟩ := n
  obtain ⟨ka, kl, kc, ca, cl, cc, da, dl, dc⟩ := m
  simp only at *
  have hB0 := ((Below.refl _ w).alloc (Nat.le_refl _) (.cells #[.bool l, .slice ka kl kc, .slice ca cl cc, .slice da dl dc] 26)).alloc (by simp) (.cells #[.string key] 9)
  have HB0 := Lib.hid hB0
  clear hB0
  generalize cntL (leqK · key) ks = cn at *
  go_enter Try.func24, Try.ntmps24
  go_wp2_with fail
  refine (HC.out _ _ HB0.out (by simp)).mono ?_
  rintro e w1 ⟨rfl, rfl⟩
  go_wp2
  go_ret
  exact ⟨rfl, HB0.out⟩
end Go.Proofs.Ytpcgommdlgmknaa

/- The walks of the reference's Find and Way. -/
namespace Go.Proofs.Ytpcgommdlgmknaa
open Go.RowKit

/-- Where the reference's search stands or ends. -/
def Past (p : ByteArray → Bool) (l : List ByteArray) (k : Nat) : Prop := ∀ y ∈ l.take k, p y = true
theorem Past.step {p : ByteArray → Bool} {l : List ByteArray} {k : Nat} {y : ByteArray} (h : Past p l k) (hy : l[k]? = some y) (hp : p y = true) : Past p l (k + 1) := by
  intro z hz
  rw [List.take_add_one, hy] at hz
  rcases List.mem_append.1 hz with hz | hz
  · exact h z hz
  · simp at hz; subst hz; exact hp
def IsRF (l : List ByteArray) (key : ByteArray) (r : Nat × Bool) : Prop := Past (lessK · key) l r.1 ∧ ((r.1 = l.length ∧ r.2 = false) ∨ ∃ y, l[r.1]? = some y ∧ lessK y key = false ∧ r.2 = decide (y = key))
def RetRF (w : World) (l : List ByteArray) (key : ByteArray) (e : Ending) (w' : World) : Prop := ∃ r : Nat × Bool, e = .returned (.tuple #[.int .i64 (r.1 : Int), .bool r.2]) ∧ IsRF l key r ∧ Below w.heap.size w w'
def RetRW (w : World) (l : List ByteArray) (key : ByteArray) (e : Ending) (w' : World) : Prop := ∃ k : Nat, e = .returned (.int .i64 (k : Int)) ∧ Past (leqK · key) l k ∧ (k = l.length ∨ ∃ y, l[k]? = some y ∧ leqK y key = false) ∧ Below w.heap.size w w'

set_option maxRecDepth 100000 in
set_option maxHeartbeats 4000000 in
theorem rFind_any (x : Rn) (m : RB) (key : ByteArray) (w : World) (h : RAt w x m) :
    Calls Try.prog 23 #[m.v x.leaf x.kid, .string key] w (RetRF w (x.l.map Pt.key) key) := by
  have HA := Lib.hid h.arr
  have hll := h.hl
  have hmax := h.max
  clear h
  obtain ⟨leaf, kid, l⟩ := x
  obtain ⟨la, ll, lc⟩ := m
  simp only at *
  have HL := Lib.hid hll
  clear hll
  have HB := Lib.hid (Below.box w (.cells #[.bool leaf, .int .i64 kid, .slice la ll lc] 32))
  go_enter Try.func23, Try.ntmps23
  go_wp2
  go_loop [6] (fun i => ∃ k : Nat, k ≤ ll ∧ i = .int .i64 k ∧ Hid (Past (lessK · key) (l.map Pt.key) k)) (fun i => ll - (intOf i).toNat)
  case atStart => exact ⟨0, by omega, rfl, by intro y hy; simp at hy⟩
  case round =>
    obtain ⟨k, hk, rfl, HI⟩ := hrel
    have v2 : (w.alloc (.cells #[.bool leaf, .int .i64 kid, .slice la ll lc] 32)).cell? ⟨w.heap.size, 2, none⟩ = some (.slice la ll lc) := by simp
    by_cases hlt : k < ll
    · have hkl : k < l.length := by have := HL.out; omega
      obtain ⟨b, o, rfl, hbN, c0, _⟩ := partAt (HA.out.later (N := 0) HB.out) hkl
      have hg : (l.map Pt.key)[k]? = some l[k].key := by rw [List.getElem?_map, List.getElem?_eq_getElem hkl]; rfl
      generalize l[k].key = y at *
      cases hl : lessK y key with
      | true =>
        have HT := Lib.hid (HI.out.step hg hl)
        have q1 : Op.bytesLess y.toList key.toList = true := hl
        clear hg hl
        go_wp2
        go_round
        case rel => exact ⟨k + 1, by omega, by go_num, HT⟩
        case measure => simp [intOf]; omega
      | false =>
        have HE : Hid (∀ r, r = decide (y = key) → RetRF w (l.map Pt.key) key (.returned (.tuple #[.int .i64 (k : Int), .bool r])) (w.alloc (.cells #[.bool leaf, .int .i64 kid, .slice (some ⟨b, o, none⟩) ll lc] 32)).drew) := fun r hr => ⟨(k, r), rfl, ⟨HI.out, .inr ⟨y, hg, hl, hr⟩⟩, HB.out.drew⟩
        have q1 : Op.bytesLess y.toList key.toList = false := hl
        clear hg hl
        have g2 : ∀ W, Later (w.alloc (.cells #[.bool leaf, .int .i64 kid, .slice (some ⟨b, o, none⟩) ll lc] 32)).drew W → W.cell? ⟨w.heap.size, 2, none⟩ = some (.slice (some ⟨b, o, none⟩) ll lc) := fun W h => ((Later.undrew h : Below _ _ W).cell (p := ⟨w.heap.size, 2, none⟩) (by simp)).trans v2
        have g0 : ∀ W, Later (w.alloc (.cells #[.bool leaf, .int .i64 kid, .slice (some ⟨b, o, none⟩) ll lc] 32)).drew W → W.cell? ⟨b, o + k * 4, none⟩ = some (.string y) := fun W h => ((Later.undrew h : Below _ _ W).cell (p := ⟨b, o + k * 4, none⟩) hbN).trans c0
        by_cases hky : y = key
        · have q2 : (y.toList == key.toList) = true := by rw [hky]; simp
          have HE2 := Lib.hid (HE.out true (by simp [hky]))
          clear HE hky
          go_wp2_with fail
          refine wp_region_ord [(0, true), (1, true), (2, true), (3, true), (4, true), (5, true), (6, true), (7, true), (8, true), (9, true), (10, true), (11, true), (12, true), (13, true), (14, true), (15, true), (16, true), (17, true)] (by kernel_rfl) (by kernel_rfl) (by kernel_rfl) (by kernel_rfl) ?_
          repeat (first | (refine wpO_F (v := ?_) rfl (by rfl) (fun w' hL => ?_) ?_; rotate_left; (solve | (go_simp; with_reducible rfl) | go_simp); try simp only [Act.put, List.setIfInBounds_toArray, List.set_cons_zero, List.set_cons_succ]) | (refine wpO_G rfl (by rfl) ?_; try simp only [Act.put, List.setIfInBounds_toArray, List.set_cons_zero, List.set_cons_succ]))
          refine wpO_nil ?_
          clear g0 g2
          go_wp2
          go_ret2
          exact HE2.out
        · have q2 : (y.toList == key.toList) = false := by rw [beq_eq_false_iff_ne]; exact fun h => hky (toList_inj h)
          have HE2 := Lib.hid (HE.out false (by simp [hky]))
          clear HE hky
          go_wp2_with fail
          refine wp_region_ord [(0, true), (1, true), (2, true), (3, true), (4, true), (5, true), (6, true), (7, true), (8, true), (9, true), (10, true), (11, true), (12, true), (13, true), (14, true), (15, true), (16, true), (17, true)] (by kernel_rfl) (by kernel_rfl) (by kernel_rfl) (by kernel_rfl) ?_
          repeat (first | (refine wpO_F (v := ?_) rfl (by rfl) (fun w' hL => ?_) ?_; rotate_left; (solve | (go_simp; with_reducible rfl) | go_simp); try simp only [Act.put, List.setIfInBounds_toArray, List.set_cons_zero, List.set_cons_succ]) | (refine wpO_G rfl (by rfl) ?_; try simp only [Act.put, List.setIfInBounds_toArray, List.set_cons_zero, List.set_cons_succ]))
          refine wpO_nil ?_
          clear g0 g2
          go_wp2
          go_ret2
          exact HE2.out
    · have hkk : k = ll := by omega
      have HE : Hid (RetRF w (l.map Pt.key) key (.returned (.tuple #[.int .i64 (k : Int), .bool false])) (w.alloc (.cells #[.bool leaf, .int .i64 kid, .slice la ll lc] 32)).drew) := ⟨(k, false), rfl, ⟨HI.out, .inl ⟨by rw [List.length_map]; have := HL.out; simp only; omega, rfl⟩⟩, HB.out.drew⟩
      have g2 : ∀ W, Later (w.alloc (.cells #[.bool leaf, .int .i64 kid, .slice la ll lc] 32)).drew W → W.cell? ⟨w.heap.size, 2, none⟩ = some (.slice la ll lc) := fun W h => ((Later.undrew h : Below _ _ W).cell (p := ⟨w.heap.size, 2, none⟩) (by simp)).trans v2
      clear hkk
      go_wp2_with fail
      refine wp_region_ord [(0, true), (1, true), (2, true), (3, true), (4, true), (5, true), (6, true), (7, true), (8, true), (9, true), (10, true), (11, true), (12, true), (13, true), (14, true), (15, true), (16, true), (17, true)] (by kernel_rfl) (by kernel_rfl) (by kernel_rfl) (by kernel_rfl) ?_
      repeat (first | (refine wpO_F (v := ?_) rfl (by rfl) (fun w' hL => ?_) ?_; rotate_left; (solve | (go_simp; with_reducible rfl) | go_simp); try simp only [Act.put, List.setIfInBounds_toArray, List.set_cons_zero, List.set_cons_succ]) | (refine wpO_G rfl (by rfl) ?_; try simp only [Act.put, List.setIfInBounds_toArray, List.set_cons_zero, List.set_cons_succ]))
      refine wpO_nil ?_
      clear g2
      go_wp2
      go_ret2
      exact HE.out

set_option maxRecDepth 100000 in
set_option maxHeartbeats 4000000 in
theorem rWay_any (x : Rn) (m : RB) (key : ByteArray) (w : World) (h : RAt w x m) :
    Calls Try.prog 25 #[m.v x.leaf x.kid, .string key] w (RetRW w (x.l.map Pt.key) key) := by
  have HA := Lib.hid h.arr
  have hll := h.hl
  have hmax := h.max
  clear h
  obtain ⟨leaf, kid, l⟩ := x
  obtain ⟨la, ll, lc⟩ := m
  simp only at *
  have HL := Lib.hid hll
  clear hll
  have HB := Lib.hid (Below.box w (.cells #[.bool leaf, .int .i64 kid, .slice la ll lc] 32))
  go_enter Try.func25, Try.ntmps25
  go_wp2
  go_loop [5] (fun i => ∃ k : Nat, k ≤ ll ∧ i = .int .i64 k ∧ Hid (Past (leqK · key) (l.map Pt.key) k)) (fun i => ll - (intOf i).toNat)
  case atStart => exact ⟨0, by omega, rfl, by intro y hy; simp at hy⟩
  case round =>
    obtain ⟨k, hk, rfl, HI⟩ := hrel
    have v2 : (w.alloc (.cells #[.bool leaf, .int .i64 kid, .slice la ll lc] 32)).cell? ⟨w.heap.size, 2, none⟩ = some (.slice la ll lc) := by simp
    by_cases hlt : k < ll
    · have hkl : k < l.length := by have := HL.out; omega
      obtain ⟨b, o, rfl, hbN, c0, _⟩ := partAt (HA.out.later (N := 0) HB.out) hkl
      have hg : (l.map Pt.key)[k]? = some l[k].key := by rw [List.getElem?_map, List.getElem?_eq_getElem hkl]; rfl
      generalize l[k].key = y at *
      have hways : (leqK y key = true ∧ ((Op.bytesLess y.toList key.toList = true) ∨ (Op.bytesLess y.toList key.toList = false ∧ (y.toList == key.toList) = true))) ∨ (leqK y key = false ∧ Op.bytesLess y.toList key.toList = false ∧ (y.toList == key.toList) = false) := by
        unfold leqK
        cases Op.bytesLess y.toList key.toList <;> cases (y.toList == key.toList) <;> simp
      rcases hways with ⟨hl, hw2⟩ | ⟨hl, q1, q2⟩
      · have HT := Lib.hid (HI.out.step hg hl)
        clear hg hl
        rcases hw2 with q1 | ⟨q1, q2⟩
        · go_wp2
          go_round
          case rel => exact ⟨k + 1, by omega, by go_num, HT⟩
          case measure => simp [intOf]; omega
        · go_wp2
          go_round
          case rel => exact ⟨k + 1, by omega, by go_num, HT⟩
          case measure => simp [intOf]; omega
      · have HE : Hid (RetRW w (l.map Pt.key) key (.returned (.int .i64 (k : Int))) (w.alloc (.cells #[.bool leaf, .int .i64 kid, .slice (some ⟨b, o, none⟩) ll lc] 32))) := ⟨k, rfl, HI.out, .inr ⟨y, hg, hl⟩, HB.out⟩
        clear hg hl
        go_wp2
        go_ret
        exact HE.out
    · have hkk : k = ll := by omega
      have HE : Hid (RetRW w (l.map Pt.key) key (.returned (.int .i64 (k : Int))) (w.alloc (.cells #[.bool leaf, .int .i64 kid, .slice la ll lc] 32))) := ⟨k, rfl, HI.out, .inl (by rw [List.length_map]; have := HL.out; omega), HB.out⟩
      clear hkk
      go_wp2
      go_ret
      exact HE.out
end Go.Proofs.Ytpcgommdlgmknaa

/- The mathematics of finding in sorted keys. -/
namespace Go.Proofs.Ytpcgommdlgmknaa
open Go.RowKit

theorem lessK_iff (a b : ByteArray) : lessK a b = true ↔ a.toList < b.toList := by
  unfold lessK; rw [less_lt]; simp
theorem lessK_trans {a b c : ByteArray} (h : lessK a b = true) (k : lessK b c = true) : lessK a c = true :=
  (lessK_iff a c).2 (List.lt_trans ((lessK_iff a b).1 h) ((lessK_iff b c).1 k))
theorem lessK_irrefl (a : ByteArray) : lessK a a = false := by
  cases h : lessK a a with
  | false => rfl
  | true => exact absurd ((lessK_iff a a).1 h) (List.lt_irrefl _)
theorem leqK_iff (a b : ByteArray) : leqK a b = true ↔ lessK a b = true ∨ a = b := by
  unfold leqK lessK
  rw [Bool.or_eq_true, beq_iff_eq]
  exact ⟨fun h => h.imp id toList_inj, fun h => h.imp id (fun h => by rw [h])⟩
theorem leqK_trans_less {a b c : ByteArray} (h : lessK a b = true) (k : leqK b c = true) : leqK a c = true := by
  rw [leqK_iff] at *
  rcases k with k | rfl
  · exact .inl (lessK_trans h k)
  · exact .inl h

/-- Keys in order: an earlier one is less. -/
theorem KeysOk.lt {l : List ByteArray} (h : KeysOk l) : ∀ (d i : Nat) (x y : ByteArray), l[i]? = some x → l[i + d + 1]? = some y → lessK x y = true
  | 0, i, x, y, hx, hy => (h (i + 0 + 1) y hy).2 (by omega) x (by rw [show i + 0 + 1 - 1 = i by omega]; exact hx)
  | d + 1, i, x, y, hx, hy => by
    have hlt := (List.getElem?_eq_some_iff.1 hy).1
    have hz := List.getElem?_eq_getElem (show i + d + 1 < l.length by omega)
    exact lessK_trans (KeysOk.lt h d i x _ hx hz) ((h (i + (d + 1) + 1) y hy).2 (by omega) _ (by rw [show i + (d + 1) + 1 - 1 = i + d + 1 by omega]; exact hz))
theorem KeysOk.lt' {l : List ByteArray} (h : KeysOk l) {i j : Nat} {x y : ByteArray} (hij : i < j) (hx : l[i]? = some x) (hy : l[j]? = some y) : lessK x y = true :=
  h.lt (j - i - 1) i x y hx (by rw [show i + (j - i - 1) + 1 = j by omega]; exact hy)

/-- Those before hold, those from there on don't: so many hold. -/
theorem cntL_past {p : ByteArray → Bool} {l : List ByteArray} {k : Nat} (hk : k ≤ l.length) (h : Past p l k) (hn : ∀ j y, k ≤ j → l[j]? = some y → p y = false) : cntL p l = k := by
  unfold cntL
  conv => lhs; rw [← List.take_append_drop k l]
  rw [List.filter_append, List.filter_eq_self.2 h, List.filter_eq_nil_iff.2, List.append_nil, List.length_take]
  · omega
  · intro y hy
    obtain ⟨i, hi⟩ := List.getElem?_of_mem hy
    rw [List.getElem?_drop] at hi
    simp [hn (k + i) y (by omega) hi]

theorem way_eq {l : List ByteArray} {key : ByteArray} {k : Nat} (hok : KeysOk l) (h : Past (leqK · key) l k) (he : k = l.length ∨ ∃ y, l[k]? = some y ∧ leqK y key = false) : cntL (leqK · key) l = k := by
  rcases he with rfl | ⟨y, hy, hn⟩
  · exact cntL_past (Nat.le_refl _) h (fun j y hj hy => by have := (List.getElem?_eq_some_iff.1 hy).1; omega)
  · refine cntL_past (by have := (List.getElem?_eq_some_iff.1 hy).1; omega) h (fun j z hj hz => ?_)
    by_cases hjk : j = k
    · subst hjk; rw [hy] at hz; rw [← Option.some.inj hz]; exact hn
    · cases hq : leqK z key with
      | false => rfl
      | true =>
        have := leqK_trans_less (hok.lt' (show k < j by omega) hy hz) hq
        rw [hn] at this; cases this

theorem find_eq {l : List ByteArray} {key : ByteArray} {r r' : Nat × Bool} (hok : KeysOk l) (h : FindIs l key r) (h' : IsRF l key r') : r = r' := by
  obtain ⟨a, b⟩ := r
  obtain ⟨c, d⟩ := r'
  unfold FindIs at h
  unfold IsRF at h'
  simp only at h h'
  obtain ⟨hp, he⟩ := h'
  have hge : ∀ i, l[i]? = some key → c ≤ i := by
    intro i hi
    rcases Nat.lt_or_ge i c with hlt | hge
    · have := hp key (List.mem_of_getElem? (i := i) (by rw [List.getElem?_take, if_pos hlt]; exact hi))
      simp only [lessK_irrefl] at this; cases this
    · exact hge
  rcases h with ⟨rfl, hi⟩ | ⟨rfl, hno, rfl⟩
  · have hca := hge a hi
    rcases he with ⟨rfl, rfl⟩ | ⟨y, hy, hn, rfl⟩
    · have := (List.getElem?_eq_some_iff.1 hi).1; omega
    · by_cases hac : a = c
      · subst hac
        rw [hi] at hy
        obtain rfl := Option.some.inj hy
        simp
      · have := hok.lt' (show c < a by omega) hy hi
        rw [hn] at this; cases this
  · rcases he with ⟨rfl, rfl⟩ | ⟨y, hy, hn, rfl⟩
    · rw [cntL_past (Nat.le_refl _) hp (fun j y hj hy => by have := (List.getElem?_eq_some_iff.1 hy).1; omega)]
    · have hne : y ≠ key := by rintro rfl; exact hno (List.mem_of_getElem? hy)
      rw [decide_eq_false hne]
      congr 1
      refine cntL_past (by have := (List.getElem?_eq_some_iff.1 hy).1; omega) hp (fun j z hj hz => ?_)
      by_cases hjk : j = c
      · subst hjk; rw [hy] at hz; rw [← Option.some.inj hz]; exact hn
      · cases hq : lessK z key with
        | false => rfl
        | true =>
          have := lessK_trans (hok.lt' (show c < j by omega) hy hz) hq
          rw [hn] at this; cases this
end Go.Proofs.Ytpcgommdlgmknaa
