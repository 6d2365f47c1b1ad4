/- Several texts of one proof, one behind the other. -/
import Derived.Test.YtapbhhehnbfdfaaWPk7
import Derived.Deep.MidRow
import Derived.Lib.Hide
import Derived.Laws.OwnMore
set_option linter.unusedSimpArgs false
set_option linter.unusedVariables false

/- The walks of Count, Great, deep over an expression's tree. -/
set_option linter.unusedSimpArgs false
set_option linter.unusedVariables false
set_option maxRecDepth 100000
namespace Go.Proofs.Ytapbhhehnbfdfaa
open Go.RowKit

def cntTo (args : List Ex) (least k : Nat) : Nat := min (least + 1 + ((args.take k).map Rose.count).sum) 3000
theorem sum_take_succ {l : List Ex} {k : Nat} (hk : k < l.length) : ((l.take (k + 1)).map Rose.count).sum = ((l.take k).map Rose.count).sum + l[k].count := by
  rw [List.take_succ_eq_append_getElem hk, List.map_append, List.sum_append]; simp
theorem cntTo_succ {args : List Ex} {least k : Nat} (hk : k < args.length) : cntTo args least (k + 1) = min (cntTo args least k + args[k].count) 3000 := by
  unfold cntTo; rw [sum_take_succ hk]; omega
theorem cntTo_le (args : List Ex) (least k : Nat) : cntTo args least k ≤ 3000 := by unfold cntTo; omega
theorem sum_take_le (l : List Ex) (k : Nat) : ((l.take k).map Rose.count).sum ≤ (l.map Rose.count).sum := by
  have h : (l.map Rose.count).sum = ((l.take k).map Rose.count).sum + ((l.drop k).map Rose.count).sum := by
    rw [← List.sum_append, ← List.map_append, List.take_append_drop]
  omega
theorem cntTo_end (e : Ex) (least : Nat) : cntTo e.args least e.args.length = min (least + e.count) 3000 := by
  unfold cntTo; rw [List.take_length, Rose.count_eq]; congr 1; omega
theorem cntTo_full {e : Ex} {least k : Nat} (h : 3000 ≤ cntTo e.args least k) : cntTo e.args least k = min (least + e.count) 3000 := by
  have h1 := sum_take_le e.args k
  have h2 := e.count_eq
  unfold cntTo at h ⊢; omega

def depTo (args : List Ex) (most k : Nat) : Nat := min most (1 + maxL ((args.take k).map Rose.depth))
theorem maxL_take_succ {l : List Ex} {k : Nat} (hk : k < l.length) : maxL ((l.take (k + 1)).map Rose.depth) = max (maxL ((l.take k).map Rose.depth)) l[k].depth := by
  rw [List.take_succ_eq_append_getElem hk, List.map_append]; simp [maxL_snoc]
theorem depTo_succ {args : List Ex} {most k : Nat} (hk : k < args.length) (h : depTo args most k ≠ most) : depTo args most (k + 1) = max (depTo args most k) (1 + min args[k].depth (most - 1)) := by
  have := args[k].depth_pos
  unfold depTo at h ⊢; rw [maxL_take_succ hk]; omega
theorem maxL_take_le (l : List Ex) (k : Nat) : maxL ((l.take k).map Rose.depth) ≤ maxL (l.map Rose.depth) := by
  rw [maxL_le]
  intro x hx
  obtain ⟨y, hy, rfl⟩ := List.mem_map.1 hx
  exact maxL_mem (List.mem_map.2 ⟨y, List.mem_of_mem_take hy, rfl⟩)
theorem depTo_end (e : Ex) (most : Nat) : depTo e.args most e.args.length = min e.depth most := by
  unfold depTo; rw [List.take_length, Rose.depth_eq]; omega
theorem depTo_full {e : Ex} {most k : Nat} (h : depTo e.args most k = most) : min e.depth most = most := by
  have h1 := maxL_take_le e.args k
  have h2 := e.depth_eq
  unfold depTo at h; omega
theorem depTo_le (args : List Ex) (most k : Nat) : depTo args most k ≤ most := by unfold depTo; omega

theorem ret_k {a b : Nat} (h : a = b) : Ending.returned (.int .i64 (a : Int)) = .returned (.int .i64 (b : Int)) := by rw [h]
/-- The cells of an argument. -/
structure KidAt (w : World) (b o : Nat) (y : XM) : Prop where
  c0 : w.cell? ⟨b, o, none⟩ = some (.int .i64 y.t.lab.kd)
  c1 : w.cell? ⟨b, o + 1, none⟩ = some (.int .u8 y.t.lab.v.k)
  c2 : w.cell? ⟨b, o + 2, none⟩ = some (.int .i64 y.t.lab.v.n)
  c3 : w.cell? ⟨b, o + 3, none⟩ = some (.string y.t.lab.v.s)
  c4 : w.cell? ⟨b, o + 4, none⟩ = some (.string y.t.lab.tb)
  c5 : w.cell? ⟨b, o + 5, none⟩ = some (.string y.t.lab.nm)
  c6 : w.cell? ⟨b, o + 6, none⟩ = some (.string y.t.lab.op)
  c7 : w.cell? ⟨b, o + 7, none⟩ = some (.slice y.a y.t.args.length y.cap)
theorem XAt.kid8 {N : Nat} {w : World} {n : Nat} {x : XM} (h : XAt N w (n + 1) x) {k : Nat} (hk : k < x.t.args.length) :
    ∃ y : XM, y.t = x.t.args[k] ∧ XAt N w n y ∧ ∃ b o, x.a = some ⟨b, o, none⟩ ∧ b < N ∧ KidAt w b (o + k * 8) y := by
  obtain ⟨y, h1, h2, b, o, h3, h4, h5⟩ := h.kid hk
  exact ⟨y, h1, h2, b, o, h3, h4, h5 0 _ rfl, h5 1 _ rfl, h5 2 _ rfl, h5 3 _ rfl, h5 4 _ rfl, h5 5 _ rfl, h5 6 _ rfl, h5 7 _ rfl⟩

/-- The argument of a call, spelled. -/
def XM.s (x : XM) : Value := .agg #[.int .i64 x.t.lab.kd, .int .u8 x.t.lab.v.k, .int .i64 x.t.lab.v.n, .string x.t.lab.v.s, .string x.t.lab.tb, .string x.t.lab.nm, .string x.t.lab.op, .slice x.a x.t.args.length x.cap]

end Go.Proofs.Ytapbhhehnbfdfaa

/- Nodes as trees in memory; the walks of law 23's Count and Great. Written by wip/gen/genpn1.py from XETree. -/
set_option linter.unusedSimpArgs false
set_option linter.unusedVariables false
set_option maxRecDepth 100000
namespace Go.Proofs.Ytapbhhehnbfdfaa
open Go.RowKit

abbrev Nx := Rose NLb
structure NLb.fair (l : NLb) : Prop where
  kd : -9223372036854775808 ≤ l.kd ∧ l.kd ≤ 9223372036854775807
  op : l.op.size ≤ 9223372036854775807
  k : l.v.k < 256
  n : -9223372036854775808 ≤ l.v.n ∧ l.v.n ≤ 9223372036854775807
  s : l.v.s.size ≤ 9223372036854775807
  sl : -9223372036854775808 ≤ l.sl ∧ l.sl ≤ 9223372036854775807
  ty : l.ty < 256
/-- The node's arguments lie in blocks below N. -/
def NdAt (N : Nat) (w : World) (n : Nat) (x : NM) : Prop := RoseAt NLb.fair NLb.cells N w n x
theorem NdAt.below {N : Nat} {w w' : World} {n : Nat} {x : NM} (h : NdAt N w n x) (hb : Below N w w') : NdAt N w' n x := RoseAt.below hb h
theorem NdAt.mono {N M : Nat} {w : World} {n : Nat} {x : NM} (h : NdAt N w n x) (hM : N ≤ M) : NdAt M w n x := RoseAt.mono hM h
theorem NdAt.later {w w' : World} {n : Nat} {x : NM} (h : NdAt w.heap.size w n x) (hb : Below w.heap.size w w') : NdAt w'.heap.size w' n x := RoseAt.later h hb
theorem NdAt.pos {N : Nat} {w : World} {n : Nat} {x : NM} (h : NdAt N w n x) : 0 < n := RoseAt.pos h
theorem NdAt.fair {N : Nat} {w : World} {n : Nat} {x : NM} (h : NdAt N w n x) : x.t.lab.fair ∧ x.t.args.length ≤ x.cap ∧ x.cap ≤ 9223372036854775807 := RoseAt.fair h
def NM.nv (x : NM) : Value := .agg (cellsNd x).toArray
theorem NM.nv_eq (x : NM) : x.nv = .agg #[.int .i64 x.t.lab.kd, .string x.t.lab.op, .int .u8 x.t.lab.v.k, .int .i64 x.t.lab.v.n, .string x.t.lab.v.s, .int .i64 x.t.lab.sl, .int .u8 (x.t.lab.ty : Int), .slice x.a x.t.args.length x.cap] := rfl
/-- The cells of an argument. -/
structure KidNd (w : World) (b o : Nat) (y : NM) : Prop where
  c0 : w.cell? ⟨b, o, none⟩ = some (.int .i64 y.t.lab.kd)
  c1 : w.cell? ⟨b, o + 1, none⟩ = some (.string y.t.lab.op)
  c2 : w.cell? ⟨b, o + 2, none⟩ = some (.int .u8 y.t.lab.v.k)
  c3 : w.cell? ⟨b, o + 3, none⟩ = some (.int .i64 y.t.lab.v.n)
  c4 : w.cell? ⟨b, o + 4, none⟩ = some (.string y.t.lab.v.s)
  c5 : w.cell? ⟨b, o + 5, none⟩ = some (.int .i64 y.t.lab.sl)
  c6 : w.cell? ⟨b, o + 6, none⟩ = some (.int .u8 (y.t.lab.ty : Int))
  c7 : w.cell? ⟨b, o + 7, none⟩ = some (.slice y.a y.t.args.length y.cap)
theorem NdAt.kid8 {N : Nat} {w : World} {n : Nat} {x : NM} (h : NdAt N w (n + 1) x) {k : Nat} (hk : k < x.t.args.length) :
    ∃ y : NM, y.t = x.t.args[k] ∧ NdAt N w n y ∧ ∃ b o, x.a = some ⟨b, o, none⟩ ∧ b < N ∧ KidNd w b (o + k * 8) y := by
  obtain ⟨y, h1, h2, b, o, h3, h4, h5⟩ := RoseAt.kid NLb.cells_len h hk
  exact ⟨y, h1, h2, b, o, h3, h4, h5 0 _ rfl, h5 1 _ rfl, h5 2 _ rfl, h5 3 _ rfl, h5 4 _ rfl, h5 5 _ rfl, h5 6 _ rfl, h5 7 _ rfl⟩
def NLb.big (l : NLb) (n : Nat) : Bool := decide (6 < n) || decide (40 < l.op.size) || decide (200 < l.v.s.size)
def greatN : Nat → Nx → Bool
  | 0, _ => true
  | n + 1, e => e.lab.big e.args.length || e.args.any (greatN n)

def cntN (args : List Nx) (least k : Nat) : Nat := min (least + 1 + ((args.take k).map Rose.count).sum) 3000
theorem sumN_take_succ {l : List Nx} {k : Nat} (hk : k < l.length) : ((l.take (k + 1)).map Rose.count).sum = ((l.take k).map Rose.count).sum + l[k].count := by
  rw [List.take_succ_eq_append_getElem hk, List.map_append, List.sum_append]; simp
theorem cntN_succ {args : List Nx} {least k : Nat} (hk : k < args.length) : cntN args least (k + 1) = min (cntN args least k + args[k].count) 3000 := by
  unfold cntN; rw [sumN_take_succ hk]; omega
theorem cntN_le (args : List Nx) (least k : Nat) : cntN args least k ≤ 3000 := by unfold cntN; omega
theorem sumN_take_le (l : List Nx) (k : Nat) : ((l.take k).map Rose.count).sum ≤ (l.map Rose.count).sum := by
  have h : (l.map Rose.count).sum = ((l.take k).map Rose.count).sum + ((l.drop k).map Rose.count).sum := by
    rw [← List.sum_append, ← List.map_append, List.take_append_drop]
  omega
theorem cntN_end (e : Nx) (least : Nat) : cntN e.args least e.args.length = min (least + e.count) 3000 := by
  unfold cntN; rw [List.take_length, Rose.count_eq]; congr 1; omega
theorem cntN_full {e : Nx} {least k : Nat} (h : 3000 ≤ cntN e.args least k) : cntN e.args least k = min (least + e.count) 3000 := by
  have h1 := sumN_take_le e.args k
  have h2 := e.count_eq
  unfold cntN at h ⊢; omega

set_option maxHeartbeats 2000000 in
theorem nCnt_any : ∀ (n : Nat) (x : NM) (w : World) (least : Nat), NdAt w.heap.size w n x → least ≤ 2999 →
    Calls Try.prog 24 #[x.nv, .int .i64 (least : Int)] w fun e w' => e = .returned (.int .i64 ((min (least + x.t.count) 3000 : Nat) : Int)) ∧ Below w.heap.size w w'
  | 0, _, _, _, h, _ => h.elim
  | n + 1, ⟨t, a, cap⟩, w, least, h, hl => by
    rw [NM.nv_eq]
    have HA := Lib.hid h
    have hlen := h.fair.2.1
    have hcap := h.fair.2.2
    simp only at hlen hcap ⊢
    obtain ⟨r, hr⟩ : ∃ r : Nat, min (least + t.count) 3000 = r := ⟨_, rfl⟩
    have HE := Lib.hid (cntN_end t least)
    have HFu := Lib.hid (fun k => @cntN_full t least k)
    rw [hr] at HE HFu ⊢
    clear hr
    obtain ⟨m, hm⟩ : ∃ m, t.args.length = m := ⟨_, rfl⟩
    rw [hm] at hlen
    have HM := Lib.hid hm
    have IH : Hid (∀ (y : NM) (W : World) (q : Nat), NdAt W.heap.size W n y → q ≤ 2999 → Calls Try.prog 24 #[.agg #[.int .i64 y.t.lab.kd, .string y.t.lab.op, .int .u8 y.t.lab.v.k, .int .i64 y.t.lab.v.n, .string y.t.lab.v.s, .int .i64 y.t.lab.sl, .int .u8 (y.t.lab.ty : Int), .slice y.a y.t.args.length y.cap], .int .i64 (q : Int)] W fun e w' => e = .returned (.int .i64 ((min (q + y.t.count) 3000 : Nat) : Int)) ∧ Below W.heap.size W w') := fun y W q hy hq => by
      have := nCnt_any n y W q hy hq
      rw [NM.nv_eq] at this; exact this
    rw [hm]
    have HS := Lib.hid (Slot8.new w 26 (.int .i64 t.lab.kd) (.string t.lab.op) (.int .u8 t.lab.v.k) (.int .i64 t.lab.v.n) (.string t.lab.v.s) (.int .i64 t.lab.sl) (.int .u8 (t.lab.ty : Int)) (.slice a m cap))
    obtain ⟨w0, hw0⟩ : ∃ w0, w.alloc (.cells #[.int .i64 t.lab.kd, .string t.lab.op, .int .u8 t.lab.v.k, .int .i64 t.lab.v.n, .string t.lab.v.s, .int .i64 t.lab.sl, .int .u8 (t.lab.ty : Int), .slice a m cap] 26) = w0 := ⟨_, rfl⟩
    have HB0 : Hid (Below w.heap.size w w0) := by rw [← hw0]; exact (Below.refl _ w).alloc (Nat.le_refl _) _
    have hs0 : w.heap.size < w0.heap.size := by rw [← hw0]; simp
    rw [hw0] at HS
    have HQ : Hid ((least : Int) + 1 = ((cntN t.args least 0 : Nat) : Int)) := by unfold cntN; simp [Hid]; omega
    clear h hm
    have HC := Lib.hid (fun k (hk : k < t.args.length) => @cntN_succ t.args least k hk)
    have HC3 := Lib.hid (cntN_le t.args least)
    generalize cntN t.args least = C at *
    go_enter Try.func24, Try.ntmps24
    go_wp2
    go_loopw [5, 6] (fun c i wr => ∃ k : Nat, k ≤ m ∧ i = .int .i64 (k : Int) ∧ c = .int .i64 ((C k : Nat) : Int) ∧ Hid (Below w0.heap.size w0 wr)) (fun _ i _ => m - (intOf i).toNat)
    case atStart => exact ⟨0, by omega, rfl, by rw [← HQ.out], Below.refl _ _⟩
    case round =>
      obtain ⟨k, hk, rfl, rfl, HBr⟩ := hrel
      have hc3 := HC3.out k
      obtain ⟨x0, x1, x2, x3, x4, x5, x6, x7⟩ := HS.out.later hs0 HBr.out
      by_cases hlt : k < m
      · by_cases hlc : C k < 3000
        · have HBw := Lib.hid (HB0.out.trans (HBr.out.mono HB0.out.size))
          obtain ⟨y, hy, hAy, b, o, hab, hbN, hKid⟩ := (HA.out.later HBw.out).kid8 (k := k) (by rw [HM.out]; exact hlt)
          simp only at hab
          subst hab
          have HCk := HC.out k (by rw [HM.out]; exact hlt)
          rw [← hy] at HCk
          have HCk := Lib.hid HCk
          have HY := Lib.hid (IH.out y wr (C k) hAy (by omega))
          obtain ⟨y0, y1, y2, y3, y4, y5, y6, y7⟩ := hKid
          clear hy hAy HA IH HFu HE
          go_wp2_with fail
          refine HY.out.mono ?_
          rintro e w2 ⟨rfl, hb2⟩
          have HB2 := Lib.hid (HBr.out.trans (hb2.mono HBr.out.size))
          clear hb2 HY y0 y1 y2 y3 y4 y5 y6 y7 x0 x1 x2 x3 x4 x5 x6 x7
          go_wp2
          go_roundw
          case rel => exact ⟨k + 1, by omega, by go_num, by rw [HCk.out], HB2.out⟩
          case measure => simp [intOf]; omega
        · have q1 : decide (C k < 3000) = false := by simpa using hlc
          have HR : Hid (C k = r) := HFu.out k (by omega)
          go_wp2
          go_ret
          exact ⟨ret_k HR.out, HB0.out.trans (HBr.out.mono HB0.out.size)⟩
      · have q0 : decide (k < m) = false := by simpa using hlt
        have HR : Hid (C k = r) := by rw [show k = m by omega, ← HM.out]; exact HE.out
        go_wp2
        go_ret
        exact ⟨ret_k HR.out, HB0.out.trans (HBr.out.mono HB0.out.size)⟩

set_option maxHeartbeats 2000000 in
theorem nGreat_any : ∀ (n : Nat) (x : NM) (w : World) (left : Nat), NdAt w.heap.size w n x → left ≤ 1000 →
    Calls Try.prog 25 #[x.nv, .int .i64 (left : Int)] w fun e w' => e = .returned (.bool (greatN left x.t)) ∧ Below w.heap.size w w'
  | 0, _, _, _, h, _ => h.elim
  | n + 1, ⟨t, a, cap⟩, w, left, h, hl => by
    rw [NM.nv_eq]
    have HA := Lib.hid h
    have hlen := h.fair.2.1
    have hcap := h.fair.2.2
    have hF := h.fair.1
    simp only at hlen hcap hF ⊢
    obtain ⟨r, hr⟩ : ∃ r, greatN left t = r := ⟨_, rfl⟩
    rw [hr]
    have hs3 := hF.s
    have hs6 := hF.op
    obtain ⟨m, hm⟩ : ∃ m, t.args.length = m := ⟨_, rfl⟩
    rw [hm] at hlen ⊢
    have HM := Lib.hid hm
    have HB0 : Hid (∀ o, Below w.heap.size w (w.alloc o)) := fun o => (Below.refl _ w).alloc (Nat.le_refl _) _
    by_cases hbig : left = 0 ∨ t.lab.big m = true
    · have hrt : r = true := by
        rw [← hr]
        cases left with
        | zero => rfl
        | succ l => rcases hbig with h0 | h0
                    · omega
                    · rw [greatN, hm, h0]; rfl
      subst hrt
      clear hr h hm HM HA hF
      rcases hbig with hbig | hbig
      · have q0 : ((left : Int) == 0) = true := by simp; omega
        clear hbig hl
        go_enter Try.func25, Try.ntmps25
        go_wp2
        all_goals (go_ret; exact ⟨rfl, HB0.out _⟩)
      · unfold NLb.big at hbig
        simp only [Bool.or_eq_true, decide_eq_true_iff] at hbig
        go_enter Try.func25, Try.ntmps25
        go_wp2
        all_goals first | (go_ret; exact ⟨rfl, HB0.out _⟩) | (exfalso; omega)
    · obtain ⟨l, rfl⟩ : ∃ l, left = l + 1 := ⟨left - 1, by have : ¬ left = 0 := fun h => hbig (.inl h); omega⟩
      have hb2 : t.lab.big m = false := by
        cases hb : t.lab.big m with
        | true => exact absurd (.inr hb) hbig
        | false => rfl
      rw [greatN, hm, hb2, Bool.false_or] at hr
      unfold NLb.big at hb2
      simp only [Bool.or_eq_false_iff, decide_eq_false_iff_not] at hb2
      obtain ⟨⟨g1, g2⟩, g3⟩ := hb2
      have HR := Lib.hid hr
      have IH : Hid (∀ (y : NM) (W : World), NdAt W.heap.size W n y → Calls Try.prog 25 #[.agg #[.int .i64 y.t.lab.kd, .string y.t.lab.op, .int .u8 y.t.lab.v.k, .int .i64 y.t.lab.v.n, .string y.t.lab.v.s, .int .i64 y.t.lab.sl, .int .u8 (y.t.lab.ty : Int), .slice y.a y.t.args.length y.cap], .int .i64 (l : Int)] W fun e w' => e = .returned (.bool (greatN l y.t)) ∧ Below W.heap.size W w') := fun y W hy => by
        have := nGreat_any n y W l hy (by omega)
        rw [NM.nv_eq] at this; exact this
      have HS := Lib.hid (Slot8.new w 26 (.int .i64 t.lab.kd) (.string t.lab.op) (.int .u8 t.lab.v.k) (.int .i64 t.lab.v.n) (.string t.lab.v.s) (.int .i64 t.lab.sl) (.int .u8 (t.lab.ty : Int)) (.slice a m cap))
      have q0 : ((((l + 1 : Nat) : Int)) == 0) = false := by simp; omega
      have q1 : decide ((6 : Int) < (m : Int)) = false := by simp; omega
      have q2 : decide ((40 : Int) < (t.lab.op.size : Int)) = false := by simp; omega
      have q3 : decide ((200 : Int) < (t.lab.v.s.size : Int)) = false := by simp; omega
      have hl1 : IntKind.i64.wrap (((l + 1 : Nat) : Int) - 1) = (l : Int) := by rw [show ((l + 1 : Nat) : Int) - 1 = (l : Int) by omega]; exact IntWalk.i64_in _ (by omega)
      clear h hm hbig hr hF
      obtain ⟨w0, hw0⟩ : ∃ w0, w.alloc (.cells #[.int .i64 t.lab.kd, .string t.lab.op, .int .u8 t.lab.v.k, .int .i64 t.lab.v.n, .string t.lab.v.s, .int .i64 t.lab.sl, .int .u8 (t.lab.ty : Int), .slice a m cap] 26) = w0 := ⟨_, rfl⟩
      have HB1 : Hid (Below w.heap.size w w0) := by rw [← hw0]; exact HB0.out _
      have hs0 : w.heap.size < w0.heap.size := by rw [← hw0]; simp
      rw [hw0] at HS
      generalize hL : ((l + 1 : Nat) : Int) = L at *
      clear HB0
      obtain ⟨x0, x1, x2, x3, x4, x5, x6, x7⟩ := HS.out
      go_enter Try.func25, Try.ntmps25
      go_wp2
      clear x0 x1 x2 x3 x4 x5 x6 x7
      go_loopw [5] (fun i wr => ∃ k : Nat, k ≤ m ∧ i = .int .i64 (k : Int) ∧ Hid ((t.args.take k).any (greatN l) = false) ∧ Hid (Below w0.heap.size w0 wr)) (fun i _ => m - (intOf i).toNat)
      case atStart => exact ⟨0, by omega, rfl, by simp [Hid], Below.refl _ _⟩
      case round =>
        obtain ⟨k, hk, rfl, HG, HBr⟩ := hrel
        obtain ⟨x0, x1, x2, x3, x4, x5, x6, x7⟩ := HS.out.later hs0 HBr.out
        have HBw := Lib.hid (HB1.out.trans (HBr.out.mono HB1.out.size))
        by_cases hlt : k < m
        · have hkl : k < t.args.length := by rw [HM.out]; exact hlt
          obtain ⟨y, hy, hAy, b, o, hab, hbN, hKid⟩ := (HA.out.later HBw.out).kid8 (k := k) hkl
          simp only at hab hy
          subst hab
          have HTk : Hid ((t.args.take (k + 1)).any (greatN l) = (greatN l y.t)) := by
            rw [List.take_succ_eq_append_getElem hkl, List.any_append, HG.out, ← hy]; simp [Hid]
          have HTr : Hid (greatN l y.t = true → r = true) := fun hg => by
            rw [← HR.out, List.any_eq_true]
            exact ⟨_, List.getElem_mem hkl, by rw [← hy]; exact hg⟩
          have HY := Lib.hid (IH.out y wr hAy)
          obtain ⟨g, hg⟩ : ∃ g, greatN l y.t = g := ⟨_, rfl⟩
          rw [hg] at HY HTk HTr
          obtain ⟨y0, y1, y2, y3, y4, y5, y6, y7⟩ := hKid
          clear hy hAy HA IH hg hkl HG
          cases g with
          | true =>
            have hrt : r = true := HTr.out rfl
            subst hrt
            go_wp2_with fail
            refine HY.out.mono ?_
            rintro e w2 ⟨rfl, hb2⟩
            have HB2 := Lib.hid (HBw.out.trans (hb2.mono HBw.out.size))
            clear hb2 HY
            go_wp2
            go_ret
            exact ⟨rfl, HB2.out⟩
          | false =>
            go_wp2_with fail
            refine HY.out.mono ?_
            rintro e w2 ⟨rfl, hb2⟩
            have HB2 := Lib.hid (HBr.out.trans (hb2.mono HBr.out.size))
            clear hb2 HY y0 y1 y2 y3 y4 y5 y6 y7 x0 x1 x2 x3 x4 x5 x6 x7
            go_wp2
            go_roundw
            case rel => exact ⟨k + 1, by omega, by go_num, HTk.out, HB2.out⟩
            case measure => simp [intOf]; omega
        · have hrf : r = false := by
            have := HG.out
            rw [show k = m by omega, ← HM.out, List.take_length] at this
            rw [← HR.out]; exact this
          subst hrf
          go_wp2
          go_ret
          exact ⟨rfl, HBw.out⟩
end Go.Proofs.Ytapbhhehnbfdfaa

/- What a call may change: footprints; blocks that are known whole; regions that draw their order and write memory of their own. -/
set_option linter.unusedSimpArgs false
set_option linter.unusedVariables false
set_option maxRecDepth 100000
namespace Go.Proofs.Ytapbhhehnbfdfaa
open Go.RowKit

/-- But for the blocks S the world w' is as w was. -/
structure Chg (S : List Nat) (w w' : World) : Prop where
  os : w'.os = w.os
  tape : w'.tape = w.tape
  output : w'.output = w.output
  size : w.heap.size ≤ w'.heap.size
  block : ∀ k, k < w.heap.size → k ∉ S → w'.heap[k]? = w.heap[k]?

/-- Of the blocks S' each is of S or new. -/
def Frsh (w : World) (S S' : List Nat) : Prop := ∀ k, k ∈ S' → k ∈ S ∨ w.heap.size ≤ k

theorem Frsh.refl (w : World) (S : List Nat) : Frsh w S S := fun _ h => .inl h
theorem Chg.refl (S : List Nat) (w : World) : Chg S w w := ⟨rfl, rfl, rfl, Nat.le_refl _, fun _ _ _ => rfl⟩
theorem Chg.trans' {S S1 : List Nat} {a b c : World} (h : Chg S a b) (f : Frsh a S S1) (k : Chg S1 b c) : Chg S a c :=
  ⟨k.os.trans h.os, k.tape.trans h.tape, k.output.trans h.output, Nat.le_trans h.size k.size, fun i hi hn => (k.block i (Nat.lt_of_lt_of_le hi h.size) (fun hm => by rcases f i hm with h1 | h1; exact hn h1; omega)).trans (h.block i hi hn)⟩
theorem Chg.trans {S : List Nat} {a b c : World} (h : Chg S a b) (k : Chg S b c) : Chg S a c := h.trans' (Frsh.refl _ _) k
theorem Frsh.trans {S S1 S2 : List Nat} {a b : World} (f : Frsh a S S1) (h : a.heap.size ≤ b.heap.size) (g : Frsh b S1 S2) : Frsh a S S2 := fun k hk => by
  rcases g k hk with h1 | h1
  · exact f k h1
  · exact .inr (by omega)
theorem Frsh.sub {w : World} {S S' : List Nat} (h : ∀ k ∈ S', k ∈ S) : Frsh w S S' := fun k hk => .inl (h k hk)
theorem Chg.sub {S T : List Nat} {a b : World} (h : Chg S a b) (hs : ∀ k ∈ S, k ∈ T) : Chg T a b := ⟨h.os, h.tape, h.output, h.size, fun k hk hn => h.block k hk (fun hm => hn (hs k hm))⟩
theorem Chg.drew {S : List Nat} {a w : World} (h : Chg S a w) : Chg S a w.drew := ⟨h.os, h.tape, h.output, h.size, h.block⟩
theorem Chg.undrew {S : List Nat} {a w : World} (h : Chg S a.drew w) : Chg S a w := ⟨h.os, h.tape, h.output, h.size, h.block⟩
theorem Chg.alloc {S : List Nat} {a w : World} (h : Chg S a w) (o : Obj) : Chg S a (w.alloc o) :=
  h.trans ⟨rfl, rfl, rfl, by simp, fun k hk _ => Below.heap_alloc _ _ _ hk⟩
theorem Chg.setCell {S : List Nat} {a w : World} (h : Chg S a w) {b o : Nat} (hb : b ∈ S ∨ a.heap.size ≤ b) (u : Value) : Chg S a (w.setCell ⟨b, o, none⟩ u) :=
  ⟨h.os, h.tape, h.output, by simpa [World.setCell] using h.size, fun k hk hn => (Below.heap_setCell w ⟨b, o, none⟩ u k (fun e => by
    have e' : k = b := e
    rcases hb with hb | hb
    · exact hn (e' ▸ hb)
    · omega)).trans (h.block k hk hn)⟩
theorem Below.chg {N : Nat} {w w' : World} (h : Below N w w') {S : List Nat} (hN : ∀ k, N ≤ k → k < w.heap.size → k ∈ S) : Chg S w w' :=
  ⟨h.os, h.tape, h.output, h.size, fun k hk hn => h.block k (by
    rcases Nat.lt_or_ge k N with h1 | h1
    · exact h1
    · exact absurd (hN k h1 hk) hn)⟩
theorem Below.chg0 {w w' : World} (h : Below w.heap.size w w') (S : List Nat) : Chg S w w' := Below.chg h fun k h1 h2 => absurd h2 (by omega)
theorem Chg.below {S : List Nat} {w w' : World} (h : Chg S w w') {N : Nat} (hN : N ≤ w.heap.size) (hS : ∀ k ∈ S, N ≤ k) : Below N w w' :=
  ⟨h.os, h.tape, h.output, h.size, fun k hk => h.block k (by omega) (fun hm => by have := hS k hm; omega)⟩
theorem Chg.cell {S : List Nat} {w w' : World} (h : Chg S w w') {b o : Nat} (hb : b < w.heap.size) (hn : b ∉ S) : w'.cell? ⟨b, o, none⟩ = w.cell? ⟨b, o, none⟩ :=
  World.cell?_of_block (w := w) (a := ⟨b, o, none⟩) (h.block b hb hn)
theorem Chg.frozen {S : List Nat} {w w' : World} (h : Chg S w w') {b o : Nat} (hb : b < w.heap.size) (hn : b ∉ S) : w'.frozen? ⟨b, o, none⟩ = w.frozen? ⟨b, o, none⟩ :=
  World.frozen?_of_block (w := w) (a := ⟨b, o, none⟩) (h.block b hb hn)

/-- Block g is just these cells. -/
def Blk (w : World) (g : Nat) (t : TypeId) (cs : Array Value) : Prop := w.heap[g]? = some (.cells cs t (0, 0))
section
variable {w w' : World} {g : Nat} {t : TypeId} {cs : Array Value}
theorem Blk.lt (h : Blk w g t cs) : g < w.heap.size := by
  rcases Nat.lt_or_ge g w.heap.size with hlt | hge
  · exact hlt
  · unfold Blk at h; rw [Array.getElem?_eq_none hge] at h; cases h
theorem Blk.cell (h : Blk w g t cs) (i : Nat) : w.cell? ⟨g, i, none⟩ = cs[i]? := cell_of_row w g i cs t (0, 0) h
theorem Blk.frozen (h : Blk w g t cs) (i : Nat) : w.frozen? ⟨g, i, none⟩ = false := frozen_of_row w g i cs t h
theorem Blk.new (w : World) (t : TypeId) (cs : Array Value) : Blk (w.alloc (.cells cs t)) w.heap.size t cs := heap_alloc_new w _
theorem Blk.drew (h : Blk w g t cs) : Blk w.drew g t cs := h
theorem Blk.alloc (h : Blk w g t cs) (o : Obj) : Blk (w.alloc o) g t cs := (Below.heap_alloc w o g h.lt).trans h
theorem Blk.set_ (h : Blk w g t cs) (i : Nat) (u : Value) : Blk (w.setCell ⟨g, i, none⟩ u) g t (cs.setIfInBounds i u) := by
  unfold Blk at h ⊢
  simp [World.setCell, Array.getElem?_modify, h]
theorem Blk.far (h : Blk w g t cs) {b o : Nat} (hp : g ≠ b) (u : Value) : Blk (w.setCell ⟨b, o, none⟩ u) g t cs := (Below.heap_setCell w ⟨b, o, none⟩ u g hp).trans h
theorem Blk.chg {S : List Nat} (h : Blk w g t cs) (hc : Chg S w w') (hn : g ∉ S) : Blk w' g t cs := (hc.block g h.lt hn).trans h
theorem Blk.ne_ {g' : Nat} {t' : TypeId} {cs' : Array Value} (h : Blk w g t cs) (h' : Blk w g' t' cs') (hne : t ≠ t') : g ≠ g' := by
  rintro rfl
  unfold Blk at h h'
  rw [h] at h'
  injection h' with h'
  injection h' with _ ht
  exact hne ht
end

/-- Block g is a map with these entries. -/
def MapB (w : World) (g : Nat) (es : Array MapEntry) (clk : Nat) : Prop := w.heap[g]? = some (.map es clk)
theorem MapB.lt {w : World} {g clk : Nat} {es : Array MapEntry} (h : MapB w g es clk) : g < w.heap.size := by
  rcases Nat.lt_or_ge g w.heap.size with hlt | hge
  · exact hlt
  · unfold MapB at h; rw [Array.getElem?_eq_none hge] at h; cases h
theorem MapB.ne_blk {w : World} {g clk g' : Nat} {es : Array MapEntry} {t : TypeId} {cs : Array Value} (h : MapB w g es clk) (h' : Blk w g' t cs) : g ≠ g' := by
  rintro rfl
  unfold MapB at h; unfold Blk at h'
  rw [h] at h'
  injection h' with h'
  cases h'
theorem MapB.chg {S : List Nat} {w w' : World} {g clk : Nat} {es : Array MapEntry} (h : MapB w g es clk) (hc : Chg S w w') (hn : g ∉ S) : MapB w' g es clk := (hc.block g h.lt hn).trans h
theorem MapB.setCell {w : World} {g clk b o : Nat} {es : Array MapEntry} (h : MapB w g es clk) (u : Value) : MapB (w.setCell ⟨b, o, none⟩ u) g es clk := by
  unfold MapB at h ⊢
  simp only [World.setCell, Array.getElem?_modify]
  split
  · rw [h]; rfl
  · exact h

/-- The world with another object in block g. -/
def putObj (w : World) (g : Nat) (o : Obj) : World := { w with heap := w.heap.setIfInBounds g o }
theorem putObj_size (w : World) (g : Nat) (o : Obj) : (putObj w g o).heap.size = w.heap.size := by simp [putObj]
theorem putObj_same {w : World} {g : Nat} (o : Obj) (h : g < w.heap.size) : (putObj w g o).heap[g]? = some o := by
  simp [putObj, h]
theorem putObj_other (w : World) (g k : Nat) (o : Obj) (h : k ≠ g) : (putObj w g o).heap[k]? = w.heap[k]? := by
  simp only [putObj]
  rw [Array.getElem?_setIfInBounds_ne (by omega)]
theorem Chg.putObj {S : List Nat} {a w : World} (h : Chg S a w) {g : Nat} (hg : g ∈ S ∨ a.heap.size ≤ g) (o : Obj) : Chg S a (putObj w g o) :=
  ⟨h.os, h.tape, h.output, by rw [putObj_size]; exact h.size, fun k hk hn => (putObj_other w g k o (fun e => by
    subst e
    rcases hg with hb | hb
    · exact hn hb
    · omega)).trans (h.block k hk hn)⟩

/-! A region that draws its order and has a last operation of its own that waits for all others. -/
section
variable {P : Program} {ops : Array Oper} {Q : Exit → Act → World → Prop} {md : Region.Mode}

/-- Whatever order is picked; S holds behind each operation but number x. -/
def wpAnyX (P : Program) (md : Region.Mode) (ops : Array Oper) (Q : Exit → Act → World → Prop) (x : Nat) (S : World → Prop) : Nat → Array Bool → Act → World → Prop
  | 0, l, a, w => Region.ready md ops l = [] ∧ Q .normal a w
  | n + 1, l, a, w => (Region.ready md ops l = [] → Q .normal a w) ∧
      ∀ i, i ∈ Region.ready md ops l → wpOp P ops Q i (fun a' w' => (i ≠ x → S w') ∧ wpAnyX P md ops Q x S n (l.setIfInBounds i true) a' w') a w

theorem wpAny_of_X {x : Nat} {S : World → Prop} : ∀ (n : Nat) (l : Array Bool) (a : Act) (w : World), wpAnyX P md ops Q x S n l a w → wpAny P md ops Q n l a w
  | 0, _, _, _, h => h
  | n + 1, _, _, _, h => ⟨h.1, fun i hi => wpOp_mono (fun a' w' h' => wpAny_of_X n _ a' w' h'.2) (h.2 i hi)⟩

/-- Does operation x wait for operation i, be it through others? -/
def waitsN (md : Region.Mode) (ops : Array Oper) (i : Nat) : Nat → Nat → Bool
  | 0, _ => false
  | n + 1, x => match ops[x]? with
    | some ox => ox.after.any fun e => Region.binds md e && (e.on == i || waitsN md ops i n e.on)
    | none => false

/-- What has come up had all that it waits for come up before it. -/
def Closed (md : Region.Mode) (ops : Array Oper) (l : Array Bool) : Prop :=
  ∀ (k : Nat) (ok : Oper), ops[k]? = some ok → l.getD k false = true → ∀ e, e ∈ ok.after → Region.binds md e = true → l.getD e.on false = true

theorem Closed.waits {l : Array Bool} (hc : Closed md ops l) {i : Nat} : ∀ (n x : Nat) (ox : Oper), ops[x]? = some ox → (∀ e, e ∈ ox.after → Region.binds md e = true → l.getD e.on false = true) → waitsN md ops i n x = true → l.getD i false = true
  | 0, _, _, _, _, h => by simp [waitsN] at h
  | n + 1, x, ox, ho, hd, h => by
    unfold waitsN at h
    rw [ho] at h
    simp only [Array.any_eq_true', Bool.and_eq_true, Bool.or_eq_true, beq_iff_eq] at h
    obtain ⟨e, he, hb, h⟩ := h
    rcases h with h | h
    · rw [← h]; exact hd e he hb
    · have hl := hd e he hb
      cases hy : ops[e.on]? with
      | none =>
        cases n with
        | zero => simp [waitsN] at h
        | succ n => unfold waitsN at h; rw [hy] at h; cases h
      | some oy => exact Closed.waits hc n e.on oy hy (hc e.on oy hy hl) h

theorem Closed.set_ {l : Array Bool} (hc : Closed md ops l) {j : Nat} (hj : j ∈ Region.ready md ops l) : Closed md ops (l.setIfInBounds j true) := by
  intro k ok hk hl e he hb
  obtain ⟨hjun, oj, hoj, hall⟩ := mem_ready.1 hj
  by_cases hkj : j = k
  · subst hkj
    rw [hk] at hoj
    obtain rfl := Option.some.inj hoj
    exact getD_set_true (hall e he hb)
  · rw [getD_set_ne false hkj] at hl
    exact getD_set_true (hc k ok hk hl e he hb)

theorem closed_none (n : Nat) : Closed md ops (Array.replicate n false) := by
  intro k ok _ hl
  exfalso
  rw [Array.getD_eq_getD_getElem?, Array.getElem?_replicate] at hl
  split at hl <;> simp at hl

theorem wpAnyX_first {x i : Nat} {S : World → Prop} {oi : Oper} {v : Value} (hi : ops[i]? = some oi) (hsel : ∀ (j : Nat) (o : Oper) cs b, ops[j]? = some o → o.op ≠ .select cs b)
    (hQ : ∀ c (a : Act) w, Q (.panic c) (a.put oi.dst v) w → Q (.panic c) a w) (hix : i ≠ x) (m : Nat) (hxi : waitsN md ops i m x = true) :
    ∀ (n : Nat) (l : Array Bool) (a : Act) (w : World), Closed md ops l →
      (∀ j oj, ops[j]? = some oj → j ≠ i → l.getD j true = false → (∀ e ∈ oj.after, Region.binds md e = true → e.on ≠ i) → oi.apart ops oj = true) →
      i ∈ Region.ready md ops l → YieldsIf P ops S oi v a → S w →
      wpAnyX P md ops Q x S n (l.setIfInBounds i true) (a.put oi.dst v) w → wpAnyX P md ops Q x S (n + 1) l a w
  | n, l, a, w, hcl, hfree, hr, hy, hS, H => by
    refine ⟨fun h => absurd hr (by rw [h]; simp), fun j hj => ?_⟩
    by_cases hji : j = i
    · subst hji
      exact hy.wpOp hi hS ⟨fun _ => hS, H⟩
    obtain ⟨hjun, oj, hoj, hall⟩ := mem_ready.1 hj
    have hnot : ∀ e ∈ oj.after, Region.binds md e = true → e.on ≠ i := by
      intro e he hb heq
      have h1 := hall e he hb
      have h0 := (mem_ready.1 hr).1
      rw [heq] at h1
      by_cases hlt : i < l.size
      · simp [hlt] at h0 h1
        rw [h0] at h1
        cases h1
      · simp [Array.getElem?_eq_none (Nat.le_of_not_lt hlt)] at h1
    have hjx : j ≠ x := by
      rintro rfl
      have h1 := hcl.waits m j oj hoj hall hxi
      have h0 := (mem_ready.1 hr).1
      by_cases hlt : i < l.size
      · simp [hlt] at h0 h1
        rw [h0] at h1
        cases h1
      · simp [Array.getElem?_eq_none (Nat.le_of_not_lt hlt)] at h1
    match n, H with
    | 0, H =>
      have := ready_mono hj hji
      rw [H.1] at this
      cases this
    | n + 1, H =>
      have h1 := H.2 j (ready_mono hj hji)
      have h2 := wpOp_putIf hoj (hfree j oj hoj hji hjun hnot) (fun cs b => hsel i oi cs b hi) (fun cs b => hsel j oj cs b hoj) hQ hy h1
      refine wpOp_mono (fun a' w' h3 => ⟨fun _ => h3.2.1 hjx, ?_⟩) h2
      refine wpAnyX_first hi hsel hQ hix m hxi n _ a' w' (hcl.set_ hj) ?_ (ready_mono hr (Ne.symm hji)) h3.1 (h3.2.1 hjx) ?_
      · intro k ok hk hki hun hno
        refine hfree k ok hk hki ?_ hno
        by_cases hjk : j = k
        · subst hjk; exact hjun
        · rw [getD_set_ne true hjk] at hun; exact hun
      · rw [Array.setIfInBounds_comm _ _ hji]
        exact h3.2.2

theorem wpAnyX_stronger {x : Nat} {S S' : World → Prop} (hS : ∀ w, S' w → S w) : ∀ (n : Nat) (l : Array Bool) (a : Act) (w : World), wpAnyX P md ops Q x S' n l a w → wpAnyX P md ops Q x S n l a w
  | 0, _, _, _, h => h
  | n + 1, _, _, _, h => ⟨h.1, fun i hi => wpOp_mono (fun _ _ h' => ⟨fun hx => hS _ (h'.1 hx), wpAnyX_stronger hS n _ _ _ h'.2⟩) (h.2 i hi)⟩

/-- An order for such a region: at its end comes operation x. -/
def wpOX (P : Program) (ops : Array Oper) (Q : Exit → Act → World → Prop) (L : World → World → Prop) (x : Nat) : List (Nat × Bool) → Act → World → Prop
  | [], a, w => wpOp P ops Q x (fun a' w' => Q .normal a' w') a w
  | (i, true) :: r, a, w => ∃ o v, ops[i]? = some o ∧ YieldsIf P ops (L w) o v a ∧ wpOX P ops Q L x r (a.put o.dst v) w
  | (i, false) :: r, a, w => wpOp P ops Q i (fun a' w' => L w w' ∧ wpOX P ops Q L x r a' w') a w

def waitsB (md : Region.Mode) (ops : Array Oper) (x i : Nat) : Bool := i != x && waitsN md ops i ops.size x

def checkX (md : Region.Mode) (ops : Array Oper) (x : Nat) : List (Nat × Bool) → Array Bool → Bool
  | [], l => Region.ready md ops l == [x] && Region.ready md ops (l.setIfInBounds x true) == []
  | (i, true) :: r, l => waitsB md ops x i && (Region.free md ops l i && (Region.ready md ops l).contains i && checkX md ops x r (l.setIfInBounds i true))
  | (i, false) :: r, l => i != x && Region.ready md ops l == [i] && checkX md ops x r (l.setIfInBounds i true)

theorem wpOX_sound {L : World → World → Prop} {x : Nat} (Lr : ∀ w, L w w) (Lt : ∀ {a b c}, L a b → L b c → L a c) (hs : Region.noSelect ops = true) (hQ : ∀ c (a : Act) d v w, Q (.panic c) (a.put d v) w → Q (.panic c) a w) :
    ∀ (ord : List (Nat × Bool)) (n : Nat) (l : Array Bool) (a : Act) (w : World), ord.length + 1 ≤ n → Closed md ops l → checkX md ops x ord l = true → wpOX P ops Q L x ord a w → wpAnyX P md ops Q x (L w) n l a w
  | [], n, l, a, w, hn, hcl, hc, h => by
    simp only [checkX, Bool.and_eq_true, beq_iff_eq] at hc
    match n, hn with
    | n + 1, _ =>
      refine ⟨fun h0 => absurd hc.1 (by rw [h0]; simp), fun j hj => ?_⟩
      rw [hc.1] at hj
      obtain rfl := List.mem_singleton.1 hj
      refine wpOp_mono (fun a' w' h' => ⟨fun hx => absurd rfl hx, ?_⟩) h
      cases n with
      | zero => exact ⟨hc.2, h'⟩
      | succ n => exact ⟨fun _ => h', fun k hk => absurd hk (by rw [hc.2]; simp)⟩
  | (i, true) :: r, n, l, a, w, hn, hcl, hc, h => by
    obtain ⟨o, v, ho, hy, h⟩ := h
    simp only [checkX, Bool.and_eq_true] at hc
    have hri : i ∈ Region.ready md ops l := by simpa using hc.2.1.2
    match n, hn with
    | n + 1, hn =>
      have hw := hc.1
      unfold waitsB at hw
      simp only [Bool.and_eq_true, bne_iff_ne, ne_eq] at hw
      exact wpAnyX_first ho (Region.noSelect_spec hs) (fun c a w => hQ c a o.dst v w) hw.1 ops.size hw.2 n l a w hcl (Region.free_spec ho hc.2.1.1) hri hy (Lr w) (wpOX_sound Lr Lt hs hQ r n _ _ w (by simpa using hn) (hcl.set_ hri) hc.2.2 h)
  | (i, false) :: r, n, l, a, w, hn, hcl, hc, h => by
    simp only [checkX, Bool.and_eq_true, beq_iff_eq, bne_iff_ne, ne_eq] at hc
    match n, hn with
    | n + 1, hn =>
      refine ⟨fun h0 => absurd hc.1.2 (by rw [h0]; simp), fun j hj => ?_⟩
      rw [hc.1.2] at hj
      obtain rfl := List.mem_singleton.1 hj
      exact wpOp_mono (fun a' w' h' => ⟨fun _ => h'.1, wpAnyX_stronger (fun y hy => Lt h'.1 hy) n _ _ _ (wpOX_sound Lr Lt hs hQ r n _ a' w' (by simpa using hn) (hcl.set_ (by rw [hc.1.2]; simp)) hc.2 h'.2)⟩) h

/-- The beginning, where blocks S may be written, the last operation apart. -/
theorem wp_region_ordX {id : Nat} {a : Act} {w : World} (S : List Nat) (x : Nat) (ord : List (Nat × Bool)) (hm : P.follows .mixedOrders = true) (hs : Region.noSelect ops = true)
    (hl : decide (ord.length + 1 ≤ ops.size) = true) (hc : checkX .any ops x ord (Array.replicate ops.size false) = true) (h : wpOX P ops (NoPanic Q) (Chg S) x ord a w.drew) : (Code.region id ops true).wp P Q a w :=
  wp_region_noPanic (wp_region_any hm (wpAny_of_X _ _ _ _ (wpOX_sound (Chg.refl S) Chg.trans hs (NoPanic.put Q) ord ops.size _ a w.drew (of_decide_eq_true hl) (closed_none _) hc h)))

/-- The beginning, where blocks S may be written. -/
theorem wp_region_ordS {id : Nat} {a : Act} {w : World} (S : List Nat) (ord : List (Nat × Bool)) (hm : P.follows .mixedOrders = true) (hs : Region.noSelect ops = true)
    (hl : decide (ord.length ≤ ops.size) = true) (hc : checkO .any ops ord (Array.replicate ops.size false) = true) (h : wpO P ops (NoPanic Q) (Chg S) ord a w.drew) : (Code.region id ops true).wp P Q a w :=
  wp_region_noPanic (wp_region_held hm (wpO_sound (Chg.refl S) Chg.trans hs (NoPanic.put Q) ord ops.size _ a w.drew (of_decide_eq_true hl) hc h))

variable {L : World → World → Prop}
theorem wpOX_F {x i : Nat} {r : List (Nat × Bool)} {a : Act} {w : World} {o : Oper} {v : Value} (ho : nth ops.toList i = some o) (hw : Region.wanted o (yielded ops a.tmps) = true)
    (hv : ∀ w', L w w' → (execOp a.eval o).run P w' = .ok (.value v) w') (h : wpOX P ops Q L x r (a.put o.dst v) w) : wpOX P ops Q L x ((i, true) :: r) a w :=
  ⟨o, v, nth_ops ho, .inl ⟨hw, hv⟩, h⟩
theorem wpOX_G (Lr : ∀ w, L w w) {x i : Nat} {b : Bool} {r : List (Nat × Bool)} {a : Act} {w : World} {o : Oper} (ho : nth ops.toList i = some o) (hw : Region.wanted o (yielded ops a.tmps) = false)
    (h : wpOX P ops Q L x r (a.put o.dst undef) w) : wpOX P ops Q L x ((i, b) :: r) a w := by
  cases b with
  | true => exact ⟨o, undef, nth_ops ho, .inr ⟨hw, rfl⟩, h⟩
  | false =>
    show wpOp P ops Q i _ a w
    unfold wpOp
    simp only [nth_ops ho, hw]
    exact ⟨Lr w, h⟩
theorem wpOX_C {x i : Nat} {r : List (Nat × Bool)} {a : Act} {w : World} {o : Oper} (ho : nth ops.toList i = some o) (hw : Region.wanted o (yielded ops a.tmps) = true)
    (h : o.wp P a w (fun a' w' => L w w' ∧ wpOX P ops Q L x r a' w') Q) : wpOX P ops Q L x ((i, false) :: r) a w := by
  show wpOp P ops Q i _ a w
  unfold wpOp
  simp only [nth_ops ho, hw]
  exact .inl h
theorem wpOX_end {x : Nat} {a : Act} {w : World} {o : Oper} (ho : nth ops.toList x = some o) (hw : Region.wanted o (yielded ops a.tmps) = true)
    (h : o.wp P a w (fun a' w' => Q .normal a' w') Q) : wpOX P ops Q L x [] a w := by
  show wpOp P ops Q x _ a w
  unfold wpOp
  simp only [nth_ops ho, hw]
  exact .inl h
end
attribute [irreducible] wpOX
end Go.Proofs.Ytapbhhehnbfdfaa

/- 'append(s, t...)' of a row of the call's own and any slice, nil or not. -/
set_option linter.unusedSimpArgs false
set_option linter.unusedVariables false
set_option maxRecDepth 100000
namespace Go.Proofs.Ytapbhhehnbfdfaa
open Go.RowKit

section
variable {P : Program}

theorem run_appNil (w : World) (base : Nat) (t ty e : TypeId) (i : TypeInfo) (z : Nat) (ht : P.underlying t = some (.slice e)) (hi : P.info? e = some i)
    (v : Value) (n : Nat) (l : List Value) (hown : w.ownsRow base e z v n l) (c : Nat) : (Builtin.append_ #[t, t] ty #[v, .slice none 0 c]).run P w = .ok v w := by
  obtain ⟨_, h⟩ := hown
  rcases h with ⟨rfl, _⟩ | ⟨g, cap, cur, rfl, _, _, hnc, _⟩ <;> simp [Builtin.append_, run_underlying ht, sizeOf, typeInfo, hi, Builtin.lenOf, Builtin.firstCells, storeCells, *]

theorem run_appS (w : World) (base : Nat) (t ty e : TypeId) (i : TypeInfo) (zr : Value) (z bytes : Nat) (ht : P.underlying t = some (.slice e)) (hi : P.info? e = some i) (hz : i.zero = some zr) (hzs : zr.cells.size = z)
    (hsize : i.size = z) (hz0 : 0 < z) (hby : i.bytes = bytes) (hb100 : bytes ≤ 100)
    (v : Value) (n : Nat) (l : List Value) (hown : w.ownsRow base e z v n l) (N : Nat) (A : Option Addr) (m c : Nat) (news : List Value) (hA : Arr N w A news) (hl : news.length = m * z) (h1 : ∀ u ∈ news, u.oneCell' = true)
    (hlen : n + m < 1000000000000) (hbase : base ≤ w.heap.size) :
    ∃ v' w', (Builtin.append_ #[t, t] ty #[v, .slice A m c]).run P w = .ok v' w' ∧ w'.ownsRow base e z v' (n + m) (l ++ news) ∧ w.grownBy w' v.ownBlock := by
  have hby2 : (n + m) * bytes ≤ 140737488355328 := by
    have : (n + m) * bytes ≤ 1000000000000 * 100 := Nat.mul_le_mul (by omega) hb100
    omega
  cases A with
  | none =>
    have hn : news = [] := by
      rcases hA with h | ⟨b, o, h, _⟩
      · exact h
      · cases h
    subst hn
    have hm : m = 0 := by
      rcases Nat.eq_zero_or_pos m with h0 | h0
      · exact h0
      · have := Nat.mul_pos h0 hz0
        simp at hl; omega
    subst hm
    exact ⟨v, w, run_appNil w base t ty e i z ht hi v n l hown c, by simpa using hown, World.grownBy.refl w _⟩
  | some ad =>
    obtain ⟨v', w', h2, h3, h4, _⟩ := run_append_own (P := P) w base t ty e i zr z bytes ht hi hz hsize hby hzs hz0 v n l hown ad m c news hl (fun j u hu => by
      rcases hA with h | ⟨b, o, h, _, hc⟩
      · rw [h] at hu; simp at hu
      · simp only [Option.some.injEq] at h
        subst h
        have e1 : (⟨b, o, none⟩ : Addr).add j = ⟨b, o + j, none⟩ := by unfold Addr.add; split <;> simp_all
        rw [e1]; exact hc j u hu) h1 (by unfold maxLen; omega) hby2 hbase
    exact ⟨v', w', h2, h3, h4⟩

theorem wp_appS {o : Oper} {a : Act} {K : Act → World → Prop} {Q : Exit → Act → World → Prop} (s x : Operand) (t : TypeId)
    (ho : o.op = .call { callee := .builtin .append, args := #[s, x], argTypes := #[t, t] })
    (base : Nat) (e : TypeId) (i : TypeInfo) (zr : Value) (z bytes : Nat) (ht : P.underlying t = some (.slice e)) (hi : P.info? e = some i) (hz : i.zero = some zr) (hzs : zr.cells.size = z)
    (hsize : i.size = z) (hz0 : 0 < z) (hby : i.bytes = bytes) (hb100 : bytes ≤ 100)
    (v : Value) (n : Nat) (l : List Value) (w : World) (hown : w.ownsRow base e z v n l) (hs : a.eval s = v) (N : Nat) (A : Option Addr) (m c : Nat) (news : List Value) (hA : Arr N w A news) (hl : news.length = m * z) (h1 : ∀ u ∈ news, u.oneCell' = true)
    (hx : a.eval x = .slice A m c) (hlen : n + m < 1000000000000) (hbase : base ≤ w.heap.size)
    (h : ∀ v' w', w'.ownsRow base e z v' (n + m) (l ++ news) → Chg v.ownBlock.toList w w' → Below base w w' → K (a.put o.dst v') w') :
    o.wp P a w K Q := by
  obtain ⟨v', w', hrun, h2, h3⟩ := run_appS (P := P) w base t o.type e i zr z bytes ht hi hz hzs hsize hz0 hby hb100 v n l hown N A m c news hA hl h1 hlen hbase
  unfold Oper.wp execOp
  simp only [ho, resolve, invoke, builtin, Sem.run_bind, Sem.run_pure, Result.andThen_ok, List.map_toArray, List.map_cons, List.map_nil, hs, hx, hrun]
  refine h v' w' h2 ⟨h3.os, h3.tape, h3.output, h3.size, fun k hk hn => h3.block k hk (by intro he; apply hn; rw [Option.mem_toList]; exact he.symm)⟩ ?_
  exact (Below.refl base w).grown h3 hbase (fun j hj => (hown.lt j hj).1)

theorem wpList_appS {ops : Array Oper} {rest : List Oper} {o : Oper} {a : Act} {Q : Exit → Act → World → Prop} (hgd : o.guard = none) (s x : Operand) (t : TypeId)
    (ho : o.op = .call { callee := .builtin .append, args := #[s, x], argTypes := #[t, t] })
    (base : Nat) (e : TypeId) (i : TypeInfo) (zr : Value) (z bytes : Nat) (ht : P.underlying t = some (.slice e)) (hi : P.info? e = some i) (hz : i.zero = some zr) (hzs : zr.cells.size = z)
    (hsize : i.size = z) (hz0 : 0 < z) (hby : i.bytes = bytes) (hb100 : bytes ≤ 100)
    (v : Value) (n : Nat) (l : List Value) (w : World) (hown : w.ownsRow base e z v n l) (hs : a.eval s = v) (N : Nat) (A : Option Addr) (m c : Nat) (news : List Value) (hA : Arr N w A news) (hl : news.length = m * z) (h1 : ∀ u ∈ news, u.oneCell' = true)
    (hx : a.eval x = .slice A m c) (hlen : n + m < 1000000000000) (hbase : base ≤ w.heap.size)
    (h : ∀ v' w', w'.ownsRow base e z v' (n + m) (l ++ news) → Chg v.ownBlock.toList w w' → Below base w w' → wpList P ops Q rest (a.put o.dst v') w') :
    wpList P ops Q (o :: rest) a w :=
  wpList_plain hgd fun _ hK => wp_appS s x t ho base e i zr z bytes ht hi hz hzs hsize hz0 hby hb100 v n l w hown hs N A m c news hA hl h1 hx hlen hbase fun v' w' h2 h3 h4 => hK _ _ (h v' w' h2 h3 h4)
end

/-- The cells of bytes. -/
def cellsU (l : List Nat) : List Value := l.map fun (c : Nat) => Value.int .u8 (c : Int)
theorem cellsU_len (l : List Nat) : (cellsU l).length = l.length * 1 := by simp [cellsU]
theorem one_B (l : List Nat) : ∀ u ∈ cellsU l, u.oneCell' = true := by
  intro u hu
  obtain ⟨c, _, rfl⟩ := List.mem_map.1 hu
  rfl
theorem Bs.arr {N : Nat} {w : World} {a : Option Addr} {l : List Nat} (h : Bs N w a l) : Arr N w a (cellsU l) := by
  rcases h.2 with h2 | ⟨b, o, ha, hN, hc⟩
  · exact .inl (by rw [h2]; rfl)
  · refine .inr ⟨b, o, ha, hN, fun i v hi => ?_⟩
    unfold cellsU at hi
    rw [List.getElem?_map] at hi
    cases hl : l[i]? with
    | none => rw [hl] at hi; simp at hi
    | some c => rw [hl] at hi; simp at hi; subst hi; exact hc i c hl
theorem Arr.bs {N : Nat} {w : World} {a : Option Addr} {l : List Nat} (h : Arr N w a (cellsU l)) (hl : ∀ c ∈ l, c < 256) : Bs N w a l := by
  refine ⟨hl, ?_⟩
  rcases h with h2 | ⟨b, o, ha, hN, hc⟩
  · left
    cases l with
    | nil => rfl
    | cons x r => simp [cellsU] at h2
  · exact .inr ⟨b, o, ha, hN, fun i c hi => hc i _ (by unfold cellsU; rw [List.getElem?_map, hi]; rfl)⟩
/-- 'append(s, x)', x just laid in a block of its own: one operation. -/
theorem wp_appC {P : Program} {o : Oper} {a : Act} {K : Act → World → Prop} {Q : Exit → Act → World → Prop} (s x : Operand) (t : TypeId)
    (ho : o.op = .call { callee := .builtin .append, args := #[s, x], argTypes := #[t, t] })
    (base : Nat) (e : TypeId) (i : TypeInfo) (zr : Value) (z bytes : Nat) (ht : P.underlying t = some (.slice e)) (hi : P.info? e = some i) (hz : i.zero = some zr) (hzs : zr.cells.size = z)
    (hsize : i.size = z) (hz0 : 0 < z) (hby : i.bytes = bytes) (hb100 : bytes ≤ 100)
    (v : Value) (n : Nat) (l news : List Value) (w : World) (hown : w.ownsRow base e z v n l) (hs : a.eval s = v) (cs : Array Value) (hcs : cs = news.toArray) (hl : news.length = z) (h1 : ∀ u ∈ news, u.oneCell' = true)
    (hx : a.eval x = .slice (some ⟨w.heap.size, 0, none⟩) 1 1) (hlen : n < 1000000000000) (hbase : base ≤ w.heap.size)
    (h : ∀ v' w', w'.ownsRow base e z v' (n + 1) (l ++ news) → Chg v.ownBlock.toList (w.alloc (.cells cs e)) w' → w.heap.size < w'.heap.size → K (a.put o.dst v') w') :
    o.wp P a (w.alloc (.cells cs e)) K Q := by
  subst hcs
  refine wp_append_own (w.alloc (.cells news.toArray e)) s x t ho base e i zr z bytes ht hi hz hsize hby hzs hz0 v n _ hs (World.ownsRow.alloc hown _) ⟨w.heap.size, 0, none⟩ 1 1 news hx (by rw [hl]; omega) ?_ h1 ?_ ?_ ?_ ?_
  · intro j u hj
    have e0 : (⟨w.heap.size, 0, none⟩ : Addr).add j = ⟨w.heap.size, j, none⟩ := by
      unfold Addr.add; split <;> simp_all
    rw [e0, World.cell?_alloc_at _ _ _ _ rfl]
    simpa using hj
  · unfold maxLen; omega
  · have : (n + 1) * bytes ≤ 1000000000000 * 100 := Nat.mul_le_mul (by omega) hb100
    omega
  · simp; omega
  · intro v' w' hown' hgrow _
    have hsz := hgrow.size
    refine h v' w' hown' ⟨hgrow.os, hgrow.tape, hgrow.output, hsz, fun k hk hn => ?_⟩ (by simp at hsz; omega)
    exact hgrow.block k hk (by intro he; apply hn; rw [Option.mem_toList]; exact he.symm)
/-- The same in a list of operations. -/
theorem wpList_appC {P : Program} {ops : Array Oper} {rest : List Oper} {o : Oper} {a : Act} {Q : Exit → Act → World → Prop} (hgd : o.guard = none) (s x : Operand) (t : TypeId)
    (ho : o.op = .call { callee := .builtin .append, args := #[s, x], argTypes := #[t, t] })
    (base : Nat) (e : TypeId) (i : TypeInfo) (zr : Value) (z bytes : Nat) (ht : P.underlying t = some (.slice e)) (hi : P.info? e = some i) (hz : i.zero = some zr) (hzs : zr.cells.size = z)
    (hsize : i.size = z) (hz0 : 0 < z) (hby : i.bytes = bytes) (hb100 : bytes ≤ 100)
    (v : Value) (n : Nat) (l news : List Value) (w : World) (hown : w.ownsRow base e z v n l) (hs : a.eval s = v) (cs : Array Value) (hcs : cs = news.toArray) (hl : news.length = z) (h1 : ∀ u ∈ news, u.oneCell' = true)
    (hx : a.eval x = .slice (some ⟨w.heap.size, 0, none⟩) 1 1) (hlen : n < 1000000000000) (hbase : base ≤ w.heap.size)
    (h : ∀ v' w', w'.ownsRow base e z v' (n + 1) (l ++ news) → Chg v.ownBlock.toList (w.alloc (.cells cs e)) w' → w.heap.size < w'.heap.size → wpList P ops Q rest (a.put o.dst v') w') :
    wpList P ops Q (o :: rest) a (w.alloc (.cells cs e)) :=
  wpList_plain hgd fun _ hK => wp_appC s x t ho base e i zr z bytes ht hi hz hzs hsize hz0 hby hb100 v n l news w hown hs cs hcs hl h1 hx hlen hbase fun v' w' h2 h3 h4 => hK _ _ (h v' w' h2 h3 h4)
end Go.Proofs.Ytapbhhehnbfdfaa

/- Rows of the call's own: where they lie, what leaves them as they are. -/
set_option linter.unusedSimpArgs false
set_option linter.unusedVariables false
set_option maxRecDepth 100000
namespace Go.Proofs.Ytapbhhehnbfdfaa
open Go.RowKit

theorem own_lt {w : World} {base : Nat} {e : TypeId} {size n : Nat} {v : Value} {xs : List Value} (h : w.ownsRow base e size v n xs) {g : Nat} (hg : v.ownBlock = some g) : g < w.heap.size := by
  rcases h.2 with ⟨rfl, _⟩ | ⟨g', cap, cur, rfl, _, hh, _⟩
  · simp [Value.ownBlock] at hg
  · have : g' = g := by simpa [Value.ownBlock] using hg
    subst this
    exact Blk.lt (t := e) hh
theorem own_keep {w w' : World} {base : Nat} {e : TypeId} {size n : Nat} {v : Value} {xs : List Value} (h : w.ownsRow base e size v n xs) (hk : ∀ g, v.ownBlock = some g → w'.heap[g]? = w.heap[g]?) : w'.ownsRow base e size v n xs := by
  refine ⟨h.1, ?_⟩
  rcases h.2 with h2 | ⟨g, cap, cur, hv, hg, hh, r⟩
  · exact .inl h2
  · exact .inr ⟨g, cap, cur, hv, hg, by rw [hk g (by rw [hv]; rfl)]; exact hh, r⟩
theorem own_chg {w w' : World} {base : Nat} {e : TypeId} {size n : Nat} {v : Value} {xs : List Value} {S : List Nat} (h : w.ownsRow base e size v n xs) (hc : Chg S w w') (hn : ∀ g, v.ownBlock = some g → g ∉ S) : w'.ownsRow base e size v n xs :=
  own_keep h fun g hg => hc.block g (own_lt h hg) (hn g hg)
theorem own_ne {w : World} {base : Nat} {e : TypeId} {size n : Nat} {v : Value} {xs : List Value} (h : w.ownsRow base e size v n xs) {g : Nat} {t : TypeId} {cs : Array Value} (hb : Blk w g t cs) (hne : e ≠ t) : v.ownBlock ≠ some g := by
  rcases h.2 with ⟨rfl, _⟩ | ⟨g', cap, cur, rfl, _, hh, _⟩
  · simp [Value.ownBlock]
  · intro he
    have : g' = g := by simpa [Value.ownBlock] using he
    subst this
    exact Blk.ne_ (t := e) hh hb hne rfl
end Go.Proofs.Ytapbhhehnbfdfaa
