/- Several texts of one proof, one behind the other. -/
import Derived.Test.YtbnddpicpomakaaDoorGPk7
import Derived.Sort.Walk0
set_option linter.unusedSimpArgs false
set_option linter.unusedVariables false

/- The walks of right, its closure, slices.IndexFunc and ContainsFunc at it, and of Right. -/
set_option linter.unusedSimpArgs false
set_option linter.unusedVariables false
set_option maxRecDepth 100000
namespace Go.Proofs.YtbnddpicpomakaaDoor
open Go.RowKit

/-- What is known of right, with so many levels, of trees of so many. -/
def RightIs (n l : Nat) : Prop := ∀ (y : XM) (W : World), XAt W.heap.size W n y → Calls Tryd.prog 42 #[y.v, .int .i64 (l : Int)] W fun e w' => e = .returned (.bool (rightX l y.t)) ∧ Below W.heap.size W w'

theorem right_clo (n l : Nat) (hl : l ≤ 1000) (IH : RightIs n l) (y : XM) (g : Nat) (W : World) (hy : XAt W.heap.size W n y) (hg : W.cell? ⟨g, 0, none⟩ = some (.int .i64 ((l + 1 : Nat) : Int))) :
    Calls Tryd.prog 67 #[.agg #[.int .i64 y.t.lab.kd, .int .u8 y.t.lab.v.k, .int .i64 y.t.lab.v.n, .string y.t.lab.v.s, .string y.t.lab.tb, .string y.t.lab.nm, .string y.t.lab.op, .slice y.a y.t.args.length y.cap], .pointer (some ⟨g, 0, none⟩)] W fun e w' => e = .returned (.bool (!rightX l y.t)) ∧ Below W.heap.size W w' := by
  have HD := Lib.hid (fun V (hb : Below W.heap.size W V) => IH y V (hy.later hb))
  have HX := Lib.hid (Slot8.new W 39 (.int .i64 y.t.lab.kd) (.int .u8 y.t.lab.v.k) (.int .i64 y.t.lab.v.n) (.string y.t.lab.v.s) (.string y.t.lab.tb) (.string y.t.lab.nm) (.string y.t.lab.op) (.slice y.a y.t.args.length y.cap))
  have HB0 : Hid (∀ o, Below W.heap.size W (W.alloc o)) := fun o => (Below.refl _ W).alloc (Nat.le_refl _) _
  have hq1 : IntKind.i64.wrap (((l + 1 : Nat) : Int) - 1) = (l : Int) := by rw [show ((l + 1 : Nat) : Int) - 1 = (l : Int) by omega]; exact IntWalk.i64_in _ (by omega)
  have hglt := World.block_lt_of_cell? _ _ hg
  rw [XM.v_eq] at HD
  generalize rightX l y.t = d at *
  generalize hQ : ((l + 1 : Nat) : Int) = Q at *
  clear hy IH
  obtain ⟨x0, x1, x2, x3, x4, x5, x6, x7⟩ := HX.out
  go_enter Tryd.func67, Tryd.ntmps67
  go_wp2_with fail
  refine (HD.out _ (HB0.out _)).mono ?_
  rintro e w1 ⟨rfl, hb1⟩
  have HB1 := Lib.hid ((HB0.out _).trans (hb1.mono (Nat.le_of_lt (box8 _ _))))
  clear hb1 x0 x1 x2 x3 x4 x5 x6 x7
  go_wp2
  go_ret
  exact ⟨rfl, HB1.out⟩

set_option maxHeartbeats 1000000 in
theorem right_idx (n l : Nat) (hl : l ≤ 1000) (IH : RightIs n l) (t : Ex) (a : Option Addr) (cap : Nat) (g : Nat) (w : World) (h : XAt w.heap.size w (n + 1) ⟨t, a, cap⟩) (hg : w.cell? ⟨g, 0, none⟩ = some (.int .i64 ((l + 1 : Nat) : Int))) :
    Calls Tryd.prog 94 #[.slice a t.args.length cap, .func (.func 67) #[] #[.pointer (some ⟨g, 0, none⟩)]] w fun e w' => ∃ r : Int, e = .returned (.int .i64 r) ∧ decide (0 ≤ r) = (!t.args.all (rightX l)) ∧ Below w.heap.size w w' := by
  have HA := Lib.hid h
  have hlen := h.fair.2.1
  have hcap := h.fair.2.2
  simp only at hlen hcap
  have HCl := Lib.hid (fun y V (hb : Below w.heap.size w V) hy => right_clo n l hl IH y g V hy ((hb.cell (p := ⟨g, 0, none⟩) (World.block_lt_of_cell? _ _ hg)).trans hg))
  obtain ⟨m, hm⟩ : ∃ m, t.args.length = m := ⟨_, rfl⟩
  rw [hm] at hlen ⊢
  have HM := Lib.hid hm
  clear h hm hg IH
  go_enter Tryd.func94, Tryd.ntmps94
  go_wp2
  go_loopw [8] (fun i wr => ∃ k : Nat, k ≤ m ∧ i = .int .i64 k ∧ Hid ((t.args.take k).all (rightX l) = true) ∧ Hid (Below w.heap.size w wr)) (fun i _ => m - (intOf i).toNat)
  case atStart => exact ⟨0, by omega, rfl, by simp [Hid], Below.refl _ _⟩
  case round =>
    obtain ⟨k, hk, rfl, HI, HBr⟩ := hrel
    by_cases hlt : k < m
    · have hkl : k < t.args.length := by rw [HM.out]; exact hlt
      obtain ⟨y, hy, hAy, b, o, hab, hbN, hKid⟩ := (HA.out.later HBr.out).kid8 (k := k) hkl
      simp only at hab hy
      subst hab
      obtain ⟨y0, y1, y2, y3, y4, y5, y6, y7⟩ := hKid
      have HTk : Hid ((t.args.take (k + 1)).all (rightX l) = rightX l y.t) := by
        rw [List.take_succ_eq_append_getElem hkl, List.all_append, HI.out, ← hy]; simp [Hid]
      have HTf : Hid (rightX l y.t = false → t.args.all (rightX l) = false) := fun hf => by
        rw [List.all_eq_false]; exact ⟨_, List.getElem_mem hkl, by rw [← hy, hf]; simp⟩
      have HY := Lib.hid (HCl.out y wr HBr.out hAy)
      generalize rightX l y.t = d at *
      clear hy hAy HA hkl HI HCl
      go_wp2_with fail
      refine HY.out.mono ?_
      rintro e w2 ⟨rfl, hb2⟩
      have HB2 := Lib.hid (HBr.out.trans (hb2.mono HBr.out.size))
      clear hb2 HY y0 y1 y2 y3 y4 y5 y6 y7
      cases d with
      | true =>
        go_wp2
        go_roundw
        case rel => exact ⟨k + 1, by omega, by go_num, HTk.out, HB2.out⟩
        case measure => simp [intOf]; omega
      | false =>
        go_wp2
        go_ret
        exact ⟨k, rfl, by rw [HTf.out (by trivial)]; simp, HB2.out⟩
    · have HT : Hid (t.args.all (rightX l) = true) := by
        have := HI.out
        rwa [show k = m by omega, ← HM.out, List.take_length] at this
      go_wp2
      go_ret
      exact ⟨-1, rfl, by rw [HT.out]; rfl, HBr.out⟩

theorem right_con (n l : Nat) (hl : l ≤ 1000) (IH : RightIs n l) (t : Ex) (a : Option Addr) (cap : Nat) (g : Nat) (w : World) (h : XAt w.heap.size w (n + 1) ⟨t, a, cap⟩) (hg : w.cell? ⟨g, 0, none⟩ = some (.int .i64 ((l + 1 : Nat) : Int))) :
    Calls Tryd.prog 66 #[.slice a t.args.length cap, .func (.func 67) #[] #[.pointer (some ⟨g, 0, none⟩)]] w fun e w' => e = .returned (.bool (!t.args.all (rightX l))) ∧ Below w.heap.size w w' := by
  have HC := Lib.hid (right_idx n l hl IH t a cap g w h hg)
  clear h hg
  generalize t.args.all (rightX l) = d at *
  go_enter Tryd.func66, Tryd.ntmps66
  go_wp2_with fail
  refine HC.out.mono ?_
  rintro e w1 ⟨r, rfl, hr, hb⟩
  have HR := Lib.hid hr
  clear hr HC
  go_wp2
  go_ret
  exact ⟨ret_b HR.out, hb⟩

set_option maxHeartbeats 2000000 in
theorem right_is : ∀ (n l : Nat), l ≤ 1000 → RightIs n l
  | 0, _, _ => fun _ _ h => h.elim
  | n + 1, 0, _ => fun x w h => by
    rw [XM.v_eq]
    have HB0 : Hid (∀ o o', Below w.heap.size w ((w.alloc o).alloc o')) := fun o o' => ((Below.refl _ w).alloc (Nat.le_refl _) _).alloc (by simp) _
    clear h
    go_enter Tryd.func42, Tryd.ntmps42
    go_wp2
    go_ret
    exact ⟨rfl, HB0.out _ _⟩
  | n + 1, l + 1, hl => fun ⟨t, a, cap⟩ w h => by
    rw [XM.v_eq]
    have IHl := right_is n l (by omega)
    have hF := h.fair.1
    simp only at hF ⊢
    have HV := Lib.hid (fun W => valid_any ⟨t, a, cap⟩ W hF)
    rw [XM.v_eq] at HV
    simp only at HV
    have hrx : rightX (l + 1) t = (t.lab.ok t.args.length && t.args.all (rightX l)) := rfl
    have HCn := Lib.hid (fun g W (hb : Below w.heap.size w W) hg => right_con n l (by omega) IHl t a cap g W (h.later hb) hg)
    rw [hrx]
    generalize t.lab.ok t.args.length = v at *
    generalize t.args.all (rightX l) = d at *
    obtain ⟨w0, hw0⟩ : ∃ w0, w.alloc (.cells #[.int .i64 t.lab.kd, .int .u8 t.lab.v.k, .int .i64 t.lab.v.n, .string t.lab.v.s, .string t.lab.tb, .string t.lab.nm, .string t.lab.op, .slice a t.args.length cap] 39) = w0 := ⟨_, rfl⟩
    have HS := Lib.hid (Slot8.new w 39 (.int .i64 t.lab.kd) (.int .u8 t.lab.v.k) (.int .i64 t.lab.v.n) (.string t.lab.v.s) (.string t.lab.tb) (.string t.lab.nm) (.string t.lab.op) (.slice a t.args.length cap))
    have HB0 : Hid (Below w.heap.size w w0) := by rw [← hw0]; exact (Below.refl _ w).alloc (Nat.le_refl _) _
    have hs0 : w0.heap.size = w.heap.size + 1 := by rw [← hw0]; simp
    rw [hw0] at HS
    have q0 : ((((l + 1 : Nat) : Int)) == 0) = false := by simp; omega
    generalize hQ : ((l + 1 : Nat) : Int) = Q at *
    obtain ⟨w1, hw1⟩ : ∃ w1, w0.alloc (.cells #[.int .i64 Q] 3) = w1 := ⟨_, rfl⟩
    have HB1 : Hid (Below w0.heap.size w0 w1) := by rw [← hw1]; exact (Below.refl _ w0).alloc (Nat.le_refl _) _
    have hs1 : w1.heap.size = w.heap.size + 2 := by rw [← hw1]; simp [hs0]
    have hc1 : w1.cell? ⟨w.heap.size + 1, 0, none⟩ = some (.int .i64 Q) := by rw [← hw1, ← hs0]; simp
    have HS1 := Lib.hid (HS.out.later (by omega) HB1.out)
    have HW1 := Lib.hid (HB0.out.trans (HB1.out.mono HB0.out.size))
    have HC1 := Lib.hid hc1
    have HZ := Lib.hid hs1
    obtain ⟨x0, x1, x2, x3, x4, x5, x6, x7⟩ := HS1.out
    clear h hF IHl hs1 hrx HS HB0 HB1
    cases v with
    | false =>
      go_enter Tryd.func42, Tryd.ntmps42
      go_wp2_with fail
      refine (HV.out _).mono ?_
      rintro e w2 ⟨rfl, hb2⟩
      have HB2 := Lib.hid (HW1.out.trans (hb2.mono (by have := HZ.out; omega)))
      clear hb2 x0 x1 x2 x3 x4 x5 x6 x7 hc1
      go_wp2
      go_ret
      exact ⟨rfl, HB2.out⟩
    | true =>
      go_enter Tryd.func42, Tryd.ntmps42
      go_wp2_with fail
      refine (HV.out _).mono ?_
      rintro e w2 ⟨rfl, hb2⟩
      have HB2 := Lib.hid (HW1.out.trans (hb2.mono (by have := HZ.out; omega)))
      have hc2 := (hb2.cell (p := ⟨w.heap.size + 1, 0, none⟩) (by have := HZ.out; show w.heap.size + 1 < w1.heap.size; omega)).trans HC1.out
      have HY := Lib.hid (HCn.out (w.heap.size + 1) w2 HB2.out hc2)
      clear x0 x1 x2 x3 x4 x5 x6 x7 hc1
      obtain ⟨x0, x1, x2, x3, x4, x5, x6, x7⟩ := HS1.out.later (by have := HZ.out; omega) hb2
      clear hb2 HCn HV
      go_wp2_with fail
      refine HY.out.mono ?_
      rintro e w3 ⟨rfl, hb3⟩
      have HB3 := Lib.hid (HB2.out.trans (hb3.mono HB2.out.size))
      clear hb3 x0 x1 x2 x3 x4 x5 x6 x7 hc2
      go_wp2
      go_ret
      exact ⟨ret_b (by simp), HB3.out⟩

theorem Right_any20 (n : Nat) (x : XM) (w : World) (h : XAt w.heap.size w n x) :
    Calls Tryd.prog 22 #[x.v] w fun e w' => e = .returned (.bool (rightX 20 x.t)) ∧ Below w.heap.size w w' := by
  have HD := Lib.hid (fun W (hb : Below w.heap.size w W) => right_is n 20 (by omega) x W (h.later hb))
  have HX := Lib.hid (Slot8.new w 39 (.int .i64 x.t.lab.kd) (.int .u8 x.t.lab.v.k) (.int .i64 x.t.lab.v.n) (.string x.t.lab.v.s) (.string x.t.lab.tb) (.string x.t.lab.nm) (.string x.t.lab.op) (.slice x.a x.t.args.length x.cap))
  have HB0 : Hid (∀ o, Below w.heap.size w (w.alloc o)) := fun o => (Below.refl _ w).alloc (Nat.le_refl _) _
  rw [XM.v_eq] at HD ⊢
  generalize rightX 20 x.t = d at *
  clear h
  obtain ⟨x0, x1, x2, x3, x4, x5, x6, x7⟩ := HX.out
  go_enter Tryd.func22, Tryd.ntmps22
  go_wp2_with fail
  refine (HD.out _ (HB0.out _)).mono ?_
  rintro e w1 ⟨rfl, hb1⟩
  have HB1 := Lib.hid ((HB0.out _).trans (hb1.mono (Nat.le_of_lt (box8 _ _))))
  clear hb1 x0 x1 x2 x3 x4 x5 x6 x7
  go_wp2
  go_ret
  exact ⟨rfl, HB1.out⟩
end Go.Proofs.YtbnddpicpomakaaDoor

/- The walks of descend and visit at the closures of Columns and Aggregates, and of these. -/
set_option linter.unusedSimpArgs false
set_option linter.unusedVariables false
set_option maxRecDepth 100000
namespace Go.Proofs.YtbnddpicpomakaaDoor
open Go.RowKit

/-- What is picked of an expression: of kind kd; within one of these only where 'deep'. -/
def pickX (kd : Int) (deep : Bool) : Ex → List Ex
  | .mk l args => pickL kd (.mk l args) ++ if l.kd = kd ∧ deep = false then [] else args.attach.flatMap fun x => pickX kd deep x.1
termination_by e => SizeOf.sizeOf e
decreasing_by exact Rose.size_arg x.2
theorem pickX_eq (kd : Int) (deep : Bool) (e : Ex) : pickX kd deep e = pickL kd e ++ if e.lab.kd = kd ∧ deep = false then [] else e.args.flatMap (pickX kd deep) := by
  obtain ⟨l, args⟩ := e
  rw [pickX, Rose.args, Rose.lab]
  congr 1
  split
  · rfl
  · rw [List.flatMap_def, List.flatMap_def, List.attach_map_val (f := pickX kd deep)]
theorem pickL_len (kd : Int) (e : Ex) : (pickL kd e).length ≤ 1 := by unfold pickL; split <;> simp
theorem pickX_len (kd : Int) (deep : Bool) (e : Ex) : (pickX kd deep e).length ≤ e.count := by
  induction e using Rose.ind with
  | h l args ih =>
    rw [pickX_eq, Rose.count_eq, List.length_append]
    have h1 := pickL_len kd (Rose.mk l args)
    have h2 : (args.flatMap (pickX kd deep)).length ≤ (args.map Rose.count).sum := by
      clear h1
      induction args with
      | nil => simp
      | cons y r ih2 =>
        have := ih y List.mem_cons_self
        have := ih2 (fun z hz => ih z (List.mem_cons_of_mem _ hz))
        simp only [List.flatMap_cons, List.length_append, List.map_cons, List.sum_cons]; omega
    split
    · simp only [List.length_nil]; omega
    · show _ + (args.flatMap (pickX kd deep)).length ≤ 1 + (args.map Rose.count).sum
      omega
theorem pickT_len (kd : Int) (deep : Bool) (l : List Ex) (k : Nat) : ((l.take k).flatMap (pickX kd deep)).length ≤ ((l.take k).map Rose.count).sum := by
  generalize l.take k = q
  induction q with
  | nil => simp
  | cons y r ih =>
    have := pickX_len kd deep y
    simp only [List.flatMap_cons, List.length_append, List.map_cons, List.sum_cons]; omega

theorem Picked.len {G : Nat} {W W' : World} {n : Nat} {cv cv' : Value} {L L' : List XM} {p : List Ex} (h : Picked G W n cv L p W' cv' L') : L'.length = L.length + p.length := by
  have := congrArg List.length h.list
  simpa using this
/-- A block that picking leaves as it is. -/
theorem Picked.keepB {G : Nat} {W W' : World} {n : Nat} {cv cv' : Value} {L L' : List XM} {p : List Ex} (h : Picked G W n cv L p W' cv' L') {b : Nat} (hb : b < W.heap.size) (h1 : b ≠ G) (h2 : cv.ownBlock ≠ some b) : W'.heap[b]? = W.heap[b]? :=
  h.chg.block b hb (fun hm => by rcases List.mem_cons.1 hm with hm | hm; exact h1 hm; rw [Option.mem_toList] at hm; exact h2 hm)
theorem Picked.below {G : Nat} {W W' : World} {n : Nat} {cv cv' : Value} {L L' : List XM} {p : List Ex} (h : Picked G W n cv L p W' cv' L') (hP : PickIn G W n cv L) : Below G W W' :=
  h.chg.below (Nat.le_of_lt hP.lt) (fun k hk => by
    rcases List.mem_cons.1 hk with hk | hk
    · omega
    · rw [Option.mem_toList] at hk; have := (hP.kids.row.lt k hk).1; omega)

def RetPk (G : Nat) (W : World) (n : Nat) (cv : Value) (L : List XM) (p : List Ex) (e : Ending) (W' : World) : Prop :=
  e = .returned (.tuple #[]) ∧ ∃ cv' L', Picked G W n cv L p W' cv' L'

set_option maxHeartbeats 4000000 in
theorem colsDesc_is (G N : Nat) : ∀ (n : Nat) (x : XM) (W : World) (cv : Value) (L : List XM), n ≤ N → PickIn G W N cv L → XAt G W n x → x.t.allB (fun _ k => decide (k ≤ 1000000)) = true → L.length + x.t.count ≤ 1000000 →
    Calls Tryd.prog 61 #[x.v, .func (.func 35) #[] #[.pointer (some ⟨G, 0, none⟩)]] W (RetPk G W N cv L (pickX 2 true x.t))
  | 0, _, _, _, _, _, _, h, _, _ => h.elim
  | n + 1, x, W, cv, L, hn, hP, h, hall, hlen => by
    rw [XM.v_eq]
    have HA := Lib.hid h
    have HAll : Hid (∀ y ∈ x.t.args, y.allB (fun _ k => decide (k ≤ 1000000)) = true) := by
      rw [Rose.allB_eq, Bool.and_eq_true, List.all_eq_true] at hall; exact hall.2
    have hax := h.fair.2.1
    have hcx := h.fair.2.2
    have HPk := Lib.hid (pickX_eq 2 true x.t)
    have hG := hP.lt
    have HGlt := Lib.hid hG
    have HP := Lib.hid hP
    have HLen := Lib.hid hlen
    have HDo := Lib.hid (fun V cv' L' hP' hX' hL' => colsDo_any G N x V cv' L' hP' hX' hall hL')
    have HXA : Hid (XAt G W N x) := RoseAt.ups h hn
    have IH : Hid (∀ (y : XM) (V : World) (cv' : Value) (L' : List XM), PickIn G V N cv' L' → XAt G V n y → y.t.allB (fun _ k => decide (k ≤ 1000000)) = true → L'.length + y.t.count ≤ 1000000 → Calls Tryd.prog 61 #[.agg #[.int .i64 y.t.lab.kd, .int .u8 y.t.lab.v.k, .int .i64 y.t.lab.v.n, .string y.t.lab.v.s, .string y.t.lab.tb, .string y.t.lab.nm, .string y.t.lab.op, .slice y.a y.t.args.length y.cap], .func (.func 35) #[] #[.pointer (some ⟨G, 0, none⟩)]] V (RetPk G V N cv' L' (pickX 2 true y.t))) := fun y V cv' L' h1 h2 h3 h4 => by
      have := colsDesc_is G N n y V cv' L' (by omega) h1 h2 h3 h4
      rw [XM.v_eq] at this; exact this
    have HX := Lib.hid (Slot8.new W 39 (.int .i64 x.t.lab.kd) (.int .u8 x.t.lab.v.k) (.int .i64 x.t.lab.v.n) (.string x.t.lab.v.s) (.string x.t.lab.tb) (.string x.t.lab.nm) (.string x.t.lab.op) (.slice x.a x.t.args.length x.cap))
    obtain ⟨w0, hw0⟩ : ∃ w0, W.alloc (.cells #[.int .i64 x.t.lab.kd, .int .u8 x.t.lab.v.k, .int .i64 x.t.lab.v.n, .string x.t.lab.v.s, .string x.t.lab.tb, .string x.t.lab.nm, .string x.t.lab.op, .slice x.a x.t.args.length x.cap] 39) = w0 := ⟨_, rfl⟩
    have HB0 : Hid (Below W.heap.size W w0) := by rw [← hw0]; exact (Below.refl _ W).alloc (Nat.le_refl _) _
    have hs0 : w0.heap.size = W.heap.size + 1 := by rw [← hw0]; simp
    rw [hw0] at HX
    have HZ := Lib.hid hs0
    have hb0 := HB0.out
    have hP0 := hP.keep hb0
    have hY := HDo.out w0 cv L hP0 (((HXA.out.below (hb0.mono (Nat.le_of_lt hG)))).mono (by omega)) (by have := x.t.count_pos; omega)
    have HY := Lib.hid hY
    have HP0 := Lib.hid hP0
    have hcvB : cv.ownBlock ≠ some W.heap.size := fun he => by have := own_lt hP.kids.row he; omega
    have HCB := Lib.hid hcvB
    clear h hP hall hlen hG hs0 hb0 hP0 hY hcvB HDo
    obtain ⟨x0, x1, x2, x3, x4, x5, x6, x7⟩ := HX.out
    go_enter Tryd.func61, Tryd.ntmps61
    go_wp2_with fail
    refine HY.out.mono ?_
    rintro e w1 ⟨rfl, cv1, L1, hpk1⟩
    have HPk1 := Lib.hid hpk1
    have hkb : w1.heap[W.heap.size]? = w0.heap[W.heap.size]? := hpk1.keepB (by have := HZ.out; omega) (by have := HGlt.out; omega) HCB.out
    have z7 : w1.cell? ⟨W.heap.size, 7, none⟩ = some (.slice x.a x.t.args.length x.cap) := (World.cell?_of_block (a := ⟨W.heap.size, 7, none⟩) hkb).trans HX.out.c7
    clear hpk1 hkb HY x0 x1 x2 x3 x4 x5 x6 x7
    have HEq : Hid (pickX 2 true x.t = pickL 2 x.t ++ x.t.args.flatMap (pickX 2 true)) := by rw [HPk.out, if_neg (fun h => by cases h.2)]; rfl
    obtain ⟨t, a, cap⟩ := x
    obtain ⟨m, hm⟩ : ∃ m, t.args.length = m := ⟨_, rfl⟩
    have HM := Lib.hid hm
    simp only at hax hcx z7 HA HAll HPk HLen HEq HX HPk1 HXA hw0 ⊢
    rw [hm] at hax z7 HX hw0 ⊢
    clear hm
    go_wp2
    clear z7
    go_loopw [13] (fun i wr => ∃ (k : Nat) (cv2 : Value) (L2 : List XM), k ≤ m ∧ i = .int .i64 (k : Int) ∧ Hid (Picked G W N cv L (pickL 2 t ++ (t.args.take k).flatMap (pickX 2 true)) wr cv2 L2)) (fun i _ => m - (intOf i).toNat)
    case atStart => exact ⟨0, cv1, L1, by omega, rfl, by have := (Picked.none HP.out HB0.out).trans HPk1.out; simpa [Hid] using this⟩
    case round =>
      obtain ⟨k, cv2, L2, hk, rfl, HR⟩ := hrel
      by_cases hlt : k < m
      · have hkl : k < t.args.length := by rw [HM.out]; exact hlt
        have hbel := HR.out.below HP.out
        obtain ⟨y, hy, hAy, b, o, hab, hbN, hKid⟩ := (HA.out.below hbel).kid8 (k := k) hkl
        simp only at hab hy
        subst hab
        obtain ⟨y0, y1, y2, y3, y4, y5, y6, y7⟩ := hKid
        have hb1 : Below wr.heap.size wr (wr.alloc (.cells #[.int .i64 y.t.lab.kd, .int .u8 y.t.lab.v.k, .int .i64 y.t.lab.v.n, .string y.t.lab.v.s, .string y.t.lab.tb, .string y.t.lab.nm, .string y.t.lab.op, .slice y.a y.t.args.length y.cap] 39)) := (Below.refl _ wr).alloc (Nat.le_refl _) _
        have hGr : G ≤ wr.heap.size := Nat.le_of_lt HR.out.pick.lt
        have hcnt : L2.length + y.t.count ≤ 1000000 := by
          have h1 := HR.out.len
          have h2 := pickL_len 2 t
          have h3 := pickT_len 2 true t.args k
          have h4 := HLen.out
          have h5 := sum_take_succ hkl
          have h6 := sum_take_le t.args (k + 1)
          have h7 := t.count_eq
          rw [hy]
          simp only [List.length_append] at h1
          omega
        have HTk : Hid ((t.args.take (k + 1)).flatMap (pickX 2 true) = (t.args.take k).flatMap (pickX 2 true) ++ pickX 2 true y.t) := by
          rw [List.take_succ_eq_append_getElem hkl, List.flatMap_append, ← hy]; simp [Hid]
        have HY2 := Lib.hid (IH.out y _ cv2 L2 (HR.out.pick.keep hb1) (hAy.below (hb1.mono hGr)) (HAll.out y.t (by rw [hy]; exact List.getElem_mem hkl)) hcnt)
        have HB1 := Lib.hid hb1
        clear hbel hy hAy hb1 hGr hcnt hkl HA IH HAll
        go_wp2_with fail
        refine HY2.out.mono ?_
        rintro e w3 ⟨rfl, cv3, L3, hpk3⟩
        have HN : Hid (Picked G W N cv L (pickL 2 t ++ (t.args.take (k + 1)).flatMap (pickX 2 true)) w3 cv3 L3) := by
          have := HR.out.trans ((Picked.none HR.out.pick HB1.out).trans hpk3)
          rw [HTk.out, ← List.append_assoc]; exact this
        clear hpk3 HY2 HB1 y0 y1 y2 y3 y4 y5 y6 y7
        go_wp2
        go_roundw
        case rel => exact ⟨k + 1, cv3, L3, by omega, by go_num, HN.out⟩
        case measure => simp [intOf]; omega
      · have HFin : Hid (Picked G W N cv L (pickX 2 true t) wr cv2 L2) := by
          have := HR.out
          rw [show k = m by omega, ← HM.out, List.take_length] at this
          rw [HEq.out]; exact this
        go_wp2
        exact bodyPost_ret (v := .tuple #[]) (by simp [results, Tryd.results61, go_sem]) rfl ⟨rfl, cv2, L2, HFin.out⟩

set_option maxHeartbeats 4000000 in
theorem aggsDesc_is (G N : Nat) : ∀ (n : Nat) (x : XM) (W : World) (cv : Value) (L : List XM), n ≤ N → PickIn G W N cv L → XAt G W n x → x.t.allB (fun _ k => decide (k ≤ 1000000)) = true → L.length + x.t.count ≤ 1000000 →
    Calls Tryd.prog 61 #[x.v, .func (.func 37) #[] #[.pointer (some ⟨G, 0, none⟩)]] W (RetPk G W N cv L (pickX 6 false x.t))
  | 0, _, _, _, _, _, _, h, _, _ => h.elim
  | n + 1, x, W, cv, L, hn, hP, h, hall, hlen => by
    rw [XM.v_eq]
    have HA := Lib.hid h
    have HAll : Hid (∀ y ∈ x.t.args, y.allB (fun _ k => decide (k ≤ 1000000)) = true) := by
      rw [Rose.allB_eq, Bool.and_eq_true, List.all_eq_true] at hall; exact hall.2
    have hax := h.fair.2.1
    have hcx := h.fair.2.2
    have HPk := Lib.hid (pickX_eq 6 false x.t)
    have hG := hP.lt
    have HGlt := Lib.hid hG
    have HP := Lib.hid hP
    have HLen := Lib.hid hlen
    have HDo := Lib.hid (fun V cv' L' hP' hX' hL' => aggsDo_any G N x V cv' L' hP' hX' hall hL')
    have HXA : Hid (XAt G W N x) := RoseAt.ups h hn
    have IH : Hid (∀ (y : XM) (V : World) (cv' : Value) (L' : List XM), PickIn G V N cv' L' → XAt G V n y → y.t.allB (fun _ k => decide (k ≤ 1000000)) = true → L'.length + y.t.count ≤ 1000000 → Calls Tryd.prog 61 #[.agg #[.int .i64 y.t.lab.kd, .int .u8 y.t.lab.v.k, .int .i64 y.t.lab.v.n, .string y.t.lab.v.s, .string y.t.lab.tb, .string y.t.lab.nm, .string y.t.lab.op, .slice y.a y.t.args.length y.cap], .func (.func 37) #[] #[.pointer (some ⟨G, 0, none⟩)]] V (RetPk G V N cv' L' (pickX 6 false y.t))) := fun y V cv' L' h1 h2 h3 h4 => by
      have := aggsDesc_is G N n y V cv' L' (by omega) h1 h2 h3 h4
      rw [XM.v_eq] at this; exact this
    have HX := Lib.hid (Slot8.new W 39 (.int .i64 x.t.lab.kd) (.int .u8 x.t.lab.v.k) (.int .i64 x.t.lab.v.n) (.string x.t.lab.v.s) (.string x.t.lab.tb) (.string x.t.lab.nm) (.string x.t.lab.op) (.slice x.a x.t.args.length x.cap))
    obtain ⟨w0, hw0⟩ : ∃ w0, W.alloc (.cells #[.int .i64 x.t.lab.kd, .int .u8 x.t.lab.v.k, .int .i64 x.t.lab.v.n, .string x.t.lab.v.s, .string x.t.lab.tb, .string x.t.lab.nm, .string x.t.lab.op, .slice x.a x.t.args.length x.cap] 39) = w0 := ⟨_, rfl⟩
    have HB0 : Hid (Below W.heap.size W w0) := by rw [← hw0]; exact (Below.refl _ W).alloc (Nat.le_refl _) _
    have hs0 : w0.heap.size = W.heap.size + 1 := by rw [← hw0]; simp
    rw [hw0] at HX
    have HZ := Lib.hid hs0
    have hb0 := HB0.out
    have hP0 := hP.keep hb0
    have hY := HDo.out w0 cv L hP0 (((HXA.out.below (hb0.mono (Nat.le_of_lt hG)))).mono (by omega)) (by have := x.t.count_pos; omega)
    have HY := Lib.hid hY
    have HP0 := Lib.hid hP0
    have hcvB : cv.ownBlock ≠ some W.heap.size := fun he => by have := own_lt hP.kids.row he; omega
    have HCB := Lib.hid hcvB
    clear h hP hall hlen hG hs0 hb0 hP0 hY hcvB HDo
    obtain ⟨x0, x1, x2, x3, x4, x5, x6, x7⟩ := HX.out
    go_enter Tryd.func61, Tryd.ntmps61
    go_wp2_with fail
    refine HY.out.mono ?_
    rintro e w1 ⟨rfl, cv1, L1, hpk1⟩
    have HPk1 := Lib.hid hpk1
    have hkb : w1.heap[W.heap.size]? = w0.heap[W.heap.size]? := hpk1.keepB (by have := HZ.out; omega) (by have := HGlt.out; omega) HCB.out
    have z7 : w1.cell? ⟨W.heap.size, 7, none⟩ = some (.slice x.a x.t.args.length x.cap) := (World.cell?_of_block (a := ⟨W.heap.size, 7, none⟩) hkb).trans HX.out.c7
    clear hpk1 hkb HY x0 x1 x2 x3 x4 x5 x6 x7
    by_cases hk : x.t.lab.kd = 6
    · have qk : (x.t.lab.kd != 6) = false := by simp [hk]
      have hpx : pickX 6 false x.t = pickL 6 x.t := by rw [HPk.out, if_pos ⟨hk, by trivial⟩, List.append_nil]
      have HFin : Hid (Picked G W N cv L (pickX 6 false x.t) w1 cv1 L1) := by
        rw [hpx]; exact (Picked.none HP.out HB0.out).trans HPk1.out
      clear hk hpx z7
      go_wp2
      exact bodyPost_ret (v := .tuple #[]) (by simp [results, Tryd.results61, go_sem]) rfl ⟨rfl, cv1, L1, HFin.out⟩
    have qk : (x.t.lab.kd != 6) = true := by simpa using hk
    have HEq : Hid (pickX 6 false x.t = pickL 6 x.t ++ x.t.args.flatMap (pickX 6 false)) := by rw [HPk.out, if_neg (fun h => hk h.1)]; rfl
    obtain ⟨t, a, cap⟩ := x
    obtain ⟨m, hm⟩ : ∃ m, t.args.length = m := ⟨_, rfl⟩
    have HM := Lib.hid hm
    simp only at hax hcx z7 HA HAll HPk HLen HEq HX HPk1 HXA hw0 ⊢
    rw [hm] at hax z7 HX hw0 ⊢
    clear hm
    go_wp2
    clear z7
    go_loopw [13] (fun i wr => ∃ (k : Nat) (cv2 : Value) (L2 : List XM), k ≤ m ∧ i = .int .i64 (k : Int) ∧ Hid (Picked G W N cv L (pickL 6 t ++ (t.args.take k).flatMap (pickX 6 false)) wr cv2 L2)) (fun i _ => m - (intOf i).toNat)
    case atStart => exact ⟨0, cv1, L1, by omega, rfl, by have := (Picked.none HP.out HB0.out).trans HPk1.out; simpa [Hid] using this⟩
    case round =>
      obtain ⟨k, cv2, L2, hk, rfl, HR⟩ := hrel
      by_cases hlt : k < m
      · have hkl : k < t.args.length := by rw [HM.out]; exact hlt
        have hbel := HR.out.below HP.out
        obtain ⟨y, hy, hAy, b, o, hab, hbN, hKid⟩ := (HA.out.below hbel).kid8 (k := k) hkl
        simp only at hab hy
        subst hab
        obtain ⟨y0, y1, y2, y3, y4, y5, y6, y7⟩ := hKid
        have hb1 : Below wr.heap.size wr (wr.alloc (.cells #[.int .i64 y.t.lab.kd, .int .u8 y.t.lab.v.k, .int .i64 y.t.lab.v.n, .string y.t.lab.v.s, .string y.t.lab.tb, .string y.t.lab.nm, .string y.t.lab.op, .slice y.a y.t.args.length y.cap] 39)) := (Below.refl _ wr).alloc (Nat.le_refl _) _
        have hGr : G ≤ wr.heap.size := Nat.le_of_lt HR.out.pick.lt
        have hcnt : L2.length + y.t.count ≤ 1000000 := by
          have h1 := HR.out.len
          have h2 := pickL_len 6 t
          have h3 := pickT_len 6 false t.args k
          have h4 := HLen.out
          have h5 := sum_take_succ hkl
          have h6 := sum_take_le t.args (k + 1)
          have h7 := t.count_eq
          rw [hy]
          simp only [List.length_append] at h1
          omega
        have HTk : Hid ((t.args.take (k + 1)).flatMap (pickX 6 false) = (t.args.take k).flatMap (pickX 6 false) ++ pickX 6 false y.t) := by
          rw [List.take_succ_eq_append_getElem hkl, List.flatMap_append, ← hy]; simp [Hid]
        have HY2 := Lib.hid (IH.out y _ cv2 L2 (HR.out.pick.keep hb1) (hAy.below (hb1.mono hGr)) (HAll.out y.t (by rw [hy]; exact List.getElem_mem hkl)) hcnt)
        have HB1 := Lib.hid hb1
        clear hbel hy hAy hb1 hGr hcnt hkl HA IH HAll
        go_wp2_with fail
        refine HY2.out.mono ?_
        rintro e w3 ⟨rfl, cv3, L3, hpk3⟩
        have HN : Hid (Picked G W N cv L (pickL 6 t ++ (t.args.take (k + 1)).flatMap (pickX 6 false)) w3 cv3 L3) := by
          have := HR.out.trans ((Picked.none HR.out.pick HB1.out).trans hpk3)
          rw [HTk.out, ← List.append_assoc]; exact this
        clear hpk3 HY2 HB1 y0 y1 y2 y3 y4 y5 y6 y7
        go_wp2
        go_roundw
        case rel => exact ⟨k + 1, cv3, L3, by omega, by go_num, HN.out⟩
        case measure => simp [intOf]; omega
      · have HFin : Hid (Picked G W N cv L (pickX 6 false t) wr cv2 L2) := by
          have := HR.out
          rw [show k = m by omega, ← HM.out, List.take_length] at this
          rw [HEq.out]; exact this
        go_wp2
        exact bodyPost_ret (v := .tuple #[]) (by simp [results, Tryd.results61, go_sem]) rfl ⟨rfl, cv2, L2, HFin.out⟩

theorem ok_len4 {l : Lb} {n : Nat} (h : l.ok n = true) : n ≤ 4 := by
  unfold Lb.ok takesB at h
  split at h
  · simp at h; omega
  · split at h
    · simp at h; omega
    · simp only [Bool.and_eq_true] at h
      have h1 := h.1.1.1
      repeat' split at h1
      all_goals first | (simp at h1; done) | (simp at h1; omega)
theorem right_all {n : Nat} {e : Ex} (h : rightX n e = true) : e.allB (fun _ k => decide (k ≤ 1000000)) = true := by
  rw [rightX_eq, Bool.and_eq_true] at h
  have h1 := h.1
  clear h
  induction e using Rose.ind with
  | h l args ih =>
    rw [Rose.allB_eq, Bool.and_eq_true, List.all_eq_true] at h1 ⊢
    exact ⟨by have := ok_len4 h1.1; simp; omega, fun x hx => ih x hx (h1.2 x hx)⟩

/-- What Columns and Aggregates hand back. -/
def RetL (w : World) (n : Nat) (p : List Ex) (e : Ending) (w' : World) : Prop :=
  ∃ (a : Option Addr) (cap : Nat) (L : List XM), e = .returned (.slice a L.length cap) ∧ L.length ≤ cap ∧ cap ≤ 9223372036854775807 ∧ L.map (·.t) = p ∧ Arr w'.heap.size w' a (cellsOf cellsX L) ∧ (∀ y ∈ L, XAt w'.heap.size w' n y) ∧ Below w.heap.size w w'

set_option maxHeartbeats 2000000 in
theorem colsVisit_any (G n : Nat) (x : XM) (W : World) (cv : Value) (L : List XM) (hP : PickIn G W n cv L) (h : XAt G W n x) (hlen : L.length + x.t.count ≤ 1000000) :
    Calls Tryd.prog 34 #[.agg #[.int .i64 x.t.lab.kd, .int .u8 x.t.lab.v.k, .int .i64 x.t.lab.v.n, .string x.t.lab.v.s, .string x.t.lab.tb, .string x.t.lab.nm, .string x.t.lab.op, .slice x.a x.t.args.length x.cap], .func (.func 35) #[] #[.pointer (some ⟨G, 0, none⟩)]] W (RetPk G W n cv L (if rightX 20 x.t = true then pickX 2 true x.t else [])) := by
  have HX := Lib.hid (Slot8.new W 39 (.int .i64 x.t.lab.kd) (.int .u8 x.t.lab.v.k) (.int .i64 x.t.lab.v.n) (.string x.t.lab.v.s) (.string x.t.lab.tb) (.string x.t.lab.nm) (.string x.t.lab.op) (.slice x.a x.t.args.length x.cap))
  obtain ⟨w0, hw0⟩ : ∃ w0, W.alloc (.cells #[.int .i64 x.t.lab.kd, .int .u8 x.t.lab.v.k, .int .i64 x.t.lab.v.n, .string x.t.lab.v.s, .string x.t.lab.tb, .string x.t.lab.nm, .string x.t.lab.op, .slice x.a x.t.args.length x.cap] 39) = w0 := ⟨_, rfl⟩
  have HB0 : Hid (Below W.heap.size W w0) := by rw [← hw0]; exact (Below.refl _ W).alloc (Nat.le_refl _) _
  have hs0 : w0.heap.size = W.heap.size + 1 := by rw [← hw0]; simp
  rw [hw0] at HX
  have hG := hP.lt
  have HP := Lib.hid hP
  have HR := Lib.hid (fun V (hb : Below G W V) (hs : G ≤ V.heap.size) => Right_any20 n x V ((h.below hb).mono hs))
  rw [XM.v_eq] at HR
  have HD := Lib.hid (fun V (hr : rightX 20 x.t = true) (hb : Below W.heap.size W V) => colsDesc_is G n n x V cv L (Nat.le_refl _) (HP.out.keep hb) (h.below (hb.mono (Nat.le_of_lt hG))) (right_all hr) hlen)
  rw [XM.v_eq] at HD
  have HZ := Lib.hid hs0
  have HGl := Lib.hid hG
  obtain ⟨r, hr⟩ : ∃ r, rightX 20 x.t = r := ⟨_, rfl⟩
  rw [hr] at HR HD ⊢
  obtain ⟨P, hPd⟩ : ∃ P, (if r = true then pickX 2 true x.t else []) = P := ⟨_, rfl⟩
  rw [hPd]
  have HPd := Lib.hid hPd
  clear h hP hlen hr hG hs0 hPd
  obtain ⟨x0, x1, x2, x3, x4, x5, x6, x7⟩ := HX.out
  go_enter Tryd.func34, Tryd.ntmps34
  go_wp2_with fail
  refine (HR.out _ (HB0.out.mono (Nat.le_of_lt HGl.out)) (by have := HZ.out; have := HGl.out; omega)).mono ?_
  rintro e w1 ⟨rfl, hb1⟩
  have HB1 := Lib.hid (HB0.out.trans (hb1.mono HB0.out.size))
  clear x0 x1 x2 x3 x4 x5 x6 x7
  obtain ⟨x0, x1, x2, x3, x4, x5, x6, x7⟩ := HX.out.later (by have := HZ.out; omega) hb1
  clear hb1 HR
  cases r with
  | false =>
    have HFin : Hid (Picked G W n cv L P w1 cv L) := by rw [← HPd.out]; exact Picked.none HP.out HB1.out
    go_wp2
    exact bodyPost_ret (v := .tuple #[]) (by simp [results, Tryd.results34, go_sem]) rfl ⟨rfl, cv, L, HFin.out⟩
  | true =>
    have HY := Lib.hid (HD.out w1 (by trivial) HB1.out)
    clear HD
    go_wp2_with fail
    refine HY.out.mono ?_
    rintro e w2 ⟨rfl, cv2, L2, hpk⟩
    have HFin : Hid (Picked G W n cv L P w2 cv2 L2) := by
      have := (Picked.none HP.out HB1.out).trans hpk
      rw [← HPd.out]; simpa [Hid] using this
    clear hpk HY x0 x1 x2 x3 x4 x5 x6 x7
    go_wp2
    exact bodyPost_ret (v := .tuple #[]) (by simp [results, Tryd.results34, go_sem]) rfl ⟨rfl, cv2, L2, HFin.out⟩

set_option maxHeartbeats 2000000 in
theorem cols_any (n : Nat) (x : XM) (W : World) (h : XAt W.heap.size W n x) (hlen : x.t.count ≤ 1000000) :
    Calls Tryd.prog 16 #[x.v] W (RetL W n (if rightX 20 x.t = true then pickX 2 true x.t else [])) := by
  have HX := Lib.hid (Slot8.new W 39 (.int .i64 x.t.lab.kd) (.int .u8 x.t.lab.v.k) (.int .i64 x.t.lab.v.n) (.string x.t.lab.v.s) (.string x.t.lab.tb) (.string x.t.lab.nm) (.string x.t.lab.op) (.slice x.a x.t.args.length x.cap))
  rw [XM.v_eq]
  obtain ⟨w0, hw0⟩ : ∃ w0, W.alloc (.cells #[.int .i64 x.t.lab.kd, .int .u8 x.t.lab.v.k, .int .i64 x.t.lab.v.n, .string x.t.lab.v.s, .string x.t.lab.tb, .string x.t.lab.nm, .string x.t.lab.op, .slice x.a x.t.args.length x.cap] 39) = w0 := ⟨_, rfl⟩
  have hb0 : Below W.heap.size W w0 := by rw [← hw0]; exact (Below.refl _ W).alloc (Nat.le_refl _) _
  have hs0 : w0.heap.size = W.heap.size + 1 := by rw [← hw0]; simp
  rw [hw0] at HX
  obtain ⟨w1, hw1⟩ : ∃ w1, w0.alloc (.cells #[.slice none 0 0] 37) = w1 := ⟨_, rfl⟩
  have hb1 : Below w0.heap.size w0 w1 := by rw [← hw1]; exact (Below.refl _ w0).alloc (Nat.le_refl _) _
  have hs1 : w1.heap.size = W.heap.size + 2 := by rw [← hw1]; simp [hs0]
  have hv : Blk w1 w0.heap.size 37 #[.slice none 0 0] := by
    have := Blk.new w0 37 #[.slice none 0 0]
    rw [hw1] at this; exact this
  have hP : PickIn w0.heap.size w1 n (.slice none 0 0) [] := ⟨hv, KidsIn.nil _ _ _ _⟩
  have hbw : Below W.heap.size W w1 := hb0.trans (hb1.mono hb0.size)
  have HY := Lib.hid (colsVisit_any w0.heap.size n x w1 (.slice none 0 0) [] hP ((h.below hbw).mono (by omega)) (by simpa using hlen))
  have HZ := Lib.hid hs0
  have HX1 := Lib.hid (HX.out.later (by omega) hb1)
  have HBw := Lib.hid hbw
  have HP := Lib.hid hP
  generalize (if rightX 20 x.t = true then pickX 2 true x.t else []) = P at *
  clear h hlen hb0 hs0 hb1 hs1 hv hP hbw HX
  obtain ⟨x0, x1, x2, x3, x4, x5, x6, x7⟩ := HX1.out
  go_enter Tryd.func16, Tryd.ntmps16
  go_wp2_with fail
  refine HY.out.mono ?_
  rintro e w2 ⟨rfl, cv, L, hpk⟩
  clear x0 x1 x2 x3 x4 x5 x6 x7
  obtain ⟨ac, cc, hcv, hcc, hcm, hA⟩ := own_slice hpk.pick.kids.row
  have hl : w2.cell? ⟨w0.heap.size, 0, none⟩ = some cv := (hpk.pick.var.cell 0).trans rfl
  rw [hcv] at hl
  have HB2 : Hid (Below W.heap.size W w2) := HBw.out.trans ((hpk.below HP.out).mono (by have := HZ.out; omega))
  have HA := Lib.hid hA
  have HK : Hid (∀ y ∈ L, XAt w2.heap.size w2 n y) := fun y hy => XIn.at_ ((hpk.pick.kids.kid y hy).imp fun b hb => hb.2.1)
  have HLt : Hid (L.map (·.t) = P) := by have := hpk.list; simpa [Hid] using this
  have HC := Lib.hid hcc
  have HM := Lib.hid hcm
  clear hpk hA hcv hcc hcm HY
  go_wp2
  go_ret
  exact ⟨ac, cc, L, rfl, HC.out, HM.out, HLt.out, HA.out, HK.out, HB2.out⟩

set_option maxHeartbeats 2000000 in
theorem aggsVisit_any (G n : Nat) (x : XM) (W : World) (cv : Value) (L : List XM) (hP : PickIn G W n cv L) (h : XAt G W n x) (hlen : L.length + x.t.count ≤ 1000000) :
    Calls Tryd.prog 34 #[.agg #[.int .i64 x.t.lab.kd, .int .u8 x.t.lab.v.k, .int .i64 x.t.lab.v.n, .string x.t.lab.v.s, .string x.t.lab.tb, .string x.t.lab.nm, .string x.t.lab.op, .slice x.a x.t.args.length x.cap], .func (.func 37) #[] #[.pointer (some ⟨G, 0, none⟩)]] W (RetPk G W n cv L (if rightX 20 x.t = true then pickX 6 false x.t else [])) := by
  have HX := Lib.hid (Slot8.new W 39 (.int .i64 x.t.lab.kd) (.int .u8 x.t.lab.v.k) (.int .i64 x.t.lab.v.n) (.string x.t.lab.v.s) (.string x.t.lab.tb) (.string x.t.lab.nm) (.string x.t.lab.op) (.slice x.a x.t.args.length x.cap))
  obtain ⟨w0, hw0⟩ : ∃ w0, W.alloc (.cells #[.int .i64 x.t.lab.kd, .int .u8 x.t.lab.v.k, .int .i64 x.t.lab.v.n, .string x.t.lab.v.s, .string x.t.lab.tb, .string x.t.lab.nm, .string x.t.lab.op, .slice x.a x.t.args.length x.cap] 39) = w0 := ⟨_, rfl⟩
  have HB0 : Hid (Below W.heap.size W w0) := by rw [← hw0]; exact (Below.refl _ W).alloc (Nat.le_refl _) _
  have hs0 : w0.heap.size = W.heap.size + 1 := by rw [← hw0]; simp
  rw [hw0] at HX
  have hG := hP.lt
  have HP := Lib.hid hP
  have HR := Lib.hid (fun V (hb : Below G W V) (hs : G ≤ V.heap.size) => Right_any20 n x V ((h.below hb).mono hs))
  rw [XM.v_eq] at HR
  have HD := Lib.hid (fun V (hr : rightX 20 x.t = true) (hb : Below W.heap.size W V) => aggsDesc_is G n n x V cv L (Nat.le_refl _) (HP.out.keep hb) (h.below (hb.mono (Nat.le_of_lt hG))) (right_all hr) hlen)
  rw [XM.v_eq] at HD
  have HZ := Lib.hid hs0
  have HGl := Lib.hid hG
  obtain ⟨r, hr⟩ : ∃ r, rightX 20 x.t = r := ⟨_, rfl⟩
  rw [hr] at HR HD ⊢
  obtain ⟨P, hPd⟩ : ∃ P, (if r = true then pickX 6 false x.t else []) = P := ⟨_, rfl⟩
  rw [hPd]
  have HPd := Lib.hid hPd
  clear h hP hlen hr hG hs0 hPd
  obtain ⟨x0, x1, x2, x3, x4, x5, x6, x7⟩ := HX.out
  go_enter Tryd.func34, Tryd.ntmps34
  go_wp2_with fail
  refine (HR.out _ (HB0.out.mono (Nat.le_of_lt HGl.out)) (by have := HZ.out; have := HGl.out; omega)).mono ?_
  rintro e w1 ⟨rfl, hb1⟩
  have HB1 := Lib.hid (HB0.out.trans (hb1.mono HB0.out.size))
  clear x0 x1 x2 x3 x4 x5 x6 x7
  obtain ⟨x0, x1, x2, x3, x4, x5, x6, x7⟩ := HX.out.later (by have := HZ.out; omega) hb1
  clear hb1 HR
  cases r with
  | false =>
    have HFin : Hid (Picked G W n cv L P w1 cv L) := by rw [← HPd.out]; exact Picked.none HP.out HB1.out
    go_wp2
    exact bodyPost_ret (v := .tuple #[]) (by simp [results, Tryd.results34, go_sem]) rfl ⟨rfl, cv, L, HFin.out⟩
  | true =>
    have HY := Lib.hid (HD.out w1 (by trivial) HB1.out)
    clear HD
    go_wp2_with fail
    refine HY.out.mono ?_
    rintro e w2 ⟨rfl, cv2, L2, hpk⟩
    have HFin : Hid (Picked G W n cv L P w2 cv2 L2) := by
      have := (Picked.none HP.out HB1.out).trans hpk
      rw [← HPd.out]; simpa [Hid] using this
    clear hpk HY x0 x1 x2 x3 x4 x5 x6 x7
    go_wp2
    exact bodyPost_ret (v := .tuple #[]) (by simp [results, Tryd.results34, go_sem]) rfl ⟨rfl, cv2, L2, HFin.out⟩

set_option maxHeartbeats 2000000 in
theorem aggs_any (n : Nat) (x : XM) (W : World) (h : XAt W.heap.size W n x) (hlen : x.t.count ≤ 1000000) :
    Calls Tryd.prog 17 #[x.v] W (RetL W n (if rightX 20 x.t = true then pickX 6 false x.t else [])) := by
  have HX := Lib.hid (Slot8.new W 39 (.int .i64 x.t.lab.kd) (.int .u8 x.t.lab.v.k) (.int .i64 x.t.lab.v.n) (.string x.t.lab.v.s) (.string x.t.lab.tb) (.string x.t.lab.nm) (.string x.t.lab.op) (.slice x.a x.t.args.length x.cap))
  rw [XM.v_eq]
  obtain ⟨w0, hw0⟩ : ∃ w0, W.alloc (.cells #[.int .i64 x.t.lab.kd, .int .u8 x.t.lab.v.k, .int .i64 x.t.lab.v.n, .string x.t.lab.v.s, .string x.t.lab.tb, .string x.t.lab.nm, .string x.t.lab.op, .slice x.a x.t.args.length x.cap] 39) = w0 := ⟨_, rfl⟩
  have hb0 : Below W.heap.size W w0 := by rw [← hw0]; exact (Below.refl _ W).alloc (Nat.le_refl _) _
  have hs0 : w0.heap.size = W.heap.size + 1 := by rw [← hw0]; simp
  rw [hw0] at HX
  obtain ⟨w1, hw1⟩ : ∃ w1, w0.alloc (.cells #[.slice none 0 0] 37) = w1 := ⟨_, rfl⟩
  have hb1 : Below w0.heap.size w0 w1 := by rw [← hw1]; exact (Below.refl _ w0).alloc (Nat.le_refl _) _
  have hs1 : w1.heap.size = W.heap.size + 2 := by rw [← hw1]; simp [hs0]
  have hv : Blk w1 w0.heap.size 37 #[.slice none 0 0] := by
    have := Blk.new w0 37 #[.slice none 0 0]
    rw [hw1] at this; exact this
  have hP : PickIn w0.heap.size w1 n (.slice none 0 0) [] := ⟨hv, KidsIn.nil _ _ _ _⟩
  have hbw : Below W.heap.size W w1 := hb0.trans (hb1.mono hb0.size)
  have HY := Lib.hid (aggsVisit_any w0.heap.size n x w1 (.slice none 0 0) [] hP ((h.below hbw).mono (by omega)) (by simpa using hlen))
  have HZ := Lib.hid hs0
  have HX1 := Lib.hid (HX.out.later (by omega) hb1)
  have HBw := Lib.hid hbw
  have HP := Lib.hid hP
  generalize (if rightX 20 x.t = true then pickX 6 false x.t else []) = P at *
  clear h hlen hb0 hs0 hb1 hs1 hv hP hbw HX
  obtain ⟨x0, x1, x2, x3, x4, x5, x6, x7⟩ := HX1.out
  go_enter Tryd.func17, Tryd.ntmps17
  go_wp2_with fail
  refine HY.out.mono ?_
  rintro e w2 ⟨rfl, cv, L, hpk⟩
  clear x0 x1 x2 x3 x4 x5 x6 x7
  obtain ⟨ac, cc, hcv, hcc, hcm, hA⟩ := own_slice hpk.pick.kids.row
  have hl : w2.cell? ⟨w0.heap.size, 0, none⟩ = some cv := (hpk.pick.var.cell 0).trans rfl
  rw [hcv] at hl
  have HB2 : Hid (Below W.heap.size W w2) := HBw.out.trans ((hpk.below HP.out).mono (by have := HZ.out; omega))
  have HA := Lib.hid hA
  have HK : Hid (∀ y ∈ L, XAt w2.heap.size w2 n y) := fun y hy => XIn.at_ ((hpk.pick.kids.kid y hy).imp fun b hb => hb.2.1)
  have HLt : Hid (L.map (·.t) = P) := by have := hpk.list; simpa [Hid] using this
  have HC := Lib.hid hcc
  have HM := Lib.hid hcm
  clear hpk hA hcv hcc hcm HY
  go_wp2
  go_ret
  exact ⟨ac, cc, L, rfl, HC.out, HM.out, HLt.out, HA.out, HK.out, HB2.out⟩
end Go.Proofs.YtbnddpicpomakaaDoor

/- The walks of node.Right and what it calls. -/
set_option linter.unusedSimpArgs false
set_option linter.unusedVariables false
set_option maxRecDepth 100000
namespace Go.Proofs.YtbnddpicpomakaaDoor
open Go.RowKit

theorem empty_list (s : ByteArray) (h : s.size = 0) : s.toList = [] := by rw [ByteArray.toList_eq, Array.size_eq_zero_iff.1 (show s.data.size = 0 from h)]
theorem empty_not (s : ByteArray) (h : ¬ s.size = 0) : ¬ s.toList = [] := fun h2 => h (by
  have := isEmpty_size s
  rw [h2] at this
  simpa using this.symm)

end Go.Proofs.YtbnddpicpomakaaDoor

/- The walk of cell.Compare. -/
set_option linter.unusedSimpArgs false
set_option linter.unusedVariables false
set_option maxRecDepth 100000
namespace Go.Proofs.YtbnddpicpomakaaDoor
open Go.RowKit

/-- What Compare answers. -/
def compareV (a b : Vl) : Int × Bool × Int :=
  if a.right = false ∨ b.right = false then (0, false, 3) else if a.k = 0 ∨ b.k = 0 then (0, false, 0) else if a.k ≠ b.k then (0, false, 20) else (orderV a b, true, 0)

def RetC (w : World) (r : Int × Bool × Int) (e : Ending) (w' : World) : Prop := e = .returned (.tuple #[.int .i64 r.1, .bool r.2.1, .int .i64 r.2.2]) ∧ Below w.heap.size w w'

theorem right_null0 (x : Vl) (h : x.right = true) (hk : x.k = 0) : x = ⟨0, 0, ⟨#[]⟩⟩ := by
  obtain ⟨k, n, s⟩ := x
  simp only at hk
  subst hk
  obtain ⟨rfl, rfl⟩ := right_null h
  rfl

end Go.Proofs.YtbnddpicpomakaaDoor

/- Plain mathematics of the order of values: it is total. -/
set_option linter.unusedSimpArgs false
set_option linter.unusedVariables false
set_option maxRecDepth 100000
namespace Go.Proofs.YtbnddpicpomakaaDoor
open Go.RowKit

def ltV (a b : Vl) : Prop := a.k < b.k ∨ (a.k = b.k ∧ (a.n < b.n ∨ (a.n = b.n ∧ a.s.toList < b.s.toList)))

theorem less_lt (s t : List UInt8) : Op.bytesLess s t = decide (s < t) := bytesLess_eq s t

theorem ltV_irrefl (a : Vl) : ¬ ltV a a := by
  rintro (h | ⟨_, h | ⟨_, h⟩⟩)
  · omega
  · omega
  · exact List.lt_irrefl _ h

theorem ltV_trans {a b c : Vl} (h : ltV a b) (k : ltV b c) : ltV a c := by
  rcases h with h | ⟨h1, h | ⟨h2, h⟩⟩ <;> rcases k with k | ⟨k1, k | ⟨k2, k⟩⟩
  · exact .inl (by omega)
  · exact .inl (by omega)
  · exact .inl (by omega)
  · exact .inl (by omega)
  · exact .inr ⟨by omega, .inl (by omega)⟩
  · exact .inr ⟨by omega, .inl (by omega)⟩
  · exact .inl (by omega)
  · exact .inr ⟨by omega, .inl (by omega)⟩
  · exact .inr ⟨by omega, .inr ⟨by omega, List.lt_trans h k⟩⟩

theorem list_tri (s t : List UInt8) (h : s ≠ t) : s < t ∨ t < s := by
  by_cases h1 : s < t
  · exact .inl h1
  · by_cases h2 : t < s
    · exact .inr h2
    · exact absurd (List.le_antisymm (List.not_lt.1 h2) (List.not_lt.1 h1)) h

theorem ltV_total (a b : Vl) (h : a ≠ b) : ltV a b ∨ ltV b a := by
  by_cases h1 : a.k = b.k
  · by_cases h2 : a.n = b.n
    · have hs : a.s.toList ≠ b.s.toList := by
        intro hs
        apply h
        obtain ⟨k, n, s⟩ := a
        obtain ⟨k', n', s'⟩ := b
        simp only at h1 h2 hs
        rw [h1, h2, toList_inj hs]
      rcases list_tri _ _ hs with h3 | h3
      · exact .inl (.inr ⟨h1, .inr ⟨h2, h3⟩⟩)
      · exact .inr (.inr ⟨h1.symm, .inr ⟨h2.symm, h3⟩⟩)
    · rcases Int.lt_or_gt_of_ne h2 with h3 | h3
      · exact .inl (.inr ⟨h1, .inl h3⟩)
      · exact .inr (.inr ⟨h1.symm, .inl h3⟩)
  · rcases Nat.lt_or_gt_of_ne h1 with h3 | h3
    · exact .inl (.inl h3)
    · exact .inr (.inl h3)

open Classical in
theorem orderV_lt (a b : Vl) (ha : a.right = true) (hb : b.right = true) : orderV a b = if a = b then 0 else if ltV a b then -1 else 1 := by
  unfold orderV
  by_cases hab : a = b
  · rw [if_pos (.inl hab), if_pos hab]
  · rw [if_neg (by simp [hab, ha, hb]), if_neg hab]
    by_cases h1 : a.k = b.k
    · rw [if_neg (by simp [h1])]
      by_cases h2 : a.n = b.n
      · rw [if_neg (by simp [h2])]
        have hs : a.s.toList ≠ b.s.toList := by
          intro hs
          apply hab
          obtain ⟨k, n, s⟩ := a
          obtain ⟨k', n', s'⟩ := b
          simp only at h1 h2 hs
          rw [h1, h2, toList_inj hs]
        unfold cmpS
        rw [less_lt]
        by_cases h3 : a.s.toList < b.s.toList
        · rw [if_pos (by simpa using h3), if_pos (.inr ⟨h1, .inr ⟨h2, h3⟩⟩)]
        · rw [if_neg (by simpa using h3), if_neg (by simpa using hs), if_neg]
          rintro (h | ⟨_, h | ⟨_, h⟩⟩)
          · omega
          · omega
          · exact h3 h
      · rw [if_pos (by simpa using h2)]
        unfold cmpI
        by_cases h3 : a.n < b.n
        · rw [if_pos h3, if_pos (.inr ⟨h1, .inl h3⟩)]
        · rw [if_neg h3, if_pos (by omega), if_neg]
          rintro (h | ⟨_, h | ⟨h, _⟩⟩) <;> omega
    · rw [if_pos (by simpa using h1)]
      unfold cmpI
      by_cases h3 : a.k < b.k
      · rw [if_pos (by omega), if_pos (.inl h3)]
      · rw [if_neg (by omega), if_pos (by omega), if_neg]
        rintro (h | ⟨h, _⟩) <;> omega

/-- What the law asks of the order. -/
theorem order_total (a b c : Vl) (ha : a.right = true) (hb : b.right = true) (hc : c.right = true) :
    orderV a b = -orderV b a ∧ (orderV a b = 0 ↔ a = b) ∧ ¬ (orderV a b < 0 ∧ orderV b c < 0 ∧ 0 ≤ orderV a c) ∧ ¬ (orderV a b ≤ 0 ∧ orderV b c ≤ 0 ∧ 0 < orderV a c) ∧ -1 ≤ orderV a b ∧ orderV a b ≤ 1 := by
  rw [orderV_lt a b ha hb, orderV_lt b a hb ha, orderV_lt b c hb hc, orderV_lt a c ha hc]
  by_cases hab : a = b
  · subst hab
    rw [if_pos rfl]
    refine ⟨by simp, by simp, by omega, ?_, by omega, by omega⟩
    intro h; omega
  · have hba : ¬ b = a := fun h => hab h.symm
    rw [if_neg hab, if_neg hba]
    rcases ltV_total a b hab with h1 | h1
    · have h1' : ¬ ltV b a := fun h => ltV_irrefl a (ltV_trans h1 h)
      rw [if_pos h1, if_neg h1']
      refine ⟨by omega, by simp [hab], ?_, ?_, by omega, by omega⟩
      · rintro ⟨_, h2, h3⟩
        by_cases hbc : b = c
        · rw [if_pos hbc] at h2; omega
        · rw [if_neg hbc] at h2
          by_cases hl : ltV b c
          · have hac := ltV_trans h1 hl
            have hne : a ≠ c := fun h => ltV_irrefl a (by rw [h] at hac ⊢; exact hac)
            rw [if_neg hne, if_pos hac] at h3; omega
          · rw [if_neg hl] at h2; omega
      · rintro ⟨_, h2, h3⟩
        by_cases hbc : b = c
        · subst hbc
          rw [if_neg hab, if_pos h1] at h3; omega
        · rw [if_neg hbc] at h2
          by_cases hl : ltV b c
          · have hac := ltV_trans h1 hl
            have hne : a ≠ c := fun h => ltV_irrefl a (by rw [h] at hac ⊢; exact hac)
            rw [if_neg hne, if_pos hac] at h3; omega
          · rw [if_neg hl] at h2; omega
    · have h1' : ¬ ltV a b := fun h => ltV_irrefl a (ltV_trans h h1)
      rw [if_neg h1', if_pos h1]
      refine ⟨by omega, by simp [hab], by omega, by omega, by omega, by omega⟩

end Go.Proofs.YtbnddpicpomakaaDoor

/- The walks of slices.IndexFunc and slices.ContainsFunc over cells and over pages. -/
set_option linter.unusedSimpArgs false
set_option linter.unusedVariables false
set_option maxRecDepth 100000
namespace Go.Proofs.YtbnddpicpomakaaDoor
open Go.RowKit

/-- Where the first wrong one is: -1 if there is none. -/
def RetFi (w : World) (all : Bool) (e : Ending) (w' : World) : Prop := ∃ r : Int, e = .returned (.int .i64 r) ∧ (decide (0 ≤ r) = !all) ∧ -1 ≤ r ∧ Below w.heap.size w w'

theorem all_takeG {α : Type} (p : α → Bool) (l : List α) (k : Nat) (h : k < l.length) : (l.take (k + 1)).all p = ((l.take k).all p && p l[k]) := by
  rw [List.take_succ_eq_append_getElem h, List.all_append]; simp only [List.all_cons, List.all_nil, Bool.and_true]

theorem all_falseG {α : Type} (p : α → Bool) (l : List α) (k : Nat) (h : k < l.length) (hk : p l[k] = false) : l.all p = false := by
  rw [List.all_eq_false]
  exact ⟨l[k], List.getElem_mem h, by simp [hk]⟩

open Classical in
theorem keysOk_yes {l : List ByteArray} (h : KeysOk l) : keysOk l = true := decide_eq_true h
open Classical in
theorem keysOk_no {l : List ByteArray} (h : ¬ KeysOk l) : keysOk l = false := decide_eq_false h

theorem less_yes {p y : ByteArray} (h : lessK p y = true) : Op.bytesLess y.toList p.toList = false ∧ (y.toList == p.toList) = false := by
  unfold lessK at h
  rw [less_lt] at h ⊢
  have h1 : p.toList < y.toList := of_decide_eq_true h
  refine ⟨decide_eq_false (List.lt_asymm h1), ?_⟩
  rw [beq_eq_false_iff_ne]
  intro h2
  rw [h2] at h1
  exact List.lt_irrefl _ h1
theorem less_no {p y : ByteArray} (h : lessK p y = false) : Op.bytesLess y.toList p.toList = true ∨ (Op.bytesLess y.toList p.toList = false ∧ (y.toList == p.toList) = true) := by
  unfold lessK at h
  rw [less_lt] at h ⊢
  have h1 : ¬ p.toList < y.toList := of_decide_eq_false h
  by_cases h2 : y.toList = p.toList
  · exact .inr ⟨decide_eq_false (by rw [h2]; exact List.lt_irrefl _), by simpa using h2⟩
  · exact .inl (decide_eq_true ((list_tri _ _ h2).resolve_right h1))

end Go.Proofs.YtbnddpicpomakaaDoor

/- A node in memory; the walk of node.Right. -/
set_option linter.unusedSimpArgs false
set_option linter.unusedVariables false
set_option maxRecDepth 100000
namespace Go.Proofs.YtbnddpicpomakaaDoor
open Go.RowKit

/-- Where a node's keys, cells and kids lie. -/
structure NB where
  ka : Option Addr
  kl : Nat
  kc : Nat
  ca : Option Addr
  cl : Nat
  cc : Nat
  da : Option Addr
  dl : Nat
  dc : Nat

/-- A node's value. -/
abbrev NB.v (m : NB) (leaf : Bool) : Value := .agg #[.bool leaf, .slice m.ka m.kl m.kc, .slice m.ca m.cl m.cc, .slice m.da m.dl m.dc]

def Cl.fair (c : Cl) : Prop := c.data.size ≤ 140737488355328 ∧ (-9223372036854775808 ≤ c.len ∧ c.len ≤ 9223372036854775807) ∧ (-9223372036854775808 ≤ c.page ∧ c.page ≤ 9223372036854775807)

/-- The node n lies there. -/
structure NAt (w : World) (n : Nd) (m : NB) : Prop where
  hk : m.kl = n.keys.length
  hc : m.cl = n.cells.length
  hd : m.dl = n.kids.length
  kcap : m.kl ≤ m.kc
  ccap : m.cl ≤ m.cc
  dcap : m.dl ≤ m.dc
  kmax : m.kl ≤ 140737488355328
  cmax : m.cl ≤ 140737488355328
  dmax : m.dl ≤ 140737488355328
  karr : Arr w.heap.size w m.ka (cellsS n.keys)
  carr : Arr w.heap.size w m.ca (cellsC n.cells)
  darr : Arr w.heap.size w m.da (cellsI n.kids)
  kfair : ∀ k ∈ n.keys, k.size ≤ 140737488355328
  cfair : ∀ c ∈ n.cells, c.fair
  dfair : ∀ p ∈ n.kids, -9223372036854775808 ≤ p ∧ p ≤ 9223372036854775807

theorem NAt.later {w w' : World} {n : Nd} {m : NB} (h : NAt w n m) (hb : Below w.heap.size w w') : NAt w' n m :=
  ⟨h.hk, h.hc, h.hd, h.kcap, h.ccap, h.dcap, h.kmax, h.cmax, h.dmax, h.karr.later (N := 0) hb, h.carr.later (N := 0) hb, h.darr.later (N := 0) hb, h.kfair, h.cfair, h.dfair⟩

open Classical in
theorem Nd.ok_eq {n : Nd} {b : Bool} (h : n.Ok ↔ b = true) : n.ok = b := by
  unfold Nd.ok
  cases b with
  | true => exact decide_eq_true (h.2 rfl)
  | false => exact decide_eq_false (fun h2 => by simpa using h.1 h2)

theorem keysOk_iff (l : List ByteArray) : keysOk l = true ↔ KeysOk l := by unfold keysOk; simp

end Go.Proofs.YtbnddpicpomakaaDoor
