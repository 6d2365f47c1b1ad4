/- Several texts of one proof, one behind the other. -/
import Derived.Test.YtjhdlbkcpdfpcaaDoorFPk9
set_option linter.unusedSimpArgs false
set_option linter.unusedVariables false

/- How long the texts of expressions are. -/
set_option linter.unusedSimpArgs false
set_option linter.unusedVariables false
set_option maxRecDepth 100000
namespace Go.Proofs.YtjhdlbkcpdfpcaaDoor
open Go.RowKit

theorem joinTail_len (sep : List UInt8) (r : List (List UInt8)) : (Lib.joinTail sep r).length = (r.map List.length).sum + r.length * sep.length := by
  induction r with
  | nil => simp [Lib.joinTail]
  | cons x r ih =>
    have e : Lib.joinTail sep (x :: r) = (sep ++ x) ++ Lib.joinTail sep r := by simp [Lib.joinTail]
    rw [e, List.length_append, List.length_append, ih, List.map_cons, List.sum_cons, List.length_cons, Nat.add_mul]; omega
theorem joinS_size (xs : List ByteArray) (sep : ByteArray) : (joinS xs sep).size ≤ (xs.map ByteArray.size).sum + xs.length * sep.size := by
  unfold joinS joinL
  rw [baL_size]
  cases xs with
  | nil => simp [Lib.join_nil]
  | cons x r =>
    rw [List.map_cons, Lib.join_cons, List.length_append, joinTail_len, List.map_cons, List.sum_cons, List.length_cons, List.map_map, List.length_map, Nat.add_mul]
    have e1 : (List.map (List.length ∘ fun x : ByteArray => x.data.toList) r).sum = (List.map ByteArray.size r).sum := by
      congr 1
    have e2 : x.data.toList.length = x.size := by simp
    have e3 : sep.data.toList.length = sep.size := by simp
    rw [e1, e2, e3]; omega

/-- Good for a text: valid, and no label too much. -/
def Lb.good (l : Lb) (n : Nat) : Bool := l.ok n && !l.big n
def GoodX (e : Ex) : Prop := e.allB Lb.good = true
theorem GoodX.lab {e : Ex} (h : GoodX e) : e.lab.ok e.args.length = true ∧ e.lab.big e.args.length = false := by
  unfold GoodX at h
  rw [Rose.allB_eq] at h
  simp only [Lb.good, Bool.and_eq_true, Bool.not_eq_true'] at h
  exact h.1
theorem GoodX.arg {e x : Ex} (h : GoodX e) (hx : x ∈ e.args) : GoodX x := by
  unfold GoodX at h
  rw [Rose.allB_eq, Bool.and_eq_true, List.all_eq_true] at h
  exact h.2 x hx
structure Lb.Small (l : Lb) (n : Nat) : Prop where
  n : n ≤ 6
  nm : l.nm.size ≤ 100
  tb : l.tb.size ≤ 100
  op : l.op.size ≤ 100
  s : l.v.s.size ≤ 200
theorem Lb.small {l : Lb} {n : Nat} (h : l.big n = false) : l.Small n := by
  unfold Lb.big at h
  simp only [Bool.or_eq_false_iff, decide_eq_false_iff_not] at h
  exact ⟨by omega, by omega, by omega, by omega, by omega⟩
theorem getD_size (ts : List ByteArray) (i : Nat) : (ts.getD i ⟨#[]⟩).size ≤ (ts.map ByteArray.size).sum := by
  induction ts generalizing i with
  | nil => exact Nat.zero_le 0
  | cons x r ih =>
    cases i with
    | zero => simp
    | succ i => have := ih i; simp only [List.getD_cons_succ, List.map_cons, List.sum_cons]; omega
theorem getD2_size (ts : List ByteArray) : (ts.getD 0 ⟨#[]⟩).size + (ts.getD 1 ⟨#[]⟩).size ≤ (ts.map ByteArray.size).sum := by
  cases ts with
  | nil => exact Nat.zero_le 0
  | cons x r =>
    have := getD_size r 0
    simp only [List.getD_cons_zero, List.getD_cons_succ, List.map_cons, List.sum_cons]; omega

theorem textOf_size (l : Lb) (ts : List ByteArray) (n : Nat) (hn : ts.length = n) (hs : l.Small n) (h0 : -9223372036854775808 ≤ l.v.n ∧ l.v.n ≤ 9223372036854775807) : (l.textOf ts).size ≤ 900 + (ts.map ByteArray.size).sum := by
  have e1 : (⟨#[40]⟩ : ByteArray).size = 1 := rfl
  have e2 : (⟨#[41]⟩ : ByteArray).size = 1 := rfl
  have e3 : (⟨#[32]⟩ : ByteArray).size = 1 := rfl
  have e4 : (⟨#[46]⟩ : ByteArray).size = 1 := rfl
  have e5 : (⟨#[40, 42, 41]⟩ : ByteArray).size = 3 := rfl
  have e6 : (⟨#[44, 32]⟩ : ByteArray).size = 2 := rfl
  have a0 := getD_size ts 0
  have a2 := getD2_size ts
  have h1 := hs.n; have h2 := hs.nm; have h3 := hs.tb; have h4 := hs.op
  unfold Lb.textOf
  split
  · have := litS_size l.v hs.s h0.1 h0.2; omega
  split
  · unfold Lb.colS
    split
    · omega
    · rw [ByteArray.size_append, ByteArray.size_append]; omega
  split
  · simp only [ByteArray.size_append]; omega
  split
  · simp only [ByteArray.size_append]; omega
  split
  · simp only [ByteArray.size_append]; omega
  split
  · simp only [ByteArray.size_append]; omega
  · have := joinS_size ts ⟨#[44, 32]⟩
    rw [e6] at this
    simp only [ByteArray.size_append]; omega

theorem textX_size : ∀ (N n : Nat) (w : World) (x : XM), XAt N w n x → GoodX x.t → (textX x.t).size ≤ 1000 * x.t.count
  | _, 0, _, _, h, _ => h.elim
  | N, n + 1, w, x, h, hg => by
    have hs := Lb.small hg.lab.2
    have hf := h.fair.1.n
    have hk : ∀ y ∈ x.t.args, (textX y).size ≤ 1000 * y.count := by
      intro y hy
      obtain ⟨k, hk, rfl⟩ := List.getElem_of_mem hy
      obtain ⟨z, hz, hzA, _⟩ := h.kid hk
      have := textX_size N n w z hzA (by rw [hz]; exact hg.arg hy)
      rw [hz] at this; exact this
    rw [textX_eq, Rose.count_eq]
    have h1 := textOf_size x.t.lab (x.t.args.map textX) _ (by simp) hs hf
    have h2 : ((x.t.args.map textX).map ByteArray.size).sum ≤ 1000 * (x.t.args.map Rose.count).sum := by
      generalize x.t.args = l at hk
      induction l with
      | nil => simp
      | cons y r ih =>
        have := hk y List.mem_cons_self
        have := ih (fun z hz => hk z (List.mem_cons_of_mem _ hz))
        simp only [List.map_cons, List.sum_cons]; omega
    omega
end Go.Proofs.YtjhdlbkcpdfpcaaDoor

/- The walks of call and text, and of Write. -/
set_option linter.unusedSimpArgs false
set_option linter.unusedVariables false
set_option maxRecDepth 100000
namespace Go.Proofs.YtjhdlbkcpdfpcaaDoor
open Go.RowKit

/-- What is known of text, of trees of so many levels. -/
def TextIs (n : Nat) : Prop := ∀ (y : XM) (W : World), Pre4 W → XAt W.heap.size W n y → GoodX y.t → y.t.count ≤ 100000 → Calls Tryd.prog 43 #[y.v] W fun e w' => e = .returned (.string (textX y.t)) ∧ Below W.heap.size W w'

theorem count_arg {e x : Ex} (h : x ∈ e.args) : x.count < e.count := by
  rw [Rose.count_eq e]
  have : x.count ≤ (e.args.map Rose.count).sum := by
    generalize e.args = l at h
    induction l with
    | nil => cases h
    | cons y r ih =>
      rw [List.map_cons, List.sum_cons]
      rcases List.mem_cons.1 h with rfl | h
      · omega
      · have := ih h; omega
  omega
theorem sum_textX (N n : Nat) (w : World) (x : XM) (h : XAt N w n x) (hg : GoodX x.t) : ((x.t.args.map textX).map ByteArray.size).sum ≤ 1000 * x.t.count := by
  cases n with
  | zero => exact h.elim
  | succ n =>
    have hk : ∀ y ∈ x.t.args, (textX y).size ≤ 1000 * y.count := by
      intro y hy
      obtain ⟨k, hk, rfl⟩ := List.getElem_of_mem hy
      obtain ⟨z, hz, hzA, _⟩ := h.kid hk
      have := textX_size N n w z hzA (by rw [hz]; exact hg.arg hy)
      rw [hz] at this; exact this
    rw [Rose.count_eq]
    have h2 : ((x.t.args.map textX).map ByteArray.size).sum ≤ 1000 * (x.t.args.map Rose.count).sum := by
      generalize x.t.args = l at hk
      induction l with
      | nil => simp
      | cons y r ih =>
        have := hk y List.mem_cons_self
        have := ih (fun z hz => hk z (List.mem_cons_of_mem _ hz))
        simp only [List.map_cons, List.sum_cons]; omega
    omega

set_option maxHeartbeats 2000000 in
theorem call_any (n : Nat) (IH : TextIs n) (x : XM) (w : World) (hT : Pre4 w) (h : XAt w.heap.size w (n + 1) x) (hg : GoodX x.t) (hc : x.t.count ≤ 100000) (hk : x.t.lab.kd ≠ 1 ∧ x.t.lab.kd ≠ 2 ∧ x.t.lab.kd ≠ 3 ∧ x.t.lab.kd ≠ 4 ∧ x.t.lab.kd ≠ 5) :
    Calls Tryd.prog 70 #[x.v] w fun e w' => e = .returned (.string (textX x.t)) ∧ Below w.heap.size w w' := by
  have hsum := sum_textX _ _ w x h hg
  have hsm := Lb.small hg.lab.2
  have hTx : textX x.t = if (x.t.args.map textX).isEmpty then x.t.lab.op ++ ⟨#[40, 42, 41]⟩ else x.t.lab.op ++ ⟨#[40]⟩ ++ joinS (x.t.args.map textX) ⟨#[44, 32]⟩ ++ ⟨#[41]⟩ := by
    rw [textX_eq]; unfold Lb.textOf
    rw [if_neg hk.1, if_neg hk.2.1, if_neg hk.2.2.1, if_neg hk.2.2.2.1, if_neg hk.2.2.2.2]
  have HA := Lib.hid h
  have HG := Lib.hid hg
  have HCt := Lib.hid hc
  rw [hTx, XM.v_eq]
  obtain ⟨t, a, cap⟩ := x
  simp only at hsum hsm HA HG HCt hc ⊢
  have hop := hsm.op
  have hn6 := hsm.n
  obtain ⟨m, hm⟩ : ∃ m, t.args.length = m := ⟨_, rfl⟩
  have HM := Lib.hid hm
  rw [hm] at hn6 ⊢
  have HP := Lib.hid (fun W (hb : Below w.heap.size w W) => hT.below hb)
  have HS := Lib.hid (Slot8.new w 39 (.int .i64 t.lab.kd) (.int .u8 t.lab.v.k) (.int .i64 t.lab.v.n) (.string t.lab.v.s) (.string t.lab.tb) (.string t.lab.nm) (.string t.lab.op) (.slice a m cap))
  have HB0 : Hid (∀ o, Below w.heap.size w (w.alloc o)) := fun o => (Below.refl _ w).alloc (Nat.le_refl _) _
  by_cases h0 : m = 0
  · have he : (t.args.map textX).isEmpty = true := by
      rw [List.isEmpty_iff, List.map_eq_nil_iff, ← List.length_eq_zero_iff, hm, h0]
    rw [if_pos he]
    subst h0
    have s1 : ¬ 9223372036854775807 < t.lab.op.size + 3 := by omega
    clear h hg hc hk hTx hsum hsm he hm hT
    obtain ⟨x0, x1, x2, x3, x4, x5, x6, x7⟩ := HS.out
    go_enter Tryd.func70, Tryd.ntmps70
    go_wp2
    go_ret
    exact ⟨rfl, HB0.out _⟩
  · have he : ¬ (t.args.map textX).isEmpty = true := by
      rw [List.isEmpty_iff, List.map_eq_nil_iff, ← List.length_eq_zero_iff, hm]; exact h0
    rw [if_neg he]
    obtain ⟨iS, hiS, hzS, hsS, hbS⟩ := info_parts info_strT
    have q0 : ((m : Int) == 0) = false := by simp; omega
    have hjs := joinS_size (t.args.map textX) ⟨#[44, 32]⟩
    have e6 : (⟨#[44, 32]⟩ : ByteArray).size = 2 := rfl
    rw [e6, List.length_map, hm] at hjs
    have HJ : Hid ((joinL (t.args.map textX) ⟨#[44, 32]⟩).length ≤ 140737488355328) := by
      unfold joinS at hjs; rw [baL_size] at hjs; show _ ≤ _; omega
    obtain ⟨R, hR⟩ : ∃ R, joinS (t.args.map textX) ⟨#[44, 32]⟩ = R := ⟨_, rfl⟩
    rw [hR] at hjs ⊢
    have HR := Lib.hid hR
    have hRs : R.size ≤ 200000000 := by omega
    have s1 : ¬ 9223372036854775807 < t.lab.op.size + 1 := by omega
    have s2 : ¬ 9223372036854775807 < t.lab.op.size + 1 + R.size := by omega
    have s3 : ¬ 9223372036854775807 < t.lab.op.size + 1 + R.size + 1 := by omega
    have IHx : Hid (∀ (y : XM) (W : World), Below w.heap.size w W → XAt W.heap.size W n y → GoodX y.t → y.t.count ≤ 100000 → Calls Tryd.prog 43 #[.agg #[.int .i64 y.t.lab.kd, .int .u8 y.t.lab.v.k, .int .i64 y.t.lab.v.n, .string y.t.lab.v.s, .string y.t.lab.tb, .string y.t.lab.nm, .string y.t.lab.op, .slice y.a y.t.args.length y.cap]] W fun e w' => e = .returned (.string (textX y.t)) ∧ Below W.heap.size W w') := fun y W hb hy hg hc => by
      have := IH y W (HP.out W hb) hy hg hc
      rw [XM.v_eq] at this; exact this
    obtain ⟨w0, hw0⟩ : ∃ w0, w.alloc (.cells #[.int .i64 t.lab.kd, .int .u8 t.lab.v.k, .int .i64 t.lab.v.n, .string t.lab.v.s, .string t.lab.tb, .string t.lab.nm, .string t.lab.op, .slice a m cap] 39) = w0 := ⟨_, rfl⟩
    have HB1 : Hid (Below w.heap.size w w0) := by rw [← hw0]; exact HB0.out _
    have hs0 : w0.heap.size = w.heap.size + 1 := by rw [← hw0]; simp
    rw [hw0] at HS
    have HZ := Lib.hid hs0
    have HV0 : Hid (w0.ownsRow w0.heap.size 9 1 (.slice none 0 0) 0 (cellsS ((t.args.take 0).map textX))) := World.ownsRow_nil _ _ _ _
    clear h hg hc hk hTx hsum hsm he hm hT hR HB0 hs0 IH h0 hjs e6
    obtain ⟨x0, x1, x2, x3, x4, x5, x6, x7⟩ := HS.out
    go_enter Tryd.func70, Tryd.ntmps70
    go_wp2
    clear x0 x1 x2 x3 x4 x5 x6 x7
    go_loopw [3, 16] (fun v i wr => ∃ (k : Nat) (cv : Value), cv = v ∧ k ≤ m ∧ i = .int .i64 (k : Int) ∧ Hid (wr.ownsRow w0.heap.size 9 1 cv k (cellsS ((t.args.take k).map textX))) ∧ Hid (Below w0.heap.size w0 wr)) (fun _ i _ => m - (intOf i).toNat)
    case atStart => exact ⟨0, _, rfl, by omega, rfl, HV0, Below.refl _ _⟩
    case round =>
      clear HV0
      obtain ⟨k, cv, rfl, hk, rfl, HV, HBr⟩ := hrel
      have HBw := Lib.hid (HB1.out.trans (HBr.out.mono HB1.out.size))
      have HBs := Lib.hid HBr.out.size
      by_cases hlt : k < m
      · have hkl : k < t.args.length := by rw [HM.out]; exact hlt
        obtain ⟨y, hy, hAy, b, o, hab, hbN, hKid⟩ := (HA.out.later HBw.out).kid8 (k := k) hkl
        simp only at hab hy
        subst hab
        obtain ⟨y0, y1, y2, y3, y4, y5, y6, y7⟩ := hKid
        have HTk : Hid ((t.args.take (k + 1)).map textX = (t.args.take k).map textX ++ [textX y.t]) := by
          rw [List.take_succ_eq_append_getElem hkl, List.map_append, ← hy]; rfl
        have hyg : GoodX y.t := by rw [hy]; exact HG.out.arg (List.getElem_mem hkl)
        have hyc : y.t.count ≤ 100000 := by have h1 := count_arg (List.getElem_mem hkl); rw [← hy] at h1; have := HCt.out; omega
        have HY := Lib.hid (IHx.out y (wr.alloc (.cells #[.int .i64 y.t.lab.kd, .int .u8 y.t.lab.v.k, .int .i64 y.t.lab.v.n, .string y.t.lab.v.s, .string y.t.lab.tb, .string y.t.lab.nm, .string y.t.lab.op, .slice y.a y.t.args.length y.cap] 39)) (HBw.out.trans ((Below.refl w.heap.size wr).alloc HBw.out.size _)) (hAy.later ((Below.refl _ wr).alloc (Nat.le_refl _) _)) hyg hyc)
        generalize textX y.t = R1 at *
        clear hy hAy hkl hyg hyc HA IHx HG
        go_wp2_with (first | (at_builtin; fail) | fail)
        refine HY.out.mono ?_
        rintro e w2 ⟨rfl, hb2⟩
        have HB1' : Hid (Below wr.heap.size wr w2) := ((Below.refl _ wr).alloc (Nat.le_refl _) _).trans (hb2.mono (by simp))
        have HB2 := Lib.hid (HBr.out.trans (HB1'.out.mono HBs.out))
        have HBs2 := Lib.hid HB2.out.size
        have HV2 := Lib.hid (own_below HV.out (Nat.le_refl _) HB1'.out)
        clear hb2 HY y0 y1 y2 y3 y4 y5 y6 y7 HV HB1'
        go_wp2_with (first | (at_builtin; refine wpList_appC rfl _ _ 58 rfl w0.heap.size 9 iS (.string ⟨#[]⟩) 1 16 Tryd.underlying58 hiS hzS rfl hsS (by omega) hbS (by omega) cv k _ [.string R1] w2 HV2.out rfl _ rfl rfl (by simp [Value.oneCell']) rfl (by omega) HBs2.out ?_; intro v5 w5 hown5 hc5 hsz5; have HO5 := Lib.hid hown5; have HC5 := Lib.hid hc5; clear hown5 hc5 hsz5))
        have HB5 : Hid (Below w0.heap.size w0 w5) := HB2.out.trans (((Below.refl w0.heap.size w2).alloc HBs2.out _).trans (HC5.out.below (by have := HBs2.out; simp; omega) (fun g hg => (HV2.out.lt g (by simpa using hg)).1)))
        go_roundw
        case rel => exact ⟨k + 1, v5, rfl, by omega, by go_num, by rw [HTk.out, cellsS_snoc]; exact HO5.out, HB5.out⟩
        case measure => simp [intOf]; omega
      · have hke : k = m := by omega
        have HO := HV.out
        rw [hke, ← HM.out, List.take_length] at HO
        obtain ⟨ac, cc, hcv, hcc, hcm, hA2⟩ := own_slice HO
        have hml := HM.out
        have HY := Lib.hid (fun W (hb : Below wr.heap.size wr W) => Join_any (t.args.map textX) ⟨#[44, 32]⟩ ac cc W (hA2.later (N := 0) hb) (by rw [List.length_map]; omega) (by rw [List.length_map]; omega) HJ.out)
        rw [HR.out, List.length_map, HM.out] at HY
        rw [HM.out] at hcv
        subst hcv
        have HSr := Lib.hid (HS.out.later (by have := HZ.out; omega) HBr.out)
        have l6 : ∀ W, Later wr.drew W → W.cell? ⟨w.heap.size, 6, none⟩ = some (.string t.lab.op) := fun W hW => (HSr.out.later (N := wr.heap.size) (by have := HZ.out; have := HBs.out; omega) (Later.undrew hW)).c6
        clear HO hA2 hcc hcm hml HV HA HG IHx HS HR HJ
        go_wp2_with fail
        refine wp_region_ord [(0, true), (1, true), (2, true), (3, true), (4, false), (5, true), (6, true), (7, true)] (by kernel_rfl) (by kernel_rfl) (by kernel_rfl) (by kernel_rfl) ?_
        repeat (first | (refine wpO_F (v := ?_) rfl (by rfl) (fun w' hL => ?_) ?_; rotate_left; (solve | (go_simp; with_reducible rfl) | go_simp); try simp only [Act.put, List.setIfInBounds_toArray, List.set_cons_zero, List.set_cons_succ]) | (refine wpO_G rfl (by rfl) ?_; try simp only [Act.put, List.setIfInBounds_toArray, List.set_cons_zero, List.set_cons_succ]))
        refine wpO_C rfl (by rfl) ?_
        go_simp
        refine (HY.out _ (Below.refl _ _).drew).mono ?_
        rintro e w2 ⟨rfl, hb2⟩
        refine ⟨hb2, ?_⟩
        try simp only [Act.put, List.setIfInBounds_toArray, List.set_cons_zero, List.set_cons_succ]
        repeat (first | (refine wpO_F (v := ?_) rfl (by rfl) (fun w' hL => ?_) ?_; rotate_left; (solve | (go_simp; with_reducible rfl) | go_simp); try simp only [Act.put, List.setIfInBounds_toArray, List.set_cons_zero, List.set_cons_succ]) | (refine wpO_G rfl (by rfl) ?_; try simp only [Act.put, List.setIfInBounds_toArray, List.set_cons_zero, List.set_cons_succ]))
        refine wpO_nil ?_
        have HB2 := Lib.hid (HBw.out.trans (((Below.refl _ wr).drew.trans hb2).mono HBw.out.size))
        clear hb2 HY l6
        go_wp2
        go_ret
        exact ⟨rfl, HB2.out⟩
end Go.Proofs.YtjhdlbkcpdfpcaaDoor

/- The walks of text and Write. -/
set_option linter.unusedSimpArgs false
set_option linter.unusedVariables false
set_option maxRecDepth 100000
namespace Go.Proofs.YtjhdlbkcpdfpcaaDoor
open Go.RowKit

theorem KidAt.later {w W : World} {b o : Nat} {y : XM} {N : Nat} (h : KidAt w b o y) (hb : b < N) (hB : Below N w W) : KidAt W b o y :=
  ⟨(hB.cell (p := ⟨b, o, none⟩) hb).trans h.c0, (hB.cell (p := ⟨b, o + 1, none⟩) hb).trans h.c1, (hB.cell (p := ⟨b, o + 2, none⟩) hb).trans h.c2, (hB.cell (p := ⟨b, o + 3, none⟩) hb).trans h.c3, (hB.cell (p := ⟨b, o + 4, none⟩) hb).trans h.c4, (hB.cell (p := ⟨b, o + 5, none⟩) hb).trans h.c5, (hB.cell (p := ⟨b, o + 6, none⟩) hb).trans h.c6, (hB.cell (p := ⟨b, o + 7, none⟩) hb).trans h.c7⟩

theorem ok_len {l : Lb} {n : Nat} (h : l.ok n = true) : (l.kd = 3 → n = 1) ∧ (l.kd = 4 → n = 2) ∧ (l.kd = 5 → n = 1) := by
  unfold Lb.ok takesB at h
  refine ⟨fun hk => ?_, fun hk => ?_, fun hk => ?_⟩ <;>
  · rw [hk] at h
    simp at h
    omega

set_option maxHeartbeats 4000000 in
theorem text_is : ∀ n, TextIs n
  | 0 => fun _ _ _ h _ _ => h.elim
  | n + 1 => fun x w hT h hg hc => by
    have IH := text_is n
    have HCall := Lib.hid (fun hk W (hb : Below w.heap.size w W) => call_any n IH x W (hT.below hb) (h.later hb) hg hc hk)
    have hsum := sum_textX _ _ w x h hg
    have hsm := Lb.small hg.lab.2
    have hok := ok_len hg.lab.1
    have hTx := textX_eq x.t
    unfold Lb.textOf at hTx
    have HA := Lib.hid h
    have HG := Lib.hid hg
    have HCt := Lib.hid hc
    have hF := h.fair.1
    rw [XM.v_eq] at HCall ⊢
    have HColm := Lib.hid (fun W => column_any x W (by have := hsm.tb; omega) (by have := hsm.nm; omega))
    rw [XM.v_eq] at HColm
    obtain ⟨t, a, cap⟩ := x
    simp only at hsum hsm hok HA HG HCt HCall HColm hTx hF hc ⊢
    have hop := hsm.op
    obtain ⟨m, hm⟩ : ∃ m, t.args.length = m := ⟨_, rfl⟩
    have HM := Lib.hid hm
    rw [hm] at hok HCall HColm ⊢
    have HP := Lib.hid (fun W (hb : Below w.heap.size w W) => hT.below hb)
    have HLit := Lib.hid (fun W (hb : Below w.heap.size w W) => literal_any t.lab.v W (HP.out W hb) hF.k hF.n hsm.s)
    have IHx : Hid (∀ (y : XM) (W : World), Below w.heap.size w W → XAt W.heap.size W n y → GoodX y.t → y.t.count ≤ 100000 → Calls Tryd.prog 43 #[.agg #[.int .i64 y.t.lab.kd, .int .u8 y.t.lab.v.k, .int .i64 y.t.lab.v.n, .string y.t.lab.v.s, .string y.t.lab.tb, .string y.t.lab.nm, .string y.t.lab.op, .slice y.a y.t.args.length y.cap]] W fun e w' => e = .returned (.string (textX y.t)) ∧ Below W.heap.size W w') := fun y W hb hy hg hc => by
      have := IH y W (HP.out W hb) hy hg hc
      rw [XM.v_eq] at this; exact this
    have HS := Lib.hid (Slot8.new w 39 (.int .i64 t.lab.kd) (.int .u8 t.lab.v.k) (.int .i64 t.lab.v.n) (.string t.lab.v.s) (.string t.lab.tb) (.string t.lab.nm) (.string t.lab.op) (.slice a m cap))
    obtain ⟨w0, hw0⟩ : ∃ w0, w.alloc (.cells #[.int .i64 t.lab.kd, .int .u8 t.lab.v.k, .int .i64 t.lab.v.n, .string t.lab.v.s, .string t.lab.tb, .string t.lab.nm, .string t.lab.op, .slice a m cap] 39) = w0 := ⟨_, rfl⟩
    have HB1 : Hid (Below w.heap.size w w0) := by rw [← hw0]; exact (Below.refl _ w).alloc (Nat.le_refl _) _
    have hs0 : w0.heap.size = w.heap.size + 1 := by rw [← hw0]; simp
    rw [hw0] at HS
    have HZ := Lib.hid hs0
    have HKid : Hid (∀ k (hk : k < t.args.length), ∃ y : XM, y.t = t.args[k] ∧ (∃ b o, a = some ⟨b, o, none⟩ ∧ b < w0.heap.size ∧ KidAt w0 b (o + k * 8) y) ∧ ∀ W, Below w0.heap.size w0 W → Calls Tryd.prog 43 #[.agg #[.int .i64 y.t.lab.kd, .int .u8 y.t.lab.v.k, .int .i64 y.t.lab.v.n, .string y.t.lab.v.s, .string y.t.lab.tb, .string y.t.lab.nm, .string y.t.lab.op, .slice y.a y.t.args.length y.cap]] W fun e w' => e = .returned (.string (textX y.t)) ∧ Below W.heap.size W w') := fun k hk => by
      obtain ⟨y, hy, hAy, b, o, hab, hbN, hKid⟩ := (HA.out.later HB1.out).kid8 (k := k) hk
      have hyg : GoodX y.t := by rw [hy]; exact HG.out.arg (List.getElem_mem hk)
      have hyc : y.t.count ≤ 100000 := by have h1 := count_arg (List.getElem_mem hk); rw [← hy] at h1; have := HCt.out; omega
      exact ⟨y, hy, ⟨b, o, hab, hbN, hKid⟩, fun W hb => IHx.out y W (HB1.out.trans (hb.mono HB1.out.size)) (hAy.later hb) hyg hyc⟩
    have hsz : ∀ i, ((t.args.map textX).getD i ⟨#[]⟩).size ≤ 100000000 := fun i => by have := getD_size (t.args.map textX) i; omega
    have HSz := Lib.hid hsz
    clear h hg hc hsum hsm hm hT hs0 IH IHx HA HG HCt hsz HP hF
    obtain ⟨x0, x1, x2, x3, x4, x5, x6, x7⟩ := HS.out
    by_cases k1 : t.lab.kd = 1
    · rw [if_pos k1] at hTx
      rw [hTx]
      generalize Vl.litS t.lab.v = R at *
      generalize t.lab.kd = kd at *
      subst k1
      clear hTx HCall HColm hok HKid
      go_enter Tryd.func43, Tryd.ntmps43
      go_wp2_with fail
      refine (HLit.out _ HB1.out).mono ?_
      rintro e w1 ⟨rfl, hb1⟩
      have HB2 := Lib.hid (HB1.out.trans (hb1.mono HB1.out.size))
      clear hb1 x0 x1 x2 x3 x4 x5 x6 x7
      go_wp2
      go_ret
      exact ⟨rfl, HB2.out⟩
    rw [if_neg k1] at hTx
    by_cases k2 : t.lab.kd = 2
    · rw [if_pos k2] at hTx
      rw [hTx]
      generalize Lb.colS t.lab = R at *
      generalize t.lab.kd = kd at *
      subst k2
      clear hTx HCall HLit hok HKid k1
      go_enter Tryd.func43, Tryd.ntmps43
      go_wp2_with fail
      refine (HColm.out _).mono ?_
      rintro e w1 ⟨rfl, hb1⟩
      have HB2 := Lib.hid (HB1.out.trans (hb1.mono HB1.out.size))
      clear hb1 x0 x1 x2 x3 x4 x5 x6 x7
      go_wp2
      go_ret
      exact ⟨rfl, HB2.out⟩
    rw [if_neg k2] at hTx
    by_cases k3 : t.lab.kd = 3
    · rw [if_pos k3] at hTx
      have hm1 := hok.1 k3
      subst hm1
      obtain ⟨y0, hy0, ⟨b, o, hab, hbN, hKd0⟩, hCl0⟩ := HKid.out 0 (by rw [HM.out]; omega)
      have hyt0 : (t.args.map textX).getD 0 ⟨#[]⟩ = textX y0.t := by
        rw [hy0]; simp [List.getD, List.getElem?_eq_getElem (show 0 < t.args.length by rw [HM.out]; omega)]
      have hys0 := HSz.out 0
      rw [hyt0] at hTx hys0
      rw [hTx]
      have HY0 := Lib.hid hCl0
      subst hab
      generalize textX y0.t = R0 at *
      generalize t.lab.kd = kd at *
      subst k3
      have s0 : ¬ 9223372036854775807 < 1 + t.lab.op.size := by omega
      have s1 : ¬ 9223372036854775807 < 1 + t.lab.op.size + 1 := by omega
      have s2 : ¬ 9223372036854775807 < 1 + t.lab.op.size + 1 + R0.size := by omega
      have s3 : ¬ 9223372036854775807 < 1 + t.lab.op.size + 1 + R0.size + 1 := by omega
      have HK0 := Lib.hid hKd0
      have hw0s : w.heap.size < w0.heap.size := by have := HZ.out; omega
      have l6 : ∀ W, Later w0.drew W → W.cell? ⟨w.heap.size, 6, none⟩ = some (.string t.lab.op) := fun W hW => (HS.out.later hw0s (Later.undrew hW)).c6
      have l7 : ∀ W, Later w0.drew W → W.cell? ⟨w.heap.size, 7, none⟩ = some (.slice (some ⟨b, o, none⟩) 1 cap) := fun W hW => (HS.out.later hw0s (Later.undrew hW)).c7
      have g00 : ∀ W, Later w0.drew W → W.cell? ⟨b, o, none⟩ = some (.int .i64 y0.t.lab.kd) := fun W hW => by have := (HK0.out.later hbN (Later.undrew hW)).c0; rw [Nat.zero_mul, Nat.add_zero] at this; exact this
      have g01 : ∀ W, Later w0.drew W → W.cell? ⟨b, o + 1, none⟩ = some (.int .u8 y0.t.lab.v.k) := fun W hW => by have := (HK0.out.later hbN (Later.undrew hW)).c1; rw [Nat.zero_mul, Nat.add_zero] at this; exact this
      have g02 : ∀ W, Later w0.drew W → W.cell? ⟨b, o + 2, none⟩ = some (.int .i64 y0.t.lab.v.n) := fun W hW => by have := (HK0.out.later hbN (Later.undrew hW)).c2; rw [Nat.zero_mul, Nat.add_zero] at this; exact this
      have g03 : ∀ W, Later w0.drew W → W.cell? ⟨b, o + 3, none⟩ = some (.string y0.t.lab.v.s) := fun W hW => by have := (HK0.out.later hbN (Later.undrew hW)).c3; rw [Nat.zero_mul, Nat.add_zero] at this; exact this
      have g04 : ∀ W, Later w0.drew W → W.cell? ⟨b, o + 4, none⟩ = some (.string y0.t.lab.tb) := fun W hW => by have := (HK0.out.later hbN (Later.undrew hW)).c4; rw [Nat.zero_mul, Nat.add_zero] at this; exact this
      have g05 : ∀ W, Later w0.drew W → W.cell? ⟨b, o + 5, none⟩ = some (.string y0.t.lab.nm) := fun W hW => by have := (HK0.out.later hbN (Later.undrew hW)).c5; rw [Nat.zero_mul, Nat.add_zero] at this; exact this
      have g06 : ∀ W, Later w0.drew W → W.cell? ⟨b, o + 6, none⟩ = some (.string y0.t.lab.op) := fun W hW => by have := (HK0.out.later hbN (Later.undrew hW)).c6; rw [Nat.zero_mul, Nat.add_zero] at this; exact this
      have g07 : ∀ W, Later w0.drew W → W.cell? ⟨b, o + 7, none⟩ = some (.slice y0.a y0.t.args.length y0.cap) := fun W hW => by have := (HK0.out.later hbN (Later.undrew hW)).c7; rw [Nat.zero_mul, Nat.add_zero] at this; exact this
      clear hTx HCall HColm HLit hok HKid k1 k2 hy0 hyt0 hys0 hKd0 hCl0 HSz HM hbN
      go_enter Tryd.func43, Tryd.ntmps43
      go_wp2_with fail
      clear x0 x1 x2 x3 x4 x5 x6 x7
      refine wp_region_ord [(0, true), (1, true), (2, true), (3, true), (4, true), (5, true), (6, true), (7, true), (8, false), (9, true), (10, true), (11, true)] (by kernel_rfl) (by kernel_rfl) (by kernel_rfl) (by kernel_rfl) ?_
      repeat (first | (refine wpO_F (v := ?_) rfl (by rfl) (fun w' hL => ?_) ?_; rotate_left; (solve | (go_simp; with_reducible rfl) | go_simp); try simp only [Act.put, List.setIfInBounds_toArray, List.set_cons_zero, List.set_cons_succ]) | (refine wpO_G rfl (by rfl) ?_; try simp only [Act.put, List.setIfInBounds_toArray, List.set_cons_zero, List.set_cons_succ]))
      refine wpO_C rfl (by rfl) ?_
      go_simp
      refine (HY0.out _ (Below.refl _ _).drew).mono ?_
      rintro e w1 ⟨rfl, hb1⟩
      refine ⟨hb1, ?_⟩
      try simp only [Act.put, List.setIfInBounds_toArray, List.set_cons_zero, List.set_cons_succ]
      repeat (first | (refine wpO_F (v := ?_) rfl (by rfl) (fun w' hL => ?_) ?_; rotate_left; (solve | (go_simp; with_reducible rfl) | go_simp); try simp only [Act.put, List.setIfInBounds_toArray, List.set_cons_zero, List.set_cons_succ]) | (refine wpO_G rfl (by rfl) ?_; try simp only [Act.put, List.setIfInBounds_toArray, List.set_cons_zero, List.set_cons_succ]))
      refine wpO_nil ?_
      have HB2 := Lib.hid (HB1.out.trans (((Below.refl _ w0).drew.trans hb1).mono HB1.out.size))
      clear hb1
      clear HY0
      go_wp2
      go_ret
      exact ⟨rfl, HB2.out⟩
    rw [if_neg k3] at hTx
    by_cases k4 : t.lab.kd = 4
    · rw [if_pos k4] at hTx
      have hm1 := hok.2.1 k4
      subst hm1
      obtain ⟨y0, hy0, ⟨b, o, hab, hbN, hKd0⟩, hCl0⟩ := HKid.out 0 (by rw [HM.out]; omega)
      have hyt0 : (t.args.map textX).getD 0 ⟨#[]⟩ = textX y0.t := by
        rw [hy0]; simp [List.getD, List.getElem?_eq_getElem (show 0 < t.args.length by rw [HM.out]; omega)]
      have hys0 := HSz.out 0
      obtain ⟨y1, hy1, ⟨b1, o1, hab1, -, hKd1⟩, hCl1⟩ := HKid.out 1 (by rw [HM.out]; omega)
      have hyt1 : (t.args.map textX).getD 1 ⟨#[]⟩ = textX y1.t := by
        rw [hy1]; simp [List.getD, List.getElem?_eq_getElem (show 1 < t.args.length by rw [HM.out]; omega)]
      have hys1 := HSz.out 1
      rw [hyt1] at hTx hys1
      have HY1 := Lib.hid hCl1
      rw [hab] at hab1
      injection hab1 with hab1
      injection hab1 with e1 e2
      subst e1 e2
      rw [hyt0] at hTx hys0
      rw [hTx]
      have HY0 := Lib.hid hCl0
      subst hab
      generalize textX y0.t = R0 at *
      generalize textX y1.t = R1 at *
      generalize t.lab.kd = kd at *
      subst k4
      have s0 : ¬ 9223372036854775807 < 1 + R0.size := by omega
      have s1 : ¬ 9223372036854775807 < 1 + R0.size + 1 := by omega
      have s2 : ¬ 9223372036854775807 < 1 + R0.size + 1 + t.lab.op.size := by omega
      have s3 : ¬ 9223372036854775807 < 1 + R0.size + 1 + t.lab.op.size + 1 := by omega
      have s4 : ¬ 9223372036854775807 < 1 + R0.size + 1 + t.lab.op.size + 1 + R1.size := by omega
      have s5 : ¬ 9223372036854775807 < 1 + R0.size + 1 + t.lab.op.size + 1 + R1.size + 1 := by omega
      have HK0 := Lib.hid hKd0
      have HK1 := Lib.hid hKd1
      have hw0s : w.heap.size < w0.heap.size := by have := HZ.out; omega
      have l6 : ∀ W, Later w0.drew W → W.cell? ⟨w.heap.size, 6, none⟩ = some (.string t.lab.op) := fun W hW => (HS.out.later hw0s (Later.undrew hW)).c6
      have l7 : ∀ W, Later w0.drew W → W.cell? ⟨w.heap.size, 7, none⟩ = some (.slice (some ⟨b, o, none⟩) 2 cap) := fun W hW => (HS.out.later hw0s (Later.undrew hW)).c7
      have g00 : ∀ W, Later w0.drew W → W.cell? ⟨b, o, none⟩ = some (.int .i64 y0.t.lab.kd) := fun W hW => by have := (HK0.out.later hbN (Later.undrew hW)).c0; rw [Nat.zero_mul, Nat.add_zero] at this; exact this
      have g01 : ∀ W, Later w0.drew W → W.cell? ⟨b, o + 1, none⟩ = some (.int .u8 y0.t.lab.v.k) := fun W hW => by have := (HK0.out.later hbN (Later.undrew hW)).c1; rw [Nat.zero_mul, Nat.add_zero] at this; exact this
      have g02 : ∀ W, Later w0.drew W → W.cell? ⟨b, o + 2, none⟩ = some (.int .i64 y0.t.lab.v.n) := fun W hW => by have := (HK0.out.later hbN (Later.undrew hW)).c2; rw [Nat.zero_mul, Nat.add_zero] at this; exact this
      have g03 : ∀ W, Later w0.drew W → W.cell? ⟨b, o + 3, none⟩ = some (.string y0.t.lab.v.s) := fun W hW => by have := (HK0.out.later hbN (Later.undrew hW)).c3; rw [Nat.zero_mul, Nat.add_zero] at this; exact this
      have g04 : ∀ W, Later w0.drew W → W.cell? ⟨b, o + 4, none⟩ = some (.string y0.t.lab.tb) := fun W hW => by have := (HK0.out.later hbN (Later.undrew hW)).c4; rw [Nat.zero_mul, Nat.add_zero] at this; exact this
      have g05 : ∀ W, Later w0.drew W → W.cell? ⟨b, o + 5, none⟩ = some (.string y0.t.lab.nm) := fun W hW => by have := (HK0.out.later hbN (Later.undrew hW)).c5; rw [Nat.zero_mul, Nat.add_zero] at this; exact this
      have g06 : ∀ W, Later w0.drew W → W.cell? ⟨b, o + 6, none⟩ = some (.string y0.t.lab.op) := fun W hW => by have := (HK0.out.later hbN (Later.undrew hW)).c6; rw [Nat.zero_mul, Nat.add_zero] at this; exact this
      have g07 : ∀ W, Later w0.drew W → W.cell? ⟨b, o + 7, none⟩ = some (.slice y0.a y0.t.args.length y0.cap) := fun W hW => by have := (HK0.out.later hbN (Later.undrew hW)).c7; rw [Nat.zero_mul, Nat.add_zero] at this; exact this
      have g10 : ∀ W, Later w0.drew W → W.cell? ⟨b, o + 8, none⟩ = some (.int .i64 y1.t.lab.kd) := fun W hW => by have := (HK1.out.later hbN (Later.undrew hW)).c0; rw [Nat.one_mul] at this; exact this
      have g11 : ∀ W, Later w0.drew W → W.cell? ⟨b, o + 8 + 1, none⟩ = some (.int .u8 y1.t.lab.v.k) := fun W hW => by have := (HK1.out.later hbN (Later.undrew hW)).c1; rw [Nat.one_mul] at this; exact this
      have g12 : ∀ W, Later w0.drew W → W.cell? ⟨b, o + 8 + 2, none⟩ = some (.int .i64 y1.t.lab.v.n) := fun W hW => by have := (HK1.out.later hbN (Later.undrew hW)).c2; rw [Nat.one_mul] at this; exact this
      have g13 : ∀ W, Later w0.drew W → W.cell? ⟨b, o + 8 + 3, none⟩ = some (.string y1.t.lab.v.s) := fun W hW => by have := (HK1.out.later hbN (Later.undrew hW)).c3; rw [Nat.one_mul] at this; exact this
      have g14 : ∀ W, Later w0.drew W → W.cell? ⟨b, o + 8 + 4, none⟩ = some (.string y1.t.lab.tb) := fun W hW => by have := (HK1.out.later hbN (Later.undrew hW)).c4; rw [Nat.one_mul] at this; exact this
      have g15 : ∀ W, Later w0.drew W → W.cell? ⟨b, o + 8 + 5, none⟩ = some (.string y1.t.lab.nm) := fun W hW => by have := (HK1.out.later hbN (Later.undrew hW)).c5; rw [Nat.one_mul] at this; exact this
      have g16 : ∀ W, Later w0.drew W → W.cell? ⟨b, o + 8 + 6, none⟩ = some (.string y1.t.lab.op) := fun W hW => by have := (HK1.out.later hbN (Later.undrew hW)).c6; rw [Nat.one_mul] at this; exact this
      have g17 : ∀ W, Later w0.drew W → W.cell? ⟨b, o + 8 + 7, none⟩ = some (.slice y1.a y1.t.args.length y1.cap) := fun W hW => by have := (HK1.out.later hbN (Later.undrew hW)).c7; rw [Nat.one_mul] at this; exact this
      clear hTx HCall HColm HLit hok HKid k1 k2 k3 hy0 hyt0 hys0 hKd0 hCl0 hy1 hyt1 hys1 hKd1 hCl1 HSz HM hbN
      go_enter Tryd.func43, Tryd.ntmps43
      go_wp2_with fail
      clear x0 x1 x2 x3 x4 x5 x6 x7
      refine wp_region_ord [(0, true), (1, true), (2, true), (3, true), (7, true), (8, true), (11, true), (12, true), (13, true), (14, true), (4, false), (5, true), (6, true), (9, true), (10, true), (15, false), (16, true), (17, true), (18, true)] (by kernel_rfl) (by kernel_rfl) (by kernel_rfl) (by kernel_rfl) ?_
      repeat (first | (refine wpO_F (v := ?_) rfl (by rfl) (fun w' hL => ?_) ?_; rotate_left; (solve | (go_simp; with_reducible rfl) | go_simp); try simp only [Act.put, List.setIfInBounds_toArray, List.set_cons_zero, List.set_cons_succ]) | (refine wpO_G rfl (by rfl) ?_; try simp only [Act.put, List.setIfInBounds_toArray, List.set_cons_zero, List.set_cons_succ]))
      refine wpO_C rfl (by rfl) ?_
      go_simp
      refine (HY0.out _ (Below.refl _ _).drew).mono ?_
      rintro e w1 ⟨rfl, hb1⟩
      refine ⟨hb1, ?_⟩
      try simp only [Act.put, List.setIfInBounds_toArray, List.set_cons_zero, List.set_cons_succ]
      repeat (first | (refine wpO_F (v := ?_) rfl (by rfl) (fun w' hL => ?_) ?_; rotate_left; (solve | (go_simp; with_reducible rfl) | go_simp); try simp only [Act.put, List.setIfInBounds_toArray, List.set_cons_zero, List.set_cons_succ]) | (refine wpO_G rfl (by rfl) ?_; try simp only [Act.put, List.setIfInBounds_toArray, List.set_cons_zero, List.set_cons_succ]))
      refine wpO_C rfl (by rfl) ?_
      go_simp
      refine (HY1.out _ ((Below.refl _ _).drew.trans hb1)).mono ?_
      rintro e w2 ⟨rfl, hb2⟩
      refine ⟨hb2, ?_⟩
      try simp only [Act.put, List.setIfInBounds_toArray, List.set_cons_zero, List.set_cons_succ]
      repeat (first | (refine wpO_F (v := ?_) rfl (by rfl) (fun w' hL => ?_) ?_; rotate_left; (solve | (go_simp; with_reducible rfl) | go_simp); try simp only [Act.put, List.setIfInBounds_toArray, List.set_cons_zero, List.set_cons_succ]) | (refine wpO_G rfl (by rfl) ?_; try simp only [Act.put, List.setIfInBounds_toArray, List.set_cons_zero, List.set_cons_succ]))
      refine wpO_nil ?_
      have HB2 := Lib.hid (HB1.out.trans ((((Below.refl _ w0).drew.trans hb1).trans (hb2.mono hb1.size)).mono HB1.out.size))
      clear hb1 hb2
      clear HY0 HY1
      go_wp2
      go_ret
      exact ⟨rfl, HB2.out⟩
    rw [if_neg k4] at hTx
    by_cases k5 : t.lab.kd = 5
    · rw [if_pos k5] at hTx
      have hm1 := hok.2.2 k5
      subst hm1
      obtain ⟨y0, hy0, ⟨b, o, hab, hbN, hKd0⟩, hCl0⟩ := HKid.out 0 (by rw [HM.out]; omega)
      have hyt0 : (t.args.map textX).getD 0 ⟨#[]⟩ = textX y0.t := by
        rw [hy0]; simp [List.getD, List.getElem?_eq_getElem (show 0 < t.args.length by rw [HM.out]; omega)]
      have hys0 := HSz.out 0
      rw [hyt0] at hTx hys0
      rw [hTx]
      have HY0 := Lib.hid hCl0
      subst hab
      generalize textX y0.t = R0 at *
      generalize t.lab.kd = kd at *
      subst k5
      have s0 : ¬ 9223372036854775807 < 1 + R0.size := by omega
      have s1 : ¬ 9223372036854775807 < 1 + R0.size + 1 := by omega
      have s2 : ¬ 9223372036854775807 < 1 + R0.size + 1 + t.lab.op.size := by omega
      have s3 : ¬ 9223372036854775807 < 1 + R0.size + 1 + t.lab.op.size + 1 := by omega
      have HK0 := Lib.hid hKd0
      have hw0s : w.heap.size < w0.heap.size := by have := HZ.out; omega
      have l6 : ∀ W, Later w0.drew W → W.cell? ⟨w.heap.size, 6, none⟩ = some (.string t.lab.op) := fun W hW => (HS.out.later hw0s (Later.undrew hW)).c6
      have l7 : ∀ W, Later w0.drew W → W.cell? ⟨w.heap.size, 7, none⟩ = some (.slice (some ⟨b, o, none⟩) 1 cap) := fun W hW => (HS.out.later hw0s (Later.undrew hW)).c7
      have g00 : ∀ W, Later w0.drew W → W.cell? ⟨b, o, none⟩ = some (.int .i64 y0.t.lab.kd) := fun W hW => by have := (HK0.out.later hbN (Later.undrew hW)).c0; rw [Nat.zero_mul, Nat.add_zero] at this; exact this
      have g01 : ∀ W, Later w0.drew W → W.cell? ⟨b, o + 1, none⟩ = some (.int .u8 y0.t.lab.v.k) := fun W hW => by have := (HK0.out.later hbN (Later.undrew hW)).c1; rw [Nat.zero_mul, Nat.add_zero] at this; exact this
      have g02 : ∀ W, Later w0.drew W → W.cell? ⟨b, o + 2, none⟩ = some (.int .i64 y0.t.lab.v.n) := fun W hW => by have := (HK0.out.later hbN (Later.undrew hW)).c2; rw [Nat.zero_mul, Nat.add_zero] at this; exact this
      have g03 : ∀ W, Later w0.drew W → W.cell? ⟨b, o + 3, none⟩ = some (.string y0.t.lab.v.s) := fun W hW => by have := (HK0.out.later hbN (Later.undrew hW)).c3; rw [Nat.zero_mul, Nat.add_zero] at this; exact this
      have g04 : ∀ W, Later w0.drew W → W.cell? ⟨b, o + 4, none⟩ = some (.string y0.t.lab.tb) := fun W hW => by have := (HK0.out.later hbN (Later.undrew hW)).c4; rw [Nat.zero_mul, Nat.add_zero] at this; exact this
      have g05 : ∀ W, Later w0.drew W → W.cell? ⟨b, o + 5, none⟩ = some (.string y0.t.lab.nm) := fun W hW => by have := (HK0.out.later hbN (Later.undrew hW)).c5; rw [Nat.zero_mul, Nat.add_zero] at this; exact this
      have g06 : ∀ W, Later w0.drew W → W.cell? ⟨b, o + 6, none⟩ = some (.string y0.t.lab.op) := fun W hW => by have := (HK0.out.later hbN (Later.undrew hW)).c6; rw [Nat.zero_mul, Nat.add_zero] at this; exact this
      have g07 : ∀ W, Later w0.drew W → W.cell? ⟨b, o + 7, none⟩ = some (.slice y0.a y0.t.args.length y0.cap) := fun W hW => by have := (HK0.out.later hbN (Later.undrew hW)).c7; rw [Nat.zero_mul, Nat.add_zero] at this; exact this
      clear hTx HCall HColm HLit hok HKid k1 k2 k3 k4 hy0 hyt0 hys0 hKd0 hCl0 HSz HM hbN
      go_enter Tryd.func43, Tryd.ntmps43
      go_wp2_with fail
      clear x0 x1 x2 x3 x4 x5 x6 x7
      refine wp_region_ord [(0, true), (1, true), (2, true), (3, true), (7, true), (8, true), (4, false), (5, true), (6, true), (9, true), (10, true), (11, true)] (by kernel_rfl) (by kernel_rfl) (by kernel_rfl) (by kernel_rfl) ?_
      repeat (first | (refine wpO_F (v := ?_) rfl (by rfl) (fun w' hL => ?_) ?_; rotate_left; (solve | (go_simp; with_reducible rfl) | go_simp); try simp only [Act.put, List.setIfInBounds_toArray, List.set_cons_zero, List.set_cons_succ]) | (refine wpO_G rfl (by rfl) ?_; try simp only [Act.put, List.setIfInBounds_toArray, List.set_cons_zero, List.set_cons_succ]))
      refine wpO_C rfl (by rfl) ?_
      go_simp
      refine (HY0.out _ (Below.refl _ _).drew).mono ?_
      rintro e w1 ⟨rfl, hb1⟩
      refine ⟨hb1, ?_⟩
      try simp only [Act.put, List.setIfInBounds_toArray, List.set_cons_zero, List.set_cons_succ]
      repeat (first | (refine wpO_F (v := ?_) rfl (by rfl) (fun w' hL => ?_) ?_; rotate_left; (solve | (go_simp; with_reducible rfl) | go_simp); try simp only [Act.put, List.setIfInBounds_toArray, List.set_cons_zero, List.set_cons_succ]) | (refine wpO_G rfl (by rfl) ?_; try simp only [Act.put, List.setIfInBounds_toArray, List.set_cons_zero, List.set_cons_succ]))
      refine wpO_nil ?_
      have HB2 := Lib.hid (HB1.out.trans (((Below.refl _ w0).drew.trans hb1).mono HB1.out.size))
      clear hb1
      clear HY0
      go_wp2
      go_ret
      exact ⟨rfl, HB2.out⟩
    rw [if_neg k5] at hTx
    have HY := Lib.hid (HCall.out ⟨k1, k2, k3, k4, k5⟩)
    have q1 : (t.lab.kd == 1) = false := by simpa using k1
    have q2 : (t.lab.kd == 2) = false := by simpa using k2
    have q3 : (t.lab.kd == 3) = false := by simpa using k3
    have q4 : (t.lab.kd == 4) = false := by simpa using k4
    have q5 : (t.lab.kd == 5) = false := by simpa using k5
    generalize textX t = R at *
    generalize t.lab.kd = kd at *
    clear hTx HCall HColm HLit hok HKid k1 k2 k3 k4 k5 HSz HM
    go_enter Tryd.func43, Tryd.ntmps43
    go_wp2_with fail
    refine (HY.out _ HB1.out).mono ?_
    rintro e w1 ⟨rfl, hb1⟩
    have HB2 := Lib.hid (HB1.out.trans (hb1.mono HB1.out.size))
    clear hb1 x0 x1 x2 x3 x4 x5 x6 x7
    go_wp2
    go_ret
    exact ⟨rfl, HB2.out⟩
end Go.Proofs.YtjhdlbkcpdfpcaaDoor

/- The walks of same, its closure, slices.EqualFunc at it, and of Same. -/
set_option linter.unusedSimpArgs false
set_option linter.unusedVariables false
set_option maxRecDepth 100000
namespace Go.Proofs.YtjhdlbkcpdfpcaaDoor
open Go.RowKit

def listSame (f : Ex → Ex → Bool) : List Ex → List Ex → Bool
  | [], [] => true
  | x :: r, y :: s => f x y && listSame f r s
  | _, _ => false
/-- Equal, and no more than so many levels. -/
def sameX : Nat → Ex → Ex → Bool
  | 0, _, _ => false
  | n + 1, a, b => decide (a.lab = b.lab) && listSame (sameX n) a.args b.args
theorem listSame_iff {f : Ex → Ex → Bool} : ∀ (l m : List Ex), listSame f l m = true ↔ l.length = m.length ∧ ∀ (i : Nat) x y, l[i]? = some x → m[i]? = some y → f x y = true
  | [], [] => by simp [listSame]
  | [], y :: s => by simp [listSame]
  | x :: r, [] => by simp [listSame]
  | x :: r, y :: s => by
    rw [listSame, Bool.and_eq_true, listSame_iff r s]
    constructor
    · rintro ⟨h1, h2, h3⟩
      refine ⟨by simp [h2], fun i a b ha hb => ?_⟩
      cases i with
      | zero => simp at ha hb; subst ha hb; exact h1
      | succ i => exact h3 i a b (by simpa using ha) (by simpa using hb)
    · rintro ⟨h1, h2⟩
      exact ⟨h2 0 x y rfl rfl, by simpa using h1, fun i a b ha hb => h2 (i + 1) a b (by simpa using ha) (by simpa using hb)⟩
theorem sameX_iff : ∀ (n : Nat) (a b : Ex), sameX n a b = true ↔ a = b ∧ a.depth ≤ n
  | 0, a, b => by have := a.depth_pos; simp [sameX]; omega
  | n + 1, a, b => by
    rw [sameX, Bool.and_eq_true, decide_eq_true_iff, listSame_iff, Rose.depth_le]
    constructor
    · rintro ⟨h1, h2, h3⟩
      have h4 : a.args = b.args := by
        apply List.ext_getElem? ; intro i
        by_cases hi : i < a.args.length
        · have hj : i < b.args.length := by omega
          have := (sameX_iff n _ _).1 (h3 i a.args[i] b.args[i] (List.getElem?_eq_getElem hi) (List.getElem?_eq_getElem hj))
          rw [List.getElem?_eq_getElem hi, List.getElem?_eq_getElem hj, this.1]
        · rw [List.getElem?_eq_none (by omega), List.getElem?_eq_none (by omega)]
      refine ⟨by rw [← a.eta, ← b.eta, h1, h4], fun x hx => ?_⟩
      obtain ⟨i, hi, rfl⟩ := List.getElem_of_mem hx
      have hj : i < b.args.length := by omega
      exact ((sameX_iff n _ _).1 (h3 i a.args[i] b.args[i] (List.getElem?_eq_getElem hi) (List.getElem?_eq_getElem hj))).2
    · rintro ⟨rfl, h2⟩
      refine ⟨rfl, rfl, fun i x y hx hy => ?_⟩
      rw [hx] at hy
      injection hy with hy
      subst hy
      exact (sameX_iff n x x).2 ⟨rfl, h2 x (List.mem_of_getElem? hx)⟩
theorem toList_ne {a b : ByteArray} (h : a ≠ b) : a.toList ≠ b.toList := fun h2 => h (toList_inj h2)
theorem listSame_take {f : Ex → Ex → Bool} {l m : List Ex} (hl : l.length = m.length) {k : Nat} (hk : k < l.length) : listSame f (l.take (k + 1)) (m.take (k + 1)) = (listSame f (l.take k) (m.take k) && f l[k] (m[k]'(by omega))) := by
  induction l generalizing m k with
  | nil => simp at hk
  | cons x r ih =>
    cases m with
    | nil => simp at hl
    | cons y s =>
      cases k with
      | zero => simp [listSame]
      | succ k =>
        rw [List.take_succ_cons, List.take_succ_cons, List.take_succ_cons, List.take_succ_cons, listSame, listSame, ih (by simpa using hl) (by simpa using hk), Bool.and_assoc]; rfl
theorem listSame_false {f : Ex → Ex → Bool} {l m : List Ex} {k : Nat} (hk : k < l.length) (hm : k < m.length) (h : f l[k] m[k] = false) : listSame f l m = false := by
  rw [Bool.eq_false_iff]
  intro ht
  have := ((listSame_iff l m).1 ht).2 k _ _ (List.getElem?_eq_getElem hk) (List.getElem?_eq_getElem hm)
  rw [h] at this; cases this

/-- What is known of same, with so many levels, of trees of so many. -/
def SameIs (n l : Nat) : Prop := ∀ (y z : XM) (W : World), XAt W.heap.size W n y → XAt W.heap.size W n z → Calls Tryd.prog 44 #[.agg #[.int .i64 y.t.lab.kd, .int .u8 y.t.lab.v.k, .int .i64 y.t.lab.v.n, .string y.t.lab.v.s, .string y.t.lab.tb, .string y.t.lab.nm, .string y.t.lab.op, .slice y.a y.t.args.length y.cap], .agg #[.int .i64 z.t.lab.kd, .int .u8 z.t.lab.v.k, .int .i64 z.t.lab.v.n, .string z.t.lab.v.s, .string z.t.lab.tb, .string z.t.lab.nm, .string z.t.lab.op, .slice z.a z.t.args.length z.cap], .int .i64 (l : Int)] W fun e w' => e = .returned (.bool (sameX l y.t z.t)) ∧ Below W.heap.size W w'

theorem same_clo (n l : Nat) (hl : l ≤ 1000) (IH : SameIs n l) (y z : XM) (g : Nat) (W : World) (hy : XAt W.heap.size W n y) (hz : XAt W.heap.size W n z) (hg : W.cell? ⟨g, 0, none⟩ = some (.int .i64 ((l + 1 : Nat) : Int))) :
    Calls Tryd.prog 72 #[.agg #[.int .i64 y.t.lab.kd, .int .u8 y.t.lab.v.k, .int .i64 y.t.lab.v.n, .string y.t.lab.v.s, .string y.t.lab.tb, .string y.t.lab.nm, .string y.t.lab.op, .slice y.a y.t.args.length y.cap], .agg #[.int .i64 z.t.lab.kd, .int .u8 z.t.lab.v.k, .int .i64 z.t.lab.v.n, .string z.t.lab.v.s, .string z.t.lab.tb, .string z.t.lab.nm, .string z.t.lab.op, .slice z.a z.t.args.length z.cap], .pointer (some ⟨g, 0, none⟩)] W fun e w' => e = .returned (.bool (sameX l y.t z.t)) ∧ Below W.heap.size W w' := by
  have HD := Lib.hid (fun V (hb : Below W.heap.size W V) => IH y z V (hy.later hb) (hz.later hb))
  obtain ⟨w0, hw0⟩ : ∃ w0, W.alloc (.cells #[.int .i64 y.t.lab.kd, .int .u8 y.t.lab.v.k, .int .i64 y.t.lab.v.n, .string y.t.lab.v.s, .string y.t.lab.tb, .string y.t.lab.nm, .string y.t.lab.op, .slice y.a y.t.args.length y.cap] 39) = w0 := ⟨_, rfl⟩
  obtain ⟨w1, hw1⟩ : ∃ w1, w0.alloc (.cells #[.int .i64 z.t.lab.kd, .int .u8 z.t.lab.v.k, .int .i64 z.t.lab.v.n, .string z.t.lab.v.s, .string z.t.lab.tb, .string z.t.lab.nm, .string z.t.lab.op, .slice z.a z.t.args.length z.cap] 39) = w1 := ⟨_, rfl⟩
  have hb0 : Below W.heap.size W w0 := by rw [← hw0]; exact (Below.refl _ W).alloc (Nat.le_refl _) _
  have hb1 : Below w0.heap.size w0 w1 := by rw [← hw1]; exact (Below.refl _ w0).alloc (Nat.le_refl _) _
  have hs0 : w0.heap.size = W.heap.size + 1 := by rw [← hw0]; simp
  have hY : Slot8 w0 W.heap.size (.int .i64 y.t.lab.kd) (.int .u8 y.t.lab.v.k) (.int .i64 y.t.lab.v.n) (.string y.t.lab.v.s) (.string y.t.lab.tb) (.string y.t.lab.nm) (.string y.t.lab.op) (.slice y.a y.t.args.length y.cap) := by rw [← hw0]; exact Slot8.new W 39 _ _ _ _ _ _ _ _
  have hZ : Slot8 w1 w0.heap.size (.int .i64 z.t.lab.kd) (.int .u8 z.t.lab.v.k) (.int .i64 z.t.lab.v.n) (.string z.t.lab.v.s) (.string z.t.lab.tb) (.string z.t.lab.nm) (.string z.t.lab.op) (.slice z.a z.t.args.length z.cap) := by rw [← hw1]; exact Slot8.new w0 39 _ _ _ _ _ _ _ _
  have hglt := World.block_lt_of_cell? _ _ hg
  have HB1 := Lib.hid (hb0.trans (hb1.mono hb0.size))
  have hg1 : w1.cell? ⟨g, 0, none⟩ = some (.int .i64 ((l + 1 : Nat) : Int)) := (HB1.out.cell (p := ⟨g, 0, none⟩) hglt).trans hg
  have hq1 : IntKind.i64.wrap (((l + 1 : Nat) : Int) - 1) = (l : Int) := by rw [show ((l + 1 : Nat) : Int) - 1 = (l : Int) by omega]; exact IntWalk.i64_in _ (by omega)
  generalize sameX l y.t z.t = d at *
  generalize hQ : ((l + 1 : Nat) : Int) = Q at *
  obtain ⟨y0, y1, y2, y3, y4, y5, y6, y7⟩ := hY.later (N := w0.heap.size) (by omega) hb1
  obtain ⟨z0, z1, z2, z3, z4, z5, z6, z7⟩ := hZ
  clear hy hz IH hb0 hb1 hs0 hg hglt hY
  go_enter Tryd.func72, Tryd.ntmps72
  go_wp2_with fail
  refine (HD.out _ HB1.out).mono ?_
  rintro e w2 ⟨rfl, hb2⟩
  have HB2 := Lib.hid (HB1.out.trans (hb2.mono HB1.out.size))
  clear hb2 y0 y1 y2 y3 y4 y5 y6 y7 z0 z1 z2 z3 z4 z5 z6 z7 hg1
  go_wp2
  go_ret
  exact ⟨rfl, HB2.out⟩

set_option maxHeartbeats 2000000 in
theorem same_eqf (n l : Nat) (hl : l ≤ 1000) (IH : SameIs n l) (t u : Ex) (a b : Option Addr) (cap cup : Nat) (g : Nat) (w : World) (h : XAt w.heap.size w (n + 1) ⟨t, a, cap⟩) (k : XAt w.heap.size w (n + 1) ⟨u, b, cup⟩) (hg : w.cell? ⟨g, 0, none⟩ = some (.int .i64 ((l + 1 : Nat) : Int))) :
    Calls Tryd.prog 71 #[.slice a t.args.length cap, .slice b u.args.length cup, .func (.func 72) #[] #[.pointer (some ⟨g, 0, none⟩)]] w fun e w' => e = .returned (.bool (listSame (sameX l) t.args u.args)) ∧ Below w.heap.size w w' := by
  have HA := Lib.hid h
  have HK := Lib.hid k
  have hlen := h.fair.2.1
  have hcap := h.fair.2.2
  have klen := k.fair.2.1
  have kcap := k.fair.2.2
  simp only at hlen hcap klen kcap
  have HCl := Lib.hid (fun y z V (hb : Below w.heap.size w V) hy hz => same_clo n l hl IH y z g V hy hz ((hb.cell (p := ⟨g, 0, none⟩) (World.block_lt_of_cell? _ _ hg)).trans hg))
  obtain ⟨r, hr⟩ : ∃ r, listSame (sameX l) t.args u.args = r := ⟨_, rfl⟩
  rw [hr]
  have HR := Lib.hid hr
  obtain ⟨m, hm⟩ : ∃ m, t.args.length = m := ⟨_, rfl⟩
  obtain ⟨q, hq⟩ : ∃ q, u.args.length = q := ⟨_, rfl⟩
  rw [hm] at hlen ⊢
  rw [hq] at klen ⊢
  have HM := Lib.hid hm
  have HQ := Lib.hid hq
  clear h k hm hq hg IH hr
  by_cases hmq : m = q
  rotate_left
  · have q0 : ((m : Int) != (q : Int)) = true := by simp; omega
    have hrf : r = false := by
      rw [← HR.out, Bool.eq_false_iff]
      intro ht
      have := ((listSame_iff _ _).1 ht).1
      rw [HM.out, HQ.out] at this; exact hmq this
    subst hrf
    go_enter Tryd.func71, Tryd.ntmps71
    go_wp2
    go_ret
    exact ⟨rfl, Below.refl _ _⟩
  subst hmq
  go_enter Tryd.func71, Tryd.ntmps71
  go_wp2
  go_loopw [17] (fun i wr => ∃ k : Nat, k ≤ m ∧ i = .int .i64 k ∧ Hid (listSame (sameX l) (t.args.take k) (u.args.take k) = true) ∧ Hid (Below w.heap.size w wr)) (fun i _ => m - (intOf i).toNat)
  case atStart => exact ⟨0, by omega, rfl, by simp [Hid, listSame], Below.refl _ _⟩
  case round =>
    obtain ⟨k, hk, rfl, HI, HBr⟩ := hrel
    by_cases hlt : k < m
    · have hkl : k < t.args.length := by rw [HM.out]; exact hlt
      have hku : k < u.args.length := by rw [HQ.out]; exact hlt
      obtain ⟨y, hy, hAy, b1, o1, hab, hbN, hKid⟩ := (HA.out.later HBr.out).kid8 (k := k) hkl
      obtain ⟨z, hz, hAz, b2, o2, hab2, hbN2, hKid2⟩ := (HK.out.later HBr.out).kid8 (k := k) hku
      simp only at hab hy hab2 hz
      subst hab hab2
      have HTk : Hid (listSame (sameX l) (t.args.take (k + 1)) (u.args.take (k + 1)) = sameX l y.t z.t) := by
        rw [listSame_take (by rw [HM.out, HQ.out]) hkl, HI.out, ← hy, ← hz]; simp [Hid]
      have HTf : Hid (sameX l y.t z.t = false → r = false) := fun hf => by
        rw [← HR.out]; exact listSame_false hkl hku (by rw [← hy, ← hz]; exact hf)
      obtain ⟨w1, hw1⟩ : ∃ w1, wr.alloc (.cells #[.int .i64 y.t.lab.kd, .int .u8 y.t.lab.v.k, .int .i64 y.t.lab.v.n, .string y.t.lab.v.s, .string y.t.lab.tb, .string y.t.lab.nm, .string y.t.lab.op, .slice y.a y.t.args.length y.cap] 39) = w1 := ⟨_, rfl⟩
      have hb1 : Below wr.heap.size wr w1 := by rw [← hw1]; exact (Below.refl _ wr).alloc (Nat.le_refl _) _
      have hY : Slot8 w1 wr.heap.size (.int .i64 y.t.lab.kd) (.int .u8 y.t.lab.v.k) (.int .i64 y.t.lab.v.n) (.string y.t.lab.v.s) (.string y.t.lab.tb) (.string y.t.lab.nm) (.string y.t.lab.op) (.slice y.a y.t.args.length y.cap) := by rw [← hw1]; exact Slot8.new wr 39 _ _ _ _ _ _ _ _
      have hs1 : w1.heap.size = wr.heap.size + 1 := by rw [← hw1]; simp
      obtain ⟨w2, hw2⟩ : ∃ w2, w1.alloc (.cells #[.int .i64 z.t.lab.kd, .int .u8 z.t.lab.v.k, .int .i64 z.t.lab.v.n, .string z.t.lab.v.s, .string z.t.lab.tb, .string z.t.lab.nm, .string z.t.lab.op, .slice z.a z.t.args.length z.cap] 39) = w2 := ⟨_, rfl⟩
      have hb2 : Below w1.heap.size w1 w2 := by rw [← hw2]; exact (Below.refl _ w1).alloc (Nat.le_refl _) _
      have HB2 := Lib.hid (hb1.trans (hb2.mono hb1.size))
      have HY := Lib.hid (HCl.out y z w2 (HBr.out.trans (HB2.out.mono HBr.out.size)) (hAy.later HB2.out) (hAz.later HB2.out))
      have hkd := hKid.c0
      obtain ⟨y0, y1, y2, y3, y4, y5, y6, y7⟩ := hKid
      obtain ⟨v0, v1, v2, v3, v4, v5, v6, v7⟩ := KidAt.later (N := wr.heap.size) hKid2 hbN2 hb1
      obtain ⟨s0, s1, s2, s3, s4, s5, s6, s7⟩ := hY.later (N := w1.heap.size) (by omega) hb2
      have hZ : Slot8 w2 w1.heap.size (.int .i64 z.t.lab.kd) (.int .u8 z.t.lab.v.k) (.int .i64 z.t.lab.v.n) (.string z.t.lab.v.s) (.string z.t.lab.tb) (.string z.t.lab.nm) (.string z.t.lab.op) (.slice z.a z.t.args.length z.cap) := by rw [← hw2]; exact Slot8.new w1 39 _ _ _ _ _ _ _ _
      obtain ⟨p0, p1, p2, p3, p4, p5, p6, p7⟩ := hZ
      generalize sameX l y.t z.t = d at *
      clear hy hAy hz hAz HA HK hkl hku HI HCl hbN hbN2 hKid2 hb1 hb2 hY hs1 hkd
      go_wp2_with fail
      refine (HY.out).mono ?_
      rintro e w3 ⟨rfl, hb3⟩
      have HB3 := Lib.hid (HBr.out.trans ((HB2.out.trans (hb3.mono HB2.out.size)).mono HBr.out.size))
      clear hb3 HY y0 y1 y2 y3 y4 y5 y6 y7 v0 v1 v2 v3 v4 v5 v6 v7 s0 s1 s2 s3 s4 s5 s6 s7 p0 p1 p2 p3 p4 p5 p6 p7
      cases d
      · have hrf := HTf.out rfl
        subst hrf
        go_wp2
        go_ret
        exact ⟨rfl, HB3.out⟩
      · go_wp2
        go_roundw
        case rel => exact ⟨k + 1, by omega, by go_num, HTk.out, HB3.out⟩
        case measure => simp [intOf]; omega
    · have q0 : decide (k < m) = false := by simpa using hlt
      have hrt : r = true := by
        have h1 := HI.out
        rw [show k = m by omega, List.take_of_length_le (by rw [HM.out]; omega), List.take_of_length_le (by rw [HQ.out]; omega), HR.out] at h1
        exact h1
      subst hrt
      go_wp2
      go_ret
      exact ⟨rfl, HBr.out⟩

theorem eqV20 (v v' : Vl) (q : Bool) (hq : decide (v = v') = q) (w : World) : (Op.equalIn 10000 36 (.agg #[.int .u8 v.k, .int .i64 v.n, .string v.s]) (.agg #[.int .u8 v'.k, .int .i64 v'.n, .string v'.s])).run Tryd.prog w = .ok q w := by
  have hS : Tryd.prog.underlying 36 = some (.struct (Tryd.prog.fieldsOf 36)) := by kernel_rfl
  have hp : Tryd.prog.stoodInHeld 36 = false := by kernel_rfl
  rw [show (10000 : Nat) = 9999 + 1 from rfl, run_equalIn_agg w 9999 36 _ _ hS hp]
  simp only [Program.fieldsOf, Tryd.underlying36]
  go_simp
  subst hq
  obtain ⟨k, n, s⟩ := v
  obtain ⟨k', n', s'⟩ := v'
  by_cases h1 : k = k' <;> by_cases h2 : n = n' <;> by_cases h3 : s = s' <;> simp [h1, h2, h3, toList_ne] <;> omega
@[go_sem] theorem eqGuardV20 : Tryd.prog.eqGuardType Tryd.prog.depth 36 = false := by kernel_rfl
theorem sameX_eq (l : Nat) (t u : Ex) : sameX (l + 1) t u = ((t.lab.kd == u.lab.kd) && (decide (t.lab.v = u.lab.v) && ((t.lab.tb.toList == u.lab.tb.toList) && ((t.lab.nm.toList == u.lab.nm.toList) && ((t.lab.op.toList == u.lab.op.toList) && listSame (sameX l) t.args u.args))))) := by
  rw [sameX]
  obtain ⟨⟨kd, v, tb, nm, op⟩, r⟩ := t
  obtain ⟨⟨kd', v', tb', nm', op'⟩, r'⟩ := u
  simp only [Rose.lab, Rose.args]
  by_cases h1 : kd = kd' <;> by_cases h2 : v = v' <;> by_cases h3 : tb = tb' <;> by_cases h4 : nm = nm' <;> by_cases h5 : op = op' <;> simp [h1, h2, h3, h4, h5, toList_ne]

set_option maxHeartbeats 4000000 in
theorem same_is : ∀ n l, l ≤ 1000 → SameIs n l
  | 0, _, _ => fun _ _ _ h => h.elim
  | n + 1, 0, _ => fun y z w hy hz => by
    rw [show sameX 0 y.t z.t = false from rfl]
    clear hy hz
    go_enter Tryd.func44, Tryd.ntmps44
    go_wp2
    go_ret
    exact ⟨rfl, (((Below.refl _ w).alloc (Nat.le_refl _) _).alloc (by simp <;> omega) _).alloc (by simp <;> omega) _⟩
  | n + 1, l + 1, hl => fun y z w hy hz => by
    have IH := same_is n l (by omega)
    obtain ⟨t, a, cap⟩ := y
    obtain ⟨u, b, cup⟩ := z
    have HE := Lib.hid (fun W g (hb : Below w.heap.size w W) hg => same_eqf n l (by omega) IH t u a b cap cup g W (hy.later hb) (hz.later hb) hg)
    simp only
    rw [sameX_eq]
    clear hy hz IH
    obtain ⟨w0, hw0⟩ : ∃ w0, w.alloc (.cells #[.int .i64 t.lab.kd, .int .u8 t.lab.v.k, .int .i64 t.lab.v.n, .string t.lab.v.s, .string t.lab.tb, .string t.lab.nm, .string t.lab.op, .slice a t.args.length cap] 39) = w0 := ⟨_, rfl⟩
    obtain ⟨w1, hw1⟩ : ∃ w1, w0.alloc (.cells #[.int .i64 u.lab.kd, .int .u8 u.lab.v.k, .int .i64 u.lab.v.n, .string u.lab.v.s, .string u.lab.tb, .string u.lab.nm, .string u.lab.op, .slice b u.args.length cup] 39) = w1 := ⟨_, rfl⟩
    have hb0 : Below w.heap.size w w0 := by rw [← hw0]; exact (Below.refl _ w).alloc (Nat.le_refl _) _
    have hb1 : Below w0.heap.size w0 w1 := by rw [← hw1]; exact (Below.refl _ w0).alloc (Nat.le_refl _) _
    have hY : Slot8 w0 w.heap.size (.int .i64 t.lab.kd) (.int .u8 t.lab.v.k) (.int .i64 t.lab.v.n) (.string t.lab.v.s) (.string t.lab.tb) (.string t.lab.nm) (.string t.lab.op) (.slice a t.args.length cap) := by rw [← hw0]; exact Slot8.new w 39 _ _ _ _ _ _ _ _
    have hZ : Slot8 w1 w0.heap.size (.int .i64 u.lab.kd) (.int .u8 u.lab.v.k) (.int .i64 u.lab.v.n) (.string u.lab.v.s) (.string u.lab.tb) (.string u.lab.nm) (.string u.lab.op) (.slice b u.args.length cup) := by rw [← hw1]; exact Slot8.new w0 39 _ _ _ _ _ _ _ _
    have hs0 : w0.heap.size = w.heap.size + 1 := by rw [← hw0]; simp
    have hs1 : w1.heap.size = w0.heap.size + 1 := by rw [← hw1]; simp
    obtain ⟨w2, hw2⟩ : ∃ w2, w1.alloc (.cells #[.int .i64 ((l + 1 : Nat) : Int)] 3) = w2 := ⟨_, rfl⟩
    have hb2 : Below w1.heap.size w1 w2 := by rw [← hw2]; exact (Below.refl _ w1).alloc (Nat.le_refl _) _
    have hg : w2.cell? ⟨w1.heap.size, 0, none⟩ = some (.int .i64 ((l + 1 : Nat) : Int)) := by rw [← hw2]; simp
    have HB2 := Lib.hid ((hb0.trans (hb1.mono hb0.size)).trans (hb2.mono (by omega)))
    have HC := Lib.hid (HE.out w2 w1.heap.size HB2.out hg)
    obtain ⟨y0, y1, y2, y3, y4, y5, y6, y7⟩ := (hY.later (N := w0.heap.size) (by omega) hb1).later (N := w1.heap.size) (by omega) hb2
    obtain ⟨z0, z1, z2, z3, z4, z5, z6, z7⟩ := hZ.later (N := w1.heap.size) (by omega) hb2
    clear hb0 hb1 hb2 hY hZ HE hs0 hs1
    have hl0 : (((l + 1 : Nat) : Int) == 0) = false := by simp; omega
    generalize hQ : ((l + 1 : Nat) : Int) = Q at *
    clear hQ
    obtain ⟨q0, hq0⟩ : ∃ q, (t.lab.kd == u.lab.kd) = q := ⟨_, rfl⟩
    obtain ⟨qv, hqv⟩ : ∃ q, decide (t.lab.v = u.lab.v) = q := ⟨_, rfl⟩
    obtain ⟨q2, hq2⟩ : ∃ q, (t.lab.tb.toList == u.lab.tb.toList) = q := ⟨_, rfl⟩
    obtain ⟨q3, hq3⟩ : ∃ q, (t.lab.nm.toList == u.lab.nm.toList) = q := ⟨_, rfl⟩
    obtain ⟨q4, hq4⟩ : ∃ q, (t.lab.op.toList == u.lab.op.toList) = q := ⟨_, rfl⟩
    have hE := eqV20 _ _ _ hqv
    have hn0 : (t.lab.kd != u.lab.kd) = !q0 := by rw [← hq0]; rfl
    have hn2 : (t.lab.tb.toList != u.lab.tb.toList) = !q2 := by rw [← hq2]; rfl
    have hn3 : (t.lab.nm.toList != u.lab.nm.toList) = !q3 := by rw [← hq3]; rfl
    have hn4 : (t.lab.op.toList != u.lab.op.toList) = !q4 := by rw [← hq4]; rfl
    rw [hq0, hqv, hq2, hq3, hq4]
    clear hqv
    generalize listSame (sameX l) t.args u.args = d at *
    go_enter Tryd.func44, Tryd.ntmps44
    cases q0
    · go_wp2
      go_ret
      exact ⟨rfl, HB2.out⟩
    cases qv
    · go_wp2
      go_ret
      exact ⟨rfl, HB2.out⟩
    cases q2
    · go_wp2
      go_ret
      exact ⟨rfl, HB2.out⟩
    cases q3
    · go_wp2
      go_ret
      exact ⟨rfl, HB2.out⟩
    cases q4
    · go_wp2
      go_ret
      exact ⟨rfl, HB2.out⟩
    go_wp2_with fail
    refine (HC.out).mono ?_
    rintro e w3 ⟨rfl, hb3⟩
    have HB3 := Lib.hid (HB2.out.trans (hb3.mono HB2.out.size))
    clear hb3
    go_wp2
    go_ret
    exact ⟨rfl, HB3.out⟩
theorem Same_any20 (n : Nat) (y z : XM) (w : World) (hy : XAt w.heap.size w n y) (hz : XAt w.heap.size w n z) :
    Calls Tryd.prog 24 #[y.v, z.v] w fun e w' => e = .returned (.bool (sameX 20 y.t z.t)) ∧ Below w.heap.size w w' := by
  have HS := Lib.hid (fun W (hb : Below w.heap.size w W) => same_is n 20 (by omega) y z W (hy.later hb) (hz.later hb))
  rw [XM.v_eq, XM.v_eq]
  generalize sameX 20 y.t z.t = d at *
  clear hy hz
  obtain ⟨w0, hw0⟩ : ∃ w0, w.alloc (.cells #[.int .i64 y.t.lab.kd, .int .u8 y.t.lab.v.k, .int .i64 y.t.lab.v.n, .string y.t.lab.v.s, .string y.t.lab.tb, .string y.t.lab.nm, .string y.t.lab.op, .slice y.a y.t.args.length y.cap] 39) = w0 := ⟨_, rfl⟩
  obtain ⟨w1, hw1⟩ : ∃ w1, w0.alloc (.cells #[.int .i64 z.t.lab.kd, .int .u8 z.t.lab.v.k, .int .i64 z.t.lab.v.n, .string z.t.lab.v.s, .string z.t.lab.tb, .string z.t.lab.nm, .string z.t.lab.op, .slice z.a z.t.args.length z.cap] 39) = w1 := ⟨_, rfl⟩
  have hb0 : Below w.heap.size w w0 := by rw [← hw0]; exact (Below.refl _ w).alloc (Nat.le_refl _) _
  have hb1 : Below w0.heap.size w0 w1 := by rw [← hw1]; exact (Below.refl _ w0).alloc (Nat.le_refl _) _
  have hs0 : w0.heap.size = w.heap.size + 1 := by rw [← hw0]; simp
  have hY : Slot8 w0 w.heap.size (.int .i64 y.t.lab.kd) (.int .u8 y.t.lab.v.k) (.int .i64 y.t.lab.v.n) (.string y.t.lab.v.s) (.string y.t.lab.tb) (.string y.t.lab.nm) (.string y.t.lab.op) (.slice y.a y.t.args.length y.cap) := by rw [← hw0]; exact Slot8.new w 39 _ _ _ _ _ _ _ _
  have hZ : Slot8 w1 w0.heap.size (.int .i64 z.t.lab.kd) (.int .u8 z.t.lab.v.k) (.int .i64 z.t.lab.v.n) (.string z.t.lab.v.s) (.string z.t.lab.tb) (.string z.t.lab.nm) (.string z.t.lab.op) (.slice z.a z.t.args.length z.cap) := by rw [← hw1]; exact Slot8.new w0 39 _ _ _ _ _ _ _ _
  obtain ⟨y0, y1, y2, y3, y4, y5, y6, y7⟩ := hY.later (N := w0.heap.size) (by omega) hb1
  obtain ⟨z0, z1, z2, z3, z4, z5, z6, z7⟩ := hZ
  have HB1 := Lib.hid (hb0.trans (hb1.mono hb0.size))
  clear hb0 hb1 hs0 hY
  go_enter Tryd.func24, Tryd.ntmps24
  go_wp2_with fail
  refine (HS.out _ HB1.out).mono ?_
  rintro e w2 ⟨rfl, hb2⟩
  have HB2 := Lib.hid (HB1.out.trans (hb2.mono HB1.out.size))
  clear hb2
  go_wp2
  go_ret
  exact ⟨rfl, HB2.out⟩
end Go.Proofs.YtjhdlbkcpdfpcaaDoor

/- Rows that grow: where the new one lies; trees that lie in blocks of a kind. -/
set_option linter.unusedSimpArgs false
set_option linter.unusedVariables false
set_option maxRecDepth 100000
namespace Go.Proofs.YtjhdlbkcpdfpcaaDoor
open Go.RowKit

section
variable {P : Program}
/-- A row that has grown lies where it lay, or in a new block. -/
theorem append_fresh (w : World) (base : Nat) (t ty e : TypeId) (i : TypeInfo) (z : Value) (size bytes : Nat) (ht : P.underlying t = some (.slice e)) (hi : P.info? e = some i) (hz : i.zero = some z)
    (hsize : i.size = size) (hby : i.bytes = bytes) (hzs : z.cells.size = size) (hsz : 0 < size)
    (v : Value) (n : Nat) (xs : List Value) (hown : w.ownsRow base e size v n xs)
    (a : Addr) (m c : Nat) (news : List Value) (hl : news.length = m * size) (hnews : ∀ j u, news[j]? = some u → w.cell? (a.add j) = some u) (h1 : ∀ u ∈ news, u.oneCell' = true)
    (h63 : n + m ≤ maxLen) (hbytes : (n + m) * bytes ≤ 140737488355328) (v' : Value) (w' : World) (hr : (Builtin.append_ #[t, t] ty #[v, .slice (some a) m c]).run P w = .ok v' w') :
    v'.ownBlock = v.ownBlock ∨ ∀ g, v'.ownBlock = some g → w.heap.size ≤ g := by
  have hsmall : n + m ≤ 9223372036854775807 := by simp only [maxLen] at h63; omega
  rcases hown.2 with ⟨rfl, rfl⟩ | ⟨g, cap, cur, rfl, hbg, hg, hnc, hcm, hcs, htake⟩
  · right
    have h0 : w.ownsRow w.heap.size e size (.slice none 0 0) 0 xs := ⟨hown.1, .inl ⟨rfl, rfl⟩⟩
    obtain ⟨v2, w2, hr2, h2, _, _⟩ := run_append_own (P := P) w w.heap.size t ty e i z size bytes ht hi hz hsize hby hzs hsz _ 0 xs h0 a m c news hl hnews h1 h63 hbytes (Nat.le_refl _)
    rw [hr] at hr2
    injection hr2 with e1 e2
    subst e1 e2
    exact fun g hg => (h2.lt g hg).1
  · subst hsize
    by_cases hroom : n + m ≤ cap
    · left
      have hr2 := run_append_room (P := P) w t ty e i ht hi g n cap cur hg a m c news hl hnews h1 hroom (by rw [hl, hcs, ← Nat.add_mul]; exact Nat.mul_le_mul_right _ hroom)
      rw [hr] at hr2
      injection hr2 with e1 e2
      rw [e1]; rfl
    · right
      have holds : ∀ j u, xs[j]? = some u → w.cell? ((⟨g, 0, none⟩ : Addr).add j) = some u := hown.cells (g := g) rfl
      have hr2 := run_append_grow (P := P) w t ty e i z ht hi hz ⟨g, 0, none⟩ n cap xs hown.1 holds a m c news hl hnews (by omega) (by omega) (growslice_fits (by omega) (by rw [hby]; exact hbytes))
      rw [hr] at hr2
      injection hr2 with e1 e2
      rw [e1]
      intro g' hg'
      simp [Value.ownBlock] at hg'
      omega

/-- 'append(s, x..)', m values just laid in a block of their own: one operation; where the row lies behind it. -/
theorem wp_appF {o : Oper} {a : Act} {K : Act → World → Prop} {Q : Exit → Act → World → Prop} (s x : Operand) (t : TypeId)
    (ho : o.op = .call { callee := .builtin .append, args := #[s, x], argTypes := #[t, t] })
    (base : Nat) (e : TypeId) (i : TypeInfo) (zr : Value) (z bytes m : Nat) (ht : P.underlying t = some (.slice e)) (hi : P.info? e = some i) (hz : i.zero = some zr) (hzs : zr.cells.size = z)
    (hsize : i.size = z) (hz0 : 0 < z) (hby : i.bytes = bytes) (hb1000 : bytes ≤ 1000)
    (v : Value) (n : Nat) (l news : List Value) (w : World) (hown : w.ownsRow base e z v n l) (hs : a.eval s = v) (cs : Array Value) (hcs : cs = news.toArray) (hl : news.length = m * z) (h1 : ∀ u ∈ news, u.oneCell' = true)
    (hx : a.eval x = .slice (some ⟨w.heap.size, 0, none⟩) m m) (hlen : n + m < 100000000000) (hbase : base ≤ w.heap.size)
    (h : ∀ v' w', w'.ownsRow base e z v' (n + m) (l ++ news) → Chg v.ownBlock.toList (w.alloc (.cells cs e)) w' → w.heap.size < w'.heap.size → (v'.ownBlock = v.ownBlock ∨ ∀ g, v'.ownBlock = some g → w.heap.size < g) → K (a.put o.dst v') w') :
    o.wp P a (w.alloc (.cells cs e)) K Q := by
  subst hcs
  have hnews : ∀ j u, news[j]? = some u → (w.alloc (.cells news.toArray e)).cell? ((⟨w.heap.size, 0, none⟩ : Addr).add j) = some u := by
    intro j u hj
    have e0 : (⟨w.heap.size, 0, none⟩ : Addr).add j = ⟨w.heap.size, j, none⟩ := by
      unfold Addr.add; split <;> simp_all
    rw [e0, World.cell?_alloc_at _ _ _ _ rfl]
    simpa using hj
  have h63 : n + m ≤ maxLen := by unfold maxLen; omega
  have hbs : (n + m) * bytes ≤ 140737488355328 := by
    have : (n + m) * bytes ≤ 100000000000 * 1000 := Nat.mul_le_mul (by omega) hb1000
    omega
  have ho2 := World.ownsRow.alloc hown (.cells news.toArray e)
  obtain ⟨v', w', hrun, h2, h3, _⟩ := run_append_own (P := P) (w.alloc (.cells news.toArray e)) base t o.type e i zr z bytes ht hi hz hsize hby hzs hz0 v n l ho2 ⟨w.heap.size, 0, none⟩ m m news hl hnews h1 h63 hbs (by simp; omega)
  have hfr := append_fresh (P := P) (w.alloc (.cells news.toArray e)) base t o.type e i zr z bytes ht hi hz hsize hby hzs hz0 v n l ho2 ⟨w.heap.size, 0, none⟩ m m news hl hnews h1 h63 hbs v' w' hrun
  unfold Oper.wp execOp
  simp only [ho, resolve, invoke, builtin, Sem.run_bind, Sem.run_pure, Result.andThen_ok, List.map_toArray, List.map_cons, List.map_nil, hs, hx, hrun]
  have hsz := h3.size
  refine h v' w' h2 ⟨h3.os, h3.tape, h3.output, h3.size, fun k hk hn => h3.block k hk (by intro he; apply hn; rw [Option.mem_toList]; exact he.symm)⟩ (by simp at hsz; omega) ?_
  rcases hfr with hfr | hfr
  · exact .inl hfr
  · exact .inr fun g hg => by have := hfr g hg; simp at this; omega
theorem wpList_appF {ops : Array Oper} {rest : List Oper} {o : Oper} {a : Act} {Q : Exit → Act → World → Prop} (hgd : o.guard = none) (s x : Operand) (t : TypeId)
    (ho : o.op = .call { callee := .builtin .append, args := #[s, x], argTypes := #[t, t] })
    (base : Nat) (e : TypeId) (i : TypeInfo) (zr : Value) (z bytes m : Nat) (ht : P.underlying t = some (.slice e)) (hi : P.info? e = some i) (hz : i.zero = some zr) (hzs : zr.cells.size = z)
    (hsize : i.size = z) (hz0 : 0 < z) (hby : i.bytes = bytes) (hb1000 : bytes ≤ 1000)
    (v : Value) (n : Nat) (l news : List Value) (w : World) (hown : w.ownsRow base e z v n l) (hs : a.eval s = v) (cs : Array Value) (hcs : cs = news.toArray) (hl : news.length = m * z) (h1 : ∀ u ∈ news, u.oneCell' = true)
    (hx : a.eval x = .slice (some ⟨w.heap.size, 0, none⟩) m m) (hlen : n + m < 100000000000) (hbase : base ≤ w.heap.size)
    (h : ∀ v' w', w'.ownsRow base e z v' (n + m) (l ++ news) → Chg v.ownBlock.toList (w.alloc (.cells cs e)) w' → w.heap.size < w'.heap.size → (v'.ownBlock = v.ownBlock ∨ ∀ g, v'.ownBlock = some g → w.heap.size < g) → wpList P ops Q rest (a.put o.dst v') w') :
    wpList P ops Q (o :: rest) a (w.alloc (.cells cs e)) :=
  wpList_plain hgd fun _ hK => wp_appF s x t ho base e i zr z bytes m ht hi hz hzs hsize hz0 hby hb1000 v n l news w hown hs cs hcs hl h1 hx hlen hbase fun v' w' h2 h3 h4 h5 => hK _ _ (h v' w' h2 h3 h4 h5)
end

/-- The address leads to the cells vs, in a block of which p holds. -/
def ArrIn (p : Nat → Prop) (w : World) (a : Option Addr) (vs : List Value) : Prop :=
  vs = [] ∨ ∃ b o, a = some ⟨b, o, none⟩ ∧ p b ∧ ∀ (i : Nat) (v : Value), vs[i]? = some v → w.cell? ⟨b, o + i, none⟩ = some v
theorem ArrIn.imp {p q : Nat → Prop} (h : ∀ b, p b → q b) {w : World} {a : Option Addr} {vs : List Value} (hA : ArrIn p w a vs) : ArrIn q w a vs := by
  rcases hA with h0 | ⟨b, o, ha, hp, hc⟩
  · exact .inl h0
  · exact .inr ⟨b, o, ha, h b hp, hc⟩
theorem ArrIn.keep {p : Nat → Prop} {w w' : World} (h : ∀ b, p b → w'.heap[b]? = w.heap[b]?) {a : Option Addr} {vs : List Value} (hA : ArrIn p w a vs) : ArrIn p w' a vs := by
  rcases hA with h0 | ⟨b, o, ha, hp, hc⟩
  · exact .inl h0
  · exact .inr ⟨b, o, ha, hp, fun i v hi => (World.cell?_of_block (w := w) (a := ⟨b, o + i, none⟩) (h b hp)).trans (hc i v hi)⟩
theorem ArrIn.arr {N : Nat} {w : World} {a : Option Addr} {vs : List Value} (h : ArrIn (· < N) w a vs) : Arr N w a vs := h

section
variable {α : Type} {F : α → Prop} {c : α → List Value}
/-- The tree lies in blocks of which p holds. -/
def RoseIn (F : α → Prop) (c : α → List Value) (p : Nat → Prop) (w : World) : Nat → RM α → Prop
  | 0, _ => False
  | n + 1, x => F x.t.lab ∧ x.t.args.length ≤ x.cap ∧ x.cap ≤ 9223372036854775807 ∧
      ∃ L : List (RM α), L.map (·.t) = x.t.args ∧ ArrIn p w x.a (cellsOf (cellsR c) L) ∧ ∀ y ∈ L, RoseIn F c p w n y
theorem RoseIn.imp {p q : Nat → Prop} (h : ∀ b, p b → q b) {w : World} : ∀ {n : Nat} {x : RM α}, RoseIn F c p w n x → RoseIn F c q w n x
  | 0, _, h0 => h0.elim
  | _ + 1, _, ⟨h1, h2, h3, L, h4, h5, h6⟩ => ⟨h1, h2, h3, L, h4, h5.imp h, fun y hy => RoseIn.imp h (h6 y hy)⟩
theorem RoseIn.keep {p : Nat → Prop} {w w' : World} (h : ∀ b, p b → w'.heap[b]? = w.heap[b]?) : ∀ {n : Nat} {x : RM α}, RoseIn F c p w n x → RoseIn F c p w' n x
  | 0, _, h0 => h0.elim
  | _ + 1, _, ⟨h1, h2, h3, L, h4, h5, h6⟩ => ⟨h1, h2, h3, L, h4, h5.keep h, fun y hy => RoseIn.keep h (h6 y hy)⟩
theorem RoseIn.at_ {N : Nat} {w : World} : ∀ {n : Nat} {x : RM α}, RoseIn F c (· < N) w n x → RoseAt F c N w n x
  | 0, _, h0 => h0.elim
  | _ + 1, _, ⟨h1, h2, h3, L, h4, h5, h6⟩ => ⟨h1, h2, h3, L, h4, h5, fun y hy => RoseIn.at_ (h6 y hy)⟩
theorem RoseIn.of_at {N : Nat} {w : World} : ∀ {n : Nat} {x : RM α}, RoseAt F c N w n x → RoseIn F c (· < N) w n x
  | 0, _, h0 => h0.elim
  | _ + 1, _, ⟨h1, h2, h3, L, h4, h5, h6⟩ => ⟨h1, h2, h3, L, h4, h5, fun y hy => RoseIn.of_at (h6 y hy)⟩
end
/-- An expression in blocks of which p holds. -/
def XIn (p : Nat → Prop) (w : World) (n : Nat) (x : XM) : Prop := RoseIn Lb.fair Lb.cells p w n x
theorem XIn.imp {p q : Nat → Prop} (h : ∀ b, p b → q b) {w : World} {n : Nat} {x : XM} (hx : XIn p w n x) : XIn q w n x := RoseIn.imp h hx
theorem XIn.keep {p : Nat → Prop} {w w' : World} (h : ∀ b, p b → w'.heap[b]? = w.heap[b]?) {n : Nat} {x : XM} (hx : XIn p w n x) : XIn p w' n x := RoseIn.keep h hx
theorem XIn.at_ {N : Nat} {w : World} {n : Nat} {x : XM} (hx : XIn (· < N) w n x) : XAt N w n x := RoseIn.at_ hx
end Go.Proofs.YtjhdlbkcpdfpcaaDoor

/- Rows of the call's own: where they lie, what leaves them as they are. -/
set_option linter.unusedSimpArgs false
set_option linter.unusedVariables false
set_option maxRecDepth 100000
namespace Go.Proofs.YtjhdlbkcpdfpcaaDoor
open Go.RowKit

theorem own_lt {w : World} {base : Nat} {e : TypeId} {size n : Nat} {v : Value} {xs : List Value} (h : w.ownsRow base e size v n xs) {g : Nat} (hg : v.ownBlock = some g) : g < w.heap.size := by
  rcases h.2 with ⟨rfl, _⟩ | ⟨g', cap, cur, rfl, _, hh, _⟩
  · simp [Value.ownBlock] at hg
  · have : g' = g := by simpa [Value.ownBlock] using hg
    subst this
    exact Blk.lt (t := e) hh
theorem own_keep {w w' : World} {base : Nat} {e : TypeId} {size n : Nat} {v : Value} {xs : List Value} (h : w.ownsRow base e size v n xs) (hk : ∀ g, v.ownBlock = some g → w'.heap[g]? = w.heap[g]?) : w'.ownsRow base e size v n xs := by
  refine ⟨h.1, ?_⟩
  rcases h.2 with h2 | ⟨g, cap, cur, hv, hg, hh, r⟩
  · exact .inl h2
  · exact .inr ⟨g, cap, cur, hv, hg, by rw [hk g (by rw [hv]; rfl)]; exact hh, r⟩
theorem own_chg {w w' : World} {base : Nat} {e : TypeId} {size n : Nat} {v : Value} {xs : List Value} {S : List Nat} (h : w.ownsRow base e size v n xs) (hc : Chg S w w') (hn : ∀ g, v.ownBlock = some g → g ∉ S) : w'.ownsRow base e size v n xs :=
  own_keep h fun g hg => hc.block g (own_lt h hg) (hn g hg)
theorem own_ne {w : World} {base : Nat} {e : TypeId} {size n : Nat} {v : Value} {xs : List Value} (h : w.ownsRow base e size v n xs) {g : Nat} {t : TypeId} {cs : Array Value} (hb : Blk w g t cs) (hne : e ≠ t) : v.ownBlock ≠ some g := by
  rcases h.2 with ⟨rfl, _⟩ | ⟨g', cap, cur, rfl, _, hh, _⟩
  · simp [Value.ownBlock]
  · intro he
    have : g' = g := by simpa [Value.ownBlock] using he
    subst this
    exact Blk.ne_ (t := e) hh hb hne rfl
end Go.Proofs.YtjhdlbkcpdfpcaaDoor
