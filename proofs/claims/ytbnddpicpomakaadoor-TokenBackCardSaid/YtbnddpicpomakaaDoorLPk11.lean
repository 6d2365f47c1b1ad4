/- Several texts of one proof, one behind the other. -/
import Derived.Test.YtbnddpicpomakaaDoorLPk10
import Derived.Lib.ItoaLen
import Derived.Test.YtbnddpicpomakaaDoorRows
import Derived.Lib.LaidU8
import Derived.PinnedBridge
import Derived.Stop.LaidErr
import Derived.RowKitTokens
import Derived.Stop.ErrReads
import Derived.Handed
set_option linter.unusedSimpArgs false
set_option linter.unusedVariables false

/- The texts of expressions; the walks of literal and column. -/
set_option linter.unusedSimpArgs false
set_option linter.unusedVariables false
set_option maxRecDepth 100000
namespace Go.Proofs.YtbnddpicpomakaaDoor
open Go.RowKit

/-- The token of a literal. -/
def Vl.tk (v : Vl) : Tk := if v.k = 1 then ⟨2, 0, ⟨#[]⟩, v.n⟩ else if v.k = 2 then ⟨3, 0, v.s, 0⟩ else if v.k = 3 then ⟨4, 0, v.s, 0⟩ else ⟨1, 0, ⟨#[110, 117, 108, 108]⟩, 0⟩
def Vl.litS (v : Vl) : ByteArray := joinS (textsTk [v.tk]) spS
def Lb.colS (l : Lb) : ByteArray := if l.tb.toList.isEmpty then l.nm else l.tb ++ ⟨#[46]⟩ ++ l.nm
/-- The text of a label, of which the arguments have these texts. -/
def Lb.textOf (l : Lb) (ts : List ByteArray) : ByteArray :=
  if l.kd = 1 then l.v.litS
  else if l.kd = 2 then l.colS
  else if l.kd = 3 then (⟨#[40]⟩ : ByteArray) ++ l.op ++ ⟨#[32]⟩ ++ ts.getD 0 ⟨#[]⟩ ++ ⟨#[41]⟩
  else if l.kd = 4 then (⟨#[40]⟩ : ByteArray) ++ ts.getD 0 ⟨#[]⟩ ++ ⟨#[32]⟩ ++ l.op ++ ⟨#[32]⟩ ++ ts.getD 1 ⟨#[]⟩ ++ ⟨#[41]⟩
  else if l.kd = 5 then (⟨#[40]⟩ : ByteArray) ++ ts.getD 0 ⟨#[]⟩ ++ ⟨#[32]⟩ ++ l.op ++ ⟨#[41]⟩
  else if ts.isEmpty then l.op ++ ⟨#[40, 42, 41]⟩
  else l.op ++ ⟨#[40]⟩ ++ joinS ts ⟨#[44, 32]⟩ ++ ⟨#[41]⟩
def textX : Ex → ByteArray
  | .mk l args => l.textOf (args.attach.map fun x => textX x.1)
termination_by e => SizeOf.sizeOf e
decreasing_by exact Rose.size_arg x.2
theorem textX_eq (e : Ex) : textX e = e.lab.textOf (e.args.map textX) := by
  obtain ⟨l, args⟩ := e
  rw [textX, Rose.args, Rose.lab]
  congr 1
  rw [List.attach_map_val (f := textX)]

theorem lit_one (t : Tk) (h : t.text.2 = true) : joinS (textsTk [t]) spS = t.text.1 := by
  have : textsTk [t] = [t.text.1] := by unfold textsTk; simp [h]
  rw [this]
  unfold joinS joinL
  rw [List.map_cons, List.map_nil, Lib.join_one, baL_data]
theorem Vl.litS_eq (v : Vl) : v.litS = v.tk.text.1 := by
  unfold Vl.litS
  rw [lit_one]
  unfold Vl.tk
  split
  · rfl
  · split
    · rfl
    · split
      · rfl
      · rfl

theorem itoa_len (n : Int) (h0 : -9223372036854775808 ≤ n) (h1 : n ≤ 9223372036854775807) : (Lib.itoa n).length ≤ 30 := by
  have := Lib.itoa_length_le n h0 h1
  omega

theorem litS_size (v : Vl) (hs : v.s.size ≤ 200) (h0 : -9223372036854775808 ≤ v.n) (h1 : v.n ≤ 9223372036854775807) : v.litS.size ≤ 900 := by
  rw [Vl.litS_eq]
  unfold Vl.tk
  split
  · show (baL (Lib.itoa v.n)).size ≤ 900
    rw [baL_size]; have := itoa_len v.n h0 h1; omega
  · split
    · show (quoteS v.s).size ≤ 900
      have := quoteS_size v.s; omega
    · split
      · show ((⟨#[120]⟩ : ByteArray) ++ quoteS (hexS v.s)).size ≤ 900
        rw [ByteArray.size_append]
        have := quoteS_size (hexS v.s)
        have := hexS_size v.s
        have : (⟨#[120]⟩ : ByteArray).size = 1 := rfl
        omega
      · show (⟨#[110, 117, 108, 108]⟩ : ByteArray).size ≤ 900
        decide


theorem tk_fair (t : Tk) (hk : -9223372036854775808 ≤ t.kd ∧ t.kd ≤ 9223372036854775807) (ha : t.at_ = 0) (hs : t.tx.size ≤ 400) (hn : -9223372036854775808 ≤ t.n ∧ t.n ≤ 9223372036854775807) : ∀ u ∈ [t], u.fair ∧ u.tx.size ≤ 400000 := by
  intro u hu
  rw [List.mem_singleton.1 hu]
  exact ⟨⟨hk, by omega, by omega, hn⟩, by omega⟩

/-- Write of one token that has just been laid. -/
theorem tkWrite_one (t : Tk) (w : World) (b : Nat) (hT : Pre4 w) (hF : ∀ u ∈ [t], u.fair ∧ u.tx.size ≤ 400000) (hb : b < w.heap.size)
    (c0 : w.cell? ⟨b, 0, none⟩ = some (.int .i64 t.kd)) (c1 : w.cell? ⟨b, 1, none⟩ = some (.int .i64 t.at_)) (c2 : w.cell? ⟨b, 2, none⟩ = some (.string t.tx)) (c3 : w.cell? ⟨b, 3, none⟩ = some (.int .i64 t.n)) (hj : (joinS (textsTk [t]) spS).size ≤ 1000000) :
    Calls Tryd.prog 10 #[.slice (some ⟨b, 0, none⟩) 1 1] w fun e w' => e = .returned (.string (joinS (textsTk [t]) spS)) ∧ Below w.heap.size w w' := by
  refine tkWrite_any [t] _ 1 1 w hT (.inr ⟨b, 0, rfl, hb, fun i v hi => ?_⟩) rfl (by omega) hF (by unfold joinS at hj; rw [baL_size] at hj; omega)
  have hi' : t.cells[i]? = some v := by simpa [cellsTk, cellsOf] using hi
  rw [Nat.zero_add]
  match i, hi' with
  | 0, h => rw [c0]; exact h
  | 1, h => rw [c1]; exact h
  | 2, h => rw [c2]; exact h
  | 3, h => rw [c3]; exact h
  | n + 4, h => simp [Tk.cells] at h

set_option maxHeartbeats 2000000 in
theorem literal_any (v : Vl) (w : World) (hT : Pre4 w) (hk : v.k < 256) (hn : -9223372036854775808 ≤ v.n ∧ v.n ≤ 9223372036854775807) (hs : v.s.size ≤ 200) :
    Calls Tryd.prog 68 #[.agg #[.int .u8 v.k, .int .i64 v.n, .string v.s]] w fun e w' => e = .returned (.string v.litS) ∧ Below w.heap.size w w' := by
  have hsz := litS_size v hs hn.1 hn.2
  obtain ⟨k, n, s⟩ := v
  simp only at hk hn hs ⊢
  have HW : Hid (∀ (t : Tk) (o1 o2 : Obj) , t.at_ = 0 → (-9223372036854775808 ≤ t.kd ∧ t.kd ≤ 9223372036854775807) → t.tx.size ≤ 400 → (-9223372036854775808 ≤ t.n ∧ t.n ≤ 9223372036854775807) → (joinS (textsTk [t]) spS).size ≤ 1000000 →
      Calls Tryd.prog 10 #[.slice (some ⟨w.heap.size + 1 + 1, 0, none⟩) 1 1] (((w.alloc o1).alloc o2).alloc (.cells #[.int .i64 t.kd, .int .i64 t.at_, .string t.tx, .int .i64 t.n] 33)) fun e w' => e = .returned (.string (joinS (textsTk [t]) spS)) ∧ Below w.heap.size w w') := by
    intro t o1 o2 ha hkd htx htn hj
    have hB : Below w.heap.size w (((w.alloc o1).alloc o2).alloc (.cells #[.int .i64 t.kd, .int .i64 t.at_, .string t.tx, .int .i64 t.n] 33)) := (((Below.refl _ w).alloc (Nat.le_refl _) _).alloc (by simp) _).alloc (by simp; omega) _
    have h4 := Slot4.new ((w.alloc o1).alloc o2) 33 (.int .i64 t.kd) (.int .i64 t.at_) (.string t.tx) (.int .i64 t.n)
    rw [show ((w.alloc o1).alloc o2).heap.size = w.heap.size + 1 + 1 by simp] at h4
    refine (tkWrite_one t _ _ (hT.below hB) (tk_fair t hkd ha htx htn) (by simp) h4.c0 h4.c1 h4.c2 h4.c3 hj).mono ?_
    · rintro e w' ⟨he, hb⟩
      exact ⟨he, hB.trans (hb.mono hB.size)⟩
  clear hT
  unfold Vl.litS Vl.tk at hsz
  have HR : Hid (Vl.litS ⟨k, n, s⟩ = joinS (textsTk [if k = 1 then ⟨2, 0, ⟨#[]⟩, n⟩ else if k = 2 then ⟨3, 0, s, 0⟩ else if k = 3 then ⟨4, 0, s, 0⟩ else ⟨1, 0, ⟨#[110, 117, 108, 108]⟩, 0⟩]) spS) := rfl
  simp only at hsz
  rw [HR.out]
  clear HR
  have hcase : k = 1 ∨ k = 2 ∨ k = 3 ∨ (k ≠ 1 ∧ k ≠ 2 ∧ k ≠ 3) := by omega
  rcases hcase with rfl | rfl | rfl | ⟨h1, h2, h3⟩
  · have HY := Lib.hid (fun o1 o2 => HW.out ⟨2, 0, ⟨#[]⟩, n⟩ o1 o2 rfl (by simp) (show (⟨#[]⟩ : ByteArray).size ≤ 400 by decide) (by simp; try omega) (Nat.le_trans hsz (by omega)))
    clear HW hsz
    simp only [if_true, if_false, Nat.reduceEqDiff] at HY ⊢
    generalize joinS (textsTk [⟨2, 0, ⟨#[]⟩, n⟩]) spS = R at *
    go_enter Tryd.func68, Tryd.ntmps68
    go_wp2_with fail
    refine (HY.out _ _).mono ?_
    rintro e w1 ⟨rfl, hb1⟩
    have HB1 := Lib.hid hb1
    clear hb1 HY
    go_wp2
    go_ret
    exact ⟨rfl, HB1.out⟩
  · have HY := Lib.hid (fun o1 o2 => HW.out ⟨3, 0, s, 0⟩ o1 o2 rfl (by simp) (by simp only; omega) (by simp; try omega) (Nat.le_trans hsz (by omega)))
    clear HW hsz
    simp only [if_true, if_false, Nat.reduceEqDiff] at HY ⊢
    generalize joinS (textsTk [⟨3, 0, s, 0⟩]) spS = R at *
    go_enter Tryd.func68, Tryd.ntmps68
    go_wp2_with fail
    refine (HY.out _ _).mono ?_
    rintro e w1 ⟨rfl, hb1⟩
    have HB1 := Lib.hid hb1
    clear hb1 HY
    go_wp2
    go_ret
    exact ⟨rfl, HB1.out⟩
  · have HY := Lib.hid (fun o1 o2 => HW.out ⟨4, 0, s, 0⟩ o1 o2 rfl (by simp) (by simp only; omega) (by simp; try omega) (Nat.le_trans hsz (by omega)))
    clear HW hsz
    simp only [if_true, if_false, Nat.reduceEqDiff] at HY ⊢
    generalize joinS (textsTk [⟨4, 0, s, 0⟩]) spS = R at *
    go_enter Tryd.func68, Tryd.ntmps68
    go_wp2_with fail
    refine (HY.out _ _).mono ?_
    rintro e w1 ⟨rfl, hb1⟩
    have HB1 := Lib.hid hb1
    clear hb1 HY
    go_wp2
    go_ret
    exact ⟨rfl, HB1.out⟩
  · rw [if_neg h1, if_neg h2, if_neg h3] at hsz ⊢
    have HY := Lib.hid (fun o1 o2 => HW.out ⟨1, 0, ⟨#[110, 117, 108, 108]⟩, 0⟩ o1 o2 rfl (by simp) (by decide) (by simp) (Nat.le_trans hsz (by omega)))
    have q1 : ((k : Int) == 1) = false := by simp; omega
    have q2 : ((k : Int) == 2) = false := by simp; omega
    have q3 : ((k : Int) == 3) = false := by simp; omega
    clear HW hsz h1 h2 h3
    generalize joinS (textsTk [⟨1, 0, ⟨#[110, 117, 108, 108]⟩, 0⟩]) spS = R at *
    go_enter Tryd.func68, Tryd.ntmps68
    go_wp2_with fail
    refine (HY.out _ _).mono ?_
    rintro e w1 ⟨rfl, hb1⟩
    have HB1 := Lib.hid hb1
    clear hb1 HY
    go_wp2
    go_ret
    exact ⟨rfl, HB1.out⟩

set_option maxHeartbeats 1000000 in
theorem column_any (x : XM) (w : World) (h4 : x.t.lab.tb.size ≤ 1000000) (h5 : x.t.lab.nm.size ≤ 1000000) :
    Calls Tryd.prog 69 #[x.v] w fun e w' => e = .returned (.string x.t.lab.colS) ∧ Below w.heap.size w w' := by
  rw [XM.v_eq]
  obtain ⟨⟨⟨kd, ⟨vk, vn, vs⟩, tb, nm, op⟩, args⟩, a, cap⟩ := x
  simp only [Rose.lab, Rose.args] at h4 h5 ⊢
  generalize args.length = n at *
  obtain ⟨x0, x1, x2, x3, x4, x5, x6, x7⟩ := Slot8.new w 39 (.int .i64 kd) (.int .u8 vk) (.int .i64 vn) (.string vs) (.string tb) (.string nm) (.string op) (.slice a n cap)
  have HB0 : Hid (∀ o, Below w.heap.size w (w.alloc o)) := fun o => (Below.refl _ w).alloc (Nat.le_refl _) _
  by_cases ht : tb.toList = []
  · have ht2 : tb.toList.isEmpty = true := by rw [ht]; rfl
    have HR : Hid (Lb.colS ⟨kd, ⟨vk, vn, vs⟩, tb, nm, op⟩ = nm) := by unfold Lb.colS; simp [ht2, Hid]
    rw [HR.out]
    go_enter Tryd.func69, Tryd.ntmps69
    go_wp2
    go_ret
    exact ⟨rfl, HB0.out _⟩
  · have ht2 : tb.toList.isEmpty = false := by simpa using ht
    have ht3 : (!tb.toList.isEmpty) = true := by rw [ht2]; rfl
    have HR : Hid (Lb.colS ⟨kd, ⟨vk, vn, vs⟩, tb, nm, op⟩ = tb ++ ⟨#[46]⟩ ++ nm) := by unfold Lb.colS; simp [ht2, Hid]
    have s1 : ¬ 9223372036854775807 < tb.size + 1 := by omega
    have s2 : ¬ 9223372036854775807 < tb.size + 1 + nm.size := by omega
    rw [HR.out]
    go_enter Tryd.func69, Tryd.ntmps69
    go_wp2
    go_ret
    exact ⟨rfl, HB0.out _⟩
end Go.Proofs.YtbnddpicpomakaaDoor

/- How long the texts of expressions are. -/
set_option linter.unusedSimpArgs false
set_option linter.unusedVariables false
set_option maxRecDepth 100000
namespace Go.Proofs.YtbnddpicpomakaaDoor
open Go.RowKit

theorem joinTail_len (sep : List UInt8) (r : List (List UInt8)) : (Lib.joinTail sep r).length = (r.map List.length).sum + r.length * sep.length := by
  induction r with
  | nil => simp [Lib.joinTail]
  | cons x r ih =>
    have e : Lib.joinTail sep (x :: r) = (sep ++ x) ++ Lib.joinTail sep r := by simp [Lib.joinTail]
    rw [e, List.length_append, List.length_append, ih, List.map_cons, List.sum_cons, List.length_cons, Nat.add_mul]; omega
theorem joinS_size (xs : List ByteArray) (sep : ByteArray) : (joinS xs sep).size ≤ (xs.map ByteArray.size).sum + xs.length * sep.size := by
  unfold joinS joinL
  rw [baL_size]
  cases xs with
  | nil => simp [Lib.join_nil]
  | cons x r =>
    rw [List.map_cons, Lib.join_cons, List.length_append, joinTail_len, List.map_cons, List.sum_cons, List.length_cons, List.map_map, List.length_map, Nat.add_mul]
    have e1 : (List.map (List.length ∘ fun x : ByteArray => x.data.toList) r).sum = (List.map ByteArray.size r).sum := by
      congr 1
    have e2 : x.data.toList.length = x.size := by simp
    have e3 : sep.data.toList.length = sep.size := by simp
    rw [e1, e2, e3]; omega

/-- Good for a text: valid, and no label too much. -/
def Lb.good (l : Lb) (n : Nat) : Bool := l.ok n && !l.big n
def GoodX (e : Ex) : Prop := e.allB Lb.good = true
theorem GoodX.lab {e : Ex} (h : GoodX e) : e.lab.ok e.args.length = true ∧ e.lab.big e.args.length = false := by
  unfold GoodX at h
  rw [Rose.allB_eq] at h
  simp only [Lb.good, Bool.and_eq_true, Bool.not_eq_true'] at h
  exact h.1
theorem GoodX.arg {e x : Ex} (h : GoodX e) (hx : x ∈ e.args) : GoodX x := by
  unfold GoodX at h
  rw [Rose.allB_eq, Bool.and_eq_true, List.all_eq_true] at h
  exact h.2 x hx
structure Lb.Small (l : Lb) (n : Nat) : Prop where
  n : n ≤ 6
  nm : l.nm.size ≤ 100
  tb : l.tb.size ≤ 100
  op : l.op.size ≤ 100
  s : l.v.s.size ≤ 200
theorem Lb.small {l : Lb} {n : Nat} (h : l.big n = false) : l.Small n := by
  unfold Lb.big at h
  simp only [Bool.or_eq_false_iff, decide_eq_false_iff_not] at h
  exact ⟨by omega, by omega, by omega, by omega, by omega⟩
theorem getD_size (ts : List ByteArray) (i : Nat) : (ts.getD i ⟨#[]⟩).size ≤ (ts.map ByteArray.size).sum := by
  induction ts generalizing i with
  | nil => exact Nat.zero_le 0
  | cons x r ih =>
    cases i with
    | zero => simp
    | succ i => have := ih i; simp only [List.getD_cons_succ, List.map_cons, List.sum_cons]; omega
theorem getD2_size (ts : List ByteArray) : (ts.getD 0 ⟨#[]⟩).size + (ts.getD 1 ⟨#[]⟩).size ≤ (ts.map ByteArray.size).sum := by
  cases ts with
  | nil => exact Nat.zero_le 0
  | cons x r =>
    have := getD_size r 0
    simp only [List.getD_cons_zero, List.getD_cons_succ, List.map_cons, List.sum_cons]; omega

theorem textOf_size (l : Lb) (ts : List ByteArray) (n : Nat) (hn : ts.length = n) (hs : l.Small n) (h0 : -9223372036854775808 ≤ l.v.n ∧ l.v.n ≤ 9223372036854775807) : (l.textOf ts).size ≤ 900 + (ts.map ByteArray.size).sum := by
  have e1 : (⟨#[40]⟩ : ByteArray).size = 1 := rfl
  have e2 : (⟨#[41]⟩ : ByteArray).size = 1 := rfl
  have e3 : (⟨#[32]⟩ : ByteArray).size = 1 := rfl
  have e4 : (⟨#[46]⟩ : ByteArray).size = 1 := rfl
  have e5 : (⟨#[40, 42, 41]⟩ : ByteArray).size = 3 := rfl
  have e6 : (⟨#[44, 32]⟩ : ByteArray).size = 2 := rfl
  have a0 := getD_size ts 0
  have a2 := getD2_size ts
  have h1 := hs.n; have h2 := hs.nm; have h3 := hs.tb; have h4 := hs.op
  unfold Lb.textOf
  split
  · have := litS_size l.v hs.s h0.1 h0.2; omega
  split
  · unfold Lb.colS
    split
    · omega
    · rw [ByteArray.size_append, ByteArray.size_append]; omega
  split
  · simp only [ByteArray.size_append]; omega
  split
  · simp only [ByteArray.size_append]; omega
  split
  · simp only [ByteArray.size_append]; omega
  split
  · simp only [ByteArray.size_append]; omega
  · have := joinS_size ts ⟨#[44, 32]⟩
    rw [e6] at this
    simp only [ByteArray.size_append]; omega

theorem textX_size : ∀ (N n : Nat) (w : World) (x : XM), XAt N w n x → GoodX x.t → (textX x.t).size ≤ 1000 * x.t.count
  | _, 0, _, _, h, _ => h.elim
  | N, n + 1, w, x, h, hg => by
    have hs := Lb.small hg.lab.2
    have hf := h.fair.1.n
    have hk : ∀ y ∈ x.t.args, (textX y).size ≤ 1000 * y.count := by
      intro y hy
      obtain ⟨k, hk, rfl⟩ := List.getElem_of_mem hy
      obtain ⟨z, hz, hzA, _⟩ := h.kid hk
      have := textX_size N n w z hzA (by rw [hz]; exact hg.arg hy)
      rw [hz] at this; exact this
    rw [textX_eq, Rose.count_eq]
    have h1 := textOf_size x.t.lab (x.t.args.map textX) _ (by simp) hs hf
    have h2 : ((x.t.args.map textX).map ByteArray.size).sum ≤ 1000 * (x.t.args.map Rose.count).sum := by
      generalize x.t.args = l at hk
      induction l with
      | nil => simp
      | cons y r ih =>
        have := hk y List.mem_cons_self
        have := ih (fun z hz => hk z (List.mem_cons_of_mem _ hz))
        simp only [List.map_cons, List.sum_cons]; omega
    omega
end Go.Proofs.YtbnddpicpomakaaDoor

/- The walk of the law TokenBack. -/
set_option linter.unusedSimpArgs false
set_option linter.unusedVariables false
set_option maxRecDepth 100000
namespace Go.Proofs.YtbnddpicpomakaaDoor
open Go.RowKit

theorem sum_le (M : Nat) : ∀ xs : List ByteArray, (∀ x ∈ xs, x.size ≤ M) → (xs.map ByteArray.size).sum ≤ M * xs.length
  | [], _ => by simp
  | x :: r, h => by
    have := sum_le M r fun y hy => h y (List.mem_cons_of_mem _ hy)
    have := h x List.mem_cons_self
    rw [List.map_cons, List.sum_cons, List.length_cons, Nat.mul_succ]
    omega
/-- What the tokens of a short text are. -/
theorem read_fair (s : ByteArray) (h : s.size ≤ 4096) (h0 : (readV19 s).2.2 = 0) : (∀ t ∈ (readV19 s).1, t.fair ∧ t.tx.size ≤ 5000) ∧ (readV19 s).1.length ≤ 5000 := by
  obtain ⟨L, hL, hp, hr⟩ := (read_at s h).1 h0
  have hlen : (readV19 s).1.length ≤ 5000 := by
    have hk : ∀ k (h : k < (readV19 s).1.length), (k : Int) ≤ (readV19 s).1[k].at_ := fun k => by
      induction k with
      | zero => intro h; have := hp _ (List.getElem_mem h); simpa using this
      | succ k ih =>
        intro h
        have := ih (by omega)
        have := List.pairwise_iff_getElem.1 hr k (k + 1) (by omega) h (by omega)
        omega
    have hl : (readV19 s).1.length = L.length + 1 := by rw [hL]; simp
    have h5 := hk L.length (by omega)
    have : (readV19 s).1[L.length]'(by omega) = ⟨0, (s.size : Int), ⟨#[]⟩, 0⟩ := by
      have : (L ++ [(⟨0, (s.size : Int), ⟨#[]⟩, 0⟩ : Tk)])[L.length]? = some ⟨0, (s.size : Int), ⟨#[]⟩, 0⟩ := by rw [List.getElem?_append_right (Nat.le_refl _), Nat.sub_self]; rfl
      rw [← hL, List.getElem?_eq_getElem (by omega)] at this
      injection this
    rw [this] at h5
    simp only at h5
    omega
  refine ⟨fun t ht => ?_, hlen⟩
  have hd : ¬ (decS (bytesU s)).isSome = false := fun hd => by
    simp only [readV19] at h0
    rw [if_neg (by omega), if_pos hd] at h0
    cases h0
  have hat : 0 ≤ t.at_ ∧ t.at_ ≤ 9223372036854775807 := by
    refine ⟨hp t ht, ?_⟩
    obtain ⟨i, hi, rfl⟩ := List.getElem_of_mem ht
    have hl : (readV19 s).1.length = L.length + 1 := by rw [hL]; simp
    have hlast : (readV19 s).1[L.length]'(by omega) = ⟨0, (s.size : Int), ⟨#[]⟩, 0⟩ := by
      have : (L ++ [(⟨0, (s.size : Int), ⟨#[]⟩, 0⟩ : Tk)])[L.length]? = some ⟨0, (s.size : Int), ⟨#[]⟩, 0⟩ := by rw [List.getElem?_append_right (Nat.le_refl _), Nat.sub_self]; rfl
      rw [← hL, List.getElem?_eq_getElem (by omega)] at this
      injection this
    by_cases hie : i = L.length
    · subst hie; rw [hlast]; simp only; omega
    · have := List.pairwise_iff_getElem.1 hr i L.length hi (by omega) (by omega)
      rw [hlast] at this
      simp only at this; omega
  obtain ⟨R, hR⟩ : ∃ R, readR (bytesU s) (s.size + 1) (skipR [1] (bytesU s)) = R := ⟨_, rfl⟩
  have hv : (readV19 s).1 = if R.2.2 = 0 then R.1 ++ [⟨0, R.2.1, ⟨#[]⟩, 0⟩] else [] := by
    simp only [readV19]
    rw [if_neg (by omega), if_neg hd, hR]
    split <;> rfl
  rw [hv] at ht
  split at ht
  · rcases List.mem_append.1 ht with ht | ht
    · rw [← hR] at ht
      have hz := read_sz _ _ _ t ht
      have hx := hz.tx
      rw [bytesU_len] at hx
      exact ⟨⟨⟨by have := hz.kd.1; omega, by have := hz.kd.2; omega⟩, ⟨by omega, hat.2⟩, by omega, ⟨by have := hz.n.1; omega, hz.n.2⟩⟩, by omega⟩
    · rw [List.mem_singleton.1 ht] at hat ⊢
      exact ⟨⟨show (-9223372036854775808:Int) ≤ 0 ∧ (0:Int) ≤ 9223372036854775807 from by decide, ⟨by have := hat.1; omega, hat.2⟩, Nat.zero_le _, show (-9223372036854775808:Int) ≤ 0 ∧ (0:Int) ≤ 9223372036854775807 from by decide⟩, Nat.zero_le _⟩
  · cases ht
theorem text_big (t : Tk) (hF : t.fair) (hs : t.tx.size ≤ 5000) : t.text.1.size ≤ 30000 := by
  unfold Tk.text
  split
  · simp only; omega
  split
  · show (baL (Lib.itoa t.n)).size ≤ 30000
    rw [baL_size]; have := Lib.itoa_length_le t.n hF.n.1 hF.n.2; omega
  split
  · show (quoteS t.tx).size ≤ 30000
    have := quoteS_size t.tx; omega
  split
  · show ((⟨#[120]⟩ : ByteArray) ++ quoteS (hexS t.tx)).size ≤ 30000
    rw [ByteArray.size_append]
    have := quoteS_size (hexS t.tx)
    have := hexS_size t.tx
    have : (⟨#[120]⟩ : ByteArray).size = 1 := rfl
    omega
  · exact Nat.zero_le _
theorem back_size (l : List Tk) (h : ∀ t ∈ l, t.fair ∧ t.tx.size ≤ 5000) (hl : l.length ≤ 5000) : (joinS (textsTk l) spS).size ≤ 200000000 := by
  have h1 := joinS_size (textsTk l) spS
  have h2 := textsTk_len l
  have h3 : spS.size = 1 := rfl
  have h4 := sum_le 30000 (textsTk l) fun x hx => by
    unfold textsTk at hx
    obtain ⟨t, ht, hx⟩ := List.mem_filterMap.1 hx
    split at hx
    · injection hx with hx
      rw [← hx]
      exact text_big t (h t ht).1 (h t ht).2
    · cases hx
  rw [h3] at h1
  omega
set_option maxHeartbeats 16000000 in
theorem back_walk (s : ByteArray) (w : World) (hT : Pre6 w) (hs : s.size ≤ 140737488351232) :
    Calls Tryd.prog 3 #[.string s] w fun e w' => e = .returned (.bool true) ∧ Below w.heap.size w w' := by
  have HAl := Lib.hid (fun W (hb : Below w.heap.size w W) => alive19_any W (hT.below hb))
  have HRd := Lib.hid (fun (t : ByteArray) W (hb : Below w.heap.size w W) (ht : t.size ≤ 140737488351232) => tkRead_any t W (hT.below hb) ht)
  have HWr := Lib.hid (fun (l : List Tk) (a : Option Addr) (len cap : Nat) W (hb : Below w.heap.size w W) (hA : Arr W.heap.size W a (cellsTk l)) (hl : len = l.length) (h1 : len ≤ 5000) (h2 : ∀ t ∈ l, t.fair ∧ t.tx.size ≤ 5000) => tkWrite_any l a len cap W (hT.below hb).toPre5.toPre4 hA hl (by omega) (fun t ht => ⟨(h2 t ht).1, by have := (h2 t ht).2; omega⟩) (by
    have := back_size l h2 (by omega)
    unfold joinS at this
    rw [baL_size] at this
    omega))
  have HBw : Hid (Below w.heap.size w w) := Below.refl _ _
  clear hT
  by_cases h1 : 1000 < s.size
  · have q1 : decide ((1000 : Int) < (s.size : Int)) = true := by simp; omega
    have q2 : (1000 : Int) < (s.size : Int) := by omega
    go_enter Tryd.func3, Tryd.ntmps3
    go_wp2_with fail
    refine (HAl.out _ HBw.out).mono ?_
    rintro e w1 ⟨rfl, hb1⟩
    have HB1 := Lib.hid hb1
    clear hb1
    go_wp2
    go_ret
    exact ⟨rfl, HB1.out⟩
  have q1 : decide ((1000 : Int) < (s.size : Int)) = false := by simp; omega
  have HY := Lib.hid (HRd.out s w HBw.out hs)
  have hat := read_at s (by omega)
  have hbk := read_back s (by omega)
  have hfr := read_fair s (by omega)
  obtain ⟨⟨T, p, c⟩, hv⟩ : ∃ v, readV19 s = v := ⟨_, rfl⟩
  rw [hv] at hat hbk hfr HY
  simp only at hat hbk hfr
  unfold RetRd19 at HY
  simp only at HY
  by_cases h0 : c = 0
  · have qc1 : (c != 0) = false := by simpa using h0
    obtain ⟨hfT, hlT⟩ := hfr h0
    have hbk := hbk h0
    have hW2 := back_size T hfT hlT
    obtain ⟨W, hW⟩ : ∃ W, joinS (textsTk T) spS = W := ⟨_, rfl⟩
    rw [hW] at hbk hW2
    obtain ⟨⟨M, p2, c2⟩, hv2⟩ : ∃ v, readV19 W = v := ⟨_, rfl⟩
    have hfr2 := read_fair W
    have HRW := Lib.hid (fun V (hb : Below w.heap.size w V) => HRd.out W V hb (by omega))
    rw [hv2] at hbk hfr2 HRW
    unfold RetRd19 at HRW
    simp only at hbk hfr2 HRW
    obtain ⟨n, hn⟩ : ∃ n, T.length = n := ⟨_, rfl⟩
    obtain ⟨k, hk⟩ : ∃ k, M.length = k := ⟨_, rfl⟩
    have HT : Hid (∀ (a : Option Addr) (cap : Nat) V, Below w.heap.size w V → Arr V.heap.size V a (cellsTk T) → Calls Tryd.prog 10 #[.slice a n cap] V fun e w' => e = .returned (.string W) ∧ Below V.heap.size V w') := fun a cap V hb hA => by
      rw [← hW]
      exact HWr.out T a n cap V hb hA hn.symm (by omega) hfT
    have HM : Hid (W.size ≤ 4096 → c2 = 0 ∧ k = n ∧ (∀ (a b : Option Addr) (c d : Nat) V, Arr V.heap.size V a (cellsTk T) → Arr V.heap.size V b (cellsTk M) → Calls Tryd.prog 11 #[.slice a n c, .slice b k d] V fun e w' => e = .returned (.bool true) ∧ Below V.heap.size V w') ∧ (∀ (a : Option Addr) (cap : Nat) V, Below w.heap.size w V → Arr V.heap.size V a (cellsTk M) → Calls Tryd.prog 10 #[.slice a k cap] V fun e w' => e = .returned (.string W) ∧ Below V.heap.size V w')) := fun h4 => by
      obtain ⟨e1, e2⟩ := hbk h4
      injection e1 with e0 e1
      subst e1
      have hlen : k = n := by have := congrArg List.length e2; rw [List.length_map, List.length_map] at this; omega
      obtain ⟨f1, f2⟩ := hfr2 h4 rfl
      refine ⟨rfl, hlen, fun a b c d V hA hB => ?_, fun a cap V hb hA => ?_⟩
      · have := tkSm_any T M a b c d V hA hB (by omega) (by omega) fun i g1 g2 => by
          have := congrArg (fun l : List (Int × ByteArray × Int) => l[i]?) e2
          simp only [List.getElem?_map, List.getElem?_eq_getElem g1, List.getElem?_eq_getElem g2, Option.map_some, Option.some.injEq] at this
          unfold Tk.core at this
          injection this with x1 x2
          injection x2 with x2 x3
          exact ⟨x1.symm, x2.symm, x3.symm⟩
        rw [hn, hk] at this; exact this
      · rw [← hW, ← texts_core e2]
        exact HWr.out M a k cap V hb hA hk.symm (by omega) f1
    rw [hn] at HY
    rw [hk] at HRW
    clear h0 hat hbk hfr hfr2 hv hv2 hW hn hk hfT hlT HWr HRd
    go_enter Tryd.func3, Tryd.ntmps3
    go_wp2_with fail
    refine HY.out.mono ?_
    rintro e w1 ⟨a1, c1, rfl, hc1, hm1, hA1, hb1⟩
    have HE := Lib.hid (PlE.new (p := (p : Int)) (c := c) hA1 hb1)
    obtain ⟨B, hB⟩ : ∃ B, w1.heap.size = B := ⟨_, rfl⟩
    obtain ⟨wr, hw2⟩ : ∃ w2, w1.alloc (.cells #[.int .i64 (p : Int), .int .i64 c] 26) = w2 := ⟨_, rfl⟩
    rw [hw2, hB] at HE
    have f1 := HE.out.f1
    clear hA1 hb1 HY
    go_wp2_with fail
    refine (HT.out a1 c1 _ HE.out.bel HE.out.arr).mono ?_
    rintro e w3 ⟨rfl, hb3⟩
    have HE3 := Lib.hid (HE.out.later hb3)
    clear hb3 f1 hw2 hB
    go_wp2_with fail
    refine (HRW.out _ HE3.out.bel).mono ?_
    rintro e w4 ⟨a4, c4, rfl, hc4, hm4, hA4, hb4⟩
    have HE4 := Lib.hid (HE3.out.later hb4)
    have HG4 := Lib.hid (PlE.new (w := w) (p := (p2 : Int)) (c := c2) hA4 HE4.out.bel)
    obtain ⟨w5, hw5⟩ : ∃ w5, w4.alloc (.cells #[.int .i64 (p2 : Int), .int .i64 c2] 26) = w5 := ⟨_, rfl⟩
    have hb5 : Below w4.heap.size w4 w5 := by rw [← hw5]; exact (Below.refl _ w4).alloc (Nat.le_refl _) _
    obtain ⟨C, hC⟩ : ∃ C, w4.heap.size = C := ⟨_, rfl⟩
    rw [hw5, hC] at HG4
    have HE5 := Lib.hid (HE4.out.later hb5)
    clear hA4 hb4 hb5
    by_cases h4 : 4096 < W.size
    · have q4 : decide ((4096 : Int) < (W.size : Int)) = true := by simp; omega
      clear HM
      go_wp2_with fail
      refine (HAl.out _ HG4.out.bel).mono ?_
      rintro e w6 ⟨rfl, hb6⟩
      have HB6 := Lib.hid (HG4.out.bel.trans (hb6.mono HG4.out.bel.size))
      clear hb6
      go_wp2
      go_ret
      exact ⟨rfl, HB6.out⟩
    · have q4 : decide ((4096 : Int) < (W.size : Int)) = false := by simp; omega
      obtain ⟨hc2, rfl, hS, hWm⟩ := HM.out (by omega)
      have qd : (c2 == 0) = true := by simpa using hc2
      have HS := Lib.hid hS
      have HWm := Lib.hid hWm
      clear hS hWm HM h4 hc2
      go_wp2_with fail
      refine (HAl.out _ HG4.out.bel).mono ?_
      rintro e w6 ⟨rfl, hb6⟩
      have HE6 := Lib.hid (HE5.out.later hb6)
      have HG6 := Lib.hid (HG4.out.later hb6)
      clear hb6
      have g1 := HG6.out.f1
      go_wp2_with fail
      refine (HS.out a1 a4 c1 c4 _ HE6.out.arr HG6.out.arr).mono ?_
      rintro e w7 ⟨rfl, hb7⟩
      have HG7 := Lib.hid (HG6.out.later hb7)
      clear hb7 g1
      go_wp2_with fail
      refine (HWm.out a4 c4 _ HG7.out.bel HG7.out.arr).mono ?_
      rintro e w8 ⟨rfl, hb8⟩
      have HB8 := Lib.hid (HG7.out.bel.trans (hb8.mono HG7.out.bel.size))
      clear hb8
      go_wp2
      go_ret
      exact ⟨ret_b (by first | rfl | simp), HB8.out⟩
  · have qc1 : (c != 0) = true := by simpa using h0
    have hT0 := hat.2.1 h0
    subst hT0
    clear h0 hat hbk hfr hv HRd HWr
    try simp only [List.length_nil] at HY
    go_enter Tryd.func3, Tryd.ntmps3
    go_wp2_with fail
    refine HY.out.mono ?_
    rintro e w1 ⟨a1, c1, rfl, hc1, hm1, hA1, hb1⟩
    have HE := Lib.hid (PlE.new (p := (p : Int)) (c := c) hA1 hb1)
    obtain ⟨B, hB⟩ : ∃ B, w1.heap.size = B := ⟨_, rfl⟩
    obtain ⟨wr, hw2⟩ : ∃ w2, w1.alloc (.cells #[.int .i64 (p : Int), .int .i64 c] 26) = w2 := ⟨_, rfl⟩
    rw [hw2, hB] at HE
    have f1 := HE.out.f1
    clear hA1 hb1 HY
    go_wp2_with fail
    refine (HAl.out _ HE.out.bel).mono ?_
    rintro e w5 ⟨rfl, hb5⟩
    have HB5 := Lib.hid (HE.out.bel.trans (hb5.mono HE.out.bel.size))
    clear hb5 f1
    go_wp2
    go_ret
    exact ⟨ret_b (by first | rfl | simp), HB5.out⟩
end Go.Proofs.YtbnddpicpomakaaDoor

/- Go's tables of UTF-8, out of what the card lists. -/
set_option linter.unusedSimpArgs false
set_option linter.unusedVariables false
set_option maxRecDepth 100000
namespace Go.Proofs.YtbnddpicpomakaaDoor
open Go Go.Lib Go.Shelf

theorem tabs_of {P : Program} {ρ : Ren} (L : Lays.n196 P ρ) {nm3 nm4 : String} (n3 : P.globalNamed nm3 = some (ρ.g 3)) (n4 : P.globalNamed nm4 = some (ρ.g 4)) (y3 : (P.globals[ρ.g 3]?).map (·.type) = some (ρ.t 119)) (y4 : (P.globals[ρ.g 4]?).map (·.type) = some (ρ.t 139))
    (c5 : P.cellsOf (ρ.t 5) = 1) (c119 : P.cellsOf (ρ.t 119) = 256) (c138 : P.cellsOf (ρ.t 138) = 2) {w : World} (h3 : VarReads P w nm3 firstData) (h4 : VarReads P w nm4 acceptData) : Lib.Utf8Tabs (ρ.g 3) (ρ.g 4) w := by
  refine ⟨fun c hc => ?_, fun i hi => ?_⟩
  · obtain ⟨g, t, cs, fuel, p, hg, hty, hvar, hd⟩ := h3
    obtain rfl := Option.some.inj (n3.symm.trans hg)
    obtain rfl := Option.some.inj (y3.symm.trans hty)
    have hcs := cells_of_tab L.t119 L.t5 c5 c119 hd
    have := World.var?_cell hg hvar c
    rw [this, ← Array.getElem?_toList, hcs]
    simp [firstTab, hc]
  · obtain ⟨g, t, cs, fuel, p, hg, hty, hvar, hd⟩ := h4
    obtain rfl := Option.some.inj (n4.symm.trans hg)
    obtain rfl := Option.some.inj (y4.symm.trans hty)
    obtain ⟨fuel', d, q, hdi, he⟩ := array_elem L.t139 hd i hi
    simp only [List.getElem?_map, List.getElem?_range hi, Option.map_some, Option.some.injEq] at hdi
    subst hdi
    rw [c138] at he
    have hcs := ints_of_struct L.t138 (fun j f hj => by
      match j, hj with
      | 0, hj => simp at hj; subst hj; exact ⟨L.t5, rfl, c5⟩
      | 1, hj => simp at hj; subst hj; exact ⟨L.t5, rfl, c5⟩
      | j + 2, hj => simp at hj) (by rw [c138]; rfl) he
    have e0 := congrArg (·[0]?) hcs
    have e1 := congrArg (·[1]?) hcs
    simp only [List.getElem?_take, List.getElem?_drop] at e0 e1
    constructor
    · rw [World.var?_cell hg hvar (2 * i), ← Array.getElem?_toList]
      simpa [Nat.mul_comm] using e0
    · rw [World.var?_cell hg hvar (2 * i + 1), ← Array.getElem?_toList]
      simpa [Nat.mul_comm] using e1

theorem first_eq : Rows.laid_unicode_utf8_first = firstData := Pinned.utf8First_eq
theorem accept_eq : (Rows.laid_unicode_utf8_acceptRanges : DataW Unit) = acceptData := by kernel_rfl

/-- The two tables, where the listed variables read as the card has them. -/
theorem tabs_laid {l : List (String × DataW Unit)} {w : World} (h : laidMet Tryd.prog l w) {nm3 nm4 : String} (m3 : (nm3, Rows.laid_unicode_utf8_first) ∈ l) (m4 : (nm4, (Rows.laid_unicode_utf8_acceptRanges : DataW Unit)) ∈ l)
    (n3 : Tryd.prog.globalNamed nm3 = some (Tryd.laysValid_ren.g 3)) (n4 : Tryd.prog.globalNamed nm4 = some (Tryd.laysValid_ren.g 4)) : Tabs w :=
  tabs_of Tryd.laysValid n3 n4 (by kernel_rfl) (by kernel_rfl) (by kernel_rfl) (by kernel_rfl) (by kernel_rfl) (first_eq ▸ Lib.laidMet.reads h m3) (accept_eq ▸ Lib.laidMet.reads h m4)
end Go.Proofs.YtbnddpicpomakaaDoor

/- What the package's variables hold, out of what the card lists; and the wrap that hands the world's shape too. -/
set_option linter.unusedSimpArgs false
set_option linter.unusedVariables false
set_option maxRecDepth 100000
namespace Go.Proofs.YtbnddpicpomakaaDoor
set_option linter.unusedSimpArgs false
open Go Go.Lib Go.Shelf Go.RowKit Go.ChangeShapes

theorem star5 : "*" ++ "errors.errorString" = "*errors.errorString" := by decide
theorem row5 (u : TypeId) (h : Tryd.prog.typeName? 3 u = some "*errors.errorString") : u = 150 :=
  typeName_ptr_named (nm := "errors.errorString") (by rw [star5]; kernel_rfl) (by kernel_rfl) (by decide) u (by rw [star5]; exact h)

theorem pow_eq : Rows.laid_internal_strconv_uint64pow10 = tabData (H := Unit) .u64 Lib.pow10Tab := by kernel_rfl

theorem pow_reads {P : Program} {w : World} {nm : String} {t e : TypeId} {g : Nat} (hg : P.globalNamed nm = some g) (hty : (P.globals[g]?).map (·.type) = some t) (ht : P.underlying t = some (.array 20 e)) (he : P.underlying e = some (.int .u64)) (hce : P.cellsOf e = 1) (hct : P.cellsOf t = 20)
    (h : VarReads P w nm (tabData .u64 Lib.pow10Tab)) : Lib.TabIs P w nm .u64 Lib.pow10Tab := by
  obtain ⟨g', t', cs, fuel, p, hg', ht', hvar, hd⟩ := h
  obtain rfl := Option.some.inj (hg.symm.trans hg')
  obtain rfl := Option.some.inj (hty.symm.trans ht')
  unfold TabIs
  rw [hvar, ← cells_of_tab ht he hce hct hd]

theorem pre4_laid {l : List (String × DataW Unit)} {w : World} (h : laidMet Tryd.prog l w) (hsh : w.ShapedOpen Tryd.prog) {nm3 nm4 : String} (m2 : (powName, Rows.laid_internal_strconv_uint64pow10) ∈ l) (m3 : (nm3, Rows.laid_unicode_utf8_first) ∈ l) (m4 : (nm4, (Rows.laid_unicode_utf8_acceptRanges : DataW Unit)) ∈ l)
    (n3 : Tryd.prog.globalNamed nm3 = some (Tryd.laysValid_ren.g 3)) (n4 : Tryd.prog.globalNamed nm4 = some (Tryd.laysValid_ren.g 4)) : Pre4 w where
  tabs := tabs_laid h m3 m4 n3 n4
  maxlen := Tryd.laysRepl.s1_3 w hsh
  pow := pow_reads (g := (Tryd.prog.globalNamed powName).getD 0) (t := 140) (e := 113) (by kernel_rfl) (by kernel_rfl) Tryd.underlying140 Tryd.underlying113 (by kernel_rfl) (by kernel_rfl) (pow_eq ▸ Lib.laidMet.reads h m2)

theorem pre5_laid {x0 x1 x5 : String × DataW Unit} {nm3 nm4 nm5 : String} {r : List (String × DataW Unit)} {w : World} (h : laidMet Tryd.prog (x0 :: x1 :: (powName, Rows.laid_internal_strconv_uint64pow10) :: (nm4, (Rows.laid_unicode_utf8_acceptRanges : DataW Unit)) :: (nm5, Rows.laid_strconv_ErrRange) :: x5 :: (nm3, Rows.laid_unicode_utf8_first) :: r) w) (hsh : w.ShapedOpen Tryd.prog)
    (n3 : Tryd.prog.globalNamed nm3 = some (Tryd.laysValid_ren.g 3)) (n4 : Tryd.prog.globalNamed nm4 = some (Tryd.laysValid_ren.g 4)) (n5 : Tryd.prog.globalNamed nm5 = some (Tryd.laysParse_ren.g 16)) : Pre5 w where
  toPre4 := pre4_laid h hsh (List.Mem.tail _ (List.Mem.tail _ (List.Mem.head _))) (List.Mem.tail _ (List.Mem.tail _ (List.Mem.tail _ (List.Mem.tail _ (List.Mem.tail _ (List.Mem.tail _ (List.Mem.head _))))))) (List.Mem.tail _ (List.Mem.tail _ (List.Mem.tail _ (List.Mem.head _)))) n3 n4
  rng := by
    obtain ⟨a, s, hv, _⟩ := laid_sentinel h.tail.tail.tail.tail (g := Tryd.laysParse_ren.g 16) (ti := 85) (tp := 150) (te := 152) (ts := 9) n5 (by kernel_rfl) Tryd.underlying85 row5 Tryd.underlying150 Tryd.underlying152 rfl rfl Tryd.underlying9 (by kernel_rfl) (by kernel_rfl)
    exact ⟨_, by simpa using World.var?_cell n5 hv 0, .inr ⟨_, _, rfl⟩⟩

section
variable {H : Type} {enc : TypeId × Value → H}

/-- As the wrap of a row with a premise of its own; it hands the contract the world's shape too. -/
theorem handed_change_shaped {a : Assume} {C : Checked} {os : Os} {f : FuncId} {fn : Func} {s : ChangeSpec} {conds : List PathCond} {apart fresh handsOn again : Bool} {X : World → Array Value → Prop}
    (hX : ∀ (w w' : World) (args : Array Value), w.heap = w'.heap → X w args → X w' args)
    (own : ownKnob C.prog.godebug = none) (started : os.Started) (noInit : C.prog.inits.idxOf? f = none) (hfn : C.prog.funcs[f]? = some fn)
    (witness : ∃ (w : World) (tape : Tape) (i : Input), w.os = os ∧ (w.forCall tape i).Shaped C.prog ∧ i.vars = [] ∧ Input.okWide C.prog (w.forCall tape i) .any w.heap.size f i ∧
      ((s.pre enc C.prog fn conds apart (w.forCall tape i).memory i.args ∧ X (w.forCall tape i).memory i.args) ∧ sizedMet enc C.prog fn (OpenSpec.ofChange s) apart (w.forCall tape i).memory i.args) ∧ a.holds C.prog (lone (Frame.enter C.prog f i.args .normal) [] (w.forCall tape i)))
    (contract : ∀ (W : World) (base : Nat) (args : Array Value) (ds gs : List (DataW H)) (before : List MemPlace),
      (∀ (j : Nat) t v, fn.params[j]? = some t → args[j]? = some v → Value.okWide C.prog W .any base t v) →
      DataW.Whole enc C.prog fn.params.toList s.vars apart W args.toList ds gs before →
      conds.all (PathCond.test C.prog ⟨fn.params.toList, ds, s.plain.varTypes C.prog, gs⟩) = true →
      (DataW.weightsEach C.prog (fn.params.toList ++ s.plain.varTypes C.prog) (ds ++ gs)).all (· ≤ reachBytes) = true → X W args → W.ShapedOpen C.prog →
      a.holds C.prog (lone (Frame.enter C.prog f args .normal) [] W) →
      Calls C.prog f args W fun e W' => ∃ v, e = .returned v ∧ s.post enc C.prog fn apart fresh handsOn again W args v W') :
    ReturnsInHanded a C os f .any (fun w args => (s.pre enc C.prog fn conds apart w args ∧ X w args) ∧ sizedMet enc C.prog fn (OpenSpec.ofChange s) apart w args) (s.post enc C.prog fn apart fresh handsOn again) := by
  refine returnsInHanded_of_calls own started noInit witness ?_
  intro w tape i _ hsh _ hok hpre hholds
  obtain ⟨_, _, _, fn', hfn', _, _, _, _, hval⟩ := hok
  have e : fn' = fn := Option.some.inj (hfn'.symm.trans hfn)
  subst e
  obtain ⟨⟨⟨ds, gs, before, hw, hc⟩, hx⟩, hz⟩ := hpre
  have hw' := DataW.Whole.of_heap (w' := w.forCall tape i) (by rfl) hw
  refine (contract (w.forCall tape i) w.heap.size i.args ds gs before hval hw' hc (hz.weights hw) (hX _ _ _ (by rfl) hx) hsh hholds).mono fun e W' ⟨v, he, hp⟩ => ?_
  subst he
  exact ChangeSpec.post_blind hp
end
end Go.Proofs.YtbnddpicpomakaaDoor

/- The package's variables for token's laws. -/
set_option linter.unusedSimpArgs false
set_option linter.unusedVariables false
set_option maxRecDepth 100000
namespace Go.Proofs.YtbnddpicpomakaaDoor
open Go Go.Lib Go.Shelf Go.RowKit Go.ChangeShapes

theorem pre6_laid {x0 x1 : String × DataW Unit} {nm3 nm4 nm5 nm6 : String} {r : List (String × DataW Unit)} {w : World} (h : laidMet Tryd.prog (x0 :: x1 :: (powName, Rows.laid_internal_strconv_uint64pow10) :: (nm4, (Rows.laid_unicode_utf8_acceptRanges : DataW Unit)) :: (nm5, Rows.laid_strconv_ErrRange) :: (nm6, Rows.laid_strconv_ErrSyntax) :: (nm3, Rows.laid_unicode_utf8_first) :: r) w) (hsh : w.ShapedOpen Tryd.prog)
    (n3 : Tryd.prog.globalNamed nm3 = some (Tryd.laysValid_ren.g 3)) (n4 : Tryd.prog.globalNamed nm4 = some (Tryd.laysValid_ren.g 4)) (n5 : Tryd.prog.globalNamed nm5 = some (Tryd.laysParse_ren.g 16)) (n6 : Tryd.prog.globalNamed nm6 = some (Tryd.laysTo_ren.g 15)) : Pre6 w where
  toPre5 := pre5_laid h hsh n3 n4 n5
  syn := by
    obtain ⟨a, s, hv, _⟩ := laid_sentinel h.tail.tail.tail.tail.tail (g := Tryd.laysTo_ren.g 15) (ti := 85) (tp := 150) (te := 152) (ts := 9) n6 (by kernel_rfl) Tryd.underlying85 row5 Tryd.underlying150 Tryd.underlying152 rfl rfl Tryd.underlying9 (by kernel_rfl) (by kernel_rfl)
    exact ⟨_, by simpa using World.var?_cell n6 hv 0, .inr ⟨_, _, rfl⟩⟩
end Go.Proofs.YtbnddpicpomakaaDoor
