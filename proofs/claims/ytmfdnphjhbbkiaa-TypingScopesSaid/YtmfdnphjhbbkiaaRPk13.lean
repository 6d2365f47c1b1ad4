/- Several texts of one proof, one behind the other. -/
import Derived.Test.YtmfdnphjhbbkiaaRPk12
set_option linter.unusedSimpArgs false
set_option linter.unusedVariables false

/- The walks of Reserved, isBinary, isAggregate. -/
set_option linter.unusedSimpArgs false
set_option linter.unusedVariables false
set_option maxRecDepth 100000
namespace Go.Proofs.Ytmfdnphjhbbkiaa
open Go.RowKit

set_option maxHeartbeats 4000000 in
theorem isAgg_any (s : ByteArray) (w : World) : Calls Try.prog 50 #[.string s] w fun e w' => e = .returned (.bool (inL aggL s)) ∧ w = w' := by
  obtain ⟨b, hb⟩ : ∃ b, inL aggL s = b := ⟨_, rfl⟩
  rw [hb]
  have HB := Lib.hid hb
  clear hb
  go_enter Try.func50, Try.ntmps50
  go_wp2
  all_goals
    go_ret
    exact ⟨ret_b (by rw [← HB.out]; clear HB; simp_all [inL, aggL]), rfl⟩

set_option maxHeartbeats 4000000 in
theorem isBin_any (s : ByteArray) (w : World) : Calls Try.prog 49 #[.string s] w fun e w' => e = .returned (.bool (inL binL s)) ∧ w = w' := by
  obtain ⟨b, hb⟩ : ∃ b, inL binL s = b := ⟨_, rfl⟩
  rw [hb]
  have HB := Lib.hid hb
  clear hb
  go_enter Try.func49, Try.ntmps49
  go_wp2
  all_goals
    go_ret
    exact ⟨ret_b (by rw [← HB.out]; clear HB; simp_all [inL, binL]), rfl⟩

set_option maxHeartbeats 16000000 in
theorem Reserved_any (s : ByteArray) (w : World) : Calls Try.prog 48 #[.string s] w fun e w' => e = .returned (.bool (resB s)) ∧ w = w' := by
  obtain ⟨b, hb⟩ : ∃ b, resB s = b := ⟨_, rfl⟩
  rw [hb]
  have HB := Lib.hid hb
  clear hb
  go_enter Try.func48, Try.ntmps48
  go_wp2
  all_goals
    go_ret
    exact ⟨ret_b (by rw [← HB.out]; clear HB; simp_all [resB, resL]), rfl⟩
end Go.Proofs.Ytmfdnphjhbbkiaa

/- The walks of isName, takes and valid. -/
set_option linter.unusedSimpArgs false
set_option linter.unusedVariables false
set_option maxRecDepth 100000
namespace Go.Proofs.Ytmfdnphjhbbkiaa
open Go.RowKit

/-- A block of the call's own with eight cells. -/
structure Slot8 (W : World) (B : Nat) (v0 v1 v2 v3 v4 v5 v6 v7 : Value) : Prop where
  c0 : W.cell? ⟨B, 0, none⟩ = some v0
  c1 : W.cell? ⟨B, 1, none⟩ = some v1
  c2 : W.cell? ⟨B, 2, none⟩ = some v2
  c3 : W.cell? ⟨B, 3, none⟩ = some v3
  c4 : W.cell? ⟨B, 4, none⟩ = some v4
  c5 : W.cell? ⟨B, 5, none⟩ = some v5
  c6 : W.cell? ⟨B, 6, none⟩ = some v6
  c7 : W.cell? ⟨B, 7, none⟩ = some v7
theorem Slot8.new (w : World) (T : TypeId) (v0 v1 v2 v3 v4 v5 v6 v7 : Value) : Slot8 (w.alloc (.cells #[v0, v1, v2, v3, v4, v5, v6, v7] T)) w.heap.size v0 v1 v2 v3 v4 v5 v6 v7 :=
  ⟨by simp, by simp, by simp, by simp, by simp, by simp, by simp, by simp⟩
theorem Slot8.later {W W' : World} {B N : Nat} {v0 v1 v2 v3 v4 v5 v6 v7 : Value} (h : Slot8 W B v0 v1 v2 v3 v4 v5 v6 v7) (hB : B < N) (hb : Below N W W') : Slot8 W' B v0 v1 v2 v3 v4 v5 v6 v7 :=
  ⟨(hb.cell (p := ⟨B, 0, none⟩) hB).trans h.c0, (hb.cell (p := ⟨B, 1, none⟩) hB).trans h.c1, (hb.cell (p := ⟨B, 2, none⟩) hB).trans h.c2, (hb.cell (p := ⟨B, 3, none⟩) hB).trans h.c3, (hb.cell (p := ⟨B, 4, none⟩) hB).trans h.c4, (hb.cell (p := ⟨B, 5, none⟩) hB).trans h.c5, (hb.cell (p := ⟨B, 6, none⟩) hB).trans h.c6, (hb.cell (p := ⟨B, 7, none⟩) hB).trans h.c7⟩
theorem box8 (w : World) (o : Obj) : w.heap.size < (w.alloc o).heap.size := by simp
/-- The cells by name. -/
theorem XM.v_eq (x : XM) : x.v = .agg #[.int .i64 x.t.lab.kd, .int .u8 x.t.lab.v.k, .int .i64 x.t.lab.v.n, .string x.t.lab.v.s, .string x.t.lab.tb, .string x.t.lab.nm, .string x.t.lab.op, .slice x.a x.t.args.length x.cap] := rfl

theorem isX_eq (s : ByteArray) : isX s = (decide ((nameV s).2 = 0) && decide ((nameV s).1 = s) && !resB s) := rfl

set_option maxHeartbeats 2000000 in
theorem xName_any (s : ByteArray) (w : World) (hs : s.size ≤ 140737488351232) :
    Calls Try.prog 41 #[.string s] w fun e w' => e = .returned (.bool (isX s)) ∧ Below w.heap.size w w' := by
  have HN := Lib.hid (fun W => Name_any s W (by omega))
  have HR := Lib.hid (fun W => Reserved_any s W)
  rw [isX_eq]
  generalize nameV s = X at *
  generalize resB s = r at *
  obtain ⟨x, q⟩ := X
  simp only at HN ⊢
  by_cases hq : q = 0
  · subst hq
    by_cases hx : x = s
    · subst hx
      go_enter Try.func41, Try.ntmps41
      go_wp2_with fail
      refine (HN.out _).mono ?_
      rintro e w1 ⟨rfl, hb⟩
      go_wp2_with fail
      refine (HR.out _).mono ?_
      rintro e w2 ⟨rfl, rfl⟩
      go_wp2
      go_ret
      exact ⟨by simp, hb⟩
    · have hb : (x.toList == s.toList) = false := by rw [beq_eq_false_iff_ne]; exact fun h => hx (toList_inj h)
      have hx2 : decide (x = s) = false := decide_eq_false hx
      rw [hx2]
      clear hx hx2
      go_enter Try.func41, Try.ntmps41
      go_wp2_with fail
      refine (HN.out _).mono ?_
      rintro e w1 ⟨rfl, hb⟩
      go_wp2
      go_ret
      exact ⟨by simp, hb⟩
  · have h2 : (q == 0) = false := by simpa using hq
    go_enter Try.func41, Try.ntmps41
    go_wp2_with fail
    refine (HN.out _).mono ?_
    rintro e w1 ⟨rfl, hb⟩
    go_wp2
    go_ret
    exact ⟨ret_b (by simp [hq]), hb⟩

set_option maxHeartbeats 4000000 in
theorem takes_any (k : Int) (op : ByteArray) (n : Nat) (w : World) :
    Calls Try.prog 42 #[.int .i64 k, .string op, .int .i64 (n : Int)] w fun e w' => e = .returned (.bool (takesB k op n)) ∧ w = w' := by
  have HBin := Lib.hid (fun W => isBin_any op W)
  have HAgg := Lib.hid (fun W => isAgg_any op W)
  obtain ⟨b, hb⟩ : ∃ b, takesB k op n = b := ⟨_, rfl⟩
  rw [hb]
  by_cases k3 : k = 3
  · subst k3
    have HB := Lib.hid hb
    clear hb HBin HAgg
    by_cases hn : n = 1
    · subst hn
      go_enter Try.func42, Try.ntmps42
      go_wp2
      all_goals
        go_ret
        exact ⟨ret_b (by rw [← HB.out]; clear HB; simp_all [takesB, inL, unL]), rfl⟩
    · have q1 : ((n : Int) == 1) = false := by simp; omega
      go_enter Try.func42, Try.ntmps42
      go_wp2
      go_ret
      exact ⟨ret_b (by rw [← HB.out]; simp [takesB, hn]), rfl⟩
  by_cases k4 : k = 4
  · subst k4
    have HB := Lib.hid hb
    clear hb HAgg k3
    by_cases hn : n = 2
    · subst hn
      go_enter Try.func42, Try.ntmps42
      go_wp2_with fail
      refine (HBin.out _).mono ?_
      rintro e w1 ⟨rfl, rfl⟩
      go_wp2
      go_ret
      exact ⟨ret_b (by rw [← HB.out]; simp [takesB]), rfl⟩
    · have q1 : ((n : Int) == 2) = false := by simp; omega
      go_enter Try.func42, Try.ntmps42
      go_wp2
      go_ret
      exact ⟨ret_b (by rw [← HB.out]; simp [takesB, hn]), rfl⟩
  by_cases k5 : k = 5
  · subst k5
    have HB := Lib.hid hb
    clear hb HAgg HBin k3 k4
    by_cases hn : n = 1
    · subst hn
      go_enter Try.func42, Try.ntmps42
      go_wp2
      all_goals
        go_ret
        exact ⟨ret_b (by rw [← HB.out]; clear HB; simp_all [takesB, inL, nullL]), rfl⟩
    · have q1 : ((n : Int) == 1) = false := by simp; omega
      go_enter Try.func42, Try.ntmps42
      go_wp2
      go_ret
      exact ⟨ret_b (by rw [← HB.out]; simp [takesB, hn]), rfl⟩
  by_cases k6 : k = 6
  · subst k6
    have HB := Lib.hid hb
    clear hb HBin k3 k4 k5
    obtain ⟨g, hg⟩ : ∃ g, inL aggL op = g := ⟨_, rfl⟩
    rw [hg] at HAgg
    have HG := Lib.hid hg
    clear hg
    have hn : n = 0 ∨ n = 1 ∨ (n ≠ 0 ∧ n ≠ 1) := by omega
    rcases hn with rfl | rfl | ⟨hn0, hn1⟩
    · cases g <;>
      · go_enter Try.func42, Try.ntmps42
        go_wp2_with fail
        refine (HAgg.out _).mono ?_
        rintro e w1 ⟨rfl, rfl⟩
        go_wp2
        all_goals
          go_ret
          exact ⟨ret_b (by rw [← HB.out]; have h := HG.out; clear HB HG HAgg; simp_all [takesB, inL, countL]), rfl⟩
    · cases g <;>
      · go_enter Try.func42, Try.ntmps42
        go_wp2_with fail
        refine (HAgg.out _).mono ?_
        rintro e w1 ⟨rfl, rfl⟩
        go_wp2
        all_goals
          go_ret
          exact ⟨ret_b (by rw [← HB.out]; have h := HG.out; clear HB HG HAgg; simp_all [takesB, countL]), rfl⟩
    · have q0 : ((n : Int) == 0) = false := by simp; omega
      have q1 : ((n : Int) == 1) = false := by simp; omega
      cases g <;>
      · go_enter Try.func42, Try.ntmps42
        go_wp2_with fail
        refine (HAgg.out _).mono ?_
        rintro e w1 ⟨rfl, rfl⟩
        go_wp2
        all_goals
          go_ret
          exact ⟨ret_b (by rw [← HB.out]; have h := HG.out; clear HB HG HAgg; simp_all [takesB]), rfl⟩
  by_cases k7 : k = 7
  · subst k7
    have HB := Lib.hid hb
    clear hb HBin HAgg k3 k4 k5 k6
    have hn : n = 4 ∨ n = 1 ∨ (n ≠ 4 ∧ n ≠ 1) := by omega
    rcases hn with rfl | rfl | ⟨hn0, hn1⟩
    · go_enter Try.func42, Try.ntmps42
      go_wp2
      all_goals
        go_ret
        exact ⟨ret_b (by rw [← HB.out]; clear HB; simp_all [takesB, inL, callL, lenL]), rfl⟩
    · go_enter Try.func42, Try.ntmps42
      go_wp2
      all_goals
        go_ret
        exact ⟨ret_b (by rw [← HB.out]; clear HB; simp_all [takesB, inL, callL, lenL]), rfl⟩
    · have q0 : ((n : Int) == 4) = false := by simp; omega
      have q1 : ((n : Int) == 1) = false := by simp; omega
      go_enter Try.func42, Try.ntmps42
      go_wp2
      all_goals
        go_ret
        exact ⟨ret_b (by rw [← HB.out]; clear HB; simp_all [takesB, inL, callL, lenL]), rfl⟩
  · have HB := Lib.hid hb
    have q3 : (k == 3) = false := by simpa using k3
    have q4 : (k == 4) = false := by simpa using k4
    have q5 : (k == 5) = false := by simpa using k5
    have q6 : (k == 6) = false := by simpa using k6
    have q7 : (k == 7) = false := by simpa using k7
    have hf : takesB k op n = false := by unfold takesB; simp [k3, k4, k5, k6, k7]
    have hbf : b = false := by rw [← hb, hf]
    subst hbf
    clear hb HBin HAgg hf k3 k4 k5 k6 k7 HB
    go_enter Try.func42, Try.ntmps42
    go_wp2
    go_ret
    exact ⟨rfl, rfl⟩

set_option maxHeartbeats 4000000 in
theorem valid_any (x : XM) (w : World) (hF : x.t.lab.fair) :
    Calls Try.prog 34 #[x.v] w fun e w' => e = .returned (.bool (x.t.lab.ok x.t.args.length)) ∧ Below w.heap.size w w' := by
  rw [XM.v_eq]
  obtain ⟨⟨⟨kd, ⟨vk, vn, vs⟩, tb, nm, op⟩, args⟩, a, cap⟩ := x
  simp only [Rose.lab, Rose.args] at hF ⊢
  have hvk := hF.k
  have hvn := hF.n
  have HN := Lib.hid (fun W => xName_any nm W hF.nm)
  have HT := Lib.hid (fun W => xName_any tb W hF.tb)
  have HR := Lib.hid (fun W => right_any vk vn vs W)
  generalize args.length = n at *
  have HTk := Lib.hid (fun W => takes_any kd op n W)
  have HX := Lib.hid (Slot8.new w 54 (.int .i64 kd) (.int .u8 vk) (.int .i64 vn) (.string vs) (.string tb) (.string nm) (.string op) (.slice a n cap))
  have HB0 : Hid (∀ o, Below w.heap.size w (w.alloc o)) := fun o => (Below.refl _ w).alloc (Nat.le_refl _) _
  obtain ⟨b, hb⟩ : ∃ b, Lb.ok ⟨kd, ⟨vk, vn, vs⟩, tb, nm, op⟩ n = b := ⟨_, rfl⟩
  rw [hb]
  clear hF
  simp only [Lb.ok, Vl.zeroB] at hb
  by_cases k1 : kd = 1
  · subst k1
    generalize Vl.right ⟨vk, vn, vs⟩ = r at *
    have HB := Lib.hid hb
    clear hb HN HT HTk
    cases r with
    | false =>
      go_enter Try.func34, Try.ntmps34
      go_wp2_with fail
      refine (HR.out _).mono ?_
      rintro e w1 ⟨rfl, hb1⟩
      have HB1 := Lib.hid ((HB0.out _).trans (hb1.mono (Nat.le_of_lt (box8 _ _))))
      obtain ⟨x0, x1, x2, x3, x4, x5, x6, x7⟩ := HX.out.later (box8 _ _) hb1
      clear hb1
      go_wp2
      all_goals
        go_ret
        exact ⟨ret_b (by rw [← HB.out]; simp), HB1.out⟩
    | true =>
      go_enter Try.func34, Try.ntmps34
      go_wp2_with fail
      refine (HR.out _).mono ?_
      rintro e w1 ⟨rfl, hb1⟩
      have HB1 := Lib.hid ((HB0.out _).trans (hb1.mono (Nat.le_of_lt (box8 _ _))))
      obtain ⟨x0, x1, x2, x3, x4, x5, x6, x7⟩ := HX.out.later (box8 _ _) hb1
      clear hb1
      go_wp2
      all_goals
        go_ret
        exact ⟨ret_b (by rw [← HB.out]; clear HB; first | (simp_all; done) | (simp_all; intros; omega)), HB1.out⟩
  by_cases k2 : kd = 2
  · subst k2
    generalize isX nm = rn at *
    generalize isX tb = rt at *
    have HB := Lib.hid hb
    clear hb HR HTk k1
    cases rn with
    | false =>
      go_enter Try.func34, Try.ntmps34
      go_wp2_with fail
      refine (HN.out _).mono ?_
      rintro e w1 ⟨rfl, hb1⟩
      have HB1 := Lib.hid ((HB0.out _).trans (hb1.mono (Nat.le_of_lt (box8 _ _))))
      obtain ⟨x0, x1, x2, x3, x4, x5, x6, x7⟩ := HX.out.later (box8 _ _) hb1
      clear hb1
      go_wp2
      all_goals
        go_ret
        exact ⟨ret_b (by rw [← HB.out]; clear HB; first | (simp_all; done) | (simp_all; intros; omega)), HB1.out⟩
    | true =>
      by_cases ht : tb.toList = []
      · have ht2 : tb.toList.isEmpty = true := by rw [ht]; rfl
        clear HT
        go_enter Try.func34, Try.ntmps34
        go_wp2_with fail
        refine (HN.out _).mono ?_
        rintro e w1 ⟨rfl, hb1⟩
        have HB1 := Lib.hid ((HB0.out _).trans (hb1.mono (Nat.le_of_lt (box8 _ _))))
        obtain ⟨x0, x1, x2, x3, x4, x5, x6, x7⟩ := HX.out.later (box8 _ _) hb1
        clear hb1
        rw [ht2] at HB
        go_wp2
        all_goals
          go_ret
          exact ⟨ret_b (by rw [← HB.out]; clear HB; first | (simp_all; done) | (simp_all; intros; omega)), HB1.out⟩
      · have ht2 : tb.toList.isEmpty = false := by simpa using ht
        have ht3 : (!tb.toList.isEmpty) = true := by rw [ht2]; rfl
        cases rt <;>
        · go_enter Try.func34, Try.ntmps34
          go_wp2_with fail
          refine (HN.out _).mono ?_
          rintro e w1 ⟨rfl, hb1⟩
          have HB1 := Lib.hid ((HB0.out _).trans (hb1.mono (Nat.le_of_lt (box8 _ _))))
          have HX1 := Lib.hid (HX.out.later (box8 _ _) hb1)
          have hs1 := Nat.lt_of_lt_of_le (box8 w (.cells #[.int .i64 2, .int .u8 vk, .int .i64 vn, .string vs, .string tb, .string nm, .string op, .slice a n cap] 54)) hb1.size
          obtain ⟨x0, x1, x2, x3, x4, x5, x6, x7⟩ := HX1.out
          clear hb1
          go_wp2_with fail
          refine (HT.out _).mono ?_
          rintro e w2 ⟨rfl, hb2⟩
          have HB2 := Lib.hid (HB1.out.trans (hb2.mono HB1.out.size))
          clear x0 x1 x2 x3 x4 x5 x6 x7
          obtain ⟨x0, x1, x2, x3, x4, x5, x6, x7⟩ := HX1.out.later hs1 hb2
          clear hb2 hs1
          go_wp2
          all_goals
            go_ret
            exact ⟨ret_b (by rw [← HB.out]; clear HB; first | (simp_all; done) | (simp_all; intros; omega)), HB2.out⟩
  · have q1 : (kd == 1) = false := by simpa using k1
    have q2 : (kd == 2) = false := by simpa using k2
    rw [if_neg k1, if_neg k2] at hb
    generalize takesB kd op n = r at *
    have HB := Lib.hid hb
    clear hb HR HN HT k1 k2
    cases r with
    | false =>
      go_enter Try.func34, Try.ntmps34
      go_wp2_with fail
      refine (HTk.out _).mono ?_
      rintro e w1 ⟨rfl, rfl⟩
      have HB1 := Lib.hid (HB0.out (.cells #[.int .i64 kd, .int .u8 vk, .int .i64 vn, .string vs, .string tb, .string nm, .string op, .slice a n cap] 54))
      go_wp2
      all_goals
        go_ret
        exact ⟨ret_b (by rw [← HB.out]; clear HB; first | (simp_all; done) | (simp_all; intros; omega)), HB1.out⟩
    | true =>
      go_enter Try.func34, Try.ntmps34
      go_wp2_with fail
      refine (HTk.out _).mono ?_
      rintro e w1 ⟨rfl, rfl⟩
      go_wp2
      all_goals
        go_ret
        exact ⟨ret_b (by rw [← HB.out]; clear HB; first | (simp_all; done) | (simp_all; intros; omega)), HB0.out _⟩
end Go.Proofs.Ytmfdnphjhbbkiaa

/- Nodes (layer 22) as data and in memory; the walks of have, its closure, and of match and typeOf at a sum. -/
set_option linter.unusedSimpArgs false
set_option linter.unusedVariables false
set_option maxRecDepth 100000
namespace Go.Proofs.Ytmfdnphjhbbkiaa
open Go.RowKit

/-- All fields of a node but its arguments. -/
structure NLb where
  kd : Int
  op : ByteArray
  v : Vl
  sl : Int
  ty : Nat
  deriving DecidableEq
abbrev NM := RM NLb
def NLb.cells (l : NLb) : List Value := [.int .i64 l.kd, .string l.op, .int .u8 l.v.k, .int .i64 l.v.n, .string l.v.s, .int .i64 l.sl, .int .u8 (l.ty : Int)]
theorem NLb.cells_len (l : NLb) : l.cells.length = 7 := rfl
def cellsNd (x : NM) : List Value := cellsR NLb.cells x
theorem cellsNd_len (x : NM) : (cellsNd x).length = 8 := rfl
/-- A node by value. -/
abbrev ndV (x : NM) : Value := .agg #[.int .i64 x.t.lab.kd, .string x.t.lab.op, .int .u8 x.t.lab.v.k, .int .i64 x.t.lab.v.n, .string x.t.lab.v.s, .int .i64 x.t.lab.sl, .int .u8 (x.t.lab.ty : Int), .slice x.a x.t.args.length x.cap]
/-- The k-th node of a row. -/
theorem ndAt {N : Nat} {w : World} {a : Option Addr} {l : List NM} (h : Arr N w a (cellsOf cellsNd l)) {k : Nat} (hk : k < l.length) : ∃ b o, a = some ⟨b, o, none⟩ ∧ b < N ∧
    ∀ (j : Nat) (v : Value), (cellsNd l[k])[j]? = some v → w.cell? ⟨b, o + k * 8 + j, none⟩ = some v := by
  obtain ⟨b, o, ha, hb, hc⟩ := h.at_ (by intro h0; have := cellsOf_len cellsNd 8 (fun _ => rfl) l; rw [h0] at this; simp at this; omega)
  refine ⟨b, o, ha, hb, fun j v hv => ?_⟩
  have := hc _ _ (cellsOf_get cellsNd 8 (fun _ => rfl) l k j l[k] v (List.getElem?_eq_getElem hk) hv)
  rw [Nat.add_assoc]; exact this
def okTy (kind ty : Nat) : Bool := !(decide (ty ≠ kind) && decide (ty ≠ 0))

set_option maxHeartbeats 1000000 in
theorem have_clo (y : NM) (kind g : Nat) (W : World) (hg : W.cell? ⟨g, 0, none⟩ = some (.int .u8 (kind : Int))) :
    Calls Try.prog 44 #[ndV y, .pointer (some ⟨g, 0, none⟩)] W fun e w' => e = .returned (.bool (!okTy kind y.t.lab.ty)) ∧ Below W.heap.size W w' := by
  obtain ⟨⟨⟨kd, op, ⟨vk, vn, vs⟩, sl, ty⟩, args⟩, ya, yc⟩ := y
  simp only [ndV, Rose.lab, Rose.args]
  obtain ⟨n, hn⟩ : ∃ n, args.length = n := ⟨_, rfl⟩
  rw [hn]
  clear hn
  have HX := Lib.hid (Slot8.new W 57 (.int .i64 kd) (.string op) (.int .u8 vk) (.int .i64 vn) (.string vs) (.int .i64 sl) (.int .u8 (ty : Int)) (.slice ya n yc))
  obtain ⟨w0, hw0⟩ : ∃ w0, W.alloc (.cells #[.int .i64 kd, .string op, .int .u8 vk, .int .i64 vn, .string vs, .int .i64 sl, .int .u8 (ty : Int), .slice ya n yc] 57) = w0 := ⟨_, rfl⟩
  rw [hw0] at HX
  have hb0 : Below W.heap.size W w0 := by rw [← hw0]; exact (Below.refl _ W).alloc (Nat.le_refl _) _
  have hglt := World.block_lt_of_cell? _ _ hg
  have hg0 := (hb0.cell (p := ⟨g, 0, none⟩) hglt).trans hg
  have HB0 := Lib.hid hb0
  obtain ⟨x0, x1, x2, x3, x4, x5, x6, x7⟩ := HX.out
  have HR : Hid ((!okTy kind ty) = (((ty : Int) != (kind : Int)) && ((ty : Int) != 0))) := by
    show _ = _
    unfold okTy
    rw [Bool.eq_iff_iff]
    simp
    omega
  rw [HR.out]
  clear hb0 hg HX
  by_cases h1 : ty = kind
  · subst h1
    have q1 : ((ty : Int) != (ty : Int)) = false := by simp
    rw [q1]
    go_enter Try.func44, Try.ntmps44
    go_wp2
    go_ret
    exact ⟨rfl, HB0.out⟩
  · have q1 : ((ty : Int) != (kind : Int)) = true := by simp; omega
    have q2 : (ty != kind) = true := by simp; omega
    rw [q1]
    obtain ⟨b, hb⟩ : ∃ b, ((ty : Int) != 0) = b := ⟨_, rfl⟩
    have hb2 : (ty != 0) = b := by rw [← hb]; rw [Bool.eq_iff_iff]; simp
    rw [hb]
    go_enter Try.func44, Try.ntmps44
    go_wp2
    go_ret
    exact ⟨rfl, HB0.out⟩

set_option maxHeartbeats 2000000 in
theorem have_idx (L : List NM) (a : Option Addr) (cap kind g : Nat) (w : World) (h : Arr w.heap.size w a (cellsOf cellsNd L)) (hc : L.length ≤ cap) (hm : cap ≤ 9223372036854775807) (hg : w.cell? ⟨g, 0, none⟩ = some (.int .u8 (kind : Int))) :
    Calls Try.prog 51 #[.slice a L.length cap, .func (.func 44) #[] #[.pointer (some ⟨g, 0, none⟩)]] w fun e w' => ∃ r : Int, e = .returned (.int .i64 r) ∧ decide (0 ≤ r) = (!L.all (fun x => okTy kind x.t.lab.ty)) ∧ Below w.heap.size w w' := by
  have HA := Lib.hid h
  have HCl := Lib.hid (fun y V (hb : Below w.heap.size w V) => have_clo y kind g V ((hb.cell (p := ⟨g, 0, none⟩) (World.block_lt_of_cell? _ _ hg)).trans hg))
  obtain ⟨m, hmm⟩ : ∃ m, L.length = m := ⟨_, rfl⟩
  have HM := Lib.hid hmm
  rw [hmm] at hc ⊢
  clear h hmm hg
  go_enter Try.func51, Try.ntmps51
  go_wp2
  go_loopw [8] (fun i wr => ∃ k : Nat, k ≤ m ∧ i = .int .i64 k ∧ Hid ((L.take k).all (fun x => okTy kind x.t.lab.ty) = true) ∧ Hid (Below w.heap.size w wr)) (fun i _ => m - (intOf i).toNat)
  case atStart => exact ⟨0, by omega, rfl, by simp [Hid], Below.refl _ _⟩
  case round =>
    obtain ⟨k, hk, rfl, HI, HBr⟩ := hrel
    by_cases hlt : k < m
    · have hkl : k < L.length := by rw [HM.out]; exact hlt
      obtain ⟨b, o, hab, hbN, hKid⟩ := ndAt ((HA.out.below HBr.out).mono HBr.out.size) hkl
      have HTk : Hid ((L.take (k + 1)).all (fun x => okTy kind x.t.lab.ty) = okTy kind L[k].t.lab.ty) := by
        rw [List.take_succ_eq_append_getElem hkl, List.all_append, HI.out]; simp [Hid]
      have HTf : Hid (okTy kind L[k].t.lab.ty = false → L.all (fun x => okTy kind x.t.lab.ty) = false) := fun hf => by
        rw [List.all_eq_false]; exact ⟨_, List.getElem_mem hkl, by rw [hf]; simp⟩
      have HY := Lib.hid (HCl.out L[k] wr HBr.out)
      generalize L[k] = y at *
      subst hab
      have y0 : wr.cell? ⟨b, o + k * 8, none⟩ = some (.int .i64 y.t.lab.kd) := hKid 0 _ rfl
      have y1 : wr.cell? ⟨b, o + k * 8 + 1, none⟩ = some (.string y.t.lab.op) := hKid 1 _ rfl
      have y2 : wr.cell? ⟨b, o + k * 8 + 2, none⟩ = some (.int .u8 y.t.lab.v.k) := hKid 2 _ rfl
      have y3 : wr.cell? ⟨b, o + k * 8 + 3, none⟩ = some (.int .i64 y.t.lab.v.n) := hKid 3 _ rfl
      have y4 : wr.cell? ⟨b, o + k * 8 + 4, none⟩ = some (.string y.t.lab.v.s) := hKid 4 _ rfl
      have y5 : wr.cell? ⟨b, o + k * 8 + 5, none⟩ = some (.int .i64 y.t.lab.sl) := hKid 5 _ rfl
      have y6 : wr.cell? ⟨b, o + k * 8 + 6, none⟩ = some (.int .u8 (y.t.lab.ty : Int)) := hKid 6 _ rfl
      have y7 : wr.cell? ⟨b, o + k * 8 + 7, none⟩ = some (.slice y.a y.t.args.length y.cap) := hKid 7 _ rfl
      generalize okTy kind y.t.lab.ty = d at *
      have q0 : decide ((k : Int) < (m : Int)) = true := by simp; omega
      clear hKid HA hkl HI HCl hbN
      go_wp2_with fail
      refine HY.out.mono ?_
      rintro e w2 ⟨rfl, hb2⟩
      have HB2 := Lib.hid (HBr.out.trans (hb2.mono HBr.out.size))
      clear hb2 HY y0 y1 y2 y3 y4 y5 y6 y7
      cases d with
      | true =>
        go_wp2
        go_roundw
        case rel => exact ⟨k + 1, by omega, by go_num, HTk.out, HB2.out⟩
        case measure => simp [intOf]; omega
      | false =>
        go_wp2
        go_ret
        exact ⟨k, rfl, by rw [HTf.out (by trivial)]; simp, HB2.out⟩
    · have q0 : decide ((k : Int) < (m : Int)) = false := by simp; omega
      have HT : Hid (L.all (fun x => okTy kind x.t.lab.ty) = true) := by
        have := HI.out
        rwa [show k = m by omega, ← HM.out, List.take_length] at this
      go_wp2
      go_ret
      exact ⟨-1, rfl, by rw [HT.out]; rfl, HBr.out⟩

set_option maxHeartbeats 1000000 in
theorem have_con (L : List NM) (a : Option Addr) (cap kind g : Nat) (w : World) (h : Arr w.heap.size w a (cellsOf cellsNd L)) (hc : L.length ≤ cap) (hm : cap ≤ 9223372036854775807) (hg : w.cell? ⟨g, 0, none⟩ = some (.int .u8 (kind : Int))) :
    Calls Try.prog 43 #[.slice a L.length cap, .func (.func 44) #[] #[.pointer (some ⟨g, 0, none⟩)]] w fun e w' => e = .returned (.bool (!L.all (fun x => okTy kind x.t.lab.ty))) ∧ Below w.heap.size w w' := by
  have HC := Lib.hid (have_idx L a cap kind g w h hc hm hg)
  clear h hg
  generalize L.all (fun x => okTy kind x.t.lab.ty) = d at *
  go_enter Try.func43, Try.ntmps43
  go_wp2_with fail
  refine HC.out.mono ?_
  rintro e w1 ⟨r, rfl, hr, hb⟩
  have HR := Lib.hid hr
  clear hr HC
  go_wp2
  go_ret
  exact ⟨ret_b HR.out, hb⟩

set_option maxHeartbeats 1000000 in
theorem have_any (L : List NM) (a : Option Addr) (cap kind : Nat) (w : World) (h : Arr w.heap.size w a (cellsOf cellsNd L)) (hc : L.length ≤ cap) (hm : cap ≤ 9223372036854775807) :
    Calls Try.prog 38 #[.slice a L.length cap, .int .u8 (kind : Int)] w fun e w' => e = .returned (.bool (L.all (fun x => okTy kind x.t.lab.ty))) ∧ Below w.heap.size w w' := by
  obtain ⟨w0, hw0⟩ : ∃ w0, w.alloc (.cells #[.int .u8 (kind : Int)] 5) = w0 := ⟨_, rfl⟩
  have hb0 : Below w.heap.size w w0 := by rw [← hw0]; exact (Below.refl _ w).alloc (Nat.le_refl _) _
  have hg : w0.cell? ⟨w.heap.size, 0, none⟩ = some (.int .u8 (kind : Int)) := by rw [← hw0]; simp
  have HC := Lib.hid (have_con L a cap kind w.heap.size w0 ((h.below hb0).mono hb0.size) hc hm hg)
  have HB0 := Lib.hid hb0
  generalize L.all (fun x => okTy kind x.t.lab.ty) = d at *
  clear h hg hb0
  go_enter Try.func38, Try.ntmps38
  go_wp2_with fail
  refine HC.out.mono ?_
  rintro e w1 ⟨rfl, hb⟩
  have HB := Lib.hid (HB0.out.trans (hb.mono HB0.out.size))
  clear hb
  go_wp2
  go_ret
  exact ⟨ret_b (by simp), HB.out⟩

set_option maxHeartbeats 4000000 in
theorem match_plus (kd sl : Int) (v : Vl) (ty : Nat) (L : List NM) (a : Option Addr) (cap : Nat) (w : World) (h : Arr w.heap.size w a (cellsOf cellsNd L)) (hc : L.length ≤ cap) (hm : cap ≤ 9223372036854775807) :
    Calls Try.prog 32 #[.agg #[.int .i64 kd, .string ⟨#[43]⟩, .int .u8 v.k, .int .i64 v.n, .string v.s, .int .i64 sl, .int .u8 (ty : Int), .slice a L.length cap]] w fun e w' => e = .returned (.bool (L.all (fun x => okTy 1 x.t.lab.ty))) ∧ Below w.heap.size w w' := by
  have HX := Lib.hid (Slot8.new w 57 (.int .i64 kd) (.string ⟨#[43]⟩) (.int .u8 v.k) (.int .i64 v.n) (.string v.s) (.int .i64 sl) (.int .u8 (ty : Int)) (.slice a L.length cap))
  obtain ⟨w0, hw0⟩ : ∃ w0, w.alloc (.cells #[.int .i64 kd, .string ⟨#[43]⟩, .int .u8 v.k, .int .i64 v.n, .string v.s, .int .i64 sl, .int .u8 (ty : Int), .slice a L.length cap] 57) = w0 := ⟨_, rfl⟩
  rw [hw0] at HX
  have hb0 : Below w.heap.size w w0 := by rw [← hw0]; exact (Below.refl _ w).alloc (Nat.le_refl _) _
  have HH := Lib.hid (have_any L a cap 1 w0 ((h.below hb0).mono hb0.size) hc hm)
  have HB0 := Lib.hid hb0
  generalize L.all (fun x => okTy 1 x.t.lab.ty) = d at *
  obtain ⟨n, hn⟩ : ∃ n, L.length = n := ⟨_, rfl⟩
  rw [hn] at HH HX hc hw0 ⊢
  clear h hb0 hn
  obtain ⟨x0, x1, x2, x3, x4, x5, x6, x7⟩ := HX.out
  go_enter Try.func32, Try.ntmps32
  go_wp2_with fail
  refine HH.out.mono ?_
  rintro e w1 ⟨rfl, hb⟩
  have HB := Lib.hid (HB0.out.trans (hb.mono HB0.out.size))
  clear hb x0 x1 x2 x3 x4 x5 x6 x7
  go_wp2
  go_ret
  exact ⟨rfl, HB.out⟩

set_option maxHeartbeats 4000000 in
theorem typeOf_plus (sl : Int) (v : Vl) (ty n : Nat) (a : Option Addr) (cap : Nat) (w : World) :
    Calls Try.prog 33 #[.agg #[.int .i64 4, .string ⟨#[43]⟩, .int .u8 v.k, .int .i64 v.n, .string v.s, .int .i64 sl, .int .u8 (ty : Int), .slice a n cap]] w fun e w' => e = .returned (.int .u8 1) ∧ Below w.heap.size w w' := by
  have HX := Lib.hid (Slot8.new w 57 (.int .i64 4) (.string ⟨#[43]⟩) (.int .u8 v.k) (.int .i64 v.n) (.string v.s) (.int .i64 sl) (.int .u8 (ty : Int)) (.slice a n cap))
  have HB0 : Hid (∀ o, Below w.heap.size w (w.alloc o)) := fun o => (Below.refl _ w).alloc (Nat.le_refl _) _
  obtain ⟨x0, x1, x2, x3, x4, x5, x6, x7⟩ := HX.out
  go_enter Try.func33, Try.ntmps33
  go_wp2
  go_ret
  exact ⟨rfl, HB0.out _⟩
end Go.Proofs.Ytmfdnphjhbbkiaa

/- The walks of Count, Great, deep over an expression's tree. -/
set_option linter.unusedSimpArgs false
set_option linter.unusedVariables false
set_option maxRecDepth 100000
namespace Go.Proofs.Ytmfdnphjhbbkiaa
open Go.RowKit

def cntTo (args : List Ex) (least k : Nat) : Nat := min (least + 1 + ((args.take k).map Rose.count).sum) 3000
theorem sum_take_succ {l : List Ex} {k : Nat} (hk : k < l.length) : ((l.take (k + 1)).map Rose.count).sum = ((l.take k).map Rose.count).sum + l[k].count := by
  rw [List.take_succ_eq_append_getElem hk, List.map_append, List.sum_append]; simp
theorem cntTo_succ {args : List Ex} {least k : Nat} (hk : k < args.length) : cntTo args least (k + 1) = min (cntTo args least k + args[k].count) 3000 := by
  unfold cntTo; rw [sum_take_succ hk]; omega
theorem cntTo_le (args : List Ex) (least k : Nat) : cntTo args least k ≤ 3000 := by unfold cntTo; omega
theorem sum_take_le (l : List Ex) (k : Nat) : ((l.take k).map Rose.count).sum ≤ (l.map Rose.count).sum := by
  have h : (l.map Rose.count).sum = ((l.take k).map Rose.count).sum + ((l.drop k).map Rose.count).sum := by
    rw [← List.sum_append, ← List.map_append, List.take_append_drop]
  omega
theorem cntTo_end (e : Ex) (least : Nat) : cntTo e.args least e.args.length = min (least + e.count) 3000 := by
  unfold cntTo; rw [List.take_length, Rose.count_eq]; congr 1; omega
theorem cntTo_full {e : Ex} {least k : Nat} (h : 3000 ≤ cntTo e.args least k) : cntTo e.args least k = min (least + e.count) 3000 := by
  have h1 := sum_take_le e.args k
  have h2 := e.count_eq
  unfold cntTo at h ⊢; omega

def depTo (args : List Ex) (most k : Nat) : Nat := min most (1 + maxL ((args.take k).map Rose.depth))
theorem maxL_take_succ {l : List Ex} {k : Nat} (hk : k < l.length) : maxL ((l.take (k + 1)).map Rose.depth) = max (maxL ((l.take k).map Rose.depth)) l[k].depth := by
  rw [List.take_succ_eq_append_getElem hk, List.map_append]; simp [maxL_snoc]
theorem depTo_succ {args : List Ex} {most k : Nat} (hk : k < args.length) (h : depTo args most k ≠ most) : depTo args most (k + 1) = max (depTo args most k) (1 + min args[k].depth (most - 1)) := by
  have := args[k].depth_pos
  unfold depTo at h ⊢; rw [maxL_take_succ hk]; omega
theorem maxL_take_le (l : List Ex) (k : Nat) : maxL ((l.take k).map Rose.depth) ≤ maxL (l.map Rose.depth) := by
  rw [maxL_le]
  intro x hx
  obtain ⟨y, hy, rfl⟩ := List.mem_map.1 hx
  exact maxL_mem (List.mem_map.2 ⟨y, List.mem_of_mem_take hy, rfl⟩)
theorem depTo_end (e : Ex) (most : Nat) : depTo e.args most e.args.length = min e.depth most := by
  unfold depTo; rw [List.take_length, Rose.depth_eq]; omega
theorem depTo_full {e : Ex} {most k : Nat} (h : depTo e.args most k = most) : min e.depth most = most := by
  have h1 := maxL_take_le e.args k
  have h2 := e.depth_eq
  unfold depTo at h; omega
theorem depTo_le (args : List Ex) (most k : Nat) : depTo args most k ≤ most := by unfold depTo; omega

theorem ret_k {a b : Nat} (h : a = b) : Ending.returned (.int .i64 (a : Int)) = .returned (.int .i64 (b : Int)) := by rw [h]
/-- The cells of an argument. -/
structure KidAt (w : World) (b o : Nat) (y : XM) : Prop where
  c0 : w.cell? ⟨b, o, none⟩ = some (.int .i64 y.t.lab.kd)
  c1 : w.cell? ⟨b, o + 1, none⟩ = some (.int .u8 y.t.lab.v.k)
  c2 : w.cell? ⟨b, o + 2, none⟩ = some (.int .i64 y.t.lab.v.n)
  c3 : w.cell? ⟨b, o + 3, none⟩ = some (.string y.t.lab.v.s)
  c4 : w.cell? ⟨b, o + 4, none⟩ = some (.string y.t.lab.tb)
  c5 : w.cell? ⟨b, o + 5, none⟩ = some (.string y.t.lab.nm)
  c6 : w.cell? ⟨b, o + 6, none⟩ = some (.string y.t.lab.op)
  c7 : w.cell? ⟨b, o + 7, none⟩ = some (.slice y.a y.t.args.length y.cap)
theorem XAt.kid8 {N : Nat} {w : World} {n : Nat} {x : XM} (h : XAt N w (n + 1) x) {k : Nat} (hk : k < x.t.args.length) :
    ∃ y : XM, y.t = x.t.args[k] ∧ XAt N w n y ∧ ∃ b o, x.a = some ⟨b, o, none⟩ ∧ b < N ∧ KidAt w b (o + k * 8) y := by
  obtain ⟨y, h1, h2, b, o, h3, h4, h5⟩ := h.kid hk
  exact ⟨y, h1, h2, b, o, h3, h4, h5 0 _ rfl, h5 1 _ rfl, h5 2 _ rfl, h5 3 _ rfl, h5 4 _ rfl, h5 5 _ rfl, h5 6 _ rfl, h5 7 _ rfl⟩

/-- The argument of a call, spelled. -/
def XM.s (x : XM) : Value := .agg #[.int .i64 x.t.lab.kd, .int .u8 x.t.lab.v.k, .int .i64 x.t.lab.v.n, .string x.t.lab.v.s, .string x.t.lab.tb, .string x.t.lab.nm, .string x.t.lab.op, .slice x.a x.t.args.length x.cap]

end Go.Proofs.Ytmfdnphjhbbkiaa

/- Rows that grow: where the new one lies; trees that lie in blocks of a kind. -/
set_option linter.unusedSimpArgs false
set_option linter.unusedVariables false
set_option maxRecDepth 100000
namespace Go.Proofs.Ytmfdnphjhbbkiaa
open Go.RowKit

section
variable {P : Program}
/-- A row that has grown lies where it lay, or in a new block. -/
theorem append_fresh (w : World) (base : Nat) (t ty e : TypeId) (i : TypeInfo) (z : Value) (size bytes : Nat) (ht : P.underlying t = some (.slice e)) (hi : P.info? e = some i) (hz : i.zero = some z)
    (hsize : i.size = size) (hby : i.bytes = bytes) (hzs : z.cells.size = size) (hsz : 0 < size)
    (v : Value) (n : Nat) (xs : List Value) (hown : w.ownsRow base e size v n xs)
    (a : Addr) (m c : Nat) (news : List Value) (hl : news.length = m * size) (hnews : ∀ j u, news[j]? = some u → w.cell? (a.add j) = some u) (h1 : ∀ u ∈ news, u.oneCell' = true)
    (h63 : n + m ≤ maxLen) (hbytes : (n + m) * bytes ≤ 140737488355328) (v' : Value) (w' : World) (hr : (Builtin.append_ #[t, t] ty #[v, .slice (some a) m c]).run P w = .ok v' w') :
    v'.ownBlock = v.ownBlock ∨ ∀ g, v'.ownBlock = some g → w.heap.size ≤ g := by
  have hsmall : n + m ≤ 9223372036854775807 := by simp only [maxLen] at h63; omega
  rcases hown.2 with ⟨rfl, rfl⟩ | ⟨g, cap, cur, rfl, hbg, hg, hnc, hcm, hcs, htake⟩
  · right
    have h0 : w.ownsRow w.heap.size e size (.slice none 0 0) 0 xs := ⟨hown.1, .inl ⟨rfl, rfl⟩⟩
    obtain ⟨v2, w2, hr2, h2, _, _⟩ := run_append_own (P := P) w w.heap.size t ty e i z size bytes ht hi hz hsize hby hzs hsz _ 0 xs h0 a m c news hl hnews h1 h63 hbytes (Nat.le_refl _)
    rw [hr] at hr2
    injection hr2 with e1 e2
    subst e1 e2
    exact fun g hg => (h2.lt g hg).1
  · subst hsize
    by_cases hroom : n + m ≤ cap
    · left
      have hr2 := run_append_room (P := P) w t ty e i ht hi g n cap cur hg a m c news hl hnews h1 hroom (by rw [hl, hcs, ← Nat.add_mul]; exact Nat.mul_le_mul_right _ hroom)
      rw [hr] at hr2
      injection hr2 with e1 e2
      rw [e1]; rfl
    · right
      have holds : ∀ j u, xs[j]? = some u → w.cell? ((⟨g, 0, none⟩ : Addr).add j) = some u := hown.cells (g := g) rfl
      have hr2 := run_append_grow (P := P) w t ty e i z ht hi hz ⟨g, 0, none⟩ n cap xs hown.1 holds a m c news hl hnews (by omega) (by omega) (growslice_fits (by omega) (by rw [hby]; exact hbytes))
      rw [hr] at hr2
      injection hr2 with e1 e2
      rw [e1]
      intro g' hg'
      simp [Value.ownBlock] at hg'
      omega

/-- 'append(s, x..)', m values just laid in a block of their own: one operation; where the row lies behind it. -/
theorem wp_appF {o : Oper} {a : Act} {K : Act → World → Prop} {Q : Exit → Act → World → Prop} (s x : Operand) (t : TypeId)
    (ho : o.op = .call { callee := .builtin .append, args := #[s, x], argTypes := #[t, t] })
    (base : Nat) (e : TypeId) (i : TypeInfo) (zr : Value) (z bytes m : Nat) (ht : P.underlying t = some (.slice e)) (hi : P.info? e = some i) (hz : i.zero = some zr) (hzs : zr.cells.size = z)
    (hsize : i.size = z) (hz0 : 0 < z) (hby : i.bytes = bytes) (hb1000 : bytes ≤ 1000)
    (v : Value) (n : Nat) (l news : List Value) (w : World) (hown : w.ownsRow base e z v n l) (hs : a.eval s = v) (cs : Array Value) (hcs : cs = news.toArray) (hl : news.length = m * z) (h1 : ∀ u ∈ news, u.oneCell' = true)
    (hx : a.eval x = .slice (some ⟨w.heap.size, 0, none⟩) m m) (hlen : n + m < 100000000000) (hbase : base ≤ w.heap.size)
    (h : ∀ v' w', w'.ownsRow base e z v' (n + m) (l ++ news) → Chg v.ownBlock.toList (w.alloc (.cells cs e)) w' → w.heap.size < w'.heap.size → (v'.ownBlock = v.ownBlock ∨ ∀ g, v'.ownBlock = some g → w.heap.size < g) → K (a.put o.dst v') w') :
    o.wp P a (w.alloc (.cells cs e)) K Q := by
  subst hcs
  have hnews : ∀ j u, news[j]? = some u → (w.alloc (.cells news.toArray e)).cell? ((⟨w.heap.size, 0, none⟩ : Addr).add j) = some u := by
    intro j u hj
    have e0 : (⟨w.heap.size, 0, none⟩ : Addr).add j = ⟨w.heap.size, j, none⟩ := by
      unfold Addr.add; split <;> simp_all
    rw [e0, World.cell?_alloc_at _ _ _ _ rfl]
    simpa using hj
  have h63 : n + m ≤ maxLen := by unfold maxLen; omega
  have hbs : (n + m) * bytes ≤ 140737488355328 := by
    have : (n + m) * bytes ≤ 100000000000 * 1000 := Nat.mul_le_mul (by omega) hb1000
    omega
  have ho2 := World.ownsRow.alloc hown (.cells news.toArray e)
  obtain ⟨v', w', hrun, h2, h3, _⟩ := run_append_own (P := P) (w.alloc (.cells news.toArray e)) base t o.type e i zr z bytes ht hi hz hsize hby hzs hz0 v n l ho2 ⟨w.heap.size, 0, none⟩ m m news hl hnews h1 h63 hbs (by simp; omega)
  have hfr := append_fresh (P := P) (w.alloc (.cells news.toArray e)) base t o.type e i zr z bytes ht hi hz hsize hby hzs hz0 v n l ho2 ⟨w.heap.size, 0, none⟩ m m news hl hnews h1 h63 hbs v' w' hrun
  unfold Oper.wp execOp
  simp only [ho, resolve, invoke, builtin, Sem.run_bind, Sem.run_pure, Result.andThen_ok, List.map_toArray, List.map_cons, List.map_nil, hs, hx, hrun]
  have hsz := h3.size
  refine h v' w' h2 ⟨h3.os, h3.tape, h3.output, h3.size, fun k hk hn => h3.block k hk (by intro he; apply hn; rw [Option.mem_toList]; exact he.symm)⟩ (by simp at hsz; omega) ?_
  rcases hfr with hfr | hfr
  · exact .inl hfr
  · exact .inr fun g hg => by have := hfr g hg; simp at this; omega
theorem wpList_appF {ops : Array Oper} {rest : List Oper} {o : Oper} {a : Act} {Q : Exit → Act → World → Prop} (hgd : o.guard = none) (s x : Operand) (t : TypeId)
    (ho : o.op = .call { callee := .builtin .append, args := #[s, x], argTypes := #[t, t] })
    (base : Nat) (e : TypeId) (i : TypeInfo) (zr : Value) (z bytes m : Nat) (ht : P.underlying t = some (.slice e)) (hi : P.info? e = some i) (hz : i.zero = some zr) (hzs : zr.cells.size = z)
    (hsize : i.size = z) (hz0 : 0 < z) (hby : i.bytes = bytes) (hb1000 : bytes ≤ 1000)
    (v : Value) (n : Nat) (l news : List Value) (w : World) (hown : w.ownsRow base e z v n l) (hs : a.eval s = v) (cs : Array Value) (hcs : cs = news.toArray) (hl : news.length = m * z) (h1 : ∀ u ∈ news, u.oneCell' = true)
    (hx : a.eval x = .slice (some ⟨w.heap.size, 0, none⟩) m m) (hlen : n + m < 100000000000) (hbase : base ≤ w.heap.size)
    (h : ∀ v' w', w'.ownsRow base e z v' (n + m) (l ++ news) → Chg v.ownBlock.toList (w.alloc (.cells cs e)) w' → w.heap.size < w'.heap.size → (v'.ownBlock = v.ownBlock ∨ ∀ g, v'.ownBlock = some g → w.heap.size < g) → wpList P ops Q rest (a.put o.dst v') w') :
    wpList P ops Q (o :: rest) a (w.alloc (.cells cs e)) :=
  wpList_plain hgd fun _ hK => wp_appF s x t ho base e i zr z bytes m ht hi hz hzs hsize hz0 hby hb1000 v n l news w hown hs cs hcs hl h1 hx hlen hbase fun v' w' h2 h3 h4 h5 => hK _ _ (h v' w' h2 h3 h4 h5)
end

/-- The address leads to the cells vs, in a block of which p holds. -/
def ArrIn (p : Nat → Prop) (w : World) (a : Option Addr) (vs : List Value) : Prop :=
  vs = [] ∨ ∃ b o, a = some ⟨b, o, none⟩ ∧ p b ∧ ∀ (i : Nat) (v : Value), vs[i]? = some v → w.cell? ⟨b, o + i, none⟩ = some v
theorem ArrIn.imp {p q : Nat → Prop} (h : ∀ b, p b → q b) {w : World} {a : Option Addr} {vs : List Value} (hA : ArrIn p w a vs) : ArrIn q w a vs := by
  rcases hA with h0 | ⟨b, o, ha, hp, hc⟩
  · exact .inl h0
  · exact .inr ⟨b, o, ha, h b hp, hc⟩
theorem ArrIn.keep {p : Nat → Prop} {w w' : World} (h : ∀ b, p b → w'.heap[b]? = w.heap[b]?) {a : Option Addr} {vs : List Value} (hA : ArrIn p w a vs) : ArrIn p w' a vs := by
  rcases hA with h0 | ⟨b, o, ha, hp, hc⟩
  · exact .inl h0
  · exact .inr ⟨b, o, ha, hp, fun i v hi => (World.cell?_of_block (w := w) (a := ⟨b, o + i, none⟩) (h b hp)).trans (hc i v hi)⟩
theorem ArrIn.arr {N : Nat} {w : World} {a : Option Addr} {vs : List Value} (h : ArrIn (· < N) w a vs) : Arr N w a vs := h

section
variable {α : Type} {F : α → Prop} {c : α → List Value}
/-- The tree lies in blocks of which p holds. -/
def RoseIn (F : α → Prop) (c : α → List Value) (p : Nat → Prop) (w : World) : Nat → RM α → Prop
  | 0, _ => False
  | n + 1, x => F x.t.lab ∧ x.t.args.length ≤ x.cap ∧ x.cap ≤ 9223372036854775807 ∧
      ∃ L : List (RM α), L.map (·.t) = x.t.args ∧ ArrIn p w x.a (cellsOf (cellsR c) L) ∧ ∀ y ∈ L, RoseIn F c p w n y
theorem RoseIn.imp {p q : Nat → Prop} (h : ∀ b, p b → q b) {w : World} : ∀ {n : Nat} {x : RM α}, RoseIn F c p w n x → RoseIn F c q w n x
  | 0, _, h0 => h0.elim
  | _ + 1, _, ⟨h1, h2, h3, L, h4, h5, h6⟩ => ⟨h1, h2, h3, L, h4, h5.imp h, fun y hy => RoseIn.imp h (h6 y hy)⟩
theorem RoseIn.keep {p : Nat → Prop} {w w' : World} (h : ∀ b, p b → w'.heap[b]? = w.heap[b]?) : ∀ {n : Nat} {x : RM α}, RoseIn F c p w n x → RoseIn F c p w' n x
  | 0, _, h0 => h0.elim
  | _ + 1, _, ⟨h1, h2, h3, L, h4, h5, h6⟩ => ⟨h1, h2, h3, L, h4, h5.keep h, fun y hy => RoseIn.keep h (h6 y hy)⟩
theorem RoseIn.at_ {N : Nat} {w : World} : ∀ {n : Nat} {x : RM α}, RoseIn F c (· < N) w n x → RoseAt F c N w n x
  | 0, _, h0 => h0.elim
  | _ + 1, _, ⟨h1, h2, h3, L, h4, h5, h6⟩ => ⟨h1, h2, h3, L, h4, h5, fun y hy => RoseIn.at_ (h6 y hy)⟩
theorem RoseIn.of_at {N : Nat} {w : World} : ∀ {n : Nat} {x : RM α}, RoseAt F c N w n x → RoseIn F c (· < N) w n x
  | 0, _, h0 => h0.elim
  | _ + 1, _, ⟨h1, h2, h3, L, h4, h5, h6⟩ => ⟨h1, h2, h3, L, h4, h5, fun y hy => RoseIn.of_at (h6 y hy)⟩
end
/-- An expression in blocks of which p holds. -/
def XIn (p : Nat → Prop) (w : World) (n : Nat) (x : XM) : Prop := RoseIn Lb.fair Lb.cells p w n x
theorem XIn.imp {p q : Nat → Prop} (h : ∀ b, p b → q b) {w : World} {n : Nat} {x : XM} (hx : XIn p w n x) : XIn q w n x := RoseIn.imp h hx
theorem XIn.keep {p : Nat → Prop} {w w' : World} (h : ∀ b, p b → w'.heap[b]? = w.heap[b]?) {n : Nat} {x : XM} (hx : XIn p w n x) : XIn p w' n x := RoseIn.keep h hx
theorem XIn.at_ {N : Nat} {w : World} {n : Nat} {x : XM} (hx : XIn (· < N) w n x) : XAt N w n x := RoseIn.at_ hx
end Go.Proofs.Ytmfdnphjhbbkiaa

/- A row of expressions that grows, each with arguments of its own. -/
set_option linter.unusedSimpArgs false
set_option linter.unusedVariables false
set_option maxRecDepth 100000
namespace Go.Proofs.Ytmfdnphjhbbkiaa
open Go.RowKit

structure KidsIn (lo : Nat) (W : World) (T : TypeId) (n : Nat) (cv : Value) (L : List XM) : Prop where
  row : W.ownsRow lo T 8 cv L.length (cellsOf cellsX L)
  kid : ∀ y ∈ L, XIn (fun b => lo ≤ b ∧ b < W.heap.size ∧ cv.ownBlock ≠ some b) W n y
theorem KidsIn.nil (lo : Nat) (W : World) (T : TypeId) (n : Nat) : KidsIn lo W T n (.slice none 0 0) [] := ⟨World.ownsRow_nil _ _ _ _, fun y hy => by cases hy⟩

theorem KidsIn.keep {lo : Nat} {W W' : World} {T : TypeId} {n : Nat} {cv : Value} {L : List XM} (h : KidsIn lo W T n cv L) (hs : W.heap.size ≤ W'.heap.size) (hk : ∀ b, lo ≤ b → b < W.heap.size → W'.heap[b]? = W.heap[b]?) : KidsIn lo W' T n cv L := by
  refine ⟨own_keep h.row fun g hg => hk g (h.row.lt g hg).1 (own_lt h.row hg), fun y hy => ?_⟩
  exact ((h.kid y hy).keep (fun b hb => hk b hb.1 hb.2.1)).imp fun b hb => ⟨hb.1, by omega, hb.2.2⟩

theorem KidsIn.add {lo : Nat} {W w2 w5 : World} {T : TypeId} {n : Nat} {cv v5 : Value} {L : List XM} {y : XM} (h : KidsIn lo W T n cv L) (hs : W.heap.size ≤ w2.heap.size) (hk : ∀ b, lo ≤ b → b < W.heap.size → w2.heap[b]? = W.heap[b]?) (hlo : lo ≤ W.heap.size)
    (hy : XIn (fun b => W.heap.size ≤ b ∧ b < w2.heap.size) w2 n y) (hr : w5.ownsRow lo T 8 v5 (L.length + 1) (cellsOf cellsX L ++ cellsX y)) {o : Obj} (hc : Chg cv.ownBlock.toList (w2.alloc o) w5) (hf : v5.ownBlock = cv.ownBlock ∨ ∀ g, v5.ownBlock = some g → w2.heap.size < g) :
    KidsIn lo w5 T n v5 (L ++ [y]) := by
  have hsz := hc.size
  simp at hsz
  have hold : ∀ b, b < w2.heap.size → cv.ownBlock ≠ some b → w5.heap[b]? = w2.heap[b]? := fun b hb hn =>
    (hc.block b (by simp; omega) (by rw [Option.mem_toList]; exact hn)).trans (Below.heap_alloc w2 o b hb)
  have hown : ∀ g, cv.ownBlock = some g → g < W.heap.size := fun g hg => own_lt h.row hg
  refine ⟨by rw [List.length_append]; exact (cellsOf_snoc cellsX L y).symm ▸ hr, fun z hz => ?_⟩
  rcases List.mem_append.1 hz with hz | hz
  · have hz2 := h.kid z hz
    refine (hz2.keep (w' := w5) (fun b hb => (hold b (by omega) hb.2.2).trans (hk b hb.1 hb.2.1))).imp fun b hb => ⟨hb.1, by omega, ?_⟩
    rcases hf with hf | hf
    · rw [hf]; exact hb.2.2
    · intro hg; have := hf b hg; omega
  · rw [List.mem_singleton.1 hz]
    refine (hy.keep (w' := w5) (fun b hb => hold b hb.2 (fun hg => by have := hown b hg; omega))).imp fun b hb => ⟨by omega, by omega, ?_⟩
    rcases hf with hf | hf
    · rw [hf]; intro hg; have := hown b hg; omega
    · intro hg; have := hf b hg; omega

theorem KidsIn.tree {lo : Nat} {W : World} {T : TypeId} {n : Nat} {cv : Value} {L : List XM} (h : KidsIn lo W T n cv L) (l : Lb) (hl : l.fair) :
    ∃ ac cc, cv = .slice ac L.length cc ∧ XIn (fun b => lo ≤ b ∧ b < W.heap.size) W (n + 1) ⟨.mk l (L.map (·.t)), ac, cc⟩ := by
  obtain ⟨h1, h2⟩ := h.row
  rcases h2 with ⟨rfl, hn⟩ | ⟨g, cap, cur, rfl, hg, hh, hnc, hcm, hcs, hcur⟩
  · have hL : L = [] := List.length_eq_zero_iff.1 hn
    subst hL
    exact ⟨none, 0, rfl, hl, by simp [Rose.args], by simp, [], rfl, .inl rfl, fun y hy => by cases hy⟩
  · have hglt : g < W.heap.size := (Array.getElem?_eq_some_iff.1 hh).1
    refine ⟨_, cap, rfl, hl, by simpa [Rose.args] using hnc, by unfold maxLen at hcm; simp only; omega, L, rfl, .inr ⟨g, 0, rfl, ⟨hg, hglt⟩, fun i v hi => ?_⟩, fun y hy => (h.kid y hy).imp fun b hb => ⟨hb.1, hb.2.1⟩⟩
    have e1 : (cur.toList.take (L.length * 8))[i]? = some v := by rw [hcur]; exact hi
    rw [List.getElem?_take] at e1
    split at e1
    · simp only [World.cell?, hh, Nat.zero_add]
      simpa using e1
    · simp at e1

/-- What a call hands back: an expression in memory of its own. -/
def RetX (w : World) (n : Nat) (t : Ex) (e : Ending) (w' : World) : Prop :=
  ∃ y : XM, e = .returned (.agg #[.int .i64 y.t.lab.kd, .int .u8 y.t.lab.v.k, .int .i64 y.t.lab.v.n, .string y.t.lab.v.s, .string y.t.lab.tb, .string y.t.lab.nm, .string y.t.lab.op, .slice y.a y.t.args.length y.cap]) ∧ y.t = t ∧ XIn (fun b => w.heap.size ≤ b ∧ b < w'.heap.size) w' n y ∧ Below w.heap.size w w'

theorem info_ex : (Try.prog.info? 54).map (fun i => (i.zero, i.size, i.bytes)) = some (some (.agg #[.int .i64 0, .int .u8 0, .int .i64 0, .string ⟨#[]⟩, .string ⟨#[]⟩, .string ⟨#[]⟩, .string ⟨#[]⟩, .slice none 0 0]), 8, 112) := by kernel_rfl
theorem info_exS : (Try.prog.info? 54).map (·.size) = some 8 := by kernel_rfl
theorem results_cell1x {P : Program} {fn : Func} {p : Tmp} {ty : TypeId} (h : fn.results = #[.cell p ty]) (tmps : Array Value) (w : World) {ad : Addr} {v : Value}
    (hp : tmps.getD p undef = .pointer (some ad)) (hl : (loadVar ty ad).run P w = .ok v w) : (results fn tmps).run P w = .ok v w := by
  have hp' : tmps[p]?.getD undef = .pointer (some ad) := by simpa using hp
  simp [results, h, hp', asAddr, hl]
end Go.Proofs.Ytmfdnphjhbbkiaa

/- A region that draws its order, walked along a tree of orders: as Ord's, but where two operations may come up at once both ways are walked. -/
set_option linter.unusedSimpArgs false
set_option linter.unusedVariables false
set_option maxRecDepth 100000
namespace Go.Proofs.Ytmfdnphjhbbkiaa
open Go.RowKit

theorem undrewL {a w : World} (h : Later a.drew w) : Later a w := ⟨h.os, h.tape, h.output, h.size, h.block⟩

/-- A tree of orders. -/
inductive OT where
  | nil : OT
  | free : Nat → OT → OT
  | one : Nat → OT → OT
  | two : Nat → Nat → OT → OT → OT
  | three : Nat → Nat → Nat → OT → OT → OT → OT

section
variable {P : Program} {ops : Array Oper} {Q : Exit → Act → World → Prop} {md : Region.Mode}

def wpT (P : Program) (ops : Array Oper) (Q : Exit → Act → World → Prop) (L : World → World → Prop) : OT → Act → World → Prop
  | .nil, a, w => Q .normal a w
  | .free i r, a, w => ∃ o v, ops[i]? = some o ∧ YieldsIf P ops (L w) o v a ∧ wpT P ops Q L r (a.put o.dst v) w
  | .one i r, a, w => wpOp P ops Q i (fun a' w' => L w w' ∧ wpT P ops Q L r a' w') a w
  | .two i j r s, a, w => wpOp P ops Q i (fun a' w' => L w w' ∧ wpT P ops Q L r a' w') a w ∧ wpOp P ops Q j (fun a' w' => L w w' ∧ wpT P ops Q L s a' w') a w
  | .three i j k r s t, a, w => wpOp P ops Q i (fun a' w' => L w w' ∧ wpT P ops Q L r a' w') a w ∧ wpOp P ops Q j (fun a' w' => L w w' ∧ wpT P ops Q L s a' w') a w ∧ wpOp P ops Q k (fun a' w' => L w w' ∧ wpT P ops Q L t a' w') a w

def OT.high : OT → Nat
  | .nil => 0
  | .free _ r => r.high + 1
  | .one _ r => r.high + 1
  | .two _ _ r s => max r.high s.high + 1
  | .three _ _ _ r s t => max r.high (max s.high t.high) + 1

def checkT (md : Region.Mode) (ops : Array Oper) : OT → Array Bool → Bool
  | .nil, l => Region.ready md ops l == []
  | .free i r, l => Region.free md ops l i && (Region.ready md ops l).contains i && checkT md ops r (l.setIfInBounds i true)
  | .one i r, l => Region.ready md ops l == [i] && checkT md ops r (l.setIfInBounds i true)
  | .two i j r s, l => Region.ready md ops l == [i, j] && checkT md ops r (l.setIfInBounds i true) && checkT md ops s (l.setIfInBounds j true)
  | .three i j k r s t, l => Region.ready md ops l == [i, j, k] && checkT md ops r (l.setIfInBounds i true) && checkT md ops s (l.setIfInBounds j true) && checkT md ops t (l.setIfInBounds k true)

theorem wpT_sound {L : World → World → Prop} (Lr : ∀ w, L w w) (Lt : ∀ {a b c}, L a b → L b c → L a c) (hs : Region.noSelect ops = true) (hQ : ∀ c (a : Act) d v w, Q (.panic c) (a.put d v) w → Q (.panic c) a w) :
    ∀ (t : OT) (fuel : Nat) (listed : Array Bool) (a : Act) (w : World), t.high ≤ fuel → checkT md ops t listed = true → wpT P ops Q L t a w → wpAnyH P md ops Q (L w) fuel listed a w
  | .nil, fuel, listed, a, w, _, hc, h => wpAnyH_done (by simpa [checkT] using hc) h fuel
  | .free i r, fuel, listed, a, w, hf, hc, h => by
    obtain ⟨o, v, ho, hy, h⟩ := h
    simp only [checkT, Bool.and_eq_true] at hc
    cases fuel with
    | zero => simp [OT.high] at hf
    | succ fuel =>
      exact wpAnyH_take ho hs hc.1.1 hc.1.2 (fun c a w => hQ c a o.dst v w) hy (Lr w) (wpT_sound Lr Lt hs hQ r fuel _ _ w (by simpa [OT.high] using hf) hc.2 h)
  | .one i r, fuel, listed, a, w, hf, hc, h => by
    simp only [checkT, Bool.and_eq_true, beq_iff_eq] at hc
    cases fuel with
    | zero => simp [OT.high] at hf
    | succ fuel =>
      refine wpAnyH_all (rs := [i]) hc.1 (by simp) ?_
      intro j hj
      rw [List.mem_singleton.1 hj]
      exact wpOp_mono (fun a' w' h' => ⟨h'.1, wpAnyH_stronger (fun x hx => Lt h'.1 hx) fuel _ _ _ (wpT_sound Lr Lt hs hQ r fuel _ a' w' (by simpa [OT.high] using hf) hc.2 h'.2)⟩) h
  | .two i j r s, fuel, listed, a, w, hf, hc, h => by
    simp only [checkT, Bool.and_eq_true, beq_iff_eq] at hc
    cases fuel with
    | zero => simp [OT.high] at hf
    | succ fuel =>
      refine wpAnyH_all (rs := [i, j]) hc.1.1 (by simp) ?_
      have hf1 : r.high ≤ fuel ∧ s.high ≤ fuel := by simp [OT.high] at hf; omega
      intro k hk
      rcases List.mem_cons.1 hk with hk | hk
      · rw [hk]
        exact wpOp_mono (fun a' w' h' => ⟨h'.1, wpAnyH_stronger (fun x hx => Lt h'.1 hx) fuel _ _ _ (wpT_sound Lr Lt hs hQ r fuel _ a' w' hf1.1 hc.1.2 h'.2)⟩) h.1
      · rw [List.mem_singleton.1 hk]
        exact wpOp_mono (fun a' w' h' => ⟨h'.1, wpAnyH_stronger (fun x hx => Lt h'.1 hx) fuel _ _ _ (wpT_sound Lr Lt hs hQ s fuel _ a' w' hf1.2 hc.2 h'.2)⟩) h.2
  | .three i j k r s t, fuel, listed, a, w, hf, hc, h => by
    simp only [checkT, Bool.and_eq_true, beq_iff_eq] at hc
    cases fuel with
    | zero => simp [OT.high] at hf
    | succ fuel =>
      refine wpAnyH_all (rs := [i, j, k]) hc.1.1.1 (by simp) ?_
      have hf1 : r.high ≤ fuel ∧ s.high ≤ fuel ∧ t.high ≤ fuel := by simp [OT.high] at hf; omega
      intro x hx
      rcases List.mem_cons.1 hx with hx | hx
      · rw [hx]
        exact wpOp_mono (fun a' w' h' => ⟨h'.1, wpAnyH_stronger (fun x hx => Lt h'.1 hx) fuel _ _ _ (wpT_sound Lr Lt hs hQ r fuel _ a' w' hf1.1 hc.1.1.2 h'.2)⟩) h.1
      rcases List.mem_cons.1 hx with hx | hx
      · rw [hx]
        exact wpOp_mono (fun a' w' h' => ⟨h'.1, wpAnyH_stronger (fun x hx => Lt h'.1 hx) fuel _ _ _ (wpT_sound Lr Lt hs hQ s fuel _ a' w' hf1.2.1 hc.1.2 h'.2)⟩) h.2.1
      · rw [List.mem_singleton.1 hx]
        exact wpOp_mono (fun a' w' h' => ⟨h'.1, wpAnyH_stronger (fun x hx => Lt h'.1 hx) fuel _ _ _ (wpT_sound Lr Lt hs hQ t fuel _ a' w' hf1.2.2 hc.2 h'.2)⟩) h.2.2

/-- The beginning, where blocks S may be written. -/
theorem wp_region_tree {id : Nat} {a : Act} {w : World} (S : List Nat) (t : OT) (hm : P.follows .mixedOrders = true) (hs : Region.noSelect ops = true)
    (hl : decide (t.high ≤ ops.size) = true) (hc : checkT .any ops t (Array.replicate ops.size false) = true) (h : wpT P ops (NoPanic Q) (Chg S) t a w.drew) : (Code.region id ops true).wp P Q a w :=
  wp_region_noPanic (wp_region_held hm (wpT_sound (Chg.refl S) Chg.trans hs (NoPanic.put Q) t ops.size _ a w.drew (of_decide_eq_true hl) hc h))

variable {L : World → World → Prop}
theorem wpT_nil {a : Act} {w : World} (h : Q .normal a w) : wpT P ops (NoPanic Q) L .nil a w := h
theorem wpT_F {i : Nat} {r : OT} {a : Act} {w : World} {o : Oper} {v : Value} (ho : nth ops.toList i = some o) (hw : Region.wanted o (yielded ops a.tmps) = true)
    (hv : ∀ w', L w w' → (execOp a.eval o).run P w' = .ok (.value v) w') (h : wpT P ops Q L r (a.put o.dst v) w) : wpT P ops Q L (.free i r) a w :=
  ⟨o, v, nth_ops ho, .inl ⟨hw, hv⟩, h⟩
theorem wpT_G {i : Nat} {r : OT} {a : Act} {w : World} {o : Oper} (ho : nth ops.toList i = some o) (hw : Region.wanted o (yielded ops a.tmps) = false)
    (h : wpT P ops Q L r (a.put o.dst undef) w) : wpT P ops Q L (.free i r) a w :=
  ⟨o, undef, nth_ops ho, .inr ⟨hw, rfl⟩, h⟩
theorem wpT_skip (Lr : ∀ w, L w w) {i : Nat} {r : OT} {a : Act} {w : World} {o : Oper} (ho : nth ops.toList i = some o) (hw : Region.wanted o (yielded ops a.tmps) = false)
    (h : wpT P ops Q L r (a.put o.dst undef) w) : wpT P ops Q L (.one i r) a w := by
  show wpOp P ops Q i _ a w
  unfold wpOp
  simp only [nth_ops ho, hw]
  exact ⟨Lr w, h⟩
theorem wpT_C {i : Nat} {r : OT} {a : Act} {w : World} {o : Oper} (ho : nth ops.toList i = some o) (hw : Region.wanted o (yielded ops a.tmps) = true)
    (h : o.wp P a w (fun a' w' => L w w' ∧ wpT P ops Q L r a' w') Q) : wpT P ops Q L (.one i r) a w := by
  show wpOp P ops Q i _ a w
  unfold wpOp
  simp only [nth_ops ho, hw]
  exact .inl h
theorem wpT_two {i j : Nat} {r s : OT} {a : Act} {w : World} (h1 : wpT P ops Q L (.one i r) a w) (h2 : wpT P ops Q L (.one j s) a w) : wpT P ops Q L (.two i j r s) a w := ⟨h1, h2⟩
theorem wpT_three {i j k : Nat} {r s t : OT} {a : Act} {w : World} (h1 : wpT P ops Q L (.one i r) a w) (h2 : wpT P ops Q L (.one j s) a w) (h3 : wpT P ops Q L (.one k t) a w) : wpT P ops Q L (.three i j k r s t) a w := ⟨h1, h2, h3⟩
end
attribute [irreducible] wpT
end Go.Proofs.Ytmfdnphjhbbkiaa

/- A region that draws its order, walked along a tree of orders, at whose end come operations X, in any order, that may write what the others read. -/
set_option linter.unusedSimpArgs false
set_option linter.unusedVariables false
set_option maxRecDepth 100000
namespace Go.Proofs.Ytmfdnphjhbbkiaa
open Go.RowKit

/-- A tree of orders with a tail. -/
inductive OL where
  | nil : OL
  | free : Nat → OL → OL
  | one : Nat → OL → OL
  | two : Nat → Nat → OL → OL → OL
  | last : Nat → OL → OL
  | lasts : Nat → Nat → OL → OL → OL

section
variable {P : Program} {ops : Array Oper} {Q : Exit → Act → World → Prop} {md : Region.Mode}

/-- Whatever order is picked; S holds behind each operation but those of X. -/
def wpAnyL (P : Program) (md : Region.Mode) (ops : Array Oper) (Q : Exit → Act → World → Prop) (X : List Nat) (S : World → Prop) : Nat → Array Bool → Act → World → Prop
  | 0, l, a, w => Region.ready md ops l = [] ∧ Q .normal a w
  | n + 1, l, a, w => (Region.ready md ops l = [] → Q .normal a w) ∧
      ∀ i, i ∈ Region.ready md ops l → wpOp P ops Q i (fun a' w' => (i ∉ X → S w') ∧ wpAnyL P md ops Q X S n (l.setIfInBounds i true) a' w') a w

theorem wpAny_of_L {X : List Nat} {S : World → Prop} : ∀ (n : Nat) (l : Array Bool) (a : Act) (w : World), wpAnyL P md ops Q X S n l a w → wpAny P md ops Q n l a w
  | 0, _, _, _, h => h
  | n + 1, _, _, _, h => ⟨h.1, fun i hi => wpOp_mono (fun a' w' h' => wpAny_of_L n _ a' w' h'.2) (h.2 i hi)⟩

theorem wpAnyL_first {X : List Nat} {i : Nat} {S : World → Prop} {oi : Oper} {v : Value} (hi : ops[i]? = some oi) (hsel : ∀ (j : Nat) (o : Oper) cs b, ops[j]? = some o → o.op ≠ .select cs b)
    (hQ : ∀ c (a : Act) w, Q (.panic c) (a.put oi.dst v) w → Q (.panic c) a w) (m : Nat) (hxi : ∀ x ∈ X, waitsN md ops i m x = true) :
    ∀ (n : Nat) (l : Array Bool) (a : Act) (w : World), Closed md ops l →
      (∀ j oj, ops[j]? = some oj → j ≠ i → l.getD j true = false → (∀ e ∈ oj.after, Region.binds md e = true → e.on ≠ i) → oi.apart ops oj = true) →
      i ∈ Region.ready md ops l → YieldsIf P ops S oi v a → S w →
      wpAnyL P md ops Q X S n (l.setIfInBounds i true) (a.put oi.dst v) w → wpAnyL P md ops Q X S (n + 1) l a w
  | n, l, a, w, hcl, hfree, hr, hy, hS, H => by
    refine ⟨fun h => absurd hr (by rw [h]; simp), fun j hj => ?_⟩
    by_cases hji : j = i
    · subst hji
      exact hy.wpOp hi hS ⟨fun _ => hS, H⟩
    obtain ⟨hjun, oj, hoj, hall⟩ := mem_ready.1 hj
    have hun : ¬ l.getD i false = true := by
      intro h1
      have h0 := (mem_ready.1 hr).1
      by_cases hlt : i < l.size
      · simp [hlt] at h0 h1
        rw [h0] at h1
        cases h1
      · simp [Array.getElem?_eq_none (Nat.le_of_not_lt hlt)] at h1
    have hnot : ∀ e ∈ oj.after, Region.binds md e = true → e.on ≠ i := by
      intro e he hb heq
      have h1 := hall e he hb
      rw [heq] at h1
      exact hun h1
    have hjX : j ∉ X := fun hj => hun (hcl.waits m j oj hoj hall (hxi j hj))
    match n, H with
    | 0, H =>
      have := ready_mono hj hji
      rw [H.1] at this
      cases this
    | n + 1, H =>
      have h1 := H.2 j (ready_mono hj hji)
      have h2 := wpOp_putIf hoj (hfree j oj hoj hji hjun hnot) (fun cs b => hsel i oi cs b hi) (fun cs b => hsel j oj cs b hoj) hQ hy h1
      refine wpOp_mono (fun a' w' h3 => ⟨fun _ => h3.2.1 hjX, ?_⟩) h2
      refine wpAnyL_first hi hsel hQ m hxi n _ a' w' (hcl.set_ hj) ?_ (ready_mono hr (Ne.symm hji)) h3.1 (h3.2.1 hjX) ?_
      · intro k ok hk hki hun hno
        refine hfree k ok hk hki ?_ hno
        by_cases hjk : j = k
        · subst hjk; exact hjun
        · rw [getD_set_ne true hjk] at hun; exact hun
      · rw [Array.setIfInBounds_comm _ _ hji]
        exact h3.2.2

theorem wpAnyL_stronger {X : List Nat} {S S' : World → Prop} (hS : ∀ w, S' w → S w) : ∀ (n : Nat) (l : Array Bool) (a : Act) (w : World), wpAnyL P md ops Q X S' n l a w → wpAnyL P md ops Q X S n l a w
  | 0, _, _, _, h => h
  | n + 1, _, _, _, h => ⟨h.1, fun i hi => wpOp_mono (fun _ _ h' => ⟨fun hx => hS _ (h'.1 hx), wpAnyL_stronger hS n _ _ _ h'.2⟩) (h.2 i hi)⟩

def wpL (P : Program) (ops : Array Oper) (Q : Exit → Act → World → Prop) (L : World → World → Prop) : OL → Act → World → Prop
  | .nil, a, w => Q .normal a w
  | .free i r, a, w => ∃ o v, ops[i]? = some o ∧ YieldsIf P ops (L w) o v a ∧ wpL P ops Q L r (a.put o.dst v) w
  | .one i r, a, w => wpOp P ops Q i (fun a' w' => L w w' ∧ wpL P ops Q L r a' w') a w
  | .two i j r s, a, w => wpOp P ops Q i (fun a' w' => L w w' ∧ wpL P ops Q L r a' w') a w ∧ wpOp P ops Q j (fun a' w' => L w w' ∧ wpL P ops Q L s a' w') a w
  | .last i r, a, w => wpOp P ops Q i (fun a' w' => wpL P ops Q L r a' w') a w
  | .lasts i j r s, a, w => wpOp P ops Q i (fun a' w' => wpL P ops Q L r a' w') a w ∧ wpOp P ops Q j (fun a' w' => wpL P ops Q L s a' w') a w

def OL.high : OL → Nat
  | .nil => 0
  | .free _ r => r.high + 1
  | .one _ r => r.high + 1
  | .two _ _ r s => max r.high s.high + 1
  | .last _ r => r.high + 1
  | .lasts _ _ r s => max r.high s.high + 1

def OL.isTail : OL → Bool
  | .nil => true
  | .last _ r => r.isTail
  | .lasts _ _ r s => r.isTail && s.isTail
  | _ => false
def checkL (md : Region.Mode) (ops : Array Oper) (X : List Nat) : OL → Array Bool → Bool
  | .nil, l => Region.ready md ops l == []
  | .free i r, l => X.all (waitsN md ops i ops.size) && (Region.free md ops l i && (Region.ready md ops l).contains i && checkL md ops X r (l.setIfInBounds i true))
  | .one i r, l => Region.ready md ops l == [i] && checkL md ops X r (l.setIfInBounds i true)
  | .two i j r s, l => Region.ready md ops l == [i, j] && checkL md ops X r (l.setIfInBounds i true) && checkL md ops X s (l.setIfInBounds j true)
  | .last i r, l => r.isTail && X.contains i && Region.ready md ops l == [i] && checkL md ops X r (l.setIfInBounds i true)
  | .lasts i j r s, l => r.isTail && s.isTail && X.contains i && X.contains j && Region.ready md ops l == [i, j] && checkL md ops X r (l.setIfInBounds i true) && checkL md ops X s (l.setIfInBounds j true)

theorem wpL_tail {L : World → World → Prop} {X : List Nat} : ∀ (t : OL) (n : Nat) (l : Array Bool) (a : Act) (w : World) (S : World → Prop), t.isTail = true → t.high ≤ n → checkL md ops X t l = true → wpL P ops Q L t a w → wpAnyL P md ops Q X S n l a w
  | .nil, n, l, a, w, S, _, hn, hc, h => by
    have hr : Region.ready md ops l = [] := by simpa [checkL] using hc
    cases n with
    | zero => exact ⟨hr, h⟩
    | succ n => exact ⟨fun _ => h, fun k hk => absurd hk (by rw [hr]; simp)⟩
  | .last i r, n, l, a, w, S, ht, hn, hc, h => by
    simp only [checkL, Bool.and_eq_true, beq_iff_eq, List.contains_iff_mem] at hc
    match n, hn with
    | n + 1, hn =>
      refine ⟨fun h0 => absurd hc.1.2 (by rw [h0]; simp), fun j hj => ?_⟩
      rw [hc.1.2] at hj
      obtain rfl := List.mem_singleton.1 hj
      exact wpOp_mono (fun a' w' h' => ⟨fun hx => absurd hc.1.1.2 hx, wpL_tail r n _ a' w' S hc.1.1.1 (by simpa [OL.high] using hn) hc.2 h'⟩) h
  | .lasts i j r s, n, l, a, w, S, ht, hn, hc, h => by
    simp only [checkL, Bool.and_eq_true, beq_iff_eq, List.contains_iff_mem] at hc
    match n, hn with
    | n + 1, hn =>
      have hf1 : r.high ≤ n ∧ s.high ≤ n := by simp [OL.high] at hn; omega
      refine ⟨fun h0 => absurd hc.1.1.2 (by rw [h0]; simp), fun k hk => ?_⟩
      rw [hc.1.1.2] at hk
      rcases List.mem_cons.1 hk with hk | hk
      · subst hk
        exact wpOp_mono (fun a' w' h' => ⟨fun hx => absurd hc.1.1.1.1.2 hx, wpL_tail r n _ a' w' S hc.1.1.1.1.1.1 hf1.1 hc.1.2 h'⟩) h.1
      · obtain rfl := List.mem_singleton.1 hk
        exact wpOp_mono (fun a' w' h' => ⟨fun hx => absurd hc.1.1.1.2 hx, wpL_tail s n _ a' w' S hc.1.1.1.1.1.2 hf1.2 hc.2 h'⟩) h.2
theorem wpL_sound {L : World → World → Prop} {X : List Nat} (Lr : ∀ w, L w w) (Lt : ∀ {a b c}, L a b → L b c → L a c) (hs : Region.noSelect ops = true) (hQ : ∀ c (a : Act) d v w, Q (.panic c) (a.put d v) w → Q (.panic c) a w) :
    ∀ (t : OL) (n : Nat) (l : Array Bool) (a : Act) (w : World) (S : World → Prop), t.high ≤ n → Closed md ops l → checkL md ops X t l = true → (∀ w', L w w' → S w') → wpL P ops Q L t a w → wpAnyL P md ops Q X S n l a w
  | .nil, n, l, a, w, S, hn, hcl, hc, hS, h => by
    have hr : Region.ready md ops l = [] := by simpa [checkL] using hc
    cases n with
    | zero => exact ⟨hr, h⟩
    | succ n => exact ⟨fun _ => h, fun k hk => absurd hk (by rw [hr]; simp)⟩
  | .free i r, n, l, a, w, S, hn, hcl, hc, hS, h => by
    obtain ⟨o, v, ho, hy, h⟩ := h
    simp only [checkL, Bool.and_eq_true, List.all_eq_true] at hc
    have hri : i ∈ Region.ready md ops l := by simpa using hc.2.1.2
    match n, hn with
    | n + 1, hn =>
      exact wpAnyL_stronger hS _ _ _ _ (wpAnyL_first (S := L w) ho (Region.noSelect_spec hs) (fun c a w => hQ c a o.dst v w) ops.size hc.1 n l a w hcl (Region.free_spec ho hc.2.1.1) hri hy (Lr w) (wpL_sound Lr Lt hs hQ r n _ _ w (L w) (by simpa [OL.high] using hn) (hcl.set_ hri) hc.2.2 (fun _ h => h) h))
  | .one i r, n, l, a, w, S, hn, hcl, hc, hS, h => by
    simp only [checkL, Bool.and_eq_true, beq_iff_eq] at hc
    match n, hn with
    | n + 1, hn =>
      refine ⟨fun h0 => absurd hc.1 (by rw [h0]; simp), fun j hj => ?_⟩
      have hj0 := hj
      rw [hc.1] at hj
      obtain rfl := List.mem_singleton.1 hj
      exact wpOp_mono (fun a' w' h' => ⟨fun _ => hS _ h'.1, wpL_sound Lr Lt hs hQ r n _ a' w' S (by simpa [OL.high] using hn) (hcl.set_ hj0) hc.2 (fun y hy => hS _ (Lt h'.1 hy)) h'.2⟩) h
  | .two i j r s, n, l, a, w, S, hn, hcl, hc, hS, h => by
    simp only [checkL, Bool.and_eq_true, beq_iff_eq] at hc
    match n, hn with
    | n + 1, hn =>
      have hf1 : r.high ≤ n ∧ s.high ≤ n := by simp [OL.high] at hn; omega
      refine ⟨fun h0 => absurd hc.1.1 (by rw [h0]; simp), fun k hk => ?_⟩
      have hk0 := hk
      rw [hc.1.1] at hk
      rcases List.mem_cons.1 hk with hk | hk
      · subst hk
        exact wpOp_mono (fun a' w' h' => ⟨fun _ => hS _ h'.1, wpL_sound Lr Lt hs hQ r n _ a' w' S hf1.1 (hcl.set_ hk0) hc.1.2 (fun y hy => hS _ (Lt h'.1 hy)) h'.2⟩) h.1
      · obtain rfl := List.mem_singleton.1 hk
        exact wpOp_mono (fun a' w' h' => ⟨fun _ => hS _ h'.1, wpL_sound Lr Lt hs hQ s n _ a' w' S hf1.2 (hcl.set_ hk0) hc.2 (fun y hy => hS _ (Lt h'.1 hy)) h'.2⟩) h.2
  | .last i r, n, l, a, w, S, hn, hcl, hc, hS, h => by
    simp only [checkL, Bool.and_eq_true, beq_iff_eq, List.contains_iff_mem] at hc
    match n, hn with
    | n + 1, hn =>
      refine ⟨fun h0 => absurd hc.1.2 (by rw [h0]; simp), fun j hj => ?_⟩
      have hj0 := hj
      rw [hc.1.2] at hj
      obtain rfl := List.mem_singleton.1 hj
      exact wpOp_mono (fun a' w' h' => ⟨fun hx => absurd hc.1.1.2 hx, wpL_tail r n _ a' w' S hc.1.1.1 (by simpa [OL.high] using hn) hc.2 h'⟩) h
  | .lasts i j r s, n, l, a, w, S, hn, hcl, hc, hS, h => by
    simp only [checkL, Bool.and_eq_true, beq_iff_eq, List.contains_iff_mem] at hc
    match n, hn with
    | n + 1, hn =>
      have hf1 : r.high ≤ n ∧ s.high ≤ n := by simp [OL.high] at hn; omega
      refine ⟨fun h0 => absurd hc.1.1.2 (by rw [h0]; simp), fun k hk => ?_⟩
      have hk0 := hk
      rw [hc.1.1.2] at hk
      rcases List.mem_cons.1 hk with hk | hk
      · subst hk
        exact wpOp_mono (fun a' w' h' => ⟨fun hx => absurd hc.1.1.1.1.2 hx, wpL_tail r n _ a' w' S hc.1.1.1.1.1.1 hf1.1 hc.1.2 h'⟩) h.1
      · obtain rfl := List.mem_singleton.1 hk
        exact wpOp_mono (fun a' w' h' => ⟨fun hx => absurd hc.1.1.1.2 hx, wpL_tail s n _ a' w' S hc.1.1.1.1.1.2 hf1.2 hc.2 h'⟩) h.2

/-- The beginning: blocks S may be written ahead of the tail X. -/
theorem wp_region_tail {id : Nat} {a : Act} {w : World} (S X : List Nat) (t : OL) (hm : P.follows .mixedOrders = true) (hs : Region.noSelect ops = true)
    (hl : decide (t.high ≤ ops.size) = true) (hc : checkL .any ops X t (Array.replicate ops.size false) = true) (h : wpL P ops (NoPanic Q) (Chg S) t a w.drew) : (Code.region id ops true).wp P Q a w :=
  wp_region_noPanic (wp_region_any hm (wpAny_of_L (X := X) (S := fun _ => True) _ _ _ _ (wpL_sound (Chg.refl S) Chg.trans hs (NoPanic.put Q) t ops.size _ a w.drew _ (of_decide_eq_true hl) (closed_none _) hc (fun _ _ => trivial) h)))

variable {L : World → World → Prop}
theorem wpL_nil {a : Act} {w : World} (h : Q .normal a w) : wpL P ops (NoPanic Q) L .nil a w := h
theorem wpL_F {i : Nat} {r : OL} {a : Act} {w : World} {o : Oper} {v : Value} (ho : nth ops.toList i = some o) (hw : Region.wanted o (yielded ops a.tmps) = true)
    (hv : ∀ w', L w w' → (execOp a.eval o).run P w' = .ok (.value v) w') (h : wpL P ops Q L r (a.put o.dst v) w) : wpL P ops Q L (.free i r) a w :=
  ⟨o, v, nth_ops ho, .inl ⟨hw, hv⟩, h⟩
theorem wpL_G {i : Nat} {r : OL} {a : Act} {w : World} {o : Oper} (ho : nth ops.toList i = some o) (hw : Region.wanted o (yielded ops a.tmps) = false)
    (h : wpL P ops Q L r (a.put o.dst undef) w) : wpL P ops Q L (.free i r) a w :=
  ⟨o, undef, nth_ops ho, .inr ⟨hw, rfl⟩, h⟩
theorem wpL_C {i : Nat} {r : OL} {a : Act} {w : World} {o : Oper} (ho : nth ops.toList i = some o) (hw : Region.wanted o (yielded ops a.tmps) = true)
    (h : o.wp P a w (fun a' w' => L w w' ∧ wpL P ops Q L r a' w') Q) : wpL P ops Q L (.one i r) a w := by
  show wpOp P ops Q i _ a w
  unfold wpOp
  simp only [nth_ops ho, hw]
  exact .inl h
theorem wpL_X {i : Nat} {r : OL} {a : Act} {w : World} {o : Oper} (ho : nth ops.toList i = some o) (hw : Region.wanted o (yielded ops a.tmps) = true)
    (h : o.wp P a w (fun a' w' => wpL P ops Q L r a' w') Q) : wpL P ops Q L (.last i r) a w := by
  show wpOp P ops Q i _ a w
  unfold wpOp
  simp only [nth_ops ho, hw]
  exact .inl h
theorem wpL_two {i j : Nat} {r s : OL} {a : Act} {w : World} (h1 : wpL P ops Q L (.one i r) a w) (h2 : wpL P ops Q L (.one j s) a w) : wpL P ops Q L (.two i j r s) a w := ⟨h1, h2⟩
theorem wpL_lasts {i j : Nat} {r s : OL} {a : Act} {w : World} (h1 : wpL P ops Q L (.last i r) a w) (h2 : wpL P ops Q L (.last j s) a w) : wpL P ops Q L (.lasts i j r s) a w := ⟨h1, h2⟩
end
attribute [irreducible] wpL
end Go.Proofs.Ytmfdnphjhbbkiaa
