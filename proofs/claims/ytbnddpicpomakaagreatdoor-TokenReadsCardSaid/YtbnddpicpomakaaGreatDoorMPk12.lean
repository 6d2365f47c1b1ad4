/- Several texts of one proof, one behind the other. -/
import Derived.Test.YtbnddpicpomakaaGreatDoorMPk11
import Derived.Shelf.Strings.OnBuilder
import Derived.Lib.ItoaLen
set_option linter.unusedSimpArgs false
set_option linter.unusedVariables false

/- The walks of isName, takes and valid. -/
set_option linter.unusedSimpArgs false
set_option linter.unusedVariables false
set_option maxRecDepth 100000
namespace Go.Proofs.YtbnddpicpomakaaGreatDoor
open Go.RowKit

/-- A block of the call's own with eight cells. -/
structure Slot8 (W : World) (B : Nat) (v0 v1 v2 v3 v4 v5 v6 v7 : Value) : Prop where
  c0 : W.cell? ⟨B, 0, none⟩ = some v0
  c1 : W.cell? ⟨B, 1, none⟩ = some v1
  c2 : W.cell? ⟨B, 2, none⟩ = some v2
  c3 : W.cell? ⟨B, 3, none⟩ = some v3
  c4 : W.cell? ⟨B, 4, none⟩ = some v4
  c5 : W.cell? ⟨B, 5, none⟩ = some v5
  c6 : W.cell? ⟨B, 6, none⟩ = some v6
  c7 : W.cell? ⟨B, 7, none⟩ = some v7
theorem Slot8.new (w : World) (T : TypeId) (v0 v1 v2 v3 v4 v5 v6 v7 : Value) : Slot8 (w.alloc (.cells #[v0, v1, v2, v3, v4, v5, v6, v7] T)) w.heap.size v0 v1 v2 v3 v4 v5 v6 v7 :=
  ⟨by simp, by simp, by simp, by simp, by simp, by simp, by simp, by simp⟩
theorem Slot8.later {W W' : World} {B N : Nat} {v0 v1 v2 v3 v4 v5 v6 v7 : Value} (h : Slot8 W B v0 v1 v2 v3 v4 v5 v6 v7) (hB : B < N) (hb : Below N W W') : Slot8 W' B v0 v1 v2 v3 v4 v5 v6 v7 :=
  ⟨(hb.cell (p := ⟨B, 0, none⟩) hB).trans h.c0, (hb.cell (p := ⟨B, 1, none⟩) hB).trans h.c1, (hb.cell (p := ⟨B, 2, none⟩) hB).trans h.c2, (hb.cell (p := ⟨B, 3, none⟩) hB).trans h.c3, (hb.cell (p := ⟨B, 4, none⟩) hB).trans h.c4, (hb.cell (p := ⟨B, 5, none⟩) hB).trans h.c5, (hb.cell (p := ⟨B, 6, none⟩) hB).trans h.c6, (hb.cell (p := ⟨B, 7, none⟩) hB).trans h.c7⟩
theorem box8 (w : World) (o : Obj) : w.heap.size < (w.alloc o).heap.size := by simp
/-- The cells by name. -/
theorem XM.v_eq (x : XM) : x.v = .agg #[.int .i64 x.t.lab.kd, .int .u8 x.t.lab.v.k, .int .i64 x.t.lab.v.n, .string x.t.lab.v.s, .string x.t.lab.tb, .string x.t.lab.nm, .string x.t.lab.op, .slice x.a x.t.args.length x.cap] := rfl

theorem isX_eq (s : ByteArray) : isX s = (decide ((nameV s).2 = 0) && decide ((nameV s).1 = s) && !resB s) := rfl

set_option maxHeartbeats 2000000 in
theorem xName_any (s : ByteArray) (w : World) (hs : s.size ≤ 140737488351232) :
    Calls Tryz.prog 108 #[.string s] w fun e w' => e = .returned (.bool (isX s)) ∧ Below w.heap.size w w' := by
  have HN := Lib.hid (fun W => Name_any s W (by omega))
  have HR := Lib.hid (fun W => Reserved_any s W)
  rw [isX_eq]
  generalize nameV s = X at *
  generalize resB s = r at *
  obtain ⟨x, q⟩ := X
  simp only at HN ⊢
  by_cases hq : q = 0
  · subst hq
    by_cases hx : x = s
    · subst hx
      go_enter Tryz.func108, Tryz.ntmps108
      go_wp2_with fail
      refine (HN.out _).mono ?_
      rintro e w1 ⟨rfl, hb⟩
      go_wp2_with fail
      refine (HR.out _).mono ?_
      rintro e w2 ⟨rfl, rfl⟩
      go_wp2
      go_ret
      exact ⟨by simp, hb⟩
    · have hb : (x.toList == s.toList) = false := by rw [beq_eq_false_iff_ne]; exact fun h => hx (toList_inj h)
      have hx2 : decide (x = s) = false := decide_eq_false hx
      rw [hx2]
      clear hx hx2
      go_enter Tryz.func108, Tryz.ntmps108
      go_wp2_with fail
      refine (HN.out _).mono ?_
      rintro e w1 ⟨rfl, hb⟩
      go_wp2
      go_ret
      exact ⟨by simp, hb⟩
  · have h2 : (q == 0) = false := by simpa using hq
    go_enter Tryz.func108, Tryz.ntmps108
    go_wp2_with fail
    refine (HN.out _).mono ?_
    rintro e w1 ⟨rfl, hb⟩
    go_wp2
    go_ret
    exact ⟨ret_b (by simp [hq]), hb⟩

set_option maxHeartbeats 4000000 in
theorem takes_any (k : Int) (op : ByteArray) (n : Nat) (w : World) :
    Calls Tryz.prog 109 #[.int .i64 k, .string op, .int .i64 (n : Int)] w fun e w' => e = .returned (.bool (takesB k op n)) ∧ w = w' := by
  have HBin := Lib.hid (fun W => isBin_any op W)
  have HAgg := Lib.hid (fun W => isAgg_any op W)
  obtain ⟨b, hb⟩ : ∃ b, takesB k op n = b := ⟨_, rfl⟩
  rw [hb]
  by_cases k3 : k = 3
  · subst k3
    have HB := Lib.hid hb
    clear hb HBin HAgg
    by_cases hn : n = 1
    · subst hn
      go_enter Tryz.func109, Tryz.ntmps109
      go_wp2
      all_goals
        go_ret
        exact ⟨ret_b (by rw [← HB.out]; clear HB; simp_all [takesB, inL, unL]), rfl⟩
    · have q1 : ((n : Int) == 1) = false := by simp; omega
      go_enter Tryz.func109, Tryz.ntmps109
      go_wp2
      go_ret
      exact ⟨ret_b (by rw [← HB.out]; simp [takesB, hn]), rfl⟩
  by_cases k4 : k = 4
  · subst k4
    have HB := Lib.hid hb
    clear hb HAgg k3
    by_cases hn : n = 2
    · subst hn
      go_enter Tryz.func109, Tryz.ntmps109
      go_wp2_with fail
      refine (HBin.out _).mono ?_
      rintro e w1 ⟨rfl, rfl⟩
      go_wp2
      go_ret
      exact ⟨ret_b (by rw [← HB.out]; simp [takesB]), rfl⟩
    · have q1 : ((n : Int) == 2) = false := by simp; omega
      go_enter Tryz.func109, Tryz.ntmps109
      go_wp2
      go_ret
      exact ⟨ret_b (by rw [← HB.out]; simp [takesB, hn]), rfl⟩
  by_cases k5 : k = 5
  · subst k5
    have HB := Lib.hid hb
    clear hb HAgg HBin k3 k4
    by_cases hn : n = 1
    · subst hn
      go_enter Tryz.func109, Tryz.ntmps109
      go_wp2
      all_goals
        go_ret
        exact ⟨ret_b (by rw [← HB.out]; clear HB; simp_all [takesB, inL, nullL]), rfl⟩
    · have q1 : ((n : Int) == 1) = false := by simp; omega
      go_enter Tryz.func109, Tryz.ntmps109
      go_wp2
      go_ret
      exact ⟨ret_b (by rw [← HB.out]; simp [takesB, hn]), rfl⟩
  by_cases k6 : k = 6
  · subst k6
    have HB := Lib.hid hb
    clear hb HBin k3 k4 k5
    obtain ⟨g, hg⟩ : ∃ g, inL aggL op = g := ⟨_, rfl⟩
    rw [hg] at HAgg
    have HG := Lib.hid hg
    clear hg
    have hn : n = 0 ∨ n = 1 ∨ (n ≠ 0 ∧ n ≠ 1) := by omega
    rcases hn with rfl | rfl | ⟨hn0, hn1⟩
    · cases g <;>
      · go_enter Tryz.func109, Tryz.ntmps109
        go_wp2_with fail
        refine (HAgg.out _).mono ?_
        rintro e w1 ⟨rfl, rfl⟩
        go_wp2
        all_goals
          go_ret
          exact ⟨ret_b (by rw [← HB.out]; have h := HG.out; clear HB HG HAgg; simp_all [takesB, inL, countL]), rfl⟩
    · cases g <;>
      · go_enter Tryz.func109, Tryz.ntmps109
        go_wp2_with fail
        refine (HAgg.out _).mono ?_
        rintro e w1 ⟨rfl, rfl⟩
        go_wp2
        all_goals
          go_ret
          exact ⟨ret_b (by rw [← HB.out]; have h := HG.out; clear HB HG HAgg; simp_all [takesB, countL]), rfl⟩
    · have q0 : ((n : Int) == 0) = false := by simp; omega
      have q1 : ((n : Int) == 1) = false := by simp; omega
      cases g <;>
      · go_enter Tryz.func109, Tryz.ntmps109
        go_wp2_with fail
        refine (HAgg.out _).mono ?_
        rintro e w1 ⟨rfl, rfl⟩
        go_wp2
        all_goals
          go_ret
          exact ⟨ret_b (by rw [← HB.out]; have h := HG.out; clear HB HG HAgg; simp_all [takesB]), rfl⟩
  by_cases k7 : k = 7
  · subst k7
    have HB := Lib.hid hb
    clear hb HBin HAgg k3 k4 k5 k6
    have hn : n = 4 ∨ n = 1 ∨ (n ≠ 4 ∧ n ≠ 1) := by omega
    rcases hn with rfl | rfl | ⟨hn0, hn1⟩
    · go_enter Tryz.func109, Tryz.ntmps109
      go_wp2
      all_goals
        go_ret
        exact ⟨ret_b (by rw [← HB.out]; clear HB; simp_all [takesB, inL, callL, lenL]), rfl⟩
    · go_enter Tryz.func109, Tryz.ntmps109
      go_wp2
      all_goals
        go_ret
        exact ⟨ret_b (by rw [← HB.out]; clear HB; simp_all [takesB, inL, callL, lenL]), rfl⟩
    · have q0 : ((n : Int) == 4) = false := by simp; omega
      have q1 : ((n : Int) == 1) = false := by simp; omega
      go_enter Tryz.func109, Tryz.ntmps109
      go_wp2
      all_goals
        go_ret
        exact ⟨ret_b (by rw [← HB.out]; clear HB; simp_all [takesB, inL, callL, lenL]), rfl⟩
  · have HB := Lib.hid hb
    have q3 : (k == 3) = false := by simpa using k3
    have q4 : (k == 4) = false := by simpa using k4
    have q5 : (k == 5) = false := by simpa using k5
    have q6 : (k == 6) = false := by simpa using k6
    have q7 : (k == 7) = false := by simpa using k7
    have hf : takesB k op n = false := by unfold takesB; simp [k3, k4, k5, k6, k7]
    have hbf : b = false := by rw [← hb, hf]
    subst hbf
    clear hb HBin HAgg hf k3 k4 k5 k6 k7 HB
    go_enter Tryz.func109, Tryz.ntmps109
    go_wp2
    go_ret
    exact ⟨rfl, rfl⟩

set_option maxHeartbeats 4000000 in
theorem valid_any (x : XM) (w : World) (hF : x.t.lab.fair) :
    Calls Tryz.prog 83 #[x.v] w fun e w' => e = .returned (.bool (x.t.lab.ok x.t.args.length)) ∧ Below w.heap.size w w' := by
  rw [XM.v_eq]
  obtain ⟨⟨⟨kd, ⟨vk, vn, vs⟩, tb, nm, op⟩, args⟩, a, cap⟩ := x
  simp only [Rose.lab, Rose.args] at hF ⊢
  have hvk := hF.k
  have hvn := hF.n
  have HN := Lib.hid (fun W => xName_any nm W hF.nm)
  have HT := Lib.hid (fun W => xName_any tb W hF.tb)
  have HR := Lib.hid (fun W => right_any vk vn vs W)
  generalize args.length = n at *
  have HTk := Lib.hid (fun W => takes_any kd op n W)
  have HX := Lib.hid (Slot8.new w 45 (.int .i64 kd) (.int .u8 vk) (.int .i64 vn) (.string vs) (.string tb) (.string nm) (.string op) (.slice a n cap))
  have HB0 : Hid (∀ o, Below w.heap.size w (w.alloc o)) := fun o => (Below.refl _ w).alloc (Nat.le_refl _) _
  obtain ⟨b, hb⟩ : ∃ b, Lb.ok ⟨kd, ⟨vk, vn, vs⟩, tb, nm, op⟩ n = b := ⟨_, rfl⟩
  rw [hb]
  clear hF
  simp only [Lb.ok, Vl.zeroB] at hb
  by_cases k1 : kd = 1
  · subst k1
    generalize Vl.right ⟨vk, vn, vs⟩ = r at *
    have HB := Lib.hid hb
    clear hb HN HT HTk
    cases r with
    | false =>
      go_enter Tryz.func83, Tryz.ntmps83
      go_wp2_with fail
      refine (HR.out _).mono ?_
      rintro e w1 ⟨rfl, hb1⟩
      have HB1 := Lib.hid ((HB0.out _).trans (hb1.mono (Nat.le_of_lt (box8 _ _))))
      obtain ⟨x0, x1, x2, x3, x4, x5, x6, x7⟩ := HX.out.later (box8 _ _) hb1
      clear hb1
      go_wp2
      all_goals
        go_ret
        exact ⟨ret_b (by rw [← HB.out]; simp), HB1.out⟩
    | true =>
      go_enter Tryz.func83, Tryz.ntmps83
      go_wp2_with fail
      refine (HR.out _).mono ?_
      rintro e w1 ⟨rfl, hb1⟩
      have HB1 := Lib.hid ((HB0.out _).trans (hb1.mono (Nat.le_of_lt (box8 _ _))))
      obtain ⟨x0, x1, x2, x3, x4, x5, x6, x7⟩ := HX.out.later (box8 _ _) hb1
      clear hb1
      go_wp2
      all_goals
        go_ret
        exact ⟨ret_b (by rw [← HB.out]; clear HB; first | (simp_all; done) | (simp_all; intros; omega)), HB1.out⟩
  by_cases k2 : kd = 2
  · subst k2
    generalize isX nm = rn at *
    generalize isX tb = rt at *
    have HB := Lib.hid hb
    clear hb HR HTk k1
    cases rn with
    | false =>
      go_enter Tryz.func83, Tryz.ntmps83
      go_wp2_with fail
      refine (HN.out _).mono ?_
      rintro e w1 ⟨rfl, hb1⟩
      have HB1 := Lib.hid ((HB0.out _).trans (hb1.mono (Nat.le_of_lt (box8 _ _))))
      obtain ⟨x0, x1, x2, x3, x4, x5, x6, x7⟩ := HX.out.later (box8 _ _) hb1
      clear hb1
      go_wp2
      all_goals
        go_ret
        exact ⟨ret_b (by rw [← HB.out]; clear HB; first | (simp_all; done) | (simp_all; intros; omega)), HB1.out⟩
    | true =>
      by_cases ht : tb.toList = []
      · have ht2 : tb.toList.isEmpty = true := by rw [ht]; rfl
        clear HT
        go_enter Tryz.func83, Tryz.ntmps83
        go_wp2_with fail
        refine (HN.out _).mono ?_
        rintro e w1 ⟨rfl, hb1⟩
        have HB1 := Lib.hid ((HB0.out _).trans (hb1.mono (Nat.le_of_lt (box8 _ _))))
        obtain ⟨x0, x1, x2, x3, x4, x5, x6, x7⟩ := HX.out.later (box8 _ _) hb1
        clear hb1
        rw [ht2] at HB
        go_wp2
        all_goals
          go_ret
          exact ⟨ret_b (by rw [← HB.out]; clear HB; first | (simp_all; done) | (simp_all; intros; omega)), HB1.out⟩
      · have ht2 : tb.toList.isEmpty = false := by simpa using ht
        have ht3 : (!tb.toList.isEmpty) = true := by rw [ht2]; rfl
        cases rt <;>
        · go_enter Tryz.func83, Tryz.ntmps83
          go_wp2_with fail
          refine (HN.out _).mono ?_
          rintro e w1 ⟨rfl, hb1⟩
          have HB1 := Lib.hid ((HB0.out _).trans (hb1.mono (Nat.le_of_lt (box8 _ _))))
          have HX1 := Lib.hid (HX.out.later (box8 _ _) hb1)
          have hs1 := Nat.lt_of_lt_of_le (box8 w (.cells #[.int .i64 2, .int .u8 vk, .int .i64 vn, .string vs, .string tb, .string nm, .string op, .slice a n cap] 45)) hb1.size
          obtain ⟨x0, x1, x2, x3, x4, x5, x6, x7⟩ := HX1.out
          clear hb1
          go_wp2_with fail
          refine (HT.out _).mono ?_
          rintro e w2 ⟨rfl, hb2⟩
          have HB2 := Lib.hid (HB1.out.trans (hb2.mono HB1.out.size))
          clear x0 x1 x2 x3 x4 x5 x6 x7
          obtain ⟨x0, x1, x2, x3, x4, x5, x6, x7⟩ := HX1.out.later hs1 hb2
          clear hb2 hs1
          go_wp2
          all_goals
            go_ret
            exact ⟨ret_b (by rw [← HB.out]; clear HB; first | (simp_all; done) | (simp_all; intros; omega)), HB2.out⟩
  · have q1 : (kd == 1) = false := by simpa using k1
    have q2 : (kd == 2) = false := by simpa using k2
    rw [if_neg k1, if_neg k2] at hb
    generalize takesB kd op n = r at *
    have HB := Lib.hid hb
    clear hb HR HN HT k1 k2
    cases r with
    | false =>
      go_enter Tryz.func83, Tryz.ntmps83
      go_wp2_with fail
      refine (HTk.out _).mono ?_
      rintro e w1 ⟨rfl, rfl⟩
      have HB1 := Lib.hid (HB0.out (.cells #[.int .i64 kd, .int .u8 vk, .int .i64 vn, .string vs, .string tb, .string nm, .string op, .slice a n cap] 45))
      go_wp2
      all_goals
        go_ret
        exact ⟨ret_b (by rw [← HB.out]; clear HB; first | (simp_all; done) | (simp_all; intros; omega)), HB1.out⟩
    | true =>
      go_enter Tryz.func83, Tryz.ntmps83
      go_wp2_with fail
      refine (HTk.out _).mono ?_
      rintro e w1 ⟨rfl, rfl⟩
      go_wp2
      all_goals
        go_ret
        exact ⟨ret_b (by rw [← HB.out]; clear HB; first | (simp_all; done) | (simp_all; intros; omega)), HB0.out _⟩
end Go.Proofs.YtbnddpicpomakaaGreatDoor

/- The walks of Count, Great, deep over an expression's tree. -/
set_option linter.unusedSimpArgs false
set_option linter.unusedVariables false
set_option maxRecDepth 100000
namespace Go.Proofs.YtbnddpicpomakaaGreatDoor
open Go.RowKit

def cntTo (args : List Ex) (least k : Nat) : Nat := min (least + 1 + ((args.take k).map Rose.count).sum) 3000
theorem sum_take_succ {l : List Ex} {k : Nat} (hk : k < l.length) : ((l.take (k + 1)).map Rose.count).sum = ((l.take k).map Rose.count).sum + l[k].count := by
  rw [List.take_succ_eq_append_getElem hk, List.map_append, List.sum_append]; simp
theorem cntTo_succ {args : List Ex} {least k : Nat} (hk : k < args.length) : cntTo args least (k + 1) = min (cntTo args least k + args[k].count) 3000 := by
  unfold cntTo; rw [sum_take_succ hk]; omega
theorem cntTo_le (args : List Ex) (least k : Nat) : cntTo args least k ≤ 3000 := by unfold cntTo; omega
theorem sum_take_le (l : List Ex) (k : Nat) : ((l.take k).map Rose.count).sum ≤ (l.map Rose.count).sum := by
  have h : (l.map Rose.count).sum = ((l.take k).map Rose.count).sum + ((l.drop k).map Rose.count).sum := by
    rw [← List.sum_append, ← List.map_append, List.take_append_drop]
  omega
theorem cntTo_end (e : Ex) (least : Nat) : cntTo e.args least e.args.length = min (least + e.count) 3000 := by
  unfold cntTo; rw [List.take_length, Rose.count_eq]; congr 1; omega
theorem cntTo_full {e : Ex} {least k : Nat} (h : 3000 ≤ cntTo e.args least k) : cntTo e.args least k = min (least + e.count) 3000 := by
  have h1 := sum_take_le e.args k
  have h2 := e.count_eq
  unfold cntTo at h ⊢; omega

def depTo (args : List Ex) (most k : Nat) : Nat := min most (1 + maxL ((args.take k).map Rose.depth))
theorem maxL_take_succ {l : List Ex} {k : Nat} (hk : k < l.length) : maxL ((l.take (k + 1)).map Rose.depth) = max (maxL ((l.take k).map Rose.depth)) l[k].depth := by
  rw [List.take_succ_eq_append_getElem hk, List.map_append]; simp [maxL_snoc]
theorem depTo_succ {args : List Ex} {most k : Nat} (hk : k < args.length) (h : depTo args most k ≠ most) : depTo args most (k + 1) = max (depTo args most k) (1 + min args[k].depth (most - 1)) := by
  have := args[k].depth_pos
  unfold depTo at h ⊢; rw [maxL_take_succ hk]; omega
theorem maxL_take_le (l : List Ex) (k : Nat) : maxL ((l.take k).map Rose.depth) ≤ maxL (l.map Rose.depth) := by
  rw [maxL_le]
  intro x hx
  obtain ⟨y, hy, rfl⟩ := List.mem_map.1 hx
  exact maxL_mem (List.mem_map.2 ⟨y, List.mem_of_mem_take hy, rfl⟩)
theorem depTo_end (e : Ex) (most : Nat) : depTo e.args most e.args.length = min e.depth most := by
  unfold depTo; rw [List.take_length, Rose.depth_eq]; omega
theorem depTo_full {e : Ex} {most k : Nat} (h : depTo e.args most k = most) : min e.depth most = most := by
  have h1 := maxL_take_le e.args k
  have h2 := e.depth_eq
  unfold depTo at h; omega
theorem depTo_le (args : List Ex) (most k : Nat) : depTo args most k ≤ most := by unfold depTo; omega

theorem ret_k {a b : Nat} (h : a = b) : Ending.returned (.int .i64 (a : Int)) = .returned (.int .i64 (b : Int)) := by rw [h]
/-- The cells of an argument. -/
structure KidAt (w : World) (b o : Nat) (y : XM) : Prop where
  c0 : w.cell? ⟨b, o, none⟩ = some (.int .i64 y.t.lab.kd)
  c1 : w.cell? ⟨b, o + 1, none⟩ = some (.int .u8 y.t.lab.v.k)
  c2 : w.cell? ⟨b, o + 2, none⟩ = some (.int .i64 y.t.lab.v.n)
  c3 : w.cell? ⟨b, o + 3, none⟩ = some (.string y.t.lab.v.s)
  c4 : w.cell? ⟨b, o + 4, none⟩ = some (.string y.t.lab.tb)
  c5 : w.cell? ⟨b, o + 5, none⟩ = some (.string y.t.lab.nm)
  c6 : w.cell? ⟨b, o + 6, none⟩ = some (.string y.t.lab.op)
  c7 : w.cell? ⟨b, o + 7, none⟩ = some (.slice y.a y.t.args.length y.cap)
theorem XAt.kid8 {N : Nat} {w : World} {n : Nat} {x : XM} (h : XAt N w (n + 1) x) {k : Nat} (hk : k < x.t.args.length) :
    ∃ y : XM, y.t = x.t.args[k] ∧ XAt N w n y ∧ ∃ b o, x.a = some ⟨b, o, none⟩ ∧ b < N ∧ KidAt w b (o + k * 8) y := by
  obtain ⟨y, h1, h2, b, o, h3, h4, h5⟩ := h.kid hk
  exact ⟨y, h1, h2, b, o, h3, h4, h5 0 _ rfl, h5 1 _ rfl, h5 2 _ rfl, h5 3 _ rfl, h5 4 _ rfl, h5 5 _ rfl, h5 6 _ rfl, h5 7 _ rfl⟩

/-- The argument of a call, spelled. -/
def XM.s (x : XM) : Value := .agg #[.int .i64 x.t.lab.kd, .int .u8 x.t.lab.v.k, .int .i64 x.t.lab.v.n, .string x.t.lab.v.s, .string x.t.lab.tb, .string x.t.lab.nm, .string x.t.lab.op, .slice x.a x.t.args.length x.cap]

set_option maxHeartbeats 2000000 in
theorem xCnt_any : ∀ (n : Nat) (x : XM) (w : World) (least : Nat), XAt w.heap.size w n x → least ≤ 2999 →
    Calls Tryz.prog 15 #[x.v, .int .i64 (least : Int)] w fun e w' => e = .returned (.int .i64 ((min (least + x.t.count) 3000 : Nat) : Int)) ∧ Below w.heap.size w w'
  | 0, _, _, _, h, _ => h.elim
  | n + 1, ⟨t, a, cap⟩, w, least, h, hl => by
    rw [XM.v_eq]
    have HA := Lib.hid h
    have hlen := h.fair.2.1
    have hcap := h.fair.2.2
    simp only at hlen hcap ⊢
    obtain ⟨r, hr⟩ : ∃ r : Nat, min (least + t.count) 3000 = r := ⟨_, rfl⟩
    have HE := Lib.hid (cntTo_end t least)
    have HFu := Lib.hid (fun k => @cntTo_full t least k)
    rw [hr] at HE HFu ⊢
    clear hr
    obtain ⟨m, hm⟩ : ∃ m, t.args.length = m := ⟨_, rfl⟩
    rw [hm] at hlen
    have HM := Lib.hid hm
    have IH : Hid (∀ (y : XM) (W : World) (q : Nat), XAt W.heap.size W n y → q ≤ 2999 → Calls Tryz.prog 15 #[.agg #[.int .i64 y.t.lab.kd, .int .u8 y.t.lab.v.k, .int .i64 y.t.lab.v.n, .string y.t.lab.v.s, .string y.t.lab.tb, .string y.t.lab.nm, .string y.t.lab.op, .slice y.a y.t.args.length y.cap], .int .i64 (q : Int)] W fun e w' => e = .returned (.int .i64 ((min (q + y.t.count) 3000 : Nat) : Int)) ∧ Below W.heap.size W w') := fun y W q hy hq => by
      have := xCnt_any n y W q hy hq
      rw [XM.v_eq] at this; exact this
    rw [hm]
    have HS := Lib.hid (Slot8.new w 45 (.int .i64 t.lab.kd) (.int .u8 t.lab.v.k) (.int .i64 t.lab.v.n) (.string t.lab.v.s) (.string t.lab.tb) (.string t.lab.nm) (.string t.lab.op) (.slice a m cap))
    obtain ⟨w0, hw0⟩ : ∃ w0, w.alloc (.cells #[.int .i64 t.lab.kd, .int .u8 t.lab.v.k, .int .i64 t.lab.v.n, .string t.lab.v.s, .string t.lab.tb, .string t.lab.nm, .string t.lab.op, .slice a m cap] 45) = w0 := ⟨_, rfl⟩
    have HB0 : Hid (Below w.heap.size w w0) := by rw [← hw0]; exact (Below.refl _ w).alloc (Nat.le_refl _) _
    have hs0 : w.heap.size < w0.heap.size := by rw [← hw0]; simp
    rw [hw0] at HS
    have HQ : Hid ((least : Int) + 1 = ((cntTo t.args least 0 : Nat) : Int)) := by unfold cntTo; simp [Hid]; omega
    clear h hm
    have HC := Lib.hid (fun k (hk : k < t.args.length) => @cntTo_succ t.args least k hk)
    have HC3 := Lib.hid (cntTo_le t.args least)
    generalize cntTo t.args least = C at *
    go_enter Tryz.func15, Tryz.ntmps15
    go_wp2
    go_loopw [5, 6] (fun c i wr => ∃ k : Nat, k ≤ m ∧ i = .int .i64 (k : Int) ∧ c = .int .i64 ((C k : Nat) : Int) ∧ Hid (Below w0.heap.size w0 wr)) (fun _ i _ => m - (intOf i).toNat)
    case atStart => exact ⟨0, by omega, rfl, by rw [← HQ.out], Below.refl _ _⟩
    case round =>
      obtain ⟨k, hk, rfl, rfl, HBr⟩ := hrel
      have hc3 := HC3.out k
      obtain ⟨x0, x1, x2, x3, x4, x5, x6, x7⟩ := HS.out.later hs0 HBr.out
      by_cases hlt : k < m
      · by_cases hlc : C k < 3000
        · have HBw := Lib.hid (HB0.out.trans (HBr.out.mono HB0.out.size))
          obtain ⟨y, hy, hAy, b, o, hab, hbN, hKid⟩ := (HA.out.later HBw.out).kid8 (k := k) (by rw [HM.out]; exact hlt)
          simp only at hab
          subst hab
          have HCk := HC.out k (by rw [HM.out]; exact hlt)
          rw [← hy] at HCk
          have HCk := Lib.hid HCk
          have HY := Lib.hid (IH.out y wr (C k) hAy (by omega))
          obtain ⟨y0, y1, y2, y3, y4, y5, y6, y7⟩ := hKid
          clear hy hAy HA IH HFu HE
          go_wp2_with fail
          refine HY.out.mono ?_
          rintro e w2 ⟨rfl, hb2⟩
          have HB2 := Lib.hid (HBr.out.trans (hb2.mono HBr.out.size))
          clear hb2 HY y0 y1 y2 y3 y4 y5 y6 y7 x0 x1 x2 x3 x4 x5 x6 x7
          go_wp2
          go_roundw
          case rel => exact ⟨k + 1, by omega, by go_num, by rw [HCk.out], HB2.out⟩
          case measure => simp [intOf]; omega
        · have q1 : decide (C k < 3000) = false := by simpa using hlc
          have HR : Hid (C k = r) := HFu.out k (by omega)
          go_wp2
          go_ret
          exact ⟨ret_k HR.out, HB0.out.trans (HBr.out.mono HB0.out.size)⟩
      · have q0 : decide (k < m) = false := by simpa using hlt
        have HR : Hid (C k = r) := by rw [show k = m by omega, ← HM.out]; exact HE.out
        go_wp2
        go_ret
        exact ⟨ret_k HR.out, HB0.out.trans (HBr.out.mono HB0.out.size)⟩

set_option maxHeartbeats 2000000 in
theorem Great_any : ∀ (n : Nat) (x : XM) (w : World) (left : Nat), XAt w.heap.size w n x → left ≤ 1000 →
    Calls Tryz.prog 16 #[x.v, .int .i64 (left : Int)] w fun e w' => e = .returned (.bool (greatX left x.t)) ∧ Below w.heap.size w w'
  | 0, _, _, _, h, _ => h.elim
  | n + 1, ⟨t, a, cap⟩, w, left, h, hl => by
    rw [XM.v_eq]
    have HA := Lib.hid h
    have hlen := h.fair.2.1
    have hcap := h.fair.2.2
    have hF := h.fair.1
    simp only at hlen hcap hF ⊢
    obtain ⟨r, hr⟩ : ∃ r, greatX left t = r := ⟨_, rfl⟩
    rw [hr]
    have hs3 := hF.s
    have hs4 := hF.tb
    have hs5 := hF.nm
    have hs6 := hF.op
    obtain ⟨m, hm⟩ : ∃ m, t.args.length = m := ⟨_, rfl⟩
    rw [hm] at hlen ⊢
    have HM := Lib.hid hm
    have HB0 : Hid (∀ o, Below w.heap.size w (w.alloc o)) := fun o => (Below.refl _ w).alloc (Nat.le_refl _) _
    by_cases hbig : left = 0 ∨ t.lab.big m = true
    · have hrt : r = true := by
        rw [← hr]
        cases left with
        | zero => rfl
        | succ l => rcases hbig with h0 | h0
                    · omega
                    · rw [greatX, hm, h0]; rfl
      subst hrt
      clear hr h hm HM HA hF
      rcases hbig with hbig | hbig
      · have q0 : ((left : Int) == 0) = true := by simp; omega
        clear hbig hl
        go_enter Tryz.func16, Tryz.ntmps16
        go_wp2
        all_goals (go_ret; exact ⟨rfl, HB0.out _⟩)
      · unfold Lb.big at hbig
        simp only [Bool.or_eq_true, decide_eq_true_iff] at hbig
        go_enter Tryz.func16, Tryz.ntmps16
        go_wp2
        all_goals first | (go_ret; exact ⟨rfl, HB0.out _⟩) | (exfalso; omega)
    · obtain ⟨l, rfl⟩ : ∃ l, left = l + 1 := ⟨left - 1, by have : ¬ left = 0 := fun h => hbig (.inl h); omega⟩
      have hb2 : t.lab.big m = false := by
        cases hb : t.lab.big m with
        | true => exact absurd (.inr hb) hbig
        | false => rfl
      rw [greatX, hm, hb2, Bool.false_or] at hr
      unfold Lb.big at hb2
      simp only [Bool.or_eq_false_iff, decide_eq_false_iff_not] at hb2
      obtain ⟨⟨g1, g2⟩, g3⟩ := hb2
      have HR := Lib.hid hr
      have IH : Hid (∀ (y : XM) (W : World), XAt W.heap.size W n y → Calls Tryz.prog 16 #[.agg #[.int .i64 y.t.lab.kd, .int .u8 y.t.lab.v.k, .int .i64 y.t.lab.v.n, .string y.t.lab.v.s, .string y.t.lab.tb, .string y.t.lab.nm, .string y.t.lab.op, .slice y.a y.t.args.length y.cap], .int .i64 (l : Int)] W fun e w' => e = .returned (.bool (greatX l y.t)) ∧ Below W.heap.size W w') := fun y W hy => by
        have := Great_any n y W l hy (by omega)
        rw [XM.v_eq] at this; exact this
      have HS := Lib.hid (Slot8.new w 45 (.int .i64 t.lab.kd) (.int .u8 t.lab.v.k) (.int .i64 t.lab.v.n) (.string t.lab.v.s) (.string t.lab.tb) (.string t.lab.nm) (.string t.lab.op) (.slice a m cap))
      have hn5 : ((t.lab.nm.size : Nat) : Int) ≤ 100 := by omega
      have hn4 : ((t.lab.tb.size : Nat) : Int) ≤ 100 := by omega
      have hn6 : ((t.lab.op.size : Nat) : Int) ≤ 100 := by omega
      have q0 : ((((l + 1 : Nat) : Int)) == 0) = false := by simp; omega
      have q1 : decide ((6 : Int) < (m : Int)) = false := by simp; omega
      have q2 : decide ((100 : Int) < (t.lab.nm.size : Int) + (t.lab.tb.size : Int) + (t.lab.op.size : Int)) = false := by simp; omega
      have q3 : decide ((200 : Int) < (t.lab.v.s.size : Int)) = false := by simp; omega
      have hl1 : IntKind.i64.wrap (((l + 1 : Nat) : Int) - 1) = (l : Int) := by rw [show ((l + 1 : Nat) : Int) - 1 = (l : Int) by omega]; exact IntWalk.i64_in _ (by omega)
      clear h hm hbig hr hF
      obtain ⟨w0, hw0⟩ : ∃ w0, w.alloc (.cells #[.int .i64 t.lab.kd, .int .u8 t.lab.v.k, .int .i64 t.lab.v.n, .string t.lab.v.s, .string t.lab.tb, .string t.lab.nm, .string t.lab.op, .slice a m cap] 45) = w0 := ⟨_, rfl⟩
      have HB1 : Hid (Below w.heap.size w w0) := by rw [← hw0]; exact HB0.out _
      have hs0 : w.heap.size < w0.heap.size := by rw [← hw0]; simp
      rw [hw0] at HS
      generalize hL : ((l + 1 : Nat) : Int) = L at *
      clear HB0
      obtain ⟨x0, x1, x2, x3, x4, x5, x6, x7⟩ := HS.out
      go_enter Tryz.func16, Tryz.ntmps16
      go_wp2
      clear x0 x1 x2 x3 x4 x5 x6 x7
      go_loopw [5] (fun i wr => ∃ k : Nat, k ≤ m ∧ i = .int .i64 (k : Int) ∧ Hid ((t.args.take k).any (greatX l) = false) ∧ Hid (Below w0.heap.size w0 wr)) (fun i _ => m - (intOf i).toNat)
      case atStart => exact ⟨0, by omega, rfl, by simp [Hid], Below.refl _ _⟩
      case round =>
        obtain ⟨k, hk, rfl, HG, HBr⟩ := hrel
        obtain ⟨x0, x1, x2, x3, x4, x5, x6, x7⟩ := HS.out.later hs0 HBr.out
        have HBw := Lib.hid (HB1.out.trans (HBr.out.mono HB1.out.size))
        by_cases hlt : k < m
        · have hkl : k < t.args.length := by rw [HM.out]; exact hlt
          obtain ⟨y, hy, hAy, b, o, hab, hbN, hKid⟩ := (HA.out.later HBw.out).kid8 (k := k) hkl
          simp only at hab hy
          subst hab
          have HTk : Hid ((t.args.take (k + 1)).any (greatX l) = (greatX l y.t)) := by
            rw [List.take_succ_eq_append_getElem hkl, List.any_append, HG.out, ← hy]; simp [Hid]
          have HTr : Hid (greatX l y.t = true → r = true) := fun hg => by
            rw [← HR.out, List.any_eq_true]
            exact ⟨_, List.getElem_mem hkl, by rw [← hy]; exact hg⟩
          have HY := Lib.hid (IH.out y wr hAy)
          obtain ⟨g, hg⟩ : ∃ g, greatX l y.t = g := ⟨_, rfl⟩
          rw [hg] at HY HTk HTr
          obtain ⟨y0, y1, y2, y3, y4, y5, y6, y7⟩ := hKid
          clear hy hAy HA IH hg hkl HG
          cases g with
          | true =>
            have hrt : r = true := HTr.out rfl
            subst hrt
            go_wp2_with fail
            refine HY.out.mono ?_
            rintro e w2 ⟨rfl, hb2⟩
            have HB2 := Lib.hid (HBw.out.trans (hb2.mono HBw.out.size))
            clear hb2 HY
            go_wp2
            go_ret
            exact ⟨rfl, HB2.out⟩
          | false =>
            go_wp2_with fail
            refine HY.out.mono ?_
            rintro e w2 ⟨rfl, hb2⟩
            have HB2 := Lib.hid (HBr.out.trans (hb2.mono HBr.out.size))
            clear hb2 HY y0 y1 y2 y3 y4 y5 y6 y7 x0 x1 x2 x3 x4 x5 x6 x7
            go_wp2
            go_roundw
            case rel => exact ⟨k + 1, by omega, by go_num, HTk.out, HB2.out⟩
            case measure => simp [intOf]; omega
        · have hrf : r = false := by
            have := HG.out
            rw [show k = m by omega, ← HM.out, List.take_length] at this
            rw [← HR.out]; exact this
          subst hrf
          go_wp2
          go_ret
          exact ⟨rfl, HBw.out⟩
end Go.Proofs.YtbnddpicpomakaaGreatDoor

/- The walks of deep, right and what right calls; of Deep and Right. -/
set_option linter.unusedSimpArgs false
set_option linter.unusedVariables false
set_option maxRecDepth 100000
namespace Go.Proofs.YtbnddpicpomakaaGreatDoor
open Go.RowKit

theorem int_max {a b c : Nat} (h : c = max a (1 + b)) : Value.int .i64 (if (a : Int) < 1 + (b : Int) then 1 + (b : Int) else (a : Int)) = .int .i64 (c : Int) := by
  subst h; congr 1; split <;> omega
theorem int_max2 {a b c : Nat} (h : c = max a (1 + b)) : Value.int .i64 (max (a : Int) (1 + (b : Int))) = .int .i64 (c : Int) := by
  subst h; congr 1; omega
set_option maxHeartbeats 2000000 in
theorem deep_any : ∀ (n : Nat) (x : XM) (w : World) (most : Nat), XAt w.heap.size w n x → 1 ≤ most → most ≤ 1000 →
    Calls Tryz.prog 46 #[x.v, .int .i64 (most : Int)] w fun e w' => e = .returned (.int .i64 ((min x.t.depth most : Nat) : Int)) ∧ Below w.heap.size w w'
  | 0, _, _, _, h, _, _ => h.elim
  | n + 1, ⟨t, a, cap⟩, w, most, h, hl1, hl2 => by
    rw [XM.v_eq]
    have HA := Lib.hid h
    have hlen := h.fair.2.1
    have hcap := h.fair.2.2
    simp only at hlen hcap ⊢
    obtain ⟨r, hr⟩ : ∃ r : Nat, min t.depth most = r := ⟨_, rfl⟩
    have HE := Lib.hid (depTo_end t most)
    have HFu := Lib.hid (fun k => @depTo_full t most k)
    rw [hr] at HE HFu ⊢
    clear hr
    obtain ⟨m, hm⟩ : ∃ m, t.args.length = m := ⟨_, rfl⟩
    rw [hm] at hlen
    have HM := Lib.hid hm
    have IH : Hid (∀ (y : XM) (W : World) (q : Nat), XAt W.heap.size W n y → 1 ≤ q → q ≤ 1000 → Calls Tryz.prog 46 #[.agg #[.int .i64 y.t.lab.kd, .int .u8 y.t.lab.v.k, .int .i64 y.t.lab.v.n, .string y.t.lab.v.s, .string y.t.lab.tb, .string y.t.lab.nm, .string y.t.lab.op, .slice y.a y.t.args.length y.cap], .int .i64 (q : Int)] W fun e w' => e = .returned (.int .i64 ((min y.t.depth q : Nat) : Int)) ∧ Below W.heap.size W w') := fun y W q hy hq hq2 => by
      have := deep_any n y W q hy hq hq2
      rw [XM.v_eq] at this; exact this
    rw [hm]
    have HS := Lib.hid (Slot8.new w 45 (.int .i64 t.lab.kd) (.int .u8 t.lab.v.k) (.int .i64 t.lab.v.n) (.string t.lab.v.s) (.string t.lab.tb) (.string t.lab.nm) (.string t.lab.op) (.slice a m cap))
    obtain ⟨w0, hw0⟩ : ∃ w0, w.alloc (.cells #[.int .i64 t.lab.kd, .int .u8 t.lab.v.k, .int .i64 t.lab.v.n, .string t.lab.v.s, .string t.lab.tb, .string t.lab.nm, .string t.lab.op, .slice a m cap] 45) = w0 := ⟨_, rfl⟩
    have HB0 : Hid (Below w.heap.size w w0) := by rw [← hw0]; exact (Below.refl _ w).alloc (Nat.le_refl _) _
    have hs0 : w.heap.size < w0.heap.size := by rw [← hw0]; simp
    rw [hw0] at HS
    have HQ : Hid (depTo t.args most 0 = 1) := by unfold depTo; simp [Hid, maxL]; omega
    clear h hm
    have HC := Lib.hid (fun k (hk : k < t.args.length) => @depTo_succ t.args most k hk)
    have HC3 := Lib.hid (depTo_le t.args most)
    have HC1 : Hid (∀ k, 1 ≤ depTo t.args most k) := fun k => by unfold depTo; omega
    generalize depTo t.args most = C at *
    obtain ⟨x0, x1, x2, x3, x4, x5, x6, x7⟩ := HS.out
    go_enter Tryz.func46, Tryz.ntmps46
    go_wp2
    clear x0 x1 x2 x3 x4 x5 x6 x7 HS
    go_loopw [5, 11] (fun c i wr => ∃ k : Nat, k ≤ m ∧ i = .int .i64 (k : Int) ∧ c = .int .i64 ((C k : Nat) : Int) ∧ Hid (Below w0.heap.size w0 wr)) (fun _ i _ => m - (intOf i).toNat)
    case atStart => exact ⟨0, by omega, rfl, by rw [HQ.out]; rfl, Below.refl _ _⟩
    case round =>
      obtain ⟨k, hk, rfl, rfl, HBr⟩ := hrel
      have hc3 := HC3.out k
      have HBw := Lib.hid (HB0.out.trans (HBr.out.mono HB0.out.size))
      by_cases hlt : k < m
      · obtain ⟨y, hy, hAy, b, o, hab, hbN, hKid⟩ := (HA.out.later HBw.out).kid8 (k := k) (by rw [HM.out]; exact hlt)
        simp only at hab
        subst hab
        obtain ⟨y0, y1, y2, y3, y4, y5, y6, y7⟩ := hKid
        by_cases hlc : C k = most
        · have q1 : ((C k : Int) == (most : Int)) = true := by simp; omega
          have HR : Hid (most = r) := (HFu.out k hlc).symm
          go_wp2
          go_ret
          exact ⟨ret_k HR.out, HBw.out.trans (((Below.refl _ wr).alloc (Nat.le_refl _) _).mono HBw.out.size)⟩
        · have q1 : ((C k : Int) == (most : Int)) = false := by simp; omega
          have HCk := HC.out k (by rw [HM.out]; exact hlt) hlc
          rw [← hy] at HCk
          have hm2 : 2 ≤ most ∧ C k < most := by
            have := HC1.out k
            omega
          have HCk := Lib.hid HCk
          obtain ⟨q, rfl⟩ : ∃ q, most = q + 1 := ⟨most - 1, by omega⟩
          have HY := Lib.hid (fun W (hb : Below wr.heap.size wr W) => IH.out y W q (RoseAt.later hAy hb) (by omega) (by omega))
          have hq1 : IntKind.i64.wrap (((q + 1 : Nat) : Int) - 1) = (q : Int) := by rw [show ((q + 1 : Nat) : Int) - 1 = (q : Int) by omega]; exact IntWalk.i64_in _ (by omega)
          rw [show q + 1 - 1 = q by omega] at HCk
          obtain ⟨d, hd⟩ : ∃ d, min y.t.depth q = d := ⟨_, rfl⟩
          have hdq : d ≤ q := by omega
          rw [hd] at HCk
          have HY2 : Hid (∀ W, Below wr.heap.size wr W → Calls Tryz.prog 46 #[.agg #[.int .i64 y.t.lab.kd, .int .u8 y.t.lab.v.k, .int .i64 y.t.lab.v.n, .string y.t.lab.v.s, .string y.t.lab.tb, .string y.t.lab.nm, .string y.t.lab.op, .slice y.a y.t.args.length y.cap], .int .i64 (q : Int)] W fun e w' => e = .returned (.int .i64 (d : Int)) ∧ Below W.heap.size W w') := fun W hb => by have := HY.out W hb; rw [hd] at this; exact this
          clear hy hAy HA IH HFu HE HY hd hm2
          generalize hQ : ((q + 1 : Nat) : Int) = Q at *
          go_wp2_with fail
          refine (HY2.out _ ((Below.refl _ _).alloc (Nat.le_refl _) _)).mono ?_
          rintro e w2 ⟨rfl, hb2⟩
          have HB2 := Lib.hid (HBr.out.trans ((((Below.refl _ wr).alloc (Nat.le_refl _) _).trans (hb2.mono (by simp))).mono HBr.out.size))
          clear hb2 HY2 y0 y1 y2 y3 y4 y5 y6 y7
          go_wp2
          go_roundw
          case rel => exact ⟨k + 1, by omega, by go_num, (by first | exact int_max HCk.out | exact int_max2 HCk.out), HB2.out⟩
          case measure => simp [intOf]; omega
      · have q0 : decide (k < m) = false := by simpa using hlt
        have HR : Hid (C k = r) := by rw [show k = m by omega, ← HM.out]; exact HE.out
        go_wp2
        go_ret
        exact ⟨ret_k HR.out, HBw.out⟩

theorem Deep_any (n : Nat) (x : XM) (w : World) (h : XAt w.heap.size w n x) :
    Calls Tryz.prog 24 #[x.v] w fun e w' => e = .returned (.int .i64 ((min x.t.depth 21 : Nat) : Int)) ∧ Below w.heap.size w w' := by
  have HD := Lib.hid (fun W (hb : Below w.heap.size w W) => deep_any n x W 21 (h.later hb) (by omega) (by omega))
  have HX := Lib.hid (Slot8.new w 45 (.int .i64 x.t.lab.kd) (.int .u8 x.t.lab.v.k) (.int .i64 x.t.lab.v.n) (.string x.t.lab.v.s) (.string x.t.lab.tb) (.string x.t.lab.nm) (.string x.t.lab.op) (.slice x.a x.t.args.length x.cap))
  have HB0 : Hid (∀ o, Below w.heap.size w (w.alloc o)) := fun o => (Below.refl _ w).alloc (Nat.le_refl _) _
  rw [XM.v_eq] at HD ⊢
  generalize min x.t.depth 21 = d at *
  clear h
  obtain ⟨x0, x1, x2, x3, x4, x5, x6, x7⟩ := HX.out
  go_enter Tryz.func24, Tryz.ntmps24
  go_wp2_with fail
  refine (HD.out _ (HB0.out _)).mono ?_
  rintro e w1 ⟨rfl, hb1⟩
  have HB1 := Lib.hid ((HB0.out _).trans (hb1.mono (Nat.le_of_lt (box8 _ _))))
  clear hb1 x0 x1 x2 x3 x4 x5 x6 x7
  go_wp2
  go_ret
  exact ⟨rfl, HB1.out⟩
end Go.Proofs.YtbnddpicpomakaaGreatDoor

/- The walk of token.Write. -/
set_option linter.unusedSimpArgs false
set_option linter.unusedVariables false
set_option maxRecDepth 100000
namespace Go.Proofs.YtbnddpicpomakaaGreatDoor
open Go.RowKit

theorem extraJoin : Builder.Extra Tryz.prog Tryz.laysJoin_ren := {
  sizeBuilder := by kernel_rfl
  liesBuilder := by kernel_rfl
  t5 := Tryz.underlying5
  a5 := Tryz.isAgg5
  z5 := Tryz.sizeOf5
  v5 := Tryz.zeroValue5
  infoByte := by kernel_rfl
  cellsByte := by kernel_rfl
  sizeByte := by kernel_rfl
  neB5 := by decide }

/-- Strings with another one between them. -/
def joinL (xs : List ByteArray) (sep : ByteArray) : List UInt8 := Lib.join (xs.map (·.data.toList)) sep.data.toList
def joinS (xs : List ByteArray) (sep : ByteArray) : ByteArray := baL (joinL xs sep)

theorem Join_any (xs : List ByteArray) (sep : ByteArray) (a : Option Addr) (c : Nat) (w : World) (hA : Arr w.heap.size w a (cellsS xs)) (hc : xs.length ≤ c) (hn : xs.length ≤ 100000000) (hl : (joinL xs sep).length ≤ 140737488355328) :
    Calls Tryz.prog 36 #[.slice a xs.length c, .string sep] w fun e w' => e = .returned (.string (joinS xs sep)) ∧ Below w.heap.size w w' := by
  by_cases h0 : xs = []
  · subst h0
    refine (Any.strings_Join_none { Tryz.laysJoin with } extraJoin a c sep w).mono ?_
    rintro e w' ⟨rfl, rfl⟩
    exact ⟨rfl, Below.refl _ _⟩
  · have hk : 0 < xs.length := by cases xs with | nil => exact absurd rfl h0 | cons x r => simp
    obtain ⟨b, o, rfl, hb, -⟩ := strAt hA hk
    refine (Any.strings_Join { Tryz.laysJoin with } extraJoin b o c xs sep w ?_ hb (by omega) hc hl).mono fun e w' h => h
    intro j x hj
    have hjl : j < xs.length := (List.getElem?_eq_some_iff.1 hj).1
    obtain ⟨b', o', he, -, hcell⟩ := strAt hA hjl
    injection he with he
    injection he with e1 e2
    subst e1 e2
    rw [List.getElem?_eq_getElem hjl] at hj
    injection hj with hj
    subst hj
    exact hcell

/-- The texts of tokens. -/
def textsTk (l : List Tk) : List ByteArray := l.filterMap fun t => if t.text.2 then some t.text.1 else none
theorem textsTk_take {l : List Tk} {k : Nat} (h : k < l.length) : textsTk (l.take (k + 1)) = textsTk (l.take k) ++ (if l[k].text.2 then [l[k].text.1] else []) := by
  unfold textsTk; rw [List.take_succ_eq_append_getElem h, List.filterMap_append]
  congr 1
  simp only [List.filterMap_cons, List.filterMap_nil]
  split <;> split at * <;> simp_all
theorem textsTk_len (l : List Tk) : (textsTk l).length ≤ l.length := List.length_filterMap_le _ _
theorem cellsS_snoc (l : List ByteArray) (s : ByteArray) : cellsS (l ++ [s]) = cellsS l ++ [.string s] := cellsOf_snoc _ _ _
theorem info_strT : (Tryz.prog.info? 9).map (fun i => (i.zero, i.size, i.bytes)) = some (some (.string ⟨#[]⟩), 1, 16) := by kernel_rfl
def spS : ByteArray := ⟨#[32]⟩

set_option maxHeartbeats 2000000 in
theorem tkWrite_any (l : List Tk) (a : Option Addr) (len cap : Nat) (w : World) (hT : Pre4 w) (hA : Arr w.heap.size w a (cellsTk l)) (hlen : len = l.length) (hmax : len ≤ 1000000) (hF : ∀ t ∈ l, t.fair ∧ t.tx.size ≤ 400000) (hj : (joinL (textsTk l) spS).length ≤ 140737488355328) :
    Calls Tryz.prog 11 #[.slice a len cap] w fun e w' => e = .returned (.string (joinS (textsTk l) spS)) ∧ Below w.heap.size w w' := by
  obtain ⟨iS, hiS, hzS, hsS, hbS⟩ := info_parts info_strT
  have HA := Lib.hid hA
  have HL := Lib.hid hlen
  have HF := Lib.hid hF
  have HJ := Lib.hid hj
  obtain ⟨R, hR⟩ : ∃ R, joinS (textsTk l) spS = R := ⟨_, rfl⟩
  rw [hR]
  have HR := Lib.hid hR
  clear hR
  have HP := Lib.hid (fun W (hb : Below w.heap.size w W) => hT.below hb)
  have HV0 : Hid (w.ownsRow w.heap.size 9 1 (.slice none 0 0) 0 (cellsS (textsTk (l.take 0)))) := World.ownsRow_nil _ _ _ _
  clear hA hlen hF hT hj
  go_enter Tryz.func11, Tryz.ntmps11
  go_wp2
  go_loopw [3, 10] (fun v i wr => ∃ (k n : Nat) (cv : Value), cv = v ∧ k ≤ len ∧ n ≤ k ∧ i = .int .i64 (k : Int) ∧ Hid (n = (textsTk (l.take k)).length) ∧ Hid (wr.ownsRow w.heap.size 9 1 cv n (cellsS (textsTk (l.take k)))) ∧ Hid (Below w.heap.size w wr)) (fun _ i _ => len - (intOf i).toNat)
  case atStart => exact ⟨0, 0, _, rfl, by omega, by omega, rfl, rfl, HV0, Below.refl _ _⟩
  case round =>
    clear HV0
    obtain ⟨k, n, cv, rfl, hk, hnk, rfl, HN, HV, HB⟩ := hrel
    by_cases hlt : k < len
    · have hkl : k < l.length := by have := HL.out; omega
      obtain ⟨b, o, rfl, hbN, c0, c1, c2, c3⟩ := tkAt (HA.out.below HB.out) hkl
      have hTk := textsTk_take hkl
      have hft := HF.out l[k] (List.getElem_mem hkl)
      obtain ⟨t, ht⟩ : ∃ t, l[k] = t := ⟨_, rfl⟩
      rw [ht] at c0 c1 c2 c3 hTk hft
      have HTk := Lib.hid hTk
      have HX : Hid (∀ W, Below w.heap.size w W → Calls Tryz.prog 35 #[.agg #[.int .i64 t.kd, .int .i64 t.at_, .string t.tx, .int .i64 t.n]] W fun e w' => e = .returned (.tuple #[.string t.text.1, .bool t.text.2]) ∧ Below W.heap.size W w') := fun W hb => tkText_any t W (HP.out W hb) hft.1 hft.2
      obtain ⟨⟨x, q⟩, hxq⟩ : ∃ X, t.text = X := ⟨_, rfl⟩
      rw [hxq] at HX HTk
      simp only at HX HTk
      have HBs := Lib.hid HB.out.size
      have HY := Lib.hid (HX.out (wr.alloc (.cells #[.int .i64 t.kd, .int .i64 t.at_, .string t.tx, .int .i64 t.n] 36)) (HB.out.trans ((Below.refl w.heap.size wr).alloc HBs.out _)))
      clear ht hft hTk hxq hkl HX hbN
      go_wp2_with fail
      refine HY.out.mono ?_
      rintro e w2 ⟨rfl, hb2⟩
      have HB1 : Hid (Below wr.heap.size wr w2) := ((Below.refl _ wr).alloc (Nat.le_refl _) _).trans (hb2.mono (by simp))
      have HB2 := Lib.hid (HB.out.trans (HB1.out.mono HBs.out))
      have HBs2 := Lib.hid HB2.out.size
      have HV2 := Lib.hid (own_below HV.out (Nat.le_refl _) HB1.out)
      clear hb2 HY c0 c1 c2 c3 HV HB HB1 HBs
      cases q with
      | false =>
        go_wp2
        go_roundw
        case rel => exact ⟨k + 1, n, cv, rfl, by omega, by omega, by go_num, by rw [HTk.out]; simpa [Hid] using HN.out, by rw [HTk.out]; simpa [Hid] using HV2.out, HB2.out⟩
        case measure => simp [intOf]; omega
      | true =>
        have HTk2 : Hid (textsTk (l.take (k + 1)) = textsTk (l.take k) ++ [x]) := by rw [HTk.out]; rfl
        clear HTk
        go_wp2_with (first | (at_builtin; refine wpList_appC rfl _ _ 72 rfl w.heap.size 9 iS (.string ⟨#[]⟩) 1 16 Tryz.underlying72 hiS hzS rfl hsS (by omega) hbS (by omega) cv n _ [.string x] w2 HV2.out rfl _ rfl rfl (by simp [Value.oneCell']) rfl (by omega) HBs2.out ?_; intro v5 w5 hown5 hc5 hsz5; have HO5 := Lib.hid hown5; have HC5 := Lib.hid hc5; clear hown5 hc5 hsz5))
        have HB5 : Hid (Below w.heap.size w w5) := HB2.out.trans (((Below.refl w.heap.size w2).alloc HBs2.out _).trans (HC5.out.below (by have := HBs2.out; simp; omega) (fun g hg => (HV2.out.lt g (by simpa using hg)).1)))
        go_roundw
        case rel => exact ⟨k + 1, n + 1, v5, rfl, by omega, by omega, by go_num, by rw [HTk2.out, List.length_append, ← HN.out]; rfl, by rw [HTk2.out, cellsS_snoc]; exact HO5.out, HB5.out⟩
        case measure => simp [intOf]; omega
    · have hke : k = l.length := by have := HL.out; omega
      have HO := HV.out
      have hN := HN.out
      rw [hke, List.take_length] at HO hN
      obtain ⟨ac, cc, hcv, hcc, hcm, hA2⟩ := own_slice HO
      have htl := textsTk_len l
      have hll := HL.out
      have HY := Lib.hid (Join_any (textsTk l) spS ac cc wr hA2 (by omega) (by omega) HJ.out)
      rw [← hN] at HY
      rw [HR.out] at HY
      unfold spS at HY
      subst hcv
      clear HO hA2 hcc hcm hN htl hll hke HV HN HA HF HJ
      go_wp2_with fail
      refine HY.out.mono ?_
      rintro e w2 ⟨rfl, hb2⟩
      have HB2 := Lib.hid (HB.out.trans (hb2.mono HB.out.size))
      clear hb2 HY
      go_wp2
      go_ret
      exact ⟨rfl, HB2.out⟩
end Go.Proofs.YtbnddpicpomakaaGreatDoor

/- The walks of right, its closure, slices.IndexFunc and ContainsFunc at it, and of Right. -/
set_option linter.unusedSimpArgs false
set_option linter.unusedVariables false
set_option maxRecDepth 100000
namespace Go.Proofs.YtbnddpicpomakaaGreatDoor
open Go.RowKit

/-- What is known of right, with so many levels, of trees of so many. -/
def RightIs (n l : Nat) : Prop := ∀ (y : XM) (W : World), XAt W.heap.size W n y → Calls Tryz.prog 45 #[y.v, .int .i64 (l : Int)] W fun e w' => e = .returned (.bool (rightX l y.t)) ∧ Below W.heap.size W w'

theorem right_clo (n l : Nat) (hl : l ≤ 1000) (IH : RightIs n l) (y : XM) (g : Nat) (W : World) (hy : XAt W.heap.size W n y) (hg : W.cell? ⟨g, 0, none⟩ = some (.int .i64 ((l + 1 : Nat) : Int))) :
    Calls Tryz.prog 85 #[.agg #[.int .i64 y.t.lab.kd, .int .u8 y.t.lab.v.k, .int .i64 y.t.lab.v.n, .string y.t.lab.v.s, .string y.t.lab.tb, .string y.t.lab.nm, .string y.t.lab.op, .slice y.a y.t.args.length y.cap], .pointer (some ⟨g, 0, none⟩)] W fun e w' => e = .returned (.bool (!rightX l y.t)) ∧ Below W.heap.size W w' := by
  have HD := Lib.hid (fun V (hb : Below W.heap.size W V) => IH y V (hy.later hb))
  have HX := Lib.hid (Slot8.new W 45 (.int .i64 y.t.lab.kd) (.int .u8 y.t.lab.v.k) (.int .i64 y.t.lab.v.n) (.string y.t.lab.v.s) (.string y.t.lab.tb) (.string y.t.lab.nm) (.string y.t.lab.op) (.slice y.a y.t.args.length y.cap))
  have HB0 : Hid (∀ o, Below W.heap.size W (W.alloc o)) := fun o => (Below.refl _ W).alloc (Nat.le_refl _) _
  have hq1 : IntKind.i64.wrap (((l + 1 : Nat) : Int) - 1) = (l : Int) := by rw [show ((l + 1 : Nat) : Int) - 1 = (l : Int) by omega]; exact IntWalk.i64_in _ (by omega)
  have hglt := World.block_lt_of_cell? _ _ hg
  rw [XM.v_eq] at HD
  generalize rightX l y.t = d at *
  generalize hQ : ((l + 1 : Nat) : Int) = Q at *
  clear hy IH
  obtain ⟨x0, x1, x2, x3, x4, x5, x6, x7⟩ := HX.out
  go_enter Tryz.func85, Tryz.ntmps85
  go_wp2_with fail
  refine (HD.out _ (HB0.out _)).mono ?_
  rintro e w1 ⟨rfl, hb1⟩
  have HB1 := Lib.hid ((HB0.out _).trans (hb1.mono (Nat.le_of_lt (box8 _ _))))
  clear hb1 x0 x1 x2 x3 x4 x5 x6 x7
  go_wp2
  go_ret
  exact ⟨rfl, HB1.out⟩

set_option maxHeartbeats 1000000 in
theorem right_idx (n l : Nat) (hl : l ≤ 1000) (IH : RightIs n l) (t : Ex) (a : Option Addr) (cap : Nat) (g : Nat) (w : World) (h : XAt w.heap.size w (n + 1) ⟨t, a, cap⟩) (hg : w.cell? ⟨g, 0, none⟩ = some (.int .i64 ((l + 1 : Nat) : Int))) :
    Calls Tryz.prog 110 #[.slice a t.args.length cap, .func (.func 85) #[] #[.pointer (some ⟨g, 0, none⟩)]] w fun e w' => ∃ r : Int, e = .returned (.int .i64 r) ∧ decide (0 ≤ r) = (!t.args.all (rightX l)) ∧ Below w.heap.size w w' := by
  have HA := Lib.hid h
  have hlen := h.fair.2.1
  have hcap := h.fair.2.2
  simp only at hlen hcap
  have HCl := Lib.hid (fun y V (hb : Below w.heap.size w V) hy => right_clo n l hl IH y g V hy ((hb.cell (p := ⟨g, 0, none⟩) (World.block_lt_of_cell? _ _ hg)).trans hg))
  obtain ⟨m, hm⟩ : ∃ m, t.args.length = m := ⟨_, rfl⟩
  rw [hm] at hlen ⊢
  have HM := Lib.hid hm
  clear h hm hg IH
  go_enter Tryz.func110, Tryz.ntmps110
  go_wp2
  go_loopw [8] (fun i wr => ∃ k : Nat, k ≤ m ∧ i = .int .i64 k ∧ Hid ((t.args.take k).all (rightX l) = true) ∧ Hid (Below w.heap.size w wr)) (fun i _ => m - (intOf i).toNat)
  case atStart => exact ⟨0, by omega, rfl, by simp [Hid], Below.refl _ _⟩
  case round =>
    obtain ⟨k, hk, rfl, HI, HBr⟩ := hrel
    by_cases hlt : k < m
    · have hkl : k < t.args.length := by rw [HM.out]; exact hlt
      obtain ⟨y, hy, hAy, b, o, hab, hbN, hKid⟩ := (HA.out.later HBr.out).kid8 (k := k) hkl
      simp only at hab hy
      subst hab
      obtain ⟨y0, y1, y2, y3, y4, y5, y6, y7⟩ := hKid
      have HTk : Hid ((t.args.take (k + 1)).all (rightX l) = rightX l y.t) := by
        rw [List.take_succ_eq_append_getElem hkl, List.all_append, HI.out, ← hy]; simp [Hid]
      have HTf : Hid (rightX l y.t = false → t.args.all (rightX l) = false) := fun hf => by
        rw [List.all_eq_false]; exact ⟨_, List.getElem_mem hkl, by rw [← hy, hf]; simp⟩
      have HY := Lib.hid (HCl.out y wr HBr.out hAy)
      generalize rightX l y.t = d at *
      clear hy hAy HA hkl HI HCl
      go_wp2_with fail
      refine HY.out.mono ?_
      rintro e w2 ⟨rfl, hb2⟩
      have HB2 := Lib.hid (HBr.out.trans (hb2.mono HBr.out.size))
      clear hb2 HY y0 y1 y2 y3 y4 y5 y6 y7
      cases d with
      | true =>
        go_wp2
        go_roundw
        case rel => exact ⟨k + 1, by omega, by go_num, HTk.out, HB2.out⟩
        case measure => simp [intOf]; omega
      | false =>
        go_wp2
        go_ret
        exact ⟨k, rfl, by rw [HTf.out (by trivial)]; simp, HB2.out⟩
    · have HT : Hid (t.args.all (rightX l) = true) := by
        have := HI.out
        rwa [show k = m by omega, ← HM.out, List.take_length] at this
      go_wp2
      go_ret
      exact ⟨-1, rfl, by rw [HT.out]; rfl, HBr.out⟩

theorem right_con (n l : Nat) (hl : l ≤ 1000) (IH : RightIs n l) (t : Ex) (a : Option Addr) (cap : Nat) (g : Nat) (w : World) (h : XAt w.heap.size w (n + 1) ⟨t, a, cap⟩) (hg : w.cell? ⟨g, 0, none⟩ = some (.int .i64 ((l + 1 : Nat) : Int))) :
    Calls Tryz.prog 84 #[.slice a t.args.length cap, .func (.func 85) #[] #[.pointer (some ⟨g, 0, none⟩)]] w fun e w' => e = .returned (.bool (!t.args.all (rightX l))) ∧ Below w.heap.size w w' := by
  have HC := Lib.hid (right_idx n l hl IH t a cap g w h hg)
  clear h hg
  generalize t.args.all (rightX l) = d at *
  go_enter Tryz.func84, Tryz.ntmps84
  go_wp2_with fail
  refine HC.out.mono ?_
  rintro e w1 ⟨r, rfl, hr, hb⟩
  have HR := Lib.hid hr
  clear hr HC
  go_wp2
  go_ret
  exact ⟨ret_b HR.out, hb⟩

set_option maxHeartbeats 2000000 in
theorem right_is : ∀ (n l : Nat), l ≤ 1000 → RightIs n l
  | 0, _, _ => fun _ _ h => h.elim
  | n + 1, 0, _ => fun x w h => by
    rw [XM.v_eq]
    have HB0 : Hid (∀ o o', Below w.heap.size w ((w.alloc o).alloc o')) := fun o o' => ((Below.refl _ w).alloc (Nat.le_refl _) _).alloc (by simp) _
    clear h
    go_enter Tryz.func45, Tryz.ntmps45
    go_wp2
    go_ret
    exact ⟨rfl, HB0.out _ _⟩
  | n + 1, l + 1, hl => fun ⟨t, a, cap⟩ w h => by
    rw [XM.v_eq]
    have IHl := right_is n l (by omega)
    have hF := h.fair.1
    simp only at hF ⊢
    have HV := Lib.hid (fun W => valid_any ⟨t, a, cap⟩ W hF)
    rw [XM.v_eq] at HV
    simp only at HV
    have hrx : rightX (l + 1) t = (t.lab.ok t.args.length && t.args.all (rightX l)) := rfl
    have HCn := Lib.hid (fun g W (hb : Below w.heap.size w W) hg => right_con n l (by omega) IHl t a cap g W (h.later hb) hg)
    rw [hrx]
    generalize t.lab.ok t.args.length = v at *
    generalize t.args.all (rightX l) = d at *
    obtain ⟨w0, hw0⟩ : ∃ w0, w.alloc (.cells #[.int .i64 t.lab.kd, .int .u8 t.lab.v.k, .int .i64 t.lab.v.n, .string t.lab.v.s, .string t.lab.tb, .string t.lab.nm, .string t.lab.op, .slice a t.args.length cap] 45) = w0 := ⟨_, rfl⟩
    have HS := Lib.hid (Slot8.new w 45 (.int .i64 t.lab.kd) (.int .u8 t.lab.v.k) (.int .i64 t.lab.v.n) (.string t.lab.v.s) (.string t.lab.tb) (.string t.lab.nm) (.string t.lab.op) (.slice a t.args.length cap))
    have HB0 : Hid (Below w.heap.size w w0) := by rw [← hw0]; exact (Below.refl _ w).alloc (Nat.le_refl _) _
    have hs0 : w0.heap.size = w.heap.size + 1 := by rw [← hw0]; simp
    rw [hw0] at HS
    have q0 : ((((l + 1 : Nat) : Int)) == 0) = false := by simp; omega
    generalize hQ : ((l + 1 : Nat) : Int) = Q at *
    obtain ⟨w1, hw1⟩ : ∃ w1, w0.alloc (.cells #[.int .i64 Q] 3) = w1 := ⟨_, rfl⟩
    have HB1 : Hid (Below w0.heap.size w0 w1) := by rw [← hw1]; exact (Below.refl _ w0).alloc (Nat.le_refl _) _
    have hs1 : w1.heap.size = w.heap.size + 2 := by rw [← hw1]; simp [hs0]
    have hc1 : w1.cell? ⟨w.heap.size + 1, 0, none⟩ = some (.int .i64 Q) := by rw [← hw1, ← hs0]; simp
    have HS1 := Lib.hid (HS.out.later (by omega) HB1.out)
    have HW1 := Lib.hid (HB0.out.trans (HB1.out.mono HB0.out.size))
    have HC1 := Lib.hid hc1
    have HZ := Lib.hid hs1
    obtain ⟨x0, x1, x2, x3, x4, x5, x6, x7⟩ := HS1.out
    clear h hF IHl hs1 hrx HS HB0 HB1
    cases v with
    | false =>
      go_enter Tryz.func45, Tryz.ntmps45
      go_wp2_with fail
      refine (HV.out _).mono ?_
      rintro e w2 ⟨rfl, hb2⟩
      have HB2 := Lib.hid (HW1.out.trans (hb2.mono (by have := HZ.out; omega)))
      clear hb2 x0 x1 x2 x3 x4 x5 x6 x7 hc1
      go_wp2
      go_ret
      exact ⟨rfl, HB2.out⟩
    | true =>
      go_enter Tryz.func45, Tryz.ntmps45
      go_wp2_with fail
      refine (HV.out _).mono ?_
      rintro e w2 ⟨rfl, hb2⟩
      have HB2 := Lib.hid (HW1.out.trans (hb2.mono (by have := HZ.out; omega)))
      have hc2 := (hb2.cell (p := ⟨w.heap.size + 1, 0, none⟩) (by have := HZ.out; show w.heap.size + 1 < w1.heap.size; omega)).trans HC1.out
      have HY := Lib.hid (HCn.out (w.heap.size + 1) w2 HB2.out hc2)
      clear x0 x1 x2 x3 x4 x5 x6 x7 hc1
      obtain ⟨x0, x1, x2, x3, x4, x5, x6, x7⟩ := HS1.out.later (by have := HZ.out; omega) hb2
      clear hb2 HCn HV
      go_wp2_with fail
      refine HY.out.mono ?_
      rintro e w3 ⟨rfl, hb3⟩
      have HB3 := Lib.hid (HB2.out.trans (hb3.mono HB2.out.size))
      clear hb3 x0 x1 x2 x3 x4 x5 x6 x7 hc2
      go_wp2
      go_ret
      exact ⟨ret_b (by simp), HB3.out⟩

theorem Right_any20 (n : Nat) (x : XM) (w : World) (h : XAt w.heap.size w n x) :
    Calls Tryz.prog 23 #[x.v] w fun e w' => e = .returned (.bool (rightX 20 x.t)) ∧ Below w.heap.size w w' := by
  have HD := Lib.hid (fun W (hb : Below w.heap.size w W) => right_is n 20 (by omega) x W (h.later hb))
  have HX := Lib.hid (Slot8.new w 45 (.int .i64 x.t.lab.kd) (.int .u8 x.t.lab.v.k) (.int .i64 x.t.lab.v.n) (.string x.t.lab.v.s) (.string x.t.lab.tb) (.string x.t.lab.nm) (.string x.t.lab.op) (.slice x.a x.t.args.length x.cap))
  have HB0 : Hid (∀ o, Below w.heap.size w (w.alloc o)) := fun o => (Below.refl _ w).alloc (Nat.le_refl _) _
  rw [XM.v_eq] at HD ⊢
  generalize rightX 20 x.t = d at *
  clear h
  obtain ⟨x0, x1, x2, x3, x4, x5, x6, x7⟩ := HX.out
  go_enter Tryz.func23, Tryz.ntmps23
  go_wp2_with fail
  refine (HD.out _ (HB0.out _)).mono ?_
  rintro e w1 ⟨rfl, hb1⟩
  have HB1 := Lib.hid ((HB0.out _).trans (hb1.mono (Nat.le_of_lt (box8 _ _))))
  clear hb1 x0 x1 x2 x3 x4 x5 x6 x7
  go_wp2
  go_ret
  exact ⟨rfl, HB1.out⟩
end Go.Proofs.YtbnddpicpomakaaGreatDoor

/- The texts of expressions; the walks of literal and column. -/
set_option linter.unusedSimpArgs false
set_option linter.unusedVariables false
set_option maxRecDepth 100000
namespace Go.Proofs.YtbnddpicpomakaaGreatDoor
open Go.RowKit

/-- The token of a literal. -/
def Vl.tk (v : Vl) : Tk := if v.k = 1 then ⟨2, 0, ⟨#[]⟩, v.n⟩ else if v.k = 2 then ⟨3, 0, v.s, 0⟩ else if v.k = 3 then ⟨4, 0, v.s, 0⟩ else ⟨1, 0, ⟨#[110, 117, 108, 108]⟩, 0⟩
def Vl.litS (v : Vl) : ByteArray := joinS (textsTk [v.tk]) spS
def Lb.colS (l : Lb) : ByteArray := if l.tb.toList.isEmpty then l.nm else l.tb ++ ⟨#[46]⟩ ++ l.nm
/-- The text of a label, of which the arguments have these texts. -/
def Lb.textOf (l : Lb) (ts : List ByteArray) : ByteArray :=
  if l.kd = 1 then l.v.litS
  else if l.kd = 2 then l.colS
  else if l.kd = 3 then (⟨#[40]⟩ : ByteArray) ++ l.op ++ ⟨#[32]⟩ ++ ts.getD 0 ⟨#[]⟩ ++ ⟨#[41]⟩
  else if l.kd = 4 then (⟨#[40]⟩ : ByteArray) ++ ts.getD 0 ⟨#[]⟩ ++ ⟨#[32]⟩ ++ l.op ++ ⟨#[32]⟩ ++ ts.getD 1 ⟨#[]⟩ ++ ⟨#[41]⟩
  else if l.kd = 5 then (⟨#[40]⟩ : ByteArray) ++ ts.getD 0 ⟨#[]⟩ ++ ⟨#[32]⟩ ++ l.op ++ ⟨#[41]⟩
  else if ts.isEmpty then l.op ++ ⟨#[40, 42, 41]⟩
  else l.op ++ ⟨#[40]⟩ ++ joinS ts ⟨#[44, 32]⟩ ++ ⟨#[41]⟩
def textX : Ex → ByteArray
  | .mk l args => l.textOf (args.attach.map fun x => textX x.1)
termination_by e => SizeOf.sizeOf e
decreasing_by exact Rose.size_arg x.2
theorem textX_eq (e : Ex) : textX e = e.lab.textOf (e.args.map textX) := by
  obtain ⟨l, args⟩ := e
  rw [textX, Rose.args, Rose.lab]
  congr 1
  rw [List.attach_map_val (f := textX)]

theorem lit_one (t : Tk) (h : t.text.2 = true) : joinS (textsTk [t]) spS = t.text.1 := by
  have : textsTk [t] = [t.text.1] := by unfold textsTk; simp [h]
  rw [this]
  unfold joinS joinL
  rw [List.map_cons, List.map_nil, Lib.join_one, baL_data]
theorem Vl.litS_eq (v : Vl) : v.litS = v.tk.text.1 := by
  unfold Vl.litS
  rw [lit_one]
  unfold Vl.tk
  split
  · rfl
  · split
    · rfl
    · split
      · rfl
      · rfl

theorem itoa_len (n : Int) (h0 : -9223372036854775808 ≤ n) (h1 : n ≤ 9223372036854775807) : (Lib.itoa n).length ≤ 30 := by
  have := Lib.itoa_length_le n h0 h1
  omega

theorem litS_size (v : Vl) (hs : v.s.size ≤ 200) (h0 : -9223372036854775808 ≤ v.n) (h1 : v.n ≤ 9223372036854775807) : v.litS.size ≤ 900 := by
  rw [Vl.litS_eq]
  unfold Vl.tk
  split
  · show (baL (Lib.itoa v.n)).size ≤ 900
    rw [baL_size]; have := itoa_len v.n h0 h1; omega
  · split
    · show (quoteS v.s).size ≤ 900
      have := quoteS_size v.s; omega
    · split
      · show ((⟨#[120]⟩ : ByteArray) ++ quoteS (hexS v.s)).size ≤ 900
        rw [ByteArray.size_append]
        have := quoteS_size (hexS v.s)
        have := hexS_size v.s
        have : (⟨#[120]⟩ : ByteArray).size = 1 := rfl
        omega
      · show (⟨#[110, 117, 108, 108]⟩ : ByteArray).size ≤ 900
        decide


theorem tk_fair (t : Tk) (hk : -9223372036854775808 ≤ t.kd ∧ t.kd ≤ 9223372036854775807) (ha : t.at_ = 0) (hs : t.tx.size ≤ 400) (hn : -9223372036854775808 ≤ t.n ∧ t.n ≤ 9223372036854775807) : ∀ u ∈ [t], u.fair ∧ u.tx.size ≤ 400000 := by
  intro u hu
  rw [List.mem_singleton.1 hu]
  exact ⟨⟨hk, by omega, by omega, hn⟩, by omega⟩

/-- Write of one token that has just been laid. -/
theorem tkWrite_one (t : Tk) (w : World) (b : Nat) (hT : Pre4 w) (hF : ∀ u ∈ [t], u.fair ∧ u.tx.size ≤ 400000) (hb : b < w.heap.size)
    (c0 : w.cell? ⟨b, 0, none⟩ = some (.int .i64 t.kd)) (c1 : w.cell? ⟨b, 1, none⟩ = some (.int .i64 t.at_)) (c2 : w.cell? ⟨b, 2, none⟩ = some (.string t.tx)) (c3 : w.cell? ⟨b, 3, none⟩ = some (.int .i64 t.n)) (hj : (joinS (textsTk [t]) spS).size ≤ 1000000) :
    Calls Tryz.prog 11 #[.slice (some ⟨b, 0, none⟩) 1 1] w fun e w' => e = .returned (.string (joinS (textsTk [t]) spS)) ∧ Below w.heap.size w w' := by
  refine tkWrite_any [t] _ 1 1 w hT (.inr ⟨b, 0, rfl, hb, fun i v hi => ?_⟩) rfl (by omega) hF (by unfold joinS at hj; rw [baL_size] at hj; omega)
  have hi' : t.cells[i]? = some v := by simpa [cellsTk, cellsOf] using hi
  rw [Nat.zero_add]
  match i, hi' with
  | 0, h => rw [c0]; exact h
  | 1, h => rw [c1]; exact h
  | 2, h => rw [c2]; exact h
  | 3, h => rw [c3]; exact h
  | n + 4, h => simp [Tk.cells] at h

set_option maxHeartbeats 2000000 in
theorem literal_any (v : Vl) (w : World) (hT : Pre4 w) (hk : v.k < 256) (hn : -9223372036854775808 ≤ v.n ∧ v.n ≤ 9223372036854775807) (hs : v.s.size ≤ 200) :
    Calls Tryz.prog 80 #[.agg #[.int .u8 v.k, .int .i64 v.n, .string v.s]] w fun e w' => e = .returned (.string v.litS) ∧ Below w.heap.size w w' := by
  have hsz := litS_size v hs hn.1 hn.2
  obtain ⟨k, n, s⟩ := v
  simp only at hk hn hs ⊢
  have HW : Hid (∀ (t : Tk) (o1 o2 : Obj) , t.at_ = 0 → (-9223372036854775808 ≤ t.kd ∧ t.kd ≤ 9223372036854775807) → t.tx.size ≤ 400 → (-9223372036854775808 ≤ t.n ∧ t.n ≤ 9223372036854775807) → (joinS (textsTk [t]) spS).size ≤ 1000000 →
      Calls Tryz.prog 11 #[.slice (some ⟨w.heap.size + 1 + 1, 0, none⟩) 1 1] (((w.alloc o1).alloc o2).alloc (.cells #[.int .i64 t.kd, .int .i64 t.at_, .string t.tx, .int .i64 t.n] 36)) fun e w' => e = .returned (.string (joinS (textsTk [t]) spS)) ∧ Below w.heap.size w w') := by
    intro t o1 o2 ha hkd htx htn hj
    have hB : Below w.heap.size w (((w.alloc o1).alloc o2).alloc (.cells #[.int .i64 t.kd, .int .i64 t.at_, .string t.tx, .int .i64 t.n] 36)) := (((Below.refl _ w).alloc (Nat.le_refl _) _).alloc (by simp) _).alloc (by simp; omega) _
    have h4 := Slot4.new ((w.alloc o1).alloc o2) 36 (.int .i64 t.kd) (.int .i64 t.at_) (.string t.tx) (.int .i64 t.n)
    rw [show ((w.alloc o1).alloc o2).heap.size = w.heap.size + 1 + 1 by simp] at h4
    refine (tkWrite_one t _ _ (hT.below hB) (tk_fair t hkd ha htx htn) (by simp) h4.c0 h4.c1 h4.c2 h4.c3 hj).mono ?_
    · rintro e w' ⟨he, hb⟩
      exact ⟨he, hB.trans (hb.mono hB.size)⟩
  clear hT
  unfold Vl.litS Vl.tk at hsz
  have HR : Hid (Vl.litS ⟨k, n, s⟩ = joinS (textsTk [if k = 1 then ⟨2, 0, ⟨#[]⟩, n⟩ else if k = 2 then ⟨3, 0, s, 0⟩ else if k = 3 then ⟨4, 0, s, 0⟩ else ⟨1, 0, ⟨#[110, 117, 108, 108]⟩, 0⟩]) spS) := rfl
  simp only at hsz
  rw [HR.out]
  clear HR
  have hcase : k = 1 ∨ k = 2 ∨ k = 3 ∨ (k ≠ 1 ∧ k ≠ 2 ∧ k ≠ 3) := by omega
  rcases hcase with rfl | rfl | rfl | ⟨h1, h2, h3⟩
  · have HY := Lib.hid (fun o1 o2 => HW.out ⟨2, 0, ⟨#[]⟩, n⟩ o1 o2 rfl (by simp) (show (⟨#[]⟩ : ByteArray).size ≤ 400 by decide) (by simp; try omega) (Nat.le_trans hsz (by omega)))
    clear HW hsz
    simp only [if_true, if_false, Nat.reduceEqDiff] at HY ⊢
    generalize joinS (textsTk [⟨2, 0, ⟨#[]⟩, n⟩]) spS = R at *
    go_enter Tryz.func80, Tryz.ntmps80
    go_wp2_with fail
    refine (HY.out _ _).mono ?_
    rintro e w1 ⟨rfl, hb1⟩
    have HB1 := Lib.hid hb1
    clear hb1 HY
    go_wp2
    go_ret
    exact ⟨rfl, HB1.out⟩
  · have HY := Lib.hid (fun o1 o2 => HW.out ⟨3, 0, s, 0⟩ o1 o2 rfl (by simp) (by simp only; omega) (by simp; try omega) (Nat.le_trans hsz (by omega)))
    clear HW hsz
    simp only [if_true, if_false, Nat.reduceEqDiff] at HY ⊢
    generalize joinS (textsTk [⟨3, 0, s, 0⟩]) spS = R at *
    go_enter Tryz.func80, Tryz.ntmps80
    go_wp2_with fail
    refine (HY.out _ _).mono ?_
    rintro e w1 ⟨rfl, hb1⟩
    have HB1 := Lib.hid hb1
    clear hb1 HY
    go_wp2
    go_ret
    exact ⟨rfl, HB1.out⟩
  · have HY := Lib.hid (fun o1 o2 => HW.out ⟨4, 0, s, 0⟩ o1 o2 rfl (by simp) (by simp only; omega) (by simp; try omega) (Nat.le_trans hsz (by omega)))
    clear HW hsz
    simp only [if_true, if_false, Nat.reduceEqDiff] at HY ⊢
    generalize joinS (textsTk [⟨4, 0, s, 0⟩]) spS = R at *
    go_enter Tryz.func80, Tryz.ntmps80
    go_wp2_with fail
    refine (HY.out _ _).mono ?_
    rintro e w1 ⟨rfl, hb1⟩
    have HB1 := Lib.hid hb1
    clear hb1 HY
    go_wp2
    go_ret
    exact ⟨rfl, HB1.out⟩
  · rw [if_neg h1, if_neg h2, if_neg h3] at hsz ⊢
    have HY := Lib.hid (fun o1 o2 => HW.out ⟨1, 0, ⟨#[110, 117, 108, 108]⟩, 0⟩ o1 o2 rfl (by simp) (by decide) (by simp) (Nat.le_trans hsz (by omega)))
    have q1 : ((k : Int) == 1) = false := by simp; omega
    have q2 : ((k : Int) == 2) = false := by simp; omega
    have q3 : ((k : Int) == 3) = false := by simp; omega
    clear HW hsz h1 h2 h3
    generalize joinS (textsTk [⟨1, 0, ⟨#[110, 117, 108, 108]⟩, 0⟩]) spS = R at *
    go_enter Tryz.func80, Tryz.ntmps80
    go_wp2_with fail
    refine (HY.out _ _).mono ?_
    rintro e w1 ⟨rfl, hb1⟩
    have HB1 := Lib.hid hb1
    clear hb1 HY
    go_wp2
    go_ret
    exact ⟨rfl, HB1.out⟩

set_option maxHeartbeats 1000000 in
theorem column_any (x : XM) (w : World) (h4 : x.t.lab.tb.size ≤ 1000000) (h5 : x.t.lab.nm.size ≤ 1000000) :
    Calls Tryz.prog 81 #[x.v] w fun e w' => e = .returned (.string x.t.lab.colS) ∧ Below w.heap.size w w' := by
  rw [XM.v_eq]
  obtain ⟨⟨⟨kd, ⟨vk, vn, vs⟩, tb, nm, op⟩, args⟩, a, cap⟩ := x
  simp only [Rose.lab, Rose.args] at h4 h5 ⊢
  generalize args.length = n at *
  obtain ⟨x0, x1, x2, x3, x4, x5, x6, x7⟩ := Slot8.new w 45 (.int .i64 kd) (.int .u8 vk) (.int .i64 vn) (.string vs) (.string tb) (.string nm) (.string op) (.slice a n cap)
  have HB0 : Hid (∀ o, Below w.heap.size w (w.alloc o)) := fun o => (Below.refl _ w).alloc (Nat.le_refl _) _
  by_cases ht : tb.toList = []
  · have ht2 : tb.toList.isEmpty = true := by rw [ht]; rfl
    have HR : Hid (Lb.colS ⟨kd, ⟨vk, vn, vs⟩, tb, nm, op⟩ = nm) := by unfold Lb.colS; simp [ht2, Hid]
    rw [HR.out]
    go_enter Tryz.func81, Tryz.ntmps81
    go_wp2
    go_ret
    exact ⟨rfl, HB0.out _⟩
  · have ht2 : tb.toList.isEmpty = false := by simpa using ht
    have ht3 : (!tb.toList.isEmpty) = true := by rw [ht2]; rfl
    have HR : Hid (Lb.colS ⟨kd, ⟨vk, vn, vs⟩, tb, nm, op⟩ = tb ++ ⟨#[46]⟩ ++ nm) := by unfold Lb.colS; simp [ht2, Hid]
    have s1 : ¬ 9223372036854775807 < tb.size + 1 := by omega
    have s2 : ¬ 9223372036854775807 < tb.size + 1 + nm.size := by omega
    rw [HR.out]
    go_enter Tryz.func81, Tryz.ntmps81
    go_wp2
    go_ret
    exact ⟨rfl, HB0.out _⟩
end Go.Proofs.YtbnddpicpomakaaGreatDoor

/- How long the texts of expressions are. -/
set_option linter.unusedSimpArgs false
set_option linter.unusedVariables false
set_option maxRecDepth 100000
namespace Go.Proofs.YtbnddpicpomakaaGreatDoor
open Go.RowKit

theorem joinTail_len (sep : List UInt8) (r : List (List UInt8)) : (Lib.joinTail sep r).length = (r.map List.length).sum + r.length * sep.length := by
  induction r with
  | nil => simp [Lib.joinTail]
  | cons x r ih =>
    have e : Lib.joinTail sep (x :: r) = (sep ++ x) ++ Lib.joinTail sep r := by simp [Lib.joinTail]
    rw [e, List.length_append, List.length_append, ih, List.map_cons, List.sum_cons, List.length_cons, Nat.add_mul]; omega
theorem joinS_size (xs : List ByteArray) (sep : ByteArray) : (joinS xs sep).size ≤ (xs.map ByteArray.size).sum + xs.length * sep.size := by
  unfold joinS joinL
  rw [baL_size]
  cases xs with
  | nil => simp [Lib.join_nil]
  | cons x r =>
    rw [List.map_cons, Lib.join_cons, List.length_append, joinTail_len, List.map_cons, List.sum_cons, List.length_cons, List.map_map, List.length_map, Nat.add_mul]
    have e1 : (List.map (List.length ∘ fun x : ByteArray => x.data.toList) r).sum = (List.map ByteArray.size r).sum := by
      congr 1
    have e2 : x.data.toList.length = x.size := by simp
    have e3 : sep.data.toList.length = sep.size := by simp
    rw [e1, e2, e3]; omega

/-- Good for a text: valid, and no label too much. -/
def Lb.good (l : Lb) (n : Nat) : Bool := l.ok n && !l.big n
def GoodX (e : Ex) : Prop := e.allB Lb.good = true
theorem GoodX.lab {e : Ex} (h : GoodX e) : e.lab.ok e.args.length = true ∧ e.lab.big e.args.length = false := by
  unfold GoodX at h
  rw [Rose.allB_eq] at h
  simp only [Lb.good, Bool.and_eq_true, Bool.not_eq_true'] at h
  exact h.1
theorem GoodX.arg {e x : Ex} (h : GoodX e) (hx : x ∈ e.args) : GoodX x := by
  unfold GoodX at h
  rw [Rose.allB_eq, Bool.and_eq_true, List.all_eq_true] at h
  exact h.2 x hx
structure Lb.Small (l : Lb) (n : Nat) : Prop where
  n : n ≤ 6
  nm : l.nm.size ≤ 100
  tb : l.tb.size ≤ 100
  op : l.op.size ≤ 100
  s : l.v.s.size ≤ 200
theorem Lb.small {l : Lb} {n : Nat} (h : l.big n = false) : l.Small n := by
  unfold Lb.big at h
  simp only [Bool.or_eq_false_iff, decide_eq_false_iff_not] at h
  exact ⟨by omega, by omega, by omega, by omega, by omega⟩
theorem getD_size (ts : List ByteArray) (i : Nat) : (ts.getD i ⟨#[]⟩).size ≤ (ts.map ByteArray.size).sum := by
  induction ts generalizing i with
  | nil => exact Nat.zero_le 0
  | cons x r ih =>
    cases i with
    | zero => simp
    | succ i => have := ih i; simp only [List.getD_cons_succ, List.map_cons, List.sum_cons]; omega
theorem getD2_size (ts : List ByteArray) : (ts.getD 0 ⟨#[]⟩).size + (ts.getD 1 ⟨#[]⟩).size ≤ (ts.map ByteArray.size).sum := by
  cases ts with
  | nil => exact Nat.zero_le 0
  | cons x r =>
    have := getD_size r 0
    simp only [List.getD_cons_zero, List.getD_cons_succ, List.map_cons, List.sum_cons]; omega

theorem textOf_size (l : Lb) (ts : List ByteArray) (n : Nat) (hn : ts.length = n) (hs : l.Small n) (h0 : -9223372036854775808 ≤ l.v.n ∧ l.v.n ≤ 9223372036854775807) : (l.textOf ts).size ≤ 900 + (ts.map ByteArray.size).sum := by
  have e1 : (⟨#[40]⟩ : ByteArray).size = 1 := rfl
  have e2 : (⟨#[41]⟩ : ByteArray).size = 1 := rfl
  have e3 : (⟨#[32]⟩ : ByteArray).size = 1 := rfl
  have e4 : (⟨#[46]⟩ : ByteArray).size = 1 := rfl
  have e5 : (⟨#[40, 42, 41]⟩ : ByteArray).size = 3 := rfl
  have e6 : (⟨#[44, 32]⟩ : ByteArray).size = 2 := rfl
  have a0 := getD_size ts 0
  have a2 := getD2_size ts
  have h1 := hs.n; have h2 := hs.nm; have h3 := hs.tb; have h4 := hs.op
  unfold Lb.textOf
  split
  · have := litS_size l.v hs.s h0.1 h0.2; omega
  split
  · unfold Lb.colS
    split
    · omega
    · rw [ByteArray.size_append, ByteArray.size_append]; omega
  split
  · simp only [ByteArray.size_append]; omega
  split
  · simp only [ByteArray.size_append]; omega
  split
  · simp only [ByteArray.size_append]; omega
  split
  · simp only [ByteArray.size_append]; omega
  · have := joinS_size ts ⟨#[44, 32]⟩
    rw [e6] at this
    simp only [ByteArray.size_append]; omega

theorem textX_size : ∀ (N n : Nat) (w : World) (x : XM), XAt N w n x → GoodX x.t → (textX x.t).size ≤ 1000 * x.t.count
  | _, 0, _, _, h, _ => h.elim
  | N, n + 1, w, x, h, hg => by
    have hs := Lb.small hg.lab.2
    have hf := h.fair.1.n
    have hk : ∀ y ∈ x.t.args, (textX y).size ≤ 1000 * y.count := by
      intro y hy
      obtain ⟨k, hk, rfl⟩ := List.getElem_of_mem hy
      obtain ⟨z, hz, hzA, _⟩ := h.kid hk
      have := textX_size N n w z hzA (by rw [hz]; exact hg.arg hy)
      rw [hz] at this; exact this
    rw [textX_eq, Rose.count_eq]
    have h1 := textOf_size x.t.lab (x.t.args.map textX) _ (by simp) hs hf
    have h2 : ((x.t.args.map textX).map ByteArray.size).sum ≤ 1000 * (x.t.args.map Rose.count).sum := by
      generalize x.t.args = l at hk
      induction l with
      | nil => simp
      | cons y r ih =>
        have := hk y List.mem_cons_self
        have := ih (fun z hz => hk z (List.mem_cons_of_mem _ hz))
        simp only [List.map_cons, List.sum_cons]; omega
    omega
end Go.Proofs.YtbnddpicpomakaaGreatDoor

/- The walks of call and text, and of Write. -/
set_option linter.unusedSimpArgs false
set_option linter.unusedVariables false
set_option maxRecDepth 100000
namespace Go.Proofs.YtbnddpicpomakaaGreatDoor
open Go.RowKit

/-- What is known of text, of trees of so many levels. -/
def TextIs (n : Nat) : Prop := ∀ (y : XM) (W : World), Pre4 W → XAt W.heap.size W n y → GoodX y.t → y.t.count ≤ 100000 → Calls Tryz.prog 43 #[y.v] W fun e w' => e = .returned (.string (textX y.t)) ∧ Below W.heap.size W w'

theorem count_arg {e x : Ex} (h : x ∈ e.args) : x.count < e.count := by
  rw [Rose.count_eq e]
  have : x.count ≤ (e.args.map Rose.count).sum := by
    generalize e.args = l at h
    induction l with
    | nil => cases h
    | cons y r ih =>
      rw [List.map_cons, List.sum_cons]
      rcases List.mem_cons.1 h with rfl | h
      · omega
      · have := ih h; omega
  omega
theorem sum_textX (N n : Nat) (w : World) (x : XM) (h : XAt N w n x) (hg : GoodX x.t) : ((x.t.args.map textX).map ByteArray.size).sum ≤ 1000 * x.t.count := by
  cases n with
  | zero => exact h.elim
  | succ n =>
    have hk : ∀ y ∈ x.t.args, (textX y).size ≤ 1000 * y.count := by
      intro y hy
      obtain ⟨k, hk, rfl⟩ := List.getElem_of_mem hy
      obtain ⟨z, hz, hzA, _⟩ := h.kid hk
      have := textX_size N n w z hzA (by rw [hz]; exact hg.arg hy)
      rw [hz] at this; exact this
    rw [Rose.count_eq]
    have h2 : ((x.t.args.map textX).map ByteArray.size).sum ≤ 1000 * (x.t.args.map Rose.count).sum := by
      generalize x.t.args = l at hk
      induction l with
      | nil => simp
      | cons y r ih =>
        have := hk y List.mem_cons_self
        have := ih (fun z hz => hk z (List.mem_cons_of_mem _ hz))
        simp only [List.map_cons, List.sum_cons]; omega
    omega

set_option maxHeartbeats 2000000 in
theorem call_any (n : Nat) (IH : TextIs n) (x : XM) (w : World) (hT : Pre4 w) (h : XAt w.heap.size w (n + 1) x) (hg : GoodX x.t) (hc : x.t.count ≤ 100000) (hk : x.t.lab.kd ≠ 1 ∧ x.t.lab.kd ≠ 2 ∧ x.t.lab.kd ≠ 3 ∧ x.t.lab.kd ≠ 4 ∧ x.t.lab.kd ≠ 5) :
    Calls Tryz.prog 82 #[x.v] w fun e w' => e = .returned (.string (textX x.t)) ∧ Below w.heap.size w w' := by
  have hsum := sum_textX _ _ w x h hg
  have hsm := Lb.small hg.lab.2
  have hTx : textX x.t = if (x.t.args.map textX).isEmpty then x.t.lab.op ++ ⟨#[40, 42, 41]⟩ else x.t.lab.op ++ ⟨#[40]⟩ ++ joinS (x.t.args.map textX) ⟨#[44, 32]⟩ ++ ⟨#[41]⟩ := by
    rw [textX_eq]; unfold Lb.textOf
    rw [if_neg hk.1, if_neg hk.2.1, if_neg hk.2.2.1, if_neg hk.2.2.2.1, if_neg hk.2.2.2.2]
  have HA := Lib.hid h
  have HG := Lib.hid hg
  have HCt := Lib.hid hc
  rw [hTx, XM.v_eq]
  obtain ⟨t, a, cap⟩ := x
  simp only at hsum hsm HA HG HCt hc ⊢
  have hop := hsm.op
  have hn6 := hsm.n
  obtain ⟨m, hm⟩ : ∃ m, t.args.length = m := ⟨_, rfl⟩
  have HM := Lib.hid hm
  rw [hm] at hn6 ⊢
  have HP := Lib.hid (fun W (hb : Below w.heap.size w W) => hT.below hb)
  have HS := Lib.hid (Slot8.new w 45 (.int .i64 t.lab.kd) (.int .u8 t.lab.v.k) (.int .i64 t.lab.v.n) (.string t.lab.v.s) (.string t.lab.tb) (.string t.lab.nm) (.string t.lab.op) (.slice a m cap))
  have HB0 : Hid (∀ o, Below w.heap.size w (w.alloc o)) := fun o => (Below.refl _ w).alloc (Nat.le_refl _) _
  by_cases h0 : m = 0
  · have he : (t.args.map textX).isEmpty = true := by
      rw [List.isEmpty_iff, List.map_eq_nil_iff, ← List.length_eq_zero_iff, hm, h0]
    rw [if_pos he]
    subst h0
    have s1 : ¬ 9223372036854775807 < t.lab.op.size + 3 := by omega
    clear h hg hc hk hTx hsum hsm he hm hT
    obtain ⟨x0, x1, x2, x3, x4, x5, x6, x7⟩ := HS.out
    go_enter Tryz.func82, Tryz.ntmps82
    go_wp2
    go_ret
    exact ⟨rfl, HB0.out _⟩
  · have he : ¬ (t.args.map textX).isEmpty = true := by
      rw [List.isEmpty_iff, List.map_eq_nil_iff, ← List.length_eq_zero_iff, hm]; exact h0
    rw [if_neg he]
    obtain ⟨iS, hiS, hzS, hsS, hbS⟩ := info_parts info_strT
    have q0 : ((m : Int) == 0) = false := by simp; omega
    have hjs := joinS_size (t.args.map textX) ⟨#[44, 32]⟩
    have e6 : (⟨#[44, 32]⟩ : ByteArray).size = 2 := rfl
    rw [e6, List.length_map, hm] at hjs
    have HJ : Hid ((joinL (t.args.map textX) ⟨#[44, 32]⟩).length ≤ 140737488355328) := by
      unfold joinS at hjs; rw [baL_size] at hjs; show _ ≤ _; omega
    obtain ⟨R, hR⟩ : ∃ R, joinS (t.args.map textX) ⟨#[44, 32]⟩ = R := ⟨_, rfl⟩
    rw [hR] at hjs ⊢
    have HR := Lib.hid hR
    have hRs : R.size ≤ 200000000 := by omega
    have s1 : ¬ 9223372036854775807 < t.lab.op.size + 1 := by omega
    have s2 : ¬ 9223372036854775807 < t.lab.op.size + 1 + R.size := by omega
    have s3 : ¬ 9223372036854775807 < t.lab.op.size + 1 + R.size + 1 := by omega
    have IHx : Hid (∀ (y : XM) (W : World), Below w.heap.size w W → XAt W.heap.size W n y → GoodX y.t → y.t.count ≤ 100000 → Calls Tryz.prog 43 #[.agg #[.int .i64 y.t.lab.kd, .int .u8 y.t.lab.v.k, .int .i64 y.t.lab.v.n, .string y.t.lab.v.s, .string y.t.lab.tb, .string y.t.lab.nm, .string y.t.lab.op, .slice y.a y.t.args.length y.cap]] W fun e w' => e = .returned (.string (textX y.t)) ∧ Below W.heap.size W w') := fun y W hb hy hg hc => by
      have := IH y W (HP.out W hb) hy hg hc
      rw [XM.v_eq] at this; exact this
    obtain ⟨w0, hw0⟩ : ∃ w0, w.alloc (.cells #[.int .i64 t.lab.kd, .int .u8 t.lab.v.k, .int .i64 t.lab.v.n, .string t.lab.v.s, .string t.lab.tb, .string t.lab.nm, .string t.lab.op, .slice a m cap] 45) = w0 := ⟨_, rfl⟩
    have HB1 : Hid (Below w.heap.size w w0) := by rw [← hw0]; exact HB0.out _
    have hs0 : w0.heap.size = w.heap.size + 1 := by rw [← hw0]; simp
    rw [hw0] at HS
    have HZ := Lib.hid hs0
    have HV0 : Hid (w0.ownsRow w0.heap.size 9 1 (.slice none 0 0) 0 (cellsS ((t.args.take 0).map textX))) := World.ownsRow_nil _ _ _ _
    clear h hg hc hk hTx hsum hsm he hm hT hR HB0 hs0 IH h0 hjs e6
    obtain ⟨x0, x1, x2, x3, x4, x5, x6, x7⟩ := HS.out
    go_enter Tryz.func82, Tryz.ntmps82
    go_wp2
    clear x0 x1 x2 x3 x4 x5 x6 x7
    go_loopw [3, 16] (fun v i wr => ∃ (k : Nat) (cv : Value), cv = v ∧ k ≤ m ∧ i = .int .i64 (k : Int) ∧ Hid (wr.ownsRow w0.heap.size 9 1 cv k (cellsS ((t.args.take k).map textX))) ∧ Hid (Below w0.heap.size w0 wr)) (fun _ i _ => m - (intOf i).toNat)
    case atStart => exact ⟨0, _, rfl, by omega, rfl, HV0, Below.refl _ _⟩
    case round =>
      clear HV0
      obtain ⟨k, cv, rfl, hk, rfl, HV, HBr⟩ := hrel
      have HBw := Lib.hid (HB1.out.trans (HBr.out.mono HB1.out.size))
      have HBs := Lib.hid HBr.out.size
      by_cases hlt : k < m
      · have hkl : k < t.args.length := by rw [HM.out]; exact hlt
        obtain ⟨y, hy, hAy, b, o, hab, hbN, hKid⟩ := (HA.out.later HBw.out).kid8 (k := k) hkl
        simp only at hab hy
        subst hab
        obtain ⟨y0, y1, y2, y3, y4, y5, y6, y7⟩ := hKid
        have HTk : Hid ((t.args.take (k + 1)).map textX = (t.args.take k).map textX ++ [textX y.t]) := by
          rw [List.take_succ_eq_append_getElem hkl, List.map_append, ← hy]; rfl
        have hyg : GoodX y.t := by rw [hy]; exact HG.out.arg (List.getElem_mem hkl)
        have hyc : y.t.count ≤ 100000 := by have h1 := count_arg (List.getElem_mem hkl); rw [← hy] at h1; have := HCt.out; omega
        have HY := Lib.hid (IHx.out y (wr.alloc (.cells #[.int .i64 y.t.lab.kd, .int .u8 y.t.lab.v.k, .int .i64 y.t.lab.v.n, .string y.t.lab.v.s, .string y.t.lab.tb, .string y.t.lab.nm, .string y.t.lab.op, .slice y.a y.t.args.length y.cap] 45)) (HBw.out.trans ((Below.refl w.heap.size wr).alloc HBw.out.size _)) (hAy.later ((Below.refl _ wr).alloc (Nat.le_refl _) _)) hyg hyc)
        generalize textX y.t = R1 at *
        clear hy hAy hkl hyg hyc HA IHx HG
        go_wp2_with (first | (at_builtin; fail) | fail)
        refine HY.out.mono ?_
        rintro e w2 ⟨rfl, hb2⟩
        have HB1' : Hid (Below wr.heap.size wr w2) := ((Below.refl _ wr).alloc (Nat.le_refl _) _).trans (hb2.mono (by simp))
        have HB2 := Lib.hid (HBr.out.trans (HB1'.out.mono HBs.out))
        have HBs2 := Lib.hid HB2.out.size
        have HV2 := Lib.hid (own_below HV.out (Nat.le_refl _) HB1'.out)
        clear hb2 HY y0 y1 y2 y3 y4 y5 y6 y7 HV HB1'
        go_wp2_with (first | (at_builtin; refine wpList_appC rfl _ _ 72 rfl w0.heap.size 9 iS (.string ⟨#[]⟩) 1 16 Tryz.underlying72 hiS hzS rfl hsS (by omega) hbS (by omega) cv k _ [.string R1] w2 HV2.out rfl _ rfl rfl (by simp [Value.oneCell']) rfl (by omega) HBs2.out ?_; intro v5 w5 hown5 hc5 hsz5; have HO5 := Lib.hid hown5; have HC5 := Lib.hid hc5; clear hown5 hc5 hsz5))
        have HB5 : Hid (Below w0.heap.size w0 w5) := HB2.out.trans (((Below.refl w0.heap.size w2).alloc HBs2.out _).trans (HC5.out.below (by have := HBs2.out; simp; omega) (fun g hg => (HV2.out.lt g (by simpa using hg)).1)))
        go_roundw
        case rel => exact ⟨k + 1, v5, rfl, by omega, by go_num, by rw [HTk.out, cellsS_snoc]; exact HO5.out, HB5.out⟩
        case measure => simp [intOf]; omega
      · have hke : k = m := by omega
        have HO := HV.out
        rw [hke, ← HM.out, List.take_length] at HO
        obtain ⟨ac, cc, hcv, hcc, hcm, hA2⟩ := own_slice HO
        have hml := HM.out
        have HY := Lib.hid (fun W (hb : Below wr.heap.size wr W) => Join_any (t.args.map textX) ⟨#[44, 32]⟩ ac cc W (hA2.later (N := 0) hb) (by rw [List.length_map]; omega) (by rw [List.length_map]; omega) HJ.out)
        rw [HR.out, List.length_map, HM.out] at HY
        rw [HM.out] at hcv
        subst hcv
        have HSr := Lib.hid (HS.out.later (by have := HZ.out; omega) HBr.out)
        have l6 : ∀ W, Later wr.drew W → W.cell? ⟨w.heap.size, 6, none⟩ = some (.string t.lab.op) := fun W hW => (HSr.out.later (N := wr.heap.size) (by have := HZ.out; have := HBs.out; omega) (Later.undrew hW)).c6
        clear HO hA2 hcc hcm hml HV HA HG IHx HS HR HJ
        go_wp2_with fail
        refine wp_region_ord [(0, true), (1, true), (2, true), (3, true), (4, false), (5, true), (6, true), (7, true)] (by kernel_rfl) (by kernel_rfl) (by kernel_rfl) (by kernel_rfl) ?_
        repeat (first | (refine wpO_F (v := ?_) rfl (by rfl) (fun w' hL => ?_) ?_; rotate_left; (solve | (go_simp; with_reducible rfl) | go_simp); try simp only [Act.put, List.setIfInBounds_toArray, List.set_cons_zero, List.set_cons_succ]) | (refine wpO_G rfl (by rfl) ?_; try simp only [Act.put, List.setIfInBounds_toArray, List.set_cons_zero, List.set_cons_succ]))
        refine wpO_C rfl (by rfl) ?_
        go_simp
        refine (HY.out _ (Below.refl _ _).drew).mono ?_
        rintro e w2 ⟨rfl, hb2⟩
        refine ⟨hb2, ?_⟩
        try simp only [Act.put, List.setIfInBounds_toArray, List.set_cons_zero, List.set_cons_succ]
        repeat (first | (refine wpO_F (v := ?_) rfl (by rfl) (fun w' hL => ?_) ?_; rotate_left; (solve | (go_simp; with_reducible rfl) | go_simp); try simp only [Act.put, List.setIfInBounds_toArray, List.set_cons_zero, List.set_cons_succ]) | (refine wpO_G rfl (by rfl) ?_; try simp only [Act.put, List.setIfInBounds_toArray, List.set_cons_zero, List.set_cons_succ]))
        refine wpO_nil ?_
        have HB2 := Lib.hid (HBw.out.trans (((Below.refl _ wr).drew.trans hb2).mono HBw.out.size))
        clear hb2 HY l6
        go_wp2
        go_ret
        exact ⟨rfl, HB2.out⟩
end Go.Proofs.YtbnddpicpomakaaGreatDoor
