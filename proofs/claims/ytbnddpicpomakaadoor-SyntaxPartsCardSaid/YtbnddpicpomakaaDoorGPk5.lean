/- Several texts of one proof, one behind the other. -/
import Derived.Test.YtbnddpicpomakaaDoorGPk4
set_option linter.unusedSimpArgs false
set_option linter.unusedVariables false

/- The walks of cell.arith at its five operations. -/
set_option linter.unusedSimpArgs false
set_option linter.unusedVariables false
set_option maxRecDepth 100000
namespace Go.Proofs.YtbnddpicpomakaaDoor
open Go.RowKit

/-- A variable of three cells, which may be written. -/
def Slot (w : World) (b : Nat) (v0 v1 v2 : Value) : Prop :=
  w.cell? ⟨b, 0, none⟩ = some v0 ∧ w.cell? ⟨b, 1, none⟩ = some v1 ∧ w.cell? ⟨b, 2, none⟩ = some v2 ∧ w.frozen? ⟨b, 0, none⟩ = false ∧ w.frozen? ⟨b, 1, none⟩ = false ∧ w.frozen? ⟨b, 2, none⟩ = false

theorem Slot.later {w w' : World} {b : Nat} {v0 v1 v2 : Value} (h : Slot w b v0 v1 v2) (hl : Later w w') (hb : b < w.heap.size) : Slot w' b v0 v1 v2 := by
  obtain ⟨h0, h1, h2, f0, f1, f2⟩ := h
  exact ⟨(hl.cell (p := ⟨b, 0, none⟩) hb).trans h0, (hl.cell (p := ⟨b, 1, none⟩) hb).trans h1, (hl.cell (p := ⟨b, 2, none⟩) hb).trans h2,
    (hl.frozen (p := ⟨b, 0, none⟩) hb).trans f0, (hl.frozen (p := ⟨b, 1, none⟩) hb).trans f1, (hl.frozen (p := ⟨b, 2, none⟩) hb).trans f2⟩

theorem Slot.new (w : World) (T : TypeId) (v0 v1 v2 : Value) : Slot (w.alloc (.cells #[v0, v1, v2] T)) w.heap.size v0 v1 v2 := by
  refine ⟨?_, ?_, ?_, ?_, ?_, ?_⟩
  · rw [World.cell?_alloc_new]; rfl
  · rw [World.cell?_alloc_new]; rfl
  · rw [World.cell?_alloc_new]; rfl
  · simp only [World.frozen?]; rw [heap_alloc_new]; simp
  · simp only [World.frozen?]; rw [heap_alloc_new]; simp
  · simp only [World.frozen?]; rw [heap_alloc_new]; simp

/-- Three variables, one behind the other. -/
theorem slots3 (w : World) (T : TypeId) (a0 a1 a2 b0 b1 b2 c0 c1 c2 : Value) (w' : World) (hl : Later (((w.alloc (.cells #[a0, a1, a2] T)).alloc (.cells #[b0, b1, b2] T)).alloc (.cells #[c0, c1, c2] T)) w') :
    Slot w' w.heap.size a0 a1 a2 ∧ Slot w' (w.heap.size + 1) b0 b1 b2 ∧ Slot w' (w.heap.size + 1 + 1) c0 c1 c2 ∧ w.heap.size + 3 ≤ w'.heap.size := by
  have e1 : (w.alloc (.cells #[a0, a1, a2] T)).heap.size = w.heap.size + 1 := by simp
  have e2 : ((w.alloc (.cells #[a0, a1, a2] T)).alloc (.cells #[b0, b1, b2] T)).heap.size = w.heap.size + 1 + 1 := by simp
  have e3 : (((w.alloc (.cells #[a0, a1, a2] T)).alloc (.cells #[b0, b1, b2] T)).alloc (.cells #[c0, c1, c2] T)).heap.size = w.heap.size + 1 + 1 + 1 := by simp
  have l1 : Later (w.alloc (.cells #[a0, a1, a2] T)) ((w.alloc (.cells #[a0, a1, a2] T)).alloc (.cells #[b0, b1, b2] T)) := (Below.refl _ _).alloc (Nat.le_refl _) _
  have l2 : Later ((w.alloc (.cells #[a0, a1, a2] T)).alloc (.cells #[b0, b1, b2] T)) (((w.alloc (.cells #[a0, a1, a2] T)).alloc (.cells #[b0, b1, b2] T)).alloc (.cells #[c0, c1, c2] T)) := (Below.refl _ _).alloc (Nat.le_refl _) _
  refine ⟨(((Slot.new w T a0 a1 a2).later l1 (by rw [e1]; omega)).later l2 (by rw [e2]; omega)).later hl (by rw [e3]; omega), ?_, ?_, ?_⟩
  · have := (Slot.new (w.alloc (.cells #[a0, a1, a2] T)) T b0 b1 b2)
    rw [e1] at this
    exact (this.later l2 (by rw [e2]; omega)).later hl (by rw [e3]; omega)
  · have := (Slot.new ((w.alloc (.cells #[a0, a1, a2] T)).alloc (.cells #[b0, b1, b2] T)) T c0 c1 c2)
    rw [e2] at this
    exact this.later hl (by rw [e3]; omega)
  · have := hl.size
    rw [e3] at this; omega

/-- A call hands back a value and an error. -/
def RetV (w : World) (r : Vl × Int) (e : Ending) (w' : World) : Prop :=
  e = .returned (.tuple #[.agg #[.int .u8 r.1.k, .int .i64 r.1.n, .string r.1.s], .int .i64 r.2]) ∧ Below w.heap.size w w'

theorem right_null {n : Int} {s : ByteArray} (h : Vl.right ⟨0, n, s⟩ = true) : n = 0 ∧ s = ⟨#[]⟩ := by
  simp [Vl.right] at h
  exact ⟨h.1, h.2⟩
theorem right_num {n : Int} {s : ByteArray} (h : Vl.right ⟨1, n, s⟩ = true) : s = ⟨#[]⟩ := by
  simp [Vl.right] at h
  exact h

end Go.Proofs.YtbnddpicpomakaaDoor

/- The walks of cell.arith where an argument is null. -/
set_option linter.unusedSimpArgs false
set_option linter.unusedVariables false
set_option maxRecDepth 100000
namespace Go.Proofs.YtbnddpicpomakaaDoor
open Go.RowKit

theorem right_n : Vl.right ⟨0, 0, ⟨#[]⟩⟩ = true := by decide
theorem right_i (n : Int) : Vl.right ⟨1, n, ⟨#[]⟩⟩ = true := by simp [Vl.right]; rfl
theorem num0 : decide (0 ≤ 1) = true := by decide
theorem num1 : decide (1 ≤ 1) = true := by decide

theorem right_cases0 (x : Vl) (h : x.right = true) (hk : x.k ≤ 1) : x = ⟨0, 0, ⟨#[]⟩⟩ ∨ x = ⟨1, x.n, ⟨#[]⟩⟩ := by
  obtain ⟨k, n, s⟩ := x
  rcases kinds k with rfl | rfl | rfl | rfl | h3
  · obtain ⟨rfl, rfl⟩ := right_null h; exact .inl rfl
  · have := right_num h; subst this; exact .inr rfl
  · simp only at hk; omega
  · simp only at hk; omega
  · simp only at hk; omega

end Go.Proofs.YtbnddpicpomakaaDoor

/- The walks of cell.Truth, Bool, Not. -/
set_option linter.unusedSimpArgs false
set_option linter.unusedVariables false
set_option maxRecDepth 100000
namespace Go.Proofs.YtbnddpicpomakaaDoor
open Go.RowKit

theorem slots1 (w : World) (T : TypeId) (a0 a1 a2 : Value) (w' : World) (hl : Later (w.alloc (.cells #[a0, a1, a2] T)) w') :
    Slot w' w.heap.size a0 a1 a2 ∧ w.heap.size + 1 ≤ w'.heap.size := by
  have e1 : (w.alloc (.cells #[a0, a1, a2] T)).heap.size = w.heap.size + 1 := by simp
  refine ⟨(Slot.new w T a0 a1 a2).later hl (by rw [e1]; omega), ?_⟩
  have := hl.size
  rw [e1] at this; omega

theorem slots2 (w : World) (T : TypeId) (a0 a1 a2 b0 b1 b2 : Value) (w' : World) (hl : Later ((w.alloc (.cells #[a0, a1, a2] T)).alloc (.cells #[b0, b1, b2] T)) w') :
    Slot w' w.heap.size a0 a1 a2 ∧ Slot w' (w.heap.size + 1) b0 b1 b2 ∧ w.heap.size + 2 ≤ w'.heap.size := by
  have e1 : (w.alloc (.cells #[a0, a1, a2] T)).heap.size = w.heap.size + 1 := by simp
  have e2 : ((w.alloc (.cells #[a0, a1, a2] T)).alloc (.cells #[b0, b1, b2] T)).heap.size = w.heap.size + 1 + 1 := by simp
  have l1 : Later (w.alloc (.cells #[a0, a1, a2] T)) ((w.alloc (.cells #[a0, a1, a2] T)).alloc (.cells #[b0, b1, b2] T)) := (Below.refl _ _).alloc (Nat.le_refl _) _
  refine ⟨((Slot.new w T a0 a1 a2).later l1 (by rw [e1]; omega)).later hl (by rw [e2]; omega), ?_, ?_⟩
  · have := (Slot.new (w.alloc (.cells #[a0, a1, a2] T)) T b0 b1 b2)
    rw [e1] at this
    exact this.later hl (by rw [e2]; omega)
  · have := hl.size
    rw [e2] at this; omega

/-- What Truth answers: is it true, is that known, the error. -/
def truthT (x : Vl) : Bool × Bool × Int :=
  if x.right = false then (false, false, 3) else if 1 < x.k then (false, false, 20) else if x.k = 0 then (false, false, 0) else (x.n != 0, true, 0)

def RetT (w : World) (r : Bool × Bool × Int) (e : Ending) (w' : World) : Prop :=
  e = .returned (.tuple #[.bool r.1, .bool r.2.1, .int .i64 r.2.2]) ∧ Below w.heap.size w w'

def boolV (b : Bool) : Vl := numV (if b then 1 else 0)
end Go.Proofs.YtbnddpicpomakaaDoor

/- The walks of cell.Bool, Not, decide, And, Or. -/
set_option linter.unusedSimpArgs false
set_option linter.unusedVariables false
set_option maxRecDepth 100000
namespace Go.Proofs.YtbnddpicpomakaaDoor
open Go.RowKit

/-- What Not answers. -/
def notV (x : Vl) : Vl × Int :=
  if (truthT x).2.2 ≠ 0 then (nullV, (truthT x).2.2) else if (truthT x).2.1 = false then (nullV, 0) else (boolV (!(truthT x).1), 0)

/-- What decide answers. -/
def decideV (win : Bool) (a b : Vl) : Vl × Int :=
  if a.right = false ∨ b.right = false then (nullV, 3)
  else if 1 < a.k ∨ 1 < b.k then (nullV, 20)
  else if (truthT a).2.1 = true ∧ (truthT a).1 = win ∨ (truthT b).2.1 = true ∧ (truthT b).1 = win then (boolV win, 0)
  else if (truthT a).2.1 = false ∨ (truthT b).2.1 = false then (nullV, 0)
  else (boolV (!win), 0)

/-- Two truths and the winner decide. -/
def decideB (win y1 kn1 y2 kn2 : Bool) : Vl × Int :=
  if kn1 = true ∧ y1 = win ∨ kn2 = true ∧ y2 = win then (boolV win, 0) else if kn1 = false ∨ kn2 = false then (nullV, 0) else (boolV (!win), 0)

theorem truth_num (x : Vl) (h : x.right = true) (hk : x.k ≤ 1) : (truthT x).2.2 = 0 := by
  unfold truthT
  rw [if_neg (by simp [h]), if_neg (by omega)]
  split <;> rfl

theorem truth_type (x : Vl) (h : x.right = true) (hk : ¬ x.k ≤ 1) : truthT x = (false, false, 20) := by
  unfold truthT
  rw [if_neg (by simp [h]), if_pos (by omega)]

end Go.Proofs.YtbnddpicpomakaaDoor

/- The walks of cmp.Compare, cell.Order and cell.Compare. -/
set_option linter.unusedSimpArgs false
set_option linter.unusedVariables false
set_option maxRecDepth 100000
namespace Go.Proofs.YtbnddpicpomakaaDoor
open Go.RowKit

def cmpI (x y : Int) : Int := if x < y then -1 else if y < x then 1 else 0
def cmpS (s t : ByteArray) : Int := if Op.bytesLess s.toList t.toList then -1 else if s.toList == t.toList then 0 else 1

/-- The order of two values. -/
def orderV (a b : Vl) : Int :=
  if a = b ∨ a.right = false ∨ b.right = false then 0 else if a.k ≠ b.k then cmpI a.k b.k else if a.n ≠ b.n then cmpI a.n b.n else cmpS a.s b.s

theorem toList_inj {s t : ByteArray} (h : s.toList = t.toList) : s = t := by
  rw [ByteArray.toList_eq, ByteArray.toList_eq] at h
  exact ByteArray.ext (Array.toList_inj.1 h)

theorem ne_bool (k1 k2 : Nat) (n1 n2 : Int) (s1 s2 : ByteArray) (h : (⟨k1, n1, s1⟩ : Vl) ≠ ⟨k2, n2, s2⟩) : ((k1 : Int) == (k2 : Int) && (n1 == n2 && s1.toList == s2.toList)) = false := by
  rw [Bool.eq_false_iff]
  intro hh
  simp only [Bool.and_eq_true, beq_iff_eq] at hh
  obtain ⟨e1, e2, e3⟩ := hh
  apply h
  rw [show k1 = k2 by omega, e2, toList_inj e3]

def RetI (w : World) (n : Int) (e : Ending) (w' : World) : Prop := e = .returned (.int .i64 n) ∧ Below w.heap.size w w'

end Go.Proofs.YtbnddpicpomakaaDoor

/- The walks of isName, takes and valid. -/
set_option linter.unusedSimpArgs false
set_option linter.unusedVariables false
set_option maxRecDepth 100000
namespace Go.Proofs.YtbnddpicpomakaaDoor
open Go.RowKit

/-- A block of the call's own with eight cells. -/
structure Slot8 (W : World) (B : Nat) (v0 v1 v2 v3 v4 v5 v6 v7 : Value) : Prop where
  c0 : W.cell? ⟨B, 0, none⟩ = some v0
  c1 : W.cell? ⟨B, 1, none⟩ = some v1
  c2 : W.cell? ⟨B, 2, none⟩ = some v2
  c3 : W.cell? ⟨B, 3, none⟩ = some v3
  c4 : W.cell? ⟨B, 4, none⟩ = some v4
  c5 : W.cell? ⟨B, 5, none⟩ = some v5
  c6 : W.cell? ⟨B, 6, none⟩ = some v6
  c7 : W.cell? ⟨B, 7, none⟩ = some v7
theorem Slot8.new (w : World) (T : TypeId) (v0 v1 v2 v3 v4 v5 v6 v7 : Value) : Slot8 (w.alloc (.cells #[v0, v1, v2, v3, v4, v5, v6, v7] T)) w.heap.size v0 v1 v2 v3 v4 v5 v6 v7 :=
  ⟨by simp, by simp, by simp, by simp, by simp, by simp, by simp, by simp⟩
theorem Slot8.later {W W' : World} {B N : Nat} {v0 v1 v2 v3 v4 v5 v6 v7 : Value} (h : Slot8 W B v0 v1 v2 v3 v4 v5 v6 v7) (hB : B < N) (hb : Below N W W') : Slot8 W' B v0 v1 v2 v3 v4 v5 v6 v7 :=
  ⟨(hb.cell (p := ⟨B, 0, none⟩) hB).trans h.c0, (hb.cell (p := ⟨B, 1, none⟩) hB).trans h.c1, (hb.cell (p := ⟨B, 2, none⟩) hB).trans h.c2, (hb.cell (p := ⟨B, 3, none⟩) hB).trans h.c3, (hb.cell (p := ⟨B, 4, none⟩) hB).trans h.c4, (hb.cell (p := ⟨B, 5, none⟩) hB).trans h.c5, (hb.cell (p := ⟨B, 6, none⟩) hB).trans h.c6, (hb.cell (p := ⟨B, 7, none⟩) hB).trans h.c7⟩
theorem box8 (w : World) (o : Obj) : w.heap.size < (w.alloc o).heap.size := by simp
/-- The cells by name. -/
theorem XM.v_eq (x : XM) : x.v = .agg #[.int .i64 x.t.lab.kd, .int .u8 x.t.lab.v.k, .int .i64 x.t.lab.v.n, .string x.t.lab.v.s, .string x.t.lab.tb, .string x.t.lab.nm, .string x.t.lab.op, .slice x.a x.t.args.length x.cap] := rfl

theorem isX_eq (s : ByteArray) : isX s = (decide ((nameV s).2 = 0) && decide ((nameV s).1 = s) && !resB s) := rfl

set_option maxHeartbeats 2000000 in
theorem xName_any (s : ByteArray) (w : World) (hs : s.size ≤ 140737488351232) :
    Calls Tryd.prog 92 #[.string s] w fun e w' => e = .returned (.bool (isX s)) ∧ Below w.heap.size w w' := by
  have HN := Lib.hid (fun W => Name_any s W (by omega))
  have HR := Lib.hid (fun W => Reserved_any s W)
  rw [isX_eq]
  generalize nameV s = X at *
  generalize resB s = r at *
  obtain ⟨x, q⟩ := X
  simp only at HN ⊢
  by_cases hq : q = 0
  · subst hq
    by_cases hx : x = s
    · subst hx
      go_enter Tryd.func92, Tryd.ntmps92
      go_wp2_with fail
      refine (HN.out _).mono ?_
      rintro e w1 ⟨rfl, hb⟩
      go_wp2_with fail
      refine (HR.out _).mono ?_
      rintro e w2 ⟨rfl, rfl⟩
      go_wp2
      go_ret
      exact ⟨by simp, hb⟩
    · have hb : (x.toList == s.toList) = false := by rw [beq_eq_false_iff_ne]; exact fun h => hx (toList_inj h)
      have hx2 : decide (x = s) = false := decide_eq_false hx
      rw [hx2]
      clear hx hx2
      go_enter Tryd.func92, Tryd.ntmps92
      go_wp2_with fail
      refine (HN.out _).mono ?_
      rintro e w1 ⟨rfl, hb⟩
      go_wp2
      go_ret
      exact ⟨by simp, hb⟩
  · have h2 : (q == 0) = false := by simpa using hq
    go_enter Tryd.func92, Tryd.ntmps92
    go_wp2_with fail
    refine (HN.out _).mono ?_
    rintro e w1 ⟨rfl, hb⟩
    go_wp2
    go_ret
    exact ⟨ret_b (by simp [hq]), hb⟩

set_option maxHeartbeats 4000000 in
theorem takes_any (k : Int) (op : ByteArray) (n : Nat) (w : World) :
    Calls Tryd.prog 93 #[.int .i64 k, .string op, .int .i64 (n : Int)] w fun e w' => e = .returned (.bool (takesB k op n)) ∧ w = w' := by
  have HBin := Lib.hid (fun W => isBin_any op W)
  have HAgg := Lib.hid (fun W => isAgg_any op W)
  obtain ⟨b, hb⟩ : ∃ b, takesB k op n = b := ⟨_, rfl⟩
  rw [hb]
  by_cases k3 : k = 3
  · subst k3
    have HB := Lib.hid hb
    clear hb HBin HAgg
    by_cases hn : n = 1
    · subst hn
      go_enter Tryd.func93, Tryd.ntmps93
      go_wp2
      all_goals
        go_ret
        exact ⟨ret_b (by rw [← HB.out]; clear HB; simp_all [takesB, inL, unL]), rfl⟩
    · have q1 : ((n : Int) == 1) = false := by simp; omega
      go_enter Tryd.func93, Tryd.ntmps93
      go_wp2
      go_ret
      exact ⟨ret_b (by rw [← HB.out]; simp [takesB, hn]), rfl⟩
  by_cases k4 : k = 4
  · subst k4
    have HB := Lib.hid hb
    clear hb HAgg k3
    by_cases hn : n = 2
    · subst hn
      go_enter Tryd.func93, Tryd.ntmps93
      go_wp2_with fail
      refine (HBin.out _).mono ?_
      rintro e w1 ⟨rfl, rfl⟩
      go_wp2
      go_ret
      exact ⟨ret_b (by rw [← HB.out]; simp [takesB]), rfl⟩
    · have q1 : ((n : Int) == 2) = false := by simp; omega
      go_enter Tryd.func93, Tryd.ntmps93
      go_wp2
      go_ret
      exact ⟨ret_b (by rw [← HB.out]; simp [takesB, hn]), rfl⟩
  by_cases k5 : k = 5
  · subst k5
    have HB := Lib.hid hb
    clear hb HAgg HBin k3 k4
    by_cases hn : n = 1
    · subst hn
      go_enter Tryd.func93, Tryd.ntmps93
      go_wp2
      all_goals
        go_ret
        exact ⟨ret_b (by rw [← HB.out]; clear HB; simp_all [takesB, inL, nullL]), rfl⟩
    · have q1 : ((n : Int) == 1) = false := by simp; omega
      go_enter Tryd.func93, Tryd.ntmps93
      go_wp2
      go_ret
      exact ⟨ret_b (by rw [← HB.out]; simp [takesB, hn]), rfl⟩
  by_cases k6 : k = 6
  · subst k6
    have HB := Lib.hid hb
    clear hb HBin k3 k4 k5
    obtain ⟨g, hg⟩ : ∃ g, inL aggL op = g := ⟨_, rfl⟩
    rw [hg] at HAgg
    have HG := Lib.hid hg
    clear hg
    have hn : n = 0 ∨ n = 1 ∨ (n ≠ 0 ∧ n ≠ 1) := by omega
    rcases hn with rfl | rfl | ⟨hn0, hn1⟩
    · cases g <;>
      · go_enter Tryd.func93, Tryd.ntmps93
        go_wp2_with fail
        refine (HAgg.out _).mono ?_
        rintro e w1 ⟨rfl, rfl⟩
        go_wp2
        all_goals
          go_ret
          exact ⟨ret_b (by rw [← HB.out]; have h := HG.out; clear HB HG HAgg; simp_all [takesB, inL, countL]), rfl⟩
    · cases g <;>
      · go_enter Tryd.func93, Tryd.ntmps93
        go_wp2_with fail
        refine (HAgg.out _).mono ?_
        rintro e w1 ⟨rfl, rfl⟩
        go_wp2
        all_goals
          go_ret
          exact ⟨ret_b (by rw [← HB.out]; have h := HG.out; clear HB HG HAgg; simp_all [takesB, countL]), rfl⟩
    · have q0 : ((n : Int) == 0) = false := by simp; omega
      have q1 : ((n : Int) == 1) = false := by simp; omega
      cases g <;>
      · go_enter Tryd.func93, Tryd.ntmps93
        go_wp2_with fail
        refine (HAgg.out _).mono ?_
        rintro e w1 ⟨rfl, rfl⟩
        go_wp2
        all_goals
          go_ret
          exact ⟨ret_b (by rw [← HB.out]; have h := HG.out; clear HB HG HAgg; simp_all [takesB]), rfl⟩
  by_cases k7 : k = 7
  · subst k7
    have HB := Lib.hid hb
    clear hb HBin HAgg k3 k4 k5 k6
    have hn : n = 4 ∨ n = 1 ∨ (n ≠ 4 ∧ n ≠ 1) := by omega
    rcases hn with rfl | rfl | ⟨hn0, hn1⟩
    · go_enter Tryd.func93, Tryd.ntmps93
      go_wp2
      all_goals
        go_ret
        exact ⟨ret_b (by rw [← HB.out]; clear HB; simp_all [takesB, inL, callL, lenL]), rfl⟩
    · go_enter Tryd.func93, Tryd.ntmps93
      go_wp2
      all_goals
        go_ret
        exact ⟨ret_b (by rw [← HB.out]; clear HB; simp_all [takesB, inL, callL, lenL]), rfl⟩
    · have q0 : ((n : Int) == 4) = false := by simp; omega
      have q1 : ((n : Int) == 1) = false := by simp; omega
      go_enter Tryd.func93, Tryd.ntmps93
      go_wp2
      all_goals
        go_ret
        exact ⟨ret_b (by rw [← HB.out]; clear HB; simp_all [takesB, inL, callL, lenL]), rfl⟩
  · have HB := Lib.hid hb
    have q3 : (k == 3) = false := by simpa using k3
    have q4 : (k == 4) = false := by simpa using k4
    have q5 : (k == 5) = false := by simpa using k5
    have q6 : (k == 6) = false := by simpa using k6
    have q7 : (k == 7) = false := by simpa using k7
    have hf : takesB k op n = false := by unfold takesB; simp [k3, k4, k5, k6, k7]
    have hbf : b = false := by rw [← hb, hf]
    subst hbf
    clear hb HBin HAgg hf k3 k4 k5 k6 k7 HB
    go_enter Tryd.func93, Tryd.ntmps93
    go_wp2
    go_ret
    exact ⟨rfl, rfl⟩

set_option maxHeartbeats 4000000 in
theorem valid_any (x : XM) (w : World) (hF : x.t.lab.fair) :
    Calls Tryd.prog 65 #[x.v] w fun e w' => e = .returned (.bool (x.t.lab.ok x.t.args.length)) ∧ Below w.heap.size w w' := by
  rw [XM.v_eq]
  obtain ⟨⟨⟨kd, ⟨vk, vn, vs⟩, tb, nm, op⟩, args⟩, a, cap⟩ := x
  simp only [Rose.lab, Rose.args] at hF ⊢
  have hvk := hF.k
  have hvn := hF.n
  have HN := Lib.hid (fun W => xName_any nm W hF.nm)
  have HT := Lib.hid (fun W => xName_any tb W hF.tb)
  have HR := Lib.hid (fun W => right_any vk vn vs W)
  generalize args.length = n at *
  have HTk := Lib.hid (fun W => takes_any kd op n W)
  have HX := Lib.hid (Slot8.new w 39 (.int .i64 kd) (.int .u8 vk) (.int .i64 vn) (.string vs) (.string tb) (.string nm) (.string op) (.slice a n cap))
  have HB0 : Hid (∀ o, Below w.heap.size w (w.alloc o)) := fun o => (Below.refl _ w).alloc (Nat.le_refl _) _
  obtain ⟨b, hb⟩ : ∃ b, Lb.ok ⟨kd, ⟨vk, vn, vs⟩, tb, nm, op⟩ n = b := ⟨_, rfl⟩
  rw [hb]
  clear hF
  simp only [Lb.ok, Vl.zeroB] at hb
  by_cases k1 : kd = 1
  · subst k1
    generalize Vl.right ⟨vk, vn, vs⟩ = r at *
    have HB := Lib.hid hb
    clear hb HN HT HTk
    cases r with
    | false =>
      go_enter Tryd.func65, Tryd.ntmps65
      go_wp2_with fail
      refine (HR.out _).mono ?_
      rintro e w1 ⟨rfl, hb1⟩
      have HB1 := Lib.hid ((HB0.out _).trans (hb1.mono (Nat.le_of_lt (box8 _ _))))
      obtain ⟨x0, x1, x2, x3, x4, x5, x6, x7⟩ := HX.out.later (box8 _ _) hb1
      clear hb1
      go_wp2
      all_goals
        go_ret
        exact ⟨ret_b (by rw [← HB.out]; simp), HB1.out⟩
    | true =>
      go_enter Tryd.func65, Tryd.ntmps65
      go_wp2_with fail
      refine (HR.out _).mono ?_
      rintro e w1 ⟨rfl, hb1⟩
      have HB1 := Lib.hid ((HB0.out _).trans (hb1.mono (Nat.le_of_lt (box8 _ _))))
      obtain ⟨x0, x1, x2, x3, x4, x5, x6, x7⟩ := HX.out.later (box8 _ _) hb1
      clear hb1
      go_wp2
      all_goals
        go_ret
        exact ⟨ret_b (by rw [← HB.out]; clear HB; first | (simp_all; done) | (simp_all; intros; omega)), HB1.out⟩
  by_cases k2 : kd = 2
  · subst k2
    generalize isX nm = rn at *
    generalize isX tb = rt at *
    have HB := Lib.hid hb
    clear hb HR HTk k1
    cases rn with
    | false =>
      go_enter Tryd.func65, Tryd.ntmps65
      go_wp2_with fail
      refine (HN.out _).mono ?_
      rintro e w1 ⟨rfl, hb1⟩
      have HB1 := Lib.hid ((HB0.out _).trans (hb1.mono (Nat.le_of_lt (box8 _ _))))
      obtain ⟨x0, x1, x2, x3, x4, x5, x6, x7⟩ := HX.out.later (box8 _ _) hb1
      clear hb1
      go_wp2
      all_goals
        go_ret
        exact ⟨ret_b (by rw [← HB.out]; clear HB; first | (simp_all; done) | (simp_all; intros; omega)), HB1.out⟩
    | true =>
      by_cases ht : tb.toList = []
      · have ht2 : tb.toList.isEmpty = true := by rw [ht]; rfl
        clear HT
        go_enter Tryd.func65, Tryd.ntmps65
        go_wp2_with fail
        refine (HN.out _).mono ?_
        rintro e w1 ⟨rfl, hb1⟩
        have HB1 := Lib.hid ((HB0.out _).trans (hb1.mono (Nat.le_of_lt (box8 _ _))))
        obtain ⟨x0, x1, x2, x3, x4, x5, x6, x7⟩ := HX.out.later (box8 _ _) hb1
        clear hb1
        rw [ht2] at HB
        go_wp2
        all_goals
          go_ret
          exact ⟨ret_b (by rw [← HB.out]; clear HB; first | (simp_all; done) | (simp_all; intros; omega)), HB1.out⟩
      · have ht2 : tb.toList.isEmpty = false := by simpa using ht
        have ht3 : (!tb.toList.isEmpty) = true := by rw [ht2]; rfl
        cases rt <;>
        · go_enter Tryd.func65, Tryd.ntmps65
          go_wp2_with fail
          refine (HN.out _).mono ?_
          rintro e w1 ⟨rfl, hb1⟩
          have HB1 := Lib.hid ((HB0.out _).trans (hb1.mono (Nat.le_of_lt (box8 _ _))))
          have HX1 := Lib.hid (HX.out.later (box8 _ _) hb1)
          have hs1 := Nat.lt_of_lt_of_le (box8 w (.cells #[.int .i64 2, .int .u8 vk, .int .i64 vn, .string vs, .string tb, .string nm, .string op, .slice a n cap] 39)) hb1.size
          obtain ⟨x0, x1, x2, x3, x4, x5, x6, x7⟩ := HX1.out
          clear hb1
          go_wp2_with fail
          refine (HT.out _).mono ?_
          rintro e w2 ⟨rfl, hb2⟩
          have HB2 := Lib.hid (HB1.out.trans (hb2.mono HB1.out.size))
          clear x0 x1 x2 x3 x4 x5 x6 x7
          obtain ⟨x0, x1, x2, x3, x4, x5, x6, x7⟩ := HX1.out.later hs1 hb2
          clear hb2 hs1
          go_wp2
          all_goals
            go_ret
            exact ⟨ret_b (by rw [← HB.out]; clear HB; first | (simp_all; done) | (simp_all; intros; omega)), HB2.out⟩
  · have q1 : (kd == 1) = false := by simpa using k1
    have q2 : (kd == 2) = false := by simpa using k2
    rw [if_neg k1, if_neg k2] at hb
    generalize takesB kd op n = r at *
    have HB := Lib.hid hb
    clear hb HR HN HT k1 k2
    cases r with
    | false =>
      go_enter Tryd.func65, Tryd.ntmps65
      go_wp2_with fail
      refine (HTk.out _).mono ?_
      rintro e w1 ⟨rfl, rfl⟩
      have HB1 := Lib.hid (HB0.out (.cells #[.int .i64 kd, .int .u8 vk, .int .i64 vn, .string vs, .string tb, .string nm, .string op, .slice a n cap] 39))
      go_wp2
      all_goals
        go_ret
        exact ⟨ret_b (by rw [← HB.out]; clear HB; first | (simp_all; done) | (simp_all; intros; omega)), HB1.out⟩
    | true =>
      go_enter Tryd.func65, Tryd.ntmps65
      go_wp2_with fail
      refine (HTk.out _).mono ?_
      rintro e w1 ⟨rfl, rfl⟩
      go_wp2
      all_goals
        go_ret
        exact ⟨ret_b (by rw [← HB.out]; clear HB; first | (simp_all; done) | (simp_all; intros; omega)), HB0.out _⟩
end Go.Proofs.YtbnddpicpomakaaDoor

/- The walks of Count, Great, deep over an expression's tree. -/
set_option linter.unusedSimpArgs false
set_option linter.unusedVariables false
set_option maxRecDepth 100000
namespace Go.Proofs.YtbnddpicpomakaaDoor
open Go.RowKit

def cntTo (args : List Ex) (least k : Nat) : Nat := min (least + 1 + ((args.take k).map Rose.count).sum) 3000
theorem sum_take_succ {l : List Ex} {k : Nat} (hk : k < l.length) : ((l.take (k + 1)).map Rose.count).sum = ((l.take k).map Rose.count).sum + l[k].count := by
  rw [List.take_succ_eq_append_getElem hk, List.map_append, List.sum_append]; simp
theorem cntTo_succ {args : List Ex} {least k : Nat} (hk : k < args.length) : cntTo args least (k + 1) = min (cntTo args least k + args[k].count) 3000 := by
  unfold cntTo; rw [sum_take_succ hk]; omega
theorem cntTo_le (args : List Ex) (least k : Nat) : cntTo args least k ≤ 3000 := by unfold cntTo; omega
theorem sum_take_le (l : List Ex) (k : Nat) : ((l.take k).map Rose.count).sum ≤ (l.map Rose.count).sum := by
  have h : (l.map Rose.count).sum = ((l.take k).map Rose.count).sum + ((l.drop k).map Rose.count).sum := by
    rw [← List.sum_append, ← List.map_append, List.take_append_drop]
  omega
theorem cntTo_end (e : Ex) (least : Nat) : cntTo e.args least e.args.length = min (least + e.count) 3000 := by
  unfold cntTo; rw [List.take_length, Rose.count_eq]; congr 1; omega
theorem cntTo_full {e : Ex} {least k : Nat} (h : 3000 ≤ cntTo e.args least k) : cntTo e.args least k = min (least + e.count) 3000 := by
  have h1 := sum_take_le e.args k
  have h2 := e.count_eq
  unfold cntTo at h ⊢; omega

def depTo (args : List Ex) (most k : Nat) : Nat := min most (1 + maxL ((args.take k).map Rose.depth))
theorem maxL_take_succ {l : List Ex} {k : Nat} (hk : k < l.length) : maxL ((l.take (k + 1)).map Rose.depth) = max (maxL ((l.take k).map Rose.depth)) l[k].depth := by
  rw [List.take_succ_eq_append_getElem hk, List.map_append]; simp [maxL_snoc]
theorem depTo_succ {args : List Ex} {most k : Nat} (hk : k < args.length) (h : depTo args most k ≠ most) : depTo args most (k + 1) = max (depTo args most k) (1 + min args[k].depth (most - 1)) := by
  have := args[k].depth_pos
  unfold depTo at h ⊢; rw [maxL_take_succ hk]; omega
theorem maxL_take_le (l : List Ex) (k : Nat) : maxL ((l.take k).map Rose.depth) ≤ maxL (l.map Rose.depth) := by
  rw [maxL_le]
  intro x hx
  obtain ⟨y, hy, rfl⟩ := List.mem_map.1 hx
  exact maxL_mem (List.mem_map.2 ⟨y, List.mem_of_mem_take hy, rfl⟩)
theorem depTo_end (e : Ex) (most : Nat) : depTo e.args most e.args.length = min e.depth most := by
  unfold depTo; rw [List.take_length, Rose.depth_eq]; omega
theorem depTo_full {e : Ex} {most k : Nat} (h : depTo e.args most k = most) : min e.depth most = most := by
  have h1 := maxL_take_le e.args k
  have h2 := e.depth_eq
  unfold depTo at h; omega
theorem depTo_le (args : List Ex) (most k : Nat) : depTo args most k ≤ most := by unfold depTo; omega

theorem ret_k {a b : Nat} (h : a = b) : Ending.returned (.int .i64 (a : Int)) = .returned (.int .i64 (b : Int)) := by rw [h]
/-- The cells of an argument. -/
structure KidAt (w : World) (b o : Nat) (y : XM) : Prop where
  c0 : w.cell? ⟨b, o, none⟩ = some (.int .i64 y.t.lab.kd)
  c1 : w.cell? ⟨b, o + 1, none⟩ = some (.int .u8 y.t.lab.v.k)
  c2 : w.cell? ⟨b, o + 2, none⟩ = some (.int .i64 y.t.lab.v.n)
  c3 : w.cell? ⟨b, o + 3, none⟩ = some (.string y.t.lab.v.s)
  c4 : w.cell? ⟨b, o + 4, none⟩ = some (.string y.t.lab.tb)
  c5 : w.cell? ⟨b, o + 5, none⟩ = some (.string y.t.lab.nm)
  c6 : w.cell? ⟨b, o + 6, none⟩ = some (.string y.t.lab.op)
  c7 : w.cell? ⟨b, o + 7, none⟩ = some (.slice y.a y.t.args.length y.cap)
theorem XAt.kid8 {N : Nat} {w : World} {n : Nat} {x : XM} (h : XAt N w (n + 1) x) {k : Nat} (hk : k < x.t.args.length) :
    ∃ y : XM, y.t = x.t.args[k] ∧ XAt N w n y ∧ ∃ b o, x.a = some ⟨b, o, none⟩ ∧ b < N ∧ KidAt w b (o + k * 8) y := by
  obtain ⟨y, h1, h2, b, o, h3, h4, h5⟩ := h.kid hk
  exact ⟨y, h1, h2, b, o, h3, h4, h5 0 _ rfl, h5 1 _ rfl, h5 2 _ rfl, h5 3 _ rfl, h5 4 _ rfl, h5 5 _ rfl, h5 6 _ rfl, h5 7 _ rfl⟩

/-- The argument of a call, spelled. -/
def XM.s (x : XM) : Value := .agg #[.int .i64 x.t.lab.kd, .int .u8 x.t.lab.v.k, .int .i64 x.t.lab.v.n, .string x.t.lab.v.s, .string x.t.lab.tb, .string x.t.lab.nm, .string x.t.lab.op, .slice x.a x.t.args.length x.cap]

set_option maxHeartbeats 2000000 in
theorem xCnt_any : ∀ (n : Nat) (x : XM) (w : World) (least : Nat), XAt w.heap.size w n x → least ≤ 2999 →
    Calls Tryd.prog 12 #[x.v, .int .i64 (least : Int)] w fun e w' => e = .returned (.int .i64 ((min (least + x.t.count) 3000 : Nat) : Int)) ∧ Below w.heap.size w w'
  | 0, _, _, _, h, _ => h.elim
  | n + 1, ⟨t, a, cap⟩, w, least, h, hl => by
    rw [XM.v_eq]
    have HA := Lib.hid h
    have hlen := h.fair.2.1
    have hcap := h.fair.2.2
    simp only at hlen hcap ⊢
    obtain ⟨r, hr⟩ : ∃ r : Nat, min (least + t.count) 3000 = r := ⟨_, rfl⟩
    have HE := Lib.hid (cntTo_end t least)
    have HFu := Lib.hid (fun k => @cntTo_full t least k)
    rw [hr] at HE HFu ⊢
    clear hr
    obtain ⟨m, hm⟩ : ∃ m, t.args.length = m := ⟨_, rfl⟩
    rw [hm] at hlen
    have HM := Lib.hid hm
    have IH : Hid (∀ (y : XM) (W : World) (q : Nat), XAt W.heap.size W n y → q ≤ 2999 → Calls Tryd.prog 12 #[.agg #[.int .i64 y.t.lab.kd, .int .u8 y.t.lab.v.k, .int .i64 y.t.lab.v.n, .string y.t.lab.v.s, .string y.t.lab.tb, .string y.t.lab.nm, .string y.t.lab.op, .slice y.a y.t.args.length y.cap], .int .i64 (q : Int)] W fun e w' => e = .returned (.int .i64 ((min (q + y.t.count) 3000 : Nat) : Int)) ∧ Below W.heap.size W w') := fun y W q hy hq => by
      have := xCnt_any n y W q hy hq
      rw [XM.v_eq] at this; exact this
    rw [hm]
    have HS := Lib.hid (Slot8.new w 39 (.int .i64 t.lab.kd) (.int .u8 t.lab.v.k) (.int .i64 t.lab.v.n) (.string t.lab.v.s) (.string t.lab.tb) (.string t.lab.nm) (.string t.lab.op) (.slice a m cap))
    obtain ⟨w0, hw0⟩ : ∃ w0, w.alloc (.cells #[.int .i64 t.lab.kd, .int .u8 t.lab.v.k, .int .i64 t.lab.v.n, .string t.lab.v.s, .string t.lab.tb, .string t.lab.nm, .string t.lab.op, .slice a m cap] 39) = w0 := ⟨_, rfl⟩
    have HB0 : Hid (Below w.heap.size w w0) := by rw [← hw0]; exact (Below.refl _ w).alloc (Nat.le_refl _) _
    have hs0 : w.heap.size < w0.heap.size := by rw [← hw0]; simp
    rw [hw0] at HS
    have HQ : Hid ((least : Int) + 1 = ((cntTo t.args least 0 : Nat) : Int)) := by unfold cntTo; simp [Hid]; omega
    clear h hm
    have HC := Lib.hid (fun k (hk : k < t.args.length) => @cntTo_succ t.args least k hk)
    have HC3 := Lib.hid (cntTo_le t.args least)
    generalize cntTo t.args least = C at *
    go_enter Tryd.func12, Tryd.ntmps12
    go_wp2
    go_loopw [5, 6] (fun c i wr => ∃ k : Nat, k ≤ m ∧ i = .int .i64 (k : Int) ∧ c = .int .i64 ((C k : Nat) : Int) ∧ Hid (Below w0.heap.size w0 wr)) (fun _ i _ => m - (intOf i).toNat)
    case atStart => exact ⟨0, by omega, rfl, by rw [← HQ.out], Below.refl _ _⟩
    case round =>
      obtain ⟨k, hk, rfl, rfl, HBr⟩ := hrel
      have hc3 := HC3.out k
      obtain ⟨x0, x1, x2, x3, x4, x5, x6, x7⟩ := HS.out.later hs0 HBr.out
      by_cases hlt : k < m
      · by_cases hlc : C k < 3000
        · have HBw := Lib.hid (HB0.out.trans (HBr.out.mono HB0.out.size))
          obtain ⟨y, hy, hAy, b, o, hab, hbN, hKid⟩ := (HA.out.later HBw.out).kid8 (k := k) (by rw [HM.out]; exact hlt)
          simp only at hab
          subst hab
          have HCk := HC.out k (by rw [HM.out]; exact hlt)
          rw [← hy] at HCk
          have HCk := Lib.hid HCk
          have HY := Lib.hid (IH.out y wr (C k) hAy (by omega))
          obtain ⟨y0, y1, y2, y3, y4, y5, y6, y7⟩ := hKid
          clear hy hAy HA IH HFu HE
          go_wp2_with fail
          refine HY.out.mono ?_
          rintro e w2 ⟨rfl, hb2⟩
          have HB2 := Lib.hid (HBr.out.trans (hb2.mono HBr.out.size))
          clear hb2 HY y0 y1 y2 y3 y4 y5 y6 y7 x0 x1 x2 x3 x4 x5 x6 x7
          go_wp2
          go_roundw
          case rel => exact ⟨k + 1, by omega, by go_num, by rw [HCk.out], HB2.out⟩
          case measure => simp [intOf]; omega
        · have q1 : decide (C k < 3000) = false := by simpa using hlc
          have HR : Hid (C k = r) := HFu.out k (by omega)
          go_wp2
          go_ret
          exact ⟨ret_k HR.out, HB0.out.trans (HBr.out.mono HB0.out.size)⟩
      · have q0 : decide (k < m) = false := by simpa using hlt
        have HR : Hid (C k = r) := by rw [show k = m by omega, ← HM.out]; exact HE.out
        go_wp2
        go_ret
        exact ⟨ret_k HR.out, HB0.out.trans (HBr.out.mono HB0.out.size)⟩

set_option maxHeartbeats 2000000 in
theorem Great_any : ∀ (n : Nat) (x : XM) (w : World) (left : Nat), XAt w.heap.size w n x → left ≤ 1000 →
    Calls Tryd.prog 13 #[x.v, .int .i64 (left : Int)] w fun e w' => e = .returned (.bool (greatX left x.t)) ∧ Below w.heap.size w w'
  | 0, _, _, _, h, _ => h.elim
  | n + 1, ⟨t, a, cap⟩, w, left, h, hl => by
    rw [XM.v_eq]
    have HA := Lib.hid h
    have hlen := h.fair.2.1
    have hcap := h.fair.2.2
    have hF := h.fair.1
    simp only at hlen hcap hF ⊢
    obtain ⟨r, hr⟩ : ∃ r, greatX left t = r := ⟨_, rfl⟩
    rw [hr]
    have hs3 := hF.s
    have hs4 := hF.tb
    have hs5 := hF.nm
    have hs6 := hF.op
    obtain ⟨m, hm⟩ : ∃ m, t.args.length = m := ⟨_, rfl⟩
    rw [hm] at hlen ⊢
    have HM := Lib.hid hm
    have HB0 : Hid (∀ o, Below w.heap.size w (w.alloc o)) := fun o => (Below.refl _ w).alloc (Nat.le_refl _) _
    by_cases hbig : left = 0 ∨ t.lab.big m = true
    · have hrt : r = true := by
        rw [← hr]
        cases left with
        | zero => rfl
        | succ l => rcases hbig with h0 | h0
                    · omega
                    · rw [greatX, hm, h0]; rfl
      subst hrt
      clear hr h hm HM HA hF
      rcases hbig with hbig | hbig
      · have q0 : ((left : Int) == 0) = true := by simp; omega
        clear hbig hl
        go_enter Tryd.func13, Tryd.ntmps13
        go_wp2
        all_goals (go_ret; exact ⟨rfl, HB0.out _⟩)
      · unfold Lb.big at hbig
        simp only [Bool.or_eq_true, decide_eq_true_iff] at hbig
        go_enter Tryd.func13, Tryd.ntmps13
        go_wp2
        all_goals first | (go_ret; exact ⟨rfl, HB0.out _⟩) | (exfalso; omega)
    · obtain ⟨l, rfl⟩ : ∃ l, left = l + 1 := ⟨left - 1, by have : ¬ left = 0 := fun h => hbig (.inl h); omega⟩
      have hb2 : t.lab.big m = false := by
        cases hb : t.lab.big m with
        | true => exact absurd (.inr hb) hbig
        | false => rfl
      rw [greatX, hm, hb2, Bool.false_or] at hr
      unfold Lb.big at hb2
      simp only [Bool.or_eq_false_iff, decide_eq_false_iff_not] at hb2
      obtain ⟨⟨g1, g2⟩, g3⟩ := hb2
      have HR := Lib.hid hr
      have IH : Hid (∀ (y : XM) (W : World), XAt W.heap.size W n y → Calls Tryd.prog 13 #[.agg #[.int .i64 y.t.lab.kd, .int .u8 y.t.lab.v.k, .int .i64 y.t.lab.v.n, .string y.t.lab.v.s, .string y.t.lab.tb, .string y.t.lab.nm, .string y.t.lab.op, .slice y.a y.t.args.length y.cap], .int .i64 (l : Int)] W fun e w' => e = .returned (.bool (greatX l y.t)) ∧ Below W.heap.size W w') := fun y W hy => by
        have := Great_any n y W l hy (by omega)
        rw [XM.v_eq] at this; exact this
      have HS := Lib.hid (Slot8.new w 39 (.int .i64 t.lab.kd) (.int .u8 t.lab.v.k) (.int .i64 t.lab.v.n) (.string t.lab.v.s) (.string t.lab.tb) (.string t.lab.nm) (.string t.lab.op) (.slice a m cap))
      have hn5 : ((t.lab.nm.size : Nat) : Int) ≤ 100 := by omega
      have hn4 : ((t.lab.tb.size : Nat) : Int) ≤ 100 := by omega
      have hn6 : ((t.lab.op.size : Nat) : Int) ≤ 100 := by omega
      have q0 : ((((l + 1 : Nat) : Int)) == 0) = false := by simp; omega
      have q1 : decide ((6 : Int) < (m : Int)) = false := by simp; omega
      have q2 : decide ((100 : Int) < (t.lab.nm.size : Int) + (t.lab.tb.size : Int) + (t.lab.op.size : Int)) = false := by simp; omega
      have q3 : decide ((200 : Int) < (t.lab.v.s.size : Int)) = false := by simp; omega
      have hl1 : IntKind.i64.wrap (((l + 1 : Nat) : Int) - 1) = (l : Int) := by rw [show ((l + 1 : Nat) : Int) - 1 = (l : Int) by omega]; exact IntWalk.i64_in _ (by omega)
      clear h hm hbig hr hF
      obtain ⟨w0, hw0⟩ : ∃ w0, w.alloc (.cells #[.int .i64 t.lab.kd, .int .u8 t.lab.v.k, .int .i64 t.lab.v.n, .string t.lab.v.s, .string t.lab.tb, .string t.lab.nm, .string t.lab.op, .slice a m cap] 39) = w0 := ⟨_, rfl⟩
      have HB1 : Hid (Below w.heap.size w w0) := by rw [← hw0]; exact HB0.out _
      have hs0 : w.heap.size < w0.heap.size := by rw [← hw0]; simp
      rw [hw0] at HS
      generalize hL : ((l + 1 : Nat) : Int) = L at *
      clear HB0
      obtain ⟨x0, x1, x2, x3, x4, x5, x6, x7⟩ := HS.out
      go_enter Tryd.func13, Tryd.ntmps13
      go_wp2
      clear x0 x1 x2 x3 x4 x5 x6 x7
      go_loopw [5] (fun i wr => ∃ k : Nat, k ≤ m ∧ i = .int .i64 (k : Int) ∧ Hid ((t.args.take k).any (greatX l) = false) ∧ Hid (Below w0.heap.size w0 wr)) (fun i _ => m - (intOf i).toNat)
      case atStart => exact ⟨0, by omega, rfl, by simp [Hid], Below.refl _ _⟩
      case round =>
        obtain ⟨k, hk, rfl, HG, HBr⟩ := hrel
        obtain ⟨x0, x1, x2, x3, x4, x5, x6, x7⟩ := HS.out.later hs0 HBr.out
        have HBw := Lib.hid (HB1.out.trans (HBr.out.mono HB1.out.size))
        by_cases hlt : k < m
        · have hkl : k < t.args.length := by rw [HM.out]; exact hlt
          obtain ⟨y, hy, hAy, b, o, hab, hbN, hKid⟩ := (HA.out.later HBw.out).kid8 (k := k) hkl
          simp only at hab hy
          subst hab
          have HTk : Hid ((t.args.take (k + 1)).any (greatX l) = (greatX l y.t)) := by
            rw [List.take_succ_eq_append_getElem hkl, List.any_append, HG.out, ← hy]; simp [Hid]
          have HTr : Hid (greatX l y.t = true → r = true) := fun hg => by
            rw [← HR.out, List.any_eq_true]
            exact ⟨_, List.getElem_mem hkl, by rw [← hy]; exact hg⟩
          have HY := Lib.hid (IH.out y wr hAy)
          obtain ⟨g, hg⟩ : ∃ g, greatX l y.t = g := ⟨_, rfl⟩
          rw [hg] at HY HTk HTr
          obtain ⟨y0, y1, y2, y3, y4, y5, y6, y7⟩ := hKid
          clear hy hAy HA IH hg hkl HG
          cases g with
          | true =>
            have hrt : r = true := HTr.out rfl
            subst hrt
            go_wp2_with fail
            refine HY.out.mono ?_
            rintro e w2 ⟨rfl, hb2⟩
            have HB2 := Lib.hid (HBw.out.trans (hb2.mono HBw.out.size))
            clear hb2 HY
            go_wp2
            go_ret
            exact ⟨rfl, HB2.out⟩
          | false =>
            go_wp2_with fail
            refine HY.out.mono ?_
            rintro e w2 ⟨rfl, hb2⟩
            have HB2 := Lib.hid (HBr.out.trans (hb2.mono HBr.out.size))
            clear hb2 HY y0 y1 y2 y3 y4 y5 y6 y7 x0 x1 x2 x3 x4 x5 x6 x7
            go_wp2
            go_roundw
            case rel => exact ⟨k + 1, by omega, by go_num, HTk.out, HB2.out⟩
            case measure => simp [intOf]; omega
        · have hrf : r = false := by
            have := HG.out
            rw [show k = m by omega, ← HM.out, List.take_length] at this
            rw [← HR.out]; exact this
          subst hrf
          go_wp2
          go_ret
          exact ⟨rfl, HBw.out⟩
end Go.Proofs.YtbnddpicpomakaaDoor
