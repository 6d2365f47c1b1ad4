/- Several texts of one proof, one behind the other. -/
import Derived.Test.YtlcphgomhhejbaaNPk4
import Derived.Laws.BitsAllLaws
import Derived.WalkKit
import Derived.Laws.StructEq
set_option linter.unusedSimpArgs false
set_option linter.unusedVariables false

/- Plain mathematics of layer 2: the values of SQL. -/
namespace Go.Proofs.Ytlcphgomhhejbaa

/-- A value: its kind, its integer, its text. -/
structure Vl where
  k : Nat
  n : Int
  s : ByteArray
  deriving DecidableEq

/-- A value's fields fit their types. -/
def Vl.ok (x : Vl) : Prop := x.k < 256 ∧ -9223372036854775808 ≤ x.n ∧ x.n ≤ 9223372036854775807

def Vl.right (x : Vl) : Bool :=
  if x.k = 0 then decide (x.n = 0) && decide (x.s.size = 0)
  else if x.k = 1 then decide (x.s.size = 0)
  else if x.k = 2 ∨ x.k = 3 then decide (x.n = 0)
  else false

def nullV : Vl := ⟨0, 0, ⟨#[]⟩⟩
def numV (n : Int) : Vl := ⟨1, n, ⟨#[]⟩⟩

/-- Does an int64 hold it? -/
def fits (n : Int) : Bool := decide (-9223372036854775808 ≤ n ∧ n ≤ 9223372036854775807)

def addI (x y : Int) : Int × Int := if fits (x + y) then (x + y, 0) else (0, 21)
def subI (x y : Int) : Int × Int := if fits (x - y) then (x - y, 0) else (0, 21)
def mulI (x y : Int) : Int × Int := if fits (x * y) then (x * y, 0) else (0, 21)
def divI (x y : Int) : Int × Int := if y = 0 then (0, 22) else if fits (x.tdiv y) then (x.tdiv y, 0) else (0, 21)
def modI (x y : Int) : Int × Int := if y = 0 then (0, 22) else (x.tmod y, 0)

/-- An operation on two values. -/
def arithV (op : Int → Int → Int × Int) (a b : Vl) : Vl × Int :=
  if a.right = false ∨ b.right = false then (nullV, 3)
  else if 1 < a.k ∨ 1 < b.k then (nullV, 20)
  else if a.k = 0 ∨ b.k = 0 then (nullV, 0)
  else if (op a.n b.n).2 ≠ 0 then (nullV, (op a.n b.n).2) else (numV (op a.n b.n).1, 0)

theorem fits_iff (n : Int) : fits n = true ↔ -9223372036854775808 ≤ n ∧ n ≤ 9223372036854775807 := by simp [fits]

/-- A product that wrapped doesn't give back its factor. -/
theorem mul_back (x y : Int) (hx1 : -9223372036854775808 ≤ x) (hx2 : x ≤ 9223372036854775807) (hy1 : -9223372036854775808 ≤ y) (hy2 : y ≤ 9223372036854775807) (hy : y ≠ 0)
    (hf : fits (x * y) = false) : (IntKind.i64.wrap (x * y)).tdiv y ≠ x := by
  intro h
  have hnf : ¬ (-9223372036854775808 ≤ x * y ∧ x * y ≤ 9223372036854775807) := by
    intro hh; rw [(fits_iff _).2 hh] at hf; cases hf
  have hdm := Int.tdiv_mul_add_tmod (IntKind.i64.wrap (x * y)) y
  rw [h] at hdm
  have hlt : ((IntKind.i64.wrap (x * y)).tmod y).natAbs < y.natAbs := by rw [Int.natAbs_tmod]; exact Nat.mod_lt _ (by omega)
  rw [IntKind.wrap_i64] at *
  generalize x * y = p at *
  omega

end Go.Proofs.Ytlcphgomhhejbaa

/- The walks of layer 2's small functions. -/
namespace Go.Proofs.Ytlcphgomhhejbaa
open Go.RowKit

theorem ret_b {a b : Bool} (h : a = b) : Ending.returned (.bool a) = .returned (.bool b) := by rw [h]

theorem Below.box (w : World) (o : Obj) : Below w.heap.size w (w.alloc o) := (Below.refl _ _).alloc (Nat.le_refl _) _

theorem kinds (k : Nat) : k = 0 ∨ k = 1 ∨ k = 2 ∨ k = 3 ∨ 3 < k := by omega

theorem right_big {k : Nat} (n : Int) (s : ByteArray) (hk : 3 < k) : Vl.right ⟨k, n, s⟩ = false := by
  unfold Vl.right
  rw [if_neg (by simp only; omega), if_neg (by simp only; omega), if_neg (by simp only; omega)]

end Go.Proofs.Ytlcphgomhhejbaa

/- '==' of two values of SQL. -/
namespace Go.Proofs.Ytlcphgomhhejbaa
open Go.RowKit

theorem isEmpty_size (s : ByteArray) : s.toList.isEmpty = decide (s.size = 0) := by
  have : s.toList = s.data.toList := ByteArray.toList_eq s
  rw [this]
  cases h : s.data.toList with
  | nil => simp [ByteArray.size, ← Array.length_toList, h]
  | cons x r => simp [ByteArray.size, ← Array.length_toList, h]
end Go.Proofs.Ytlcphgomhhejbaa

/- The walks of node.Right and what it calls. -/
namespace Go.Proofs.Ytlcphgomhhejbaa
open Go.RowKit

theorem noPage_any (p : Int) (w : World) : Calls Try.prog 37 #[.int .i64 p] w fun e w' => e = .returned (.bool (!okPage p)) ∧ w = w' := by
  by_cases h1 : p < 1
  · have HR : Hid ((!okPage p) = true) := by rw [show okPage p = false from decide_eq_false (by omega)]; rfl
    rw [HR.out]
    go_enter Try.func37, Try.ntmps37
    go_wp2
    go_ret
    exact ⟨rfl, rfl⟩
  · have q1 : decide (p < 1) = false := by simpa using h1
    by_cases h2 : 4096 ≤ p
    · have HR : Hid ((!okPage p) = true) := by rw [show okPage p = false from decide_eq_false (by omega)]; rfl
      rw [HR.out]
      go_enter Try.func37, Try.ntmps37
      go_wp2
      go_ret
      exact ⟨ret_b (by simp [h2]), rfl⟩
    · have HR : Hid ((!okPage p) = false) := by rw [show okPage p = true from decide_eq_true (by omega)]; rfl
      rw [HR.out]
      go_enter Try.func37, Try.ntmps37
      go_wp2
      go_ret
      exact ⟨ret_b (by simp [h2]), rfl⟩

theorem empty_list (s : ByteArray) (h : s.size = 0) : s.toList = [] := by rw [ByteArray.toList_eq, Array.size_eq_zero_iff.1 (show s.data.size = 0 from h)]
theorem empty_not (s : ByteArray) (h : ¬ s.size = 0) : ¬ s.toList = [] := fun h2 => h (by
  have := isEmpty_size s
  rw [h2] at this
  simpa using this.symm)

set_option maxHeartbeats 1000000 in
theorem isWrong_any (c : Cl) (w : World) (hd : c.data.size ≤ 140737488355328) : Calls Try.prog 35 #[.agg #[.int .i64 c.len, .string c.data, .int .i64 c.page]] w fun e w' => e = .returned (.bool (!c.ok)) ∧ Below w.heap.size w w' := by
  obtain ⟨n, s, p⟩ := c
  simp only at hd ⊢
  by_cases h1 : n < 0
  · have HR : Hid ((!Cl.ok ⟨n, s, p⟩) = true) := by rw [show Cl.ok ⟨n, s, p⟩ = false from decide_eq_false (by dsimp only; omega)]; rfl
    rw [HR.out]
    go_enter Try.func35, Try.ntmps35
    go_wp2
    go_ret
    exact ⟨rfl, Below.box _ _⟩
  · have q1 : decide (n < 0) = false := by simpa using h1
    by_cases h2 : 8192 < n
    · have HR : Hid ((!Cl.ok ⟨n, s, p⟩) = true) := by rw [show Cl.ok ⟨n, s, p⟩ = false from decide_eq_false (by dsimp only; omega)]; rfl
      rw [HR.out]
      go_enter Try.func35, Try.ntmps35
      go_wp2
      go_ret
      exact ⟨rfl, Below.box _ _⟩
    · have q2 : decide (8192 < n) = false := by simpa using h2
      by_cases h3 : n ≤ 120
      · have q3 : decide (n ≤ 120) = true := by simpa using h3
        by_cases h4 : (s.size : Int) = n
        · subst h4
          by_cases h5 : p = 0
          · subst h5
            have HR : Hid ((!Cl.ok ⟨s.size, s, 0⟩) = false) := by rw [show Cl.ok ⟨s.size, s, 0⟩ = true from decide_eq_true (by dsimp only; omega)]; rfl
            rw [HR.out]
            go_enter Try.func35, Try.ntmps35
            go_wp2
            go_ret
            exact ⟨by simp, Below.box _ _⟩
          · have HR : Hid ((!Cl.ok ⟨s.size, s, p⟩) = true) := by rw [show Cl.ok ⟨s.size, s, p⟩ = false from decide_eq_false (by dsimp only; omega)]; rfl
            have q5 : (p != 0) = true := by simpa using h5
            rw [HR.out]
            go_enter Try.func35, Try.ntmps35
            go_wp2
            go_ret
            exact ⟨by simp [h5], Below.box _ _⟩
        · have HR : Hid ((!Cl.ok ⟨n, s, p⟩) = true) := by rw [show Cl.ok ⟨n, s, p⟩ = false from decide_eq_false (by dsimp only; omega)]; rfl
          have q4 : ((s.size : Int) != n) = true := by simpa using h4
          rw [HR.out]
          go_enter Try.func35, Try.ntmps35
          go_wp2
          go_ret
          exact ⟨by simp, Below.box _ _⟩
      · have q3 : decide (n ≤ 120) = false := by simpa using h3
        have HP := Lib.hid (fun W => noPage_any p W)
        obtain ⟨r, hr⟩ : ∃ r, okPage p = r := ⟨_, rfl⟩
        rw [hr] at HP
        by_cases h4 : s.size = 0
        · have HR : Hid ((!Cl.ok ⟨n, s, p⟩) = !r) := by rw [← hr, show Cl.ok ⟨n, s, p⟩ = okPage p from decide_eq_decide.2 (by dsimp only; omega)]; rfl
          have q4 := empty_list s h4
          clear hr
          rw [HR.out]
          go_enter Try.func35, Try.ntmps35
          go_wp2_with fail
          refine (HP.out _).mono ?_
          rintro e w1 ⟨rfl, rfl⟩
          go_wp2
          go_ret
          exact ⟨by simp, Below.box _ _⟩
        · have HR : Hid ((!Cl.ok ⟨n, s, p⟩) = true) := by rw [show Cl.ok ⟨n, s, p⟩ = false from decide_eq_false (by dsimp only; omega)]; rfl
          have q4 := empty_not s h4
          have q5 : (!s.toList.isEmpty) = true := by simpa using q4
          rw [HR.out]
          clear hr HP
          go_enter Try.func35, Try.ntmps35
          go_wp2
          go_ret
          exact ⟨by simp [q4], Below.box _ _⟩
end Go.Proofs.Ytlcphgomhhejbaa
