/- Several texts of one proof, one behind the other. -/
import Derived.Test.YtialpfdhdcjpaaaSPk5
import Derived.Laws.StructEq
import Derived.Deep.MidRow
import Derived.Lib.Hide
set_option linter.unusedSimpArgs false
set_option linter.unusedVariables false

/- The walks of cell.Truth, Bool, Not. -/
set_option linter.unusedSimpArgs false
set_option linter.unusedVariables false
set_option maxRecDepth 100000
namespace Go.Proofs.Ytialpfdhdcjpaaa
open Go.RowKit

theorem slots1 (w : World) (T : TypeId) (a0 a1 a2 : Value) (w' : World) (hl : Later (w.alloc (.cells #[a0, a1, a2] T)) w') :
    Slot w' w.heap.size a0 a1 a2 ∧ w.heap.size + 1 ≤ w'.heap.size := by
  have e1 : (w.alloc (.cells #[a0, a1, a2] T)).heap.size = w.heap.size + 1 := by simp
  refine ⟨(Slot.new w T a0 a1 a2).later hl (by rw [e1]; omega), ?_⟩
  have := hl.size
  rw [e1] at this; omega

theorem slots2 (w : World) (T : TypeId) (a0 a1 a2 b0 b1 b2 : Value) (w' : World) (hl : Later ((w.alloc (.cells #[a0, a1, a2] T)).alloc (.cells #[b0, b1, b2] T)) w') :
    Slot w' w.heap.size a0 a1 a2 ∧ Slot w' (w.heap.size + 1) b0 b1 b2 ∧ w.heap.size + 2 ≤ w'.heap.size := by
  have e1 : (w.alloc (.cells #[a0, a1, a2] T)).heap.size = w.heap.size + 1 := by simp
  have e2 : ((w.alloc (.cells #[a0, a1, a2] T)).alloc (.cells #[b0, b1, b2] T)).heap.size = w.heap.size + 1 + 1 := by simp
  have l1 : Later (w.alloc (.cells #[a0, a1, a2] T)) ((w.alloc (.cells #[a0, a1, a2] T)).alloc (.cells #[b0, b1, b2] T)) := (Below.refl _ _).alloc (Nat.le_refl _) _
  refine ⟨((Slot.new w T a0 a1 a2).later l1 (by rw [e1]; omega)).later hl (by rw [e2]; omega), ?_, ?_⟩
  · have := (Slot.new (w.alloc (.cells #[a0, a1, a2] T)) T b0 b1 b2)
    rw [e1] at this
    exact this.later hl (by rw [e2]; omega)
  · have := hl.size
    rw [e2] at this; omega

/-- What Truth answers: is it true, is that known, the error. -/
def truthT (x : Vl) : Bool × Bool × Int :=
  if x.right = false then (false, false, 3) else if 1 < x.k then (false, false, 20) else if x.k = 0 then (false, false, 0) else (x.n != 0, true, 0)

def RetT (w : World) (r : Bool × Bool × Int) (e : Ending) (w' : World) : Prop :=
  e = .returned (.tuple #[.bool r.1, .bool r.2.1, .int .i64 r.2.2]) ∧ Below w.heap.size w w'

def boolV (b : Bool) : Vl := numV (if b then 1 else 0)
end Go.Proofs.Ytialpfdhdcjpaaa

/- The walks of cell.Bool, Not, decide, And, Or. -/
set_option linter.unusedSimpArgs false
set_option linter.unusedVariables false
set_option maxRecDepth 100000
namespace Go.Proofs.Ytialpfdhdcjpaaa
open Go.RowKit

/-- What Not answers. -/
def notV (x : Vl) : Vl × Int :=
  if (truthT x).2.2 ≠ 0 then (nullV, (truthT x).2.2) else if (truthT x).2.1 = false then (nullV, 0) else (boolV (!(truthT x).1), 0)

/-- What decide answers. -/
def decideV (win : Bool) (a b : Vl) : Vl × Int :=
  if a.right = false ∨ b.right = false then (nullV, 3)
  else if 1 < a.k ∨ 1 < b.k then (nullV, 20)
  else if (truthT a).2.1 = true ∧ (truthT a).1 = win ∨ (truthT b).2.1 = true ∧ (truthT b).1 = win then (boolV win, 0)
  else if (truthT a).2.1 = false ∨ (truthT b).2.1 = false then (nullV, 0)
  else (boolV (!win), 0)

/-- Two truths and the winner decide. -/
def decideB (win y1 kn1 y2 kn2 : Bool) : Vl × Int :=
  if kn1 = true ∧ y1 = win ∨ kn2 = true ∧ y2 = win then (boolV win, 0) else if kn1 = false ∨ kn2 = false then (nullV, 0) else (boolV (!win), 0)

theorem truth_num (x : Vl) (h : x.right = true) (hk : x.k ≤ 1) : (truthT x).2.2 = 0 := by
  unfold truthT
  rw [if_neg (by simp [h]), if_neg (by omega)]
  split <;> rfl

theorem truth_type (x : Vl) (h : x.right = true) (hk : ¬ x.k ≤ 1) : truthT x = (false, false, 20) := by
  unfold truthT
  rw [if_neg (by simp [h]), if_pos (by omega)]

end Go.Proofs.Ytialpfdhdcjpaaa

/- The walks of cmp.Compare, cell.Order and cell.Compare. -/
set_option linter.unusedSimpArgs false
set_option linter.unusedVariables false
set_option maxRecDepth 100000
namespace Go.Proofs.Ytialpfdhdcjpaaa
open Go.RowKit

def cmpI (x y : Int) : Int := if x < y then -1 else if y < x then 1 else 0
def cmpS (s t : ByteArray) : Int := if Op.bytesLess s.toList t.toList then -1 else if s.toList == t.toList then 0 else 1

theorem cmp_uint8 (x y : Int) (w : World) : Calls Try.prog 81 #[.int .u8 x, .int .u8 y] w fun e w' => e = .returned (.int .i64 (cmpI x y)) ∧ w = w' := by
  have hc : x < y ∨ y < x ∨ (x ≤ y ∧ y ≤ x) := by omega
  rcases hc with h | h | ⟨h1, h2⟩
  · have HR : Hid (cmpI x y = -1) := by unfold cmpI; rw [if_pos h]; rfl
    go_enter Try.func81, Try.ntmps81
    go_wp2
    go_ret
    exact ⟨by rw [HR.out]; rfl, rfl⟩
  · have HR : Hid (cmpI x y = 1) := by unfold cmpI; rw [if_neg (by omega), if_pos h]; rfl
    go_enter Try.func81, Try.ntmps81
    go_wp2
    go_ret
    exact ⟨by rw [HR.out]; rfl, rfl⟩
  · have HR : Hid (cmpI x y = 0) := by unfold cmpI; rw [if_neg (by omega), if_neg (by omega)]; rfl
    go_enter Try.func81, Try.ntmps81
    go_wp2
    go_ret
    exact ⟨by rw [HR.out]; rfl, rfl⟩

theorem cmp_int64 (x y : Int) (w : World) : Calls Try.prog 82 #[.int .i64 x, .int .i64 y] w fun e w' => e = .returned (.int .i64 (cmpI x y)) ∧ w = w' := by
  have hc : x < y ∨ y < x ∨ (x ≤ y ∧ y ≤ x) := by omega
  rcases hc with h | h | ⟨h1, h2⟩
  · have HR : Hid (cmpI x y = -1) := by unfold cmpI; rw [if_pos h]; rfl
    go_enter Try.func82, Try.ntmps82
    go_wp2
    go_ret
    exact ⟨by rw [HR.out]; rfl, rfl⟩
  · have HR : Hid (cmpI x y = 1) := by unfold cmpI; rw [if_neg (by omega), if_pos h]; rfl
    go_enter Try.func82, Try.ntmps82
    go_wp2
    go_ret
    exact ⟨by rw [HR.out]; rfl, rfl⟩
  · have HR : Hid (cmpI x y = 0) := by unfold cmpI; rw [if_neg (by omega), if_neg (by omega)]; rfl
    go_enter Try.func82, Try.ntmps82
    go_wp2
    go_ret
    exact ⟨by rw [HR.out]; rfl, rfl⟩

theorem cmp_string (s u : ByteArray) (w : World) : Calls Try.prog 83 #[.string s, .string u] w fun e w' => e = .returned (.int .i64 (cmpS s u)) ∧ w = w' := by
  cases hl : Op.bytesLess s.toList u.toList with
  | true =>
    have HR : Hid (cmpS s u = -1) := by unfold cmpS; rw [hl]; rfl
    go_enter Try.func83, Try.ntmps83
    go_wp2
    go_ret
    exact ⟨by rw [HR.out]; rfl, rfl⟩
  | false =>
    cases he : s.toList == u.toList with
    | true =>
      have HR : Hid (cmpS s u = 0) := by unfold cmpS; rw [hl, he]; rfl
      go_enter Try.func83, Try.ntmps83
      go_wp2
      go_ret
      exact ⟨by rw [HR.out]; rfl, rfl⟩
    | false =>
      have HR : Hid (cmpS s u = 1) := by unfold cmpS; rw [hl, he]; rfl
      go_enter Try.func83, Try.ntmps83
      go_wp2
      go_ret
      exact ⟨by rw [HR.out]; rfl, rfl⟩

/-- The order of two values. -/
def orderV (a b : Vl) : Int :=
  if a = b ∨ a.right = false ∨ b.right = false then 0 else if a.k ≠ b.k then cmpI a.k b.k else if a.n ≠ b.n then cmpI a.n b.n else cmpS a.s b.s

theorem toList_inj {s t : ByteArray} (h : s.toList = t.toList) : s = t := by
  rw [ByteArray.toList_eq, ByteArray.toList_eq] at h
  exact ByteArray.ext (Array.toList_inj.1 h)

theorem ne_bool (k1 k2 : Nat) (n1 n2 : Int) (s1 s2 : ByteArray) (h : (⟨k1, n1, s1⟩ : Vl) ≠ ⟨k2, n2, s2⟩) : ((k1 : Int) == (k2 : Int) && (n1 == n2 && s1.toList == s2.toList)) = false := by
  rw [Bool.eq_false_iff]
  intro hh
  simp only [Bool.and_eq_true, beq_iff_eq] at hh
  obtain ⟨e1, e2, e3⟩ := hh
  apply h
  rw [show k1 = k2 by omega, e2, toList_inj e3]

def RetI (w : World) (n : Int) (e : Ending) (w' : World) : Prop := e = .returned (.int .i64 n) ∧ Below w.heap.size w w'

theorem order_same (k : Nat) (n : Int) (s : ByteArray) (w : World) : Calls Try.prog 63 #[.agg #[.int .u8 k, .int .i64 n, .string s], .agg #[.int .u8 k, .int .i64 n, .string s]] w (RetI w 0) := by
  go_enter Try.func63, Try.ntmps63
  go_wp2
  go_ret
  exact ⟨rfl, ((Below.refl _ _).alloc (Nat.le_refl _) _).alloc (by simp) _⟩

theorem order_bad1 (k1 k2 : Nat) (n1 n2 : Int) (s1 s2 : ByteArray) (w : World) (hne : ((k1 : Int) == (k2 : Int) && (n1 == n2 && s1.toList == s2.toList)) = false) (h : Vl.right ⟨k1, n1, s1⟩ = false) :
    Calls Try.prog 63 #[.agg #[.int .u8 k1, .int .i64 n1, .string s1], .agg #[.int .u8 k2, .int .i64 n2, .string s2]] w (RetI w 0) := by
  go_enter Try.func63, Try.ntmps63
  go_wp2_with fail
  refine (right_any k1 n1 s1 _).mono ?_
  rw [h]
  rintro e w1 ⟨rfl, hb⟩
  obtain ⟨S3, S4, hz⟩ := slots2 _ _ _ _ _ _ _ _ _ hb
  have hw : Below w.heap.size w w1 := Below.trans (((Below.refl _ _).alloc (Nat.le_refl _) _).alloc (by simp) _) (Below.mono hb (by simp <;> omega))
  clear hb
  go_wp2
  go_ret
  exact ⟨rfl, hw⟩

theorem order_bad2 (k1 k2 : Nat) (n1 n2 : Int) (s1 s2 : ByteArray) (w : World) (hne : ((k1 : Int) == (k2 : Int) && (n1 == n2 && s1.toList == s2.toList)) = false) (h : Vl.right ⟨k1, n1, s1⟩ = true) (h2 : Vl.right ⟨k2, n2, s2⟩ = false) :
    Calls Try.prog 63 #[.agg #[.int .u8 k1, .int .i64 n1, .string s1], .agg #[.int .u8 k2, .int .i64 n2, .string s2]] w (RetI w 0) := by
  go_enter Try.func63, Try.ntmps63
  go_wp2_with fail
  refine (right_any k1 n1 s1 _).mono ?_
  rw [h]
  rintro e w1 ⟨rfl, hb⟩
  obtain ⟨S3, S4, hz⟩ := slots2 _ _ _ _ _ _ _ _ _ hb
  have hw : Below w.heap.size w w1 := Below.trans (((Below.refl _ _).alloc (Nat.le_refl _) _).alloc (by simp) _) (Below.mono hb (by simp <;> omega))
  clear hb
  obtain ⟨p0, p1, p2, p3, p4, p5⟩ := id S3
  obtain ⟨q0, q1, q2, q3, q4, q5⟩ := id S4
  go_wp2_with fail
  clear p0 p1 p2 p3 p4 p5 q0 q1 q2 q3 q4 q5
  refine (right_any k2 n2 s2 _).mono ?_
  rw [h2]
  rintro e w2 ⟨rfl, hb⟩
  replace S3 := S3.later hb (by omega)
  replace S4 := S4.later hb (by omega)
  replace hw := hw.trans (Below.mono hb (by omega))
  replace hz := Nat.le_trans hz (Below.size hb)
  clear hb
  go_wp2
  go_ret
  exact ⟨rfl, hw⟩

theorem order_kind (k1 k2 : Nat) (n1 n2 : Int) (s1 s2 : ByteArray) (w : World) (hne : ((k1 : Int) == (k2 : Int) && (n1 == n2 && s1.toList == s2.toList)) = false) (h : Vl.right ⟨k1, n1, s1⟩ = true) (h2 : Vl.right ⟨k2, n2, s2⟩ = true) (h3 : ((k1 : Int) != (k2 : Int)) = true) :
    Calls Try.prog 63 #[.agg #[.int .u8 k1, .int .i64 n1, .string s1], .agg #[.int .u8 k2, .int .i64 n2, .string s2]] w (RetI w (cmpI k1 k2)) := by
  go_enter Try.func63, Try.ntmps63
  go_wp2_with fail
  refine (right_any k1 n1 s1 _).mono ?_
  rw [h]
  rintro e w1 ⟨rfl, hb⟩
  obtain ⟨S3, S4, hz⟩ := slots2 _ _ _ _ _ _ _ _ _ hb
  have hw : Below w.heap.size w w1 := Below.trans (((Below.refl _ _).alloc (Nat.le_refl _) _).alloc (by simp) _) (Below.mono hb (by simp <;> omega))
  clear hb
  obtain ⟨p0, p1, p2, p3, p4, p5⟩ := id S3
  obtain ⟨q0, q1, q2, q3, q4, q5⟩ := id S4
  go_wp2_with fail
  clear p0 p1 p2 p3 p4 p5 q0 q1 q2 q3 q4 q5
  refine (right_any k2 n2 s2 _).mono ?_
  rw [h2]
  rintro e w2 ⟨rfl, hb⟩
  replace S3 := S3.later hb (by omega)
  replace S4 := S4.later hb (by omega)
  replace hw := hw.trans (Below.mono hb (by omega))
  replace hz := Nat.le_trans hz (Below.size hb)
  clear hb
  obtain ⟨p0, p1, p2, p3, p4, p5⟩ := id S3
  obtain ⟨q0, q1, q2, q3, q4, q5⟩ := id S4
  go_wp2_with fail
  refine (cmp_uint8 _ _ _).mono ?_
  rintro e w3 ⟨rfl, rfl⟩
  go_wp2
  go_ret
  exact ⟨rfl, hw⟩

theorem order_int (k1 k2 : Nat) (n1 n2 : Int) (s1 s2 : ByteArray) (w : World) (hne : ((k1 : Int) == (k2 : Int) && (n1 == n2 && s1.toList == s2.toList)) = false) (h : Vl.right ⟨k1, n1, s1⟩ = true) (h2 : Vl.right ⟨k2, n2, s2⟩ = true) (h3 : ((k1 : Int) != (k2 : Int)) = false) (h4 : (n1 != n2) = true) :
    Calls Try.prog 63 #[.agg #[.int .u8 k1, .int .i64 n1, .string s1], .agg #[.int .u8 k2, .int .i64 n2, .string s2]] w (RetI w (cmpI n1 n2)) := by
  go_enter Try.func63, Try.ntmps63
  go_wp2_with fail
  refine (right_any k1 n1 s1 _).mono ?_
  rw [h]
  rintro e w1 ⟨rfl, hb⟩
  obtain ⟨S3, S4, hz⟩ := slots2 _ _ _ _ _ _ _ _ _ hb
  have hw : Below w.heap.size w w1 := Below.trans (((Below.refl _ _).alloc (Nat.le_refl _) _).alloc (by simp) _) (Below.mono hb (by simp <;> omega))
  clear hb
  obtain ⟨p0, p1, p2, p3, p4, p5⟩ := id S3
  obtain ⟨q0, q1, q2, q3, q4, q5⟩ := id S4
  go_wp2_with fail
  clear p0 p1 p2 p3 p4 p5 q0 q1 q2 q3 q4 q5
  refine (right_any k2 n2 s2 _).mono ?_
  rw [h2]
  rintro e w2 ⟨rfl, hb⟩
  replace S3 := S3.later hb (by omega)
  replace S4 := S4.later hb (by omega)
  replace hw := hw.trans (Below.mono hb (by omega))
  replace hz := Nat.le_trans hz (Below.size hb)
  clear hb
  obtain ⟨p0, p1, p2, p3, p4, p5⟩ := id S3
  obtain ⟨q0, q1, q2, q3, q4, q5⟩ := id S4
  go_wp2_with fail
  refine (cmp_int64 _ _ _).mono ?_
  rintro e w3 ⟨rfl, rfl⟩
  go_wp2
  go_ret
  exact ⟨rfl, hw⟩

theorem order_text (k1 k2 : Nat) (n1 n2 : Int) (s1 s2 : ByteArray) (w : World) (hne : ((k1 : Int) == (k2 : Int) && (n1 == n2 && s1.toList == s2.toList)) = false) (h : Vl.right ⟨k1, n1, s1⟩ = true) (h2 : Vl.right ⟨k2, n2, s2⟩ = true) (h3 : ((k1 : Int) != (k2 : Int)) = false) (h4 : (n1 != n2) = false) :
    Calls Try.prog 63 #[.agg #[.int .u8 k1, .int .i64 n1, .string s1], .agg #[.int .u8 k2, .int .i64 n2, .string s2]] w (RetI w (cmpS s1 s2)) := by
  go_enter Try.func63, Try.ntmps63
  go_wp2_with fail
  refine (right_any k1 n1 s1 _).mono ?_
  rw [h]
  rintro e w1 ⟨rfl, hb⟩
  obtain ⟨S3, S4, hz⟩ := slots2 _ _ _ _ _ _ _ _ _ hb
  have hw : Below w.heap.size w w1 := Below.trans (((Below.refl _ _).alloc (Nat.le_refl _) _).alloc (by simp) _) (Below.mono hb (by simp <;> omega))
  clear hb
  obtain ⟨p0, p1, p2, p3, p4, p5⟩ := id S3
  obtain ⟨q0, q1, q2, q3, q4, q5⟩ := id S4
  go_wp2_with fail
  clear p0 p1 p2 p3 p4 p5 q0 q1 q2 q3 q4 q5
  refine (right_any k2 n2 s2 _).mono ?_
  rw [h2]
  rintro e w2 ⟨rfl, hb⟩
  replace S3 := S3.later hb (by omega)
  replace S4 := S4.later hb (by omega)
  replace hw := hw.trans (Below.mono hb (by omega))
  replace hz := Nat.le_trans hz (Below.size hb)
  clear hb
  obtain ⟨p0, p1, p2, p3, p4, p5⟩ := id S3
  obtain ⟨q0, q1, q2, q3, q4, q5⟩ := id S4
  go_wp2_with fail
  refine (cmp_string _ _ _).mono ?_
  rintro e w3 ⟨rfl, rfl⟩
  go_wp2
  go_ret
  exact ⟨rfl, hw⟩

theorem Order_any (a b : Vl) (w : World) : Calls Try.prog 63 #[.agg #[.int .u8 a.k, .int .i64 a.n, .string a.s], .agg #[.int .u8 b.k, .int .i64 b.n, .string b.s]] w (RetI w (orderV a b)) := by
  obtain ⟨k1, n1, s1⟩ := a
  obtain ⟨k2, n2, s2⟩ := b
  unfold orderV
  by_cases hab : (⟨k1, n1, s1⟩ : Vl) = ⟨k2, n2, s2⟩
  · rw [if_pos (.inl hab)]
    simp only [Vl.mk.injEq] at hab
    obtain ⟨rfl, rfl, rfl⟩ := hab
    exact order_same _ _ _ w
  · have hne := ne_bool _ _ _ _ _ _ hab
    by_cases h1 : Vl.right ⟨k1, n1, s1⟩ = true
    · by_cases h2 : Vl.right ⟨k2, n2, s2⟩ = true
      · rw [if_neg (by simp [hab, h1, h2])]
        by_cases h3 : k1 = k2
        · by_cases h4 : n1 = n2
          · rw [if_neg (by simp [h3]), if_neg (by simp [h4])]
            exact order_text _ _ _ _ _ _ w hne h1 h2 (by simp [h3]) (by simp [h4])
          · rw [if_neg (by simp [h3]), if_pos h4]
            exact order_int _ _ _ _ _ _ w hne h1 h2 (by simp [h3]) (by simp [h4])
        · rw [if_pos h3]
          exact order_kind _ _ _ _ _ _ w hne h1 h2 (by simp; omega)
      · rw [if_pos (.inr (.inr (by simpa using h2)))]
        exact order_bad2 _ _ _ _ _ _ w hne h1 (by simpa using h2)
    · rw [if_pos (.inr (.inl (by simpa using h1)))]
      exact order_bad1 _ _ _ _ _ _ w hne (by simpa using h1)

end Go.Proofs.Ytialpfdhdcjpaaa

/- A table in memory; the walks of isName, hasPeriod, has, Find, and of the reference's IsName. -/
set_option linter.unusedSimpArgs false
set_option linter.unusedVariables false
set_option maxRecDepth 100000
namespace Go.Proofs.Ytialpfdhdcjpaaa
open Go.RowKit

/-- Where a table's columns and its key lie. -/
structure TM where
  ca : Option Addr
  cl : Nat
  cc : Nat
  ka : Option Addr
  kl : Nat
  kc : Nat

/-- The cells of a table. -/
abbrev TM.cs (m : TM) (t : Tb) : Array Value := #[.string t.name, .slice m.ca m.cl m.cc, .slice m.ka m.kl m.kc, .string t.per, .int .i64 t.fr, .int .i64 t.tt, .bool t.apart, .bool t.vers]
abbrev TM.v (m : TM) (t : Tb) : Value := .agg (m.cs t)

/-- The table t lies there. -/
structure TAt (w : World) (t : Tb) (m : TM) : Prop where
  hc : m.cl = t.cols.length
  hk : m.kl = t.key.length
  ccap : m.cl ≤ m.cc
  kcap : m.kl ≤ m.kc
  carr : Arr w.heap.size w m.ca (cellsO t.cols)
  karr : Arr w.heap.size w m.ka (cellsI t.key)
  fair : t.Fair
theorem TAt.later {w w' : World} {t : Tb} {m : TM} (h : TAt w t m) (hb : Below w.heap.size w w') : TAt w' t m :=
  ⟨h.hc, h.hk, h.ccap, h.kcap, h.carr.later (N := 0) hb, h.karr.later (N := 0) hb, h.fair⟩
theorem TAt.cmax {w : World} {t : Tb} {m : TM} (h : TAt w t m) : m.cl ≤ 1000000 := by have := h.fair.cl; have := h.hc; omega
theorem TAt.kmax {w : World} {t : Tb} {m : TM} (h : TAt w t m) : m.kl ≤ 1000000 := by have := h.fair.kl; have := h.hk; omega

theorem isNm_eq (s : ByteArray) : isNm s = (decide ((nameV s).2 = 0) && decide ((nameV s).1 = s)) := by
  unfold isNm
  obtain ⟨x, e⟩ := nameV s
  rw [Bool.eq_iff_iff]
  simp
  exact and_comm

set_option maxHeartbeats 1000000 in
theorem sName_any (s : ByteArray) (w : World) (hs : s.size ≤ 1000000) :
    Calls Try.prog 33 #[.string s] w fun e w' => e = .returned (.bool (isNm s)) ∧ Below w.heap.size w w' := by
  have HN := Lib.hid (fun W => Name_any s W (by omega))
  rw [isNm_eq]
  generalize nameV s = X at *
  obtain ⟨x, q⟩ := X
  simp only at HN ⊢
  by_cases hq : q = 0
  · subst hq
    by_cases hx : x = s
    · subst hx
      go_enter Try.func33, Try.ntmps33
      go_wp2_with fail
      refine (HN.out _).mono ?_
      rintro e w1 ⟨rfl, hb⟩
      go_wp2
      go_ret
      exact ⟨by simp, hb⟩
    · have hb : (x.toList == s.toList) = false := by rw [beq_eq_false_iff_ne]; exact fun h => hx (toList_inj h)
      have hnb2 : ¬ x.toList = s.toList := fun h => hx (toList_inj h)
      have hx2 : decide (x = s) = false := decide_eq_false hx
      rw [hx2]
      clear hx hx2
      go_enter Try.func33, Try.ntmps33
      go_wp2_with fail
      refine (HN.out _).mono ?_
      rintro e w1 ⟨rfl, hb⟩
      go_wp2
      go_ret
      exact ⟨by simp, hb⟩
  · have hq2 : decide (q = 0) = false := decide_eq_false hq
    have hq3 : (q == 0) = false := by simpa using hq
    rw [hq2]
    go_enter Try.func33, Try.ntmps33
    go_wp2_with fail
    refine (HN.out _).mono ?_
    rintro e w1 ⟨rfl, hb⟩
    go_wp2
    go_ret
    exact ⟨by simp, hb⟩

set_option maxHeartbeats 1000000 in
theorem rIsName_any (s : ByteArray) (w : World) (hs : s.size ≤ 1000000) :
    Calls Try.prog 25 #[.string s] w fun e w' => e = .returned (.bool (isNm s)) ∧ Below w.heap.size w w' := by
  have HN := Lib.hid (fun W => rName_any s W (by omega))
  rw [isNm_eq]
  generalize nameV s = X at *
  obtain ⟨x, q⟩ := X
  simp only at HN ⊢
  by_cases hq : q = 0
  · subst hq
    by_cases hx : x = s
    · subst hx
      go_enter Try.func25, Try.ntmps25
      go_wp2_with fail
      refine (HN.out _).mono ?_
      rintro e w1 ⟨rfl, hb⟩
      go_wp2
      go_ret
      exact ⟨by simp, hb⟩
    · have hb : (x.toList == s.toList) = false := by rw [beq_eq_false_iff_ne]; exact fun h => hx (toList_inj h)
      have hnb2 : ¬ x.toList = s.toList := fun h => hx (toList_inj h)
      have hx2 : decide (x = s) = false := decide_eq_false hx
      rw [hx2]
      clear hx hx2
      go_enter Try.func25, Try.ntmps25
      go_wp2_with fail
      refine (HN.out _).mono ?_
      rintro e w1 ⟨rfl, hb⟩
      go_wp2
      go_ret
      exact ⟨by simp, hb⟩
  · have hq2 : decide (q = 0) = false := decide_eq_false hq
    have hq3 : (q == 0) = false := by simpa using hq
    rw [hq2]
    go_enter Try.func25, Try.ntmps25
    go_wp2_with fail
    refine (HN.out _).mono ?_
    rintro e w1 ⟨rfl, hb⟩
    go_wp2
    go_ret
    exact ⟨by simp, hb⟩

theorem size0 {s : ByteArray} (h : s.size = 0) : s = ⟨#[]⟩ := by
  apply ByteArray.ext
  exact Array.eq_empty_of_size_eq_zero h

theorem hasPeriod_any (t : Tb) (m : TM) (w : World) :
    Calls Try.prog 46 #[m.v t] w fun e w' => e = .returned (.bool (decide (t.per.size ≠ 0))) ∧ Below w.heap.size w w' := by
  have HB : Hid (Below w.heap.size w (w.alloc (.cells (m.cs t) 25))) := (Below.refl _ w).alloc (Nat.le_refl _) _
  obtain ⟨nm, cols, key, per, fr, tt, ap, vs⟩ := t
  simp only at *
  by_cases h0 : per.size = 0
  · obtain rfl := size0 h0
    go_enter Try.func46, Try.ntmps46
    go_wp2
    go_ret
    exact ⟨rfl, HB.out⟩
  · have hne : ¬ per.toList = [] := by
      intro h
      have : per = ⟨#[]⟩ := toList_inj (by rw [h]; decide +kernel)
      rw [this] at h0; exact h0 rfl
    have hneb : (per.toList == []) = false := by rw [beq_eq_false_iff_ne]; exact hne
    go_enter Try.func46, Try.ntmps46
    go_wp2
    go_ret
    exact ⟨by simp [h0], HB.out⟩

theorem has_any (t : Tb) (m : TM) (i : Int) (w : World) (hm : m.cl ≤ 1000000) :
    Calls Try.prog 67 #[m.v t, .int .i64 i] w fun e w' => e = .returned (.bool (decide (0 ≤ i ∧ i < (m.cl : Int)))) ∧ Below w.heap.size w w' := by
  have HB : Hid (Below w.heap.size w (w.alloc (.cells (m.cs t) 25))) := (Below.refl _ w).alloc (Nat.le_refl _) _
  by_cases h0 : 0 ≤ i
  · by_cases h1 : i < (m.cl : Int)
    · go_enter Try.func67, Try.ntmps67
      go_wp2
      go_ret
      exact ⟨by simp [h0, h1], HB.out⟩
    · go_enter Try.func67, Try.ntmps67
      go_wp2
      go_ret
      exact ⟨by simp [h1], HB.out⟩
  · have hq : decide (0 ≤ i) = false := decide_eq_false h0
    go_enter Try.func67, Try.ntmps67
    go_wp2
    go_ret
    exact ⟨by simp [h0], HB.out⟩
end Go.Proofs.Ytialpfdhdcjpaaa

/- What a call may change: footprints; blocks that are known whole; regions that draw their order and write memory of their own. -/
set_option linter.unusedSimpArgs false
set_option linter.unusedVariables false
set_option maxRecDepth 100000
namespace Go.Proofs.Ytialpfdhdcjpaaa
open Go.RowKit

/-- But for the blocks S the world w' is as w was. -/
structure Chg (S : List Nat) (w w' : World) : Prop where
  os : w'.os = w.os
  tape : w'.tape = w.tape
  output : w'.output = w.output
  size : w.heap.size ≤ w'.heap.size
  block : ∀ k, k < w.heap.size → k ∉ S → w'.heap[k]? = w.heap[k]?

/-- Of the blocks S' each is of S or new. -/
def Frsh (w : World) (S S' : List Nat) : Prop := ∀ k, k ∈ S' → k ∈ S ∨ w.heap.size ≤ k

theorem Frsh.refl (w : World) (S : List Nat) : Frsh w S S := fun _ h => .inl h
theorem Chg.refl (S : List Nat) (w : World) : Chg S w w := ⟨rfl, rfl, rfl, Nat.le_refl _, fun _ _ _ => rfl⟩
theorem Chg.trans' {S S1 : List Nat} {a b c : World} (h : Chg S a b) (f : Frsh a S S1) (k : Chg S1 b c) : Chg S a c :=
  ⟨k.os.trans h.os, k.tape.trans h.tape, k.output.trans h.output, Nat.le_trans h.size k.size, fun i hi hn => (k.block i (Nat.lt_of_lt_of_le hi h.size) (fun hm => by rcases f i hm with h1 | h1; exact hn h1; omega)).trans (h.block i hi hn)⟩
theorem Chg.trans {S : List Nat} {a b c : World} (h : Chg S a b) (k : Chg S b c) : Chg S a c := h.trans' (Frsh.refl _ _) k
theorem Frsh.trans {S S1 S2 : List Nat} {a b : World} (f : Frsh a S S1) (h : a.heap.size ≤ b.heap.size) (g : Frsh b S1 S2) : Frsh a S S2 := fun k hk => by
  rcases g k hk with h1 | h1
  · exact f k h1
  · exact .inr (by omega)
theorem Frsh.sub {w : World} {S S' : List Nat} (h : ∀ k ∈ S', k ∈ S) : Frsh w S S' := fun k hk => .inl (h k hk)
theorem Chg.sub {S T : List Nat} {a b : World} (h : Chg S a b) (hs : ∀ k ∈ S, k ∈ T) : Chg T a b := ⟨h.os, h.tape, h.output, h.size, fun k hk hn => h.block k hk (fun hm => hn (hs k hm))⟩
theorem Chg.drew {S : List Nat} {a w : World} (h : Chg S a w) : Chg S a w.drew := ⟨h.os, h.tape, h.output, h.size, h.block⟩
theorem Chg.undrew {S : List Nat} {a w : World} (h : Chg S a.drew w) : Chg S a w := ⟨h.os, h.tape, h.output, h.size, h.block⟩
theorem Chg.alloc {S : List Nat} {a w : World} (h : Chg S a w) (o : Obj) : Chg S a (w.alloc o) :=
  h.trans ⟨rfl, rfl, rfl, by simp, fun k hk _ => Below.heap_alloc _ _ _ hk⟩
theorem Chg.setCell {S : List Nat} {a w : World} (h : Chg S a w) {b o : Nat} (hb : b ∈ S ∨ a.heap.size ≤ b) (u : Value) : Chg S a (w.setCell ⟨b, o, none⟩ u) :=
  ⟨h.os, h.tape, h.output, by simpa [World.setCell] using h.size, fun k hk hn => (Below.heap_setCell w ⟨b, o, none⟩ u k (fun e => by
    have e' : k = b := e
    rcases hb with hb | hb
    · exact hn (e' ▸ hb)
    · omega)).trans (h.block k hk hn)⟩
theorem Below.chg {N : Nat} {w w' : World} (h : Below N w w') {S : List Nat} (hN : ∀ k, N ≤ k → k < w.heap.size → k ∈ S) : Chg S w w' :=
  ⟨h.os, h.tape, h.output, h.size, fun k hk hn => h.block k (by
    rcases Nat.lt_or_ge k N with h1 | h1
    · exact h1
    · exact absurd (hN k h1 hk) hn)⟩
theorem Below.chg0 {w w' : World} (h : Below w.heap.size w w') (S : List Nat) : Chg S w w' := Below.chg h fun k h1 h2 => absurd h2 (by omega)
theorem Chg.below {S : List Nat} {w w' : World} (h : Chg S w w') {N : Nat} (hN : N ≤ w.heap.size) (hS : ∀ k ∈ S, N ≤ k) : Below N w w' :=
  ⟨h.os, h.tape, h.output, h.size, fun k hk => h.block k (by omega) (fun hm => by have := hS k hm; omega)⟩
theorem Chg.cell {S : List Nat} {w w' : World} (h : Chg S w w') {b o : Nat} (hb : b < w.heap.size) (hn : b ∉ S) : w'.cell? ⟨b, o, none⟩ = w.cell? ⟨b, o, none⟩ :=
  World.cell?_of_block (w := w) (a := ⟨b, o, none⟩) (h.block b hb hn)
theorem Chg.frozen {S : List Nat} {w w' : World} (h : Chg S w w') {b o : Nat} (hb : b < w.heap.size) (hn : b ∉ S) : w'.frozen? ⟨b, o, none⟩ = w.frozen? ⟨b, o, none⟩ :=
  World.frozen?_of_block (w := w) (a := ⟨b, o, none⟩) (h.block b hb hn)

/-- Block g is just these cells. -/
def Blk (w : World) (g : Nat) (t : TypeId) (cs : Array Value) : Prop := w.heap[g]? = some (.cells cs t (0, 0))
section
variable {w w' : World} {g : Nat} {t : TypeId} {cs : Array Value}
theorem Blk.lt (h : Blk w g t cs) : g < w.heap.size := by
  rcases Nat.lt_or_ge g w.heap.size with hlt | hge
  · exact hlt
  · unfold Blk at h; rw [Array.getElem?_eq_none hge] at h; cases h
theorem Blk.cell (h : Blk w g t cs) (i : Nat) : w.cell? ⟨g, i, none⟩ = cs[i]? := cell_of_row w g i cs t (0, 0) h
theorem Blk.frozen (h : Blk w g t cs) (i : Nat) : w.frozen? ⟨g, i, none⟩ = false := frozen_of_row w g i cs t h
theorem Blk.new (w : World) (t : TypeId) (cs : Array Value) : Blk (w.alloc (.cells cs t)) w.heap.size t cs := heap_alloc_new w _
theorem Blk.drew (h : Blk w g t cs) : Blk w.drew g t cs := h
theorem Blk.alloc (h : Blk w g t cs) (o : Obj) : Blk (w.alloc o) g t cs := (Below.heap_alloc w o g h.lt).trans h
theorem Blk.set_ (h : Blk w g t cs) (i : Nat) (u : Value) : Blk (w.setCell ⟨g, i, none⟩ u) g t (cs.setIfInBounds i u) := by
  unfold Blk at h ⊢
  simp [World.setCell, Array.getElem?_modify, h]
theorem Blk.far (h : Blk w g t cs) {b o : Nat} (hp : g ≠ b) (u : Value) : Blk (w.setCell ⟨b, o, none⟩ u) g t cs := (Below.heap_setCell w ⟨b, o, none⟩ u g hp).trans h
theorem Blk.chg {S : List Nat} (h : Blk w g t cs) (hc : Chg S w w') (hn : g ∉ S) : Blk w' g t cs := (hc.block g h.lt hn).trans h
theorem Blk.ne_ {g' : Nat} {t' : TypeId} {cs' : Array Value} (h : Blk w g t cs) (h' : Blk w g' t' cs') (hne : t ≠ t') : g ≠ g' := by
  rintro rfl
  unfold Blk at h h'
  rw [h] at h'
  injection h' with h'
  injection h' with _ ht
  exact hne ht
end

/-- Block g is a map with these entries. -/
def MapB (w : World) (g : Nat) (es : Array MapEntry) (clk : Nat) : Prop := w.heap[g]? = some (.map es clk)
theorem MapB.lt {w : World} {g clk : Nat} {es : Array MapEntry} (h : MapB w g es clk) : g < w.heap.size := by
  rcases Nat.lt_or_ge g w.heap.size with hlt | hge
  · exact hlt
  · unfold MapB at h; rw [Array.getElem?_eq_none hge] at h; cases h
theorem MapB.ne_blk {w : World} {g clk g' : Nat} {es : Array MapEntry} {t : TypeId} {cs : Array Value} (h : MapB w g es clk) (h' : Blk w g' t cs) : g ≠ g' := by
  rintro rfl
  unfold MapB at h; unfold Blk at h'
  rw [h] at h'
  injection h' with h'
  cases h'
theorem MapB.chg {S : List Nat} {w w' : World} {g clk : Nat} {es : Array MapEntry} (h : MapB w g es clk) (hc : Chg S w w') (hn : g ∉ S) : MapB w' g es clk := (hc.block g h.lt hn).trans h
theorem MapB.setCell {w : World} {g clk b o : Nat} {es : Array MapEntry} (h : MapB w g es clk) (u : Value) : MapB (w.setCell ⟨b, o, none⟩ u) g es clk := by
  unfold MapB at h ⊢
  simp only [World.setCell, Array.getElem?_modify]
  split
  · rw [h]; rfl
  · exact h

/-- The world with another object in block g. -/
def putObj (w : World) (g : Nat) (o : Obj) : World := { w with heap := w.heap.setIfInBounds g o }
theorem putObj_size (w : World) (g : Nat) (o : Obj) : (putObj w g o).heap.size = w.heap.size := by simp [putObj]
theorem putObj_same {w : World} {g : Nat} (o : Obj) (h : g < w.heap.size) : (putObj w g o).heap[g]? = some o := by
  simp [putObj, h]
theorem putObj_other (w : World) (g k : Nat) (o : Obj) (h : k ≠ g) : (putObj w g o).heap[k]? = w.heap[k]? := by
  simp only [putObj]
  rw [Array.getElem?_setIfInBounds_ne (by omega)]
theorem Chg.putObj {S : List Nat} {a w : World} (h : Chg S a w) {g : Nat} (hg : g ∈ S ∨ a.heap.size ≤ g) (o : Obj) : Chg S a (putObj w g o) :=
  ⟨h.os, h.tape, h.output, by rw [putObj_size]; exact h.size, fun k hk hn => (putObj_other w g k o (fun e => by
    subst e
    rcases hg with hb | hb
    · exact hn hb
    · omega)).trans (h.block k hk hn)⟩

/-! A region that draws its order and has a last operation of its own that waits for all others. -/
section
variable {P : Program} {ops : Array Oper} {Q : Exit → Act → World → Prop} {md : Region.Mode}

/-- Whatever order is picked; S holds behind each operation but number x. -/
def wpAnyX (P : Program) (md : Region.Mode) (ops : Array Oper) (Q : Exit → Act → World → Prop) (x : Nat) (S : World → Prop) : Nat → Array Bool → Act → World → Prop
  | 0, l, a, w => Region.ready md ops l = [] ∧ Q .normal a w
  | n + 1, l, a, w => (Region.ready md ops l = [] → Q .normal a w) ∧
      ∀ i, i ∈ Region.ready md ops l → wpOp P ops Q i (fun a' w' => (i ≠ x → S w') ∧ wpAnyX P md ops Q x S n (l.setIfInBounds i true) a' w') a w

theorem wpAny_of_X {x : Nat} {S : World → Prop} : ∀ (n : Nat) (l : Array Bool) (a : Act) (w : World), wpAnyX P md ops Q x S n l a w → wpAny P md ops Q n l a w
  | 0, _, _, _, h => h
  | n + 1, _, _, _, h => ⟨h.1, fun i hi => wpOp_mono (fun a' w' h' => wpAny_of_X n _ a' w' h'.2) (h.2 i hi)⟩

/-- Does operation x wait for operation i, be it through others? -/
def waitsN (md : Region.Mode) (ops : Array Oper) (i : Nat) : Nat → Nat → Bool
  | 0, _ => false
  | n + 1, x => match ops[x]? with
    | some ox => ox.after.any fun e => Region.binds md e && (e.on == i || waitsN md ops i n e.on)
    | none => false

/-- What has come up had all that it waits for come up before it. -/
def Closed (md : Region.Mode) (ops : Array Oper) (l : Array Bool) : Prop :=
  ∀ (k : Nat) (ok : Oper), ops[k]? = some ok → l.getD k false = true → ∀ e, e ∈ ok.after → Region.binds md e = true → l.getD e.on false = true

theorem Closed.waits {l : Array Bool} (hc : Closed md ops l) {i : Nat} : ∀ (n x : Nat) (ox : Oper), ops[x]? = some ox → (∀ e, e ∈ ox.after → Region.binds md e = true → l.getD e.on false = true) → waitsN md ops i n x = true → l.getD i false = true
  | 0, _, _, _, _, h => by simp [waitsN] at h
  | n + 1, x, ox, ho, hd, h => by
    unfold waitsN at h
    rw [ho] at h
    simp only [Array.any_eq_true', Bool.and_eq_true, Bool.or_eq_true, beq_iff_eq] at h
    obtain ⟨e, he, hb, h⟩ := h
    rcases h with h | h
    · rw [← h]; exact hd e he hb
    · have hl := hd e he hb
      cases hy : ops[e.on]? with
      | none =>
        cases n with
        | zero => simp [waitsN] at h
        | succ n => unfold waitsN at h; rw [hy] at h; cases h
      | some oy => exact Closed.waits hc n e.on oy hy (hc e.on oy hy hl) h

theorem Closed.set_ {l : Array Bool} (hc : Closed md ops l) {j : Nat} (hj : j ∈ Region.ready md ops l) : Closed md ops (l.setIfInBounds j true) := by
  intro k ok hk hl e he hb
  obtain ⟨hjun, oj, hoj, hall⟩ := mem_ready.1 hj
  by_cases hkj : j = k
  · subst hkj
    rw [hk] at hoj
    obtain rfl := Option.some.inj hoj
    exact getD_set_true (hall e he hb)
  · rw [getD_set_ne false hkj] at hl
    exact getD_set_true (hc k ok hk hl e he hb)

theorem closed_none (n : Nat) : Closed md ops (Array.replicate n false) := by
  intro k ok _ hl
  exfalso
  rw [Array.getD_eq_getD_getElem?, Array.getElem?_replicate] at hl
  split at hl <;> simp at hl

theorem wpAnyX_first {x i : Nat} {S : World → Prop} {oi : Oper} {v : Value} (hi : ops[i]? = some oi) (hsel : ∀ (j : Nat) (o : Oper) cs b, ops[j]? = some o → o.op ≠ .select cs b)
    (hQ : ∀ c (a : Act) w, Q (.panic c) (a.put oi.dst v) w → Q (.panic c) a w) (hix : i ≠ x) (m : Nat) (hxi : waitsN md ops i m x = true) :
    ∀ (n : Nat) (l : Array Bool) (a : Act) (w : World), Closed md ops l →
      (∀ j oj, ops[j]? = some oj → j ≠ i → l.getD j true = false → (∀ e ∈ oj.after, Region.binds md e = true → e.on ≠ i) → oi.apart ops oj = true) →
      i ∈ Region.ready md ops l → YieldsIf P ops S oi v a → S w →
      wpAnyX P md ops Q x S n (l.setIfInBounds i true) (a.put oi.dst v) w → wpAnyX P md ops Q x S (n + 1) l a w
  | n, l, a, w, hcl, hfree, hr, hy, hS, H => by
    refine ⟨fun h => absurd hr (by rw [h]; simp), fun j hj => ?_⟩
    by_cases hji : j = i
    · subst hji
      exact hy.wpOp hi hS ⟨fun _ => hS, H⟩
    obtain ⟨hjun, oj, hoj, hall⟩ := mem_ready.1 hj
    have hnot : ∀ e ∈ oj.after, Region.binds md e = true → e.on ≠ i := by
      intro e he hb heq
      have h1 := hall e he hb
      have h0 := (mem_ready.1 hr).1
      rw [heq] at h1
      by_cases hlt : i < l.size
      · simp [hlt] at h0 h1
        rw [h0] at h1
        cases h1
      · simp [Array.getElem?_eq_none (Nat.le_of_not_lt hlt)] at h1
    have hjx : j ≠ x := by
      rintro rfl
      have h1 := hcl.waits m j oj hoj hall hxi
      have h0 := (mem_ready.1 hr).1
      by_cases hlt : i < l.size
      · simp [hlt] at h0 h1
        rw [h0] at h1
        cases h1
      · simp [Array.getElem?_eq_none (Nat.le_of_not_lt hlt)] at h1
    match n, H with
    | 0, H =>
      have := ready_mono hj hji
      rw [H.1] at this
      cases this
    | n + 1, H =>
      have h1 := H.2 j (ready_mono hj hji)
      have h2 := wpOp_putIf hoj (hfree j oj hoj hji hjun hnot) (fun cs b => hsel i oi cs b hi) (fun cs b => hsel j oj cs b hoj) hQ hy h1
      refine wpOp_mono (fun a' w' h3 => ⟨fun _ => h3.2.1 hjx, ?_⟩) h2
      refine wpAnyX_first hi hsel hQ hix m hxi n _ a' w' (hcl.set_ hj) ?_ (ready_mono hr (Ne.symm hji)) h3.1 (h3.2.1 hjx) ?_
      · intro k ok hk hki hun hno
        refine hfree k ok hk hki ?_ hno
        by_cases hjk : j = k
        · subst hjk; exact hjun
        · rw [getD_set_ne true hjk] at hun; exact hun
      · rw [Array.setIfInBounds_comm _ _ hji]
        exact h3.2.2

theorem wpAnyX_stronger {x : Nat} {S S' : World → Prop} (hS : ∀ w, S' w → S w) : ∀ (n : Nat) (l : Array Bool) (a : Act) (w : World), wpAnyX P md ops Q x S' n l a w → wpAnyX P md ops Q x S n l a w
  | 0, _, _, _, h => h
  | n + 1, _, _, _, h => ⟨h.1, fun i hi => wpOp_mono (fun _ _ h' => ⟨fun hx => hS _ (h'.1 hx), wpAnyX_stronger hS n _ _ _ h'.2⟩) (h.2 i hi)⟩

/-- An order for such a region: at its end comes operation x. -/
def wpOX (P : Program) (ops : Array Oper) (Q : Exit → Act → World → Prop) (L : World → World → Prop) (x : Nat) : List (Nat × Bool) → Act → World → Prop
  | [], a, w => wpOp P ops Q x (fun a' w' => Q .normal a' w') a w
  | (i, true) :: r, a, w => ∃ o v, ops[i]? = some o ∧ YieldsIf P ops (L w) o v a ∧ wpOX P ops Q L x r (a.put o.dst v) w
  | (i, false) :: r, a, w => wpOp P ops Q i (fun a' w' => L w w' ∧ wpOX P ops Q L x r a' w') a w

def waitsB (md : Region.Mode) (ops : Array Oper) (x i : Nat) : Bool := i != x && waitsN md ops i ops.size x

def checkX (md : Region.Mode) (ops : Array Oper) (x : Nat) : List (Nat × Bool) → Array Bool → Bool
  | [], l => Region.ready md ops l == [x] && Region.ready md ops (l.setIfInBounds x true) == []
  | (i, true) :: r, l => waitsB md ops x i && (Region.free md ops l i && (Region.ready md ops l).contains i && checkX md ops x r (l.setIfInBounds i true))
  | (i, false) :: r, l => i != x && Region.ready md ops l == [i] && checkX md ops x r (l.setIfInBounds i true)

theorem wpOX_sound {L : World → World → Prop} {x : Nat} (Lr : ∀ w, L w w) (Lt : ∀ {a b c}, L a b → L b c → L a c) (hs : Region.noSelect ops = true) (hQ : ∀ c (a : Act) d v w, Q (.panic c) (a.put d v) w → Q (.panic c) a w) :
    ∀ (ord : List (Nat × Bool)) (n : Nat) (l : Array Bool) (a : Act) (w : World), ord.length + 1 ≤ n → Closed md ops l → checkX md ops x ord l = true → wpOX P ops Q L x ord a w → wpAnyX P md ops Q x (L w) n l a w
  | [], n, l, a, w, hn, hcl, hc, h => by
    simp only [checkX, Bool.and_eq_true, beq_iff_eq] at hc
    match n, hn with
    | n + 1, _ =>
      refine ⟨fun h0 => absurd hc.1 (by rw [h0]; simp), fun j hj => ?_⟩
      rw [hc.1] at hj
      obtain rfl := List.mem_singleton.1 hj
      refine wpOp_mono (fun a' w' h' => ⟨fun hx => absurd rfl hx, ?_⟩) h
      cases n with
      | zero => exact ⟨hc.2, h'⟩
      | succ n => exact ⟨fun _ => h', fun k hk => absurd hk (by rw [hc.2]; simp)⟩
  | (i, true) :: r, n, l, a, w, hn, hcl, hc, h => by
    obtain ⟨o, v, ho, hy, h⟩ := h
    simp only [checkX, Bool.and_eq_true] at hc
    have hri : i ∈ Region.ready md ops l := by simpa using hc.2.1.2
    match n, hn with
    | n + 1, hn =>
      have hw := hc.1
      unfold waitsB at hw
      simp only [Bool.and_eq_true, bne_iff_ne, ne_eq] at hw
      exact wpAnyX_first ho (Region.noSelect_spec hs) (fun c a w => hQ c a o.dst v w) hw.1 ops.size hw.2 n l a w hcl (Region.free_spec ho hc.2.1.1) hri hy (Lr w) (wpOX_sound Lr Lt hs hQ r n _ _ w (by simpa using hn) (hcl.set_ hri) hc.2.2 h)
  | (i, false) :: r, n, l, a, w, hn, hcl, hc, h => by
    simp only [checkX, Bool.and_eq_true, beq_iff_eq, bne_iff_ne, ne_eq] at hc
    match n, hn with
    | n + 1, hn =>
      refine ⟨fun h0 => absurd hc.1.2 (by rw [h0]; simp), fun j hj => ?_⟩
      rw [hc.1.2] at hj
      obtain rfl := List.mem_singleton.1 hj
      exact wpOp_mono (fun a' w' h' => ⟨fun _ => h'.1, wpAnyX_stronger (fun y hy => Lt h'.1 hy) n _ _ _ (wpOX_sound Lr Lt hs hQ r n _ a' w' (by simpa using hn) (hcl.set_ (by rw [hc.1.2]; simp)) hc.2 h'.2)⟩) h

/-- The beginning, where blocks S may be written, the last operation apart. -/
theorem wp_region_ordX {id : Nat} {a : Act} {w : World} (S : List Nat) (x : Nat) (ord : List (Nat × Bool)) (hm : P.follows .mixedOrders = true) (hs : Region.noSelect ops = true)
    (hl : decide (ord.length + 1 ≤ ops.size) = true) (hc : checkX .any ops x ord (Array.replicate ops.size false) = true) (h : wpOX P ops (NoPanic Q) (Chg S) x ord a w.drew) : (Code.region id ops true).wp P Q a w :=
  wp_region_noPanic (wp_region_any hm (wpAny_of_X _ _ _ _ (wpOX_sound (Chg.refl S) Chg.trans hs (NoPanic.put Q) ord ops.size _ a w.drew (of_decide_eq_true hl) (closed_none _) hc h)))

/-- The beginning, where blocks S may be written. -/
theorem wp_region_ordS {id : Nat} {a : Act} {w : World} (S : List Nat) (ord : List (Nat × Bool)) (hm : P.follows .mixedOrders = true) (hs : Region.noSelect ops = true)
    (hl : decide (ord.length ≤ ops.size) = true) (hc : checkO .any ops ord (Array.replicate ops.size false) = true) (h : wpO P ops (NoPanic Q) (Chg S) ord a w.drew) : (Code.region id ops true).wp P Q a w :=
  wp_region_noPanic (wp_region_held hm (wpO_sound (Chg.refl S) Chg.trans hs (NoPanic.put Q) ord ops.size _ a w.drew (of_decide_eq_true hl) hc h))

variable {L : World → World → Prop}
theorem wpOX_F {x i : Nat} {r : List (Nat × Bool)} {a : Act} {w : World} {o : Oper} {v : Value} (ho : nth ops.toList i = some o) (hw : Region.wanted o (yielded ops a.tmps) = true)
    (hv : ∀ w', L w w' → (execOp a.eval o).run P w' = .ok (.value v) w') (h : wpOX P ops Q L x r (a.put o.dst v) w) : wpOX P ops Q L x ((i, true) :: r) a w :=
  ⟨o, v, nth_ops ho, .inl ⟨hw, hv⟩, h⟩
theorem wpOX_G (Lr : ∀ w, L w w) {x i : Nat} {b : Bool} {r : List (Nat × Bool)} {a : Act} {w : World} {o : Oper} (ho : nth ops.toList i = some o) (hw : Region.wanted o (yielded ops a.tmps) = false)
    (h : wpOX P ops Q L x r (a.put o.dst undef) w) : wpOX P ops Q L x ((i, b) :: r) a w := by
  cases b with
  | true => exact ⟨o, undef, nth_ops ho, .inr ⟨hw, rfl⟩, h⟩
  | false =>
    show wpOp P ops Q i _ a w
    unfold wpOp
    simp only [nth_ops ho, hw]
    exact ⟨Lr w, h⟩
theorem wpOX_C {x i : Nat} {r : List (Nat × Bool)} {a : Act} {w : World} {o : Oper} (ho : nth ops.toList i = some o) (hw : Region.wanted o (yielded ops a.tmps) = true)
    (h : o.wp P a w (fun a' w' => L w w' ∧ wpOX P ops Q L x r a' w') Q) : wpOX P ops Q L x ((i, false) :: r) a w := by
  show wpOp P ops Q i _ a w
  unfold wpOp
  simp only [nth_ops ho, hw]
  exact .inl h
theorem wpOX_end {x : Nat} {a : Act} {w : World} {o : Oper} (ho : nth ops.toList x = some o) (hw : Region.wanted o (yielded ops a.tmps) = true)
    (h : o.wp P a w (fun a' w' => Q .normal a' w') Q) : wpOX P ops Q L x [] a w := by
  show wpOp P ops Q x _ a w
  unfold wpOp
  simp only [nth_ops ho, hw]
  exact .inl h
end
attribute [irreducible] wpOX
end Go.Proofs.Ytialpfdhdcjpaaa

/- The walks of slices.Contains over integers, of isKey, isEdge, Find and what these call. -/
set_option linter.unusedSimpArgs false
set_option linter.unusedVariables false
set_option maxRecDepth 100000
namespace Go.Proofs.Ytialpfdhdcjpaaa
open Go.RowKit

set_option maxHeartbeats 1000000 in
theorem sIndexI_any (l : List Int) (key : Int) (a : Option Addr) (len cap : Nat) (w : World) (hV : Arr w.heap.size w a (cellsI l)) (hlen : len = l.length) (hmax : len ≤ 140737488355328) :
    Calls Try.prog 88 #[.slice a len cap, .int .i64 key] w fun e w' => ∃ r : Int, e = .returned (.int .i64 r) ∧ decide (0 ≤ r) = decide (key ∈ l) ∧ w = w' := by
  have HV := Lib.hid hV
  have HL := Lib.hid hlen
  clear hV hlen
  go_enter Try.func88, Try.ntmps88
  go_wp2
  go_loop [8] (fun i => ∃ k : Nat, k ≤ len ∧ i = .int .i64 k ∧ Hid (key ∉ l.take k)) (fun i => len - (intOf i).toNat)
  case atStart => exact ⟨0, by omega, rfl, by simp [Hid]⟩
  case round =>
    obtain ⟨k, hk, rfl, HI⟩ := hrel
    by_cases hlt : k < len
    · have hkl : k < l.length := by have := HL.out; omega
      obtain ⟨b, o, rfl, hbN, c0⟩ := intAt HV.out hkl
      have hg := List.getElem?_eq_getElem hkl
      obtain ⟨y, hy⟩ : ∃ y, y = l[k] := ⟨_, rfl⟩
      rw [← hy] at c0 hg
      clear hy
      by_cases hky : key = y
      · subst hky
        have HG := Lib.hid (List.mem_of_getElem? hg)
        clear hg
        go_wp2
        go_ret
        exact ⟨k, rfl, by have := HG.out; simp [this], rfl⟩
      · have q1 : (key == y) = false := by simpa using hky
        have HT : Hid (key ∉ l.take (k + 1)) := by
          intro hm
          rw [List.take_add_one, hg] at hm
          rcases List.mem_append.1 hm with hm | hm
          · exact HI.out hm
          · simp at hm; exact hky hm
        clear hg hky
        go_wp2
        go_round
        case rel => exact ⟨k + 1, by omega, by go_num, HT⟩
        case measure => simp [intOf]; omega
    · go_wp2
      go_ret
      exact ⟨-1, rfl, by have := HI.out; rw [List.take_of_length_le (by have := HL.out; omega)] at this; simp [this], rfl⟩

theorem sContainsI_any (l : List Int) (key : Int) (a : Option Addr) (len cap : Nat) (w : World) (hV : Arr w.heap.size w a (cellsI l)) (hlen : len = l.length) (hmax : len ≤ 140737488355328) :
    Calls Try.prog 68 #[.slice a len cap, .int .i64 key] w fun e w' => e = .returned (.bool (decide (key ∈ l))) ∧ w = w' := by
  have HI := Lib.hid (fun W (hb : Below w.heap.size w W) => sIndexI_any l key a len cap W (hV.later (N := 0) hb) hlen hmax)
  clear hV hlen
  go_enter Try.func68, Try.ntmps68
  go_wp2_with fail
  refine (HI.out _ (Below.refl _ _)).mono ?_
  rintro e w1 ⟨r, rfl, hr, rfl⟩
  go_wp2
  go_ret
  exact ⟨rfl, rfl⟩

/-- 's[:m]'. -/
theorem Arr.frontS {P : Program} {N : Nat} {w : World} {a : Option Addr} {l : List Value} (h : Arr N w a l) (t e : TypeId) (z : Nat) (ht : P.underlying t = some (.slice e)) (hz : ∀ w, (Go.sizeOf e).run P w = .ok z w)
    (len cap m : Nat) (hlen : l.length = len * z) (hm : m ≤ len) (hcap : len ≤ cap) :
    Arr N w a (l.take (m * z)) ∧ ∀ W, (Instr.slice t (.slice a len cap) none (some (.int .i64 (m : Int))) none).run P W = .ok (.slice a m cap) W := by
  have ht' : P.underlying t = some (.slice (P.elem t)) := by simp [Program.elem, ht]
  have hee : P.elem t = e := by simp [Program.elem, ht]
  refine ⟨?_, fun W => ?_⟩
  · rcases h with h2 | ⟨b, o, ha, hN, hc⟩
    · exact .inl (by simp [h2])
    · refine .inr ⟨b, o, ha, hN, fun i c hi => hc i c ?_⟩
      rw [List.getElem?_take] at hi
      split at hi
      · exact hi
      · simp at hi
  · have hu := run_underlying (P := P) (w := W) ht
    have hz' := hz W
    cases a <;> simp [Instr.slice, hu, hz', asIntOf, go_sem] <;> try omega
theorem info_intS : (Try.prog.info? 3).map (fun i => (i.zero, i.size, i.bytes)) = some (some (.int .i64 0), 1, 8) := by kernel_rfl
theorem sizeOf_intS : ∀ w, (Go.sizeOf 3).run Try.prog w = .ok 1 w := by
  obtain ⟨i0, hi, hz0, hz1, hz2⟩ := info_parts info_intS
  intro w
  have h := run_sizeOf (P := Try.prog) w hi
  have e : Try.prog.cellsOf 3 = 1 := by kernel_rfl
  rw [e] at h; exact h

/-- A table in a block of the call's own. -/
structure TBox (W : World) (B : Nat) (m : TM) (t : Tb) : Prop where
  c0 : W.cell? ⟨B, 0, none⟩ = some (.string t.name)
  c1 : W.cell? ⟨B, 1, none⟩ = some (.slice m.ca m.cl m.cc)
  c2 : W.cell? ⟨B, 2, none⟩ = some (.slice m.ka m.kl m.kc)
  c3 : W.cell? ⟨B, 3, none⟩ = some (.string t.per)
  c4 : W.cell? ⟨B, 4, none⟩ = some (.int .i64 t.fr)
  c5 : W.cell? ⟨B, 5, none⟩ = some (.int .i64 t.tt)
  c6 : W.cell? ⟨B, 6, none⟩ = some (.bool t.apart)
  c7 : W.cell? ⟨B, 7, none⟩ = some (.bool t.vers)
theorem TBox.new (w : World) (m : TM) (t : Tb) (T : TypeId) : TBox (w.alloc (.cells (m.cs t) T)) w.heap.size m t :=
  ⟨by simp, by simp, by simp, by simp, by simp, by simp, by simp, by simp⟩
theorem TBox.later {W W' : World} {B N : Nat} {m : TM} {t : Tb} (h : TBox W B m t) (hB : B < N) (hb : Below N W W') : TBox W' B m t :=
  ⟨(hb.cell (p := ⟨B, 0, none⟩) hB).trans h.c0, (hb.cell (p := ⟨B, 1, none⟩) hB).trans h.c1, (hb.cell (p := ⟨B, 2, none⟩) hB).trans h.c2, (hb.cell (p := ⟨B, 3, none⟩) hB).trans h.c3, (hb.cell (p := ⟨B, 4, none⟩) hB).trans h.c4, (hb.cell (p := ⟨B, 5, none⟩) hB).trans h.c5, (hb.cell (p := ⟨B, 6, none⟩) hB).trans h.c6, (hb.cell (p := ⟨B, 7, none⟩) hB).trans h.c7⟩

open Classical in
noncomputable def keyOkB (l : List Col) (ks : List Int) : Bool := decide (KeyOk l ks)
theorem keyOk_iff {l : List Col} {ks : List Int} : keyOkB l ks = true ↔ KeyOk l ks := by unfold keyOkB; simp
theorem keyOk_false {l : List Col} {ks : List Int} (h : ¬ KeyOk l ks) : keyOkB l ks = false := by unfold keyOkB; simpa using h

set_option maxHeartbeats 4000000 in
theorem isKey_any (t : Tb) (m : TM) (w : World) (h : TAt w t m) :
    Calls Try.prog 35 #[m.v t] w fun e w' => e = .returned (.bool (keyOkB t.cols t.key)) ∧ Below w.heap.size w w' := by
  have hkmax := h.kmax
  have hcmax := h.cmax
  have HH := Lib.hid h
  have HX : Hid (TBox (w.alloc (.cells (m.cs t) 25)) w.heap.size m t) := TBox.new w m t _
  have HB0 : Hid (Below w.heap.size w (w.alloc (.cells (m.cs t) 25))) := (Below.refl _ w).alloc (Nat.le_refl _) _
  have hkl := h.hk
  have hcl := h.hc
  by_cases h0 : m.kl = 0
  · have HA : Hid (keyOkB t.cols t.key = false) := keyOk_false (fun H => by have := H.1; omega)
    clear h hkl hcl
    go_enter Try.func35, Try.ntmps35
    go_wp2
    go_ret
    exact ⟨ret_b HA.out.symm, HB0.out⟩
  · have q0 : ((m.kl : Int) == 0) = false := by simp; omega
    by_cases h8 : 8 < m.kl
    · have HA : Hid (keyOkB t.cols t.key = false) := keyOk_false (fun H => by have := H.2.1; omega)
      clear h hkl hcl
      go_enter Try.func35, Try.ntmps35
      go_wp2
      go_ret
      exact ⟨ret_b HA.out.symm, HB0.out⟩
    · have q1 : decide ((8 : Int) < (m.kl : Int)) = false := by simp; omega
      have HC := Lib.hid (fun i W => has_any t m i W hcmax)
      have HL := Lib.hid hkl
      have HCL := Lib.hid hcl
      have HCol := Lib.hid h.carr
      have HKey := Lib.hid h.karr
      have hcap := h.kcap
      have HS : Hid ((∀ (i : Nat) x, t.key[i]? = some x → SoundAt t.cols x ∧ x ∉ t.key.take i) → keyOkB t.cols t.key = true) := fun h1 => keyOk_iff.2 ⟨by omega, by omega, h1⟩
      have HSlice := Lib.hid (fun k (hk : k ≤ m.kl) => (h.karr.frontS 23 3 1 Try.underlying23 sizeOf_intS m.kl m.kc k (by rw [cellsI_len, hkl]) hk hcap).2)
      have HCon := Lib.hid (fun k x (hk : k ≤ m.kl) W (hb : Below w.heap.size w W) => sContainsI_any (t.key.take k) x m.ka k m.kc W (by
        have := (h.karr.frontS 23 3 1 Try.underlying23 sizeOf_intS m.kl m.kc k (by rw [cellsI_len, hkl]) hk hcap).1
        unfold cellsI at this
        rw [← cellsOf_take _ 1 (fun _ => rfl)] at this
        exact this.later (N := 0) hb) (by rw [List.length_take]; omega) (by omega))
      clear h hkl hcl
      go_enter Try.func35, Try.ntmps35
      go_wp2
      go_loopw [18] (fun i wr => ∃ k : Nat, k ≤ m.kl ∧ i = .int .i64 k ∧ Hid (∀ (i : Nat) x, i < k → t.key[i]? = some x → SoundAt t.cols x ∧ x ∉ t.key.take i) ∧ Below w.heap.size w wr ∧ TBox wr w.heap.size m t ∧ w.heap.size < wr.heap.size) (fun i _ => m.kl - (intOf i).toNat)
      case atStart => exact ⟨0, by omega, rfl, by intro i x hi; omega, HB0.out, HX.out, by simp⟩
      case round =>
        obtain ⟨k, hk, rfl, HI, hb, hX, hsz⟩ := hrel
        by_cases hlt : k < m.kl
        · have hkl : k < t.key.length := by have := HL.out; omega
          obtain ⟨b, o, hka, hbN, c0⟩ := intAt HKey.out hkl
          replace c0 := (hb.cell (p := ⟨b, o + k, none⟩) hbN).trans c0
          have hg := List.getElem?_eq_getElem hkl
          have hsl := HSlice.out k hk
          have HC2 := Lib.hid (fun x W hb => HCon.out k x hk W hb)
          obtain ⟨x, hx⟩ : ∃ x, x = t.key[k] := ⟨_, rfl⟩
          rw [← hx] at c0 hg
          clear hx hbN
          have HNo : Hid (¬ (SoundAt t.cols x ∧ x ∉ t.key.take k) → keyOkB t.cols t.key = false) := fun h1 => keyOk_false (fun H => h1 (H.2.2 k x hg))
          have HYes : Hid (SoundAt t.cols x ∧ x ∉ t.key.take k → ∀ (i : Nat) y, i < k + 1 → t.key[i]? = some y → SoundAt t.cols y ∧ y ∉ t.key.take i) := by
            intro h1 i y hi hy
            by_cases hik : i = k
            · subst hik
              rw [hg] at hy; injection hy with hy; subst hy; exact h1
            · exact HI.out i y (by omega) hy
          clear hg HI HCon HSlice HS
          by_cases hr : 0 ≤ x ∧ x < (m.cl : Int)
          · have hrd : decide (0 ≤ x ∧ x < (m.cl : Int)) = true := decide_eq_true hr
            have HC1 := Lib.hid (HC.out x)
            rw [hrd] at HC1
            clear hrd
            obtain ⟨j, rfl⟩ : ∃ j : Nat, x = j := ⟨x.toNat, by omega⟩
            have hjl : j < t.cols.length := by have := HCL.out; omega
            obtain ⟨b2, o2, hca, hbN2, -, -, g2⟩ := colAt HCol.out hjl
            have hjm : j < m.cl := by omega
            obtain ⟨nv, hnv⟩ : ∃ nv, nv = t.cols[j].nn := ⟨_, rfl⟩
            have hSo : SoundAt t.cols (j : Int) ↔ nv = true := by
              unfold SoundAt
              rw [Int.toNat_natCast, List.getElem?_eq_getElem hjl, hnv]
              constructor
              · rintro ⟨-, c, h1, h2⟩
                injection h1 with h1; rw [h1]; exact h2
              · intro h1
                exact ⟨by omega, _, rfl, h1⟩
            rw [← hnv] at g2
            have HSo := Lib.hid hSo
            clear hnv hSo hr
            have HX1 : Hid (∀ w1, Below wr.heap.size wr w1 → TBox w1 w.heap.size m t ∧ w1.cell? ⟨b2, o2 + j * 3 + 2, none⟩ = some (.bool nv) ∧ Below w.heap.size w w1 ∧ w.heap.size < w1.heap.size) := fun w1 h1 =>
              ⟨hX.later hsz h1, ((hb.trans (h1.mono (by omega))).cell (p := ⟨b2, o2 + j * 3 + 2, none⟩) hbN2).trans g2, hb.trans (h1.mono (by omega)), by have := h1.size; omega⟩
            obtain ⟨x0, x1, x2, x3, x4, x5, x6, x7⟩ := hX
            rw [hka] at x2 hsl HC2
            rw [hca] at x1
            have hv : m.v t = .agg #[.string t.name, .slice (some ⟨b2, o2, none⟩) m.cl m.cc, .slice (some ⟨b, o, none⟩) m.kl m.kc, .string t.per, .int .i64 t.fr, .int .i64 t.tt, .bool t.apart, .bool t.vers] := by show Value.agg (m.cs t) = _; unfold TM.cs; rw [hka, hca]
            rw [hv] at HC1
            clear hv g2 hbN2
            go_wp2_with fail
            refine (HC1.out _).mono ?_
            rintro e w1 ⟨rfl, hb1⟩
            obtain ⟨hX2, k2, hbw, hsz1⟩ := HX1.out _ hb1
            have hXk := hX2
            clear x0 x1 x2 x3 x4 x5 x6 x7 HX1 hb1 HC1
            obtain ⟨-, y1, y2, -, -, -, -, -⟩ := hX2
            rw [hka] at y2
            rw [hca] at y1
            cases nv with
            | false =>
              have HA := Lib.hid (HNo.out (fun H => by have := HSo.out.1 H.1; cases this))
              clear HNo HYes HC2 HSo hXk
              go_wp2
              go_ret
              exact ⟨ret_b HA.out.symm, hbw⟩
            | true =>
              by_cases hin : (j : Int) ∈ t.key.take k
              · have HA := Lib.hid (HNo.out (fun H => H.2 hin))
                have HC3 := Lib.hid (HC2.out (j : Int))
                rw [decide_eq_true hin] at HC3
                clear HNo HYes HC2 HSo hXk hin
                go_wp2_with fail
                refine (HC3.out _ hbw).mono ?_
                rintro e w2 ⟨rfl, rfl⟩
                go_wp2
                go_ret
                exact ⟨ret_b HA.out.symm, hbw⟩
              · have HA := Lib.hid (HYes.out ⟨HSo.out.2 rfl, hin⟩)
                have HC3 := Lib.hid (HC2.out (j : Int))
                rw [decide_eq_false hin] at HC3
                have HXk := Lib.hid hXk
                clear HNo HYes HC2 HSo hXk hin
                go_wp2_with fail
                refine (HC3.out _ hbw).mono ?_
                rintro e w2 ⟨rfl, rfl⟩
                go_wp2
                go_roundw
                case rel =>
                  (repeat apply Exists.intro)
                  refine ⟨⟨k + 1, by omega, ?_, HA.out, hbw, HXk.out, hsz1⟩, ?_⟩
                  rotate_left
                  · rw [hka]
                  · go_num
                case measure => simp [intOf]; omega
          · have hrd : decide (0 ≤ x ∧ x < (m.cl : Int)) = false := decide_eq_false hr
            have HA := Lib.hid (HNo.out (fun H => by
              obtain ⟨⟨h1, c, h2, h3⟩, -⟩ := H
              have := (List.getElem?_eq_some_iff.1 h2).1
              have := HCL.out
              exact hr ⟨h1, by omega⟩))
            clear HNo HYes HC2 hr
            have HC1 := Lib.hid (HC.out x)
            rw [hrd] at HC1
            obtain ⟨x0, x1, x2, x3, x4, x5, x6, x7⟩ := hX
            rw [hka] at x2
            have hv : m.v t = .agg #[.string t.name, .slice m.ca m.cl m.cc, .slice (some ⟨b, o, none⟩) m.kl m.kc, .string t.per, .int .i64 t.fr, .int .i64 t.tt, .bool t.apart, .bool t.vers] := by show Value.agg (m.cs t) = _; unfold TM.cs; rw [hka]
            rw [hv] at HC1
            clear hv hsl
            go_wp2_with fail
            refine (HC1.out _).mono ?_
            rintro e w1 ⟨rfl, hb1⟩
            go_wp2
            go_ret
            exact ⟨ret_b HA.out.symm, hb.trans (hb1.mono (by omega))⟩
        · have HA := Lib.hid (HS.out (fun i x hi => HI.out i x (by have := (List.getElem?_eq_some_iff.1 hi).1; have := HL.out; omega) hi))
          clear HI HS HCon HSlice hX
          go_wp2
          go_ret
          exact ⟨ret_b HA.out.symm, hb⟩
end Go.Proofs.Ytialpfdhdcjpaaa
