/- Several texts of one proof, one behind the other. -/
import Derived.Test.YtpdfdlikijghhaaKPk3
import Derived.Laws.BitsAllLaws
import Derived.WalkKit
import Derived.Laws.StructEq

/- Plain mathematics of layer 2: the values of SQL. -/
namespace Go.Proofs.Ytpdfdlikijghhaa

/-- A value: its kind, its integer, its text. -/
structure Vl where
  k : Nat
  n : Int
  s : ByteArray
  deriving DecidableEq

/-- A value's fields fit their types. -/
def Vl.ok (x : Vl) : Prop := x.k < 256 ∧ -9223372036854775808 ≤ x.n ∧ x.n ≤ 9223372036854775807

def Vl.right (x : Vl) : Bool :=
  if x.k = 0 then decide (x.n = 0) && decide (x.s.size = 0)
  else if x.k = 1 then decide (x.s.size = 0)
  else if x.k = 2 ∨ x.k = 3 then decide (x.n = 0)
  else false

def nullV : Vl := ⟨0, 0, ⟨#[]⟩⟩
def numV (n : Int) : Vl := ⟨1, n, ⟨#[]⟩⟩

/-- Does an int64 hold it? -/
def fits (n : Int) : Bool := decide (-9223372036854775808 ≤ n ∧ n ≤ 9223372036854775807)

def addI (x y : Int) : Int × Int := if fits (x + y) then (x + y, 0) else (0, 21)
def subI (x y : Int) : Int × Int := if fits (x - y) then (x - y, 0) else (0, 21)
def mulI (x y : Int) : Int × Int := if fits (x * y) then (x * y, 0) else (0, 21)
def divI (x y : Int) : Int × Int := if y = 0 then (0, 22) else if fits (x.tdiv y) then (x.tdiv y, 0) else (0, 21)
def modI (x y : Int) : Int × Int := if y = 0 then (0, 22) else (x.tmod y, 0)

/-- An operation on two values. -/
def arithV (op : Int → Int → Int × Int) (a b : Vl) : Vl × Int :=
  if a.right = false ∨ b.right = false then (nullV, 3)
  else if 1 < a.k ∨ 1 < b.k then (nullV, 20)
  else if a.k = 0 ∨ b.k = 0 then (nullV, 0)
  else if (op a.n b.n).2 ≠ 0 then (nullV, (op a.n b.n).2) else (numV (op a.n b.n).1, 0)

theorem fits_iff (n : Int) : fits n = true ↔ -9223372036854775808 ≤ n ∧ n ≤ 9223372036854775807 := by simp [fits]

/-- A product that wrapped doesn't give back its factor. -/
theorem mul_back (x y : Int) (hx1 : -9223372036854775808 ≤ x) (hx2 : x ≤ 9223372036854775807) (hy1 : -9223372036854775808 ≤ y) (hy2 : y ≤ 9223372036854775807) (hy : y ≠ 0)
    (hf : fits (x * y) = false) : (IntKind.i64.wrap (x * y)).tdiv y ≠ x := by
  intro h
  have hnf : ¬ (-9223372036854775808 ≤ x * y ∧ x * y ≤ 9223372036854775807) := by
    intro hh; rw [(fits_iff _).2 hh] at hf; cases hf
  have hdm := Int.tdiv_mul_add_tmod (IntKind.i64.wrap (x * y)) y
  rw [h] at hdm
  have hlt : ((IntKind.i64.wrap (x * y)).tmod y).natAbs < y.natAbs := by rw [Int.natAbs_tmod]; exact Nat.mod_lt _ (by omega)
  rw [IntKind.wrap_i64] at *
  generalize x * y = p at *
  omega

end Go.Proofs.Ytpdfdlikijghhaa

/- The walks of layer 2's small functions. -/
namespace Go.Proofs.Ytpdfdlikijghhaa
open Go.RowKit

theorem ret_b {a b : Bool} (h : a = b) : Ending.returned (.bool a) = .returned (.bool b) := by rw [h]

theorem Below.box (w : World) (o : Obj) : Below w.heap.size w (w.alloc o) := (Below.refl _ _).alloc (Nat.le_refl _) _

theorem null_any (w : World) : Calls Try.prog 37 #[] w fun e w' => e = .returned (.agg #[.int .u8 0, .int .i64 0, .string ⟨#[]⟩]) ∧ Below w.heap.size w w' := by
  go_enter Try.func37, Try.ntmps37
  go_wp2
  exact bodyPost_ret (v := .agg #[.int .u8 0, .int .i64 0, .string ⟨#[]⟩]) (by simp [results, Try.results37, go_sem]) rfl ⟨rfl, Below.box _ _⟩

theorem whole_any (n : Int) (w : World) : Calls Try.prog 38 #[.int .i64 n] w fun e w' => e = .returned (.agg #[.int .u8 1, .int .i64 n, .string ⟨#[]⟩]) ∧ Below w.heap.size w w' := by
  go_enter Try.func38, Try.ntmps38
  go_wp2
  exact bodyPost_ret (v := .agg #[.int .u8 1, .int .i64 n, .string ⟨#[]⟩]) (by simp [results, Try.results38, go_sem]) rfl ⟨rfl, Below.box _ _⟩

theorem kinds (k : Nat) : k = 0 ∨ k = 1 ∨ k = 2 ∨ k = 3 ∨ 3 < k := by omega

theorem right_big {k : Nat} (n : Int) (s : ByteArray) (hk : 3 < k) : Vl.right ⟨k, n, s⟩ = false := by
  unfold Vl.right
  rw [if_neg (by simp only; omega), if_neg (by simp only; omega), if_neg (by simp only; omega)]

end Go.Proofs.Ytpdfdlikijghhaa

/- '==' of two values of SQL. -/
namespace Go.Proofs.Ytpdfdlikijghhaa
open Go.RowKit

@[go_sem high] theorem eqV (k k' n n' : Int) (s s' : ByteArray) (w : World) : (Op.equalIn 10000 39 (.agg #[.int .u8 k, .int .i64 n, .string s]) (.agg #[.int .u8 k', .int .i64 n', .string s'])).run Try.prog w = .ok (k == k' && (n == n' && s.toList == s'.toList)) w := by
  have hS : Try.prog.underlying 39 = some (.struct (Try.prog.fieldsOf 39)) := by kernel_rfl
  have hp : Try.prog.stoodInHeld 39 = false := by kernel_rfl
  rw [show (10000 : Nat) = 9999 + 1 from rfl, run_equalIn_agg w 9999 39 _ _ hS hp]
  simp only [Program.fieldsOf, Try.underlying39]
  go_simp
  by_cases h1 : k = k' <;> by_cases h2 : n = n' <;> by_cases h3 : s.toList = s'.toList <;> simp [h1, h2, h3]

@[go_sem] theorem eqGuardV : Try.prog.eqGuardType Try.prog.depth 39 = false := by kernel_rfl

theorem isEmpty_size (s : ByteArray) : s.toList.isEmpty = decide (s.size = 0) := by
  have : s.toList = s.data.toList := ByteArray.toList_eq s
  rw [this]
  cases h : s.data.toList with
  | nil => simp [ByteArray.size, ← Array.length_toList, h]
  | cons x r => simp [ByteArray.size, ← Array.length_toList, h]
end Go.Proofs.Ytpdfdlikijghhaa

/- The walk of cell.Right. -/
namespace Go.Proofs.Ytpdfdlikijghhaa
open Go.RowKit

/-- A boxed value is there in every later world. -/
theorem box_later (w : World) (T : TypeId) (v0 v1 v2 : Value) : ∀ W, Later (w.alloc (.cells #[v0, v1, v2] T)) W →
    W.cell? ⟨w.heap.size, 0, none⟩ = some v0 ∧ W.cell? ⟨w.heap.size, 1, none⟩ = some v1 ∧ W.cell? ⟨w.heap.size, 2, none⟩ = some v2 := by
  intro W h
  have hs : (w.alloc (.cells #[v0, v1, v2] T)).heap.size = w.heap.size + 1 := by simp
  refine ⟨?_, ?_, ?_⟩
  · rw [h.cell (p := ⟨w.heap.size, 0, none⟩) (by rw [hs]; simp), World.cell?_alloc_new]; rfl
  · rw [h.cell (p := ⟨w.heap.size, 1, none⟩) (by rw [hs]; simp), World.cell?_alloc_new]; rfl
  · rw [h.cell (p := ⟨w.heap.size, 2, none⟩) (by rw [hs]; simp), World.cell?_alloc_new]; rfl

theorem Later.undrew {w W : World} (h : Later w.drew W) : Later w W := (Below.refl _ _).drew.trans h

/-- What holds in every later world goes on holding. -/
theorem later_next {w w1 : World} {p : World → Prop} (h : ∀ W, Later w W → p W) (hl : Later w w1) : ∀ W, Later w1 W → p W := fun W hW => h W (hl.trans hW)

theorem right_any (k : Nat) (n : Int) (s : ByteArray) (w : World) : Calls Try.prog 29 #[.agg #[.int .u8 k, .int .i64 n, .string s]] w fun e w' => e = .returned (.bool (Vl.right ⟨k, n, s⟩)) ∧ Below w.heap.size w w' := by
  have hbx := fun W h => box_later w 39 (.int .u8 k) (.int .i64 n) (.string s) W (Later.undrew h)
  rcases kinds k with rfl | rfl | rfl | rfl | hk
  · have hc0 := fun W h => (hbx W h).1
    have hc1 := fun W h => (hbx W h).2.1
    have hc2 := fun W h => (hbx W h).2.2
    clear hbx
    go_enter Try.func29, Try.ntmps29
    go_wp2_with fail
    refine wp_region_ord [(0, true), (1, false), (2, true), (3, true)] (by kernel_rfl) (by kernel_rfl) (by kernel_rfl) (by kernel_rfl) ?_
    repeat (first | (refine wpO_F (v := ?_) rfl (by rfl) (fun w' hL => ?_) ?_; rotate_left; (solve | (go_simp; with_reducible rfl) | go_simp); try simp only [Act.put, List.setIfInBounds_toArray, List.set_cons_zero, List.set_cons_succ]) | (refine wpO_G rfl (by rfl) ?_; try simp only [Act.put, List.setIfInBounds_toArray, List.set_cons_zero, List.set_cons_succ]))
    refine wpO_C rfl (by rfl) ?_
    go_simp
    refine (null_any _).mono ?_
    rintro e w1 ⟨rfl, hb1⟩
    refine ⟨hb1, ?_⟩
    try simp only [Act.put, List.setIfInBounds_toArray, List.set_cons_zero, List.set_cons_succ]
    repeat (first | (refine wpO_F (v := ?_) rfl (by rfl) (fun w' hL => ?_) ?_; rotate_left; (solve | (go_simp; with_reducible rfl) | go_simp); try simp only [Act.put, List.setIfInBounds_toArray, List.set_cons_zero, List.set_cons_succ]) | (refine wpO_G rfl (by rfl) ?_; try simp only [Act.put, List.setIfInBounds_toArray, List.set_cons_zero, List.set_cons_succ]))
    refine wpO_nil ?_
    go_wp2
    go_ret
    exact ⟨ret_b (by rw [isEmpty_size, Bool.eq_iff_iff]; simp [Vl.right]), (Below.box _ _).drew.trans (hb1.mono (by simp))⟩
  · have hc0 := fun W h => (hbx W h).1
    have hc1 := fun W h => (hbx W h).2.1
    have hc2 := fun W h => (hbx W h).2.2
    clear hbx
    go_enter Try.func29, Try.ntmps29
    go_wp2_with fail
    refine wp_region_ord [(0, true), (1, true), (2, true), (3, false), (4, true), (5, true)] (by kernel_rfl) (by kernel_rfl) (by kernel_rfl) (by kernel_rfl) ?_
    repeat (first | (refine wpO_F (v := ?_) rfl (by rfl) (fun w' hL => ?_) ?_; rotate_left; (solve | (go_simp; with_reducible rfl) | go_simp); try simp only [Act.put, List.setIfInBounds_toArray, List.set_cons_zero, List.set_cons_succ]) | (refine wpO_G rfl (by rfl) ?_; try simp only [Act.put, List.setIfInBounds_toArray, List.set_cons_zero, List.set_cons_succ]))
    refine wpO_C rfl (by rfl) ?_
    go_simp
    refine (whole_any n _).mono ?_
    rintro e w1 ⟨rfl, hb1⟩
    refine ⟨hb1, ?_⟩
    try simp only [Act.put, List.setIfInBounds_toArray, List.set_cons_zero, List.set_cons_succ]
    repeat (first | (refine wpO_F (v := ?_) rfl (by rfl) (fun w' hL => ?_) ?_; rotate_left; (solve | (go_simp; with_reducible rfl) | go_simp); try simp only [Act.put, List.setIfInBounds_toArray, List.set_cons_zero, List.set_cons_succ]) | (refine wpO_G rfl (by rfl) ?_; try simp only [Act.put, List.setIfInBounds_toArray, List.set_cons_zero, List.set_cons_succ]))
    refine wpO_nil ?_
    go_wp2
    go_ret
    exact ⟨ret_b (by rw [isEmpty_size, Bool.eq_iff_iff]; simp [Vl.right]), (Below.box _ _).drew.trans (hb1.mono (by simp))⟩
  all_goals clear hbx
  · go_enter Try.func29, Try.ntmps29
    go_wp2
    go_ret
    exact ⟨ret_b (by rw [Bool.eq_iff_iff]; simp [Vl.right]), Below.box _ _⟩
  · go_enter Try.func29, Try.ntmps29
    go_wp2
    go_ret
    exact ⟨ret_b (by rw [Bool.eq_iff_iff]; simp [Vl.right]), Below.box _ _⟩
  · have e0 : ((k : Int) == 0) = false := by simp; omega
    have e1 : ((k : Int) == 1) = false := by simp; omega
    have e2 : ((k : Int) == 2) = false := by simp; omega
    have e3 : ((k : Int) == 3) = false := by simp; omega
    go_enter Try.func29, Try.ntmps29
    go_wp2
    go_ret
    exact ⟨ret_b (by rw [right_big _ _ hk]), Below.box _ _⟩
end Go.Proofs.Ytpdfdlikijghhaa
