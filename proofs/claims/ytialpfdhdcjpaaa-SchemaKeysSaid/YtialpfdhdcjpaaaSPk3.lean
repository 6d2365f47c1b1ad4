/- Several texts of one proof, one behind the other. -/
import Derived.Test.YtialpfdhdcjpaaaSPk2
import Derived.Laws.BitsAllLaws
import Derived.WalkKit
import Derived.Laws.StructEq
set_option linter.unusedSimpArgs false
set_option linter.unusedVariables false

/- The walk of the law VarintTexts. -/
set_option linter.unusedSimpArgs false
set_option linter.unusedVariables false
set_option maxRecDepth 100000
namespace Go.Proofs.Ytialpfdhdcjpaaa
open Go.RowKit

theorem putText_ret (s : ByteArray) (w : World) (hs : s.size ≤ 1000000) : Calls Try.prog 64 #[.string s] w (RetB w (textL s)) := (putText_any s w hs).mono fun _ _ h => RetB.of h
end Go.Proofs.Ytialpfdhdcjpaaa

/- Plain mathematics of VarintBack: integers and texts go there and back. -/
set_option linter.unusedSimpArgs false
set_option linter.unusedVariables false
set_option maxRecDepth 100000
namespace Go.Proofs.Ytialpfdhdcjpaaa
open Go.RowKit

theorem getS_put (B : List Nat) : ∀ (x i v : Nat), i ≤ 9 → (i = 0 ∨ 0 < x) → x * 128 ^ i < 18446744073709551616 → getS (putL x ++ B) i v = (v + x * 128 ^ i, i + (putL x).length, 0) := by
  intro x
  induction x using putL.induct with
  | case1 x h =>
    intro i v hi hx hs
    rw [putL_small h]
    have h9 : i = 9 → x ≤ 1 := by
      rintro rfl
      have : (128 : Nat) ^ 9 = 9223372036854775808 := by decide
      omega
    simp only [List.cons_append, List.nil_append, getS]
    rw [if_neg (by omega), if_neg (by omega), if_pos h]
    simp
  | case2 x h ih =>
    intro i v hi hx hs
    rw [putL_step h]
    have h9 : i ≠ 9 := by
      rintro rfl
      have : (128 : Nat) ^ 9 = 9223372036854775808 := by decide
      omega
    simp only [List.cons_append, getS]
    rw [if_neg (by omega), if_neg (by omega), if_neg (by omega)]
    have e1 : x / 128 * 128 ^ (i + 1) + x % 128 * 128 ^ i = x * 128 ^ i := by
      have := Nat.div_add_mod x 128
      rw [Nat.pow_succ, Nat.mul_comm (128 ^ i) 128, ← Nat.mul_assoc, ← Nat.add_mul, Nat.mul_comm (x / 128) 128, this]
    rw [ih (i + 1) (v + (x % 128 + 128 - 128) * 128 ^ i) (by omega) (.inr (by omega)) (by omega)]
    simp only [Nat.add_sub_cancel, List.length_cons, Prod.mk.injEq, and_true]
    omega

/-- The bytes of an integer, wherever they stand. -/
theorem getR_put (A B : List Nat) (x : Nat) (hx : x < 18446744073709551616) : getR (A ++ (putL x ++ B)) (A.length : Nat) = (x, (A.length : Int) + (putL x).length, 0) := by
  unfold getR
  rw [if_neg (by simp; omega)]
  have := getS_put B x 0 0 (by omega) (.inl rfl) (by simpa using hx)
  simp [this]

theorem textR_put (A : List Nat) (s : ByteArray) (hs : s.size < 18446744073709551616) : textR (A ++ textL s) (A.length : Nat) = (s, (((A ++ textL s).length : Nat) : Int), 0) := by
  unfold textR textL
  rw [getR_put A (bytesOf s) s.size hs]
  simp only [ne_eq, not_true_eq_false, if_false]
  rw [if_neg (by simp [bytesOf_len]; omega)]
  have e : ((A.length : Int) + (putL s.size).length).toNat = A.length + (putL s.size).length := by omega
  have e2 : List.drop (A.length + (putL s.size).length) (A ++ (putL s.size ++ bytesOf s)) = bytesOf s := by
    rw [← List.append_assoc, ← List.length_append, List.drop_left]
  rw [e, e2]
  rw [List.take_of_length_le (by rw [bytesOf_len]; omega), strN_bytesOf]
  simp [bytesOf_len]
  omega

/-- In one way alone. -/
theorem getS_only : ∀ (D : List Nat) (i v0 v n : Nat), (∀ c ∈ D, c < 256) → i ≤ 9 → getS D i v0 = (v, n, 0) →
    ∃ x, v = v0 + x * 128 ^ i ∧ n = i + (putL x).length ∧ (putL x).length ≤ D.length ∧ D.take (putL x).length = putL x ∧ (0 < i → x ≠ 0)
  | [], i, v0, v, n, _, _, h => by simp [getS] at h
  | c :: r, i, v0, v, n, hD, hi, h => by
    unfold getS at h
    split at h
    · simp at h
    · split at h
      · simp at h
      · split at h
        · rename_i h1 h2 h3
          simp only [Prod.mk.injEq, and_true] at h
          refine ⟨c, h.1.symm, ?_, ?_, ?_, ?_⟩
          · rw [putL_small h3]; simp; omega
          · rw [putL_small h3]; simp
          · rw [putL_small h3]; simp
          · omega
        · rename_i h1 h2 h3
          have hc := hD c (by simp)
          obtain ⟨x, e1, e2, e3, e4, e5⟩ := getS_only r (i + 1) (v0 + (c - 128) * 128 ^ i) v n (fun d hd => hD d (by simp [hd])) (by omega) h
          have hx := e5 (by omega)
          have hp : putL (c - 128 + 128 * x) = c :: putL x := by
            rw [putL_step (by omega)]
            congr 1
            · omega
            · congr 1; omega
          refine ⟨c - 128 + 128 * x, ?_, ?_, ?_, ?_, ?_⟩
          · rw [e1, Nat.add_mul, Nat.pow_succ, Nat.mul_comm (128 ^ i) 128, ← Nat.mul_assoc, Nat.mul_comm x 128]; omega
          · rw [hp, e2]; simp; omega
          · rw [hp]; simp; omega
          · rw [hp]; simp [e4]
          · omega

theorem getR_only (l : List Nat) (h256 : ∀ c ∈ l, c < 256) (at_ : Int) (v : Nat) (n : Int) (h : getR l at_ = (v, n, 0)) :
    0 ≤ at_ ∧ ∃ m : Nat, n = m ∧ at_ < n ∧ m ≤ l.length ∧ putL v = (l.drop at_.toNat).take (m - at_.toNat) := by
  unfold getR at h
  split at h
  · simp at h
  · rename_i h1
    obtain ⟨G, hG⟩ : ∃ G, getS (l.drop at_.toNat) 0 0 = G := ⟨_, rfl⟩
    obtain ⟨gv, gn, ge⟩ := G
    rw [hG] at h
    simp only [] at h
    split at h
    · rename_i h2
      subst h2
      obtain ⟨x, e1, e2, e3, e4, _⟩ := getS_only (l.drop at_.toNat) 0 0 gv gn (fun c hc => h256 c (List.mem_of_mem_drop hc)) (by omega) hG
      simp only [Prod.mk.injEq, and_true] at h
      have hx : x = v := by rw [← h.1, e1]; simp
      subst hx
      rw [List.length_drop] at e3
      have hp := putL_pos x
      refine ⟨by omega, (at_ + (gn : Int)).toNat, by omega, by omega, by omega, ?_⟩
      rw [show (at_ + (gn : Int)).toNat - at_.toNat = (putL x).length by omega]
      exact e4.symm
    · rename_i h2
      simp only [Prod.mk.injEq] at h
      exact absurd h.2.2 h2

/-- The bytes of all the integers of a list. -/
def allL (l : List Nat) : List Nat := l.flatMap putL
theorem allL_snoc (l : List Nat) (k : Nat) (h : k < l.length) : allL (l.take (k + 1)) = allL (l.take k) ++ putL l[k] := by
  unfold allL; rw [take_succ_n l k h, List.flatMap_append]; simp [List.flatMap_cons]
theorem allL_split (l : List Nat) (k : Nat) (h : k < l.length) : allL l = allL (l.take k) ++ (putL l[k] ++ allL (l.drop (k + 1))) := by
  unfold allL
  conv => lhs; rw [← List.take_append_drop k l, List.drop_eq_getElem_cons h]
  rw [List.flatMap_append, List.flatMap_cons]
theorem allL_len (l : List Nat) (hl : ∀ c ∈ l, c < 18446744073709551616) : (allL l).length ≤ 10 * l.length := by
  induction l with
  | nil => simp [allL]
  | cons c r ih =>
    have := ih (fun d hd => hl d (by simp [hd]))
    have := putL_len10 (hl c (by simp))
    simp [allL] at *
    omega
theorem allL_lt (l : List Nat) : ∀ c ∈ allL l, c < 256 := by
  intro c hc
  obtain ⟨d, _, hd⟩ := List.mem_flatMap.1 hc
  exact putL_byte d c hd
end Go.Proofs.Ytialpfdhdcjpaaa

/- Plain mathematics of layer 2: the values of SQL. -/
set_option linter.unusedSimpArgs false
set_option linter.unusedVariables false
set_option maxRecDepth 100000
namespace Go.Proofs.Ytialpfdhdcjpaaa

/-- A value: its kind, its integer, its text. -/
structure Vl where
  k : Nat
  n : Int
  s : ByteArray
  deriving DecidableEq

/-- A value's fields fit their types. -/
def Vl.ok (x : Vl) : Prop := x.k < 256 ∧ -9223372036854775808 ≤ x.n ∧ x.n ≤ 9223372036854775807

def Vl.right (x : Vl) : Bool :=
  if x.k = 0 then decide (x.n = 0) && decide (x.s.size = 0)
  else if x.k = 1 then decide (x.s.size = 0)
  else if x.k = 2 ∨ x.k = 3 then decide (x.n = 0)
  else false

def nullV : Vl := ⟨0, 0, ⟨#[]⟩⟩
def numV (n : Int) : Vl := ⟨1, n, ⟨#[]⟩⟩

/-- Does an int64 hold it? -/
def fits (n : Int) : Bool := decide (-9223372036854775808 ≤ n ∧ n ≤ 9223372036854775807)

def addI (x y : Int) : Int × Int := if fits (x + y) then (x + y, 0) else (0, 21)
def subI (x y : Int) : Int × Int := if fits (x - y) then (x - y, 0) else (0, 21)
def mulI (x y : Int) : Int × Int := if fits (x * y) then (x * y, 0) else (0, 21)
def divI (x y : Int) : Int × Int := if y = 0 then (0, 22) else if fits (x.tdiv y) then (x.tdiv y, 0) else (0, 21)
def modI (x y : Int) : Int × Int := if y = 0 then (0, 22) else (x.tmod y, 0)

/-- An operation on two values. -/
def arithV (op : Int → Int → Int × Int) (a b : Vl) : Vl × Int :=
  if a.right = false ∨ b.right = false then (nullV, 3)
  else if 1 < a.k ∨ 1 < b.k then (nullV, 20)
  else if a.k = 0 ∨ b.k = 0 then (nullV, 0)
  else if (op a.n b.n).2 ≠ 0 then (nullV, (op a.n b.n).2) else (numV (op a.n b.n).1, 0)

theorem fits_iff (n : Int) : fits n = true ↔ -9223372036854775808 ≤ n ∧ n ≤ 9223372036854775807 := by simp [fits]

/-- A product that wrapped doesn't give back its factor. -/
theorem mul_back (x y : Int) (hx1 : -9223372036854775808 ≤ x) (hx2 : x ≤ 9223372036854775807) (hy1 : -9223372036854775808 ≤ y) (hy2 : y ≤ 9223372036854775807) (hy : y ≠ 0)
    (hf : fits (x * y) = false) : (IntKind.i64.wrap (x * y)).tdiv y ≠ x := by
  intro h
  have hnf : ¬ (-9223372036854775808 ≤ x * y ∧ x * y ≤ 9223372036854775807) := by
    intro hh; rw [(fits_iff _).2 hh] at hf; cases hf
  have hdm := Int.tdiv_mul_add_tmod (IntKind.i64.wrap (x * y)) y
  rw [h] at hdm
  have hlt : ((IntKind.i64.wrap (x * y)).tmod y).natAbs < y.natAbs := by rw [Int.natAbs_tmod]; exact Nat.mod_lt _ (by omega)
  rw [IntKind.wrap_i64] at *
  generalize x * y = p at *
  omega

end Go.Proofs.Ytialpfdhdcjpaaa

/- The walks of layer 2's small functions. -/
set_option linter.unusedSimpArgs false
set_option linter.unusedVariables false
set_option maxRecDepth 100000
namespace Go.Proofs.Ytialpfdhdcjpaaa
open Go.RowKit

theorem ret_b {a b : Bool} (h : a = b) : Ending.returned (.bool a) = .returned (.bool b) := by rw [h]

theorem Below.box (w : World) (o : Obj) : Below w.heap.size w (w.alloc o) := (Below.refl _ _).alloc (Nat.le_refl _) _

theorem null_any (w : World) : Calls Try.prog 89 #[] w fun e w' => e = .returned (.agg #[.int .u8 0, .int .i64 0, .string ⟨#[]⟩]) ∧ Below w.heap.size w w' := by
  go_enter Try.func89, Try.ntmps89
  go_wp2
  exact bodyPost_ret (v := .agg #[.int .u8 0, .int .i64 0, .string ⟨#[]⟩]) (by simp [results, Try.results89, go_sem]) rfl ⟨rfl, Below.box _ _⟩

theorem whole_any (n : Int) (w : World) : Calls Try.prog 90 #[.int .i64 n] w fun e w' => e = .returned (.agg #[.int .u8 1, .int .i64 n, .string ⟨#[]⟩]) ∧ Below w.heap.size w w' := by
  go_enter Try.func90, Try.ntmps90
  go_wp2
  exact bodyPost_ret (v := .agg #[.int .u8 1, .int .i64 n, .string ⟨#[]⟩]) (by simp [results, Try.results90, go_sem]) rfl ⟨rfl, Below.box _ _⟩

theorem kinds (k : Nat) : k = 0 ∨ k = 1 ∨ k = 2 ∨ k = 3 ∨ 3 < k := by omega

theorem right_big {k : Nat} (n : Int) (s : ByteArray) (hk : 3 < k) : Vl.right ⟨k, n, s⟩ = false := by
  unfold Vl.right
  rw [if_neg (by simp only; omega), if_neg (by simp only; omega), if_neg (by simp only; omega)]

theorem rright_any (k : Nat) (n : Int) (s : ByteArray) (w : World) : Calls Try.prog 73 #[.agg #[.int .u8 k, .int .i64 n, .string s]] w fun e w' => e = .returned (.bool (Vl.right ⟨k, n, s⟩)) ∧ Below w.heap.size w w' := by
  rcases kinds k with rfl | rfl | rfl | rfl | hk
  all_goals
    go_enter Try.func73, Try.ntmps73
    go_wp2
    all_goals
      go_ret
      exact ⟨ret_b (by first | (rw [right_big _ _ hk]; done) | (rw [right_big _ _ hk]; simp; omega) | (rw [Bool.eq_iff_iff]; simp [Vl.right, *])), Below.box _ _⟩
end Go.Proofs.Ytialpfdhdcjpaaa

/- '==' of two values of SQL. -/
set_option linter.unusedSimpArgs false
set_option linter.unusedVariables false
set_option maxRecDepth 100000
namespace Go.Proofs.Ytialpfdhdcjpaaa
open Go.RowKit

@[go_sem high] theorem eqV (k k' n n' : Int) (s s' : ByteArray) (w : World) : (Op.equalIn 10000 52 (.agg #[.int .u8 k, .int .i64 n, .string s]) (.agg #[.int .u8 k', .int .i64 n', .string s'])).run Try.prog w = .ok (k == k' && (n == n' && s.toList == s'.toList)) w := by
  have hS : Try.prog.underlying 52 = some (.struct (Try.prog.fieldsOf 52)) := by kernel_rfl
  have hp : Try.prog.stoodInHeld 52 = false := by kernel_rfl
  rw [show (10000 : Nat) = 9999 + 1 from rfl, run_equalIn_agg w 9999 52 _ _ hS hp]
  simp only [Program.fieldsOf, Try.underlying52]
  go_simp
  by_cases h1 : k = k' <;> by_cases h2 : n = n' <;> by_cases h3 : s.toList = s'.toList <;> simp [h1, h2, h3]

@[go_sem] theorem eqGuardV : Try.prog.eqGuardType Try.prog.depth 52 = false := by kernel_rfl

theorem isEmpty_size (s : ByteArray) : s.toList.isEmpty = decide (s.size = 0) := by
  have : s.toList = s.data.toList := ByteArray.toList_eq s
  rw [this]
  cases h : s.data.toList with
  | nil => simp [ByteArray.size, ← Array.length_toList, h]
  | cons x r => simp [ByteArray.size, ← Array.length_toList, h]
end Go.Proofs.Ytialpfdhdcjpaaa

/- The walk of cell.Right. -/
set_option linter.unusedSimpArgs false
set_option linter.unusedVariables false
set_option maxRecDepth 100000
namespace Go.Proofs.Ytialpfdhdcjpaaa
open Go.RowKit

/-- A boxed value is there in every later world. -/
theorem box_later (w : World) (T : TypeId) (v0 v1 v2 : Value) : ∀ W, Later (w.alloc (.cells #[v0, v1, v2] T)) W →
    W.cell? ⟨w.heap.size, 0, none⟩ = some v0 ∧ W.cell? ⟨w.heap.size, 1, none⟩ = some v1 ∧ W.cell? ⟨w.heap.size, 2, none⟩ = some v2 := by
  intro W h
  have hs : (w.alloc (.cells #[v0, v1, v2] T)).heap.size = w.heap.size + 1 := by simp
  refine ⟨?_, ?_, ?_⟩
  · rw [h.cell (p := ⟨w.heap.size, 0, none⟩) (by rw [hs]; simp), World.cell?_alloc_new]; rfl
  · rw [h.cell (p := ⟨w.heap.size, 1, none⟩) (by rw [hs]; simp), World.cell?_alloc_new]; rfl
  · rw [h.cell (p := ⟨w.heap.size, 2, none⟩) (by rw [hs]; simp), World.cell?_alloc_new]; rfl

theorem Later.undrew {w W : World} (h : Later w.drew W) : Later w W := (Below.refl _ _).drew.trans h

/-- What holds in every later world goes on holding. -/
theorem later_next {w w1 : World} {p : World → Prop} (h : ∀ W, Later w W → p W) (hl : Later w w1) : ∀ W, Later w1 W → p W := fun W hW => h W (hl.trans hW)

theorem right_any (k : Nat) (n : Int) (s : ByteArray) (w : World) : Calls Try.prog 70 #[.agg #[.int .u8 k, .int .i64 n, .string s]] w fun e w' => e = .returned (.bool (Vl.right ⟨k, n, s⟩)) ∧ Below w.heap.size w w' := by
  have hbx := fun W h => box_later w 52 (.int .u8 k) (.int .i64 n) (.string s) W (Later.undrew h)
  rcases kinds k with rfl | rfl | rfl | rfl | hk
  · have hc0 := fun W h => (hbx W h).1
    have hc1 := fun W h => (hbx W h).2.1
    have hc2 := fun W h => (hbx W h).2.2
    clear hbx
    go_enter Try.func70, Try.ntmps70
    go_wp2_with fail
    refine wp_region_ord [(0, true), (1, false), (2, true), (3, true)] (by kernel_rfl) (by kernel_rfl) (by kernel_rfl) (by kernel_rfl) ?_
    repeat (first | (refine wpO_F (v := ?_) rfl (by rfl) (fun w' hL => ?_) ?_; rotate_left; (solve | (go_simp; with_reducible rfl) | go_simp); try simp only [Act.put, List.setIfInBounds_toArray, List.set_cons_zero, List.set_cons_succ]) | (refine wpO_G rfl (by rfl) ?_; try simp only [Act.put, List.setIfInBounds_toArray, List.set_cons_zero, List.set_cons_succ]))
    refine wpO_C rfl (by rfl) ?_
    go_simp
    refine (null_any _).mono ?_
    rintro e w1 ⟨rfl, hb1⟩
    refine ⟨hb1, ?_⟩
    try simp only [Act.put, List.setIfInBounds_toArray, List.set_cons_zero, List.set_cons_succ]
    repeat (first | (refine wpO_F (v := ?_) rfl (by rfl) (fun w' hL => ?_) ?_; rotate_left; (solve | (go_simp; with_reducible rfl) | go_simp); try simp only [Act.put, List.setIfInBounds_toArray, List.set_cons_zero, List.set_cons_succ]) | (refine wpO_G rfl (by rfl) ?_; try simp only [Act.put, List.setIfInBounds_toArray, List.set_cons_zero, List.set_cons_succ]))
    refine wpO_nil ?_
    go_wp2
    go_ret
    exact ⟨ret_b (by rw [isEmpty_size, Bool.eq_iff_iff]; simp [Vl.right]), (Below.box _ _).drew.trans (hb1.mono (by simp))⟩
  · have hc0 := fun W h => (hbx W h).1
    have hc1 := fun W h => (hbx W h).2.1
    have hc2 := fun W h => (hbx W h).2.2
    clear hbx
    go_enter Try.func70, Try.ntmps70
    go_wp2_with fail
    refine wp_region_ord [(0, true), (1, true), (2, true), (3, false), (4, true), (5, true)] (by kernel_rfl) (by kernel_rfl) (by kernel_rfl) (by kernel_rfl) ?_
    repeat (first | (refine wpO_F (v := ?_) rfl (by rfl) (fun w' hL => ?_) ?_; rotate_left; (solve | (go_simp; with_reducible rfl) | go_simp); try simp only [Act.put, List.setIfInBounds_toArray, List.set_cons_zero, List.set_cons_succ]) | (refine wpO_G rfl (by rfl) ?_; try simp only [Act.put, List.setIfInBounds_toArray, List.set_cons_zero, List.set_cons_succ]))
    refine wpO_C rfl (by rfl) ?_
    go_simp
    refine (whole_any n _).mono ?_
    rintro e w1 ⟨rfl, hb1⟩
    refine ⟨hb1, ?_⟩
    try simp only [Act.put, List.setIfInBounds_toArray, List.set_cons_zero, List.set_cons_succ]
    repeat (first | (refine wpO_F (v := ?_) rfl (by rfl) (fun w' hL => ?_) ?_; rotate_left; (solve | (go_simp; with_reducible rfl) | go_simp); try simp only [Act.put, List.setIfInBounds_toArray, List.set_cons_zero, List.set_cons_succ]) | (refine wpO_G rfl (by rfl) ?_; try simp only [Act.put, List.setIfInBounds_toArray, List.set_cons_zero, List.set_cons_succ]))
    refine wpO_nil ?_
    go_wp2
    go_ret
    exact ⟨ret_b (by rw [isEmpty_size, Bool.eq_iff_iff]; simp [Vl.right]), (Below.box _ _).drew.trans (hb1.mono (by simp))⟩
  all_goals clear hbx
  · go_enter Try.func70, Try.ntmps70
    go_wp2
    go_ret
    exact ⟨ret_b (by rw [Bool.eq_iff_iff]; simp [Vl.right]), Below.box _ _⟩
  · go_enter Try.func70, Try.ntmps70
    go_wp2
    go_ret
    exact ⟨ret_b (by rw [Bool.eq_iff_iff]; simp [Vl.right]), Below.box _ _⟩
  · have e0 : ((k : Int) == 0) = false := by simp; omega
    have e1 : ((k : Int) == 1) = false := by simp; omega
    have e2 : ((k : Int) == 2) = false := by simp; omega
    have e3 : ((k : Int) == 3) = false := by simp; omega
    go_enter Try.func70, Try.ntmps70
    go_wp2
    go_ret
    exact ⟨ret_b (by rw [right_big _ _ hk]), Below.box _ _⟩
end Go.Proofs.Ytialpfdhdcjpaaa
