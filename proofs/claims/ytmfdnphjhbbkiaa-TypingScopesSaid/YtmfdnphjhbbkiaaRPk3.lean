/- Several texts of one proof, one behind the other. -/
import Derived.Test.YtmfdnphjhbbkiaaRPk2
import Derived.Laws.StructEq
import Derived.Lib.Hide
import Derived.Lib.MapLaws
import Derived.Lib.ValidLaws
import Derived.Laws.RangeAny
set_option linter.unusedSimpArgs false
set_option linter.unusedVariables false

/- '==' of two values of SQL. -/
set_option linter.unusedSimpArgs false
set_option linter.unusedVariables false
set_option maxRecDepth 100000
namespace Go.Proofs.Ytmfdnphjhbbkiaa
open Go.RowKit

@[go_sem high] theorem eqV (k k' n n' : Int) (s s' : ByteArray) (w : World) : (Op.equalIn 10000 51 (.agg #[.int .u8 k, .int .i64 n, .string s]) (.agg #[.int .u8 k', .int .i64 n', .string s'])).run Try.prog w = .ok (k == k' && (n == n' && s.toList == s'.toList)) w := by
  have hS : Try.prog.underlying 51 = some (.struct (Try.prog.fieldsOf 51)) := by kernel_rfl
  have hp : Try.prog.stoodInHeld 51 = false := by kernel_rfl
  rw [show (10000 : Nat) = 9999 + 1 from rfl, run_equalIn_agg w 9999 51 _ _ hS hp]
  simp only [Program.fieldsOf, Try.underlying51]
  go_simp
  by_cases h1 : k = k' <;> by_cases h2 : n = n' <;> by_cases h3 : s.toList = s'.toList <;> simp [h1, h2, h3]

@[go_sem] theorem eqGuardV : Try.prog.eqGuardType Try.prog.depth 51 = false := by kernel_rfl

theorem isEmpty_size (s : ByteArray) : s.toList.isEmpty = decide (s.size = 0) := by
  have : s.toList = s.data.toList := ByteArray.toList_eq s
  rw [this]
  cases h : s.data.toList with
  | nil => simp [ByteArray.size, ← Array.length_toList, h]
  | cons x r => simp [ByteArray.size, ← Array.length_toList, h]
end Go.Proofs.Ytmfdnphjhbbkiaa

/- The walk of cell.Right. -/
set_option linter.unusedSimpArgs false
set_option linter.unusedVariables false
set_option maxRecDepth 100000
namespace Go.Proofs.Ytmfdnphjhbbkiaa
open Go.RowKit

/-- A boxed value is there in every later world. -/
theorem box_later (w : World) (T : TypeId) (v0 v1 v2 : Value) : ∀ W, Later (w.alloc (.cells #[v0, v1, v2] T)) W →
    W.cell? ⟨w.heap.size, 0, none⟩ = some v0 ∧ W.cell? ⟨w.heap.size, 1, none⟩ = some v1 ∧ W.cell? ⟨w.heap.size, 2, none⟩ = some v2 := by
  intro W h
  have hs : (w.alloc (.cells #[v0, v1, v2] T)).heap.size = w.heap.size + 1 := by simp
  refine ⟨?_, ?_, ?_⟩
  · rw [h.cell (p := ⟨w.heap.size, 0, none⟩) (by rw [hs]; simp), World.cell?_alloc_new]; rfl
  · rw [h.cell (p := ⟨w.heap.size, 1, none⟩) (by rw [hs]; simp), World.cell?_alloc_new]; rfl
  · rw [h.cell (p := ⟨w.heap.size, 2, none⟩) (by rw [hs]; simp), World.cell?_alloc_new]; rfl

theorem Later.undrew {w W : World} (h : Later w.drew W) : Later w W := (Below.refl _ _).drew.trans h

/-- What holds in every later world goes on holding. -/
theorem later_next {w w1 : World} {p : World → Prop} (h : ∀ W, Later w W → p W) (hl : Later w w1) : ∀ W, Later w1 W → p W := fun W hW => h W (hl.trans hW)

theorem right_any (k : Nat) (n : Int) (s : ByteArray) (w : World) : Calls Try.prog 40 #[.agg #[.int .u8 k, .int .i64 n, .string s]] w fun e w' => e = .returned (.bool (Vl.right ⟨k, n, s⟩)) ∧ Below w.heap.size w w' := by
  have hbx := fun W h => box_later w 51 (.int .u8 k) (.int .i64 n) (.string s) W (Later.undrew h)
  rcases kinds k with rfl | rfl | rfl | rfl | hk
  · have hc0 := fun W h => (hbx W h).1
    have hc1 := fun W h => (hbx W h).2.1
    have hc2 := fun W h => (hbx W h).2.2
    clear hbx
    go_enter Try.func40, Try.ntmps40
    go_wp2_with fail
    refine wp_region_ord [(0, true), (1, false), (2, true), (3, true)] (by kernel_rfl) (by kernel_rfl) (by kernel_rfl) (by kernel_rfl) ?_
    repeat (first | (refine wpO_F (v := ?_) rfl (by rfl) (fun w' hL => ?_) ?_; rotate_left; (solve | (go_simp; with_reducible rfl) | go_simp); try simp only [Act.put, List.setIfInBounds_toArray, List.set_cons_zero, List.set_cons_succ]) | (refine wpO_G rfl (by rfl) ?_; try simp only [Act.put, List.setIfInBounds_toArray, List.set_cons_zero, List.set_cons_succ]))
    refine wpO_C rfl (by rfl) ?_
    go_simp
    refine (null_any _).mono ?_
    rintro e w1 ⟨rfl, hb1⟩
    refine ⟨hb1, ?_⟩
    try simp only [Act.put, List.setIfInBounds_toArray, List.set_cons_zero, List.set_cons_succ]
    repeat (first | (refine wpO_F (v := ?_) rfl (by rfl) (fun w' hL => ?_) ?_; rotate_left; (solve | (go_simp; with_reducible rfl) | go_simp); try simp only [Act.put, List.setIfInBounds_toArray, List.set_cons_zero, List.set_cons_succ]) | (refine wpO_G rfl (by rfl) ?_; try simp only [Act.put, List.setIfInBounds_toArray, List.set_cons_zero, List.set_cons_succ]))
    refine wpO_nil ?_
    go_wp2
    go_ret
    exact ⟨ret_b (by rw [isEmpty_size, Bool.eq_iff_iff]; simp [Vl.right]), (Below.box _ _).drew.trans (hb1.mono (by simp))⟩
  · have hc0 := fun W h => (hbx W h).1
    have hc1 := fun W h => (hbx W h).2.1
    have hc2 := fun W h => (hbx W h).2.2
    clear hbx
    go_enter Try.func40, Try.ntmps40
    go_wp2_with fail
    refine wp_region_ord [(0, true), (1, true), (2, true), (3, false), (4, true), (5, true)] (by kernel_rfl) (by kernel_rfl) (by kernel_rfl) (by kernel_rfl) ?_
    repeat (first | (refine wpO_F (v := ?_) rfl (by rfl) (fun w' hL => ?_) ?_; rotate_left; (solve | (go_simp; with_reducible rfl) | go_simp); try simp only [Act.put, List.setIfInBounds_toArray, List.set_cons_zero, List.set_cons_succ]) | (refine wpO_G rfl (by rfl) ?_; try simp only [Act.put, List.setIfInBounds_toArray, List.set_cons_zero, List.set_cons_succ]))
    refine wpO_C rfl (by rfl) ?_
    go_simp
    refine (whole_any n _).mono ?_
    rintro e w1 ⟨rfl, hb1⟩
    refine ⟨hb1, ?_⟩
    try simp only [Act.put, List.setIfInBounds_toArray, List.set_cons_zero, List.set_cons_succ]
    repeat (first | (refine wpO_F (v := ?_) rfl (by rfl) (fun w' hL => ?_) ?_; rotate_left; (solve | (go_simp; with_reducible rfl) | go_simp); try simp only [Act.put, List.setIfInBounds_toArray, List.set_cons_zero, List.set_cons_succ]) | (refine wpO_G rfl (by rfl) ?_; try simp only [Act.put, List.setIfInBounds_toArray, List.set_cons_zero, List.set_cons_succ]))
    refine wpO_nil ?_
    go_wp2
    go_ret
    exact ⟨ret_b (by rw [isEmpty_size, Bool.eq_iff_iff]; simp [Vl.right]), (Below.box _ _).drew.trans (hb1.mono (by simp))⟩
  all_goals clear hbx
  · go_enter Try.func40, Try.ntmps40
    go_wp2
    go_ret
    exact ⟨ret_b (by rw [Bool.eq_iff_iff]; simp [Vl.right]), Below.box _ _⟩
  · go_enter Try.func40, Try.ntmps40
    go_wp2
    go_ret
    exact ⟨ret_b (by rw [Bool.eq_iff_iff]; simp [Vl.right]), Below.box _ _⟩
  · have e0 : ((k : Int) == 0) = false := by simp; omega
    have e1 : ((k : Int) == 1) = false := by simp; omega
    have e2 : ((k : Int) == 2) = false := by simp; omega
    have e3 : ((k : Int) == 3) = false := by simp; omega
    go_enter Try.func40, Try.ntmps40
    go_wp2
    go_ret
    exact ⟨ret_b (by rw [right_big _ _ hk]), Below.box _ _⟩
end Go.Proofs.Ytmfdnphjhbbkiaa

/- The walks of cell.add, sub, mul, div, mod: int64s. -/
set_option linter.unusedSimpArgs false
set_option linter.unusedVariables false
set_option maxRecDepth 100000
namespace Go.Proofs.Ytmfdnphjhbbkiaa
open Go.RowKit

theorem fits_yes {n : Int} (h1 : -9223372036854775808 ≤ n) (h2 : n ≤ 9223372036854775807) : fits n = true := (fits_iff n).2 ⟨h1, h2⟩
theorem fits_no {n : Int} (h : n < -9223372036854775808 ∨ 9223372036854775807 < n) : fits n = false := by
  cases hf : fits n with
  | false => rfl
  | true => have := (fits_iff n).1 hf; omega

theorem div_fits (x y : Int) (hx1 : -9223372036854775808 ≤ x) (hx2 : x ≤ 9223372036854775807) (hy : y ≠ 0) (h : ¬ (x = -9223372036854775808 ∧ y = -1)) : -9223372036854775808 ≤ x.tdiv y ∧ x.tdiv y ≤ 9223372036854775807 := by
  have h1 : (x.tdiv y).natAbs = x.natAbs / y.natAbs := Int.natAbs_tdiv x y
  by_cases hy1 : y = -1
  · subst hy1
    rw [Int.tdiv_neg, Int.tdiv_one]; omega
  · by_cases hy2 : y = 1
    · subst hy2; rw [Int.tdiv_one]; omega
    · have : x.natAbs / y.natAbs ≤ x.natAbs / 2 := Nat.div_le_div_left (by omega) (by omega)
      omega

theorem mod_fits (x y : Int) (hx1 : -9223372036854775808 ≤ x) (hx2 : x ≤ 9223372036854775807) : -9223372036854775808 ≤ x.tmod y ∧ x.tmod y ≤ 9223372036854775807 := by
  have h1 : (x.tmod y).natAbs = x.natAbs % y.natAbs := Int.natAbs_tmod x y
  have h2 : x.natAbs % y.natAbs ≤ x.natAbs := Nat.mod_le _ _
  have h3 : 0 ≤ x → 0 ≤ x.tmod y := fun h => Int.tmod_nonneg y h
  by_cases h : 0 ≤ x
  · have := h3 h; omega
  · have h4 : x.tmod y = -((-x).tmod y) := by rw [Int.neg_tmod]; simp
    have h5 := Int.tmod_nonneg y (show 0 ≤ -x by omega)
    omega

end Go.Proofs.Ytmfdnphjhbbkiaa

/- The walks of cell.arith at its five operations. -/
set_option linter.unusedSimpArgs false
set_option linter.unusedVariables false
set_option maxRecDepth 100000
namespace Go.Proofs.Ytmfdnphjhbbkiaa
open Go.RowKit

/-- A variable of three cells, which may be written. -/
def Slot (w : World) (b : Nat) (v0 v1 v2 : Value) : Prop :=
  w.cell? ⟨b, 0, none⟩ = some v0 ∧ w.cell? ⟨b, 1, none⟩ = some v1 ∧ w.cell? ⟨b, 2, none⟩ = some v2 ∧ w.frozen? ⟨b, 0, none⟩ = false ∧ w.frozen? ⟨b, 1, none⟩ = false ∧ w.frozen? ⟨b, 2, none⟩ = false

theorem Slot.later {w w' : World} {b : Nat} {v0 v1 v2 : Value} (h : Slot w b v0 v1 v2) (hl : Later w w') (hb : b < w.heap.size) : Slot w' b v0 v1 v2 := by
  obtain ⟨h0, h1, h2, f0, f1, f2⟩ := h
  exact ⟨(hl.cell (p := ⟨b, 0, none⟩) hb).trans h0, (hl.cell (p := ⟨b, 1, none⟩) hb).trans h1, (hl.cell (p := ⟨b, 2, none⟩) hb).trans h2,
    (hl.frozen (p := ⟨b, 0, none⟩) hb).trans f0, (hl.frozen (p := ⟨b, 1, none⟩) hb).trans f1, (hl.frozen (p := ⟨b, 2, none⟩) hb).trans f2⟩

theorem Slot.new (w : World) (T : TypeId) (v0 v1 v2 : Value) : Slot (w.alloc (.cells #[v0, v1, v2] T)) w.heap.size v0 v1 v2 := by
  refine ⟨?_, ?_, ?_, ?_, ?_, ?_⟩
  · rw [World.cell?_alloc_new]; rfl
  · rw [World.cell?_alloc_new]; rfl
  · rw [World.cell?_alloc_new]; rfl
  · simp only [World.frozen?]; rw [heap_alloc_new]; simp
  · simp only [World.frozen?]; rw [heap_alloc_new]; simp
  · simp only [World.frozen?]; rw [heap_alloc_new]; simp

/-- Three variables, one behind the other. -/
theorem slots3 (w : World) (T : TypeId) (a0 a1 a2 b0 b1 b2 c0 c1 c2 : Value) (w' : World) (hl : Later (((w.alloc (.cells #[a0, a1, a2] T)).alloc (.cells #[b0, b1, b2] T)).alloc (.cells #[c0, c1, c2] T)) w') :
    Slot w' w.heap.size a0 a1 a2 ∧ Slot w' (w.heap.size + 1) b0 b1 b2 ∧ Slot w' (w.heap.size + 1 + 1) c0 c1 c2 ∧ w.heap.size + 3 ≤ w'.heap.size := by
  have e1 : (w.alloc (.cells #[a0, a1, a2] T)).heap.size = w.heap.size + 1 := by simp
  have e2 : ((w.alloc (.cells #[a0, a1, a2] T)).alloc (.cells #[b0, b1, b2] T)).heap.size = w.heap.size + 1 + 1 := by simp
  have e3 : (((w.alloc (.cells #[a0, a1, a2] T)).alloc (.cells #[b0, b1, b2] T)).alloc (.cells #[c0, c1, c2] T)).heap.size = w.heap.size + 1 + 1 + 1 := by simp
  have l1 : Later (w.alloc (.cells #[a0, a1, a2] T)) ((w.alloc (.cells #[a0, a1, a2] T)).alloc (.cells #[b0, b1, b2] T)) := (Below.refl _ _).alloc (Nat.le_refl _) _
  have l2 : Later ((w.alloc (.cells #[a0, a1, a2] T)).alloc (.cells #[b0, b1, b2] T)) (((w.alloc (.cells #[a0, a1, a2] T)).alloc (.cells #[b0, b1, b2] T)).alloc (.cells #[c0, c1, c2] T)) := (Below.refl _ _).alloc (Nat.le_refl _) _
  refine ⟨(((Slot.new w T a0 a1 a2).later l1 (by rw [e1]; omega)).later l2 (by rw [e2]; omega)).later hl (by rw [e3]; omega), ?_, ?_, ?_⟩
  · have := (Slot.new (w.alloc (.cells #[a0, a1, a2] T)) T b0 b1 b2)
    rw [e1] at this
    exact (this.later l2 (by rw [e2]; omega)).later hl (by rw [e3]; omega)
  · have := (Slot.new ((w.alloc (.cells #[a0, a1, a2] T)).alloc (.cells #[b0, b1, b2] T)) T c0 c1 c2)
    rw [e2] at this
    exact this.later hl (by rw [e3]; omega)
  · have := hl.size
    rw [e3] at this; omega

/-- A call hands back a value and an error. -/
def RetV (w : World) (r : Vl × Int) (e : Ending) (w' : World) : Prop :=
  e = .returned (.tuple #[.agg #[.int .u8 r.1.k, .int .i64 r.1.n, .string r.1.s], .int .i64 r.2]) ∧ Below w.heap.size w w'

theorem right_null {n : Int} {s : ByteArray} (h : Vl.right ⟨0, n, s⟩ = true) : n = 0 ∧ s = ⟨#[]⟩ := by
  simp [Vl.right] at h
  exact ⟨h.1, h.2⟩
theorem right_num {n : Int} {s : ByteArray} (h : Vl.right ⟨1, n, s⟩ = true) : s = ⟨#[]⟩ := by
  simp [Vl.right] at h
  exact h

end Go.Proofs.Ytmfdnphjhbbkiaa

/- Plain mathematics of layer 3: the bytes of a row, and the row of bytes. -/
set_option linter.unusedSimpArgs false
set_option linter.unusedVariables false
set_option maxRecDepth 100000
namespace Go.Proofs.Ytmfdnphjhbbkiaa
open Go.RowKit

theorem getS_bound : ∀ (D : List Nat) (i v0 v n : Nat), (∀ c ∈ D, c < 256) → i ≤ 9 → v0 < 128 ^ i → getS D i v0 = (v, n, 0) → v < 18446744073709551616
  | [], i, v0, v, n, _, _, _, h => by simp [getS] at h
  | c :: r, i, v0, v, n, hD, hi, hv, h => by
    have hc := hD c (by simp)
    unfold getS at h
    split at h
    · simp at h
    · split at h
      · simp at h
      · split at h
        · rename_i h1 h2 h3
          simp only [Prod.mk.injEq, and_true] at h
          have := fits7 c i v0 hv (by omega)
          rw [Nat.mod_eq_of_lt h3] at this
          omega
        · rename_i h1 h2 h3
          have h9 : i ≠ 9 := by omega
          have hg := grow7 c i v0 hv
          rw [show c % 128 = c - 128 by omega] at hg
          exact getS_bound r (i + 1) _ v n (fun d hd => hD d (by simp [hd])) (by omega) (by omega) h
/-- The bytes of a value. -/
def encV (x : Vl) : List Nat := if x.k = 0 then [0] else if x.k = 1 then 1 :: putL (zigN x.n) else x.k :: textL x.s

/-- The bytes of values. -/
def encL (l : List Vl) : List Nat := l.flatMap encV

/-- The value that begins at an index, and the index behind it. -/
def decV (l : List Nat) (p : Nat) : Option (Vl × Nat) :=
  match l[p]? with
  | none => none
  | some k =>
    if k = 0 then some (⟨0, 0, ⟨#[]⟩⟩, p + 1)
    else if k = 1 then (if (getR l ((p + 1 : Nat) : Int)).2.2 = 0 then some (⟨1, zagZ (getR l ((p + 1 : Nat) : Int)).1, ⟨#[]⟩⟩, (getR l ((p + 1 : Nat) : Int)).2.1.toNat) else none)
    else if k = 2 ∨ k = 3 then (if (textR l ((p + 1 : Nat) : Int)).2.2 = 0 then some (⟨k, 0, (textR l ((p + 1 : Nat) : Int)).1⟩, (textR l ((p + 1 : Nat) : Int)).2.1.toNat) else none)
    else none

/-- The value's text is short enough for a machine, its integer an int64. -/
def Vl.fair (x : Vl) : Prop := x.k < 256 ∧ (-9223372036854775808 ≤ x.n ∧ x.n ≤ 9223372036854775807) ∧ x.s.size < 18446744073709551616

theorem textR_at (A B : List Nat) (s : ByteArray) (hs : s.size < 18446744073709551616) : textR (A ++ (textL s ++ B)) (A.length : Nat) = (s, (A.length : Int) + (textL s).length, 0) := by
  unfold textR textL
  rw [List.append_assoc, getR_put A (bytesOf s ++ B) s.size hs]
  simp only [ne_eq, not_true_eq_false, if_false]
  rw [if_neg (by simp [bytesOf_len]; omega)]
  have e : ((A.length : Int) + (putL s.size).length).toNat = A.length + (putL s.size).length := by omega
  have e2 : List.drop (A.length + (putL s.size).length) (A ++ (putL s.size ++ (bytesOf s ++ B))) = bytesOf s ++ B := by
    rw [← List.append_assoc, ← List.length_append, List.drop_left]
  rw [e, e2, List.take_left' (bytesOf_len s), strN_bytesOf]
  simp [bytesOf_len]; omega

theorem right_kind {x : Vl} (h : x.right = true) : (x = ⟨0, 0, ⟨#[]⟩⟩) ∨ (x = ⟨1, x.n, ⟨#[]⟩⟩) ∨ ((x.k = 2 ∨ x.k = 3) ∧ x = ⟨x.k, 0, x.s⟩) := by
  obtain ⟨k, n, s⟩ := x
  unfold Vl.right at h
  by_cases h0 : k = 0
  · subst h0
    have := right_null (n := n) (s := s) (by unfold Vl.right; exact h)
    rw [this.1, this.2]; exact .inl rfl
  · by_cases h1 : k = 1
    · subst h1
      have := right_num (n := n) (s := s) (by unfold Vl.right; exact h)
      rw [this]; exact .inr (.inl rfl)
    · simp only [if_neg h0, if_neg h1] at h
      by_cases h2 : k = 2 ∨ k = 3
      · simp only [if_pos h2, decide_eq_true_eq] at h
        subst h
        exact .inr (.inr ⟨h2, rfl⟩)
      · simp only [if_neg h2] at h; cases h

theorem decV_enc (A B : List Nat) (x : Vl) (hr : x.right = true) (hf : x.fair) : decV (A ++ (encV x ++ B)) A.length = some (x, A.length + (encV x).length) := by
  rcases right_kind hr with h | h | ⟨hk, h⟩
  · rw [h]; unfold decV encV; simp
  · obtain ⟨k, n, s⟩ := x
    simp only [Vl.mk.injEq] at h
    obtain ⟨rfl, -, rfl⟩ := h
    have hg := getR_put (A ++ [1]) B (zigN n) (zigN_lt n hf.2.1.1 hf.2.1.2)
    unfold decV encV
    simp only [List.append_assoc, List.cons_append, List.nil_append, List.length_append, List.length_cons, List.length_nil] at hg
    simp only [List.getElem?_append_right (Nat.le_refl _), Nat.sub_self, List.cons_append, List.getElem?_cons_zero, if_neg (show ¬ 1 = 0 by omega), if_true]
    rw [Nat.zero_add] at hg
    rw [hg]
    simp only [if_true, zag_zig, Option.some.injEq, Prod.mk.injEq, true_and, List.length_cons]
    omega
  · obtain ⟨k, n, s⟩ := x
    simp only [Vl.mk.injEq] at h
    obtain ⟨-, rfl, -⟩ := h
    simp only at hk
    have hg := textR_at (A ++ [k]) B s hf.2.2
    unfold decV encV
    simp only [List.append_assoc, List.cons_append, List.nil_append, List.length_append, List.length_cons, List.length_nil] at hg
    rw [Nat.zero_add] at hg
    simp only [List.getElem?_append_right (Nat.le_refl _), Nat.sub_self, if_neg (show ¬ k = 0 by omega), if_neg (show ¬ k = 1 by omega), List.cons_append, List.getElem?_cons_zero, if_pos hk]
    rw [hg]
    simp only [if_true, Option.some.injEq, Prod.mk.injEq, true_and, List.length_cons]
    omega

theorem textR_only (l : List Nat) (h256 : ∀ c ∈ l, c < 256) (p : Nat) (s : ByteArray) (n : Int) (h : textR l (p : Nat) = (s, n, 0)) :
    ∃ m : Nat, n = m ∧ p < m ∧ m ≤ l.length ∧ s.size ≤ l.length ∧ textL s = (l.drop p).take (m - p) := by
  unfold textR at h
  obtain ⟨G, hG⟩ : ∃ G, getR l (p : Nat) = G := ⟨_, rfl⟩
  obtain ⟨v, gn, ge⟩ := G
  simp only [hG] at h
  by_cases h0 : ge ≠ 0
  · rw [if_pos h0] at h
    simp only [Prod.mk.injEq] at h
    exact absurd h.2.2 h0
  · rw [if_neg h0] at h
    by_cases h1 : (l.length : Int) - gn < (v : Int)
    · rw [if_pos h1] at h
      simp at h
    · rw [if_neg h1] at h
      simp only [Prod.mk.injEq, and_true] at h
      have h0' : ge = 0 := by omega
      subst h0'
      obtain ⟨_, m, rfl, h3, h4, h5⟩ := getR_only l h256 p v gn hG
      have hs : s.size = v := by
        rw [← h.1, strN_size, List.length_take, List.length_drop]; omega
      have hb : bytesOf s = (l.drop m).take v := by
        rw [← h.1]
        unfold bytesOf strN
        simp only [List.map_map, Int.toNat_natCast]
        conv => rhs; rw [← List.map_id ((l.drop m).take v)]
        apply List.map_congr_left
        intro c hc
        have := h256 c (List.mem_of_mem_drop (List.mem_of_mem_take hc))
        simp [Nat.mod_eq_of_lt this]
      refine ⟨m + v, by omega, by omega, by omega, by omega, ?_⟩
      unfold textL
      rw [hs, hb, h5]
      rw [Int.toNat_natCast]
      have e : l.drop m = (l.drop p).drop (m - p) := by rw [List.drop_drop]; congr 1; omega
      rw [e, ← List.take_add]
      congr 1; omega

theorem enc_decV (l : List Nat) (h256 : ∀ c ∈ l, c < 256) (hl : l.length < 18446744073709551616) (p : Nat) (x : Vl) (n : Nat) (h : decV l p = some (x, n)) :
    x.right = true ∧ x.fair ∧ x.s.size ≤ l.length ∧ p < n ∧ n ≤ l.length ∧ encV x = (l.drop p).take (n - p) := by
  unfold decV at h
  cases hk : l[p]? with
  | none => rw [hk] at h; cases h
  | some k =>
    rw [hk] at h
    simp only [] at h
    have hp : p < l.length := by
      by_cases hp : p < l.length
      · exact hp
      · rw [List.getElem?_eq_none (by omega)] at hk; cases hk
    have hd : l.drop p = k :: l.drop (p + 1) := by
      rw [List.drop_eq_getElem_cons hp]
      rw [List.getElem?_eq_getElem hp] at hk
      simp only [Option.some.injEq] at hk
      rw [hk]
    by_cases h0 : k = 0
    · rw [if_pos h0] at h
      simp only [Option.some.injEq, Prod.mk.injEq] at h
      obtain ⟨rfl, rfl⟩ := h
      refine ⟨rfl, ⟨by simp, by simp, by decide⟩, by simp [ByteArray.size], by omega, by omega, ?_⟩
      rw [hd, h0, show p + 1 - p = 1 by omega]; rfl
    · rw [if_neg h0] at h
      by_cases h1 : k = 1
      · rw [if_pos h1] at h
        by_cases he : (getR l ((p + 1 : Nat) : Int)).2.2 = 0
        · rw [if_pos he] at h
          obtain ⟨G, hG⟩ : ∃ G, getR l ((p + 1 : Nat) : Int) = G := ⟨_, rfl⟩
          obtain ⟨v, gn, ge⟩ := G
          rw [hG] at h he
          simp only at he
          subst he
          simp only [Option.some.injEq, Prod.mk.injEq] at h
          obtain ⟨rfl, rfl⟩ := h
          obtain ⟨_, m, rfl, h3, h4, h5⟩ := getR_only l h256 _ v gn hG
          have hv : v < 18446744073709551616 := by
            unfold getR at hG
            rw [if_neg (by omega)] at hG
            simp only [Int.toNat_natCast] at hG
            obtain ⟨S, hS⟩ : ∃ S, getS (l.drop (p + 1)) 0 0 = S := ⟨_, rfl⟩
            obtain ⟨sv, sn, se⟩ := S
            rw [hS] at hG
            simp only [] at hG
            by_cases hse : se = 0
            · rw [if_pos hse] at hG
              subst hse
              have hb := getS_bound (l.drop (p + 1)) 0 0 sv sn (fun c hc => h256 c (List.mem_of_mem_drop hc)) (by omega) (by simp) hS
              simp only [Prod.mk.injEq, and_true] at hG
              omega
            · rw [if_neg hse] at hG
              simp only [Prod.mk.injEq] at hG
              omega
          have hb := zagZ_bd v hv
          refine ⟨rfl, ⟨by simp, hb, by simp [ByteArray.size]⟩, by simp [ByteArray.size], by simp only [Int.toNat_natCast]; omega, by simp only [Int.toNat_natCast]; omega, ?_⟩
          unfold encV
          simp only [if_neg (show ¬ 1 = 0 by omega), if_true, zig_zag]
          rw [hd, h5, h1]
          simp only [Int.toNat_natCast]
          rw [show m - p = (m - (p + 1)) + 1 by omega, List.take_succ_cons]
        · rw [if_neg he] at h; cases h
      · rw [if_neg h1] at h
        by_cases h2 : k = 2 ∨ k = 3
        · rw [if_pos h2] at h
          by_cases he : (textR l ((p + 1 : Nat) : Int)).2.2 = 0
          · rw [if_pos he] at h
            obtain ⟨G, hG⟩ : ∃ G, textR l ((p + 1 : Nat) : Int) = G := ⟨_, rfl⟩
            obtain ⟨v, gn, ge⟩ := G
            rw [hG] at h he
            simp only at he
            subst he
            simp only [Option.some.injEq, Prod.mk.injEq] at h
            obtain ⟨rfl, rfl⟩ := h
            obtain ⟨m, rfl, h3, h4, h5, h6⟩ := textR_only l h256 _ v gn hG
            refine ⟨?_, ⟨by simp only; omega, by simp, by simp only; omega⟩, h5, by simp only [Int.toNat_natCast]; omega, by simp only [Int.toNat_natCast]; omega, ?_⟩
            · unfold Vl.right
              simp only [if_neg h0, if_neg h1, if_pos h2]; rfl
            · unfold encV
              simp only [if_neg h0, if_neg h1]
              rw [hd, h6]
              simp only [Int.toNat_natCast]
              rw [show m - p = (m - (p + 1)) + 1 by omega, List.take_succ_cons]
          · rw [if_neg he] at h; cases h
        · rw [if_neg h2] at h; cases h

/-- The first i values from index p on. -/
def readN (l : List Nat) (p : Nat) : Nat → Option (List Vl × Nat)
  | 0 => some ([], p)
  | i + 1 => match readN l p i with
    | none => none
    | some (acc, q) => match decV l q with
      | none => none
      | some (x, n) => some (acc ++ [x], n)

theorem readN_none {l : List Nat} {p i : Nat} (h : readN l p i = none) : ∀ j, i ≤ j → readN l p j = none := by
  intro j hj
  induction j with
  | zero => rw [show i = 0 by omega] at h; exact h
  | succ j ih =>
    by_cases e : i = j + 1
    · rw [← e]; exact h
    · rw [readN, ih (by omega)]

theorem encL_snoc (l : List Vl) (x : Vl) : encL (l ++ [x]) = encL l ++ encV x := by simp [encL]

theorem encL_take (l : List Vl) (i : Nat) (h : i < l.length) : encL (l.take (i + 1)) = encL (l.take i) ++ encV l[i] := by
  rw [List.take_succ_eq_append_getElem h, encL_snoc]

theorem encL_split (l : List Vl) (i : Nat) (h : i < l.length) : encL l = encL (l.take i) ++ (encV l[i] ++ encL (l.drop (i + 1))) := by
  unfold encL
  conv => lhs; rw [← List.take_append_drop i l, List.drop_eq_getElem_cons h]
  rw [List.flatMap_append, List.flatMap_cons]

theorem readN_enc (A B : List Nat) (l : List Vl) (hr : ∀ x ∈ l, x.right = true) (hf : ∀ x ∈ l, x.fair) : ∀ i, i ≤ l.length → readN (A ++ (encL l ++ B)) A.length i = some (l.take i, A.length + (encL (l.take i)).length) := by
  intro i
  induction i with
  | zero => intro _; simp [readN, encL]
  | succ i ih =>
    intro hi
    have hi' : i < l.length := by omega
    rw [readN, ih (by omega)]
    simp only []
    have h := decV_enc (A ++ encL (l.take i)) (encL (l.drop (i + 1)) ++ B) l[i] (hr _ (List.getElem_mem hi')) (hf _ (List.getElem_mem hi'))
    have e : (A ++ encL (l.take i)) ++ (encV l[i] ++ (encL (l.drop (i + 1)) ++ B)) = A ++ (encL l ++ B) := by
      rw [encL_split l i hi']; simp
    rw [e, List.length_append] at h
    rw [h]
    simp only [Option.some.injEq, Prod.mk.injEq]
    rw [encL_take l i hi', List.length_append, List.take_succ_eq_append_getElem hi']
    exact ⟨rfl, by omega⟩

theorem take_more (l : List Nat) (p q n : Nat) (h1 : p ≤ q) (h2 : q ≤ n) : (l.drop p).take (q - p) ++ (l.drop q).take (n - q) = (l.drop p).take (n - p) := by
  have e : l.drop q = (l.drop p).drop (q - p) := by rw [List.drop_drop]; congr 1; omega
  rw [e, ← List.take_add]
  congr 1; omega

theorem enc_readN (l : List Nat) (h256 : ∀ c ∈ l, c < 256) (hl : l.length < 18446744073709551616) (p : Nat) (hp : p ≤ l.length) : ∀ (i : Nat) (acc : List Vl) (q : Nat), readN l p i = some (acc, q) →
    acc.length = i ∧ (∀ x ∈ acc, x.right = true) ∧ (∀ x ∈ acc, x.fair) ∧ (∀ x ∈ acc, x.s.size ≤ l.length) ∧ p + i ≤ q ∧ q ≤ l.length ∧ encL acc = (l.drop p).take (q - p) := by
  intro i
  induction i with
  | zero =>
    intro acc q h
    simp only [readN, Option.some.injEq, Prod.mk.injEq] at h
    obtain ⟨rfl, rfl⟩ := h
    exact ⟨rfl, by simp, by simp, by simp, by omega, hp, by simp [encL]⟩
  | succ i ih =>
    intro acc q h
    rw [readN] at h
    cases hR : readN l p i with
    | none => rw [hR] at h; cases h
    | some R =>
      obtain ⟨acc0, q0⟩ := R
      rw [hR] at h
      simp only [] at h
      obtain ⟨a1, a2, a3, a4, a5, a6, a7⟩ := ih acc0 q0 hR
      cases hD : decV l q0 with
      | none => rw [hD] at h; cases h
      | some D =>
        obtain ⟨x, n⟩ := D
        rw [hD] at h
        simp only [Option.some.injEq, Prod.mk.injEq] at h
        obtain ⟨rfl, rfl⟩ := h
        obtain ⟨b1, b2, b3, b4, b5, b6⟩ := enc_decV l h256 hl q0 x n hD
        refine ⟨by simp [a1], ?_, ?_, ?_, by omega, b5, ?_⟩
        · intro y hy; rcases List.mem_append.1 hy with hy | hy
          · exact a2 y hy
          · rw [List.mem_singleton.1 hy]; exact b1
        · intro y hy; rcases List.mem_append.1 hy with hy | hy
          · exact a3 y hy
          · rw [List.mem_singleton.1 hy]; exact b2
        · intro y hy; rcases List.mem_append.1 hy with hy | hy
          · exact a4 y hy
          · rw [List.mem_singleton.1 hy]; exact b3
        · rw [encL_snoc, a7, b6]
          exact take_more l p q0 n (by omega) (by omega)

/-- May be a row? -/
def rowOk (l : List Vl) : Bool := decide (l.length ≤ 16) && l.all Vl.right

/-- What is written of a row: its bytes, the error. -/
def writeV (l : List Vl) : List Nat × Int :=
  if rowOk l = false then ([], 3) else if 8192 < 1 + (encL l).length then ([], 2) else (l.length :: encL l, 0)

/-- What is read of bytes: the row, the error. -/
def readV (l : List Nat) : List Vl × Int :=
  if 8192 < l.length then ([], 2)
  else if (getR l 0).2.2 ≠ 0 ∨ 16 < (getR l 0).1 then ([], 3)
  else match readN l (getR l 0).2.1.toNat (getR l 0).1 with
    | none => ([], 3)
    | some (acc, q) => if q ≠ l.length then ([], 3) else (acc, 0)

theorem rowOk_iff (l : List Vl) : rowOk l = true ↔ l.length ≤ 16 ∧ ∀ x ∈ l, x.right = true := by
  simp [rowOk]

theorem encV_lt (x : Vl) (hk : x.k < 256) : ∀ c ∈ encV x, c < 256 := by
  intro c hc
  unfold encV at hc
  split at hc
  · simp at hc; omega
  · split at hc
    · rcases List.mem_cons.1 hc with rfl | hc
      · omega
      · exact putL_byte _ c hc
    · rcases List.mem_cons.1 hc with rfl | hc
      · exact hk
      · rcases List.mem_append.1 hc with hc | hc
        · exact putL_byte _ c hc
        · exact bytesOf_lt _ c hc

theorem encL_lt (l : List Vl) (hk : ∀ x ∈ l, x.k < 256) : ∀ c ∈ encL l, c < 256 := by
  intro c hc
  obtain ⟨x, hx, hc⟩ := List.mem_flatMap.1 hc
  exact encV_lt x (hk x hx) c hc

/-- The first byte says how many values there are. -/
theorem first_byte (l : List Nat) (h256 : ∀ c ∈ l, c < 256) : (l = [] ∧ (getR l 0).2.2 ≠ 0) ∨
    (∃ c r, l = c :: r ∧ c ≤ 16 ∧ getR l 0 = (c, 1, 0)) ∨ (∃ c r, l = c :: r ∧ 16 < c ∧ ((getR l 0).2.2 ≠ 0 ∨ 16 < (getR l 0).1)) := by
  cases l with
  | nil => left; exact ⟨rfl, by decide⟩
  | cons c r =>
    right
    have hc := h256 c (by simp)
    by_cases h : c < 128
    · have hg : getR (c :: r) 0 = (c, 1, 0) := by
        unfold getR
        rw [if_neg (by simp; omega)]
        simp [getS, h]
      by_cases h16 : c ≤ 16
      · exact .inl ⟨c, r, rfl, h16, hg⟩
      · exact .inr ⟨c, r, rfl, by omega, .inr (by rw [hg]; simp only; omega)⟩
    · refine .inr ⟨c, r, rfl, by omega, ?_⟩
      obtain ⟨G, hG⟩ : ∃ G, getR (c :: r) 0 = G := ⟨_, rfl⟩
      obtain ⟨v, n, e⟩ := G
      by_cases he : e = 0
      · subst he
        obtain ⟨_, m, rfl, h3, h4, h5⟩ := getR_only (c :: r) h256 0 v n hG
        rw [hG]
        right
        by_cases hv : v < 128
        · rw [putL_small hv] at h5
          simp only [Int.toNat_zero, List.drop_zero, Nat.sub_zero] at h5
          obtain ⟨m', rfl⟩ : ∃ m', m = m' + 1 := ⟨m - 1, by omega⟩
          rw [List.take_succ_cons] at h5
          simp only [List.cons.injEq] at h5
          omega
        · simp only; omega
      · left; rw [hG]; exact he
end Go.Proofs.Ytmfdnphjhbbkiaa

/- Classes of code points. -/
set_option linter.unusedSimpArgs false
set_option linter.unusedVariables false
set_option maxRecDepth 100000
namespace Go.Proofs.Ytmfdnphjhbbkiaa
set_option linter.unusedSimpArgs false
open Go.RowKit

def classZ (v : Int) : Int :=
  if v = 32 ∨ v = 9 ∨ v = 10 ∨ v = 13 then 1
  else if (97 ≤ v ∧ v ≤ 122) ∨ (65 ≤ v ∧ v ≤ 90) ∨ v = 95 then 2
  else if 48 ≤ v ∧ v ≤ 57 then 3
  else if v = 39 then 4
  else if 33 ≤ v ∧ v ≤ 126 then 5
  else 0

theorem class_of (v k : Int) (h : (k = 1 ∧ (v = 32 ∨ v = 9 ∨ v = 10 ∨ v = 13)) ∨ (k = 2 ∧ ((97 ≤ v ∧ v ≤ 122) ∨ (65 ≤ v ∧ v ≤ 90) ∨ v = 95)) ∨ (k = 3 ∧ 48 ≤ v ∧ v ≤ 57) ∨ (k = 4 ∧ v = 39) ∨
    (k = 5 ∧ 33 ≤ v ∧ v ≤ 126 ∧ ¬ (97 ≤ v ∧ v ≤ 122) ∧ ¬ (65 ≤ v ∧ v ≤ 90) ∧ v ≠ 95 ∧ ¬ (48 ≤ v ∧ v ≤ 57) ∧ v ≠ 39) ∨ (k = 0 ∧ v ≠ 32 ∧ v ≠ 9 ∧ v ≠ 10 ∧ v ≠ 13 ∧ ¬ (33 ≤ v ∧ v ≤ 126))) : classZ v = k := by
  unfold classZ
  repeat' split
  all_goals omega

set_option maxRecDepth 100000 in
set_option maxHeartbeats 4000000 in
theorem Class_any (c : Int) (w : World) : Calls Try.prog 54 #[.int .i32 c] w fun e w' => e = .returned (.int .i64 (classZ c)) ∧ w = w' := by
  by_cases k9 : c = 9
  · subst k9
    go_enter Try.func54, Try.ntmps54
    go_wp2
    go_ret
    exact ⟨rfl, rfl⟩
  by_cases k10 : c = 10
  · subst k10
    go_enter Try.func54, Try.ntmps54
    go_wp2
    go_ret
    exact ⟨rfl, rfl⟩
  by_cases k13 : c = 13
  · subst k13
    go_enter Try.func54, Try.ntmps54
    go_wp2
    go_ret
    exact ⟨rfl, rfl⟩
  by_cases k32 : c = 32
  · subst k32
    go_enter Try.func54, Try.ntmps54
    go_wp2
    go_ret
    exact ⟨rfl, rfl⟩
  by_cases k39 : c = 39
  · subst k39
    go_enter Try.func54, Try.ntmps54
    go_wp2
    go_ret
    exact ⟨rfl, rfl⟩
  by_cases k95 : c = 95
  · subst k95
    go_enter Try.func54, Try.ntmps54
    go_wp2
    go_ret
    exact ⟨rfl, rfl⟩
  by_cases rx : c ≤ 8
  · have hcl : Hid (classZ c = 0) := class_of c 0 (by omega)
    have e32 : (c == 32) = false := by simp; omega
    have e9 : (c == 9) = false := by simp; omega
    have e10 : (c == 10) = false := by simp; omega
    have e13 : (c == 13) = false := by simp; omega
    have e95 : (c == 95) = false := by simp; omega
    have e39 : (c == 39) = false := by simp; omega
    have g97 : decide (97 ≤ c) = false := by simp; omega
    have l122 : decide (c ≤ 122) = true := by simp; omega
    have g65 : decide (65 ≤ c) = false := by simp; omega
    have l90 : decide (c ≤ 90) = true := by simp; omega
    have g48 : decide (48 ≤ c) = false := by simp; omega
    have l57 : decide (c ≤ 57) = true := by simp; omega
    have g33 : decide (33 ≤ c) = false := by simp; omega
    have l126 : decide (c ≤ 126) = true := by simp; omega
    clear k9 k10 k13 k32 k39 k95 rx
    go_enter Try.func54, Try.ntmps54
    go_wp2
    go_ret
    exact ⟨by rw [hcl.out]; rfl, rfl⟩
  by_cases r11 : 11 ≤ c ∧ c ≤ 12
  · have hcl : Hid (classZ c = 0) := class_of c 0 (by omega)
    have e32 : (c == 32) = false := by simp; omega
    have e9 : (c == 9) = false := by simp; omega
    have e10 : (c == 10) = false := by simp; omega
    have e13 : (c == 13) = false := by simp; omega
    have e95 : (c == 95) = false := by simp; omega
    have e39 : (c == 39) = false := by simp; omega
    have g97 : decide (97 ≤ c) = false := by simp; omega
    have l122 : decide (c ≤ 122) = true := by simp; omega
    have g65 : decide (65 ≤ c) = false := by simp; omega
    have l90 : decide (c ≤ 90) = true := by simp; omega
    have g48 : decide (48 ≤ c) = false := by simp; omega
    have l57 : decide (c ≤ 57) = true := by simp; omega
    have g33 : decide (33 ≤ c) = false := by simp; omega
    have l126 : decide (c ≤ 126) = true := by simp; omega
    clear k9 k10 k13 k32 k39 k95 r11 rx
    go_enter Try.func54, Try.ntmps54
    go_wp2
    go_ret
    exact ⟨by rw [hcl.out]; rfl, rfl⟩
  by_cases r14 : 14 ≤ c ∧ c ≤ 31
  · have hcl : Hid (classZ c = 0) := class_of c 0 (by omega)
    have e32 : (c == 32) = false := by simp; omega
    have e9 : (c == 9) = false := by simp; omega
    have e10 : (c == 10) = false := by simp; omega
    have e13 : (c == 13) = false := by simp; omega
    have e95 : (c == 95) = false := by simp; omega
    have e39 : (c == 39) = false := by simp; omega
    have g97 : decide (97 ≤ c) = false := by simp; omega
    have l122 : decide (c ≤ 122) = true := by simp; omega
    have g65 : decide (65 ≤ c) = false := by simp; omega
    have l90 : decide (c ≤ 90) = true := by simp; omega
    have g48 : decide (48 ≤ c) = false := by simp; omega
    have l57 : decide (c ≤ 57) = true := by simp; omega
    have g33 : decide (33 ≤ c) = false := by simp; omega
    have l126 : decide (c ≤ 126) = true := by simp; omega
    clear k9 k10 k13 k32 k39 k95 r14 rx r11
    go_enter Try.func54, Try.ntmps54
    go_wp2
    go_ret
    exact ⟨by rw [hcl.out]; rfl, rfl⟩
  by_cases r33 : 33 ≤ c ∧ c ≤ 38
  · have hcl : Hid (classZ c = 5) := class_of c 5 (by omega)
    have e32 : (c == 32) = false := by simp; omega
    have e9 : (c == 9) = false := by simp; omega
    have e10 : (c == 10) = false := by simp; omega
    have e13 : (c == 13) = false := by simp; omega
    have e95 : (c == 95) = false := by simp; omega
    have e39 : (c == 39) = false := by simp; omega
    have g97 : decide (97 ≤ c) = false := by simp; omega
    have l122 : decide (c ≤ 122) = true := by simp; omega
    have g65 : decide (65 ≤ c) = false := by simp; omega
    have l90 : decide (c ≤ 90) = true := by simp; omega
    have g48 : decide (48 ≤ c) = false := by simp; omega
    have l57 : decide (c ≤ 57) = true := by simp; omega
    have g33 : decide (33 ≤ c) = true := by simp; omega
    have l126 : decide (c ≤ 126) = true := by simp; omega
    clear k9 k10 k13 k32 k39 k95 r33 rx r11 r14
    go_enter Try.func54, Try.ntmps54
    go_wp2
    go_ret
    exact ⟨by rw [hcl.out]; rfl, rfl⟩
  by_cases r40 : 40 ≤ c ∧ c ≤ 47
  · have hcl : Hid (classZ c = 5) := class_of c 5 (by omega)
    have e32 : (c == 32) = false := by simp; omega
    have e9 : (c == 9) = false := by simp; omega
    have e10 : (c == 10) = false := by simp; omega
    have e13 : (c == 13) = false := by simp; omega
    have e95 : (c == 95) = false := by simp; omega
    have e39 : (c == 39) = false := by simp; omega
    have g97 : decide (97 ≤ c) = false := by simp; omega
    have l122 : decide (c ≤ 122) = true := by simp; omega
    have g65 : decide (65 ≤ c) = false := by simp; omega
    have l90 : decide (c ≤ 90) = true := by simp; omega
    have g48 : decide (48 ≤ c) = false := by simp; omega
    have l57 : decide (c ≤ 57) = true := by simp; omega
    have g33 : decide (33 ≤ c) = true := by simp; omega
    have l126 : decide (c ≤ 126) = true := by simp; omega
    clear k9 k10 k13 k32 k39 k95 r40 rx r11 r14 r33
    go_enter Try.func54, Try.ntmps54
    go_wp2
    go_ret
    exact ⟨by rw [hcl.out]; rfl, rfl⟩
  by_cases r48 : 48 ≤ c ∧ c ≤ 57
  · have hcl : Hid (classZ c = 3) := class_of c 3 (by omega)
    have e32 : (c == 32) = false := by simp; omega
    have e9 : (c == 9) = false := by simp; omega
    have e10 : (c == 10) = false := by simp; omega
    have e13 : (c == 13) = false := by simp; omega
    have e95 : (c == 95) = false := by simp; omega
    have e39 : (c == 39) = false := by simp; omega
    have g97 : decide (97 ≤ c) = false := by simp; omega
    have l122 : decide (c ≤ 122) = true := by simp; omega
    have g65 : decide (65 ≤ c) = false := by simp; omega
    have l90 : decide (c ≤ 90) = true := by simp; omega
    have g48 : decide (48 ≤ c) = true := by simp; omega
    have l57 : decide (c ≤ 57) = true := by simp; omega
    have g33 : decide (33 ≤ c) = true := by simp; omega
    have l126 : decide (c ≤ 126) = true := by simp; omega
    clear k9 k10 k13 k32 k39 k95 r48 rx r11 r14 r33 r40
    go_enter Try.func54, Try.ntmps54
    go_wp2
    go_ret
    exact ⟨by rw [hcl.out]; rfl, rfl⟩
  by_cases r58 : 58 ≤ c ∧ c ≤ 64
  · have hcl : Hid (classZ c = 5) := class_of c 5 (by omega)
    have e32 : (c == 32) = false := by simp; omega
    have e9 : (c == 9) = false := by simp; omega
    have e10 : (c == 10) = false := by simp; omega
    have e13 : (c == 13) = false := by simp; omega
    have e95 : (c == 95) = false := by simp; omega
    have e39 : (c == 39) = false := by simp; omega
    have g97 : decide (97 ≤ c) = false := by simp; omega
    have l122 : decide (c ≤ 122) = true := by simp; omega
    have g65 : decide (65 ≤ c) = false := by simp; omega
    have l90 : decide (c ≤ 90) = true := by simp; omega
    have g48 : decide (48 ≤ c) = true := by simp; omega
    have l57 : decide (c ≤ 57) = false := by simp; omega
    have g33 : decide (33 ≤ c) = true := by simp; omega
    have l126 : decide (c ≤ 126) = true := by simp; omega
    clear k9 k10 k13 k32 k39 k95 r58 rx r11 r14 r33 r40 r48
    go_enter Try.func54, Try.ntmps54
    go_wp2
    go_ret
    exact ⟨by rw [hcl.out]; rfl, rfl⟩
  by_cases r65 : 65 ≤ c ∧ c ≤ 90
  · have hcl : Hid (classZ c = 2) := class_of c 2 (by omega)
    have e32 : (c == 32) = false := by simp; omega
    have e9 : (c == 9) = false := by simp; omega
    have e10 : (c == 10) = false := by simp; omega
    have e13 : (c == 13) = false := by simp; omega
    have e95 : (c == 95) = false := by simp; omega
    have e39 : (c == 39) = false := by simp; omega
    have g97 : decide (97 ≤ c) = false := by simp; omega
    have l122 : decide (c ≤ 122) = true := by simp; omega
    have g65 : decide (65 ≤ c) = true := by simp; omega
    have l90 : decide (c ≤ 90) = true := by simp; omega
    have g48 : decide (48 ≤ c) = true := by simp; omega
    have l57 : decide (c ≤ 57) = false := by simp; omega
    have g33 : decide (33 ≤ c) = true := by simp; omega
    have l126 : decide (c ≤ 126) = true := by simp; omega
    clear k9 k10 k13 k32 k39 k95 r65 rx r11 r14 r33 r40 r48 r58
    go_enter Try.func54, Try.ntmps54
    go_wp2
    go_ret
    exact ⟨by rw [hcl.out]; rfl, rfl⟩
  by_cases r91 : 91 ≤ c ∧ c ≤ 94
  · have hcl : Hid (classZ c = 5) := class_of c 5 (by omega)
    have e32 : (c == 32) = false := by simp; omega
    have e9 : (c == 9) = false := by simp; omega
    have e10 : (c == 10) = false := by simp; omega
    have e13 : (c == 13) = false := by simp; omega
    have e95 : (c == 95) = false := by simp; omega
    have e39 : (c == 39) = false := by simp; omega
    have g97 : decide (97 ≤ c) = false := by simp; omega
    have l122 : decide (c ≤ 122) = true := by simp; omega
    have g65 : decide (65 ≤ c) = true := by simp; omega
    have l90 : decide (c ≤ 90) = false := by simp; omega
    have g48 : decide (48 ≤ c) = true := by simp; omega
    have l57 : decide (c ≤ 57) = false := by simp; omega
    have g33 : decide (33 ≤ c) = true := by simp; omega
    have l126 : decide (c ≤ 126) = true := by simp; omega
    clear k9 k10 k13 k32 k39 k95 r91 rx r11 r14 r33 r40 r48 r58 r65
    go_enter Try.func54, Try.ntmps54
    go_wp2
    go_ret
    exact ⟨by rw [hcl.out]; rfl, rfl⟩
  by_cases r96 : 96 ≤ c ∧ c ≤ 96
  · have hcl : Hid (classZ c = 5) := class_of c 5 (by omega)
    have e32 : (c == 32) = false := by simp; omega
    have e9 : (c == 9) = false := by simp; omega
    have e10 : (c == 10) = false := by simp; omega
    have e13 : (c == 13) = false := by simp; omega
    have e95 : (c == 95) = false := by simp; omega
    have e39 : (c == 39) = false := by simp; omega
    have g97 : decide (97 ≤ c) = false := by simp; omega
    have l122 : decide (c ≤ 122) = true := by simp; omega
    have g65 : decide (65 ≤ c) = true := by simp; omega
    have l90 : decide (c ≤ 90) = false := by simp; omega
    have g48 : decide (48 ≤ c) = true := by simp; omega
    have l57 : decide (c ≤ 57) = false := by simp; omega
    have g33 : decide (33 ≤ c) = true := by simp; omega
    have l126 : decide (c ≤ 126) = true := by simp; omega
    clear k9 k10 k13 k32 k39 k95 r96 rx r11 r14 r33 r40 r48 r58 r65 r91
    go_enter Try.func54, Try.ntmps54
    go_wp2
    go_ret
    exact ⟨by rw [hcl.out]; rfl, rfl⟩
  by_cases r97 : 97 ≤ c ∧ c ≤ 122
  · have hcl : Hid (classZ c = 2) := class_of c 2 (by omega)
    have e32 : (c == 32) = false := by simp; omega
    have e9 : (c == 9) = false := by simp; omega
    have e10 : (c == 10) = false := by simp; omega
    have e13 : (c == 13) = false := by simp; omega
    have e95 : (c == 95) = false := by simp; omega
    have e39 : (c == 39) = false := by simp; omega
    have g97 : decide (97 ≤ c) = true := by simp; omega
    have l122 : decide (c ≤ 122) = true := by simp; omega
    have g65 : decide (65 ≤ c) = true := by simp; omega
    have l90 : decide (c ≤ 90) = false := by simp; omega
    have g48 : decide (48 ≤ c) = true := by simp; omega
    have l57 : decide (c ≤ 57) = false := by simp; omega
    have g33 : decide (33 ≤ c) = true := by simp; omega
    have l126 : decide (c ≤ 126) = true := by simp; omega
    clear k9 k10 k13 k32 k39 k95 r97 rx r11 r14 r33 r40 r48 r58 r65 r91 r96
    go_enter Try.func54, Try.ntmps54
    go_wp2
    go_ret
    exact ⟨by rw [hcl.out]; rfl, rfl⟩
  by_cases r123 : 123 ≤ c ∧ c ≤ 126
  · have hcl : Hid (classZ c = 5) := class_of c 5 (by omega)
    have e32 : (c == 32) = false := by simp; omega
    have e9 : (c == 9) = false := by simp; omega
    have e10 : (c == 10) = false := by simp; omega
    have e13 : (c == 13) = false := by simp; omega
    have e95 : (c == 95) = false := by simp; omega
    have e39 : (c == 39) = false := by simp; omega
    have g97 : decide (97 ≤ c) = true := by simp; omega
    have l122 : decide (c ≤ 122) = false := by simp; omega
    have g65 : decide (65 ≤ c) = true := by simp; omega
    have l90 : decide (c ≤ 90) = false := by simp; omega
    have g48 : decide (48 ≤ c) = true := by simp; omega
    have l57 : decide (c ≤ 57) = false := by simp; omega
    have g33 : decide (33 ≤ c) = true := by simp; omega
    have l126 : decide (c ≤ 126) = true := by simp; omega
    clear k9 k10 k13 k32 k39 k95 r123 rx r11 r14 r33 r40 r48 r58 r65 r91 r96 r97
    go_enter Try.func54, Try.ntmps54
    go_wp2
    go_ret
    exact ⟨by rw [hcl.out]; rfl, rfl⟩
  by_cases r127 : 127 ≤ c
  · have hcl : Hid (classZ c = 0) := class_of c 0 (by omega)
    have e32 : (c == 32) = false := by simp; omega
    have e9 : (c == 9) = false := by simp; omega
    have e10 : (c == 10) = false := by simp; omega
    have e13 : (c == 13) = false := by simp; omega
    have e95 : (c == 95) = false := by simp; omega
    have e39 : (c == 39) = false := by simp; omega
    have g97 : decide (97 ≤ c) = true := by simp; omega
    have l122 : decide (c ≤ 122) = false := by simp; omega
    have g65 : decide (65 ≤ c) = true := by simp; omega
    have l90 : decide (c ≤ 90) = false := by simp; omega
    have g48 : decide (48 ≤ c) = true := by simp; omega
    have l57 : decide (c ≤ 57) = false := by simp; omega
    have g33 : decide (33 ≤ c) = true := by simp; omega
    have l126 : decide (c ≤ 126) = false := by simp; omega
    clear k9 k10 k13 k32 k39 k95 r127 rx r11 r14 r33 r40 r48 r58 r65 r91 r96 r97 r123
    go_enter Try.func54, Try.ntmps54
    go_wp2
    go_ret
    exact ⟨by rw [hcl.out]; rfl, rfl⟩
  exfalso; omega

end Go.Proofs.Ytmfdnphjhbbkiaa

/- Code points and their bytes: plain mathematics. -/
set_option linter.unusedSimpArgs false
set_option linter.unusedVariables false
set_option maxRecDepth 100000
namespace Go.Proofs.Ytmfdnphjhbbkiaa
open Go

/-- Is v a code point? -/
def okP (v : Nat) : Bool := decide (v < 55296) || (decide (57343 < v) && decide (v ≤ 1114111))

theorem okP_iff (v : Nat) : okP v = true ↔ (v < 55296 ∨ (57343 < v ∧ v ≤ 1114111)) := by
  simp [okP]

/-- The bytes of a code point. -/
def encP (v : Nat) : List Nat :=
  if v < 128 then [v] else if v < 2048 then [192 + v / 64, 128 + v % 64]
  else if v < 65536 then [224 + v / 4096, 128 + v / 64 % 64, 128 + v % 64]
  else [240 + v / 262144, 128 + v / 4096 % 64, 128 + v / 64 % 64, 128 + v % 64]

def encS (l : List Nat) : List Nat := l.flatMap encP

/-- What stands at the head of some bytes, as the model reads it. -/
def hd (l : List Nat) : Nat × Nat := Lib.decodeN l.length (l.getD 0 0) (l.getD 1 0) (l.getD 2 0) (l.getD 3 0)

/-- The code point at the head of some bytes. -/
def pt (l : List Nat) : Option (Nat × Nat) := if l = [] then none else if hd l = (65533, 1) then none else some (hd l)

def decF : Nat → List Nat → Option (List Nat)
  | 0, l => if l = [] then some [] else none
  | f + 1, l => if l = [] then some [] else match pt l with
    | none => none
    | some (v, n) => (decF f (l.drop n)).map (v :: ·)

/-- The code points of some bytes. -/
def decS (l : List Nat) : Option (List Nat) := decF l.length l

theorem encP_len (v : Nat) : 1 ≤ (encP v).length ∧ (encP v).length ≤ 4 := by
  unfold encP; split
  · simp
  · split
    · simp
    · split <;> simp

theorem encP_lt {v : Nat} (h : v ≤ 1114111) : ∀ c ∈ encP v, c < 256 := by
  intro c hc
  unfold encP at hc
  split at hc
  · simp at hc; omega
  · split at hc
    · simp at hc; omega
    · split at hc
      · simp at hc; omega
      · simp at hc; omega

theorem okP_le {v : Nat} (h : okP v = true) : v ≤ 1114111 := by rw [okP_iff] at h; omega

theorem pt_enc {v : Nat} (h : okP v = true) (B : List Nat) : pt (encP v ++ B) = some (v, (encP v).length) := by
  rw [okP_iff] at h
  have key : ∀ (L : List Nat), L ≠ [] → hd L = (v, (encP v).length) → ¬ (v = 65533 ∧ (encP v).length = 1) → pt L = some (v, (encP v).length) := by
    intro L h0 h1 h2
    unfold pt
    rw [if_neg h0, h1, if_neg (by intro h; simp only [Prod.mk.injEq] at h; exact h2 h)]
  unfold encP at key ⊢
  by_cases h1 : v < 128
  · simp only [if_pos h1] at key ⊢
    refine key _ (by simp) ?_ (by simp; omega)
    simp [hd, Lib.decodeN, h1]
  · simp only [if_neg h1] at key ⊢
    by_cases h2 : v < 2048
    · simp only [if_pos h2] at key ⊢
      refine key _ (by simp) ?_ (by simp)
      simp only [hd, Lib.decodeN, List.length_append, List.length_cons, List.length_nil, List.cons_append, List.nil_append, List.getD_cons_zero, List.getD_cons_succ]
      rw [if_neg (by omega), if_pos (by omega), if_pos (by omega)]
      congr 1; omega
    · simp only [if_neg h2] at key ⊢
      by_cases h3 : v < 65536
      · simp only [if_pos h3] at key ⊢
        refine key _ (by simp) ?_ (by simp)
        simp only [hd, Lib.decodeN, List.length_append, List.length_cons, List.length_nil, List.cons_append, List.nil_append, List.getD_cons_zero, List.getD_cons_succ]
        rw [if_neg (by omega), if_neg (by omega), if_pos (by omega), if_pos (by omega)]
        congr 1; omega
      · simp only [if_neg h3] at key ⊢
        refine key _ (by simp) ?_ (by simp)
        simp only [hd, Lib.decodeN, List.length_append, List.length_cons, List.length_nil, List.cons_append, List.nil_append, List.getD_cons_zero, List.getD_cons_succ]
        rw [if_neg (by omega), if_neg (by omega), if_neg (by omega), if_pos (by omega), if_pos (by omega)]
        congr 1; omega

theorem take1 : ∀ l : List Nat, 0 < l.length → l.take 1 = [l.getD 0 0]
  | _ :: _, _ => by simp
theorem take2 : ∀ l : List Nat, 1 < l.length → l.take 2 = [l.getD 0 0, l.getD 1 0]
  | [_], h => by simp at h
  | _ :: _ :: _, _ => by simp
theorem take3 : ∀ l : List Nat, 2 < l.length → l.take 3 = [l.getD 0 0, l.getD 1 0, l.getD 2 0]
  | [_], h => by simp at h
  | [_, _], h => by simp at h
  | _ :: _ :: _ :: _, _ => by simp
theorem take4 : ∀ l : List Nat, 3 < l.length → l.take 4 = [l.getD 0 0, l.getD 1 0, l.getD 2 0, l.getD 3 0]
  | [_], h => by simp at h
  | [_, _], h => by simp at h
  | [_, _, _], h => by simp at h
  | _ :: _ :: _ :: _ :: _, _ => by simp

theorem getD_lt (l : List Nat) (h : ∀ c ∈ l, c < 256) (i : Nat) : l.getD i 0 < 256 := by
  rw [List.getD_eq_getElem?_getD]
  cases hi : l[i]? with
  | none => simp
  | some c => exact h c (List.mem_of_getElem? hi)

theorem hd_pos (l : List Nat) : 1 ≤ (hd l).2 := by
  unfold hd
  rcases Lib.decodeN_shape l.length (l.getD 0 0) (l.getD 1 0) (l.getD 2 0) (l.getD 3 0) with ⟨c, e⟩ | ⟨c1, c2, c3, cv, e⟩ | ⟨c1, c2, c3, c4, cv, cs, e⟩ | ⟨c1, c2, c3, c4, c5, cv, cw, e⟩ | e <;> rw [e] <;> simp

theorem hd_le (l : List Nat) : (hd l).1 ≤ 1114111 ∨ 128 ≤ (hd l).1 := by
  unfold hd
  rcases Lib.decodeN_shape l.length (l.getD 0 0) (l.getD 1 0) (l.getD 2 0) (l.getD 3 0) with ⟨c, e⟩ | ⟨c1, c2, c3, cv, e⟩ | ⟨c1, c2, c3, c4, cv, cs, e⟩ | ⟨c1, c2, c3, c4, c5, cv, cw, e⟩ | e <;> rw [e] <;> dsimp only <;> omega

theorem pt_some {l : List Nat} (h256 : ∀ c ∈ l, c < 256) {v n : Nat} (h : pt l = some (v, n)) : okP v = true ∧ l.take n = encP v ∧ n = (encP v).length ∧ n ≤ l.length ∧ 1 ≤ n ∧ hd l = (v, n) := by
  unfold pt at h
  split at h
  · simp at h
  · rename_i hne
    split at h
    · simp at h
    · rename_i hb
      simp only [Option.some.injEq] at h
      have hl : 0 < l.length := List.length_pos_iff.2 hne
      have k0 := getD_lt l h256 0
      have k1 := getD_lt l h256 1
      have k2 := getD_lt l h256 2
      have k3 := getD_lt l h256 3
      have hH := h
      unfold hd at h hb
      rcases Lib.decodeN_shape l.length (l.getD 0 0) (l.getD 1 0) (l.getD 2 0) (l.getD 3 0) with ⟨c, e⟩ | ⟨c1, c2, c3, cv, e⟩ | ⟨c1, c2, c3, c4, cv, cs, e⟩ | ⟨c1, c2, c3, c4, c5, cv, cw, e⟩ | e
      · rw [e] at h
        simp only [Prod.mk.injEq] at h
        obtain ⟨rfl, rfl⟩ := h
        refine ⟨(okP_iff _).2 (by omega), ?_, ?_, by omega, by omega, hH⟩
        · rw [take1 l hl]; unfold encP; rw [if_pos c]
        · unfold encP; rw [if_pos c]; rfl
      · rw [e] at h
        simp only [Prod.mk.injEq] at h
        obtain ⟨rfl, rfl⟩ := h
        refine ⟨(okP_iff _).2 (by omega), ?_, ?_, by omega, by omega, hH⟩
        · rw [take2 l c2]; unfold encP; rw [if_neg (by omega), if_pos (by omega)]
          congr 1; · omega
          congr 1; omega
        · unfold encP; rw [if_neg (by omega), if_pos (by omega)]; rfl
      · rw [e] at h
        simp only [Prod.mk.injEq] at h
        obtain ⟨rfl, rfl⟩ := h
        refine ⟨(okP_iff _).2 (by omega), ?_, ?_, by omega, by omega, hH⟩
        · rw [take3 l c2]; unfold encP; rw [if_neg (by omega), if_neg (by omega), if_pos (by omega)]
          congr 1; · omega
          congr 1; · omega
          congr 1; omega
        · unfold encP; rw [if_neg (by omega), if_neg (by omega), if_pos (by omega)]; rfl
      · rw [e] at h
        simp only [Prod.mk.injEq] at h
        obtain ⟨rfl, rfl⟩ := h
        refine ⟨(okP_iff _).2 (by omega), ?_, ?_, by omega, by omega, hH⟩
        · rw [take4 l c2]; unfold encP; rw [if_neg (by omega), if_neg (by omega), if_neg (by omega)]
          congr 1; · omega
          congr 1; · omega
          congr 1; · omega
          congr 1; omega
        · unfold encP; rw [if_neg (by omega), if_neg (by omega), if_neg (by omega)]; rfl
      · exact absurd e hb

theorem decF_nil (f : Nat) : decF f [] = some [] := by cases f <;> simp [decF]

theorem decF_enc : ∀ (p : List Nat) (f : Nat), (∀ v ∈ p, okP v = true) → (encS p).length ≤ f → decF f (encS p) = some p
  | [], f, _, _ => by simp [encS, decF_nil]
  | v :: p, f, h, hf => by
    have hl := encP_len v
    have e : encS (v :: p) = encP v ++ encS p := rfl
    rw [e, List.length_append] at hf
    obtain ⟨f', rfl⟩ : ∃ f', f = f' + 1 := ⟨f - 1, by omega⟩
    have hne : encP v ++ encS p ≠ [] := by intro h; have := congrArg List.length h; rw [List.length_append] at this; simp only [List.length_nil] at this; omega
    rw [e]
    unfold decF
    rw [if_neg hne, pt_enc (h v (by simp))]
    simp only
    rw [List.drop_left, decF_enc p f' (fun x hx => h x (by simp [hx])) (by omega)]
    rfl

theorem enc_decF : ∀ (f : Nat) (l p : List Nat), (∀ c ∈ l, c < 256) → decF f l = some p → (∀ v ∈ p, okP v = true) ∧ encS p = l
  | 0, l, p, _, h => by
    unfold decF at h
    split at h
    · rename_i hl; simp at h; subst h; subst hl; simp [encS]
    · simp at h
  | f + 1, l, p, h256, h => by
    unfold decF at h
    split at h
    · rename_i hl; simp at h; subst h; subst hl; simp [encS]
    · cases hp : pt l with
      | none => rw [hp] at h; simp at h
      | some x =>
        obtain ⟨v, n⟩ := x
        rw [hp] at h
        simp only [Option.map_eq_some_iff] at h
        obtain ⟨q, hq, rfl⟩ := h
        obtain ⟨h1, h2, h3, h4, h5, _⟩ := pt_some h256 hp
        obtain ⟨h6, h7⟩ := enc_decF f (l.drop n) q (fun c hc => h256 c (List.mem_of_mem_drop hc)) hq
        refine ⟨?_, ?_⟩
        · intro x hx
          rcases List.mem_cons.1 hx with rfl | hx
          · exact h1
          · exact h6 x hx
        · show encP v ++ encS q = l
          rw [h7, ← h2, List.take_append_drop]

/-- The code points of some bytes: the one list of code points that has them. -/
theorem decS_iff {l : List Nat} (h256 : ∀ c ∈ l, c < 256) (p : List Nat) : decS l = some p ↔ ((∀ v ∈ p, okP v = true) ∧ encS p = l) := by
  constructor
  · exact enc_decF _ _ _ h256
  · rintro ⟨h1, rfl⟩
    exact decF_enc p _ h1 (Nat.le_refl _)

theorem encS_lt {p : List Nat} (h : ∀ v ∈ p, okP v = true) : ∀ c ∈ encS p, c < 256 := by
  intro c hc
  obtain ⟨v, hv, hc⟩ := List.mem_flatMap.1 hc
  exact encP_lt (okP_le (h v hv)) c hc

theorem decS_encS {p : List Nat} (h : ∀ v ∈ p, okP v = true) : decS (encS p) = some p := (decS_iff (encS_lt h) p).2 ⟨h, rfl⟩

theorem encS_append (p q : List Nat) : encS (p ++ q) = encS p ++ encS q := by simp [encS]
theorem encS_cons (v : Nat) (p : List Nat) : encS (v :: p) = encP v ++ encS p := rfl
theorem encS_nil : encS [] = [] := rfl

theorem decS_append {a b p q : List Nat} (ha : ∀ c ∈ a, c < 256) (hb : ∀ c ∈ b, c < 256) (h1 : decS a = some p) (h2 : decS b = some q) : decS (a ++ b) = some (p ++ q) := by
  obtain ⟨h3, h4⟩ := (decS_iff ha p).1 h1
  obtain ⟨h5, h6⟩ := (decS_iff hb q).1 h2
  refine (decS_iff (fun c hc => (List.mem_append.1 hc).elim (ha c) (hb c)) _).2 ⟨fun v hv => (List.mem_append.1 hv).elim (h3 v) (h5 v), ?_⟩
  rw [encS_append, h4, h6]

theorem encS_len (p : List Nat) : p.length ≤ (encS p).length ∧ (encS p).length ≤ 4 * p.length := by
  induction p with
  | nil => simp [encS]
  | cons v p ih => rw [encS_cons, List.length_append, List.length_cons]; have := encP_len v; omega

/-- The step of a reader: a code point is there. -/
theorem decS_step {l p : List Nat} (h256 : ∀ c ∈ l, c < 256) (h : decS l = some p) (hne : l ≠ []) : ∃ v n q, pt l = some (v, n) ∧ p = v :: q ∧ decS (l.drop n) = some q ∧ hd l = (v, n) ∧ 1 ≤ n ∧ n ≤ l.length ∧ okP v = true ∧ n = (encP v).length := by
  obtain ⟨h1, h2⟩ := (decS_iff h256 p).1 h
  cases p with
  | nil => exact absurd h2.symm hne
  | cons v q =>
    have hv := h1 v (by simp)
    have hp : pt l = some (v, (encP v).length) := by rw [← h2, encS_cons]; exact pt_enc hv _
    obtain ⟨_, _, _, g4, g5, g6⟩ := pt_some h256 hp
    refine ⟨v, _, q, hp, rfl, ?_, g6, g5, g4, hv, rfl⟩
    rw [← h2, encS_cons, List.drop_left]
    exact decS_encS fun x hx => h1 x (by simp [hx])

theorem decS_nil : decS [] = some [] := rfl

/-- .. and none is there. -/
theorem decS_bad {l : List Nat} (h256 : ∀ c ∈ l, c < 256) (hne : l ≠ []) (h : pt l = none) : decS l = none := by
  cases hd : decS l with
  | none => rfl
  | some p =>
    obtain ⟨v, n, q, h1, _⟩ := decS_step h256 hd hne
    rw [h] at h1; simp at h1

theorem decS_go {l : List Nat} (h256 : ∀ c ∈ l, c < 256) {v n : Nat} (h : pt l = some (v, n)) : decS l = (decS (l.drop n)).map (v :: ·) := by
  obtain ⟨h1, h2, h3, h4, h5, _⟩ := pt_some h256 h
  have hd256 : ∀ c ∈ l.drop n, c < 256 := fun c hc => h256 c (List.mem_of_mem_drop hc)
  have hne : l ≠ [] := by intro e; subst e; simp at h4; omega
  cases hq : decS (l.drop n) with
  | some q =>
    obtain ⟨h6, h7⟩ := (decS_iff hd256 q).1 hq
    refine (decS_iff h256 _).2 ⟨?_, ?_⟩
    · intro x hx
      rcases List.mem_cons.1 hx with rfl | hx
      · exact h1
      · exact h6 x hx
    · show encP v ++ encS q = l
      rw [h7, ← h2, List.take_append_drop]
  | none =>
    cases hp : decS l with
    | none => rfl
    | some p =>
      obtain ⟨v', n', q', g1, _, g3, _⟩ := decS_step h256 hp hne
      rw [h] at g1
      simp only [Option.some.injEq, Prod.mk.injEq] at g1
      obtain ⟨rfl, rfl⟩ := g1
      rw [hq] at g3; simp at g3

/-- The code points ahead of a place, where what stands there begins one. -/
theorem decS_split {l p : List Nat} (h256 : ∀ c ∈ l, c < 256) (h : decS l = some p) (i : Nat) (hi : i ≤ p.length) : decS (l.drop (encS (p.take i)).length) = some (p.drop i) ∧ (encS (p.take i)).length ≤ l.length := by
  obtain ⟨h1, h2⟩ := (decS_iff h256 p).1 h
  have e : l = encS (p.take i) ++ encS (p.drop i) := by rw [← encS_append, List.take_append_drop, h2]
  refine ⟨?_, by rw [e, List.length_append]; omega⟩
  rw [e, List.drop_left]
  exact decS_encS fun x hx => h1 x (List.mem_of_mem_drop hx)
end Go.Proofs.Ytmfdnphjhbbkiaa

/- The model's decoder and the code points. -/
set_option linter.unusedSimpArgs false
set_option linter.unusedVariables false
set_option maxRecDepth 100000
namespace Go.Proofs.Ytmfdnphjhbbkiaa
open Go

def bytesU (s : ByteArray) : List Nat := s.data.toList.map UInt8.toNat

theorem bytesU_len (s : ByteArray) : (bytesU s).length = s.size := by simp [bytesU]
theorem bytesU_lt (s : ByteArray) : ∀ c ∈ bytesU s, c < 256 := by
  intro c hc
  obtain ⟨u, _, rfl⟩ := List.mem_map.1 hc
  exact u.toNat_lt
theorem map_lt (l : List UInt8) : ∀ c ∈ l.map UInt8.toNat, c < 256 := by
  intro c hc
  obtain ⟨u, _, rfl⟩ := List.mem_map.1 hc
  exact u.toNat_lt

theorem getD_map (l : List UInt8) (i : Nat) : (l.map UInt8.toNat).getD i 0 = (l.getD i 0).toNat := by
  rw [List.getD_eq_getElem?_getD, List.getD_eq_getElem?_getD, List.getElem?_map]
  cases l[i]? <;> rfl

theorem decodeL_hd (l : List UInt8) : Lib.decodeL l = hd (l.map UInt8.toNat) := by
  rw [Lib.decodeL_N]
  unfold hd
  rw [getD_map, getD_map, getD_map, getD_map, List.length_map]

theorem valid_dec : ∀ (n : Nat) (l : List UInt8), l.length ≤ n → Lib.validD l = (decS (l.map UInt8.toNat)).isSome
  | 0, l, h => by
    have : l = [] := List.eq_nil_of_length_eq_zero (by omega)
    subst this
    rw [Lib.validD_nil]; rfl
  | n + 1, l, h => by
    by_cases hne : l = []
    · subst hne; rw [Lib.validD_nil]; rfl
    · have hne2 : l.map UInt8.toNat ≠ [] := by simpa using hne
      have hl : 0 < l.length := List.length_pos_iff.2 hne
      rw [Lib.validD_step l hne, decodeL_hd]
      cases hp : pt (l.map UInt8.toNat) with
      | none =>
        rw [decS_bad (map_lt l) hne2 hp]
        have : hd (l.map UInt8.toNat) = (65533, 1) := by
          unfold pt at hp
          rw [if_neg hne2] at hp
          by_cases h : hd (l.map UInt8.toNat) = (65533, 1)
          · exact h
          · rw [if_neg h] at hp; simp at hp
        rw [this]; simp
      | some x =>
        obtain ⟨v, k⟩ := x
        rw [decS_go (map_lt l) hp]
        obtain ⟨_, _, _, h4, h5, h6⟩ := pt_some (map_lt l) hp
        have hb : ¬ ((hd (l.map UInt8.toNat)).1 = 65533 ∧ (hd (l.map UInt8.toNat)).2 = 1) := by
          intro hh
          unfold pt at hp
          rw [if_neg hne2, if_pos (Prod.ext hh.1 hh.2)] at hp
          simp at hp
        rw [if_neg hb, h6]
        dsimp only
        rw [valid_dec n (l.drop k) (by rw [List.length_drop]; omega), Option.isSome_map, List.map_drop]

theorem valid_bytes (s : ByteArray) : Lib.validD s.data.toList = (decS (bytesU s)).isSome := valid_dec _ _ (Nat.le_refl _)

theorem get_bytes (s : ByteArray) (i : Nat) : (s.get! i).toNat = (bytesU s).getD i 0 := by
  unfold bytesU
  rw [getD_map, List.getD_eq_getElem?_getD]
  congr 1
  show s.data[i]! = _
  rw [getElem!_def]
  simp only [Array.getElem?_toList]
  cases s.data[i]? <;> rfl

theorem decode_hd (s : ByteArray) (i : Nat) : Utf8.decode s i = hd ((bytesU s).drop i) := by
  rw [Lib.decode_at]
  unfold hd
  have hg : ∀ j, ((bytesU s).drop i).getD j 0 = (bytesU s).getD (i + j) 0 := fun j => by
    rw [List.getD_eq_getElem?_getD, List.getD_eq_getElem?_getD, List.getElem?_drop]
  rw [hg, hg, hg, hg, get_bytes, get_bytes, get_bytes, get_bytes, List.length_drop, bytesU_len]
  rfl
end Go.Proofs.Ytmfdnphjhbbkiaa
