/- Several texts of one proof, one behind the other. -/
import Derived.Test.YtapbhhehnbfdfaaWPk5
import Derived.Lib.Hide
set_option linter.unusedSimpArgs false
set_option linter.unusedVariables false

/- The walk of cell.Right. -/
set_option linter.unusedSimpArgs false
set_option linter.unusedVariables false
set_option maxRecDepth 100000
namespace Go.Proofs.Ytapbhhehnbfdfaa
open Go.RowKit

/-- A boxed value is there in every later world. -/
theorem box_later (w : World) (T : TypeId) (v0 v1 v2 : Value) : ∀ W, Later (w.alloc (.cells #[v0, v1, v2] T)) W →
    W.cell? ⟨w.heap.size, 0, none⟩ = some v0 ∧ W.cell? ⟨w.heap.size, 1, none⟩ = some v1 ∧ W.cell? ⟨w.heap.size, 2, none⟩ = some v2 := by
  intro W h
  have hs : (w.alloc (.cells #[v0, v1, v2] T)).heap.size = w.heap.size + 1 := by simp
  refine ⟨?_, ?_, ?_⟩
  · rw [h.cell (p := ⟨w.heap.size, 0, none⟩) (by rw [hs]; simp), World.cell?_alloc_new]; rfl
  · rw [h.cell (p := ⟨w.heap.size, 1, none⟩) (by rw [hs]; simp), World.cell?_alloc_new]; rfl
  · rw [h.cell (p := ⟨w.heap.size, 2, none⟩) (by rw [hs]; simp), World.cell?_alloc_new]; rfl

theorem Later.undrew {w W : World} (h : Later w.drew W) : Later w W := (Below.refl _ _).drew.trans h

/-- What holds in every later world goes on holding. -/
theorem later_next {w w1 : World} {p : World → Prop} (h : ∀ W, Later w W → p W) (hl : Later w w1) : ∀ W, Later w1 W → p W := fun W hW => h W (hl.trans hW)

theorem right_any (k : Nat) (n : Int) (s : ByteArray) (w : World) : Calls Try.prog 45 #[.agg #[.int .u8 k, .int .i64 n, .string s]] w fun e w' => e = .returned (.bool (Vl.right ⟨k, n, s⟩)) ∧ Below w.heap.size w w' := by
  have hbx := fun W h => box_later w 23 (.int .u8 k) (.int .i64 n) (.string s) W (Later.undrew h)
  rcases kinds k with rfl | rfl | rfl | rfl | hk
  · have hc0 := fun W h => (hbx W h).1
    have hc1 := fun W h => (hbx W h).2.1
    have hc2 := fun W h => (hbx W h).2.2
    clear hbx
    go_enter Try.func45, Try.ntmps45
    go_wp2_with fail
    refine wp_region_ord [(0, true), (1, false), (2, true), (3, true)] (by kernel_rfl) (by kernel_rfl) (by kernel_rfl) (by kernel_rfl) ?_
    repeat (first | (refine wpO_F (v := ?_) rfl (by rfl) (fun w' hL => ?_) ?_; rotate_left; (solve | (go_simp; with_reducible rfl) | go_simp); try simp only [Act.put, List.setIfInBounds_toArray, List.set_cons_zero, List.set_cons_succ]) | (refine wpO_G rfl (by rfl) ?_; try simp only [Act.put, List.setIfInBounds_toArray, List.set_cons_zero, List.set_cons_succ]))
    refine wpO_C rfl (by rfl) ?_
    go_simp
    refine (null_any _).mono ?_
    rintro e w1 ⟨rfl, hb1⟩
    refine ⟨hb1, ?_⟩
    try simp only [Act.put, List.setIfInBounds_toArray, List.set_cons_zero, List.set_cons_succ]
    repeat (first | (refine wpO_F (v := ?_) rfl (by rfl) (fun w' hL => ?_) ?_; rotate_left; (solve | (go_simp; with_reducible rfl) | go_simp); try simp only [Act.put, List.setIfInBounds_toArray, List.set_cons_zero, List.set_cons_succ]) | (refine wpO_G rfl (by rfl) ?_; try simp only [Act.put, List.setIfInBounds_toArray, List.set_cons_zero, List.set_cons_succ]))
    refine wpO_nil ?_
    go_wp2
    go_ret
    exact ⟨ret_b (by rw [isEmpty_size, Bool.eq_iff_iff]; simp [Vl.right]), (Below.box _ _).drew.trans (hb1.mono (by simp))⟩
  · have hc0 := fun W h => (hbx W h).1
    have hc1 := fun W h => (hbx W h).2.1
    have hc2 := fun W h => (hbx W h).2.2
    clear hbx
    go_enter Try.func45, Try.ntmps45
    go_wp2_with fail
    refine wp_region_ord [(0, true), (1, true), (2, true), (3, false), (4, true), (5, true)] (by kernel_rfl) (by kernel_rfl) (by kernel_rfl) (by kernel_rfl) ?_
    repeat (first | (refine wpO_F (v := ?_) rfl (by rfl) (fun w' hL => ?_) ?_; rotate_left; (solve | (go_simp; with_reducible rfl) | go_simp); try simp only [Act.put, List.setIfInBounds_toArray, List.set_cons_zero, List.set_cons_succ]) | (refine wpO_G rfl (by rfl) ?_; try simp only [Act.put, List.setIfInBounds_toArray, List.set_cons_zero, List.set_cons_succ]))
    refine wpO_C rfl (by rfl) ?_
    go_simp
    refine (whole_any n _).mono ?_
    rintro e w1 ⟨rfl, hb1⟩
    refine ⟨hb1, ?_⟩
    try simp only [Act.put, List.setIfInBounds_toArray, List.set_cons_zero, List.set_cons_succ]
    repeat (first | (refine wpO_F (v := ?_) rfl (by rfl) (fun w' hL => ?_) ?_; rotate_left; (solve | (go_simp; with_reducible rfl) | go_simp); try simp only [Act.put, List.setIfInBounds_toArray, List.set_cons_zero, List.set_cons_succ]) | (refine wpO_G rfl (by rfl) ?_; try simp only [Act.put, List.setIfInBounds_toArray, List.set_cons_zero, List.set_cons_succ]))
    refine wpO_nil ?_
    go_wp2
    go_ret
    exact ⟨ret_b (by rw [isEmpty_size, Bool.eq_iff_iff]; simp [Vl.right]), (Below.box _ _).drew.trans (hb1.mono (by simp))⟩
  all_goals clear hbx
  · go_enter Try.func45, Try.ntmps45
    go_wp2
    go_ret
    exact ⟨ret_b (by rw [Bool.eq_iff_iff]; simp [Vl.right]), Below.box _ _⟩
  · go_enter Try.func45, Try.ntmps45
    go_wp2
    go_ret
    exact ⟨ret_b (by rw [Bool.eq_iff_iff]; simp [Vl.right]), Below.box _ _⟩
  · have e0 : ((k : Int) == 0) = false := by simp; omega
    have e1 : ((k : Int) == 1) = false := by simp; omega
    have e2 : ((k : Int) == 2) = false := by simp; omega
    have e3 : ((k : Int) == 3) = false := by simp; omega
    go_enter Try.func45, Try.ntmps45
    go_wp2
    go_ret
    exact ⟨ret_b (by rw [right_big _ _ hk]), Below.box _ _⟩
end Go.Proofs.Ytapbhhehnbfdfaa

/- The walks of Reserved, isBinary, isAggregate. -/
set_option linter.unusedSimpArgs false
set_option linter.unusedVariables false
set_option maxRecDepth 100000
namespace Go.Proofs.Ytapbhhehnbfdfaa
open Go.RowKit

end Go.Proofs.Ytapbhhehnbfdfaa

/- The walks of cell.add, sub, mul, div, mod: int64s. -/
set_option linter.unusedSimpArgs false
set_option linter.unusedVariables false
set_option maxRecDepth 100000
namespace Go.Proofs.Ytapbhhehnbfdfaa
open Go.RowKit

theorem fits_yes {n : Int} (h1 : -9223372036854775808 ≤ n) (h2 : n ≤ 9223372036854775807) : fits n = true := (fits_iff n).2 ⟨h1, h2⟩
theorem fits_no {n : Int} (h : n < -9223372036854775808 ∨ 9223372036854775807 < n) : fits n = false := by
  cases hf : fits n with
  | false => rfl
  | true => have := (fits_iff n).1 hf; omega

theorem div_fits (x y : Int) (hx1 : -9223372036854775808 ≤ x) (hx2 : x ≤ 9223372036854775807) (hy : y ≠ 0) (h : ¬ (x = -9223372036854775808 ∧ y = -1)) : -9223372036854775808 ≤ x.tdiv y ∧ x.tdiv y ≤ 9223372036854775807 := by
  have h1 : (x.tdiv y).natAbs = x.natAbs / y.natAbs := Int.natAbs_tdiv x y
  by_cases hy1 : y = -1
  · subst hy1
    rw [Int.tdiv_neg, Int.tdiv_one]; omega
  · by_cases hy2 : y = 1
    · subst hy2; rw [Int.tdiv_one]; omega
    · have : x.natAbs / y.natAbs ≤ x.natAbs / 2 := Nat.div_le_div_left (by omega) (by omega)
      omega

theorem mod_fits (x y : Int) (hx1 : -9223372036854775808 ≤ x) (hx2 : x ≤ 9223372036854775807) : -9223372036854775808 ≤ x.tmod y ∧ x.tmod y ≤ 9223372036854775807 := by
  have h1 : (x.tmod y).natAbs = x.natAbs % y.natAbs := Int.natAbs_tmod x y
  have h2 : x.natAbs % y.natAbs ≤ x.natAbs := Nat.mod_le _ _
  have h3 : 0 ≤ x → 0 ≤ x.tmod y := fun h => Int.tmod_nonneg y h
  by_cases h : 0 ≤ x
  · have := h3 h; omega
  · have h4 : x.tmod y = -((-x).tmod y) := by rw [Int.neg_tmod]; simp
    have h5 := Int.tmod_nonneg y (show 0 ≤ -x by omega)
    omega

end Go.Proofs.Ytapbhhehnbfdfaa

/- The walks of cell.arith at its five operations. -/
set_option linter.unusedSimpArgs false
set_option linter.unusedVariables false
set_option maxRecDepth 100000
namespace Go.Proofs.Ytapbhhehnbfdfaa
open Go.RowKit

/-- A variable of three cells, which may be written. -/
def Slot (w : World) (b : Nat) (v0 v1 v2 : Value) : Prop :=
  w.cell? ⟨b, 0, none⟩ = some v0 ∧ w.cell? ⟨b, 1, none⟩ = some v1 ∧ w.cell? ⟨b, 2, none⟩ = some v2 ∧ w.frozen? ⟨b, 0, none⟩ = false ∧ w.frozen? ⟨b, 1, none⟩ = false ∧ w.frozen? ⟨b, 2, none⟩ = false

theorem Slot.later {w w' : World} {b : Nat} {v0 v1 v2 : Value} (h : Slot w b v0 v1 v2) (hl : Later w w') (hb : b < w.heap.size) : Slot w' b v0 v1 v2 := by
  obtain ⟨h0, h1, h2, f0, f1, f2⟩ := h
  exact ⟨(hl.cell (p := ⟨b, 0, none⟩) hb).trans h0, (hl.cell (p := ⟨b, 1, none⟩) hb).trans h1, (hl.cell (p := ⟨b, 2, none⟩) hb).trans h2,
    (hl.frozen (p := ⟨b, 0, none⟩) hb).trans f0, (hl.frozen (p := ⟨b, 1, none⟩) hb).trans f1, (hl.frozen (p := ⟨b, 2, none⟩) hb).trans f2⟩

theorem Slot.new (w : World) (T : TypeId) (v0 v1 v2 : Value) : Slot (w.alloc (.cells #[v0, v1, v2] T)) w.heap.size v0 v1 v2 := by
  refine ⟨?_, ?_, ?_, ?_, ?_, ?_⟩
  · rw [World.cell?_alloc_new]; rfl
  · rw [World.cell?_alloc_new]; rfl
  · rw [World.cell?_alloc_new]; rfl
  · simp only [World.frozen?]; rw [heap_alloc_new]; simp
  · simp only [World.frozen?]; rw [heap_alloc_new]; simp
  · simp only [World.frozen?]; rw [heap_alloc_new]; simp

/-- Three variables, one behind the other. -/
theorem slots3 (w : World) (T : TypeId) (a0 a1 a2 b0 b1 b2 c0 c1 c2 : Value) (w' : World) (hl : Later (((w.alloc (.cells #[a0, a1, a2] T)).alloc (.cells #[b0, b1, b2] T)).alloc (.cells #[c0, c1, c2] T)) w') :
    Slot w' w.heap.size a0 a1 a2 ∧ Slot w' (w.heap.size + 1) b0 b1 b2 ∧ Slot w' (w.heap.size + 1 + 1) c0 c1 c2 ∧ w.heap.size + 3 ≤ w'.heap.size := by
  have e1 : (w.alloc (.cells #[a0, a1, a2] T)).heap.size = w.heap.size + 1 := by simp
  have e2 : ((w.alloc (.cells #[a0, a1, a2] T)).alloc (.cells #[b0, b1, b2] T)).heap.size = w.heap.size + 1 + 1 := by simp
  have e3 : (((w.alloc (.cells #[a0, a1, a2] T)).alloc (.cells #[b0, b1, b2] T)).alloc (.cells #[c0, c1, c2] T)).heap.size = w.heap.size + 1 + 1 + 1 := by simp
  have l1 : Later (w.alloc (.cells #[a0, a1, a2] T)) ((w.alloc (.cells #[a0, a1, a2] T)).alloc (.cells #[b0, b1, b2] T)) := (Below.refl _ _).alloc (Nat.le_refl _) _
  have l2 : Later ((w.alloc (.cells #[a0, a1, a2] T)).alloc (.cells #[b0, b1, b2] T)) (((w.alloc (.cells #[a0, a1, a2] T)).alloc (.cells #[b0, b1, b2] T)).alloc (.cells #[c0, c1, c2] T)) := (Below.refl _ _).alloc (Nat.le_refl _) _
  refine ⟨(((Slot.new w T a0 a1 a2).later l1 (by rw [e1]; omega)).later l2 (by rw [e2]; omega)).later hl (by rw [e3]; omega), ?_, ?_, ?_⟩
  · have := (Slot.new (w.alloc (.cells #[a0, a1, a2] T)) T b0 b1 b2)
    rw [e1] at this
    exact (this.later l2 (by rw [e2]; omega)).later hl (by rw [e3]; omega)
  · have := (Slot.new ((w.alloc (.cells #[a0, a1, a2] T)).alloc (.cells #[b0, b1, b2] T)) T c0 c1 c2)
    rw [e2] at this
    exact this.later hl (by rw [e3]; omega)
  · have := hl.size
    rw [e3] at this; omega

/-- A call hands back a value and an error. -/
def RetV (w : World) (r : Vl × Int) (e : Ending) (w' : World) : Prop :=
  e = .returned (.tuple #[.agg #[.int .u8 r.1.k, .int .i64 r.1.n, .string r.1.s], .int .i64 r.2]) ∧ Below w.heap.size w w'

theorem right_null {n : Int} {s : ByteArray} (h : Vl.right ⟨0, n, s⟩ = true) : n = 0 ∧ s = ⟨#[]⟩ := by
  simp [Vl.right] at h
  exact ⟨h.1, h.2⟩
theorem right_num {n : Int} {s : ByteArray} (h : Vl.right ⟨1, n, s⟩ = true) : s = ⟨#[]⟩ := by
  simp [Vl.right] at h
  exact h

end Go.Proofs.Ytapbhhehnbfdfaa

/- The walks of cell.arith where an argument is null. -/
set_option linter.unusedSimpArgs false
set_option linter.unusedVariables false
set_option maxRecDepth 100000
namespace Go.Proofs.Ytapbhhehnbfdfaa
open Go.RowKit

theorem right_n : Vl.right ⟨0, 0, ⟨#[]⟩⟩ = true := by decide
theorem right_i (n : Int) : Vl.right ⟨1, n, ⟨#[]⟩⟩ = true := by simp [Vl.right]; rfl
theorem num0 : decide (0 ≤ 1) = true := by decide
theorem num1 : decide (1 ≤ 1) = true := by decide

theorem right_cases0 (x : Vl) (h : x.right = true) (hk : x.k ≤ 1) : x = ⟨0, 0, ⟨#[]⟩⟩ ∨ x = ⟨1, x.n, ⟨#[]⟩⟩ := by
  obtain ⟨k, n, s⟩ := x
  rcases kinds k with rfl | rfl | rfl | rfl | h3
  · obtain ⟨rfl, rfl⟩ := right_null h; exact .inl rfl
  · have := right_num h; subst this; exact .inr rfl
  · simp only at hk; omega
  · simp only at hk; omega
  · simp only at hk; omega

end Go.Proofs.Ytapbhhehnbfdfaa
