/- Several texts of one proof, one behind the other. -/
import Derived.Test.YtapbhhehnbfdfaaWPk13
set_option linter.unusedSimpArgs false
set_option linter.unusedVariables false

/- The walk of hindsightlaw03.Great. -/
set_option linter.unusedSimpArgs false
set_option linter.unusedVariables false
set_option maxRecDepth 100000
namespace Go.Proofs.Ytapbhhehnbfdfaa
open Go.RowKit

/-- The sizes of the texts together. -/
def sumS (l : List Vl) : Nat := (l.map fun x => x.s.size).sum
theorem sumS_take (l : List Vl) (k : Nat) (h : k < l.length) : sumS (l.take (k + 1)) = sumS (l.take k) + l[k].s.size := by
  unfold sumS; rw [List.take_succ_eq_append_getElem h, List.map_append, List.sum_append]; simp only [List.map_cons, List.map_nil, List.sum_cons, List.sum_nil]; omega

/-- A row that a statement isn't too much for. -/
def Small (l : List Vl) : Prop := l.length ≤ 40 ∧ (∀ x ∈ l, x.s.size ≤ 9000) ∧ sumS l ≤ 30000

def RetG (w : World) (l : List Vl) (e : Ending) (w' : World) : Prop := ∃ g : Bool, e = .returned (.bool g) ∧ (g = false → Small l) ∧ w = w'

end Go.Proofs.Ytapbhhehnbfdfaa

/- The walks of record.isRow and what it calls. -/
set_option linter.unusedSimpArgs false
set_option linter.unusedVariables false
set_option maxRecDepth 100000
namespace Go.Proofs.Ytapbhhehnbfdfaa
open Go.RowKit

/-- Where the first one is that isn't valid: -1 if there is none. -/
def RetIx (w : World) (l : List Vl) (e : Ending) (w' : World) : Prop := ∃ r : Int, e = .returned (.int .i64 r) ∧ (decide (0 ≤ r) = !(l.all Vl.right)) ∧ -1 ≤ r ∧ Below w.heap.size w w'

theorem all_take (l : List Vl) (k : Nat) (h : k < l.length) : (l.take (k + 1)).all Vl.right = ((l.take k).all Vl.right && l[k].right) := by
  rw [List.take_succ_eq_append_getElem h, List.all_append]; simp only [List.all_cons, List.all_nil, Bool.and_true]

theorem all_false (l : List Vl) (k : Nat) (h : k < l.length) (hk : l[k].right = false) : l.all Vl.right = false := by
  rw [List.all_eq_false]
  exact ⟨l[k], List.getElem_mem h, by simp [hk]⟩

end Go.Proofs.Ytapbhhehnbfdfaa

/- The walks of key.isTuple and what it calls. -/
set_option linter.unusedSimpArgs false
set_option linter.unusedVariables false
set_option maxRecDepth 100000
namespace Go.Proofs.Ytapbhhehnbfdfaa
open Go.RowKit

end Go.Proofs.Ytapbhhehnbfdfaa

/- The walks of record.encode and record.Write. -/
set_option linter.unusedSimpArgs false
set_option linter.unusedVariables false
set_option maxRecDepth 100000
namespace Go.Proofs.Ytapbhhehnbfdfaa
open Go.RowKit

theorem encV_ne (x : Vl) : encV x ≠ [] := by
  unfold encV; split
  · simp
  · split <;> simp

theorem textL_ne (s : ByteArray) : textL s ≠ [] := by
  intro h
  have := congrArg List.length h
  have := putL_pos s.size
  unfold textL at *
  rw [List.length_append] at *
  simp only [List.length_nil] at *
  omega

end Go.Proofs.Ytapbhhehnbfdfaa

/- The walk of record.Write; record.Right. -/
set_option linter.unusedSimpArgs false
set_option linter.unusedVariables false
set_option maxRecDepth 100000
namespace Go.Proofs.Ytapbhhehnbfdfaa
open Go.RowKit

theorem encV_len (x : Vl) (hs : x.s.size ≤ 8192) (hf : x.fair) : (encV x).length ≤ 8300 := by
  have h1 := putL_len10 (zigN_lt x.n hf.2.1.1 hf.2.1.2)
  have h2 := putL_len10 (show x.s.size < 18446744073709551616 by omega)
  unfold encV
  split
  · simp
  · split
    · simp only [List.length_cons]; omega
    · simp only [List.length_cons, textL, List.length_append, bytesOf_len]; omega

theorem encL_len (l : List Vl) (hs : ∀ x ∈ l, x.s.size ≤ 8192) (hf : ∀ x ∈ l, x.fair) : (encL l).length ≤ l.length * 8300 := by
  induction l with
  | nil => simp [encL]
  | cons x r ih =>
    have h1 := ih (fun y hy => hs y (by simp [hy])) (fun y hy => hf y (by simp [hy]))
    have h2 := encV_len x (hs x (by simp)) (hf x (by simp))
    have e : encL (x :: r) = encV x ++ encL r := rfl
    rw [e, List.length_append, List.length_cons]
    omega

/-- A text that is too long makes the row too long. -/
theorem encL_great (l : List Vl) (x : Vl) (hx : x ∈ l) (hr : x.right = true) (hs : 8192 < x.s.size) : 8192 < (encL l).length := by
  have h1 : x.s.size ≤ (encV x).length := by
    rcases right_kind hr with h | h | ⟨hk, h⟩
    · rw [h] at hs; simp [ByteArray.size] at hs
    · rw [h] at hs; simp [ByteArray.size] at hs
    · unfold encV
      rw [if_neg (by omega), if_neg (by omega)]
      simp only [List.length_cons, textL, List.length_append, bytesOf_len]; omega
  have h2 : (encV x).length ≤ (encL l).length := by
    obtain ⟨a, b, rfl⟩ := List.append_of_mem hx
    unfold encL
    rw [List.flatMap_append, List.flatMap_cons]
    simp only [List.length_append]; omega
  omega

theorem writeV_bad {l : List Vl} (h : rowOk l = false) : writeV l = ([], 3) := by unfold writeV; rw [if_pos h]
theorem writeV_long {l : List Vl} (h : rowOk l = true) (h2 : 8192 < 1 + (encL l).length) : writeV l = ([], 2) := by
  unfold writeV; rw [if_neg (by rw [h]; simp), if_pos h2]
theorem writeV_good {l : List Vl} (h : rowOk l = true) (h2 : ¬ 8192 < 1 + (encL l).length) : writeV l = (l.length :: encL l, 0) := by
  unfold writeV; rw [if_neg (by rw [h]; simp), if_neg h2]

theorem take_fair {l : List Vl} (k : Nat) {p : Vl → Prop} (h : ∀ x ∈ l, p x) : ∀ x ∈ l.take k, p x := fun x hx => h x (List.mem_of_mem_take hx)

end Go.Proofs.Ytapbhhehnbfdfaa
