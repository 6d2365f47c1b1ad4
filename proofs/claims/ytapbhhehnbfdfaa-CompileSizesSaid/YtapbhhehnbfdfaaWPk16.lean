/- Several texts of one proof, one behind the other. -/
import Derived.Test.YtapbhhehnbfdfaaWPk15
set_option linter.unusedSimpArgs false
set_option linter.unusedVariables false

/- The walks of key.encode and key.Write. -/
set_option linter.unusedSimpArgs false
set_option linter.unusedVariables false
set_option maxRecDepth 100000
namespace Go.Proofs.Ytapbhhehnbfdfaa
open Go.RowKit

theorem Bs.arrK (w : World) (T : TypeId) (l : List Nat) (h256 : ∀ c ∈ l, c < 256) : Bs (w.heap.size + 1) (w.alloc (.cells (l.map fun (c : Nat) => Value.int .u8 (c : Int)).toArray T)) (some ⟨w.heap.size, 0, none⟩) l :=
  Bs.new w l h256 _ T (by intro i c hi; simp [hi])

theorem esc_ne (s : ByteArray) : escL (bytesOf s) ++ [0, 1] ≠ [] := by simp

theorem encK_len (x : Vl) (hs : x.s.size ≤ 100) : (encK x).length ≤ 300 := by
  have h := escL_len (bytesOf x.s)
  rw [bytesOf_len] at h
  unfold encK
  split
  · simp
  · split
    · simp [whole8]
    · simp only [List.length_cons, List.length_append, List.length_nil]; omega

theorem keyL_len (l : List Vl) (hs : ∀ x ∈ l, x.s.size ≤ 100) : (keyL l).length ≤ l.length * 300 := by
  induction l with
  | nil => simp [keyL]
  | cons x r ih =>
    have h1 := ih (fun y hy => hs y (by simp [hy]))
    have h2 := encK_len x (hs x (by simp))
    rw [keyL_cons, List.length_append, List.length_cons]
    omega

theorem escL_ge (l : List Nat) : l.length ≤ (escL l).length := by
  induction l with
  | nil => simp
  | cons c r ih =>
    by_cases hc : c = 0
    · subst hc; rw [escL_cons0]; simp; omega
    · rw [escL_cons hc]; simp; omega

theorem keyL_great (l : List Vl) (x : Vl) (hx : x ∈ l) (hr : x.right = true) (hs : 100 < x.s.size) : 100 < (keyL l).length := by
  have h1 : x.s.size ≤ (encK x).length := by
    rcases right_kind hr with h | h | ⟨hk, h⟩
    · rw [h] at hs; simp [ByteArray.size] at hs
    · rw [h] at hs; simp [ByteArray.size] at hs
    · have := escL_ge (bytesOf x.s)
      rw [bytesOf_len] at this
      unfold encK
      rw [if_neg (by omega), if_neg (by omega)]
      simp only [List.length_cons, List.length_append]; omega
  have h2 : (encK x).length ≤ (keyL l).length := by
    obtain ⟨a, b, rfl⟩ := List.append_of_mem hx
    unfold keyL
    rw [List.flatMap_append, List.flatMap_cons]
    simp only [List.length_append]; omega
  omega

theorem writeK_bad {l : List Vl} (h : rowOk l = false) : writeK l = ([], 3) := by unfold writeK; rw [if_pos h]
theorem writeK_long {l : List Vl} (h : rowOk l = true) (h2 : 100 < (keyL l).length) : writeK l = ([], 2) := by
  unfold writeK; rw [if_neg (by rw [h]; simp), if_pos h2]
theorem writeK_good {l : List Vl} (h : rowOk l = true) (h2 : ¬ 100 < (keyL l).length) : writeK l = (keyL l, 0) := by
  unfold writeK; rw [if_neg (by rw [h]; simp), if_neg h2]

theorem encK_ne (x : Vl) : encK x ≠ [] := by intro h; have := encK_pos x; rw [h] at this; simp at this

end Go.Proofs.Ytapbhhehnbfdfaa

/- The walk of key.unescape. -/
set_option linter.unusedSimpArgs false
set_option linter.unusedVariables false
set_option maxRecDepth 100000
namespace Go.Proofs.Ytapbhhehnbfdfaa
open Go.RowKit

/-- A string, the bytes of its marked form, and whether there is one. -/
def RetU (w : World) (o : Option (List Nat × Nat)) (e : Ending) (w' : World) : Prop :=
  Below w.heap.size w w' ∧ ((o = none ∧ ∃ s : ByteArray, e = .returned (.tuple #[.string s, .int .i64 0, .bool false])) ∨ ∃ (s : List Nat) (m : Nat), o = some (s, m) ∧ e = .returned (.tuple #[.string (strN s), .int .i64 (m : Int), .bool true]))

/-- What is still to be read, behind a mark or not. -/
def unLeft (D : List Nat) (k : Nat) : Bool → List Nat
  | true => 0 :: D.drop k
  | false => D.drop k
def unOff (k : Nat) : Bool → Nat
  | true => k - 1
  | false => k
def unInv (D : List Nat) (k : Nat) (mark : Bool) (A : List Nat) : Prop := (mark = true → 0 < k) ∧ (∀ c ∈ A, c < 256) ∧ unesc D = (unesc (unLeft D k mark)).map (fun p => (A ++ p.1, p.2 + unOff k mark))

theorem un_end {D A : List Nat} {k : Nat} {mark : Bool} (h : unInv D k mark A) (hk : D.length ≤ k) : unesc D = none := by
  rw [h.2.2]
  cases mark
  · show (unesc (D.drop k)).map _ = none
    rw [List.drop_of_length_le hk]; rfl
  · show (unesc (0 :: D.drop k)).map _ = none
    rw [List.drop_of_length_le hk]; rfl

theorem un_done {D A : List Nat} {k : Nat} (h : unInv D k true A) (hk : k < D.length) (hc : D[k] = 1) : unesc D = some (A, k + 1) := by
  have h0 := h.1 rfl
  rw [h.2.2]
  show (unesc (0 :: D.drop k)).map (fun p => (A ++ p.1, p.2 + (k - 1))) = _
  rw [List.drop_eq_getElem_cons hk, hc, unesc_zero, if_pos rfl]
  simp; omega

theorem un_bad {D A : List Nat} {k : Nat} (h : unInv D k true A) (hk : k < D.length) (hc : D[k] ≠ 1) (hc2 : D[k] ≠ 255) : unesc D = none := by
  rw [h.2.2]
  show (unesc (0 :: D.drop k)).map _ = _
  rw [List.drop_eq_getElem_cons hk, unesc_zero, if_neg hc, if_neg hc2]; rfl

theorem un_mark {D A : List Nat} {k : Nat} (h : unInv D k true A) (hk : k < D.length) (hc : D[k] = 255) : unInv D (k + 1) false (A ++ [0]) := by
  have h0 := h.1 rfl
  refine ⟨by simp, ?_, ?_⟩
  · intro c hc; rcases List.mem_append.1 hc with hc | hc
    · exact h.2.1 c hc
    · rw [List.mem_singleton.1 hc]; omega
  · rw [h.2.2]
    show (unesc (0 :: D.drop k)).map (fun p => (A ++ p.1, p.2 + (k - 1))) = (unesc (D.drop (k + 1))).map (fun p => (A ++ [0] ++ p.1, p.2 + (k + 1)))
    rw [List.drop_eq_getElem_cons hk, hc, unesc_zero, if_neg (by omega), if_pos rfl]
    cases unesc (D.drop (k + 1)) with
    | none => rfl
    | some p => simp; omega

theorem un_zero {D A : List Nat} {k : Nat} (h : unInv D k false A) (hk : k < D.length) (hc : D[k] = 0) : unInv D (k + 1) true A := by
  refine ⟨by simp, h.2.1, ?_⟩
  rw [h.2.2]
  show (unesc (D.drop k)).map _ = (unesc (0 :: D.drop (k + 1))).map (fun p => (A ++ p.1, p.2 + (k + 1 - 1)))
  rw [List.drop_eq_getElem_cons hk, hc]
  rfl

theorem un_plain {D A : List Nat} {k : Nat} (h : unInv D k false A) (hk : k < D.length) (hc : D[k] ≠ 0) (h256 : D[k] < 256) : unInv D (k + 1) false (A ++ [D[k]]) := by
  refine ⟨by simp, ?_, ?_⟩
  · intro c hc; rcases List.mem_append.1 hc with hc | hc
    · exact h.2.1 c hc
    · rw [List.mem_singleton.1 hc]; exact h256
  · rw [h.2.2]
    show (unesc (D.drop k)).map (fun p => (A ++ p.1, p.2 + k)) = (unesc (D.drop (k + 1))).map (fun p => (A ++ [D[k]] ++ p.1, p.2 + (k + 1)))
    rw [List.drop_eq_getElem_cons hk, unesc_cons hc]
    cases unesc (D.drop (k + 1)) with
    | none => rfl
    | some p => simp; omega

end Go.Proofs.Ytapbhhehnbfdfaa

/- The walk of the reference's Write of rows. -/
set_option linter.unusedSimpArgs false
set_option linter.unusedVariables false
set_option maxRecDepth 100000
namespace Go.Proofs.Ytapbhhehnbfdfaa
open Go.RowKit

theorem encL_take_le (l : List Vl) (k : Nat) : (encL (l.take k)).length ≤ (encL l).length := by
  conv => rhs; rw [← List.take_append_drop k l]
  unfold encL
  rw [List.flatMap_append, List.length_append]; omega

/-- A length of at most five bytes' bytes. -/
theorem encV_len2 (x : Vl) (hs : x.s.size ≤ 1000000) (hf : x.fair) : (encV x).length ≤ 1000020 := by
  have h1 := putL_len10 (zigN_lt x.n hf.2.1.1 hf.2.1.2)
  have h2 := putL_len10 (show x.s.size < 18446744073709551616 by omega)
  unfold encV
  split
  · simp
  · split
    · simp only [List.length_cons]; omega
    · simp only [List.length_cons, textL, List.length_append, bytesOf_len]; omega

end Go.Proofs.Ytapbhhehnbfdfaa

/- The walks of record.decode and the reference's one. -/
set_option linter.unusedSimpArgs false
set_option linter.unusedVariables false
set_option maxRecDepth 100000
namespace Go.Proofs.Ytapbhhehnbfdfaa
open Go.RowKit

theorem slots2_here (w : World) (T : TypeId) (a0 a1 a2 b0 b1 b2 : Value) : Slot ((w.alloc (.cells #[a0, a1, a2] T)).alloc (.cells #[b0, b1, b2] T)) w.heap.size a0 a1 a2 ∧ Slot ((w.alloc (.cells #[a0, a1, a2] T)).alloc (.cells #[b0, b1, b2] T)) (w.heap.size + 1) b0 b1 b2 := by
  obtain ⟨h1, h2, _⟩ := slots2 w T a0 a1 a2 b0 b1 b2 ((w.alloc (.cells #[a0, a1, a2] T)).alloc (.cells #[b0, b1, b2] T)) (Later.refl _)
  exact ⟨h1, h2⟩

/-- What a value that begins at an index is answered as. -/
def RetD (w : World) (o : Option (Vl × Nat)) (e : Ending) (w' : World) : Prop :=
  Below w.heap.size w w' ∧ ((o = none ∧ ∃ (k n : Int) (s : ByteArray) (m : Int), e = .returned (.tuple #[.agg #[.int .u8 k, .int .i64 n, .string s], .int .i64 m, .bool false])) ∨
    ∃ (x : Vl) (n : Nat), o = some (x, n) ∧ e = .returned (.tuple #[.agg #[.int .u8 x.k, .int .i64 x.n, .string x.s], .int .i64 (n : Int), .bool true]))

theorem RetD.no {w w' : World} {o : Option (Vl × Nat)} (h : o = none) (hb : Below w.heap.size w w') (k n : Int) (s : ByteArray) (m : Int) : RetD w o (.returned (.tuple #[.agg #[.int .u8 k, .int .i64 n, .string s], .int .i64 m, .bool false])) w' :=
  ⟨hb, .inl ⟨h, k, n, s, m, rfl⟩⟩
theorem RetD.yes {w w' : World} {o : Option (Vl × Nat)} {k : Nat} {n : Int} {s : ByteArray} {m : Nat} (h : o = some (⟨k, n, s⟩, m)) (hb : Below w.heap.size w w') : RetD w o (.returned (.tuple #[.agg #[.int .u8 (k : Int), .int .i64 n, .string s], .int .i64 (m : Int), .bool true])) w' :=
  ⟨hb, .inr ⟨_, _, h, rfl⟩⟩

theorem decV_at {l : List Nat} {p k : Nat} (h : l[p]? = some k) : decV l p =
    if k = 0 then some (⟨0, 0, ⟨#[]⟩⟩, p + 1)
    else if k = 1 then (if (getR l ((p + 1 : Nat) : Int)).2.2 = 0 then some (⟨1, zagZ (getR l ((p + 1 : Nat) : Int)).1, ⟨#[]⟩⟩, (getR l ((p + 1 : Nat) : Int)).2.1.toNat) else none)
    else if k = 2 ∨ k = 3 then (if (textR l ((p + 1 : Nat) : Int)).2.2 = 0 then some (⟨k, 0, (textR l ((p + 1 : Nat) : Int)).1⟩, (textR l ((p + 1 : Nat) : Int)).2.1.toNat) else none)
    else none := by
  unfold decV; rw [h]

theorem textR_nat (l : List Nat) (h256 : ∀ c ∈ l, c < 256) (p : Nat) (s : ByteArray) (n : Int) (q : Nat) (h : textR l (p : Nat) = (s, n, q)) : ∃ m : Nat, n = m ∧ m ≤ l.length := by
  by_cases hq : q = 0
  · subst hq
    obtain ⟨m, h1, h2, h3, _⟩ := textR_only l h256 p s n h
    exact ⟨m, h1, h3⟩
  · unfold textR at h
    simp only [] at h
    split at h
    · simp only [Prod.mk.injEq] at h; exact ⟨0, by omega, by omega⟩
    · split at h
      · simp only [Prod.mk.injEq] at h; exact ⟨0, by omega, by omega⟩
      · simp only [Prod.mk.injEq] at h; omega

end Go.Proofs.Ytapbhhehnbfdfaa

/- The walk of key.decode. -/
set_option linter.unusedSimpArgs false
set_option linter.unusedVariables false
set_option maxRecDepth 100000
namespace Go.Proofs.Ytapbhhehnbfdfaa
open Go.RowKit

end Go.Proofs.Ytapbhhehnbfdfaa
