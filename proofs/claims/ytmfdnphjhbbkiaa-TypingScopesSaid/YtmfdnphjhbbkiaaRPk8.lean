/- Several texts of one proof, one behind the other. -/
import Derived.Test.YtmfdnphjhbbkiaaRPk7
import Derived.Lib.ConvBytes
import Derived.Laws.CopyRow
import Derived.Laws.CopyOwn
set_option linter.unusedSimpArgs false
set_option linter.unusedVariables false

/- The walk of key.escape. -/
set_option linter.unusedSimpArgs false
set_option linter.unusedVariables false
set_option maxRecDepth 100000
namespace Go.Proofs.Ytmfdnphjhbbkiaa
open Go.RowKit

theorem escL_take (l : List Nat) (k : Nat) (h : k < l.length) : escL (l.take (k + 1)) = escL (l.take k) ++ (if l[k] = 0 then [0, 255] else [l[k]]) := by
  unfold escL; rw [List.take_succ_eq_append_getElem h, List.flatMap_append]; simp [List.flatMap_cons]

theorem escL_len (l : List Nat) : (escL l).length ≤ 2 * l.length := by
  induction l with
  | nil => simp [escL]
  | cons c r ih =>
    by_cases h : c = 0
    · subst h; rw [escL_cons0]; simp; omega
    · rw [escL_cons h]; simp; omega

theorem OwnB.base {w : World} {b b' : Nat} {T : TypeId} {v : Value} {l : List Nat} (h : OwnB w b T v l) (hb : b' ≤ b) : OwnB w b' T v l := by
  obtain ⟨h0, h1, h2⟩ := h
  refine ⟨h0, h1, ?_⟩
  rcases h2 with h2 | ⟨g, c, cur, hv, hg, rest⟩
  · exact .inl h2
  · exact .inr ⟨g, c, cur, hv, by omega, rest⟩

/-- '[]byte(s)': the bytes of s in a block of their own. -/
theorem conv_bytes (s : ByteArray) (w : World) : ∃ W1 cap, (convert 9 29 (.string s)).run Try.prog w = .ok (.slice (some ⟨w.heap.size, 0, none⟩) s.size cap) W1 ∧ Below w.heap.size w W1 ∧ W1.heap.size = w.heap.size + 1 ∧
    ∀ (j : Nat) (h : j < (bytesOf s).length), W1.cell? ⟨w.heap.size, j, none⟩ = some (.int .u8 ((bytesOf s)[j] : Int)) := by
  refine ⟨_, _, Lib.run_convert_string_bytes w 9 29 5 s Try.underlying9 Try.underlying29 Try.underlying5, ⟨rfl, rfl, rfl, ?_, fun k hk => Lib.bytesWorld_at_old w _ s k hk⟩, Lib.bytesWorld_size w _ s, ?_⟩
  · rw [Lib.bytesWorld_size]; omega
  · intro j hj
    have hj2 : j < s.size := by rw [bytesOf_len] at hj; exact hj
    rw [Lib.bytesWorld_cell w _ s j hj2]
    have : (bytesOf s)[j] = (s.data.toList.getD j 0).toNat := by
      simp only [bytesOf, List.getElem_map]
      congr 1
      have hj3 : j < s.data.toList.length := by simpa using hj2
      rw [List.getD_eq_getElem?_getD, List.getElem?_eq_getElem hj3]; rfl
    rw [this]

end Go.Proofs.Ytmfdnphjhbbkiaa

/- The walks of key.whole and key.readWhole. -/
set_option linter.unusedSimpArgs false
set_option linter.unusedVariables false
set_option maxRecDepth 100000
namespace Go.Proofs.Ytmfdnphjhbbkiaa
open Go.RowKit

/-- Byte j of eight, the greatest first. -/
def byteJ (u : Nat) : Nat → Nat
  | 0 => u / 72057594037927936 % 256
  | 1 => u / 281474976710656 % 256
  | 2 => u / 1099511627776 % 256
  | 3 => u / 4294967296 % 256
  | 4 => u / 16777216 % 256
  | 5 => u / 65536 % 256
  | 6 => u / 256 % 256
  | _ => u % 256

/-- An array of eight bytes, of which the first k are those of u. -/
def ArrW (w : World) (B u k : Nat) : Prop := ∀ j, j < 8 → w.cell? ⟨B, j, none⟩ = some (.int .u8 (((if j < k then byteJ u j else 0) : Nat) : Int)) ∧ w.frozen? ⟨B, j, none⟩ = false

theorem ArrW.set {w : World} {B u k : Nat} (h : ArrW w B u k) (hk : k < 8) (v : Int) (hv : v = (byteJ u k : Int)) : ArrW (w.setCell ⟨B, k, none⟩ (.int .u8 v)) B u (k + 1) := by
  subst hv
  intro j hj
  obtain ⟨h1, h2⟩ := h j hj
  refine ⟨?_, by rw [World.frozen?_setCell]; exact h2⟩
  by_cases hjk : j = k
  · subst hjk
    rw [World.cell?_setCell_same _ _ _ h1, if_pos (by omega)]
  · rw [World.cell?_setCell_other _ _ _ _ (by simp [Ne.symm hjk]), h1]
    by_cases hlt : j < k
    · rw [if_pos hlt, if_pos (by omega)]
    · rw [if_neg hlt, if_neg (by omega)]

theorem byteJ_lt (u j : Nat) : byteJ u j < 256 := by
  unfold byteJ; split <;> omega

set_option maxRecDepth 100000 in
theorem xor128 (c : Nat) (h : c < 256) : bits .xor .u8 (c : Int) 128 = (((c + 128) % 256 : Nat) : Int) := by
  have e : ∀ c : Nat, c < 256 → c ^^^ 128 = (c + 128) % 256 := by decide
  rw [← e c h]
  exact u8_xor_nat c 128 h (by omega)

/-- The bytes of an integer: those of the number as it is, the first with its sign turned over. -/
theorem up_bytes (n : Int) (h1 : -9223372036854775808 ≤ n) (h2 : n ≤ 9223372036854775807) (u : Nat) (hu : u = (n % 18446744073709551616).toNat) :
    whole8 (up64 n) = [(byteJ u 0 + 128) % 256, byteJ u 1, byteJ u 2, byteJ u 3, byteJ u 4, byteJ u 5, byteJ u 6, byteJ u 7] := by
  subst hu
  simp only [whole8, up64, byteJ, List.cons.injEq, and_true]
  omega

def aggB (l : List Nat) : Value := .agg (l.map fun (c : Nat) => Value.int .u8 (c : Int)).toArray

end Go.Proofs.Ytmfdnphjhbbkiaa

/- For key.readWhole and fixed.ReadWhole: 'copy(a[:], b)', an array by index. -/
set_option linter.unusedSimpArgs false
set_option linter.unusedVariables false
set_option maxRecDepth 100000
namespace Go.Proofs.Ytmfdnphjhbbkiaa
open Go.RowKit

/-- The cells of an array of eight bytes. -/
def Arr8 (w : World) (B : Nat) (l : List Nat) : Prop := l.length = 8 ∧ (∀ c ∈ l, c < 256) ∧ ∀ j (h : j < l.length), w.cell? ⟨B, j, none⟩ = some (.int .u8 (l[j] : Int)) ∧ w.frozen? ⟨B, j, none⟩ = false

/-- 'n<<8 | c'. -/
theorem orB (V c : Nat) (hV : V < 72057594037927936) (hc : c < 256) : bits .or .u64 ((V : Int) * 256) (c : Int) = ((V * 256 + c : Nat) : Int) := by
  have := u64_or_nat (V * 256) c (by omega) (by omega)
  rw [nat_join 8 (V * 256) c (by omega) (by omega)] at this
  rw [Int.natCast_mul] at this
  exact this

end Go.Proofs.Ytmfdnphjhbbkiaa

/- The walks of fixed.Whole and fixed.ReadWhole: an integer in eight bytes that have its order. -/
set_option linter.unusedSimpArgs false
set_option linter.unusedVariables false
set_option maxRecDepth 100000
namespace Go.Proofs.Ytmfdnphjhbbkiaa
open Go.RowKit

/-- An integer of eight bytes, the greatest first, the first with its sign turned over. -/
def rdW (l : List Nat) : Int := (unB l : Int) - 9223372036854775808

end Go.Proofs.Ytmfdnphjhbbkiaa

/- The walk of key.readWhole. -/
set_option linter.unusedSimpArgs false
set_option linter.unusedVariables false
set_option maxRecDepth 100000
namespace Go.Proofs.Ytmfdnphjhbbkiaa
open Go.RowKit

end Go.Proofs.Ytmfdnphjhbbkiaa

/- The walks of key.encode and key.Write. -/
set_option linter.unusedSimpArgs false
set_option linter.unusedVariables false
set_option maxRecDepth 100000
namespace Go.Proofs.Ytmfdnphjhbbkiaa
open Go.RowKit

theorem Bs.arrK (w : World) (T : TypeId) (l : List Nat) (h256 : ∀ c ∈ l, c < 256) : Bs (w.heap.size + 1) (w.alloc (.cells (l.map fun (c : Nat) => Value.int .u8 (c : Int)).toArray T)) (some ⟨w.heap.size, 0, none⟩) l :=
  Bs.new w l h256 _ T (by intro i c hi; simp [hi])

theorem esc_ne (s : ByteArray) : escL (bytesOf s) ++ [0, 1] ≠ [] := by simp

theorem encK_len (x : Vl) (hs : x.s.size ≤ 100) : (encK x).length ≤ 300 := by
  have h := escL_len (bytesOf x.s)
  rw [bytesOf_len] at h
  unfold encK
  split
  · simp
  · split
    · simp [whole8]
    · simp only [List.length_cons, List.length_append, List.length_nil]; omega

theorem keyL_len (l : List Vl) (hs : ∀ x ∈ l, x.s.size ≤ 100) : (keyL l).length ≤ l.length * 300 := by
  induction l with
  | nil => simp [keyL]
  | cons x r ih =>
    have h1 := ih (fun y hy => hs y (by simp [hy]))
    have h2 := encK_len x (hs x (by simp))
    rw [keyL_cons, List.length_append, List.length_cons]
    omega

theorem escL_ge (l : List Nat) : l.length ≤ (escL l).length := by
  induction l with
  | nil => simp
  | cons c r ih =>
    by_cases hc : c = 0
    · subst hc; rw [escL_cons0]; simp; omega
    · rw [escL_cons hc]; simp; omega

theorem keyL_great (l : List Vl) (x : Vl) (hx : x ∈ l) (hr : x.right = true) (hs : 100 < x.s.size) : 100 < (keyL l).length := by
  have h1 : x.s.size ≤ (encK x).length := by
    rcases right_kind hr with h | h | ⟨hk, h⟩
    · rw [h] at hs; simp [ByteArray.size] at hs
    · rw [h] at hs; simp [ByteArray.size] at hs
    · have := escL_ge (bytesOf x.s)
      rw [bytesOf_len] at this
      unfold encK
      rw [if_neg (by omega), if_neg (by omega)]
      simp only [List.length_cons, List.length_append]; omega
  have h2 : (encK x).length ≤ (keyL l).length := by
    obtain ⟨a, b, rfl⟩ := List.append_of_mem hx
    unfold keyL
    rw [List.flatMap_append, List.flatMap_cons]
    simp only [List.length_append]; omega
  omega

theorem writeK_bad {l : List Vl} (h : rowOk l = false) : writeK l = ([], 3) := by unfold writeK; rw [if_pos h]
theorem writeK_long {l : List Vl} (h : rowOk l = true) (h2 : 100 < (keyL l).length) : writeK l = ([], 2) := by
  unfold writeK; rw [if_neg (by rw [h]; simp), if_pos h2]
theorem writeK_good {l : List Vl} (h : rowOk l = true) (h2 : ¬ 100 < (keyL l).length) : writeK l = (keyL l, 0) := by
  unfold writeK; rw [if_neg (by rw [h]; simp), if_neg h2]

theorem encK_ne (x : Vl) : encK x ≠ [] := by intro h; have := encK_pos x; rw [h] at this; simp at this

end Go.Proofs.Ytmfdnphjhbbkiaa

/- The walk of key.unescape. -/
set_option linter.unusedSimpArgs false
set_option linter.unusedVariables false
set_option maxRecDepth 100000
namespace Go.Proofs.Ytmfdnphjhbbkiaa
open Go.RowKit

/-- A string, the bytes of its marked form, and whether there is one. -/
def RetU (w : World) (o : Option (List Nat × Nat)) (e : Ending) (w' : World) : Prop :=
  Below w.heap.size w w' ∧ ((o = none ∧ ∃ s : ByteArray, e = .returned (.tuple #[.string s, .int .i64 0, .bool false])) ∨ ∃ (s : List Nat) (m : Nat), o = some (s, m) ∧ e = .returned (.tuple #[.string (strN s), .int .i64 (m : Int), .bool true]))

/-- What is still to be read, behind a mark or not. -/
def unLeft (D : List Nat) (k : Nat) : Bool → List Nat
  | true => 0 :: D.drop k
  | false => D.drop k
def unOff (k : Nat) : Bool → Nat
  | true => k - 1
  | false => k
def unInv (D : List Nat) (k : Nat) (mark : Bool) (A : List Nat) : Prop := (mark = true → 0 < k) ∧ (∀ c ∈ A, c < 256) ∧ unesc D = (unesc (unLeft D k mark)).map (fun p => (A ++ p.1, p.2 + unOff k mark))

theorem un_end {D A : List Nat} {k : Nat} {mark : Bool} (h : unInv D k mark A) (hk : D.length ≤ k) : unesc D = none := by
  rw [h.2.2]
  cases mark
  · show (unesc (D.drop k)).map _ = none
    rw [List.drop_of_length_le hk]; rfl
  · show (unesc (0 :: D.drop k)).map _ = none
    rw [List.drop_of_length_le hk]; rfl

theorem un_done {D A : List Nat} {k : Nat} (h : unInv D k true A) (hk : k < D.length) (hc : D[k] = 1) : unesc D = some (A, k + 1) := by
  have h0 := h.1 rfl
  rw [h.2.2]
  show (unesc (0 :: D.drop k)).map (fun p => (A ++ p.1, p.2 + (k - 1))) = _
  rw [List.drop_eq_getElem_cons hk, hc, unesc_zero, if_pos rfl]
  simp; omega

theorem un_bad {D A : List Nat} {k : Nat} (h : unInv D k true A) (hk : k < D.length) (hc : D[k] ≠ 1) (hc2 : D[k] ≠ 255) : unesc D = none := by
  rw [h.2.2]
  show (unesc (0 :: D.drop k)).map _ = _
  rw [List.drop_eq_getElem_cons hk, unesc_zero, if_neg hc, if_neg hc2]; rfl

theorem un_mark {D A : List Nat} {k : Nat} (h : unInv D k true A) (hk : k < D.length) (hc : D[k] = 255) : unInv D (k + 1) false (A ++ [0]) := by
  have h0 := h.1 rfl
  refine ⟨by simp, ?_, ?_⟩
  · intro c hc; rcases List.mem_append.1 hc with hc | hc
    · exact h.2.1 c hc
    · rw [List.mem_singleton.1 hc]; omega
  · rw [h.2.2]
    show (unesc (0 :: D.drop k)).map (fun p => (A ++ p.1, p.2 + (k - 1))) = (unesc (D.drop (k + 1))).map (fun p => (A ++ [0] ++ p.1, p.2 + (k + 1)))
    rw [List.drop_eq_getElem_cons hk, hc, unesc_zero, if_neg (by omega), if_pos rfl]
    cases unesc (D.drop (k + 1)) with
    | none => rfl
    | some p => simp; omega

theorem un_zero {D A : List Nat} {k : Nat} (h : unInv D k false A) (hk : k < D.length) (hc : D[k] = 0) : unInv D (k + 1) true A := by
  refine ⟨by simp, h.2.1, ?_⟩
  rw [h.2.2]
  show (unesc (D.drop k)).map _ = (unesc (0 :: D.drop (k + 1))).map (fun p => (A ++ p.1, p.2 + (k + 1 - 1)))
  rw [List.drop_eq_getElem_cons hk, hc]
  rfl

theorem un_plain {D A : List Nat} {k : Nat} (h : unInv D k false A) (hk : k < D.length) (hc : D[k] ≠ 0) (h256 : D[k] < 256) : unInv D (k + 1) false (A ++ [D[k]]) := by
  refine ⟨by simp, ?_, ?_⟩
  · intro c hc; rcases List.mem_append.1 hc with hc | hc
    · exact h.2.1 c hc
    · rw [List.mem_singleton.1 hc]; exact h256
  · rw [h.2.2]
    show (unesc (D.drop k)).map (fun p => (A ++ p.1, p.2 + k)) = (unesc (D.drop (k + 1))).map (fun p => (A ++ [D[k]] ++ p.1, p.2 + (k + 1)))
    rw [List.drop_eq_getElem_cons hk, unesc_cons hc]
    cases unesc (D.drop (k + 1)) with
    | none => rfl
    | some p => simp; omega

end Go.Proofs.Ytmfdnphjhbbkiaa

/- The walk of the reference's Write of rows. -/
set_option linter.unusedSimpArgs false
set_option linter.unusedVariables false
set_option maxRecDepth 100000
namespace Go.Proofs.Ytmfdnphjhbbkiaa
open Go.RowKit

theorem encL_take_le (l : List Vl) (k : Nat) : (encL (l.take k)).length ≤ (encL l).length := by
  conv => rhs; rw [← List.take_append_drop k l]
  unfold encL
  rw [List.flatMap_append, List.length_append]; omega

/-- A length of at most five bytes' bytes. -/
theorem encV_len2 (x : Vl) (hs : x.s.size ≤ 1000000) (hf : x.fair) : (encV x).length ≤ 1000020 := by
  have h1 := putL_len10 (zigN_lt x.n hf.2.1.1 hf.2.1.2)
  have h2 := putL_len10 (show x.s.size < 18446744073709551616 by omega)
  unfold encV
  split
  · simp
  · split
    · simp only [List.length_cons]; omega
    · simp only [List.length_cons, textL, List.length_append, bytesOf_len]; omega

end Go.Proofs.Ytmfdnphjhbbkiaa
