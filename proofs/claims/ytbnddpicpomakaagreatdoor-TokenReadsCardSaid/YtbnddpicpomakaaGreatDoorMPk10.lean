/- Several texts of one proof, one behind the other. -/
import Derived.Test.YtbnddpicpomakaaGreatDoorMPk9
import Derived.Lib.ConvBytes
import Derived.Laws.CopyRow
import Derived.Laws.CopyOwn
set_option linter.unusedSimpArgs false
set_option linter.unusedVariables false

/- The walks of record.encode and record.Write. -/
set_option linter.unusedSimpArgs false
set_option linter.unusedVariables false
set_option maxRecDepth 100000
namespace Go.Proofs.YtbnddpicpomakaaGreatDoor
open Go.RowKit

theorem encV_ne (x : Vl) : encV x ≠ [] := by
  unfold encV; split
  · simp
  · split <;> simp

theorem textL_ne (s : ByteArray) : textL s ≠ [] := by
  intro h
  have := congrArg List.length h
  have := putL_pos s.size
  unfold textL at *
  rw [List.length_append] at *
  simp only [List.length_nil] at *
  omega

end Go.Proofs.YtbnddpicpomakaaGreatDoor

/- The walk of record.Write; record.Right. -/
set_option linter.unusedSimpArgs false
set_option linter.unusedVariables false
set_option maxRecDepth 100000
namespace Go.Proofs.YtbnddpicpomakaaGreatDoor
open Go.RowKit

theorem encV_len (x : Vl) (hs : x.s.size ≤ 8192) (hf : x.fair) : (encV x).length ≤ 8300 := by
  have h1 := putL_len10 (zigN_lt x.n hf.2.1.1 hf.2.1.2)
  have h2 := putL_len10 (show x.s.size < 18446744073709551616 by omega)
  unfold encV
  split
  · simp
  · split
    · simp only [List.length_cons]; omega
    · simp only [List.length_cons, textL, List.length_append, bytesOf_len]; omega

theorem encL_len (l : List Vl) (hs : ∀ x ∈ l, x.s.size ≤ 8192) (hf : ∀ x ∈ l, x.fair) : (encL l).length ≤ l.length * 8300 := by
  induction l with
  | nil => simp [encL]
  | cons x r ih =>
    have h1 := ih (fun y hy => hs y (by simp [hy])) (fun y hy => hf y (by simp [hy]))
    have h2 := encV_len x (hs x (by simp)) (hf x (by simp))
    have e : encL (x :: r) = encV x ++ encL r := rfl
    rw [e, List.length_append, List.length_cons]
    omega

/-- A text that is too long makes the row too long. -/
theorem encL_great (l : List Vl) (x : Vl) (hx : x ∈ l) (hr : x.right = true) (hs : 8192 < x.s.size) : 8192 < (encL l).length := by
  have h1 : x.s.size ≤ (encV x).length := by
    rcases right_kind hr with h | h | ⟨hk, h⟩
    · rw [h] at hs; simp [ByteArray.size] at hs
    · rw [h] at hs; simp [ByteArray.size] at hs
    · unfold encV
      rw [if_neg (by omega), if_neg (by omega)]
      simp only [List.length_cons, textL, List.length_append, bytesOf_len]; omega
  have h2 : (encV x).length ≤ (encL l).length := by
    obtain ⟨a, b, rfl⟩ := List.append_of_mem hx
    unfold encL
    rw [List.flatMap_append, List.flatMap_cons]
    simp only [List.length_append]; omega
  omega

theorem writeV_bad {l : List Vl} (h : rowOk l = false) : writeV l = ([], 3) := by unfold writeV; rw [if_pos h]
theorem writeV_long {l : List Vl} (h : rowOk l = true) (h2 : 8192 < 1 + (encL l).length) : writeV l = ([], 2) := by
  unfold writeV; rw [if_neg (by rw [h]; simp), if_pos h2]
theorem writeV_good {l : List Vl} (h : rowOk l = true) (h2 : ¬ 8192 < 1 + (encL l).length) : writeV l = (l.length :: encL l, 0) := by
  unfold writeV; rw [if_neg (by rw [h]; simp), if_neg h2]

theorem take_fair {l : List Vl} (k : Nat) {p : Vl → Prop} (h : ∀ x ∈ l, p x) : ∀ x ∈ l.take k, p x := fun x hx => h x (List.mem_of_mem_take hx)

end Go.Proofs.YtbnddpicpomakaaGreatDoor

/- The walk of key.escape. -/
set_option linter.unusedSimpArgs false
set_option linter.unusedVariables false
set_option maxRecDepth 100000
namespace Go.Proofs.YtbnddpicpomakaaGreatDoor
open Go.RowKit

theorem escL_take (l : List Nat) (k : Nat) (h : k < l.length) : escL (l.take (k + 1)) = escL (l.take k) ++ (if l[k] = 0 then [0, 255] else [l[k]]) := by
  unfold escL; rw [List.take_succ_eq_append_getElem h, List.flatMap_append]; simp [List.flatMap_cons]

theorem escL_len (l : List Nat) : (escL l).length ≤ 2 * l.length := by
  induction l with
  | nil => simp [escL]
  | cons c r ih =>
    by_cases h : c = 0
    · subst h; rw [escL_cons0]; simp; omega
    · rw [escL_cons h]; simp; omega

theorem OwnB.base {w : World} {b b' : Nat} {T : TypeId} {v : Value} {l : List Nat} (h : OwnB w b T v l) (hb : b' ≤ b) : OwnB w b' T v l := by
  obtain ⟨h0, h1, h2⟩ := h
  refine ⟨h0, h1, ?_⟩
  rcases h2 with h2 | ⟨g, c, cur, hv, hg, rest⟩
  · exact .inl h2
  · exact .inr ⟨g, c, cur, hv, by omega, rest⟩

/-- '[]byte(s)': the bytes of s in a block of their own. -/
theorem conv_bytes (s : ByteArray) (w : World) : ∃ W1 cap, (convert 9 99 (.string s)).run Tryz.prog w = .ok (.slice (some ⟨w.heap.size, 0, none⟩) s.size cap) W1 ∧ Below w.heap.size w W1 ∧ W1.heap.size = w.heap.size + 1 ∧
    ∀ (j : Nat) (h : j < (bytesOf s).length), W1.cell? ⟨w.heap.size, j, none⟩ = some (.int .u8 ((bytesOf s)[j] : Int)) := by
  refine ⟨_, _, Lib.run_convert_string_bytes w 9 99 5 s Tryz.underlying9 Tryz.underlying99 Tryz.underlying5, ⟨rfl, rfl, rfl, ?_, fun k hk => Lib.bytesWorld_at_old w _ s k hk⟩, Lib.bytesWorld_size w _ s, ?_⟩
  · rw [Lib.bytesWorld_size]; omega
  · intro j hj
    have hj2 : j < s.size := by rw [bytesOf_len] at hj; exact hj
    rw [Lib.bytesWorld_cell w _ s j hj2]
    have : (bytesOf s)[j] = (s.data.toList.getD j 0).toNat := by
      simp only [bytesOf, List.getElem_map]
      congr 1
      have hj3 : j < s.data.toList.length := by simpa using hj2
      rw [List.getD_eq_getElem?_getD, List.getElem?_eq_getElem hj3]; rfl
    rw [this]

end Go.Proofs.YtbnddpicpomakaaGreatDoor

/- The walks of key.whole and key.readWhole. -/
set_option linter.unusedSimpArgs false
set_option linter.unusedVariables false
set_option maxRecDepth 100000
namespace Go.Proofs.YtbnddpicpomakaaGreatDoor
open Go.RowKit

/-- Byte j of eight, the greatest first. -/
def byteJ (u : Nat) : Nat → Nat
  | 0 => u / 72057594037927936 % 256
  | 1 => u / 281474976710656 % 256
  | 2 => u / 1099511627776 % 256
  | 3 => u / 4294967296 % 256
  | 4 => u / 16777216 % 256
  | 5 => u / 65536 % 256
  | 6 => u / 256 % 256
  | _ => u % 256

/-- An array of eight bytes, of which the first k are those of u. -/
def ArrW (w : World) (B u k : Nat) : Prop := ∀ j, j < 8 → w.cell? ⟨B, j, none⟩ = some (.int .u8 (((if j < k then byteJ u j else 0) : Nat) : Int)) ∧ w.frozen? ⟨B, j, none⟩ = false

theorem ArrW.set {w : World} {B u k : Nat} (h : ArrW w B u k) (hk : k < 8) (v : Int) (hv : v = (byteJ u k : Int)) : ArrW (w.setCell ⟨B, k, none⟩ (.int .u8 v)) B u (k + 1) := by
  subst hv
  intro j hj
  obtain ⟨h1, h2⟩ := h j hj
  refine ⟨?_, by rw [World.frozen?_setCell]; exact h2⟩
  by_cases hjk : j = k
  · subst hjk
    rw [World.cell?_setCell_same _ _ _ h1, if_pos (by omega)]
  · rw [World.cell?_setCell_other _ _ _ _ (by simp [Ne.symm hjk]), h1]
    by_cases hlt : j < k
    · rw [if_pos hlt, if_pos (by omega)]
    · rw [if_neg hlt, if_neg (by omega)]

theorem byteJ_lt (u j : Nat) : byteJ u j < 256 := by
  unfold byteJ; split <;> omega

set_option maxRecDepth 100000 in
theorem xor128 (c : Nat) (h : c < 256) : bits .xor .u8 (c : Int) 128 = (((c + 128) % 256 : Nat) : Int) := by
  have e : ∀ c : Nat, c < 256 → c ^^^ 128 = (c + 128) % 256 := by decide
  rw [← e c h]
  exact u8_xor_nat c 128 h (by omega)

/-- The bytes of an integer: those of the number as it is, the first with its sign turned over. -/
theorem up_bytes (n : Int) (h1 : -9223372036854775808 ≤ n) (h2 : n ≤ 9223372036854775807) (u : Nat) (hu : u = (n % 18446744073709551616).toNat) :
    whole8 (up64 n) = [(byteJ u 0 + 128) % 256, byteJ u 1, byteJ u 2, byteJ u 3, byteJ u 4, byteJ u 5, byteJ u 6, byteJ u 7] := by
  subst hu
  simp only [whole8, up64, byteJ, List.cons.injEq, and_true]
  omega

def aggB (l : List Nat) : Value := .agg (l.map fun (c : Nat) => Value.int .u8 (c : Int)).toArray

end Go.Proofs.YtbnddpicpomakaaGreatDoor

/- For key.readWhole and fixed.ReadWhole: 'copy(a[:], b)', an array by index. -/
set_option linter.unusedSimpArgs false
set_option linter.unusedVariables false
set_option maxRecDepth 100000
namespace Go.Proofs.YtbnddpicpomakaaGreatDoor
open Go.RowKit

/-- The cells of an array of eight bytes. -/
def Arr8 (w : World) (B : Nat) (l : List Nat) : Prop := l.length = 8 ∧ (∀ c ∈ l, c < 256) ∧ ∀ j (h : j < l.length), w.cell? ⟨B, j, none⟩ = some (.int .u8 (l[j] : Int)) ∧ w.frozen? ⟨B, j, none⟩ = false

/-- 'n<<8 | c'. -/
theorem orB (V c : Nat) (hV : V < 72057594037927936) (hc : c < 256) : bits .or .u64 ((V : Int) * 256) (c : Int) = ((V * 256 + c : Nat) : Int) := by
  have := u64_or_nat (V * 256) c (by omega) (by omega)
  rw [nat_join 8 (V * 256) c (by omega) (by omega)] at this
  rw [Int.natCast_mul] at this
  exact this

end Go.Proofs.YtbnddpicpomakaaGreatDoor

/- The walks of fixed.Whole and fixed.ReadWhole: an integer in eight bytes that have its order. -/
set_option linter.unusedSimpArgs false
set_option linter.unusedVariables false
set_option maxRecDepth 100000
namespace Go.Proofs.YtbnddpicpomakaaGreatDoor
open Go.RowKit

/-- An integer of eight bytes, the greatest first, the first with its sign turned over. -/
def rdW (l : List Nat) : Int := (unB l : Int) - 9223372036854775808

end Go.Proofs.YtbnddpicpomakaaGreatDoor

/- The walk of key.readWhole. -/
set_option linter.unusedSimpArgs false
set_option linter.unusedVariables false
set_option maxRecDepth 100000
namespace Go.Proofs.YtbnddpicpomakaaGreatDoor
open Go.RowKit

end Go.Proofs.YtbnddpicpomakaaGreatDoor

/- The walks of key.encode and key.Write. -/
set_option linter.unusedSimpArgs false
set_option linter.unusedVariables false
set_option maxRecDepth 100000
namespace Go.Proofs.YtbnddpicpomakaaGreatDoor
open Go.RowKit

theorem Bs.arrK (w : World) (T : TypeId) (l : List Nat) (h256 : ∀ c ∈ l, c < 256) : Bs (w.heap.size + 1) (w.alloc (.cells (l.map fun (c : Nat) => Value.int .u8 (c : Int)).toArray T)) (some ⟨w.heap.size, 0, none⟩) l :=
  Bs.new w l h256 _ T (by intro i c hi; simp [hi])

theorem esc_ne (s : ByteArray) : escL (bytesOf s) ++ [0, 1] ≠ [] := by simp

theorem encK_len (x : Vl) (hs : x.s.size ≤ 100) : (encK x).length ≤ 300 := by
  have h := escL_len (bytesOf x.s)
  rw [bytesOf_len] at h
  unfold encK
  split
  · simp
  · split
    · simp [whole8]
    · simp only [List.length_cons, List.length_append, List.length_nil]; omega

theorem keyL_len (l : List Vl) (hs : ∀ x ∈ l, x.s.size ≤ 100) : (keyL l).length ≤ l.length * 300 := by
  induction l with
  | nil => simp [keyL]
  | cons x r ih =>
    have h1 := ih (fun y hy => hs y (by simp [hy]))
    have h2 := encK_len x (hs x (by simp))
    rw [keyL_cons, List.length_append, List.length_cons]
    omega

theorem escL_ge (l : List Nat) : l.length ≤ (escL l).length := by
  induction l with
  | nil => simp
  | cons c r ih =>
    by_cases hc : c = 0
    · subst hc; rw [escL_cons0]; simp; omega
    · rw [escL_cons hc]; simp; omega

theorem keyL_great (l : List Vl) (x : Vl) (hx : x ∈ l) (hr : x.right = true) (hs : 100 < x.s.size) : 100 < (keyL l).length := by
  have h1 : x.s.size ≤ (encK x).length := by
    rcases right_kind hr with h | h | ⟨hk, h⟩
    · rw [h] at hs; simp [ByteArray.size] at hs
    · rw [h] at hs; simp [ByteArray.size] at hs
    · have := escL_ge (bytesOf x.s)
      rw [bytesOf_len] at this
      unfold encK
      rw [if_neg (by omega), if_neg (by omega)]
      simp only [List.length_cons, List.length_append]; omega
  have h2 : (encK x).length ≤ (keyL l).length := by
    obtain ⟨a, b, rfl⟩ := List.append_of_mem hx
    unfold keyL
    rw [List.flatMap_append, List.flatMap_cons]
    simp only [List.length_append]; omega
  omega

theorem writeK_bad {l : List Vl} (h : rowOk l = false) : writeK l = ([], 3) := by unfold writeK; rw [if_pos h]
theorem writeK_long {l : List Vl} (h : rowOk l = true) (h2 : 100 < (keyL l).length) : writeK l = ([], 2) := by
  unfold writeK; rw [if_neg (by rw [h]; simp), if_pos h2]
theorem writeK_good {l : List Vl} (h : rowOk l = true) (h2 : ¬ 100 < (keyL l).length) : writeK l = (keyL l, 0) := by
  unfold writeK; rw [if_neg (by rw [h]; simp), if_neg h2]

theorem encK_ne (x : Vl) : encK x ≠ [] := by intro h; have := encK_pos x; rw [h] at this; simp at this

end Go.Proofs.YtbnddpicpomakaaGreatDoor
