/- Several texts of one proof, one behind the other. -/
import Derived.Test.YtapbhhehnbfdfaaWPk14
import Derived.Lib.ConvBytes
import Derived.Laws.CopyRow
import Derived.Laws.CopyOwn
set_option linter.unusedSimpArgs false
set_option linter.unusedVariables false

/- The walk of key.escape. -/
set_option linter.unusedSimpArgs false
set_option linter.unusedVariables false
set_option maxRecDepth 100000
namespace Go.Proofs.Ytapbhhehnbfdfaa
open Go.RowKit

theorem escL_take (l : List Nat) (k : Nat) (h : k < l.length) : escL (l.take (k + 1)) = escL (l.take k) ++ (if l[k] = 0 then [0, 255] else [l[k]]) := by
  unfold escL; rw [List.take_succ_eq_append_getElem h, List.flatMap_append]; simp [List.flatMap_cons]

theorem escL_len (l : List Nat) : (escL l).length ≤ 2 * l.length := by
  induction l with
  | nil => simp [escL]
  | cons c r ih =>
    by_cases h : c = 0
    · subst h; rw [escL_cons0]; simp; omega
    · rw [escL_cons h]; simp; omega

theorem OwnB.base {w : World} {b b' : Nat} {T : TypeId} {v : Value} {l : List Nat} (h : OwnB w b T v l) (hb : b' ≤ b) : OwnB w b' T v l := by
  obtain ⟨h0, h1, h2⟩ := h
  refine ⟨h0, h1, ?_⟩
  rcases h2 with h2 | ⟨g, c, cur, hv, hg, rest⟩
  · exact .inl h2
  · exact .inr ⟨g, c, cur, hv, by omega, rest⟩

/-- '[]byte(s)': the bytes of s in a block of their own. -/
theorem conv_bytes (s : ByteArray) (w : World) : ∃ W1 cap, (convert 9 105 (.string s)).run Try.prog w = .ok (.slice (some ⟨w.heap.size, 0, none⟩) s.size cap) W1 ∧ Below w.heap.size w W1 ∧ W1.heap.size = w.heap.size + 1 ∧
    ∀ (j : Nat) (h : j < (bytesOf s).length), W1.cell? ⟨w.heap.size, j, none⟩ = some (.int .u8 ((bytesOf s)[j] : Int)) := by
  refine ⟨_, _, Lib.run_convert_string_bytes w 9 105 5 s Try.underlying9 Try.underlying105 Try.underlying5, ⟨rfl, rfl, rfl, ?_, fun k hk => Lib.bytesWorld_at_old w _ s k hk⟩, Lib.bytesWorld_size w _ s, ?_⟩
  · rw [Lib.bytesWorld_size]; omega
  · intro j hj
    have hj2 : j < s.size := by rw [bytesOf_len] at hj; exact hj
    rw [Lib.bytesWorld_cell w _ s j hj2]
    have : (bytesOf s)[j] = (s.data.toList.getD j 0).toNat := by
      simp only [bytesOf, List.getElem_map]
      congr 1
      have hj3 : j < s.data.toList.length := by simpa using hj2
      rw [List.getD_eq_getElem?_getD, List.getElem?_eq_getElem hj3]; rfl
    rw [this]

end Go.Proofs.Ytapbhhehnbfdfaa

/- The walks of key.whole and key.readWhole. -/
set_option linter.unusedSimpArgs false
set_option linter.unusedVariables false
set_option maxRecDepth 100000
namespace Go.Proofs.Ytapbhhehnbfdfaa
open Go.RowKit

/-- Byte j of eight, the greatest first. -/
def byteJ (u : Nat) : Nat → Nat
  | 0 => u / 72057594037927936 % 256
  | 1 => u / 281474976710656 % 256
  | 2 => u / 1099511627776 % 256
  | 3 => u / 4294967296 % 256
  | 4 => u / 16777216 % 256
  | 5 => u / 65536 % 256
  | 6 => u / 256 % 256
  | _ => u % 256

/-- An array of eight bytes, of which the first k are those of u. -/
def ArrW (w : World) (B u k : Nat) : Prop := ∀ j, j < 8 → w.cell? ⟨B, j, none⟩ = some (.int .u8 (((if j < k then byteJ u j else 0) : Nat) : Int)) ∧ w.frozen? ⟨B, j, none⟩ = false

theorem ArrW.set {w : World} {B u k : Nat} (h : ArrW w B u k) (hk : k < 8) (v : Int) (hv : v = (byteJ u k : Int)) : ArrW (w.setCell ⟨B, k, none⟩ (.int .u8 v)) B u (k + 1) := by
  subst hv
  intro j hj
  obtain ⟨h1, h2⟩ := h j hj
  refine ⟨?_, by rw [World.frozen?_setCell]; exact h2⟩
  by_cases hjk : j = k
  · subst hjk
    rw [World.cell?_setCell_same _ _ _ h1, if_pos (by omega)]
  · rw [World.cell?_setCell_other _ _ _ _ (by simp [Ne.symm hjk]), h1]
    by_cases hlt : j < k
    · rw [if_pos hlt, if_pos (by omega)]
    · rw [if_neg hlt, if_neg (by omega)]

theorem byteJ_lt (u j : Nat) : byteJ u j < 256 := by
  unfold byteJ; split <;> omega

set_option maxRecDepth 100000 in
theorem xor128 (c : Nat) (h : c < 256) : bits .xor .u8 (c : Int) 128 = (((c + 128) % 256 : Nat) : Int) := by
  have e : ∀ c : Nat, c < 256 → c ^^^ 128 = (c + 128) % 256 := by decide
  rw [← e c h]
  exact u8_xor_nat c 128 h (by omega)

/-- The bytes of an integer: those of the number as it is, the first with its sign turned over. -/
theorem up_bytes (n : Int) (h1 : -9223372036854775808 ≤ n) (h2 : n ≤ 9223372036854775807) (u : Nat) (hu : u = (n % 18446744073709551616).toNat) :
    whole8 (up64 n) = [(byteJ u 0 + 128) % 256, byteJ u 1, byteJ u 2, byteJ u 3, byteJ u 4, byteJ u 5, byteJ u 6, byteJ u 7] := by
  subst hu
  simp only [whole8, up64, byteJ, List.cons.injEq, and_true]
  omega

def aggB (l : List Nat) : Value := .agg (l.map fun (c : Nat) => Value.int .u8 (c : Int)).toArray

end Go.Proofs.Ytapbhhehnbfdfaa

/- For key.readWhole and fixed.ReadWhole: 'copy(a[:], b)', an array by index. -/
set_option linter.unusedSimpArgs false
set_option linter.unusedVariables false
set_option maxRecDepth 100000
namespace Go.Proofs.Ytapbhhehnbfdfaa
open Go.RowKit

/-- The cells of an array of eight bytes. -/
def Arr8 (w : World) (B : Nat) (l : List Nat) : Prop := l.length = 8 ∧ (∀ c ∈ l, c < 256) ∧ ∀ j (h : j < l.length), w.cell? ⟨B, j, none⟩ = some (.int .u8 (l[j] : Int)) ∧ w.frozen? ⟨B, j, none⟩ = false

/-- 'n<<8 | c'. -/
theorem orB (V c : Nat) (hV : V < 72057594037927936) (hc : c < 256) : bits .or .u64 ((V : Int) * 256) (c : Int) = ((V * 256 + c : Nat) : Int) := by
  have := u64_or_nat (V * 256) c (by omega) (by omega)
  rw [nat_join 8 (V * 256) c (by omega) (by omega)] at this
  rw [Int.natCast_mul] at this
  exact this

end Go.Proofs.Ytapbhhehnbfdfaa

/- The walks of fixed.Whole and fixed.ReadWhole: an integer in eight bytes that have its order. -/
set_option linter.unusedSimpArgs false
set_option linter.unusedVariables false
set_option maxRecDepth 100000
namespace Go.Proofs.Ytapbhhehnbfdfaa
open Go.RowKit

/-- An integer of eight bytes, the greatest first, the first with its sign turned over. -/
def rdW (l : List Nat) : Int := (unB l : Int) - 9223372036854775808

end Go.Proofs.Ytapbhhehnbfdfaa

/- The walk of key.readWhole. -/
set_option linter.unusedSimpArgs false
set_option linter.unusedVariables false
set_option maxRecDepth 100000
namespace Go.Proofs.Ytapbhhehnbfdfaa
open Go.RowKit

end Go.Proofs.Ytapbhhehnbfdfaa
