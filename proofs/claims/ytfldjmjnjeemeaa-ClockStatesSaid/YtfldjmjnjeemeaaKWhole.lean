/- The walks of key.whole and key.readWhole. -/
import Derived.Test.YtfldjmjnjeemeaaKEsc
namespace Go.Proofs.Ytfldjmjnjeemeaa
open Go.RowKit

/-- Byte j of eight, the greatest first. -/
def byteJ (u : Nat) : Nat → Nat
  | 0 => u / 72057594037927936 % 256
  | 1 => u / 281474976710656 % 256
  | 2 => u / 1099511627776 % 256
  | 3 => u / 4294967296 % 256
  | 4 => u / 16777216 % 256
  | 5 => u / 65536 % 256
  | 6 => u / 256 % 256
  | _ => u % 256

/-- An array of eight bytes, of which the first k are those of u. -/
def ArrW (w : World) (B u k : Nat) : Prop := ∀ j, j < 8 → w.cell? ⟨B, j, none⟩ = some (.int .u8 (((if j < k then byteJ u j else 0) : Nat) : Int)) ∧ w.frozen? ⟨B, j, none⟩ = false

theorem ArrW.set {w : World} {B u k : Nat} (h : ArrW w B u k) (hk : k < 8) (v : Int) (hv : v = (byteJ u k : Int)) : ArrW (w.setCell ⟨B, k, none⟩ (.int .u8 v)) B u (k + 1) := by
  subst hv
  intro j hj
  obtain ⟨h1, h2⟩ := h j hj
  refine ⟨?_, by rw [World.frozen?_setCell]; exact h2⟩
  by_cases hjk : j = k
  · subst hjk
    rw [World.cell?_setCell_same _ _ _ h1, if_pos (by omega)]
  · rw [World.cell?_setCell_other _ _ _ _ (by simp [Ne.symm hjk]), h1]
    by_cases hlt : j < k
    · rw [if_pos hlt, if_pos (by omega)]
    · rw [if_neg hlt, if_neg (by omega)]

theorem byteJ_lt (u j : Nat) : byteJ u j < 256 := by
  unfold byteJ; split <;> omega

set_option maxRecDepth 100000 in
theorem xor128 (c : Nat) (h : c < 256) : bits .xor .u8 (c : Int) 128 = (((c + 128) % 256 : Nat) : Int) := by
  have e : ∀ c : Nat, c < 256 → c ^^^ 128 = (c + 128) % 256 := by decide
  rw [← e c h]
  exact u8_xor_nat c 128 h (by omega)

/-- The bytes of an integer: those of the number as it is, the first with its sign turned over. -/
theorem up_bytes (n : Int) (h1 : -9223372036854775808 ≤ n) (h2 : n ≤ 9223372036854775807) (u : Nat) (hu : u = (n % 18446744073709551616).toNat) :
    whole8 (up64 n) = [(byteJ u 0 + 128) % 256, byteJ u 1, byteJ u 2, byteJ u 3, byteJ u 4, byteJ u 5, byteJ u 6, byteJ u 7] := by
  subst hu
  simp only [whole8, up64, byteJ, List.cons.injEq, and_true]
  omega

def aggB (l : List Nat) : Value := .agg (l.map fun (c : Nat) => Value.int .u8 (c : Int)).toArray

end Go.Proofs.Ytfldjmjnjeemeaa
