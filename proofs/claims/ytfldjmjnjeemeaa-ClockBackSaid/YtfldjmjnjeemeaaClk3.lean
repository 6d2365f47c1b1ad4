/- Clock: Write of a state. -/
import Derived.Test.YtfldjmjnjeemeaaClk2
namespace Go.Proofs.Ytfldjmjnjeemeaa
open Go.RowKit

def st1 (u : Nat) : List Nat := [1, 0, 0, 0, 0, 0, 0, 0] ++ (whole8 u ++ List.replicate 48 0)
theorem st1_len (u : Nat) : (st1 u).length = 64 := by simp [st1, whole8_len]
theorem one64_len : one64.length = 64 := by simp [one64]
theorem splice8 (u : Nat) : ((byL one64).toList.take 8 ++ (whole8 u).map byV ++ (byL one64).toList.drop (8 + ((whole8 u).map byV).length)).toArray = byL (st1 u) := by
  have e1 : ((whole8 u).map byV).length = 8 := rfl
  rw [e1]
  unfold byL st1
  rw [List.map_append, List.map_append]
  congr 1
theorem put16 (l : Int) (n : Nat) : putB (byL (st1 (up64 l))) 16 (beL 4 n) = byL (stL l n) := by
  have e1 : (byL (st1 (up64 l))).toList.take 16 = ([1, 0, 0, 0, 0, 0, 0, 0] ++ whole8 (up64 l)).map byV := rfl
  have e2 : (byL (st1 (up64 l))).toList.drop 20 = (List.replicate 44 0).map byV := rfl
  unfold putB
  rw [beL_len, e1, e2]
  unfold byL stL
  rw [List.map_append, List.map_append, List.map_append, List.map_append, List.append_assoc]
  rfl
theorem st1_bytes (u : Nat) (i : Nat) (h : i < 64) : ∃ d : Int, (byL (st1 u))[i]? = some (.int .u8 d) :=
  ⟨_, byL_get _ _ (by rw [st1_len]; exact h)⟩
theorem blk_row {w : World} {b : Nat} {T : TypeId} {l : List Nat} (h : Blk w b T (byL l)) (j : Nat) (v : Value) (hv : (l.map byV)[j]? = some v) : w.cell? ((⟨b, 0, none⟩ : Addr).add j) = some v := by
  have e1 : (⟨b, 0, none⟩ : Addr).add j = ⟨b, j, none⟩ := by unfold Addr.add; split <;> simp_all
  rw [e1, h.cell j]
  simpa [byL] using hv

end Go.Proofs.Ytfldjmjnjeemeaa
