/- The walks of fixed.Get and of the reader's text and number. -/
import Derived.Test.YtfldjmjnjeemeaaNDec
import Derived.Test.YtfldjmjnjeemeaaFoot
import Derived.Test.YtfldjmjnjeemeaaKRdW
import Derived.IntWalk
namespace Go.Proofs.Ytfldjmjnjeemeaa
open Go.RowKit

theorem valL_take (l : List Nat) (k c : Nat) (h : l[k]? = some c) : valL (l.take (k + 1)) = 256 * valL (l.take k) + c := by
  rw [List.take_add_one, h, Option.toList_some, valL_snoc]

theorem orI (V c : Nat) (hV : V < 281474976710656) (hc : c < 256) : bits .or .i64 ((V : Int) * 256) (c : Int) = ((256 * V + c : Nat) : Int) := by
  have hj := nat_join 8 (V * 256) c (by omega) (by omega)
  show IntKind.i64.wrap ((BitVec.ofInt 64 ((V : Int) * 256) ||| BitVec.ofInt 64 (c : Int)).toNat : Int) = _
  rw [show ((V : Int) * 256) = ((V * 256 : Nat) : Int) by omega, BitVec.toNat_or, ofInt_u64 _ (by omega), ofInt_u64 _ (by omega), hj, IntWalk.i64_in _ ⟨by omega, by omega⟩]
  omega

/-- k bytes of the reader's text from its place on. -/
def rdT (s : ByteArray) (at_ : Nat) (ok : Bool) (k : Nat) : ByteArray × Nat × Bool := if at_ + k ≤ s.size then (strN (cutL (bytesOf s) at_ k), at_ + k, ok) else (⟨#[]⟩, at_, false)

theorem extract_cut (s : ByteArray) (a k : Nat) (h : a + k ≤ s.size) : s.extract a (a + k) = strN (cutL (bytesOf s) a k) := by
  have e : cutL (bytesOf s) a k = bytesOf (s.extract a (a + k)) := by
    unfold cutL bytesOf
    rw [← List.map_drop, ← List.map_take]
    congr 1
    simp [ByteArray.extract, ByteArray.copySlice]
  rw [e, strN_bytesOf]

end Go.Proofs.Ytfldjmjnjeemeaa
