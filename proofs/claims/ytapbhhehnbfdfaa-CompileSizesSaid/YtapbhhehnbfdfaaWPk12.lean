/- Several texts of one proof, one behind the other. -/
import Derived.Test.YtapbhhehnbfdfaaWPk11
set_option linter.unusedSimpArgs false
set_option linter.unusedVariables false

/- The walk of isPeriod. -/
set_option linter.unusedSimpArgs false
set_option linter.unusedVariables false
set_option maxRecDepth 100000
namespace Go.Proofs.Ytapbhhehnbfdfaa
open Go.RowKit

end Go.Proofs.Ytapbhhehnbfdfaa

/- The walk of canBeApart. -/
set_option linter.unusedSimpArgs false
set_option linter.unusedVariables false
set_option maxRecDepth 100000
namespace Go.Proofs.Ytapbhhehnbfdfaa
open Go.RowKit

end Go.Proofs.Ytapbhhehnbfdfaa

/- The walk of Right. -/
set_option linter.unusedSimpArgs false
set_option linter.unusedVariables false
set_option maxRecDepth 100000
namespace Go.Proofs.Ytapbhhehnbfdfaa
open Go.RowKit

end Go.Proofs.Ytapbhhehnbfdfaa

/- The walks of the encoder's methods. -/
set_option linter.unusedSimpArgs false
set_option linter.unusedVariables false
set_option maxRecDepth 100000
namespace Go.Proofs.Ytapbhhehnbfdfaa
open Go.RowKit

def ES (E : Nat) (v : Value) : List Nat := E :: v.ownBlock.toList
theorem info_u8E : (Try.prog.info? 5).map (fun i => (i.zero, i.size, i.bytes)) = some (some (.int .u8 0), 1, 1) := by kernel_rfl

theorem Bs.arrE {N : Nat} {w : World} {a : Option Addr} {l : List Nat} (h : Bs N w a l) : Arr N w a (l.map fun (c : Nat) => Value.int .u8 (c : Int)) := by
  rcases h.2 with h2 | ⟨b, o, ha, hN, hc⟩
  · exact .inl (by rw [h2]; rfl)
  · refine .inr ⟨b, o, ha, hN, fun i v hi => ?_⟩
    rw [List.getElem?_map] at hi
    cases hl : l[i]? with
    | none => rw [hl] at hi; simp at hi
    | some c => rw [hl] at hi; simp at hi; subst hi; exact hc i c hl

end Go.Proofs.Ytapbhhehnbfdfaa

/- The walk of schema.Write. -/
set_option linter.unusedSimpArgs false
set_option linter.unusedVariables false
set_option maxRecDepth 100000
namespace Go.Proofs.Ytapbhhehnbfdfaa
open Go.RowKit

/-- Bytes and an error. -/
def RetLW (w : World) (X : List Nat × Int) (e : Ending) (w' : World) : Prop := ∃ a cap, e = .returned (.tuple #[.slice a X.1.length cap, .int .i64 X.2]) ∧ X.1.length ≤ cap ∧ Bs w'.heap.size w' a X.1 ∧ Below w.heap.size w w'
noncomputable def writeT (t : Tb) : List Nat × Int := if t.ok = true then (encT t, 0) else ([], 3)

theorem flat_len {α : Type} (f : α → List Nat) (B : Nat) : ∀ (l : List α), (∀ x ∈ l, (f x).length ≤ B) → (l.flatMap f).length ≤ l.length * B
  | [], _ => by simp
  | x :: r, h => by
    have := flat_len f B r (fun y hy => h y (List.mem_cons_of_mem _ hy))
    have h1 := h x List.mem_cons_self
    rw [List.flatMap_cons, List.length_append, List.length_cons, Nat.add_mul]
    omega
theorem intL_len (n : Int) (h1 : -9223372036854775808 ≤ n) (h2 : n ≤ 9223372036854775807) : (intL n).length ≤ 10 := putL_len10 (zigN_lt n h1 h2)
theorem flagL_len (b : Bool) : (flagL b).length ≤ 10 := by unfold flagL; exact intL_len _ (by cases b <;> simp) (by cases b <;> simp)
theorem textL_len (s : ByteArray) (h : s.size ≤ 1000000) : (textL s).length ≤ 1000010 := by
  have := putL_len10 (show s.size < 18446744073709551616 by omega)
  unfold textL; rw [List.length_append, bytesOf_len]; omega
theorem encC_len (c : Col) (h : c.nm.size ≤ 1000000) (hk : c.kd < 256) : (encC c).length ≤ 1000030 := by
  have h1 := textL_len _ h
  have h2 := intL_len (c.kd : Int) (by omega) (by omega)
  have h3 := flagL_len c.nn
  unfold encC
  rw [List.length_append, List.length_append]; omega

end Go.Proofs.Ytapbhhehnbfdfaa
