/- The walk of hindsightlaw01.alive. -/
import Derived.Test.YtfldjmjnjeemeaaVInts
import Derived.Test.YtfldjmjnjeemeaaOrd
namespace Go.Proofs.Ytfldjmjnjeemeaa
open Go.RowKit

/-- A call that hands back bytes l in memory of its own. -/
def RetB (w : World) (l : List Nat) (e : Ending) (w' : World) : Prop :=
  ∃ a cap, e = .returned (.slice a l.length cap) ∧ l.length ≤ cap ∧ Bs w'.heap.size w' a l ∧ Below w.heap.size w w'

theorem RetB.of {w : World} {l : List Nat} {T : TypeId} {e : Ending} {w' : World} : (∃ r, e = .returned r ∧ OwnB w' w.heap.size T r l ∧ Below w.heap.size w w') → RetB w l e w' := by
  rintro ⟨r, rfl, hown, hb⟩
  obtain ⟨a, cap, rfl, hc, hB, _⟩ := hown.slice
  exact ⟨a, cap, rfl, hc, hB, hb⟩

theorem Bs.str {N : Nat} {w : World} {a : Option Addr} {l : List Nat} (h : Bs N w a l) (n cap : Nat) (hn : n = l.length) :
    (convert 30 9 (.slice a n cap)).run Try.prog w = .ok (.string (strN l)) w :=
  h.conv 30 5 Try.underlying30 Try.underlying5 9 Try.underlying9 n cap hn

theorem Bs.strL {w : World} {a : Option Addr} {l : List Nat} (h : Bs w.heap.size w a l) (n cap : Nat) (hn : n = l.length) :
    ∀ W, Later w W → (convert 30 9 (.slice a n cap)).run Try.prog W = .ok (.string (strN l)) W := fun W hW => (h.below hW).str n cap hn

theorem Bs.new (w : World) (l : List Nat) (hl : ∀ c ∈ l, c < 256) (cs : Array Value) (T : TypeId) (hcs : ∀ (i c : Nat), l[i]? = some c → cs[i]? = some (Value.int .u8 (c : Int))) :
    Bs (w.heap.size + 1) (w.alloc (.cells cs T)) (some ⟨w.heap.size, 0, none⟩) l :=
  ⟨hl, .inr ⟨w.heap.size, 0, rfl, by omega, fun i c hi => by rw [World.cell?_alloc_new, Nat.zero_add]; exact hcs i c hi⟩⟩

theorem e300 : putL 300 = [172, 2] := by rw [putL_step (by omega), putL_small (by omega)]

end Go.Proofs.Ytfldjmjnjeemeaa
