/- The walk of hindsightlaw01.alive. -/
import Derived.Test.YtipeinkogoghnaaVInts
import Derived.Test.YtipeinkogoghnaaOrd
namespace Go.Proofs.Ytipeinkogoghnaa
open Go.RowKit

/-- A call that hands back bytes l in memory of its own. -/
def RetB (w : World) (l : List Nat) (e : Ending) (w' : World) : Prop :=
  ∃ a cap, e = .returned (.slice a l.length cap) ∧ l.length ≤ cap ∧ Bs w'.heap.size w' a l ∧ Below w.heap.size w w'

theorem RetB.of {w : World} {l : List Nat} {T : TypeId} {e : Ending} {w' : World} : (∃ r, e = .returned r ∧ OwnB w' w.heap.size T r l ∧ Below w.heap.size w w') → RetB w l e w' := by
  rintro ⟨r, rfl, hown, hb⟩
  obtain ⟨a, cap, rfl, hc, hB, _⟩ := hown.slice
  exact ⟨a, cap, rfl, hc, hB, hb⟩

theorem put_ret (v : Nat) (w : World) (h : v < 18446744073709551616) : Calls Try.prog 43 #[.int .u64 v] w (RetB w (putL v)) := (put_any v w h).mono fun _ _ h => RetB.of h
theorem rput_ret (v : Nat) (w : World) (h : v < 18446744073709551616) : Calls Try.prog 46 #[.int .u64 v] w (RetB w (putL v)) := (rput_any v w h).mono fun _ _ h => RetB.of h
theorem putInt_ret (n : Int) (w : World) (h1 : -9223372036854775808 ≤ n) (h2 : n ≤ 9223372036854775807) : Calls Try.prog 62 #[.int .i64 n] w (RetB w (putL (zigN n))) := (putInt_any n w h1 h2).mono fun _ _ h => RetB.of h

theorem Bs.str {N : Nat} {w : World} {a : Option Addr} {l : List Nat} (h : Bs N w a l) (n cap : Nat) (hn : n = l.length) :
    (convert 33 9 (.slice a n cap)).run Try.prog w = .ok (.string (strN l)) w :=
  h.conv 33 5 Try.underlying33 Try.underlying5 9 Try.underlying9 n cap hn

theorem Bs.strL {w : World} {a : Option Addr} {l : List Nat} (h : Bs w.heap.size w a l) (n cap : Nat) (hn : n = l.length) :
    ∀ W, Later w W → (convert 33 9 (.slice a n cap)).run Try.prog W = .ok (.string (strN l)) W := fun W hW => (h.below hW).str n cap hn

theorem Bs.new (w : World) (l : List Nat) (hl : ∀ c ∈ l, c < 256) (cs : Array Value) (T : TypeId) (hcs : ∀ (i c : Nat), l[i]? = some c → cs[i]? = some (Value.int .u8 (c : Int))) :
    Bs (w.heap.size + 1) (w.alloc (.cells cs T)) (some ⟨w.heap.size, 0, none⟩) l :=
  ⟨hl, .inr ⟨w.heap.size, 0, rfl, by omega, fun i c hi => by rw [World.cell?_alloc_new, Nat.zero_add]; exact hcs i c hi⟩⟩

theorem e300 : putL 300 = [172, 2] := by rw [putL_step (by omega), putL_small (by omega)]

end Go.Proofs.Ytipeinkogoghnaa
