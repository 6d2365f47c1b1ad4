/- Several texts of one proof, one behind the other. -/
import Derived.Test.YtlcphgomhhejbaaNPk2
import Derived.Lib.Hide
import Derived.Deep.RegionWith
import Derived.BigQuiet
set_option linter.unusedSimpArgs false
set_option linter.unusedVariables false

/- The walks of Zig, Zag, PutInt, GetInt (varint's and hindsightref01's). -/
namespace Go.Proofs.Ytlcphgomhhejbaa
open Go.RowKit

theorem ret_i {k : IntKind} {a b : Int} (h : a = b) : Ending.returned (.int k a) = .returned (.int k b) := by rw [h]

theorem wrap_u64_neg (n : Int) (h : n < 0) (h1 : -9223372036854775808 ≤ n) : IntKind.u64.wrap n = n + 18446744073709551616 := by
  rw [IntKind.wrap_u64]; omega

theorem and1 (v : Nat) (h : v < 18446744073709551616) : bits .and .u64 (v : Int) 1 = ((v % 2 : Nat) : Int) := by
  have := u64_and_nat v 1 h (by omega)
  rw [nat_mask1] at this; exact this

theorem getR_lt (l : List Nat) (h : ∀ c ∈ l, c < 256) (at_ : Int) (h1 : at_ ≤ 9223372036854775807) : (getR l at_).1 < 18446744073709551616 ∧ 0 ≤ (getR l at_).2.1 ∧ (getR l at_).2.1 ≤ l.length := by
  have hS : ∀ (D : List Nat) (i v : Nat), (∀ c ∈ D, c < 256) → i ≤ 9 → v < 128 ^ i → (getS D i v).1 < 18446744073709551616 ∧ (getS D i v).2.1 ≤ D.length + i := by
    intro D
    induction D with
    | nil => intro i v _ _ _; simp [getS]
    | cons c r ih =>
      intro i v hD hi hv
      unfold getS
      split
      · simp
      · split
        · simp
        · split
          · have := fits7 c i v hv (by omega)
            rw [Nat.mod_eq_of_lt (by omega)] at this
            simp; omega
          · have hc := hD c (by simp)
            have := grow7 c i v hv
            rw [show c % 128 = c - 128 by omega] at this
            have := ih (i + 1) (v + (c - 128) * 128 ^ i) (fun d hd => hD d (by simp [hd])) (by omega) (by omega)
            simp; omega
  unfold getR
  split
  · simp
  · simp only []
    have hq := hS (l.drop at_.toNat) 0 0 (fun c hc => h c (List.mem_of_mem_drop hc)) (by omega) (by simp)
    rw [List.length_drop] at hq
    split
    · refine ⟨hq.1, ?_, ?_⟩ <;> simp only [] <;> omega
    · simp

theorem getR_err (l : List Nat) (at_ : Int) : (getR l at_).2.2 ≠ 0 → (getR l at_).1 = 0 ∧ (getR l at_).2.1 = 0 := by
  unfold getR
  split
  · simp
  · simp only []
    split
    · simp
    · simp

end Go.Proofs.Ytlcphgomhhejbaa

/- The walk of hindsightlaw01.alive. -/
namespace Go.Proofs.Ytlcphgomhhejbaa
open Go.RowKit

/-- A call that hands back bytes l in memory of its own. -/
def RetB (w : World) (l : List Nat) (e : Ending) (w' : World) : Prop :=
  ∃ a cap, e = .returned (.slice a l.length cap) ∧ l.length ≤ cap ∧ Bs w'.heap.size w' a l ∧ Below w.heap.size w w'

theorem RetB.of {w : World} {l : List Nat} {T : TypeId} {e : Ending} {w' : World} : (∃ r, e = .returned r ∧ OwnB w' w.heap.size T r l ∧ Below w.heap.size w w') → RetB w l e w' := by
  rintro ⟨r, rfl, hown, hb⟩
  obtain ⟨a, cap, rfl, hc, hB, _⟩ := hown.slice
  exact ⟨a, cap, rfl, hc, hB, hb⟩

theorem Bs.str {N : Nat} {w : World} {a : Option Addr} {l : List Nat} (h : Bs N w a l) (n cap : Nat) (hn : n = l.length) :
    (convert 27 9 (.slice a n cap)).run Try.prog w = .ok (.string (strN l)) w :=
  h.conv 27 5 Try.underlying27 Try.underlying5 9 Try.underlying9 n cap hn

theorem Bs.strL {w : World} {a : Option Addr} {l : List Nat} (h : Bs w.heap.size w a l) (n cap : Nat) (hn : n = l.length) :
    ∀ W, Later w W → (convert 27 9 (.slice a n cap)).run Try.prog W = .ok (.string (strN l)) W := fun W hW => (h.below hW).str n cap hn

theorem Bs.new (w : World) (l : List Nat) (hl : ∀ c ∈ l, c < 256) (cs : Array Value) (T : TypeId) (hcs : ∀ (i c : Nat), l[i]? = some c → cs[i]? = some (Value.int .u8 (c : Int))) :
    Bs (w.heap.size + 1) (w.alloc (.cells cs T)) (some ⟨w.heap.size, 0, none⟩) l :=
  ⟨hl, .inr ⟨w.heap.size, 0, rfl, by omega, fun i c hi => by rw [World.cell?_alloc_new, Nat.zero_add]; exact hcs i c hi⟩⟩

theorem e300 : putL 300 = [172, 2] := by rw [putL_step (by omega), putL_small (by omega)]

end Go.Proofs.Ytlcphgomhhejbaa

/- The walks of the laws VarintSizes and VarintInts. -/
namespace Go.Proofs.Ytlcphgomhhejbaa
open Go.RowKit

end Go.Proofs.Ytlcphgomhhejbaa

/- The walk of the law VarintInts. -/
namespace Go.Proofs.Ytlcphgomhhejbaa
open Go.RowKit

end Go.Proofs.Ytlcphgomhhejbaa
