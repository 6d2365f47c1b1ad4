/- The walk of hindsightref05.Write. -/
import Derived.Test.YtfbknfdbfnklmaaDoorUMath
import Derived.Test.YtfbknfdbfnklmaaDoorUKit
import Derived.Lib.Hide
namespace Go.Proofs.YtfbknfdbfnklmaaDoor
set_option linter.unusedSimpArgs false
open Go.RowKit

/-- Is an integer a code point? Its bytes, or none. -/
def okZ (v : Int) : Bool := decide (0 ≤ v) && okP v.toNat
def encZ (v : Int) : List Nat := if okZ v then encP v.toNat else []

theorem okZ_iff (v : Int) : okZ v = true ↔ 0 ≤ v ∧ (v < 55296 ∨ (57343 < v ∧ v ≤ 1114111)) := by
  unfold okZ
  rw [Bool.and_eq_true, decide_eq_true_iff, okP_iff]
  omega

/-- A row of bytes, known whole, in a new block. -/
theorem Bs.newU (w : World) (l : List Nat) (h : ∀ c ∈ l, c < 256) (T : TypeId) (cs : Array Value) (hc : cs = (l.map fun (c : Nat) => Value.int .u8 (c : Int)).toArray) : Bs (w.heap.size + 1) (w.alloc (.cells cs T)) (some ⟨w.heap.size, 0, none⟩) l := by
  refine ⟨h, .inr ⟨w.heap.size, 0, rfl, by omega, fun i c hi => ?_⟩⟩
  rw [Nat.zero_add, World.cell?_alloc_new, hc, List.getElem?_toArray, List.getElem?_map, hi]
  rfl

def RetWr (w : World) (l : List Nat) (e : Ending) (w' : World) : Prop :=
  Below w.heap.size w w' ∧ ∃ a cap, e = .returned (.slice a l.length cap) ∧ Bs w'.heap.size w' a l

theorem wr_end (w : World) (l : List Nat) (h : ∀ c ∈ l, c < 256) (T : TypeId) (cs : Array Value) (hc : cs = (l.map fun (c : Nat) => Value.int .u8 (c : Int)).toArray) (n cap : Nat) (hn : n = l.length) :
    RetWr w l (.returned (.slice (some ⟨w.heap.size, 0, none⟩) n cap)) (w.alloc (.cells cs T)) := by
  subst hn
  have := Bs.newU w l h T cs hc
  exact ⟨boxB _ _, _, _, rfl, by simpa using this⟩

set_option maxRecDepth 10000000 in
set_option maxHeartbeats 2000000 in
theorem rWrite_any (v : Int) (w : World) (h1 : -9223372036854775808 ≤ v) (h2 : v ≤ 9223372036854775807) :
    Calls Tryd.prog 13 #[.int .i64 v] w (RetWr w (encZ v)) := by
  by_cases hok : okZ v = true
  · have hE : encZ v = encP v.toNat := by unfold encZ; rw [if_pos hok]
    have hlt := encP_lt (v := v.toNat) (by rw [okZ_iff] at hok; omega)
    rw [okZ_iff] at hok
    obtain ⟨m, rfl⟩ : ∃ m : Nat, v = (m : Int) := ⟨v.toNat, by omega⟩
    rw [hE]
    simp only [Int.toNat_natCast] at hlt ⊢
    have n1 : ¬ (m : Int) < 0 := by omega
    have n2 : ¬ 1114111 < m := by omega
    have HLT := Lib.hid hlt
    obtain ⟨ho, ho2⟩ := hok
    have hsur : ¬ 55296 ≤ m ∨ (55296 ≤ m ∧ ¬ m ≤ 57343) := by omega
    clear hE hlt h1 h2
    by_cases c1 : m < 128
    · have HEE : Hid (encP m = [m]) := by unfold encP; rw [if_pos c1]; rfl
      have c0 : ¬ 55296 ≤ m := by omega
      clear hsur ho2
      go_enter Tryd.func13, Tryd.ntmps13
      go_wp2
      go_ret
      rw [HEE.out]
      exact wr_end w [m] (by rw [← HEE.out]; exact HLT.out) _ _ rfl _ _ rfl
    · by_cases c2 : m < 2048
      · have HEE : Hid (encP m = [192 + m / 64, 128 + m % 64]) := by unfold encP; rw [if_neg c1, if_pos c2]; rfl
        have c0 : ¬ 55296 ≤ m := by omega
        clear hsur ho2
        go_enter Tryd.func13, Tryd.ntmps13
        go_wp2
        go_ret
        rw [HEE.out]
        refine wr_end w _ (by rw [← HEE.out]; exact HLT.out) _ _ ?_ _ _ rfl
        simp
      · by_cases c3 : m < 65536
        · have HEE : Hid (encP m = [224 + m / 4096, 128 + m / 64 % 64, 128 + m % 64]) := by unfold encP; rw [if_neg c1, if_neg c2, if_pos c3]; rfl
          clear ho2
          go_enter Tryd.func13, Tryd.ntmps13
          rcases hsur with c0 | ⟨c0, c00⟩
          all_goals
            go_wp2
            go_ret
            rw [HEE.out]
            refine wr_end w _ (by rw [← HEE.out]; exact HLT.out) _ _ ?_ _ _ rfl
            simp
        · have HEE : Hid (encP m = [240 + m / 262144, 128 + m / 4096 % 64, 128 + m / 64 % 64, 128 + m % 64]) := by unfold encP; rw [if_neg c1, if_neg c2, if_neg c3]; rfl
          have c0 : 55296 ≤ m := by omega
          have c00 : ¬ m ≤ 57343 := by omega
          clear hsur ho2
          go_enter Tryd.func13, Tryd.ntmps13
          go_wp2
          go_ret
          rw [HEE.out]
          refine wr_end w _ (by rw [← HEE.out]; exact HLT.out) _ _ ?_ _ _ rfl
          simp
  · have hE : encZ v = [] := by unfold encZ; rw [if_neg hok]
    have hways : v < 0 ∨ (¬ v < 0 ∧ 1114111 < v) ∨ (¬ v < 0 ∧ ¬ 1114111 < v ∧ 55296 ≤ v ∧ v ≤ 57343) := by
      rw [okZ_iff] at hok; omega
    rw [hE]
    clear hE hok
    rcases hways with d1 | ⟨d1, d2⟩ | ⟨d1, d2, d3, d4⟩
    all_goals
      go_enter Tryd.func13, Tryd.ntmps13
      go_wp2
      go_ret
      exact ⟨Below.refl _ _, _, _, rfl, by simp, .inl rfl⟩
end Go.Proofs.YtfbknfdbfnklmaaDoor
