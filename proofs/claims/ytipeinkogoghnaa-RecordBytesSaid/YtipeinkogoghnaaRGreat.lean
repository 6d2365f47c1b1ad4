/- The walk of hindsightlaw03.Great. -/
import Derived.Test.YtipeinkogoghnaaRKit
namespace Go.Proofs.Ytipeinkogoghnaa
open Go.RowKit

/-- The sizes of the texts together. -/
def sumS (l : List Vl) : Nat := (l.map fun x => x.s.size).sum
theorem sumS_take (l : List Vl) (k : Nat) (h : k < l.length) : sumS (l.take (k + 1)) = sumS (l.take k) + l[k].s.size := by
  unfold sumS; rw [List.take_succ_eq_append_getElem h, List.map_append, List.sum_append]; simp only [List.map_cons, List.map_nil, List.sum_cons, List.sum_nil]; omega

/-- A row that a statement isn't too much for. -/
def Small (l : List Vl) : Prop := l.length ≤ 40 ∧ (∀ x ∈ l, x.s.size ≤ 9000) ∧ sumS l ≤ 30000

def RetG (w : World) (l : List Vl) (e : Ending) (w' : World) : Prop := ∃ g : Bool, e = .returned (.bool g) ∧ (g = false → Small l) ∧ w = w'

set_option maxHeartbeats 1000000 in
theorem Great_any (N : Nat) (l : List Vl) (a : Option Addr) (len cap : Nat) (w : World) (hV : Vs N w a l) (hlen : len = l.length) (hs : ∀ x ∈ l, x.s.size ≤ 9223372036854775807) (hmax : len ≤ 9223372036854775807) :
    Calls Try.prog 21 #[.slice a len cap] w (RetG w l) := by
  have HV := Lib.hid hV
  have HL := Lib.hid hlen
  have HS := Lib.hid hs
  clear hV hlen hs
  go_enter Try.func21, Try.ntmps21
  go_wp2
  go_loop [3, 4] (fun n i => ∃ k m : Nat, k ≤ len ∧ i = .int .i64 k ∧ n = .int .i64 m ∧ m ≤ 30000 ∧ Hid (m = sumS (l.take k) ∧ (0 < k → len ≤ 40) ∧ ∀ x ∈ l.take k, x.s.size ≤ 9000)) (fun _ i => len - (intOf i).toNat)
  case atStart => exact ⟨0, 0, by omega, rfl, rfl, by omega, by simp [sumS], by omega, by simp⟩
  case round =>
    obtain ⟨k, m, hk, rfl, rfl, hm, HI⟩ := hrel
    by_cases hlt : k < len
    · have hkl : k < l.length := by have := HL.out; omega
      obtain ⟨b, o, rfl, hb, c0, c1, c2⟩ := HV.out.at_ hkl
      have hsz := HS.out _ (List.getElem_mem hkl)
      have HSum := Lib.hid (sumS_take l k hkl)
      obtain ⟨y, hy⟩ : ∃ y, y = l[k] := ⟨_, rfl⟩
      rw [← hy] at c0 c1 c2 hsz
      have HY := Lib.hid hy
      clear hy c0 c1
      by_cases h1 : 40 < len
      · go_wp2
        all_goals (go_ret; exact ⟨true, rfl, by simp, rfl⟩)
      · have q1 : decide ((40 : Int) < (len : Int)) = false := by simp; omega
        by_cases h2 : 9000 < y.s.size
        · go_wp2
          all_goals (go_ret; exact ⟨true, rfl, by simp, rfl⟩)
        · have q2 : decide ((9000 : Int) < (y.s.size : Int)) = false := by simp; omega
          by_cases h3 : 30000 < m + y.s.size
          · go_wp2
            all_goals (go_ret; exact ⟨true, rfl, by simp, rfl⟩)
          · have HN : Hid (m + y.s.size = sumS (l.take (k + 1)) ∧ (0 < k + 1 → len ≤ 40) ∧ ∀ x ∈ l.take (k + 1), x.s.size ≤ 9000) := by
              refine ⟨by rw [HSum.out, ← HI.out.1, HY.out], by omega, ?_⟩
              intro x hx
              rw [List.take_succ_eq_append_getElem hkl] at hx
              rcases List.mem_append.1 hx with hx | hx
              · exact HI.out.2.2 x hx
              · rw [List.mem_singleton.1 hx, ← HY.out]; omega
            go_wp2
            go_round
            case rel => exact ⟨k + 1, m + y.s.size, by omega, by go_num, by go_num, by omega, HN⟩
            case measure => simp [intOf]; omega
    · go_wp2
      go_ret
      refine ⟨false, rfl, fun _ => ?_, rfl⟩
      have hk2 : l.take k = l := List.take_of_length_le (by have := HL.out; omega)
      obtain ⟨i1, i2, i3⟩ := HI.out
      rw [hk2] at i1 i3
      refine ⟨?_, i3, by omega⟩
      have := HL.out
      by_cases h0 : 0 < k
      · have := i2 h0; omega
      · omega
end Go.Proofs.Ytipeinkogoghnaa
