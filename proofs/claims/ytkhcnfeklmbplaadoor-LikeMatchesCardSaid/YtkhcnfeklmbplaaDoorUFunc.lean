/- slices.IndexFunc and ContainsFunc over code points, at the closures that the code hands in. -/
import Derived.Test.YtkhcnfeklmbplaaDoorUKit
import Derived.Lib.Hide
namespace Go.Proofs.YtkhcnfeklmbplaaDoor
open Go.RowKit

/-- The first index at which p holds, or -1. -/
def idxI (p : Int → Bool) (l : List Int) : Int := if l.all (fun c => !p c) then -1 else ((l.takeWhile fun c => !p c).length : Int)

theorem takeWhile_hit (p : Int → Bool) : ∀ (l : List Int) (k : Nat) (hk : k < l.length), (l.take k).all (fun c => !p c) = true → p l[k] = true → (l.takeWhile fun c => !p c).length = k
  | [], k, hk, _, _ => by simp at hk
  | x :: l, 0, _, _, h => by
    have h' : p x = true := h
    simp [List.takeWhile_cons, h']
  | x :: l, k + 1, hk, ha, h => by
    rw [List.take_succ_cons, List.all_cons, Bool.and_eq_true] at ha
    have := takeWhile_hit p l k (by simpa using hk) ha.2 h
    rw [List.takeWhile_cons, if_pos ha.1, List.length_cons, this]

theorem idx_hit (p : Int → Bool) (l : List Int) (k : Nat) (hk : k < l.length) (ha : (l.take k).all (fun c => !p c) = true) (h : p l[k] = true) : idxI p l = (k : Int) := by
  unfold idxI
  have hf : l.all (fun c => !p c) = false := by
    rw [List.all_eq_false]
    exact ⟨l[k], List.getElem_mem hk, by simp [h]⟩
  rw [if_neg (by rw [hf]; simp), takeWhile_hit p l k hk ha h]

theorem idx_none (p : Int → Bool) (l : List Int) (ha : l.all (fun c => !p c) = true) : idxI p l = -1 := by
  unfold idxI; rw [if_pos ha]

theorem idx_ge (p : Int → Bool) (l : List Int) : -1 ≤ idxI p l ∧ idxI p l ≤ (l.length : Int) := by
  unfold idxI; split
  · omega
  · have := (List.takeWhile_prefix (fun c => !p c) (l := l)).length_le; omega

theorem idx_any (p : Int → Bool) (l : List Int) : decide (0 ≤ idxI p l) = l.any p := by
  cases ha : l.all (fun c => !p c) with
  | true =>
    rw [idx_none p l ha]
    have : l.any p = false := by
      rw [List.any_eq_false]; intro x hx; have := List.all_eq_true.1 ha x hx; simpa using this
    rw [this]; rfl
  | false =>
    have h1 : l.any p = true := by
      obtain ⟨x, hx, h⟩ := List.all_eq_false.1 ha
      rw [List.any_eq_true]; exact ⟨x, hx, by simpa using h⟩
    rw [h1]
    unfold idxI
    rw [if_neg (by rw [ha]; simp)]
    simp

theorem take_all (p : Int → Bool) (l : List Int) (k : Nat) (hk : k < l.length) (ha : (l.take k).all (fun c => !p c) = true) (h : p l[k] = false) : (l.take (k + 1)).all (fun c => !p c) = true := by
  rw [List.take_add_one, List.getElem?_eq_getElem hk, List.all_append, ha]
  simp [h]

def notRun (c : Int) : Bool := c != 37
theorem cloRun_any (c : Int) (w : World) (hc : -2147483648 ≤ c ∧ c ≤ 2147483647) : Calls Tryd.prog 18 #[.int .i32 c] w fun e w' => e = .returned (.bool (notRun c)) ∧ Below w.heap.size w w' := by
  by_cases h : c = 37
  · subst h
    go_enter Tryd.func18, Tryd.ntmps18
    go_wp2
    go_ret
    exact ⟨rfl, Below.refl _ _⟩
  · have q : (c != 37) = true := by simp [h]
    have HQ : Hid (notRun c = true) := q
    go_enter Tryd.func18, Tryd.ntmps18
    go_wp2
    go_ret
    exact ⟨by rw [HQ.out]; rfl, Below.refl _ _⟩


set_option maxHeartbeats 1000000 in
theorem idxRun_any (l : List Int) (hr : ∀ c ∈ l, -2147483648 ≤ c ∧ c ≤ 2147483647) (a : Option Addr) (len cap : Nat) (w : World) (hV : Rs .i32 w.heap.size w a l) (hlen : len = l.length) (hmax : len ≤ 140737488355328) :
    Calls Tryd.prog 20 #[.slice a len cap, .func (.func 18) #[] #[]] w fun e w' => e = .returned (.int .i64 (idxI notRun l)) ∧ Below w.heap.size w w' := by
  have HV := Lib.hid hV
  have HL := Lib.hid hlen
  have HRR := Lib.hid hr
  clear hV hlen hr
  go_enter Tryd.func20, Tryd.ntmps20
  go_wp2
  go_loopw [8] (fun i wr => ∃ k : Nat, k ≤ len ∧ i = .int .i64 k ∧ Hid ((l.take k).all (fun c => !notRun c) = true) ∧ Below w.heap.size w wr) (fun i _ => len - (intOf i).toNat)
  case atStart => exact ⟨0, by omega, rfl, by simp [Hid], Below.refl _ _⟩
  case round =>
    obtain ⟨k, hk, rfl, HI, hb⟩ := hrel
    have hsz := hb.size
    by_cases hlt : k < len
    · have hkl : k < l.length := by have := HL.out; omega
      obtain ⟨b, o, rfl, hbN, hc⟩ := (HV.out.below hb).at_ hkl
      have hyr := HRR.out _ (List.getElem_mem hkl)
      have HT := Lib.hid (fun h => take_all notRun l k hkl HI.out h)
      have HH := Lib.hid (fun h => idx_hit notRun l k hkl HI.out h)
      obtain ⟨y, hy⟩ : ∃ y, y = l[k] := ⟨_, rfl⟩
      rw [← hy] at hc HT HH hyr
      clear hy
      have HN := Lib.hid (fun W => cloRun_any y W hyr)
      obtain ⟨r, hrr⟩ : ∃ r, notRun y = r := ⟨_, rfl⟩
      rw [hrr] at HN HT HH
      clear hrr hyr
      go_wp2_with fail
      refine (HN.out _).mono ?_
      rintro e w1 ⟨rfl, hb1⟩
      clear HN
      cases r with
      | false =>
        go_wp2
        go_roundw
        case rel => exact ⟨k + 1, by omega, by go_num, HT.out (by trivial), hb.trans (Below.mono hb1 hsz)⟩
        case measure => simp [intOf]; omega
      | true =>
        go_wp2
        go_ret
        exact ⟨by rw [HH.out (by trivial)]; rfl, hb.trans (Below.mono hb1 hsz)⟩
    · go_wp2
      go_ret
      have hk2 : l.take k = l := List.take_of_length_le (by have := HL.out; omega)
      have := HI.out
      rw [hk2] at this
      exact ⟨by rw [idx_none _ _ this]; rfl, hb⟩

theorem hasRun_any (l : List Int) (hr : ∀ c ∈ l, -2147483648 ≤ c ∧ c ≤ 2147483647) (a : Option Addr) (len cap : Nat) (w : World) (hV : Rs .i32 w.heap.size w a l) (hlen : len = l.length) (hmax : len ≤ 140737488355328) :
    Calls Tryd.prog 17 #[.slice a len cap, .func (.func 18) #[] #[]] w fun e w' => e = .returned (.bool (l.any notRun)) ∧ Below w.heap.size w w' := by
  have HC := Lib.hid (idxRun_any l hr a len cap w hV hlen hmax)
  have hA := idx_any notRun l
  have hG := idx_ge notRun l
  obtain ⟨r, hrr⟩ : ∃ r, idxI notRun l = r := ⟨_, rfl⟩
  rw [hrr] at HC hA hG
  have HA := Lib.hid hA
  clear hV hlen hrr hA hr
  go_enter Tryd.func17, Tryd.ntmps17
  go_wp2_with fail
  refine HC.out.mono ?_
  rintro e w1 ⟨rfl, hb⟩
  clear HC
  go_wp2
  go_ret
  exact ⟨by rw [← HA.out]; rfl, hb⟩

def isMark (c : Int) : Bool := c == 37 || c == 95
end Go.Proofs.YtkhcnfeklmbplaaDoor
