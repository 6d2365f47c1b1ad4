/- The first index at which a thing holds: plain mathematics (the head of XUFunc, for a seat that has none of its closures). -/
import Derived.Test.YtfbknfdbfnklmaaDoorUKit
import Derived.Lib.Hide
namespace Go.Proofs.YtfbknfdbfnklmaaDoor
open Go.RowKit

/-- The first index at which p holds, or -1. -/
def idxI (p : Int → Bool) (l : List Int) : Int := if l.all (fun c => !p c) then -1 else ((l.takeWhile fun c => !p c).length : Int)

theorem takeWhile_hit (p : Int → Bool) : ∀ (l : List Int) (k : Nat) (hk : k < l.length), (l.take k).all (fun c => !p c) = true → p l[k] = true → (l.takeWhile fun c => !p c).length = k
  | [], k, hk, _, _ => by simp at hk
  | x :: l, 0, _, _, h => by
    have h' : p x = true := h
    simp [List.takeWhile_cons, h']
  | x :: l, k + 1, hk, ha, h => by
    rw [List.take_succ_cons, List.all_cons, Bool.and_eq_true] at ha
    have := takeWhile_hit p l k (by simpa using hk) ha.2 h
    rw [List.takeWhile_cons, if_pos ha.1, List.length_cons, this]

theorem idx_hit (p : Int → Bool) (l : List Int) (k : Nat) (hk : k < l.length) (ha : (l.take k).all (fun c => !p c) = true) (h : p l[k] = true) : idxI p l = (k : Int) := by
  unfold idxI
  have hf : l.all (fun c => !p c) = false := by
    rw [List.all_eq_false]
    exact ⟨l[k], List.getElem_mem hk, by simp [h]⟩
  rw [if_neg (by rw [hf]; simp), takeWhile_hit p l k hk ha h]

theorem idx_none (p : Int → Bool) (l : List Int) (ha : l.all (fun c => !p c) = true) : idxI p l = -1 := by
  unfold idxI; rw [if_pos ha]

theorem idx_ge (p : Int → Bool) (l : List Int) : -1 ≤ idxI p l ∧ idxI p l ≤ (l.length : Int) := by
  unfold idxI; split
  · omega
  · have := (List.takeWhile_prefix (fun c => !p c) (l := l)).length_le; omega

theorem idx_any (p : Int → Bool) (l : List Int) : decide (0 ≤ idxI p l) = l.any p := by
  cases ha : l.all (fun c => !p c) with
  | true =>
    rw [idx_none p l ha]
    have : l.any p = false := by
      rw [List.any_eq_false]; intro x hx; have := List.all_eq_true.1 ha x hx; simpa using this
    rw [this]; rfl
  | false =>
    have h1 : l.any p = true := by
      obtain ⟨x, hx, h⟩ := List.all_eq_false.1 ha
      rw [List.any_eq_true]; exact ⟨x, hx, by simpa using h⟩
    rw [h1]
    unfold idxI
    rw [if_neg (by rw [ha]; simp)]
    simp

theorem take_all (p : Int → Bool) (l : List Int) (k : Nat) (hk : k < l.length) (ha : (l.take k).all (fun c => !p c) = true) (h : p l[k] = false) : (l.take (k + 1)).all (fun c => !p c) = true := by
  rw [List.take_add_one, List.getElem?_eq_getElem hk, List.all_append, ha]
  simp [h]
end Go.Proofs.YtfbknfdbfnklmaaDoor
