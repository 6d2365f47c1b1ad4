/- Several texts of one proof, one behind the other. -/
import Derived.Test.YtapbhhehnbfdfaaWPk16
import Derived.Sort.Walk0
set_option linter.unusedSimpArgs false
set_option linter.unusedVariables false

/- The walk of cell.Compare. -/
set_option linter.unusedSimpArgs false
set_option linter.unusedVariables false
set_option maxRecDepth 100000
namespace Go.Proofs.Ytapbhhehnbfdfaa
open Go.RowKit

/-- What Compare answers. -/
def compareV (a b : Vl) : Int × Bool × Int :=
  if a.right = false ∨ b.right = false then (0, false, 3) else if a.k = 0 ∨ b.k = 0 then (0, false, 0) else if a.k ≠ b.k then (0, false, 20) else (orderV a b, true, 0)

def RetC (w : World) (r : Int × Bool × Int) (e : Ending) (w' : World) : Prop := e = .returned (.tuple #[.int .i64 r.1, .bool r.2.1, .int .i64 r.2.2]) ∧ Below w.heap.size w w'

theorem right_null0 (x : Vl) (h : x.right = true) (hk : x.k = 0) : x = ⟨0, 0, ⟨#[]⟩⟩ := by
  obtain ⟨k, n, s⟩ := x
  simp only at hk
  subst hk
  obtain ⟨rfl, rfl⟩ := right_null h
  rfl

end Go.Proofs.Ytapbhhehnbfdfaa

/- Plain mathematics of the order of values: it is total. -/
set_option linter.unusedSimpArgs false
set_option linter.unusedVariables false
set_option maxRecDepth 100000
namespace Go.Proofs.Ytapbhhehnbfdfaa
open Go.RowKit

def ltV (a b : Vl) : Prop := a.k < b.k ∨ (a.k = b.k ∧ (a.n < b.n ∨ (a.n = b.n ∧ a.s.toList < b.s.toList)))

theorem less_lt (s t : List UInt8) : Op.bytesLess s t = decide (s < t) := bytesLess_eq s t

theorem ltV_irrefl (a : Vl) : ¬ ltV a a := by
  rintro (h | ⟨_, h | ⟨_, h⟩⟩)
  · omega
  · omega
  · exact List.lt_irrefl _ h

theorem ltV_trans {a b c : Vl} (h : ltV a b) (k : ltV b c) : ltV a c := by
  rcases h with h | ⟨h1, h | ⟨h2, h⟩⟩ <;> rcases k with k | ⟨k1, k | ⟨k2, k⟩⟩
  · exact .inl (by omega)
  · exact .inl (by omega)
  · exact .inl (by omega)
  · exact .inl (by omega)
  · exact .inr ⟨by omega, .inl (by omega)⟩
  · exact .inr ⟨by omega, .inl (by omega)⟩
  · exact .inl (by omega)
  · exact .inr ⟨by omega, .inl (by omega)⟩
  · exact .inr ⟨by omega, .inr ⟨by omega, List.lt_trans h k⟩⟩

theorem list_tri (s t : List UInt8) (h : s ≠ t) : s < t ∨ t < s := by
  by_cases h1 : s < t
  · exact .inl h1
  · by_cases h2 : t < s
    · exact .inr h2
    · exact absurd (List.le_antisymm (List.not_lt.1 h2) (List.not_lt.1 h1)) h

theorem ltV_total (a b : Vl) (h : a ≠ b) : ltV a b ∨ ltV b a := by
  by_cases h1 : a.k = b.k
  · by_cases h2 : a.n = b.n
    · have hs : a.s.toList ≠ b.s.toList := by
        intro hs
        apply h
        obtain ⟨k, n, s⟩ := a
        obtain ⟨k', n', s'⟩ := b
        simp only at h1 h2 hs
        rw [h1, h2, toList_inj hs]
      rcases list_tri _ _ hs with h3 | h3
      · exact .inl (.inr ⟨h1, .inr ⟨h2, h3⟩⟩)
      · exact .inr (.inr ⟨h1.symm, .inr ⟨h2.symm, h3⟩⟩)
    · rcases Int.lt_or_gt_of_ne h2 with h3 | h3
      · exact .inl (.inr ⟨h1, .inl h3⟩)
      · exact .inr (.inr ⟨h1.symm, .inl h3⟩)
  · rcases Nat.lt_or_gt_of_ne h1 with h3 | h3
    · exact .inl (.inl h3)
    · exact .inr (.inl h3)

open Classical in
theorem orderV_lt (a b : Vl) (ha : a.right = true) (hb : b.right = true) : orderV a b = if a = b then 0 else if ltV a b then -1 else 1 := by
  unfold orderV
  by_cases hab : a = b
  · rw [if_pos (.inl hab), if_pos hab]
  · rw [if_neg (by simp [hab, ha, hb]), if_neg hab]
    by_cases h1 : a.k = b.k
    · rw [if_neg (by simp [h1])]
      by_cases h2 : a.n = b.n
      · rw [if_neg (by simp [h2])]
        have hs : a.s.toList ≠ b.s.toList := by
          intro hs
          apply hab
          obtain ⟨k, n, s⟩ := a
          obtain ⟨k', n', s'⟩ := b
          simp only at h1 h2 hs
          rw [h1, h2, toList_inj hs]
        unfold cmpS
        rw [less_lt]
        by_cases h3 : a.s.toList < b.s.toList
        · rw [if_pos (by simpa using h3), if_pos (.inr ⟨h1, .inr ⟨h2, h3⟩⟩)]
        · rw [if_neg (by simpa using h3), if_neg (by simpa using hs), if_neg]
          rintro (h | ⟨_, h | ⟨_, h⟩⟩)
          · omega
          · omega
          · exact h3 h
      · rw [if_pos (by simpa using h2)]
        unfold cmpI
        by_cases h3 : a.n < b.n
        · rw [if_pos h3, if_pos (.inr ⟨h1, .inl h3⟩)]
        · rw [if_neg h3, if_pos (by omega), if_neg]
          rintro (h | ⟨_, h | ⟨h, _⟩⟩) <;> omega
    · rw [if_pos (by simpa using h1)]
      unfold cmpI
      by_cases h3 : a.k < b.k
      · rw [if_pos (by omega), if_pos (.inl h3)]
      · rw [if_neg (by omega), if_pos (by omega), if_neg]
        rintro (h | ⟨h, _⟩) <;> omega

/-- What the law asks of the order. -/
theorem order_total (a b c : Vl) (ha : a.right = true) (hb : b.right = true) (hc : c.right = true) :
    orderV a b = -orderV b a ∧ (orderV a b = 0 ↔ a = b) ∧ ¬ (orderV a b < 0 ∧ orderV b c < 0 ∧ 0 ≤ orderV a c) ∧ ¬ (orderV a b ≤ 0 ∧ orderV b c ≤ 0 ∧ 0 < orderV a c) ∧ -1 ≤ orderV a b ∧ orderV a b ≤ 1 := by
  rw [orderV_lt a b ha hb, orderV_lt b a hb ha, orderV_lt b c hb hc, orderV_lt a c ha hc]
  by_cases hab : a = b
  · subst hab
    rw [if_pos rfl]
    refine ⟨by simp, by simp, by omega, ?_, by omega, by omega⟩
    intro h; omega
  · have hba : ¬ b = a := fun h => hab h.symm
    rw [if_neg hab, if_neg hba]
    rcases ltV_total a b hab with h1 | h1
    · have h1' : ¬ ltV b a := fun h => ltV_irrefl a (ltV_trans h1 h)
      rw [if_pos h1, if_neg h1']
      refine ⟨by omega, by simp [hab], ?_, ?_, by omega, by omega⟩
      · rintro ⟨_, h2, h3⟩
        by_cases hbc : b = c
        · rw [if_pos hbc] at h2; omega
        · rw [if_neg hbc] at h2
          by_cases hl : ltV b c
          · have hac := ltV_trans h1 hl
            have hne : a ≠ c := fun h => ltV_irrefl a (by rw [h] at hac ⊢; exact hac)
            rw [if_neg hne, if_pos hac] at h3; omega
          · rw [if_neg hl] at h2; omega
      · rintro ⟨_, h2, h3⟩
        by_cases hbc : b = c
        · subst hbc
          rw [if_neg hab, if_pos h1] at h3; omega
        · rw [if_neg hbc] at h2
          by_cases hl : ltV b c
          · have hac := ltV_trans h1 hl
            have hne : a ≠ c := fun h => ltV_irrefl a (by rw [h] at hac ⊢; exact hac)
            rw [if_neg hne, if_pos hac] at h3; omega
          · rw [if_neg hl] at h2; omega
    · have h1' : ¬ ltV a b := fun h => ltV_irrefl a (ltV_trans h h1)
      rw [if_neg h1', if_pos h1]
      refine ⟨by omega, by simp [hab], by omega, by omega, by omega, by omega⟩

end Go.Proofs.Ytapbhhehnbfdfaa

/- The walks of record.Same and the reference's Same. -/
set_option linter.unusedSimpArgs false
set_option linter.unusedVariables false
set_option maxRecDepth 100000
namespace Go.Proofs.Ytapbhhehnbfdfaa
open Go.RowKit

/-- Two values' cells in every later world. -/
theorem CellV.later {w : World} {b o : Nat} {x : Vl} (h : CellV w b o x) (hb : b < w.heap.size) : ∀ W, Later w.drew W → CellV W b o x := fun W hW => h.below (Later.undrew hW) hb

theorem take_step {α : Type} {l m : List α} {k : Nat} (hk : k < l.length) (hm : k < m.length) (h : l.take k = m.take k) (he : l[k] = m[k]) : l.take (k + 1) = m.take (k + 1) := by
  rw [List.take_succ_eq_append_getElem hk, List.take_succ_eq_append_getElem hm, h, he]

theorem ne_of_get {α : Type} {l m : List α} {k : Nat} (hk : k < l.length) (hm : k < m.length) (he : l[k] ≠ m[k]) : l ≠ m := by
  rintro rfl; exact he rfl

/-- A bool about two rows. -/
def RetS (w : World) (l m : List Vl) (e : Ending) (w' : World) : Prop := e = .returned (.bool (decide (l = m))) ∧ Below w.heap.size w w'

end Go.Proofs.Ytapbhhehnbfdfaa

/- The walks of cell.arith at two integers, and at any values, at each of its operations. -/
set_option linter.unusedSimpArgs false
set_option linter.unusedVariables false
set_option maxRecDepth 100000
namespace Go.Proofs.Ytapbhhehnbfdfaa
open Go.RowKit

def pickV (v q : Int) : Vl × Int := if q ≠ 0 then (nullV, q) else (numV v, 0)

theorem arithV_ii (op : Int → Int → Int × Int) (n1 n2 : Int) : arithV op ⟨1, n1, ⟨#[]⟩⟩ ⟨1, n2, ⟨#[]⟩⟩ = pickV (op n1 n2).1 (op n1 n2).2 := by
  unfold arithV pickV
  rw [right_i, right_i]
  simp

end Go.Proofs.Ytapbhhehnbfdfaa

/- The walks of cell.Add, Sub, Mul, Div, Mod. -/
set_option linter.unusedSimpArgs false
set_option linter.unusedVariables false
set_option maxRecDepth 100000
namespace Go.Proofs.Ytapbhhehnbfdfaa
open Go.RowKit

end Go.Proofs.Ytapbhhehnbfdfaa
