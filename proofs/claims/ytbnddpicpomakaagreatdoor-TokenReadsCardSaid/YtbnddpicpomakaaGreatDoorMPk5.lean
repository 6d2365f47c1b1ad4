/- Several texts of one proof, one behind the other. -/
import Derived.Test.YtbnddpicpomakaaGreatDoorMPk4
import Derived.Sort.Walk0
set_option linter.unusedSimpArgs false
set_option linter.unusedVariables false

/- The walks of cell.arith at its five operations. -/
set_option linter.unusedSimpArgs false
set_option linter.unusedVariables false
set_option maxRecDepth 100000
namespace Go.Proofs.YtbnddpicpomakaaGreatDoor
open Go.RowKit

/-- A variable of three cells, which may be written. -/
def Slot (w : World) (b : Nat) (v0 v1 v2 : Value) : Prop :=
  w.cell? ⟨b, 0, none⟩ = some v0 ∧ w.cell? ⟨b, 1, none⟩ = some v1 ∧ w.cell? ⟨b, 2, none⟩ = some v2 ∧ w.frozen? ⟨b, 0, none⟩ = false ∧ w.frozen? ⟨b, 1, none⟩ = false ∧ w.frozen? ⟨b, 2, none⟩ = false

theorem Slot.later {w w' : World} {b : Nat} {v0 v1 v2 : Value} (h : Slot w b v0 v1 v2) (hl : Later w w') (hb : b < w.heap.size) : Slot w' b v0 v1 v2 := by
  obtain ⟨h0, h1, h2, f0, f1, f2⟩ := h
  exact ⟨(hl.cell (p := ⟨b, 0, none⟩) hb).trans h0, (hl.cell (p := ⟨b, 1, none⟩) hb).trans h1, (hl.cell (p := ⟨b, 2, none⟩) hb).trans h2,
    (hl.frozen (p := ⟨b, 0, none⟩) hb).trans f0, (hl.frozen (p := ⟨b, 1, none⟩) hb).trans f1, (hl.frozen (p := ⟨b, 2, none⟩) hb).trans f2⟩

theorem Slot.new (w : World) (T : TypeId) (v0 v1 v2 : Value) : Slot (w.alloc (.cells #[v0, v1, v2] T)) w.heap.size v0 v1 v2 := by
  refine ⟨?_, ?_, ?_, ?_, ?_, ?_⟩
  · rw [World.cell?_alloc_new]; rfl
  · rw [World.cell?_alloc_new]; rfl
  · rw [World.cell?_alloc_new]; rfl
  · simp only [World.frozen?]; rw [heap_alloc_new]; simp
  · simp only [World.frozen?]; rw [heap_alloc_new]; simp
  · simp only [World.frozen?]; rw [heap_alloc_new]; simp

/-- Three variables, one behind the other. -/
theorem slots3 (w : World) (T : TypeId) (a0 a1 a2 b0 b1 b2 c0 c1 c2 : Value) (w' : World) (hl : Later (((w.alloc (.cells #[a0, a1, a2] T)).alloc (.cells #[b0, b1, b2] T)).alloc (.cells #[c0, c1, c2] T)) w') :
    Slot w' w.heap.size a0 a1 a2 ∧ Slot w' (w.heap.size + 1) b0 b1 b2 ∧ Slot w' (w.heap.size + 1 + 1) c0 c1 c2 ∧ w.heap.size + 3 ≤ w'.heap.size := by
  have e1 : (w.alloc (.cells #[a0, a1, a2] T)).heap.size = w.heap.size + 1 := by simp
  have e2 : ((w.alloc (.cells #[a0, a1, a2] T)).alloc (.cells #[b0, b1, b2] T)).heap.size = w.heap.size + 1 + 1 := by simp
  have e3 : (((w.alloc (.cells #[a0, a1, a2] T)).alloc (.cells #[b0, b1, b2] T)).alloc (.cells #[c0, c1, c2] T)).heap.size = w.heap.size + 1 + 1 + 1 := by simp
  have l1 : Later (w.alloc (.cells #[a0, a1, a2] T)) ((w.alloc (.cells #[a0, a1, a2] T)).alloc (.cells #[b0, b1, b2] T)) := (Below.refl _ _).alloc (Nat.le_refl _) _
  have l2 : Later ((w.alloc (.cells #[a0, a1, a2] T)).alloc (.cells #[b0, b1, b2] T)) (((w.alloc (.cells #[a0, a1, a2] T)).alloc (.cells #[b0, b1, b2] T)).alloc (.cells #[c0, c1, c2] T)) := (Below.refl _ _).alloc (Nat.le_refl _) _
  refine ⟨(((Slot.new w T a0 a1 a2).later l1 (by rw [e1]; omega)).later l2 (by rw [e2]; omega)).later hl (by rw [e3]; omega), ?_, ?_, ?_⟩
  · have := (Slot.new (w.alloc (.cells #[a0, a1, a2] T)) T b0 b1 b2)
    rw [e1] at this
    exact (this.later l2 (by rw [e2]; omega)).later hl (by rw [e3]; omega)
  · have := (Slot.new ((w.alloc (.cells #[a0, a1, a2] T)).alloc (.cells #[b0, b1, b2] T)) T c0 c1 c2)
    rw [e2] at this
    exact this.later hl (by rw [e3]; omega)
  · have := hl.size
    rw [e3] at this; omega

/-- A call hands back a value and an error. -/
def RetV (w : World) (r : Vl × Int) (e : Ending) (w' : World) : Prop :=
  e = .returned (.tuple #[.agg #[.int .u8 r.1.k, .int .i64 r.1.n, .string r.1.s], .int .i64 r.2]) ∧ Below w.heap.size w w'

theorem right_null {n : Int} {s : ByteArray} (h : Vl.right ⟨0, n, s⟩ = true) : n = 0 ∧ s = ⟨#[]⟩ := by
  simp [Vl.right] at h
  exact ⟨h.1, h.2⟩
theorem right_num {n : Int} {s : ByteArray} (h : Vl.right ⟨1, n, s⟩ = true) : s = ⟨#[]⟩ := by
  simp [Vl.right] at h
  exact h

end Go.Proofs.YtbnddpicpomakaaGreatDoor

/- The walks of cell.arith where an argument is null. -/
set_option linter.unusedSimpArgs false
set_option linter.unusedVariables false
set_option maxRecDepth 100000
namespace Go.Proofs.YtbnddpicpomakaaGreatDoor
open Go.RowKit

theorem right_n : Vl.right ⟨0, 0, ⟨#[]⟩⟩ = true := by decide
theorem right_i (n : Int) : Vl.right ⟨1, n, ⟨#[]⟩⟩ = true := by simp [Vl.right]; rfl
theorem num0 : decide (0 ≤ 1) = true := by decide
theorem num1 : decide (1 ≤ 1) = true := by decide

theorem right_cases0 (x : Vl) (h : x.right = true) (hk : x.k ≤ 1) : x = ⟨0, 0, ⟨#[]⟩⟩ ∨ x = ⟨1, x.n, ⟨#[]⟩⟩ := by
  obtain ⟨k, n, s⟩ := x
  rcases kinds k with rfl | rfl | rfl | rfl | h3
  · obtain ⟨rfl, rfl⟩ := right_null h; exact .inl rfl
  · have := right_num h; subst this; exact .inr rfl
  · simp only at hk; omega
  · simp only at hk; omega
  · simp only at hk; omega

end Go.Proofs.YtbnddpicpomakaaGreatDoor

/- The walks of cell.Truth, Bool, Not. -/
set_option linter.unusedSimpArgs false
set_option linter.unusedVariables false
set_option maxRecDepth 100000
namespace Go.Proofs.YtbnddpicpomakaaGreatDoor
open Go.RowKit

theorem slots1 (w : World) (T : TypeId) (a0 a1 a2 : Value) (w' : World) (hl : Later (w.alloc (.cells #[a0, a1, a2] T)) w') :
    Slot w' w.heap.size a0 a1 a2 ∧ w.heap.size + 1 ≤ w'.heap.size := by
  have e1 : (w.alloc (.cells #[a0, a1, a2] T)).heap.size = w.heap.size + 1 := by simp
  refine ⟨(Slot.new w T a0 a1 a2).later hl (by rw [e1]; omega), ?_⟩
  have := hl.size
  rw [e1] at this; omega

theorem slots2 (w : World) (T : TypeId) (a0 a1 a2 b0 b1 b2 : Value) (w' : World) (hl : Later ((w.alloc (.cells #[a0, a1, a2] T)).alloc (.cells #[b0, b1, b2] T)) w') :
    Slot w' w.heap.size a0 a1 a2 ∧ Slot w' (w.heap.size + 1) b0 b1 b2 ∧ w.heap.size + 2 ≤ w'.heap.size := by
  have e1 : (w.alloc (.cells #[a0, a1, a2] T)).heap.size = w.heap.size + 1 := by simp
  have e2 : ((w.alloc (.cells #[a0, a1, a2] T)).alloc (.cells #[b0, b1, b2] T)).heap.size = w.heap.size + 1 + 1 := by simp
  have l1 : Later (w.alloc (.cells #[a0, a1, a2] T)) ((w.alloc (.cells #[a0, a1, a2] T)).alloc (.cells #[b0, b1, b2] T)) := (Below.refl _ _).alloc (Nat.le_refl _) _
  refine ⟨((Slot.new w T a0 a1 a2).later l1 (by rw [e1]; omega)).later hl (by rw [e2]; omega), ?_, ?_⟩
  · have := (Slot.new (w.alloc (.cells #[a0, a1, a2] T)) T b0 b1 b2)
    rw [e1] at this
    exact this.later hl (by rw [e2]; omega)
  · have := hl.size
    rw [e2] at this; omega

/-- What Truth answers: is it true, is that known, the error. -/
def truthT (x : Vl) : Bool × Bool × Int :=
  if x.right = false then (false, false, 3) else if 1 < x.k then (false, false, 20) else if x.k = 0 then (false, false, 0) else (x.n != 0, true, 0)

def RetT (w : World) (r : Bool × Bool × Int) (e : Ending) (w' : World) : Prop :=
  e = .returned (.tuple #[.bool r.1, .bool r.2.1, .int .i64 r.2.2]) ∧ Below w.heap.size w w'

def boolV (b : Bool) : Vl := numV (if b then 1 else 0)
end Go.Proofs.YtbnddpicpomakaaGreatDoor

/- The walks of cell.Bool, Not, decide, And, Or. -/
set_option linter.unusedSimpArgs false
set_option linter.unusedVariables false
set_option maxRecDepth 100000
namespace Go.Proofs.YtbnddpicpomakaaGreatDoor
open Go.RowKit

/-- What Not answers. -/
def notV (x : Vl) : Vl × Int :=
  if (truthT x).2.2 ≠ 0 then (nullV, (truthT x).2.2) else if (truthT x).2.1 = false then (nullV, 0) else (boolV (!(truthT x).1), 0)

/-- What decide answers. -/
def decideV (win : Bool) (a b : Vl) : Vl × Int :=
  if a.right = false ∨ b.right = false then (nullV, 3)
  else if 1 < a.k ∨ 1 < b.k then (nullV, 20)
  else if (truthT a).2.1 = true ∧ (truthT a).1 = win ∨ (truthT b).2.1 = true ∧ (truthT b).1 = win then (boolV win, 0)
  else if (truthT a).2.1 = false ∨ (truthT b).2.1 = false then (nullV, 0)
  else (boolV (!win), 0)

/-- Two truths and the winner decide. -/
def decideB (win y1 kn1 y2 kn2 : Bool) : Vl × Int :=
  if kn1 = true ∧ y1 = win ∨ kn2 = true ∧ y2 = win then (boolV win, 0) else if kn1 = false ∨ kn2 = false then (nullV, 0) else (boolV (!win), 0)

theorem truth_num (x : Vl) (h : x.right = true) (hk : x.k ≤ 1) : (truthT x).2.2 = 0 := by
  unfold truthT
  rw [if_neg (by simp [h]), if_neg (by omega)]
  split <;> rfl

theorem truth_type (x : Vl) (h : x.right = true) (hk : ¬ x.k ≤ 1) : truthT x = (false, false, 20) := by
  unfold truthT
  rw [if_neg (by simp [h]), if_pos (by omega)]

end Go.Proofs.YtbnddpicpomakaaGreatDoor

/- The walks of cmp.Compare, cell.Order and cell.Compare. -/
set_option linter.unusedSimpArgs false
set_option linter.unusedVariables false
set_option maxRecDepth 100000
namespace Go.Proofs.YtbnddpicpomakaaGreatDoor
open Go.RowKit

def cmpI (x y : Int) : Int := if x < y then -1 else if y < x then 1 else 0
def cmpS (s t : ByteArray) : Int := if Op.bytesLess s.toList t.toList then -1 else if s.toList == t.toList then 0 else 1

/-- The order of two values. -/
def orderV (a b : Vl) : Int :=
  if a = b ∨ a.right = false ∨ b.right = false then 0 else if a.k ≠ b.k then cmpI a.k b.k else if a.n ≠ b.n then cmpI a.n b.n else cmpS a.s b.s

theorem toList_inj {s t : ByteArray} (h : s.toList = t.toList) : s = t := by
  rw [ByteArray.toList_eq, ByteArray.toList_eq] at h
  exact ByteArray.ext (Array.toList_inj.1 h)

theorem ne_bool (k1 k2 : Nat) (n1 n2 : Int) (s1 s2 : ByteArray) (h : (⟨k1, n1, s1⟩ : Vl) ≠ ⟨k2, n2, s2⟩) : ((k1 : Int) == (k2 : Int) && (n1 == n2 && s1.toList == s2.toList)) = false := by
  rw [Bool.eq_false_iff]
  intro hh
  simp only [Bool.and_eq_true, beq_iff_eq] at hh
  obtain ⟨e1, e2, e3⟩ := hh
  apply h
  rw [show k1 = k2 by omega, e2, toList_inj e3]

def RetI (w : World) (n : Int) (e : Ending) (w' : World) : Prop := e = .returned (.int .i64 n) ∧ Below w.heap.size w w'

end Go.Proofs.YtbnddpicpomakaaGreatDoor

/- The walk of cell.Compare. -/
set_option linter.unusedSimpArgs false
set_option linter.unusedVariables false
set_option maxRecDepth 100000
namespace Go.Proofs.YtbnddpicpomakaaGreatDoor
open Go.RowKit

/-- What Compare answers. -/
def compareV (a b : Vl) : Int × Bool × Int :=
  if a.right = false ∨ b.right = false then (0, false, 3) else if a.k = 0 ∨ b.k = 0 then (0, false, 0) else if a.k ≠ b.k then (0, false, 20) else (orderV a b, true, 0)

def RetC (w : World) (r : Int × Bool × Int) (e : Ending) (w' : World) : Prop := e = .returned (.tuple #[.int .i64 r.1, .bool r.2.1, .int .i64 r.2.2]) ∧ Below w.heap.size w w'

theorem right_null0 (x : Vl) (h : x.right = true) (hk : x.k = 0) : x = ⟨0, 0, ⟨#[]⟩⟩ := by
  obtain ⟨k, n, s⟩ := x
  simp only at hk
  subst hk
  obtain ⟨rfl, rfl⟩ := right_null h
  rfl

end Go.Proofs.YtbnddpicpomakaaGreatDoor

/- Plain mathematics of the order of values: it is total. -/
set_option linter.unusedSimpArgs false
set_option linter.unusedVariables false
set_option maxRecDepth 100000
namespace Go.Proofs.YtbnddpicpomakaaGreatDoor
open Go.RowKit

def ltV (a b : Vl) : Prop := a.k < b.k ∨ (a.k = b.k ∧ (a.n < b.n ∨ (a.n = b.n ∧ a.s.toList < b.s.toList)))

theorem less_lt (s t : List UInt8) : Op.bytesLess s t = decide (s < t) := bytesLess_eq s t

theorem ltV_irrefl (a : Vl) : ¬ ltV a a := by
  rintro (h | ⟨_, h | ⟨_, h⟩⟩)
  · omega
  · omega
  · exact List.lt_irrefl _ h

theorem ltV_trans {a b c : Vl} (h : ltV a b) (k : ltV b c) : ltV a c := by
  rcases h with h | ⟨h1, h | ⟨h2, h⟩⟩ <;> rcases k with k | ⟨k1, k | ⟨k2, k⟩⟩
  · exact .inl (by omega)
  · exact .inl (by omega)
  · exact .inl (by omega)
  · exact .inl (by omega)
  · exact .inr ⟨by omega, .inl (by omega)⟩
  · exact .inr ⟨by omega, .inl (by omega)⟩
  · exact .inl (by omega)
  · exact .inr ⟨by omega, .inl (by omega)⟩
  · exact .inr ⟨by omega, .inr ⟨by omega, List.lt_trans h k⟩⟩

theorem list_tri (s t : List UInt8) (h : s ≠ t) : s < t ∨ t < s := by
  by_cases h1 : s < t
  · exact .inl h1
  · by_cases h2 : t < s
    · exact .inr h2
    · exact absurd (List.le_antisymm (List.not_lt.1 h2) (List.not_lt.1 h1)) h

theorem ltV_total (a b : Vl) (h : a ≠ b) : ltV a b ∨ ltV b a := by
  by_cases h1 : a.k = b.k
  · by_cases h2 : a.n = b.n
    · have hs : a.s.toList ≠ b.s.toList := by
        intro hs
        apply h
        obtain ⟨k, n, s⟩ := a
        obtain ⟨k', n', s'⟩ := b
        simp only at h1 h2 hs
        rw [h1, h2, toList_inj hs]
      rcases list_tri _ _ hs with h3 | h3
      · exact .inl (.inr ⟨h1, .inr ⟨h2, h3⟩⟩)
      · exact .inr (.inr ⟨h1.symm, .inr ⟨h2.symm, h3⟩⟩)
    · rcases Int.lt_or_gt_of_ne h2 with h3 | h3
      · exact .inl (.inr ⟨h1, .inl h3⟩)
      · exact .inr (.inr ⟨h1.symm, .inl h3⟩)
  · rcases Nat.lt_or_gt_of_ne h1 with h3 | h3
    · exact .inl (.inl h3)
    · exact .inr (.inl h3)

open Classical in
theorem orderV_lt (a b : Vl) (ha : a.right = true) (hb : b.right = true) : orderV a b = if a = b then 0 else if ltV a b then -1 else 1 := by
  unfold orderV
  by_cases hab : a = b
  · rw [if_pos (.inl hab), if_pos hab]
  · rw [if_neg (by simp [hab, ha, hb]), if_neg hab]
    by_cases h1 : a.k = b.k
    · rw [if_neg (by simp [h1])]
      by_cases h2 : a.n = b.n
      · rw [if_neg (by simp [h2])]
        have hs : a.s.toList ≠ b.s.toList := by
          intro hs
          apply hab
          obtain ⟨k, n, s⟩ := a
          obtain ⟨k', n', s'⟩ := b
          simp only at h1 h2 hs
          rw [h1, h2, toList_inj hs]
        unfold cmpS
        rw [less_lt]
        by_cases h3 : a.s.toList < b.s.toList
        · rw [if_pos (by simpa using h3), if_pos (.inr ⟨h1, .inr ⟨h2, h3⟩⟩)]
        · rw [if_neg (by simpa using h3), if_neg (by simpa using hs), if_neg]
          rintro (h | ⟨_, h | ⟨_, h⟩⟩)
          · omega
          · omega
          · exact h3 h
      · rw [if_pos (by simpa using h2)]
        unfold cmpI
        by_cases h3 : a.n < b.n
        · rw [if_pos h3, if_pos (.inr ⟨h1, .inl h3⟩)]
        · rw [if_neg h3, if_pos (by omega), if_neg]
          rintro (h | ⟨_, h | ⟨h, _⟩⟩) <;> omega
    · rw [if_pos (by simpa using h1)]
      unfold cmpI
      by_cases h3 : a.k < b.k
      · rw [if_pos (by omega), if_pos (.inl h3)]
      · rw [if_neg (by omega), if_pos (by omega), if_neg]
        rintro (h | ⟨h, _⟩) <;> omega

/-- What the law asks of the order. -/
theorem order_total (a b c : Vl) (ha : a.right = true) (hb : b.right = true) (hc : c.right = true) :
    orderV a b = -orderV b a ∧ (orderV a b = 0 ↔ a = b) ∧ ¬ (orderV a b < 0 ∧ orderV b c < 0 ∧ 0 ≤ orderV a c) ∧ ¬ (orderV a b ≤ 0 ∧ orderV b c ≤ 0 ∧ 0 < orderV a c) ∧ -1 ≤ orderV a b ∧ orderV a b ≤ 1 := by
  rw [orderV_lt a b ha hb, orderV_lt b a hb ha, orderV_lt b c hb hc, orderV_lt a c ha hc]
  by_cases hab : a = b
  · subst hab
    rw [if_pos rfl]
    refine ⟨by simp, by simp, by omega, ?_, by omega, by omega⟩
    intro h; omega
  · have hba : ¬ b = a := fun h => hab h.symm
    rw [if_neg hab, if_neg hba]
    rcases ltV_total a b hab with h1 | h1
    · have h1' : ¬ ltV b a := fun h => ltV_irrefl a (ltV_trans h1 h)
      rw [if_pos h1, if_neg h1']
      refine ⟨by omega, by simp [hab], ?_, ?_, by omega, by omega⟩
      · rintro ⟨_, h2, h3⟩
        by_cases hbc : b = c
        · rw [if_pos hbc] at h2; omega
        · rw [if_neg hbc] at h2
          by_cases hl : ltV b c
          · have hac := ltV_trans h1 hl
            have hne : a ≠ c := fun h => ltV_irrefl a (by rw [h] at hac ⊢; exact hac)
            rw [if_neg hne, if_pos hac] at h3; omega
          · rw [if_neg hl] at h2; omega
      · rintro ⟨_, h2, h3⟩
        by_cases hbc : b = c
        · subst hbc
          rw [if_neg hab, if_pos h1] at h3; omega
        · rw [if_neg hbc] at h2
          by_cases hl : ltV b c
          · have hac := ltV_trans h1 hl
            have hne : a ≠ c := fun h => ltV_irrefl a (by rw [h] at hac ⊢; exact hac)
            rw [if_neg hne, if_pos hac] at h3; omega
          · rw [if_neg hl] at h2; omega
    · have h1' : ¬ ltV a b := fun h => ltV_irrefl a (ltV_trans h h1)
      rw [if_neg h1', if_pos h1]
      refine ⟨by omega, by simp [hab], by omega, by omega, by omega, by omega⟩

end Go.Proofs.YtbnddpicpomakaaGreatDoor

/- The walks of slices.IndexFunc and slices.ContainsFunc over cells and over pages. -/
set_option linter.unusedSimpArgs false
set_option linter.unusedVariables false
set_option maxRecDepth 100000
namespace Go.Proofs.YtbnddpicpomakaaGreatDoor
open Go.RowKit

/-- Where the first wrong one is: -1 if there is none. -/
def RetFi (w : World) (all : Bool) (e : Ending) (w' : World) : Prop := ∃ r : Int, e = .returned (.int .i64 r) ∧ (decide (0 ≤ r) = !all) ∧ -1 ≤ r ∧ Below w.heap.size w w'

theorem all_takeG {α : Type} (p : α → Bool) (l : List α) (k : Nat) (h : k < l.length) : (l.take (k + 1)).all p = ((l.take k).all p && p l[k]) := by
  rw [List.take_succ_eq_append_getElem h, List.all_append]; simp only [List.all_cons, List.all_nil, Bool.and_true]

theorem all_falseG {α : Type} (p : α → Bool) (l : List α) (k : Nat) (h : k < l.length) (hk : p l[k] = false) : l.all p = false := by
  rw [List.all_eq_false]
  exact ⟨l[k], List.getElem_mem h, by simp [hk]⟩

open Classical in
theorem keysOk_yes {l : List ByteArray} (h : KeysOk l) : keysOk l = true := decide_eq_true h
open Classical in
theorem keysOk_no {l : List ByteArray} (h : ¬ KeysOk l) : keysOk l = false := decide_eq_false h

theorem less_yes {p y : ByteArray} (h : lessK p y = true) : Op.bytesLess y.toList p.toList = false ∧ (y.toList == p.toList) = false := by
  unfold lessK at h
  rw [less_lt] at h ⊢
  have h1 : p.toList < y.toList := of_decide_eq_true h
  refine ⟨decide_eq_false (List.lt_asymm h1), ?_⟩
  rw [beq_eq_false_iff_ne]
  intro h2
  rw [h2] at h1
  exact List.lt_irrefl _ h1
theorem less_no {p y : ByteArray} (h : lessK p y = false) : Op.bytesLess y.toList p.toList = true ∨ (Op.bytesLess y.toList p.toList = false ∧ (y.toList == p.toList) = true) := by
  unfold lessK at h
  rw [less_lt] at h ⊢
  have h1 : ¬ p.toList < y.toList := of_decide_eq_false h
  by_cases h2 : y.toList = p.toList
  · exact .inr ⟨decide_eq_false (by rw [h2]; exact List.lt_irrefl _), by simpa using h2⟩
  · exact .inl (decide_eq_true ((list_tri _ _ h2).resolve_right h1))

end Go.Proofs.YtbnddpicpomakaaGreatDoor
