/- Several texts of one proof, one behind the other. -/
import Derived.Test.YtapbhhehnbfdfaaWPk17
set_option linter.unusedSimpArgs false
set_option linter.unusedVariables false

/- The walk of hindsightlaw02.alive. -/
set_option linter.unusedSimpArgs false
set_option linter.unusedVariables false
set_option maxRecDepth 100000
namespace Go.Proofs.Ytapbhhehnbfdfaa
open Go.RowKit

/-- Variables that stand are there in every later world. -/
theorem Slot.on {w w' : World} {b : Nat} {v0 v1 v2 : Value} (h : Slot w b v0 v1 v2) (hl : Later w w') : Slot w' b v0 v1 v2 := h.later hl (World.block_lt_of_cell? _ _ h.1)

theorem Slot.drew {w : World} {b : Nat} {v0 v1 v2 : Value} (h : Slot w b v0 v1 v2) : Slot w.drew b v0 v1 v2 := h

/-- A variable that a call's result is laid in: behind the next call. -/
theorem slotN (w : World) (T : TypeId) (a0 a1 a2 : Value) (w' : World) (hl : Later (w.alloc (.cells #[a0, a1, a2] T)) w') : Slot w' w.heap.size a0 a1 a2 ∧ Later w w' :=
  ⟨(slots1 w T a0 a1 a2 w' hl).1, Later.trans (Below.box w _) hl⟩

theorem ok_num (n : Int) (h1 : -9223372036854775808 ≤ n) (h2 : n ≤ 9223372036854775807) : (numV n).ok := ⟨by show 1 < 256; omega, h1, h2⟩
theorem ok_null : nullV.ok := ⟨by show 0 < 256; omega, by show -9223372036854775808 ≤ (0 : Int); omega, by show (0 : Int) ≤ 9223372036854775807; omega⟩

end Go.Proofs.Ytapbhhehnbfdfaa

/- The walk of the law CellTotal. -/
set_option linter.unusedSimpArgs false
set_option linter.unusedVariables false
set_option maxRecDepth 100000
namespace Go.Proofs.Ytapbhhehnbfdfaa
open Go.RowKit

end Go.Proofs.Ytapbhhehnbfdfaa

/- The walks of the reference's Order and Compare. -/
set_option linter.unusedSimpArgs false
set_option linter.unusedVariables false
set_option maxRecDepth 100000
namespace Go.Proofs.Ytapbhhehnbfdfaa
open Go.RowKit

end Go.Proofs.Ytapbhhehnbfdfaa

/- The walks of record.Order and the reference's Order of rows. -/
set_option linter.unusedSimpArgs false
set_option linter.unusedVariables false
set_option maxRecDepth 100000
namespace Go.Proofs.Ytapbhhehnbfdfaa
open Go.RowKit

/-- The order of two rows. -/
def lexO : List Vl → List Vl → Int
  | [], [] => 0
  | [], _ :: _ => -1
  | _ :: _, [] => 1
  | x :: l, y :: m => if orderV x y = 0 then lexO l m else orderV x y

theorem orderV_bd (x y : Vl) : -1 ≤ orderV x y ∧ orderV x y ≤ 1 := by
  unfold orderV cmpI cmpS
  repeat' split
  all_goals omega

theorem lexO_drop {l m : List Vl} {k : Nat} (hk : k < l.length) (hm : k < m.length) : lexO (l.drop k) (m.drop k) = if orderV l[k] m[k] = 0 then lexO (l.drop (k + 1)) (m.drop (k + 1)) else orderV l[k] m[k] := by
  rw [List.drop_eq_getElem_cons hk, List.drop_eq_getElem_cons hm, lexO]

end Go.Proofs.Ytapbhhehnbfdfaa

/- Plain mathematics of layer 4: keys stand as their tuples do; what lies behind all that begin with some bytes. -/
set_option linter.unusedSimpArgs false
set_option linter.unusedVariables false
set_option maxRecDepth 100000
namespace Go.Proofs.Ytapbhhehnbfdfaa
open Go.RowKit


theorem lt_cons {a b : Nat} {l m : List Nat} : (a :: l < b :: m) ↔ (a < b ∨ (a = b ∧ l < m)) := List.cons_lt_cons_iff

theorem app_lt : ∀ (p : List Nat) {l m : List Nat}, (p ++ l < p ++ m) ↔ l < m
  | [], l, m => by simp
  | c :: p, l, m => by
    rw [List.cons_append, List.cons_append, lt_cons, app_lt p]
    constructor
    · rintro (h | ⟨_, h⟩)
      · omega
      · exact h
    · exact fun h => .inr ⟨rfl, h⟩

theorem nil_lt {l : List Nat} (h : l ≠ []) : ([] : List Nat) < l := by
  cases l with
  | nil => exact absurd rfl h
  | cons c r => exact List.nil_lt_cons c r

/-- Two marked strings, with their ends. -/
theorem esc_lt (A B : List Nat) : ∀ (s t : List Nat), (escL s ++ (0 :: 1 :: A) < escL t ++ (0 :: 1 :: B)) ↔ (s < t ∨ (s = t ∧ A < B))
  | [], [] => by
    rw [show escL [] = [] from rfl, List.nil_append, List.nil_append, lt_cons, lt_cons]
    simp
  | [], d :: t => by
    have hl : ([] : List Nat) < d :: t := nil_lt (by simp)
    have : ([] : List Nat) ≠ d :: t := by simp
    simp only [hl, this, true_or, iff_true]
    by_cases hd : d = 0
    · subst hd
      rw [escL_cons0, show escL [] = [] from rfl, List.nil_append, List.cons_append, List.cons_append, lt_cons, lt_cons]
      omega
    · rw [escL_cons hd, show escL [] = [] from rfl, List.nil_append, List.cons_append, lt_cons]
      omega
  | c :: s, [] => by
    have hl : ¬ (c :: s < []) := List.not_lt_nil _
    have : c :: s ≠ [] := by simp
    simp only [hl, this, false_or, false_and, iff_false]
    by_cases hc : c = 0
    · subst hc
      rw [escL_cons0, show escL [] = [] from rfl, List.nil_append, List.cons_append, List.cons_append, lt_cons, lt_cons]
      omega
    · rw [escL_cons hc, show escL [] = [] from rfl, List.nil_append, List.cons_append, lt_cons]
      omega
  | c :: s, d :: t => by
    have ih := esc_lt A B s t
    rw [lt_cons]
    simp only [List.cons.injEq]
    by_cases hc : c = 0 <;> by_cases hd : d = 0
    · subst hc hd
      rw [escL_cons0, escL_cons0]
      simp only [List.cons_append, lt_cons, ih]
      simp
    · subst hc
      rw [escL_cons0, escL_cons hd]
      simp only [List.cons_append, lt_cons]
      constructor
      · rintro (h | ⟨h, _⟩)
        · exact .inl (.inl h)
        · omega
      · rintro ((h | ⟨h, _⟩) | ⟨⟨h, _⟩, _⟩)
        · exact .inl h
        · omega
        · omega
    · subst hd
      rw [escL_cons0, escL_cons hc]
      simp only [List.cons_append, lt_cons]
      constructor
      · rintro (h | ⟨h, _⟩) <;> omega
      · rintro ((h | ⟨h, _⟩) | ⟨⟨h, _⟩, _⟩) <;> omega
    · rw [escL_cons hc, escL_cons hd]
      simp only [List.cons_append, lt_cons, ih]
      constructor
      · rintro (h | ⟨h, h2 | ⟨h2, h3⟩⟩)
        · exact .inl (.inl h)
        · exact .inl (.inr ⟨h, h2⟩)
        · exact .inr ⟨⟨h, h2⟩, h3⟩
      · rintro ((h | ⟨h, h2⟩) | ⟨⟨h, h2⟩, h3⟩)
        · exact .inl h
        · exact .inr ⟨h, .inl h2⟩
        · exact .inr ⟨h, .inr ⟨h2, h3⟩⟩

theorem dig_step (q m n : Nat) (hq : 0 < q) (hm : m < 256 * q) (hn : n < 256 * q) (X Y : List Nat) (P : Prop) (h : (X < Y) ↔ (m % q < n % q ∨ (m % q = n % q ∧ P))) :
    ((m / q % 256) :: X < (n / q % 256) :: Y) ↔ (m < n ∨ (m = n ∧ P)) := by
  have h1 : m / q < 256 := by rw [Nat.div_lt_iff_lt_mul hq]; exact hm
  have h2 : n / q < 256 := by rw [Nat.div_lt_iff_lt_mul hq]; exact hn
  rw [Nat.mod_eq_of_lt h1, Nat.mod_eq_of_lt h2, lt_cons, h]
  have e1 := Nat.div_add_mod m q
  have e2 := Nat.div_add_mod n q
  have l1 := Nat.mod_lt m hq
  have l2 := Nat.mod_lt n hq
  rcases Nat.lt_trichotomy (m / q) (n / q) with hlt | heq | hgt
  · have hmn : m < n := Nat.lt_of_not_le fun hle => by have := Nat.div_le_div_right (c := q) hle; omega
    constructor
    · exact fun _ => .inl hmn
    · exact fun _ => .inl hlt
  · rw [heq] at e1
    generalize q * (n / q) = z at e1 e2
    constructor
    · rintro (h | ⟨_, h | ⟨h, hp⟩⟩)
      · omega
      · left; omega
      · right; exact ⟨by omega, hp⟩
    · rintro (h | ⟨h, hp⟩)
      · exact .inr ⟨heq, .inl (by omega)⟩
      · exact .inr ⟨heq, .inr ⟨by omega, hp⟩⟩
  · have hmn : n < m := Nat.lt_of_not_le fun hle => by have := Nat.div_le_div_right (c := q) hle; omega
    constructor
    · rintro (h | ⟨h, _⟩) <;> omega
    · rintro (h | ⟨h, _⟩) <;> omega

theorem whole8_chain (m : Nat) (A : List Nat) : whole8 m ++ A = (m / 72057594037927936 % 256) :: (m % 72057594037927936 / 281474976710656 % 256) :: (m % 72057594037927936 % 281474976710656 / 1099511627776 % 256) ::
    (m % 72057594037927936 % 281474976710656 % 1099511627776 / 4294967296 % 256) :: (m % 72057594037927936 % 281474976710656 % 1099511627776 % 4294967296 / 16777216 % 256) ::
    (m % 72057594037927936 % 281474976710656 % 1099511627776 % 4294967296 % 16777216 / 65536 % 256) :: (m % 72057594037927936 % 281474976710656 % 1099511627776 % 4294967296 % 16777216 % 65536 / 256 % 256) ::
    (m % 72057594037927936 % 281474976710656 % 1099511627776 % 4294967296 % 16777216 % 65536 % 256) :: A := by
  simp only [whole8, List.cons_append, List.nil_append, List.cons.injEq, and_true, true_and]
  omega

theorem whole8_lt_iff (m n : Nat) (hm : m < 18446744073709551616) (hn : n < 18446744073709551616) (A B : List Nat) : (whole8 m ++ A < whole8 n ++ B) ↔ (m < n ∨ (m = n ∧ A < B)) := by
  rw [whole8_chain, whole8_chain]
  refine dig_step 72057594037927936 m n (by omega) (by omega) (by omega) _ _ _ ?_
  have h1 : m % 72057594037927936 < 72057594037927936 := Nat.mod_lt _ (by omega)
  have h2 : n % 72057594037927936 < 72057594037927936 := Nat.mod_lt _ (by omega)
  generalize m % 72057594037927936 = m at *
  generalize n % 72057594037927936 = n at *
  refine dig_step 281474976710656 m n (by omega) (by omega) (by omega) _ _ _ ?_
  have h1 : m % 281474976710656 < 281474976710656 := Nat.mod_lt _ (by omega)
  have h2 : n % 281474976710656 < 281474976710656 := Nat.mod_lt _ (by omega)
  generalize m % 281474976710656 = m at *
  generalize n % 281474976710656 = n at *
  refine dig_step 1099511627776 m n (by omega) (by omega) (by omega) _ _ _ ?_
  have h1 : m % 1099511627776 < 1099511627776 := Nat.mod_lt _ (by omega)
  have h2 : n % 1099511627776 < 1099511627776 := Nat.mod_lt _ (by omega)
  generalize m % 1099511627776 = m at *
  generalize n % 1099511627776 = n at *
  refine dig_step 4294967296 m n (by omega) (by omega) (by omega) _ _ _ ?_
  have h1 : m % 4294967296 < 4294967296 := Nat.mod_lt _ (by omega)
  have h2 : n % 4294967296 < 4294967296 := Nat.mod_lt _ (by omega)
  generalize m % 4294967296 = m at *
  generalize n % 4294967296 = n at *
  refine dig_step 16777216 m n (by omega) (by omega) (by omega) _ _ _ ?_
  have h1 : m % 16777216 < 16777216 := Nat.mod_lt _ (by omega)
  have h2 : n % 16777216 < 16777216 := Nat.mod_lt _ (by omega)
  generalize m % 16777216 = m at *
  generalize n % 16777216 = n at *
  refine dig_step 65536 m n (by omega) (by omega) (by omega) _ _ _ ?_
  have h1 : m % 65536 < 65536 := Nat.mod_lt _ (by omega)
  have h2 : n % 65536 < 65536 := Nat.mod_lt _ (by omega)
  generalize m % 65536 = m at *
  generalize n % 65536 = n at *
  refine dig_step 256 m n (by omega) (by omega) (by omega) _ _ _ ?_
  exact lt_cons

theorem bytes_lt_iff (s t : ByteArray) : s.toList < t.toList ↔ bytesOf s < bytesOf t := by
  have e : ∀ (a b : List UInt8), a < b ↔ a.map UInt8.toNat < b.map UInt8.toNat := by
    intro a
    induction a with
    | nil =>
      intro b
      cases b with
      | nil => simp
      | cons y b => simp
    | cons x a ih =>
      intro b
      cases b with
      | nil => simp
      | cons y b =>
        rw [List.map_cons, List.map_cons, List.cons_lt_cons_iff, List.cons_lt_cons_iff, ih b, UInt8.lt_iff_toNat_lt]
        constructor
        · rintro (h | ⟨rfl, h⟩)
          · exact .inl h
          · exact .inr ⟨rfl, h⟩
        · rintro (h | ⟨h1, h⟩)
          · exact .inl h
          · exact .inr ⟨UInt8.toNat_inj.1 h1, h⟩
  unfold bytesOf
  rw [ByteArray.toList_eq s, ByteArray.toList_eq t]
  exact e _ _

theorem encK_lt_iff (x y : Vl) (A B : List Nat) (hx : x.right = true) (hy : y.right = true) (fx : x.fair) (fy : y.fair) : (encK x ++ A < encK y ++ B) ↔ (ltV x y ∨ (x = y ∧ A < B)) := by
  obtain ⟨k, n, s⟩ := x
  obtain ⟨k', n', s'⟩ := y
  have b1 := fx.2.1
  have b2 := fy.2.1
  simp only at b1 b2
  unfold ltV
  simp only [Vl.mk.injEq]
  have head : ∀ (z : Vl), z.right = true → ∃ r, encK z = (16 + z.k) :: r := by
    intro z hz
    rcases right_kind hz with h | h | ⟨hk, h⟩
    · rw [h]; exact ⟨[], rfl⟩
    · rw [h]; exact ⟨_, rfl⟩
    · unfold encK; rw [if_neg (by omega), if_neg (by omega)]; exact ⟨_, rfl⟩
  by_cases hk : k = k'
  · subst hk
    simp only [Nat.lt_irrefl, false_or, true_and]
    rcases right_kind hx with h | h | ⟨hkx, h⟩
    · simp only [Vl.mk.injEq] at h
      obtain ⟨rfl, rfl, rfl⟩ := h
      obtain ⟨rfl, rfl⟩ := right_null hy
      rw [app_lt]
      simp
    · simp only [Vl.mk.injEq] at h
      obtain ⟨rfl, -, rfl⟩ := h
      obtain rfl := right_num hy
      have e : ∀ m, encK ⟨1, m, ⟨#[]⟩⟩ = 17 :: whole8 (up64 m) := fun m => rfl
      rw [e, e, List.cons_append, List.cons_append, lt_cons, whole8_lt_iff _ _ (by unfold up64; omega) (by unfold up64; omega)]
      unfold up64
      by_cases hab : A < B
      · simp only [hab, and_true]
        have : ¬ ((⟨#[]⟩ : ByteArray).toList < (⟨#[]⟩ : ByteArray).toList) := List.lt_irrefl _
        simp only [this, and_false, or_false, and_true, eq_self, true_and]
        omega
      · simp only [hab, and_false, or_false]
        have : ¬ ((⟨#[]⟩ : ByteArray).toList < (⟨#[]⟩ : ByteArray).toList) := List.lt_irrefl _
        simp only [this, and_false, or_false, and_true, eq_self, true_and]
        omega
    · simp only [Vl.mk.injEq] at h
      obtain ⟨-, rfl, -⟩ := h
      simp only at hkx
      have hn' : n' = 0 := by
        rcases right_kind hy with h | h | ⟨_, h⟩
        · simp only [Vl.mk.injEq] at h; exact h.2.1
        · simp only [Vl.mk.injEq] at h; omega
        · simp only [Vl.mk.injEq] at h; exact h.2.1
      subst hn'
      have e : ∀ t, encK ⟨k, 0, t⟩ = (16 + k) :: (escL (bytesOf t) ++ [0, 1]) := fun t => by unfold encK; rw [if_neg (by simp only; omega), if_neg (by simp only; omega)]
      rw [e, e, List.cons_append, List.cons_append, lt_cons]
      have e2 : ∀ (t : ByteArray) (C : List Nat), escL (bytesOf t) ++ [0, 1] ++ C = escL (bytesOf t) ++ (0 :: 1 :: C) := fun t C => by simp
      rw [e2, e2, esc_lt, ← bytes_lt_iff]
      have e3 : bytesOf s = bytesOf s' ↔ s = s' := ⟨fun h => by rw [← strN_bytesOf s, h, strN_bytesOf], fun h => by rw [h]⟩
      rw [e3]
      simp
  · obtain ⟨r, hr⟩ := head ⟨k, n, s⟩ hx
    obtain ⟨r', hr'⟩ := head ⟨k', n', s'⟩ hy
    rw [hr, hr', List.cons_append, List.cons_append, lt_cons]
    simp only [hk, false_and, or_false]
    omega

open Classical in
theorem keyL_order : ∀ (a b : List Vl), (∀ x ∈ a, x.right = true) → (∀ x ∈ b, x.right = true) → (∀ x ∈ a, x.fair) → (∀ x ∈ b, x.fair) → (keyL a < keyL b ↔ lexO a b < 0)
  | [], [], _, _, _, _ => by simp [keyL, lexO]
  | [], y :: m, _, _, _, _ => by
    have hne : keyL (y :: m) ≠ [] := by
      rw [keyL_cons]; intro h
      have := congrArg List.length h
      have := encK_pos y
      rw [List.length_append] at *; simp only [List.length_nil] at *; omega
    have h1 : keyL [] < keyL (y :: m) := nil_lt hne
    simp [h1, lexO]
  | x :: l, [], _, _, _, _ => by
    have h1 : ¬ (keyL (x :: l) < keyL []) := List.not_lt_nil _
    simp [h1, lexO]
  | x :: l, y :: m, hx, hy, fx, fy => by
    have r1 := hx x (by simp)
    have r2 := hy y (by simp)
    have ih := keyL_order l m (fun z hz => hx z (by simp [hz])) (fun z hz => hy z (by simp [hz])) (fun z hz => fx z (by simp [hz])) (fun z hz => fy z (by simp [hz]))
    rw [keyL_cons, keyL_cons, encK_lt_iff x y _ _ r1 r2 (fx x (by simp)) (fy y (by simp)), lexO, orderV_lt x y r1 r2]
    by_cases hxy : x = y
    · subst hxy
      have := ltV_irrefl x
      simp only [this, if_pos, true_and, false_or]
      exact ih
    · by_cases hlt : ltV x y
      · simp only [hxy, if_false, hlt, if_true]
        simp
      · simp only [hxy, if_false, hlt]
        simp

theorem keyL_inj (a b : List Vl) (ha : ∀ x ∈ a, x.right = true) (hb : ∀ x ∈ b, x.right = true) (fa : ∀ x ∈ a, x.fair) (fb : ∀ x ∈ b, x.fair) (h16 : a.length ≤ 16) (h16' : b.length ≤ 16) (h : keyL a = keyL b) : a = b := by
  have h1 := tup_enc a [] (keyL a).length ha fa (by simpa using h16) (Nat.le_refl _)
  have h2 := tup_enc b [] (keyL a).length hb fb (by simpa using h16') (by rw [h]; exact Nat.le_refl _)
  rw [h] at h1 h2
  rw [h1] at h2
  simpa using h2

/-! What lies behind all that begin with some bytes. -/
def nextV : List Nat → List Nat × Bool
  | [] => ([], false)
  | c :: r => if (nextV r).2 = true then (c :: (nextV r).1, true) else if c = 255 then ([], false) else ([c + 1], true)

theorem nextV_none : ∀ {l : List Nat}, (∀ c ∈ l, c = 255) → nextV l = ([], false)
  | [], _ => rfl
  | c :: r, h => by
    rw [nextV, nextV_none (fun d hd => h d (by simp [hd])), if_neg (by simp), if_pos (h c (by simp))]

theorem nextV_some : ∀ {a b : List Nat} {c : Nat}, (∀ d ∈ b, d = 255) → c ≠ 255 → nextV (a ++ c :: b) = (a ++ [c + 1], true)
  | [], b, c, hb, hc => by
    rw [List.nil_append, nextV, nextV_none hb, if_neg (by simp), if_neg hc]; rfl
  | x :: a, b, c, hb, hc => by
    rw [List.cons_append, nextV, nextV_some (a := a) hb hc, if_pos rfl]; rfl

/-- Every list of bytes is of one of the two forms. -/
theorem next_forms (l : List Nat) : (∀ c ∈ l, c = 255) ∨ ∃ a c b, l = a ++ c :: b ∧ (∀ d ∈ b, d = 255) ∧ c ≠ 255 := by
  induction l with
  | nil => left; simp
  | cons x l ih =>
    rcases ih with h | ⟨a, c, b, h1, h2, h3⟩
    · by_cases hx : x = 255
      · left; intro c hc; rcases List.mem_cons.1 hc with rfl | hc
        · exact hx
        · exact h c hc
      · right; exact ⟨[], x, l, rfl, h, hx⟩
    · right; exact ⟨x :: a, c, b, by rw [h1]; rfl, h2, h3⟩

theorem prefix_iff : ∀ (y b : List Nat), (∀ c ∈ b, c < 256) → (∀ c ∈ y, c = 255) → (¬ b < y ↔ y <+: b)
  | [], b, _, _ => by simp
  | c :: y, [], _, _ => by
    have : ([] : List Nat) < c :: y := nil_lt (by simp)
    simp [this]
  | c :: y, d :: b, hb, hy => by
    have hc := hy c (by simp)
    have hd := hb d (by simp)
    have ih := prefix_iff y b (fun e he => hb e (by simp [he])) (fun e he => hy e (by simp [he]))
    rw [lt_cons, List.cons_prefix_cons]
    constructor
    · intro h
      have hdc : d = c := by
        by_cases hdc : d < c
        · exact absurd (.inl hdc) h
        · omega
      exact ⟨hdc.symm, ih.1 (fun hl => h (.inr ⟨hdc, hl⟩))⟩
    · rintro ⟨h1, h2⟩ (h3 | ⟨h3, h4⟩)
      · omega
      · exact (ih.2 h2) h4

theorem inside_iff : ∀ (a : List Nat) (c : Nat) (e : List Nat) (b : List Nat), (∀ d ∈ b, d < 256) → (∀ d ∈ e, d = 255) → ((¬ b < a ++ c :: e ∧ b < a ++ [c + 1]) ↔ a ++ c :: e <+: b)
  | [], c, e, [], _, _ => by
    have : ([] : List Nat) < c :: e := nil_lt (by simp)
    simp [this]
  | [], c, e, d :: b, hb, he => by
    have ih := prefix_iff e b (fun x hx => hb x (by simp [hx])) he
    rw [List.nil_append, List.nil_append, lt_cons, lt_cons, List.cons_prefix_cons]
    have hn : ¬ b < ([] : List Nat) := List.not_lt_nil _
    constructor
    · rintro ⟨h1, h2 | ⟨_, h2⟩⟩
      · have hdc : d = c := by
          by_cases hdc : d < c
          · exact absurd (.inl hdc) h1
          · omega
        exact ⟨hdc.symm, ih.1 (fun hl => h1 (.inr ⟨hdc, hl⟩))⟩
      · exact absurd h2 hn
    · rintro ⟨rfl, h2⟩
      refine ⟨?_, .inl (by omega)⟩
      rintro (h | ⟨_, h⟩)
      · omega
      · exact (ih.2 h2) h
  | x :: a, c, e, [], _, _ => by
    have : ([] : List Nat) < x :: (a ++ c :: e) := nil_lt (by simp)
    simp [this]
  | x :: a, c, e, d :: b, hb, he => by
    have ih := inside_iff a c e b (fun y hy => hb y (by simp [hy])) he
    rw [List.cons_append, List.cons_append, lt_cons, lt_cons, List.cons_prefix_cons, ← ih]
    constructor
    · rintro ⟨h1, h2 | ⟨h2, h3⟩⟩
      · exact absurd (.inl h2) h1
      · exact ⟨h2.symm, fun hl => h1 (.inr ⟨h2, hl⟩), h3⟩
    · rintro ⟨rfl, h1, h2⟩
      refine ⟨?_, .inr ⟨rfl, h2⟩⟩
      rintro (h | ⟨_, h⟩)
      · omega
      · exact h1 h
end Go.Proofs.Ytapbhhehnbfdfaa
