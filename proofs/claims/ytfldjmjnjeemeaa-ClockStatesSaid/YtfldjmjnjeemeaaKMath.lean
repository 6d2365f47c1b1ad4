/- Plain mathematics of layer 4: the bytes of a key, and the tuple of bytes. -/
import Derived.Test.YtfldjmjnjeemeaaRMath
namespace Go.Proofs.Ytfldjmjnjeemeaa
open Go.RowKit


/-- An integer, moved so that none is negative. -/
def up64 (n : Int) : Nat := (n + 9223372036854775808).toNat

/-- Eight bytes, the greatest first. -/
def whole8 (m : Nat) : List Nat := [m / 72057594037927936 % 256, m / 281474976710656 % 256, m / 1099511627776 % 256, m / 4294967296 % 256, m / 16777216 % 256, m / 65536 % 256, m / 256 % 256, m % 256]

/-- The number that bytes are, the greatest first. -/
def unB (l : List Nat) : Nat := l.foldl (fun n c => n * 256 + c) 0

/-- A string's bytes, each 0 marked. -/
def escL (l : List Nat) : List Nat := l.flatMap fun c => if c = 0 then [0, 255] else [c]

/-- The part of a key for a value. -/
def encK (x : Vl) : List Nat := if x.k = 0 then [16] else if x.k = 1 then 17 :: whole8 (up64 x.n) else (16 + x.k) :: (escL (bytesOf x.s) ++ [0, 1])
def keyL (l : List Vl) : List Nat := l.flatMap encK

def writeK (l : List Vl) : List Nat × Int := if rowOk l = false then ([], 3) else if 100 < (keyL l).length then ([], 2) else (keyL l, 0)

/-- The string whose marked form bytes begin with, and how many bytes that form has. -/
def unesc : List Nat → Option (List Nat × Nat)
  | [] => none
  | [_] => none
  | c :: d :: r => if c = 0 then (if d = 1 then some ([], 2) else if d = 255 then (unesc r).map (fun p => (0 :: p.1, p.2 + 2)) else none) else (unesc (d :: r)).map (fun p => (c :: p.1, p.2 + 1))

/-- The value that a key begins with, and how many bytes it has. -/
def decK : List Nat → Option (Vl × Nat)
  | [] => none
  | k :: r =>
    if k = 16 then some (⟨0, 0, ⟨#[]⟩⟩, 1)
    else if k = 17 then (if 8 ≤ r.length then some (⟨1, (unB (r.take 8) : Int) - 9223372036854775808, ⟨#[]⟩⟩, 9) else none)
    else if k = 18 ∨ k = 19 then (match unesc r with | none => none | some (s, n) => some (⟨k - 16, 0, strN s⟩, 1 + n))
    else none

/-- The tuple of a key; fuel: no less than its bytes. -/
def tupF : Nat → List Vl → List Nat → Option (List Vl)
  | 0, acc, b => if b = [] then some acc else none
  | f + 1, acc, b => if b = [] then some acc else match decK b with
    | none => none
    | some (x, n) => if acc.length = 16 then none else tupF f (acc ++ [x]) (b.drop n)

def tupK (b : List Nat) : Option (List Vl) := tupF b.length [] b

def readK (b : List Nat) : List Vl × Int := if 100 < b.length then ([], 2) else match tupK b with | none => ([], 3) | some l => (l, 0)

theorem unesc_cons {c : Nat} (h : c ≠ 0) (r : List Nat) : unesc (c :: r) = (unesc r).map (fun p => (c :: p.1, p.2 + 1)) := by
  cases r with
  | nil => rfl
  | cons d r => rw [unesc, if_neg h]

theorem unesc_zero (d : Nat) (r : List Nat) : unesc (0 :: d :: r) = if d = 1 then some ([], 2) else if d = 255 then (unesc r).map (fun p => (0 :: p.1, p.2 + 2)) else none := by
  rw [unesc, if_pos rfl]

theorem escL_cons0 (l : List Nat) : escL (0 :: l) = 0 :: 255 :: escL l := rfl
theorem escL_cons {c : Nat} (h : c ≠ 0) (l : List Nat) : escL (c :: l) = c :: escL l := by
  unfold escL; rw [List.flatMap_cons, if_neg h]; rfl

theorem unesc_esc (B : List Nat) : ∀ (l : List Nat), unesc (escL l ++ (0 :: 1 :: B)) = some (l, (escL l).length + 2)
  | [] => by rw [show escL [] = [] from rfl, List.nil_append, unesc_zero, if_pos rfl]; try rfl
  | c :: l => by
    have ih := unesc_esc B l
    by_cases h : c = 0
    · subst h
      rw [escL_cons0, List.cons_append, List.cons_append, unesc_zero, if_neg (by omega), if_pos rfl, ih]
      simp
    · rw [escL_cons h, List.cons_append, unesc_cons h, ih]
      simp

theorem esc_unesc : ∀ (n : Nat) (b : List Nat), b.length ≤ n → ∀ (s : List Nat) (m : Nat), unesc b = some (s, m) → m ≤ b.length ∧ 2 ≤ m ∧ escL s ++ [0, 1] = b.take m ∧ (∀ c ∈ s, c ∈ b)
  | 0, b, hn, s, m, h => by
    have : b = [] := List.length_eq_zero_iff.1 (by omega)
    subst this; simp [unesc] at h
  | n + 1, [], hn, s, m, h => by simp [unesc] at h
  | n + 1, c :: r, hn, s, m, h => by
    by_cases hc : c = 0
    · subst hc
      cases r with
      | nil => simp [unesc] at h
      | cons d r =>
        rw [unesc_zero] at h
        by_cases h1 : d = 1
        · rw [if_pos h1] at h
          simp only [Option.some.injEq, Prod.mk.injEq] at h
          obtain ⟨rfl, rfl⟩ := h
          subst h1
          refine ⟨by simp, by omega, ?_, by simp⟩
          simp [escL]
        · rw [if_neg h1] at h
          by_cases h2 : d = 255
          · rw [if_pos h2] at h
            subst h2
            cases hu : unesc r with
            | none => rw [hu] at h; simp at h
            | some p =>
              obtain ⟨s', m'⟩ := p
              rw [hu] at h
              simp only [Option.map_some, Option.some.injEq, Prod.mk.injEq] at h
              obtain ⟨rfl, rfl⟩ := h
              obtain ⟨i1, i2, i3, i4⟩ := esc_unesc n r (by simp at hn; omega) s' m' hu
              refine ⟨by simp; omega, by omega, ?_, ?_⟩
              · rw [escL_cons0, show m' + 2 = m' + 1 + 1 by omega, List.take_succ_cons, List.take_succ_cons, ← i3]; rfl
              · intro x hx
                rcases List.mem_cons.1 hx with rfl | hx
                · simp
                · simp [i4 x hx]
          · rw [if_neg h2] at h; cases h
    · rw [unesc_cons hc] at h
      cases hu : unesc r with
      | none => rw [hu] at h; simp at h
      | some p =>
        obtain ⟨s', m'⟩ := p
        rw [hu] at h
        simp only [Option.map_some, Option.some.injEq, Prod.mk.injEq] at h
        obtain ⟨rfl, rfl⟩ := h
        obtain ⟨i1, i2, i3, i4⟩ := esc_unesc n r (by simp at hn; omega) s' m' hu
        refine ⟨by simp; omega, by omega, ?_, ?_⟩
        · rw [escL_cons hc, List.take_succ_cons, ← i3]; rfl
        · intro x hx
          rcases List.mem_cons.1 hx with rfl | hx
          · simp
          · simp [i4 x hx]

theorem unB_whole8 (m : Nat) (h : m < 18446744073709551616) : unB (whole8 m) = m := by
  simp only [unB, whole8, List.foldl_cons, List.foldl_nil]
  omega

theorem whole8_lt (m : Nat) : ∀ c ∈ whole8 m, c < 256 := by
  intro c hc
  simp only [whole8, List.mem_cons, List.not_mem_nil, or_false] at hc
  omega

theorem whole8_unB (l : List Nat) (h8 : l.length = 8) (h : ∀ c ∈ l, c < 256) : whole8 (unB l) = l ∧ unB l < 18446744073709551616 := by
  match l, h8 with
  | [a, b, c, d, e, f, g, i], _ =>
    have ha := h a (by simp)
    have hb := h b (by simp)
    have hc := h c (by simp)
    have hd := h d (by simp)
    have he := h e (by simp)
    have hf := h f (by simp)
    have hg := h g (by simp)
    have hi := h i (by simp)
    simp only [unB, whole8, List.foldl_cons, List.foldl_nil, List.cons.injEq, and_true]
    omega

theorem encK_pos (x : Vl) : 0 < (encK x).length := by
  unfold encK; split
  · simp
  · split <;> simp

theorem encK_lt (x : Vl) (hk : x.k < 240) : ∀ c ∈ encK x, c < 256 := by
  intro c hc
  unfold encK at hc
  split at hc
  · simp at hc; omega
  · split at hc
    · rcases List.mem_cons.1 hc with rfl | hc
      · omega
      · exact whole8_lt _ c hc
    · rcases List.mem_cons.1 hc with rfl | hc
      · omega
      · rcases List.mem_append.1 hc with hc | hc
        · obtain ⟨d, hd, hc⟩ := List.mem_flatMap.1 hc
          have := bytesOf_lt _ d hd
          split at hc
          · simp at hc; omega
          · simp at hc; omega
        · simp at hc; omega

theorem decK_enc (B : List Nat) (x : Vl) (hr : x.right = true) (hf : x.fair) : decK (encK x ++ B) = some (x, (encK x).length) := by
  rcases right_kind hr with h | h | ⟨hk, h⟩
  · rw [h]; rfl
  · obtain ⟨k, n, s⟩ := x
    simp only [Vl.mk.injEq] at h
    obtain ⟨rfl, -, rfl⟩ := h
    have h1 := hf.2.1.1
    have h2 := hf.2.1.2
    simp only at h1 h2
    have hm : up64 n < 18446744073709551616 := by unfold up64; omega
    have e : encK ⟨1, n, ⟨#[]⟩⟩ = 17 :: whole8 (up64 n) := rfl
    rw [e, List.cons_append, decK, if_neg (by omega), if_pos rfl, if_pos (by simp [whole8])]
    have e8 : (whole8 (up64 n)).length = 8 := rfl
    rw [List.take_left' e8, unB_whole8 _ hm]
    simp only [List.length_cons, e8, Option.some.injEq, Prod.mk.injEq, Vl.mk.injEq, and_true, true_and]
    unfold up64; omega
  · obtain ⟨k, n, s⟩ := x
    simp only [Vl.mk.injEq] at h
    obtain ⟨-, rfl, -⟩ := h
    simp only at hk
    have e : encK ⟨k, 0, s⟩ = (16 + k) :: (escL (bytesOf s) ++ [0, 1]) := by unfold encK; rw [if_neg (by simp only; omega), if_neg (by simp only; omega)]
    rw [e, List.cons_append, decK, if_neg (by omega), if_neg (by omega), if_pos (by omega)]
    have e2 : escL (bytesOf s) ++ [0, 1] ++ B = escL (bytesOf s) ++ (0 :: 1 :: B) := by simp
    rw [e2, unesc_esc]
    simp only [strN_bytesOf, List.length_cons, List.length_append, List.length_nil, Option.some.injEq, Prod.mk.injEq, Vl.mk.injEq, and_true]
    omega

theorem bytesOf_strN (l : List Nat) (h : ∀ c ∈ l, c < 256) : bytesOf (strN l) = l := by
  unfold bytesOf strN
  simp only [List.map_map]
  conv => rhs; rw [← List.map_id l]
  apply List.map_congr_left
  intro c hc
  simp [Nat.mod_eq_of_lt (h c hc)]

theorem enc_decK (b : List Nat) (h256 : ∀ c ∈ b, c < 256) (hl : b.length < 18446744073709551616) (x : Vl) (n : Nat) (h : decK b = some (x, n)) :
    x.right = true ∧ x.fair ∧ 0 < n ∧ n ≤ b.length ∧ encK x = b.take n ∧ x.s.size ≤ b.length := by
  cases b with
  | nil => simp [decK] at h
  | cons k r =>
    rw [decK] at h
    by_cases h16 : k = 16
    · rw [if_pos h16] at h
      simp only [Option.some.injEq, Prod.mk.injEq] at h
      obtain ⟨rfl, rfl⟩ := h
      subst h16
      exact ⟨rfl, ⟨by simp, by simp, by simp [ByteArray.size]⟩, by omega, by simp, by simp [encK], by simp [ByteArray.size]⟩
    · rw [if_neg h16] at h
      by_cases h17 : k = 17
      · rw [if_pos h17] at h
        by_cases h8 : 8 ≤ r.length
        · rw [if_pos h8] at h
          simp only [Option.some.injEq, Prod.mk.injEq] at h
          obtain ⟨rfl, rfl⟩ := h
          obtain ⟨w1, w2⟩ := whole8_unB (r.take 8) (by rw [List.length_take]; omega) (fun c hc => h256 c (by simp [List.mem_of_mem_take hc]))
          refine ⟨rfl, ⟨by simp, ⟨by simp only; omega, by simp only; omega⟩, by simp [ByteArray.size]⟩, by omega, by simp; omega, ?_, by simp [ByteArray.size]⟩
          unfold encK
          rw [if_neg (by simp), if_pos rfl, List.take_succ_cons, h17]
          have : up64 ((unB (r.take 8) : Int) - 9223372036854775808) = unB (r.take 8) := by unfold up64; omega
          rw [this, w1]
        · rw [if_neg h8] at h; cases h
      · rw [if_neg h17] at h
        by_cases h18 : k = 18 ∨ k = 19
        · rw [if_pos h18] at h
          cases hu : unesc r with
          | none => rw [hu] at h; cases h
          | some p =>
            obtain ⟨s, m⟩ := p
            rw [hu] at h
            simp only [Option.some.injEq, Prod.mk.injEq] at h
            obtain ⟨rfl, rfl⟩ := h
            obtain ⟨i1, i2, i3, i4⟩ := esc_unesc r.length r (Nat.le_refl _) s m hu
            have hs256 : ∀ c ∈ s, c < 256 := fun c hc => h256 c (by simp [i4 c hc])
            have hsl : s.length ≤ r.length := by
              have e := congrArg List.length i3
              rw [List.length_append, List.length_take] at e
              have hesc : s.length ≤ (escL s).length := by
                clear e i3 i4 hu hs256
                induction s with
                | nil => simp
                | cons c s ih =>
                  by_cases hc : c = 0
                  · subst hc; rw [escL_cons0]; simp; omega
                  · rw [escL_cons hc]; simp; omega
              simp only [List.length_cons, List.length_nil] at e
              omega
            refine ⟨?_, ⟨by simp only; omega, by simp, by rw [strN_size]; simp at hl; omega⟩, by omega, by simp; omega, ?_, by rw [strN_size]; simp; omega⟩
            · unfold Vl.right
              rw [if_neg (by simp only; omega), if_neg (by simp only; omega), if_pos (by simp only; omega)]; rfl
            · have e0 : ¬ (k - 16 = 0) := by omega
              have e1 : ¬ (k - 16 = 1) := by omega
              unfold encK
              simp only [if_neg e0, if_neg e1]
              rw [bytesOf_strN s hs256, show 1 + m = m + 1 by omega, List.take_succ_cons, i3]
              congr 1; omega
        · rw [if_neg h18] at h; cases h

theorem keyL_cons (x : Vl) (l : List Vl) : keyL (x :: l) = encK x ++ keyL l := rfl
theorem keyL_snoc (l : List Vl) (x : Vl) : keyL (l ++ [x]) = keyL l ++ encK x := by simp [keyL]
theorem keyL_take (l : List Vl) (i : Nat) (h : i < l.length) : keyL (l.take (i + 1)) = keyL (l.take i) ++ encK l[i] := by
  rw [List.take_succ_eq_append_getElem h, keyL_snoc]

theorem tup_enc : ∀ (l : List Vl) (acc : List Vl) (f : Nat), (∀ x ∈ l, x.right = true) → (∀ x ∈ l, x.fair) → acc.length + l.length ≤ 16 → (keyL l).length ≤ f → tupF f acc (keyL l) = some (acc ++ l)
  | [], acc, f, _, _, _, _ => by
    cases f with
    | zero => simp [tupF, keyL]
    | succ f => simp [tupF, keyL]
  | x :: l, acc, f, hr, hf, h16, hlen => by
    have hp := encK_pos x
    rw [keyL_cons] at hlen ⊢
    rw [List.length_append] at hlen
    have hne : encK x ++ keyL l ≠ [] := by intro h; have := congrArg List.length h; rw [List.length_append] at this; simp only [List.length_nil] at this; omega
    cases f with
    | zero => omega
    | succ f =>
      rw [tupF, if_neg hne, decK_enc (keyL l) x (hr x (by simp)) (hf x (by simp))]
      simp only []
      rw [if_neg (by simp at h16; omega), List.drop_left]
      rw [tup_enc l (acc ++ [x]) f (fun y hy => hr y (by simp [hy])) (fun y hy => hf y (by simp [hy])) (by simp at h16 ⊢; omega) (by omega)]
      simp

theorem enc_tup : ∀ (f : Nat) (acc : List Vl) (b : List Nat), (∀ c ∈ b, c < 256) → b.length ≤ f → b.length < 18446744073709551616 → acc.length ≤ 16 → ∀ L, tupF f acc b = some L →
    ∃ M, L = acc ++ M ∧ keyL M = b ∧ (∀ x ∈ M, x.right = true) ∧ (∀ x ∈ M, x.fair) ∧ L.length ≤ 16 ∧ (∀ x ∈ M, x.s.size ≤ b.length)
  | 0, acc, b, _, _, _, ha, L, h => by
    rw [tupF] at h
    by_cases hb : b = []
    · rw [if_pos hb] at h
      simp only [Option.some.injEq] at h
      subst h hb
      exact ⟨[], by simp, rfl, by simp, by simp, ha, by simp⟩
    · rw [if_neg hb] at h; cases h
  | f + 1, acc, b, h256, hlen, hl, ha, L, h => by
    rw [tupF] at h
    by_cases hb : b = []
    · rw [if_pos hb] at h
      simp only [Option.some.injEq] at h
      subst h hb
      exact ⟨[], by simp, rfl, by simp, by simp, ha, by simp⟩
    · rw [if_neg hb] at h
      cases hd : decK b with
      | none => rw [hd] at h; cases h
      | some p =>
        obtain ⟨x, n⟩ := p
        rw [hd] at h
        simp only [] at h
        by_cases h16 : acc.length = 16
        · rw [if_pos h16] at h; cases h
        · rw [if_neg h16] at h
          obtain ⟨d1, d2, d3, d4, d5, d6⟩ := enc_decK b h256 hl x n hd
          obtain ⟨M, e1, e2, e3, e4, e5, e6⟩ := enc_tup f (acc ++ [x]) (b.drop n) (fun c hc => h256 c (List.mem_of_mem_drop hc)) (by rw [List.length_drop]; omega) (by rw [List.length_drop]; omega) (by simp; omega) L h
          refine ⟨x :: M, by simp [e1], by rw [keyL_cons, e2, d5, List.take_append_drop], ?_, ?_, e5, ?_⟩
          · intro y hy; rcases List.mem_cons.1 hy with rfl | hy
            · exact d1
            · exact e3 y hy
          · intro y hy; rcases List.mem_cons.1 hy with rfl | hy
            · exact d2
            · exact e4 y hy
          · intro y hy; rcases List.mem_cons.1 hy with rfl | hy
            · exact d6
            · have := e6 y hy; rw [List.length_drop] at this; omega
end Go.Proofs.Ytfldjmjnjeemeaa
