/- Plain mathematics of layer 3: the bytes of a row, and the row of bytes. -/
import Derived.Test.YtfldjmjnjeemeaaVBackM
import Derived.Test.YtfldjmjnjeemeaaCArith
namespace Go.Proofs.Ytfldjmjnjeemeaa
open Go.RowKit

theorem getS_bound : ∀ (D : List Nat) (i v0 v n : Nat), (∀ c ∈ D, c < 256) → i ≤ 9 → v0 < 128 ^ i → getS D i v0 = (v, n, 0) → v < 18446744073709551616
  | [], i, v0, v, n, _, _, _, h => by simp [getS] at h
  | c :: r, i, v0, v, n, hD, hi, hv, h => by
    have hc := hD c (by simp)
    unfold getS at h
    split at h
    · simp at h
    · split at h
      · simp at h
      · split at h
        · rename_i h1 h2 h3
          simp only [Prod.mk.injEq, and_true] at h
          have := fits7 c i v0 hv (by omega)
          rw [Nat.mod_eq_of_lt h3] at this
          omega
        · rename_i h1 h2 h3
          have h9 : i ≠ 9 := by omega
          have hg := grow7 c i v0 hv
          rw [show c % 128 = c - 128 by omega] at hg
          exact getS_bound r (i + 1) _ v n (fun d hd => hD d (by simp [hd])) (by omega) (by omega) h
/-- The bytes of a value. -/
def encV (x : Vl) : List Nat := if x.k = 0 then [0] else if x.k = 1 then 1 :: putL (zigN x.n) else x.k :: textL x.s

/-- The bytes of values. -/
def encL (l : List Vl) : List Nat := l.flatMap encV

/-- The value that begins at an index, and the index behind it. -/
def decV (l : List Nat) (p : Nat) : Option (Vl × Nat) :=
  match l[p]? with
  | none => none
  | some k =>
    if k = 0 then some (⟨0, 0, ⟨#[]⟩⟩, p + 1)
    else if k = 1 then (if (getR l ((p + 1 : Nat) : Int)).2.2 = 0 then some (⟨1, zagZ (getR l ((p + 1 : Nat) : Int)).1, ⟨#[]⟩⟩, (getR l ((p + 1 : Nat) : Int)).2.1.toNat) else none)
    else if k = 2 ∨ k = 3 then (if (textR l ((p + 1 : Nat) : Int)).2.2 = 0 then some (⟨k, 0, (textR l ((p + 1 : Nat) : Int)).1⟩, (textR l ((p + 1 : Nat) : Int)).2.1.toNat) else none)
    else none

/-- The value's text is short enough for a machine, its integer an int64. -/
def Vl.fair (x : Vl) : Prop := x.k < 256 ∧ (-9223372036854775808 ≤ x.n ∧ x.n ≤ 9223372036854775807) ∧ x.s.size < 18446744073709551616

theorem textR_at (A B : List Nat) (s : ByteArray) (hs : s.size < 18446744073709551616) : textR (A ++ (textL s ++ B)) (A.length : Nat) = (s, (A.length : Int) + (textL s).length, 0) := by
  unfold textR textL
  rw [List.append_assoc, getR_put A (bytesOf s ++ B) s.size hs]
  simp only [ne_eq, not_true_eq_false, if_false]
  rw [if_neg (by simp [bytesOf_len]; omega)]
  have e : ((A.length : Int) + (putL s.size).length).toNat = A.length + (putL s.size).length := by omega
  have e2 : List.drop (A.length + (putL s.size).length) (A ++ (putL s.size ++ (bytesOf s ++ B))) = bytesOf s ++ B := by
    rw [← List.append_assoc, ← List.length_append, List.drop_left]
  rw [e, e2, List.take_left' (bytesOf_len s), strN_bytesOf]
  simp [bytesOf_len]; omega

theorem right_kind {x : Vl} (h : x.right = true) : (x = ⟨0, 0, ⟨#[]⟩⟩) ∨ (x = ⟨1, x.n, ⟨#[]⟩⟩) ∨ ((x.k = 2 ∨ x.k = 3) ∧ x = ⟨x.k, 0, x.s⟩) := by
  obtain ⟨k, n, s⟩ := x
  unfold Vl.right at h
  by_cases h0 : k = 0
  · subst h0
    have := right_null (n := n) (s := s) (by unfold Vl.right; exact h)
    rw [this.1, this.2]; exact .inl rfl
  · by_cases h1 : k = 1
    · subst h1
      have := right_num (n := n) (s := s) (by unfold Vl.right; exact h)
      rw [this]; exact .inr (.inl rfl)
    · simp only [if_neg h0, if_neg h1] at h
      by_cases h2 : k = 2 ∨ k = 3
      · simp only [if_pos h2, decide_eq_true_eq] at h
        subst h
        exact .inr (.inr ⟨h2, rfl⟩)
      · simp only [if_neg h2] at h; cases h

theorem decV_enc (A B : List Nat) (x : Vl) (hr : x.right = true) (hf : x.fair) : decV (A ++ (encV x ++ B)) A.length = some (x, A.length + (encV x).length) := by
  rcases right_kind hr with h | h | ⟨hk, h⟩
  · rw [h]; unfold decV encV; simp
  · obtain ⟨k, n, s⟩ := x
    simp only [Vl.mk.injEq] at h
    obtain ⟨rfl, -, rfl⟩ := h
    have hg := getR_put (A ++ [1]) B (zigN n) (zigN_lt n hf.2.1.1 hf.2.1.2)
    unfold decV encV
    simp only [List.append_assoc, List.cons_append, List.nil_append, List.length_append, List.length_cons, List.length_nil] at hg
    simp only [List.getElem?_append_right (Nat.le_refl _), Nat.sub_self, List.cons_append, List.getElem?_cons_zero, if_neg (show ¬ 1 = 0 by omega), if_true]
    rw [Nat.zero_add] at hg
    rw [hg]
    simp only [if_true, zag_zig, Option.some.injEq, Prod.mk.injEq, true_and, List.length_cons]
    omega
  · obtain ⟨k, n, s⟩ := x
    simp only [Vl.mk.injEq] at h
    obtain ⟨-, rfl, -⟩ := h
    simp only at hk
    have hg := textR_at (A ++ [k]) B s hf.2.2
    unfold decV encV
    simp only [List.append_assoc, List.cons_append, List.nil_append, List.length_append, List.length_cons, List.length_nil] at hg
    rw [Nat.zero_add] at hg
    simp only [List.getElem?_append_right (Nat.le_refl _), Nat.sub_self, if_neg (show ¬ k = 0 by omega), if_neg (show ¬ k = 1 by omega), List.cons_append, List.getElem?_cons_zero, if_pos hk]
    rw [hg]
    simp only [if_true, Option.some.injEq, Prod.mk.injEq, true_and, List.length_cons]
    omega

theorem textR_only (l : List Nat) (h256 : ∀ c ∈ l, c < 256) (p : Nat) (s : ByteArray) (n : Int) (h : textR l (p : Nat) = (s, n, 0)) :
    ∃ m : Nat, n = m ∧ p < m ∧ m ≤ l.length ∧ s.size ≤ l.length ∧ textL s = (l.drop p).take (m - p) := by
  unfold textR at h
  obtain ⟨G, hG⟩ : ∃ G, getR l (p : Nat) = G := ⟨_, rfl⟩
  obtain ⟨v, gn, ge⟩ := G
  simp only [hG] at h
  by_cases h0 : ge ≠ 0
  · rw [if_pos h0] at h
    simp only [Prod.mk.injEq] at h
    exact absurd h.2.2 h0
  · rw [if_neg h0] at h
    by_cases h1 : (l.length : Int) - gn < (v : Int)
    · rw [if_pos h1] at h
      simp at h
    · rw [if_neg h1] at h
      simp only [Prod.mk.injEq, and_true] at h
      have h0' : ge = 0 := by omega
      subst h0'
      obtain ⟨_, m, rfl, h3, h4, h5⟩ := getR_only l h256 p v gn hG
      have hs : s.size = v := by
        rw [← h.1, strN_size, List.length_take, List.length_drop]; omega
      have hb : bytesOf s = (l.drop m).take v := by
        rw [← h.1]
        unfold bytesOf strN
        simp only [List.map_map, Int.toNat_natCast]
        conv => rhs; rw [← List.map_id ((l.drop m).take v)]
        apply List.map_congr_left
        intro c hc
        have := h256 c (List.mem_of_mem_drop (List.mem_of_mem_take hc))
        simp [Nat.mod_eq_of_lt this]
      refine ⟨m + v, by omega, by omega, by omega, by omega, ?_⟩
      unfold textL
      rw [hs, hb, h5]
      rw [Int.toNat_natCast]
      have e : l.drop m = (l.drop p).drop (m - p) := by rw [List.drop_drop]; congr 1; omega
      rw [e, ← List.take_add]
      congr 1; omega

theorem enc_decV (l : List Nat) (h256 : ∀ c ∈ l, c < 256) (hl : l.length < 18446744073709551616) (p : Nat) (x : Vl) (n : Nat) (h : decV l p = some (x, n)) :
    x.right = true ∧ x.fair ∧ x.s.size ≤ l.length ∧ p < n ∧ n ≤ l.length ∧ encV x = (l.drop p).take (n - p) := by
  unfold decV at h
  cases hk : l[p]? with
  | none => rw [hk] at h; cases h
  | some k =>
    rw [hk] at h
    simp only [] at h
    have hp : p < l.length := by
      by_cases hp : p < l.length
      · exact hp
      · rw [List.getElem?_eq_none (by omega)] at hk; cases hk
    have hd : l.drop p = k :: l.drop (p + 1) := by
      rw [List.drop_eq_getElem_cons hp]
      rw [List.getElem?_eq_getElem hp] at hk
      simp only [Option.some.injEq] at hk
      rw [hk]
    by_cases h0 : k = 0
    · rw [if_pos h0] at h
      simp only [Option.some.injEq, Prod.mk.injEq] at h
      obtain ⟨rfl, rfl⟩ := h
      refine ⟨rfl, ⟨by simp, by simp, by decide⟩, by simp [ByteArray.size], by omega, by omega, ?_⟩
      rw [hd, h0, show p + 1 - p = 1 by omega]; rfl
    · rw [if_neg h0] at h
      by_cases h1 : k = 1
      · rw [if_pos h1] at h
        by_cases he : (getR l ((p + 1 : Nat) : Int)).2.2 = 0
        · rw [if_pos he] at h
          obtain ⟨G, hG⟩ : ∃ G, getR l ((p + 1 : Nat) : Int) = G := ⟨_, rfl⟩
          obtain ⟨v, gn, ge⟩ := G
          rw [hG] at h he
          simp only at he
          subst he
          simp only [Option.some.injEq, Prod.mk.injEq] at h
          obtain ⟨rfl, rfl⟩ := h
          obtain ⟨_, m, rfl, h3, h4, h5⟩ := getR_only l h256 _ v gn hG
          have hv : v < 18446744073709551616 := by
            unfold getR at hG
            rw [if_neg (by omega)] at hG
            simp only [Int.toNat_natCast] at hG
            obtain ⟨S, hS⟩ : ∃ S, getS (l.drop (p + 1)) 0 0 = S := ⟨_, rfl⟩
            obtain ⟨sv, sn, se⟩ := S
            rw [hS] at hG
            simp only [] at hG
            by_cases hse : se = 0
            · rw [if_pos hse] at hG
              subst hse
              have hb := getS_bound (l.drop (p + 1)) 0 0 sv sn (fun c hc => h256 c (List.mem_of_mem_drop hc)) (by omega) (by simp) hS
              simp only [Prod.mk.injEq, and_true] at hG
              omega
            · rw [if_neg hse] at hG
              simp only [Prod.mk.injEq] at hG
              omega
          have hb := zagZ_bd v hv
          refine ⟨rfl, ⟨by simp, hb, by simp [ByteArray.size]⟩, by simp [ByteArray.size], by simp only [Int.toNat_natCast]; omega, by simp only [Int.toNat_natCast]; omega, ?_⟩
          unfold encV
          simp only [if_neg (show ¬ 1 = 0 by omega), if_true, zig_zag]
          rw [hd, h5, h1]
          simp only [Int.toNat_natCast]
          rw [show m - p = (m - (p + 1)) + 1 by omega, List.take_succ_cons]
        · rw [if_neg he] at h; cases h
      · rw [if_neg h1] at h
        by_cases h2 : k = 2 ∨ k = 3
        · rw [if_pos h2] at h
          by_cases he : (textR l ((p + 1 : Nat) : Int)).2.2 = 0
          · rw [if_pos he] at h
            obtain ⟨G, hG⟩ : ∃ G, textR l ((p + 1 : Nat) : Int) = G := ⟨_, rfl⟩
            obtain ⟨v, gn, ge⟩ := G
            rw [hG] at h he
            simp only at he
            subst he
            simp only [Option.some.injEq, Prod.mk.injEq] at h
            obtain ⟨rfl, rfl⟩ := h
            obtain ⟨m, rfl, h3, h4, h5, h6⟩ := textR_only l h256 _ v gn hG
            refine ⟨?_, ⟨by simp only; omega, by simp, by simp only; omega⟩, h5, by simp only [Int.toNat_natCast]; omega, by simp only [Int.toNat_natCast]; omega, ?_⟩
            · unfold Vl.right
              simp only [if_neg h0, if_neg h1, if_pos h2]; rfl
            · unfold encV
              simp only [if_neg h0, if_neg h1]
              rw [hd, h6]
              simp only [Int.toNat_natCast]
              rw [show m - p = (m - (p + 1)) + 1 by omega, List.take_succ_cons]
          · rw [if_neg he] at h; cases h
        · rw [if_neg h2] at h; cases h

/-- The first i values from index p on. -/
def readN (l : List Nat) (p : Nat) : Nat → Option (List Vl × Nat)
  | 0 => some ([], p)
  | i + 1 => match readN l p i with
    | none => none
    | some (acc, q) => match decV l q with
      | none => none
      | some (x, n) => some (acc ++ [x], n)

theorem readN_none {l : List Nat} {p i : Nat} (h : readN l p i = none) : ∀ j, i ≤ j → readN l p j = none := by
  intro j hj
  induction j with
  | zero => rw [show i = 0 by omega] at h; exact h
  | succ j ih =>
    by_cases e : i = j + 1
    · rw [← e]; exact h
    · rw [readN, ih (by omega)]

theorem encL_snoc (l : List Vl) (x : Vl) : encL (l ++ [x]) = encL l ++ encV x := by simp [encL]

theorem encL_take (l : List Vl) (i : Nat) (h : i < l.length) : encL (l.take (i + 1)) = encL (l.take i) ++ encV l[i] := by
  rw [List.take_succ_eq_append_getElem h, encL_snoc]

theorem encL_split (l : List Vl) (i : Nat) (h : i < l.length) : encL l = encL (l.take i) ++ (encV l[i] ++ encL (l.drop (i + 1))) := by
  unfold encL
  conv => lhs; rw [← List.take_append_drop i l, List.drop_eq_getElem_cons h]
  rw [List.flatMap_append, List.flatMap_cons]

theorem readN_enc (A B : List Nat) (l : List Vl) (hr : ∀ x ∈ l, x.right = true) (hf : ∀ x ∈ l, x.fair) : ∀ i, i ≤ l.length → readN (A ++ (encL l ++ B)) A.length i = some (l.take i, A.length + (encL (l.take i)).length) := by
  intro i
  induction i with
  | zero => intro _; simp [readN, encL]
  | succ i ih =>
    intro hi
    have hi' : i < l.length := by omega
    rw [readN, ih (by omega)]
    simp only []
    have h := decV_enc (A ++ encL (l.take i)) (encL (l.drop (i + 1)) ++ B) l[i] (hr _ (List.getElem_mem hi')) (hf _ (List.getElem_mem hi'))
    have e : (A ++ encL (l.take i)) ++ (encV l[i] ++ (encL (l.drop (i + 1)) ++ B)) = A ++ (encL l ++ B) := by
      rw [encL_split l i hi']; simp
    rw [e, List.length_append] at h
    rw [h]
    simp only [Option.some.injEq, Prod.mk.injEq]
    rw [encL_take l i hi', List.length_append, List.take_succ_eq_append_getElem hi']
    exact ⟨rfl, by omega⟩

theorem take_more (l : List Nat) (p q n : Nat) (h1 : p ≤ q) (h2 : q ≤ n) : (l.drop p).take (q - p) ++ (l.drop q).take (n - q) = (l.drop p).take (n - p) := by
  have e : l.drop q = (l.drop p).drop (q - p) := by rw [List.drop_drop]; congr 1; omega
  rw [e, ← List.take_add]
  congr 1; omega

theorem enc_readN (l : List Nat) (h256 : ∀ c ∈ l, c < 256) (hl : l.length < 18446744073709551616) (p : Nat) (hp : p ≤ l.length) : ∀ (i : Nat) (acc : List Vl) (q : Nat), readN l p i = some (acc, q) →
    acc.length = i ∧ (∀ x ∈ acc, x.right = true) ∧ (∀ x ∈ acc, x.fair) ∧ (∀ x ∈ acc, x.s.size ≤ l.length) ∧ p + i ≤ q ∧ q ≤ l.length ∧ encL acc = (l.drop p).take (q - p) := by
  intro i
  induction i with
  | zero =>
    intro acc q h
    simp only [readN, Option.some.injEq, Prod.mk.injEq] at h
    obtain ⟨rfl, rfl⟩ := h
    exact ⟨rfl, by simp, by simp, by simp, by omega, hp, by simp [encL]⟩
  | succ i ih =>
    intro acc q h
    rw [readN] at h
    cases hR : readN l p i with
    | none => rw [hR] at h; cases h
    | some R =>
      obtain ⟨acc0, q0⟩ := R
      rw [hR] at h
      simp only [] at h
      obtain ⟨a1, a2, a3, a4, a5, a6, a7⟩ := ih acc0 q0 hR
      cases hD : decV l q0 with
      | none => rw [hD] at h; cases h
      | some D =>
        obtain ⟨x, n⟩ := D
        rw [hD] at h
        simp only [Option.some.injEq, Prod.mk.injEq] at h
        obtain ⟨rfl, rfl⟩ := h
        obtain ⟨b1, b2, b3, b4, b5, b6⟩ := enc_decV l h256 hl q0 x n hD
        refine ⟨by simp [a1], ?_, ?_, ?_, by omega, b5, ?_⟩
        · intro y hy; rcases List.mem_append.1 hy with hy | hy
          · exact a2 y hy
          · rw [List.mem_singleton.1 hy]; exact b1
        · intro y hy; rcases List.mem_append.1 hy with hy | hy
          · exact a3 y hy
          · rw [List.mem_singleton.1 hy]; exact b2
        · intro y hy; rcases List.mem_append.1 hy with hy | hy
          · exact a4 y hy
          · rw [List.mem_singleton.1 hy]; exact b3
        · rw [encL_snoc, a7, b6]
          exact take_more l p q0 n (by omega) (by omega)

/-- May be a row? -/
def rowOk (l : List Vl) : Bool := decide (l.length ≤ 16) && l.all Vl.right

/-- What is written of a row: its bytes, the error. -/
def writeV (l : List Vl) : List Nat × Int :=
  if rowOk l = false then ([], 3) else if 8192 < 1 + (encL l).length then ([], 2) else (l.length :: encL l, 0)

/-- What is read of bytes: the row, the error. -/
def readV (l : List Nat) : List Vl × Int :=
  if 8192 < l.length then ([], 2)
  else if (getR l 0).2.2 ≠ 0 ∨ 16 < (getR l 0).1 then ([], 3)
  else match readN l (getR l 0).2.1.toNat (getR l 0).1 with
    | none => ([], 3)
    | some (acc, q) => if q ≠ l.length then ([], 3) else (acc, 0)

theorem rowOk_iff (l : List Vl) : rowOk l = true ↔ l.length ≤ 16 ∧ ∀ x ∈ l, x.right = true := by
  simp [rowOk]

theorem encV_lt (x : Vl) (hk : x.k < 256) : ∀ c ∈ encV x, c < 256 := by
  intro c hc
  unfold encV at hc
  split at hc
  · simp at hc; omega
  · split at hc
    · rcases List.mem_cons.1 hc with rfl | hc
      · omega
      · exact putL_byte _ c hc
    · rcases List.mem_cons.1 hc with rfl | hc
      · exact hk
      · rcases List.mem_append.1 hc with hc | hc
        · exact putL_byte _ c hc
        · exact bytesOf_lt _ c hc

theorem encL_lt (l : List Vl) (hk : ∀ x ∈ l, x.k < 256) : ∀ c ∈ encL l, c < 256 := by
  intro c hc
  obtain ⟨x, hx, hc⟩ := List.mem_flatMap.1 hc
  exact encV_lt x (hk x hx) c hc

/-- The first byte says how many values there are. -/
theorem first_byte (l : List Nat) (h256 : ∀ c ∈ l, c < 256) : (l = [] ∧ (getR l 0).2.2 ≠ 0) ∨
    (∃ c r, l = c :: r ∧ c ≤ 16 ∧ getR l 0 = (c, 1, 0)) ∨ (∃ c r, l = c :: r ∧ 16 < c ∧ ((getR l 0).2.2 ≠ 0 ∨ 16 < (getR l 0).1)) := by
  cases l with
  | nil => left; exact ⟨rfl, by decide⟩
  | cons c r =>
    right
    have hc := h256 c (by simp)
    by_cases h : c < 128
    · have hg : getR (c :: r) 0 = (c, 1, 0) := by
        unfold getR
        rw [if_neg (by simp; omega)]
        simp [getS, h]
      by_cases h16 : c ≤ 16
      · exact .inl ⟨c, r, rfl, h16, hg⟩
      · exact .inr ⟨c, r, rfl, by omega, .inr (by rw [hg]; simp only; omega)⟩
    · refine .inr ⟨c, r, rfl, by omega, ?_⟩
      obtain ⟨G, hG⟩ : ∃ G, getR (c :: r) 0 = G := ⟨_, rfl⟩
      obtain ⟨v, n, e⟩ := G
      by_cases he : e = 0
      · subst he
        obtain ⟨_, m, rfl, h3, h4, h5⟩ := getR_only (c :: r) h256 0 v n hG
        rw [hG]
        right
        by_cases hv : v < 128
        · rw [putL_small hv] at h5
          simp only [Int.toNat_zero, List.drop_zero, Nat.sub_zero] at h5
          obtain ⟨m', rfl⟩ : ∃ m', m = m' + 1 := ⟨m - 1, by omega⟩
          rw [List.take_succ_cons] at h5
          simp only [List.cons.injEq] at h5
          omega
        · simp only; omega
      · left; rw [hG]; exact he
end Go.Proofs.Ytfldjmjnjeemeaa
