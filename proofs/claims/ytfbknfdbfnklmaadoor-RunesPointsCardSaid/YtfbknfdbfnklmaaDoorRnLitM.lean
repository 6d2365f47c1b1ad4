/- Quoted texts: plain mathematics. -/
import Derived.Lib.Replace
import Derived.Lib.Strings
namespace Go.Proofs.YtfbknfdbfnklmaaDoor
set_option linter.unusedSimpArgs false
open Go

def dblL : List UInt8 → List UInt8
  | [] => []
  | c :: l => if c = 39 then 39 :: 39 :: dblL l else c :: dblL l

theorem dblL_app : ∀ a b : List UInt8, dblL (a ++ b) = dblL a ++ dblL b
  | [], b => rfl
  | c :: a, b => by
    rw [List.cons_append, dblL, dblL, dblL_app a b]
    split <;> rfl

theorem dblL_plain : ∀ {a : List UInt8}, (∀ c ∈ a, c ≠ 39) → dblL a = a
  | [], _ => rfl
  | c :: a, h => by rw [dblL, if_neg (h c (by simp)), dblL_plain fun x hx => h x (by simp [hx])]

theorem dblL_len : ∀ a : List UInt8, a.length ≤ (dblL a).length ∧ (dblL a).length ≤ 2 * a.length
  | [] => by simp [dblL]
  | c :: a => by
    have := dblL_len a
    rw [dblL]
    split <;> simp <;> omega

/-- Every text is free of quotes, or is one that is, a quote, and a rest. -/
theorem split_quote : ∀ l : List UInt8, (∀ c ∈ l, c ≠ 39) ∨ ∃ a b, l = a ++ 39 :: b ∧ ∀ c ∈ a, c ≠ 39
  | [] => .inl (by simp)
  | c :: l => by
    by_cases h : c = 39
    · subst h; exact .inr ⟨[], l, rfl, by simp⟩
    · rcases split_quote l with h2 | ⟨a, b, h3, h4⟩
      · exact .inl fun x hx => (List.mem_cons.1 hx).elim (fun e => e ▸ h) (h2 x)
      · exact .inr ⟨c :: a, b, by rw [h3]; rfl, fun x hx => (List.mem_cons.1 hx).elim (fun e => e ▸ h) (h4 x)⟩

theorem index_none_of (p : List UInt8) : ∀ {l : List UInt8}, p = 39 :: p.tail → (∀ c ∈ l, c ≠ 39) → Lib.index l p = -1
  | [], hp, _ => by rw [hp]; rfl
  | c :: l, hp, h => by
    have h0 := h c (by simp)
    have hn : p.isPrefixOf (c :: l) = false := by
      rw [hp, List.isPrefixOf]
      have : ((39 : UInt8) == c) = false := by simpa using fun e => h0 e.symm
      rw [this]; rfl
    rw [Lib.index, hn, index_none_of p hp fun x hx => h x (by simp [hx])]
    rfl

theorem index_some_of (p : List UInt8) : ∀ {a b : List UInt8}, p = 39 :: p.tail → (∀ c ∈ a, c ≠ 39) → p.isPrefixOf b = true → Lib.index (a ++ b) p = (a.length : Int)
  | [], b, hp, _, hb => by
    cases b with
    | nil => rw [hp] at hb; simp [List.isPrefixOf] at hb
    | cons x b => rw [List.nil_append, Lib.index, hb]; rfl
  | c :: a, b, hp, h, hb => by
    have h0 := h c (by simp)
    have hn : p.isPrefixOf (c :: (a ++ b)) = false := by
      rw [hp, List.isPrefixOf]
      have : ((39 : UInt8) == c) = false := by simpa using fun e => h0 e.symm
      rw [this]; rfl
    have ih := index_some_of p (a := a) (b := b) hp (fun x hx => h x (by simp [hx])) hb
    rw [List.cons_append, Lib.index, hn, ih, List.length_cons]
    rw [if_neg (by simp)]
    have : ((a.length : Int) == -1) = false := by simp
    rw [this]
    simp

theorem replaceK_none {o n l : List UInt8} (h : Lib.index l o = -1) : ∀ k, Lib.replaceK o n k l = l
  | 0 => rfl
  | k + 1 => by rw [Lib.replaceK, h]; rfl

/-- Each quote doubled. -/
theorem replaceK_dbl : ∀ (k : Nat) (l : List UInt8), Lib.count l [39] ≤ k → Lib.replaceK [39] [39, 39] k l = dblL l
  | k, l, hk => by
    rcases split_quote l with h | ⟨a, b, rfl, h⟩
    · rw [replaceK_none (index_none_of [39] rfl h), dblL_plain h]
    · have hi : Lib.index (a ++ 39 :: b) [39] = (a.length : Int) := index_some_of [39] rfl h (by simp [List.isPrefixOf])
      have hc := Lib.count_hit (by simp) hi
      cases k with
      | zero => omega
      | succ k =>
        have hd : (a ++ 39 :: b).drop (a.length + [(39 : UInt8)].length) = b := by
          rw [← List.drop_drop, List.drop_left]; rfl
        rw [hd] at hc
        rw [Lib.replaceK_hit _ _ _ _ _ hi, hd, List.take_left, replaceK_dbl k b (by omega), dblL_app, dblL_plain h]
        simp [dblL]

theorem replaceAll_dbl (l : List UInt8) : Lib.replaceAll l [39] [39, 39] = dblL l := by
  unfold Lib.replaceAll Lib.replace Lib.replaceNum
  rw [if_neg (by decide), if_pos (.inl (by omega))]
  exact replaceK_dbl _ l (Nat.le_refl _)

/-- .. and back. -/
theorem replaceK_undbl : ∀ (k : Nat) (l : List UInt8), Lib.count (dblL l) [39, 39] ≤ k → Lib.replaceK [39, 39] [39] k (dblL l) = l
  | k, l, hk => by
    rcases split_quote l with h | ⟨a, b, rfl, h⟩
    · rw [dblL_plain h, replaceK_none (index_none_of [39, 39] rfl h)]
    · have e : dblL (a ++ 39 :: b) = a ++ 39 :: 39 :: dblL b := by rw [dblL_app, dblL_plain h]; simp [dblL]
      rw [e] at hk ⊢
      have hi : Lib.index (a ++ 39 :: 39 :: dblL b) [39, 39] = (a.length : Int) := index_some_of [39, 39] rfl h (by simp [List.isPrefixOf])
      have hc := Lib.count_hit (by simp) hi
      cases k with
      | zero => omega
      | succ k =>
        have hd : (a ++ 39 :: 39 :: dblL b).drop (a.length + [(39 : UInt8), 39].length) = dblL b := by
          rw [← List.drop_drop, List.drop_left]; rfl
        rw [hd] at hc
        rw [Lib.replaceK_hit _ _ _ _ _ hi, hd, List.take_left, replaceK_undbl k b (by omega)]
        simp

theorem replaceAll_undbl (l : List UInt8) : Lib.replaceAll (dblL l) [39, 39] [39] = l := by
  unfold Lib.replaceAll Lib.replace Lib.replaceNum
  rw [if_neg (by decide), if_pos (.inl (by omega))]
  exact replaceK_undbl _ l (Nat.le_refl _)

def quoteL (l : List UInt8) : List UInt8 := 39 :: (dblL l ++ [39])
def bodyL (l : List UInt8) : List UInt8 := Lib.trimSuffix (Lib.trimPrefix l [39]) [39]
def plainL (l : List UInt8) : List UInt8 := Lib.replaceAll (bodyL l) [39, 39] [39]
def unquoteL (l : List UInt8) : List UInt8 × Int := if quoteL (plainL l) = l then (plainL l, 0) else ([], 3)

theorem body_quote (l : List UInt8) : bodyL (quoteL l) = dblL l := by
  have h1 : Lib.trimPrefix (quoteL l) [39] = dblL l ++ [39] := by
    unfold Lib.trimPrefix Lib.hasPrefix quoteL
    rw [if_pos (by simp [List.isPrefixOf])]
    rfl
  have hs : [(39 : UInt8)].isSuffixOf (dblL l ++ [39]) = true := by
    rw [List.isSuffixOf_iff_suffix]
    exact ⟨dblL l, rfl⟩
  unfold bodyL
  rw [h1]
  unfold Lib.trimSuffix Lib.hasSuffix
  rw [if_pos hs]
  simp

theorem plain_quote (l : List UInt8) : plainL (quoteL l) = l := by
  unfold plainL; rw [body_quote, replaceAll_undbl]

theorem unquote_quote (l : List UInt8) : unquoteL (quoteL l) = (l, 0) := by
  unfold unquoteL; rw [plain_quote, if_pos rfl]

theorem body_len (l : List UInt8) : (bodyL l).length ≤ l.length := by
  unfold bodyL Lib.trimSuffix Lib.trimPrefix
  split <;> split <;> simp [List.length_take, List.length_drop] <;> omega
end Go.Proofs.YtfbknfdbfnklmaaDoor
