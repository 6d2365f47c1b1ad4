/- The reference's table of beginnings: plain mathematics. -/
import Derived.Test.YtkhcnfeklmbplaaDoorLMath
namespace Go.Proofs.YtkhcnfeklmbplaaDoor

theorem M_snoc_run (q t : List Nat) : M (q ++ [37]) t ↔ ∃ j, j ≤ t.length ∧ M q (t.take j) := by
  rw [M_app]
  constructor
  · rintro ⟨j, h1, h2, _⟩; exact ⟨j, h1, h2⟩
  · rintro ⟨j, h1, h2⟩; exact ⟨j, h1, h2, M_any _⟩

theorem M_snoc_one {c : Nat} (hc : c ≠ 37) (q t : List Nat) : M (q ++ [c]) t ↔ ∃ u d, t = u ++ [d] ∧ M q u ∧ (c = 95 ∨ c = d) := by
  rw [M_app]
  constructor
  · rintro ⟨j, h1, h2, h3⟩
    cases hd : t.drop j with
    | nil => rw [hd] at h3; exact absurd h3 (M_one_nil hc _)
    | cons d r =>
      rw [hd, M_one hc, M_nil] at h3
      obtain ⟨h3, rfl⟩ := h3
      exact ⟨t.take j, d, by rw [← hd, List.take_append_drop], h2, h3⟩
  · rintro ⟨u, d, rfl, h2, h3⟩
    refine ⟨u.length, by simp, by simpa using h2, ?_⟩
    rw [List.drop_left]
    rw [M_one hc, M_nil]
    exact ⟨h3, rfl⟩

/-- Of the table: is the text's beginning of k points as the pattern q? -/
def dpB (q s : List Nat) (k : Nat) : Bool := matB q (s.take k)

theorem dp_empty (s : List Nat) (k : Nat) (hk : k ≤ s.length) : dpB [] s k = decide (k = 0) := by
  rw [Bool.eq_iff_iff, decide_eq_true_iff]
  show M [] (s.take k) ↔ _
  rw [M_nil]
  constructor
  · intro h
    have := congrArg List.length h
    rw [List.length_take, List.length_nil] at this
    omega
  · rintro rfl; rfl

theorem dp_run (q s : List Nat) (k : Nat) (hk : k ≤ s.length) : dpB (q ++ [37]) s k = (dpB q s k || (decide (0 < k) && dpB (q ++ [37]) s (k - 1))) := by
  rw [Bool.eq_iff_iff, Bool.or_eq_true, Bool.and_eq_true, decide_eq_true_iff]
  show M _ _ ↔ M _ _ ∨ _ ∧ M _ _
  rw [M_snoc_run, M_snoc_run]
  constructor
  · rintro ⟨j, h1, h2⟩
    rw [List.length_take] at h1
    rw [List.take_take, Nat.min_eq_left (by omega)] at h2
    by_cases hj : j = k
    · left; subst hj; exact h2
    · right
      refine ⟨by omega, j, by rw [List.length_take]; omega, ?_⟩
      rw [List.take_take, Nat.min_eq_left (by omega)]; exact h2
  · rintro (h | ⟨h0, j, h1, h2⟩)
    · exact ⟨k, by rw [List.length_take]; omega, by rw [List.take_take, Nat.min_self]; exact h⟩
    · rw [List.length_take] at h1
      rw [List.take_take, Nat.min_eq_left (by omega)] at h2
      exact ⟨j, by rw [List.length_take]; omega, by rw [List.take_take, Nat.min_eq_left (by omega)]; exact h2⟩

theorem dp_one {c : Nat} (hc : c ≠ 37) (q s : List Nat) (k : Nat) (hk : k < s.length) : dpB (q ++ [c]) s (k + 1) = (dpB q s k && (c == 95 || c == s[k])) := by
  rw [Bool.eq_iff_iff, Bool.and_eq_true, Bool.or_eq_true, beq_iff_eq, beq_iff_eq]
  show M _ _ ↔ M _ _ ∧ _
  have e : s.take (k + 1) = s.take k ++ [s[k]] := by rw [List.take_add_one, List.getElem?_eq_getElem hk]; rfl
  rw [M_snoc_one hc, e]
  constructor
  · rintro ⟨u, d, h1, h2, h3⟩
    obtain ⟨rfl, h4⟩ := List.append_inj' h1 rfl
    simp only [List.cons.injEq, and_true] at h4
    subst h4
    exact ⟨h2, h3⟩
  · rintro ⟨h2, h3⟩
    exact ⟨_, _, rfl, h2, h3⟩

theorem dp_one0 {c : Nat} (hc : c ≠ 37) (q s : List Nat) : dpB (q ++ [c]) s 0 = false := by
  rw [Bool.eq_false_iff]
  intro h
  have h' : M (q ++ [c]) (s.take 0) := h
  rw [M_snoc_one hc] at h'
  obtain ⟨u, d, h1, _⟩ := h'
  simp at h1

theorem dp_all (p s : List Nat) : dpB p s s.length = matB p s := by
  unfold dpB; rw [List.take_length]
end Go.Proofs.YtkhcnfeklmbplaaDoor
