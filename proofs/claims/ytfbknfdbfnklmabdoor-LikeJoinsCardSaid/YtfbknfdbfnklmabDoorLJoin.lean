/- Texts one behind the other: their code points. Plain mathematics. -/
import Derived.Test.YtfbknfdbfnklmabDoorUDec
import Derived.Test.YtfbknfdbfnklmabDoorLMath
namespace Go.Proofs.YtfbknfdbfnklmabDoor

theorem encP_parts (v : Nat) : ∃ c r, encP v = c :: r ∧ (c < 128 ∨ 192 ≤ c) ∧ ∀ d ∈ r, 128 ≤ d ∧ d < 192 := by
  unfold encP
  split
  · exact ⟨v, [], rfl, by omega, by simp⟩
  · split
    · exact ⟨_, _, rfl, by omega, by simp; omega⟩
    · split
      · exact ⟨_, _, rfl, by omega, by simp; omega⟩
      · exact ⟨_, _, rfl, by omega, by simp; omega⟩

theorem encP_ne (v : Nat) : encP v ≠ [] := by obtain ⟨c, r, h, _⟩ := encP_parts v; rw [h]; simp
theorem encS_ne (v : Nat) (p : List Nat) : encS (v :: p) ≠ [] := by rw [encS_cons]; simp [encP_ne v]

/-- What begins with whole code points goes on with whole code points. -/
theorem enc_prefix : ∀ (A X r : List Nat), (∀ v ∈ A, okP v = true) → (∀ v ∈ X, okP v = true) → encS A ++ r = encS X → ∃ Y, X = A ++ Y ∧ r = encS Y
  | [], X, r, _, _, h => ⟨X, rfl, by simpa [encS_nil] using h⟩
  | v :: A, X, r, hA, hX, h => by
    rw [encS_cons, List.append_assoc] at h
    cases X with
    | nil =>
      rw [encS_nil] at h
      exact absurd (List.append_eq_nil_iff.1 h).1 (encP_ne v)
    | cons u X =>
      rw [encS_cons] at h
      have h1 := pt_enc (hA v (by simp)) (encS A ++ r)
      rw [h, pt_enc (hX u (by simp))] at h1
      simp only [Option.some.injEq, Prod.mk.injEq] at h1
      obtain ⟨rfl, _⟩ := h1
      obtain ⟨Y, e1, e2⟩ := enc_prefix A X r (fun x hx => hA x (by simp [hx])) (fun x hx => hX x (by simp [hx])) (List.append_cancel_left h)
      exact ⟨Y, by rw [e1]; rfl, e2⟩

theorem enc_inj {A X : List Nat} (hA : ∀ v ∈ A, okP v = true) (hX : ∀ v ∈ X, okP v = true) (h : encS A = encS X) : A = X := by
  obtain ⟨Y, e1, e2⟩ := enc_prefix A X [] hA hX (by rw [List.append_nil]; exact h)
  cases Y with
  | nil => rw [e1, List.append_nil]
  | cons y Y =>
    exact absurd e2.symm (encS_ne y Y)

/-- What ends with whole code points begins with whole code points. -/
theorem enc_suffix : ∀ (X m B : List Nat), (∀ v ∈ X, okP v = true) → (∀ v ∈ B, okP v = true) → m ++ encS B = encS X → ∃ Y, X = Y ++ B ∧ m = encS Y
  | [], m, B, _, _, h => by
    have h0 : m = [] ∧ encS B = [] := by simpa [encS_nil] using h
    have hB : B = [] := by
      cases B with
      | nil => rfl
      | cons y Y =>
        exact absurd h0.2 (encS_ne y Y)
    exact ⟨[], by rw [hB]; rfl, h0.1⟩
  | v :: X, m, B, hX, hB, h => by
    rw [encS_cons] at h
    by_cases hB0 : B = []
    · subst hB0
      rw [encS_nil, List.append_nil] at h
      exact ⟨v :: X, by simp, by rw [h]; rfl⟩
    by_cases hm : (encP v).length ≤ m.length
    · have e : m = encP v ++ m.drop (encP v).length := by
        have h1 := congrArg (List.take (encP v).length) h
        rw [List.take_append_of_le_length hm, List.take_left] at h1
        conv => lhs; rw [← List.take_append_drop (encP v).length m]
        rw [h1]
      rw [e, List.append_assoc] at h
      obtain ⟨Y, e1, e2⟩ := enc_suffix X _ B (fun x hx => hX x (by simp [hx])) hB (List.append_cancel_left h)
      exact ⟨v :: Y, by rw [e1]; rfl, by rw [encS_cons, ← e2]; exact e⟩
    · by_cases h0 : m = []
      · subst h0
        rw [List.nil_append, ← encS_cons] at h
        have := enc_inj hB hX h
        exact ⟨[], by rw [this]; rfl, rfl⟩
      · exfalso
        obtain ⟨u, B', rfl⟩ : ∃ u B', B = u :: B' := by
          cases B with
          | nil => exact absurd rfl hB0
          | cons u B' => exact ⟨u, B', rfl⟩
        obtain ⟨c, r, e1, hc, _⟩ := encP_parts u
        obtain ⟨d, q, e2, _, hq⟩ := encP_parts v
        have hk : 0 < m.length := List.length_pos_iff.2 h0
        have h2 : (m ++ encS (u :: B'))[m.length]? = (encP v ++ encS X)[m.length]? := by rw [h]
        rw [List.getElem?_append_right (Nat.le_refl _), Nat.sub_self, encS_cons, e1] at h2
        rw [e2] at hm h2
        simp only [List.length_cons] at hm
        obtain ⟨k, hk2⟩ : ∃ k, m.length = k + 1 := ⟨m.length - 1, by omega⟩
        rw [hk2] at h2
        simp only [List.cons_append, List.getElem?_cons_zero, List.getElem?_cons_succ] at h2
        rw [List.getElem?_append_left (by omega)] at h2
        have := hq c (List.mem_of_getElem? h2.symm)
        omega

/-- Whole code points at both ends: whole ones between. -/
theorem dec_between {a m b A B X : List Nat} (ha : ∀ c ∈ a, c < 256) (hb : ∀ c ∈ b, c < 256) (hm : ∀ c ∈ m, c < 256) (h1 : decS a = some A) (h2 : decS b = some B) (h3 : decS (a ++ (m ++ b)) = some X) : ∃ Y, X = A ++ (Y ++ B) := by
  obtain ⟨g1, g2⟩ := (decS_iff ha A).1 h1
  obtain ⟨g3, g4⟩ := (decS_iff hb B).1 h2
  obtain ⟨g5, g6⟩ := (decS_iff (fun c hc => by
    rcases List.mem_append.1 hc with hc | hc
    · exact ha c hc
    · rcases List.mem_append.1 hc with hc | hc
      · exact hm c hc
      · exact hb c hc) X).1 h3
  rw [← g2] at g6
  obtain ⟨Z, e1, e2⟩ := enc_prefix A X _ g1 g5 g6.symm
  rw [← g4] at e2
  obtain ⟨Y, e3, _⟩ := enc_suffix Z m B (fun v hv => g5 v (by rw [e1]; simp [hv])) g3 e2
  exact ⟨Y, by rw [e1, e3]⟩
end Go.Proofs.YtfbknfdbfnklmabDoor
