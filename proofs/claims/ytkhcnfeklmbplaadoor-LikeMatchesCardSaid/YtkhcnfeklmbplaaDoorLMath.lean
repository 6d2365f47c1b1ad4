/- Patterns: plain mathematics. -/
import Derived.Test.YtkhcnfeklmbplaaDoorUMath
namespace Go.Proofs.YtkhcnfeklmbplaaDoor

/-- Do the points s match the pattern? (37 is any run of points, 95 any one.) -/
def matB : List Nat → List Nat → Bool
  | [], s => s.isEmpty
  | c :: p, s => if c = 37 then (List.range (s.length + 1)).any (fun k => matB p (s.drop k)) else match s with
    | [] => false
    | d :: r => (c == 95 || c == d) && matB p r

def M (p s : List Nat) : Prop := matB p s = true

theorem M_nil (s : List Nat) : M [] s ↔ s = [] := by simp [M, matB]
theorem M_run (p s : List Nat) : M (37 :: p) s ↔ ∃ k, k ≤ s.length ∧ M p (s.drop k) := by
  simp only [M, matB, if_true, List.any_eq_true, List.mem_range]
  exact ⟨fun ⟨k, h1, h2⟩ => ⟨k, by omega, h2⟩, fun ⟨k, h1, h2⟩ => ⟨k, by omega, h2⟩⟩
theorem M_one_nil {c : Nat} (hc : c ≠ 37) (p : List Nat) : ¬ M (c :: p) [] := by simp [M, matB, hc]
theorem M_one {c : Nat} (hc : c ≠ 37) (p : List Nat) (d : Nat) (r : List Nat) : M (c :: p) (d :: r) ↔ (c = 95 ∨ c = d) ∧ M p r := by
  simp [M, matB, hc]

theorem M_app : ∀ (p q s : List Nat), M (p ++ q) s ↔ ∃ j, j ≤ s.length ∧ M p (s.take j) ∧ M q (s.drop j)
  | [], q, s => by
    rw [List.nil_append]
    constructor
    · intro h; exact ⟨0, by omega, by simp [M_nil], by simpa using h⟩
    · rintro ⟨j, hj, h1, h2⟩
      rw [M_nil] at h1
      have h0 : j = 0 ∨ s = [] := by
        cases s with
        | nil => exact .inr rfl
        | cons x s =>
          left
          cases j with
          | zero => rfl
          | succ j => simp at h1
      rcases h0 with rfl | rfl
      · simpa using h2
      · simpa using h2
  | c :: p, q, s => by
    rw [List.cons_append]
    by_cases hc : c = 37
    · subst hc
      rw [M_run]
      constructor
      · rintro ⟨k, hk, h⟩
        obtain ⟨j, hj, h1, h2⟩ := (M_app p q _).1 h
        rw [List.length_drop] at hj
        refine ⟨k + j, by omega, ?_, by rw [List.drop_drop] at h2; exact h2⟩
        rw [M_run]
        refine ⟨k, by rw [List.length_take]; omega, ?_⟩
        rw [List.drop_take]
        have : k + j - k = j := by omega
        rw [this]; exact h1
      · rintro ⟨j, hj, h1, h2⟩
        rw [M_run] at h1
        obtain ⟨k, hk, h1⟩ := h1
        rw [List.length_take] at hk
        rw [List.drop_take] at h1
        refine ⟨k, by omega, (M_app p q _).2 ⟨j - k, by rw [List.length_drop]; omega, h1, ?_⟩⟩
        rw [List.drop_drop]
        have : k + (j - k) = j := by omega
        rw [this]; exact h2
    · cases s with
      | nil =>
        constructor
        · intro h; exact absurd h (M_one_nil hc _)
        · rintro ⟨j, hj, h1, _⟩
          rw [List.take_nil] at h1
          exact absurd h1 (M_one_nil hc _)
      | cons d r =>
        rw [M_one hc, M_app p q r]
        constructor
        · rintro ⟨h0, j, hj, h1, h2⟩
          exact ⟨j + 1, by simp; omega, by rw [List.take_succ_cons, M_one hc]; exact ⟨h0, h1⟩, by simpa using h2⟩
        · rintro ⟨j, hj, h1, h2⟩
          cases j with
          | zero => rw [List.take_zero] at h1; exact absurd h1 (M_one_nil hc _)
          | succ j =>
            rw [List.take_succ_cons, M_one hc] at h1
            exact ⟨h1.1, j, by simp at hj; omega, h1.2, by simpa using h2⟩

theorem M_join {p q a b : List Nat} (h1 : M p a) (h2 : M q b) : M (p ++ q) (a ++ b) :=
  (M_app p q _).2 ⟨a.length, by simp, by simpa using h1, by simpa using h2⟩

theorem M_between {p q a b : List Nat} (m : List Nat) (h1 : M p a) (h2 : M q b) : M (p ++ 37 :: q) (a ++ (m ++ b)) :=
  M_join h1 ((M_run q _).2 ⟨m.length, by simp, by simpa using h2⟩)

theorem M_self : ∀ (p s : List Nat), (∀ c ∈ p, c ≠ 37 ∧ c ≠ 95) → (M p s ↔ p = s)
  | [], s, _ => by rw [M_nil]; exact eq_comm
  | c :: p, [], h => by
    have := M_one_nil (h c (by simp)).1 p
    simp [this]
  | c :: p, d :: r, h => by
    rw [M_one (h c (by simp)).1, M_self p r (fun x hx => h x (by simp [hx])), List.cons.injEq]
    exact ⟨fun ⟨h1, h2⟩ => ⟨h1.resolve_left (h c (by simp)).2, h2⟩, fun ⟨h1, h2⟩ => ⟨.inr h1, h2⟩⟩

theorem M_any (s : List Nat) : M [37] s := (M_run [] s).2 ⟨s.length, Nat.le_refl _, by rw [M_nil]; simp⟩

/-- The points ahead of the first 37 or 95. -/
def frontP (p : List Nat) : List Nat := p.takeWhile fun c => c != 37 && c != 95
def leastP (p : List Nat) : Nat := (p.filter fun c => c != 37).length

theorem M_begins : ∀ (p s : List Nat), M p s → frontP p <+: s ∧ leastP p ≤ s.length
  | [], s, _ => by simp [frontP, leastP]
  | c :: p, s, h => by
    by_cases hc : c = 37
    · subst hc
      obtain ⟨k, hk, h⟩ := (M_run p s).1 h
      have := (M_begins p _ h).2
      rw [List.length_drop] at this
      refine ⟨by simp [frontP], ?_⟩
      show leastP (37 :: p) ≤ _
      simp only [leastP, List.filter_cons, bne_self_eq_false, Bool.false_eq_true, if_false] at this ⊢
      omega
    · cases s with
      | nil => exact absurd h (M_one_nil hc p)
      | cons d r =>
        obtain ⟨h1, h2⟩ := (M_one hc p d r).1 h
        obtain ⟨h3, h4⟩ := M_begins p r h2
        refine ⟨?_, ?_⟩
        · by_cases h95 : c = 95
          · subst h95; simp [frontP]
          · have : c = d := h1.resolve_left h95
            subst this
            have e : frontP (c :: p) = c :: frontP p := by simp [frontP, List.takeWhile_cons, hc, h95]
            rw [e]
            exact List.cons_prefix_cons.2 ⟨rfl, h3⟩
        · have e : leastP (c :: p) = leastP p + 1 := by simp [leastP, List.filter_cons, hc]
          rw [e, List.length_cons]; omega

/-! ### The walk that goes back to the last 37 alone -/

/-- No 37 among the points from b to a of the pattern: each takes one point. -/
theorem M_segment : ∀ (g p s : List Nat), (∀ c ∈ g, c ≠ 37) → M (g ++ p) s → g.length ≤ s.length ∧ M p (s.drop g.length)
  | [], p, s, _, h => ⟨by simp, by simpa using h⟩
  | c :: g, p, s, hg, h => by
    rw [List.cons_append] at h
    cases s with
    | nil => exact absurd h (M_one_nil (hg c (by simp)) _)
    | cons d r =>
      obtain ⟨_, h2⟩ := (M_one (hg c (by simp)) _ d r).1 h
      obtain ⟨h3, h4⟩ := M_segment g p r (fun x hx => hg x (by simp [hx])) h2
      exact ⟨by simpa using h3, by simpa using h4⟩

/-- Where the walk stands: what is left to find out. -/
def Left (P S : List Nat) (at_ next : Nat) : Option (Nat × Nat) → Prop
  | none => M (P.drop at_) (S.drop next)
  | some (b, t) => M (P.drop at_) (S.drop next) ∨ ∃ u, t < u ∧ u ≤ S.length ∧ M (P.drop b) (S.drop u)

/-- The walk's state is sound. -/
def Ok (P S : List Nat) (at_ next : Nat) : Option (Nat × Nat) → Prop
  | none => at_ ≤ P.length ∧ next ≤ S.length
  | some (b, t) => at_ ≤ P.length ∧ next ≤ S.length ∧ b ≤ at_ ∧ next = t + (at_ - b) ∧ ∀ c ∈ (P.drop b).take (at_ - b), c ≠ 37

theorem later_gone {P S : List Nat} {at_ next b t : Nat} (h : Ok P S at_ next (some (b, t))) {u : Nat} (hul : u ≤ S.length) (hM : M (P.drop b) (S.drop u)) :
    u + (at_ - b) ≤ S.length ∧ M (P.drop at_) (S.drop (u + (at_ - b))) := by
  obtain ⟨h1, h2, h3, h4, h5⟩ := h
  have e : P.drop b = (P.drop b).take (at_ - b) ++ P.drop at_ := by
    conv => lhs; rw [← List.take_append_drop (at_ - b) (P.drop b)]
    rw [List.drop_drop]
    congr 2; omega
  rw [e] at hM
  obtain ⟨h6, h7⟩ := M_segment _ _ _ h5 hM
  have hl : ((P.drop b).take (at_ - b)).length = at_ - b := by rw [List.length_take, List.length_drop]; omega
  rw [hl, List.length_drop] at h6
  rw [hl, List.drop_drop] at h7
  exact ⟨by omega, h7⟩

theorem M_empty : ∀ (p : List Nat), M p [] ↔ ∀ c ∈ p, c = 37
  | [] => by simp [M_nil]
  | c :: p => by
    by_cases hc : c = 37
    · subst hc
      rw [M_run]
      simp only [List.drop_nil, List.length_nil, Nat.le_zero, exists_eq_left]
      rw [M_empty p]; simp
    · constructor
      · intro h; exact absurd h (M_one_nil hc p)
      · intro h; exact absurd (h c (by simp)) hc

theorem left_done {P S : List Nat} {at_ : Nat} {st : Option (Nat × Nat)} (h : Ok P S at_ S.length st) : Left P S at_ S.length st ↔ ∀ c ∈ P.drop at_, c = 37 := by
  have e : S.drop S.length = [] := List.drop_of_length_le (Nat.le_refl _)
  cases st with
  | none => unfold Left; rw [e, M_empty]
  | some x =>
    obtain ⟨b, t⟩ := x
    unfold Left
    rw [e, M_empty]
    refine ⟨fun hl => hl.elim id ?_, fun hl => .inl hl⟩
    rintro ⟨u, h1, h2, h3⟩
    have := (later_gone h h2 h3).1
    have := h.2.2.2.1
    omega

theorem left_run {P S : List Nat} {at_ next : Nat} {st : Option (Nat × Nat)} (h : Ok P S at_ next st) (hat : at_ < P.length) (hc : P[at_] = 37) :
    (Left P S at_ next st ↔ Left P S (at_ + 1) next (some (at_ + 1, next))) ∧ Ok P S (at_ + 1) next (some (at_ + 1, next)) := by
  have hd : P.drop at_ = 37 :: P.drop (at_ + 1) := by rw [List.drop_eq_getElem_cons hat, hc]
  have hn : next ≤ S.length := by
    cases st with
    | none => exact h.2
    | some x => exact h.2.1
  have key : ∀ v, next ≤ v → v ≤ S.length → M (P.drop at_) (S.drop v) → Left P S (at_ + 1) next (some (at_ + 1, next)) := by
    intro v h1 h2 h3
    rw [hd, M_run] at h3
    obtain ⟨k, hk, h3⟩ := h3
    rw [List.length_drop] at hk
    rw [List.drop_drop] at h3
    by_cases h0 : v + k = next
    · left; rw [h0] at h3; exact h3
    · right; exact ⟨v + k, by omega, by omega, h3⟩
  refine ⟨⟨?_, ?_⟩, by omega, hn, Nat.le_refl _, by omega, by simp⟩
  · cases st with
    | none => intro hl; exact key next (Nat.le_refl _) hn hl
    | some x =>
      obtain ⟨b, t⟩ := x
      rintro (hl | ⟨u, h1, h2, h3⟩)
      · exact key next (Nat.le_refl _) hn hl
      · obtain ⟨h4, h5⟩ := later_gone h h2 h3
        have := h.2.2.2.1
        exact key (u + (at_ - b)) (by omega) h4 h5
  · intro hl
    have : M (P.drop at_) (S.drop next) := by
      rw [hd, M_run]
      rcases hl with hl | ⟨u, h1, h2, h3⟩
      · exact ⟨0, by omega, by simpa using hl⟩
      · refine ⟨u - next, by rw [List.length_drop]; omega, ?_⟩
        rw [List.drop_drop]
        have : next + (u - next) = u := by omega
        rw [this]; exact h3
    cases st with
    | none => exact this
    | some x => exact .inl this

theorem left_one {P S : List Nat} {at_ next : Nat} {st : Option (Nat × Nat)} (h : Ok P S at_ next st) (hat : at_ < P.length) (hn : next < S.length) (hc : P[at_] ≠ 37) (he : P[at_] = 95 ∨ P[at_] = S[next]) :
    (Left P S at_ next st ↔ Left P S (at_ + 1) (next + 1) st) ∧ Ok P S (at_ + 1) (next + 1) st := by
  have hM : M (P.drop at_) (S.drop next) ↔ M (P.drop (at_ + 1)) (S.drop (next + 1)) := by
    rw [List.drop_eq_getElem_cons hat, List.drop_eq_getElem_cons hn, M_one hc]
    exact ⟨fun x => x.2, fun x => ⟨he, x⟩⟩
  cases st with
  | none => exact ⟨hM, by omega, by omega⟩
  | some x =>
    obtain ⟨b, t⟩ := x
    refine ⟨?_, by omega, by omega, by have := h.2.2.1; omega, by have := h.2.2.1; have := h.2.2.2.1; omega, ?_⟩
    · unfold Left; rw [hM]
    · intro c hx
      have h3 := h.2.2.1
      have e : at_ + 1 - b = (at_ - b) + 1 := by omega
      rw [e, List.take_add_one, List.mem_append] at hx
      rcases hx with hx | hx
      · exact h.2.2.2.2 c hx
      · rw [List.getElem?_drop] at hx
        have e2 : b + (at_ - b) = at_ := by omega
        rw [e2, List.getElem?_eq_getElem hat] at hx
        simp at hx
        rw [hx]; exact hc

theorem M_stuck {P S : List Nat} {at_ next : Nat} (hn : next < S.length) (hs : at_ = P.length ∨ ∃ h : at_ < P.length, P[at_] ≠ 37 ∧ P[at_] ≠ 95 ∧ P[at_] ≠ S[next]) : ¬ M (P.drop at_) (S.drop next) := by
  rcases hs with hs | ⟨hat, h1, h2, h3⟩
  · rw [List.drop_of_length_le (by omega), M_nil]
    intro h
    have := congrArg List.length h
    rw [List.length_drop] at this; simp at this; omega
  · rw [List.drop_eq_getElem_cons hat, List.drop_eq_getElem_cons hn, M_one h1]
    rintro ⟨h4 | h4, _⟩
    · exact h2 h4
    · exact h3 h4

theorem left_back {P S : List Nat} {at_ next b t : Nat} (h : Ok P S at_ next (some (b, t))) (hn : next < S.length) (hs : at_ = P.length ∨ ∃ h : at_ < P.length, P[at_] ≠ 37 ∧ P[at_] ≠ 95 ∧ P[at_] ≠ S[next]) :
    (Left P S at_ next (some (b, t)) ↔ Left P S b (t + 1) (some (b, t + 1))) ∧ Ok P S b (t + 1) (some (b, t + 1)) := by
  have hno := M_stuck hn hs
  obtain ⟨h1, h2, h3, h4, h5⟩ := h
  refine ⟨⟨?_, ?_⟩, by omega, by omega, Nat.le_refl _, by omega, by simp⟩
  · rintro (hl | ⟨u, g1, g2, g3⟩)
    · exact absurd hl hno
    · by_cases hu : u = t + 1
      · left; rw [← hu]; exact g3
      · right; exact ⟨u, by omega, g2, g3⟩
  · rintro (hl | ⟨u, g1, g2, g3⟩)
    · right; exact ⟨t + 1, by omega, by omega, hl⟩
    · right; exact ⟨u, by omega, g2, g3⟩
end Go.Proofs.YtkhcnfeklmbplaaDoor
