/- Code points and their bytes: plain mathematics. -/
import Derived.Lib.MapLaws
import Derived.Lib.ValidLaws
namespace Go.Proofs.YtkhcnfeklmbplaaDoor
open Go

/-- Is v a code point? -/
def okP (v : Nat) : Bool := decide (v < 55296) || (decide (57343 < v) && decide (v ≤ 1114111))

theorem okP_iff (v : Nat) : okP v = true ↔ (v < 55296 ∨ (57343 < v ∧ v ≤ 1114111)) := by
  simp [okP]

/-- The bytes of a code point. -/
def encP (v : Nat) : List Nat :=
  if v < 128 then [v] else if v < 2048 then [192 + v / 64, 128 + v % 64]
  else if v < 65536 then [224 + v / 4096, 128 + v / 64 % 64, 128 + v % 64]
  else [240 + v / 262144, 128 + v / 4096 % 64, 128 + v / 64 % 64, 128 + v % 64]

def encS (l : List Nat) : List Nat := l.flatMap encP

/-- What stands at the head of some bytes, as the model reads it. -/
def hd (l : List Nat) : Nat × Nat := Lib.decodeN l.length (l.getD 0 0) (l.getD 1 0) (l.getD 2 0) (l.getD 3 0)

/-- The code point at the head of some bytes. -/
def pt (l : List Nat) : Option (Nat × Nat) := if l = [] then none else if hd l = (65533, 1) then none else some (hd l)

def decF : Nat → List Nat → Option (List Nat)
  | 0, l => if l = [] then some [] else none
  | f + 1, l => if l = [] then some [] else match pt l with
    | none => none
    | some (v, n) => (decF f (l.drop n)).map (v :: ·)

/-- The code points of some bytes. -/
def decS (l : List Nat) : Option (List Nat) := decF l.length l

theorem encP_len (v : Nat) : 1 ≤ (encP v).length ∧ (encP v).length ≤ 4 := by
  unfold encP; split
  · simp
  · split
    · simp
    · split <;> simp

theorem encP_lt {v : Nat} (h : v ≤ 1114111) : ∀ c ∈ encP v, c < 256 := by
  intro c hc
  unfold encP at hc
  split at hc
  · simp at hc; omega
  · split at hc
    · simp at hc; omega
    · split at hc
      · simp at hc; omega
      · simp at hc; omega

theorem okP_le {v : Nat} (h : okP v = true) : v ≤ 1114111 := by rw [okP_iff] at h; omega

theorem pt_enc {v : Nat} (h : okP v = true) (B : List Nat) : pt (encP v ++ B) = some (v, (encP v).length) := by
  rw [okP_iff] at h
  have key : ∀ (L : List Nat), L ≠ [] → hd L = (v, (encP v).length) → ¬ (v = 65533 ∧ (encP v).length = 1) → pt L = some (v, (encP v).length) := by
    intro L h0 h1 h2
    unfold pt
    rw [if_neg h0, h1, if_neg (by intro h; simp only [Prod.mk.injEq] at h; exact h2 h)]
  unfold encP at key ⊢
  by_cases h1 : v < 128
  · simp only [if_pos h1] at key ⊢
    refine key _ (by simp) ?_ (by simp; omega)
    simp [hd, Lib.decodeN, h1]
  · simp only [if_neg h1] at key ⊢
    by_cases h2 : v < 2048
    · simp only [if_pos h2] at key ⊢
      refine key _ (by simp) ?_ (by simp)
      simp only [hd, Lib.decodeN, List.length_append, List.length_cons, List.length_nil, List.cons_append, List.nil_append, List.getD_cons_zero, List.getD_cons_succ]
      rw [if_neg (by omega), if_pos (by omega), if_pos (by omega)]
      congr 1; omega
    · simp only [if_neg h2] at key ⊢
      by_cases h3 : v < 65536
      · simp only [if_pos h3] at key ⊢
        refine key _ (by simp) ?_ (by simp)
        simp only [hd, Lib.decodeN, List.length_append, List.length_cons, List.length_nil, List.cons_append, List.nil_append, List.getD_cons_zero, List.getD_cons_succ]
        rw [if_neg (by omega), if_neg (by omega), if_pos (by omega), if_pos (by omega)]
        congr 1; omega
      · simp only [if_neg h3] at key ⊢
        refine key _ (by simp) ?_ (by simp)
        simp only [hd, Lib.decodeN, List.length_append, List.length_cons, List.length_nil, List.cons_append, List.nil_append, List.getD_cons_zero, List.getD_cons_succ]
        rw [if_neg (by omega), if_neg (by omega), if_neg (by omega), if_pos (by omega), if_pos (by omega)]
        congr 1; omega

theorem take1 : ∀ l : List Nat, 0 < l.length → l.take 1 = [l.getD 0 0]
  | _ :: _, _ => by simp
theorem take2 : ∀ l : List Nat, 1 < l.length → l.take 2 = [l.getD 0 0, l.getD 1 0]
  | [_], h => by simp at h
  | _ :: _ :: _, _ => by simp
theorem take3 : ∀ l : List Nat, 2 < l.length → l.take 3 = [l.getD 0 0, l.getD 1 0, l.getD 2 0]
  | [_], h => by simp at h
  | [_, _], h => by simp at h
  | _ :: _ :: _ :: _, _ => by simp
theorem take4 : ∀ l : List Nat, 3 < l.length → l.take 4 = [l.getD 0 0, l.getD 1 0, l.getD 2 0, l.getD 3 0]
  | [_], h => by simp at h
  | [_, _], h => by simp at h
  | [_, _, _], h => by simp at h
  | _ :: _ :: _ :: _ :: _, _ => by simp

theorem getD_lt (l : List Nat) (h : ∀ c ∈ l, c < 256) (i : Nat) : l.getD i 0 < 256 := by
  rw [List.getD_eq_getElem?_getD]
  cases hi : l[i]? with
  | none => simp
  | some c => exact h c (List.mem_of_getElem? hi)

theorem hd_pos (l : List Nat) : 1 ≤ (hd l).2 := by
  unfold hd
  rcases Lib.decodeN_shape l.length (l.getD 0 0) (l.getD 1 0) (l.getD 2 0) (l.getD 3 0) with ⟨c, e⟩ | ⟨c1, c2, c3, cv, e⟩ | ⟨c1, c2, c3, c4, cv, cs, e⟩ | ⟨c1, c2, c3, c4, c5, cv, cw, e⟩ | e <;> rw [e] <;> simp

theorem hd_le (l : List Nat) : (hd l).1 ≤ 1114111 ∨ 128 ≤ (hd l).1 := by
  unfold hd
  rcases Lib.decodeN_shape l.length (l.getD 0 0) (l.getD 1 0) (l.getD 2 0) (l.getD 3 0) with ⟨c, e⟩ | ⟨c1, c2, c3, cv, e⟩ | ⟨c1, c2, c3, c4, cv, cs, e⟩ | ⟨c1, c2, c3, c4, c5, cv, cw, e⟩ | e <;> rw [e] <;> dsimp only <;> omega

theorem pt_some {l : List Nat} (h256 : ∀ c ∈ l, c < 256) {v n : Nat} (h : pt l = some (v, n)) : okP v = true ∧ l.take n = encP v ∧ n = (encP v).length ∧ n ≤ l.length ∧ 1 ≤ n ∧ hd l = (v, n) := by
  unfold pt at h
  split at h
  · simp at h
  · rename_i hne
    split at h
    · simp at h
    · rename_i hb
      simp only [Option.some.injEq] at h
      have hl : 0 < l.length := List.length_pos_iff.2 hne
      have k0 := getD_lt l h256 0
      have k1 := getD_lt l h256 1
      have k2 := getD_lt l h256 2
      have k3 := getD_lt l h256 3
      have hH := h
      unfold hd at h hb
      rcases Lib.decodeN_shape l.length (l.getD 0 0) (l.getD 1 0) (l.getD 2 0) (l.getD 3 0) with ⟨c, e⟩ | ⟨c1, c2, c3, cv, e⟩ | ⟨c1, c2, c3, c4, cv, cs, e⟩ | ⟨c1, c2, c3, c4, c5, cv, cw, e⟩ | e
      · rw [e] at h
        simp only [Prod.mk.injEq] at h
        obtain ⟨rfl, rfl⟩ := h
        refine ⟨(okP_iff _).2 (by omega), ?_, ?_, by omega, by omega, hH⟩
        · rw [take1 l hl]; unfold encP; rw [if_pos c]
        · unfold encP; rw [if_pos c]; rfl
      · rw [e] at h
        simp only [Prod.mk.injEq] at h
        obtain ⟨rfl, rfl⟩ := h
        refine ⟨(okP_iff _).2 (by omega), ?_, ?_, by omega, by omega, hH⟩
        · rw [take2 l c2]; unfold encP; rw [if_neg (by omega), if_pos (by omega)]
          congr 1; · omega
          congr 1; omega
        · unfold encP; rw [if_neg (by omega), if_pos (by omega)]; rfl
      · rw [e] at h
        simp only [Prod.mk.injEq] at h
        obtain ⟨rfl, rfl⟩ := h
        refine ⟨(okP_iff _).2 (by omega), ?_, ?_, by omega, by omega, hH⟩
        · rw [take3 l c2]; unfold encP; rw [if_neg (by omega), if_neg (by omega), if_pos (by omega)]
          congr 1; · omega
          congr 1; · omega
          congr 1; omega
        · unfold encP; rw [if_neg (by omega), if_neg (by omega), if_pos (by omega)]; rfl
      · rw [e] at h
        simp only [Prod.mk.injEq] at h
        obtain ⟨rfl, rfl⟩ := h
        refine ⟨(okP_iff _).2 (by omega), ?_, ?_, by omega, by omega, hH⟩
        · rw [take4 l c2]; unfold encP; rw [if_neg (by omega), if_neg (by omega), if_neg (by omega)]
          congr 1; · omega
          congr 1; · omega
          congr 1; · omega
          congr 1; omega
        · unfold encP; rw [if_neg (by omega), if_neg (by omega), if_neg (by omega)]; rfl
      · exact absurd e hb

theorem decF_nil (f : Nat) : decF f [] = some [] := by cases f <;> simp [decF]

theorem decF_enc : ∀ (p : List Nat) (f : Nat), (∀ v ∈ p, okP v = true) → (encS p).length ≤ f → decF f (encS p) = some p
  | [], f, _, _ => by simp [encS, decF_nil]
  | v :: p, f, h, hf => by
    have hl := encP_len v
    have e : encS (v :: p) = encP v ++ encS p := rfl
    rw [e, List.length_append] at hf
    obtain ⟨f', rfl⟩ : ∃ f', f = f' + 1 := ⟨f - 1, by omega⟩
    have hne : encP v ++ encS p ≠ [] := by intro h; have := congrArg List.length h; rw [List.length_append] at this; simp only [List.length_nil] at this; omega
    rw [e]
    unfold decF
    rw [if_neg hne, pt_enc (h v (by simp))]
    simp only
    rw [List.drop_left, decF_enc p f' (fun x hx => h x (by simp [hx])) (by omega)]
    rfl

theorem enc_decF : ∀ (f : Nat) (l p : List Nat), (∀ c ∈ l, c < 256) → decF f l = some p → (∀ v ∈ p, okP v = true) ∧ encS p = l
  | 0, l, p, _, h => by
    unfold decF at h
    split at h
    · rename_i hl; simp at h; subst h; subst hl; simp [encS]
    · simp at h
  | f + 1, l, p, h256, h => by
    unfold decF at h
    split at h
    · rename_i hl; simp at h; subst h; subst hl; simp [encS]
    · cases hp : pt l with
      | none => rw [hp] at h; simp at h
      | some x =>
        obtain ⟨v, n⟩ := x
        rw [hp] at h
        simp only [Option.map_eq_some_iff] at h
        obtain ⟨q, hq, rfl⟩ := h
        obtain ⟨h1, h2, h3, h4, h5, _⟩ := pt_some h256 hp
        obtain ⟨h6, h7⟩ := enc_decF f (l.drop n) q (fun c hc => h256 c (List.mem_of_mem_drop hc)) hq
        refine ⟨?_, ?_⟩
        · intro x hx
          rcases List.mem_cons.1 hx with rfl | hx
          · exact h1
          · exact h6 x hx
        · show encP v ++ encS q = l
          rw [h7, ← h2, List.take_append_drop]

/-- The code points of some bytes: the one list of code points that has them. -/
theorem decS_iff {l : List Nat} (h256 : ∀ c ∈ l, c < 256) (p : List Nat) : decS l = some p ↔ ((∀ v ∈ p, okP v = true) ∧ encS p = l) := by
  constructor
  · exact enc_decF _ _ _ h256
  · rintro ⟨h1, rfl⟩
    exact decF_enc p _ h1 (Nat.le_refl _)

theorem encS_lt {p : List Nat} (h : ∀ v ∈ p, okP v = true) : ∀ c ∈ encS p, c < 256 := by
  intro c hc
  obtain ⟨v, hv, hc⟩ := List.mem_flatMap.1 hc
  exact encP_lt (okP_le (h v hv)) c hc

theorem decS_encS {p : List Nat} (h : ∀ v ∈ p, okP v = true) : decS (encS p) = some p := (decS_iff (encS_lt h) p).2 ⟨h, rfl⟩

theorem encS_append (p q : List Nat) : encS (p ++ q) = encS p ++ encS q := by simp [encS]
theorem encS_cons (v : Nat) (p : List Nat) : encS (v :: p) = encP v ++ encS p := rfl
theorem encS_nil : encS [] = [] := rfl

theorem decS_append {a b p q : List Nat} (ha : ∀ c ∈ a, c < 256) (hb : ∀ c ∈ b, c < 256) (h1 : decS a = some p) (h2 : decS b = some q) : decS (a ++ b) = some (p ++ q) := by
  obtain ⟨h3, h4⟩ := (decS_iff ha p).1 h1
  obtain ⟨h5, h6⟩ := (decS_iff hb q).1 h2
  refine (decS_iff (fun c hc => (List.mem_append.1 hc).elim (ha c) (hb c)) _).2 ⟨fun v hv => (List.mem_append.1 hv).elim (h3 v) (h5 v), ?_⟩
  rw [encS_append, h4, h6]

theorem encS_len (p : List Nat) : p.length ≤ (encS p).length ∧ (encS p).length ≤ 4 * p.length := by
  induction p with
  | nil => simp [encS]
  | cons v p ih => rw [encS_cons, List.length_append, List.length_cons]; have := encP_len v; omega

/-- The step of a reader: a code point is there. -/
theorem decS_step {l p : List Nat} (h256 : ∀ c ∈ l, c < 256) (h : decS l = some p) (hne : l ≠ []) : ∃ v n q, pt l = some (v, n) ∧ p = v :: q ∧ decS (l.drop n) = some q ∧ hd l = (v, n) ∧ 1 ≤ n ∧ n ≤ l.length ∧ okP v = true ∧ n = (encP v).length := by
  obtain ⟨h1, h2⟩ := (decS_iff h256 p).1 h
  cases p with
  | nil => exact absurd h2.symm hne
  | cons v q =>
    have hv := h1 v (by simp)
    have hp : pt l = some (v, (encP v).length) := by rw [← h2, encS_cons]; exact pt_enc hv _
    obtain ⟨_, _, _, g4, g5, g6⟩ := pt_some h256 hp
    refine ⟨v, _, q, hp, rfl, ?_, g6, g5, g4, hv, rfl⟩
    rw [← h2, encS_cons, List.drop_left]
    exact decS_encS fun x hx => h1 x (by simp [hx])

theorem decS_nil : decS [] = some [] := rfl

/-- .. and none is there. -/
theorem decS_bad {l : List Nat} (h256 : ∀ c ∈ l, c < 256) (hne : l ≠ []) (h : pt l = none) : decS l = none := by
  cases hd : decS l with
  | none => rfl
  | some p =>
    obtain ⟨v, n, q, h1, _⟩ := decS_step h256 hd hne
    rw [h] at h1; simp at h1

theorem decS_go {l : List Nat} (h256 : ∀ c ∈ l, c < 256) {v n : Nat} (h : pt l = some (v, n)) : decS l = (decS (l.drop n)).map (v :: ·) := by
  obtain ⟨h1, h2, h3, h4, h5, _⟩ := pt_some h256 h
  have hd256 : ∀ c ∈ l.drop n, c < 256 := fun c hc => h256 c (List.mem_of_mem_drop hc)
  have hne : l ≠ [] := by intro e; subst e; simp at h4; omega
  cases hq : decS (l.drop n) with
  | some q =>
    obtain ⟨h6, h7⟩ := (decS_iff hd256 q).1 hq
    refine (decS_iff h256 _).2 ⟨?_, ?_⟩
    · intro x hx
      rcases List.mem_cons.1 hx with rfl | hx
      · exact h1
      · exact h6 x hx
    · show encP v ++ encS q = l
      rw [h7, ← h2, List.take_append_drop]
  | none =>
    cases hp : decS l with
    | none => rfl
    | some p =>
      obtain ⟨v', n', q', g1, _, g3, _⟩ := decS_step h256 hp hne
      rw [h] at g1
      simp only [Option.some.injEq, Prod.mk.injEq] at g1
      obtain ⟨rfl, rfl⟩ := g1
      rw [hq] at g3; simp at g3

/-- The code points ahead of a place, where what stands there begins one. -/
theorem decS_split {l p : List Nat} (h256 : ∀ c ∈ l, c < 256) (h : decS l = some p) (i : Nat) (hi : i ≤ p.length) : decS (l.drop (encS (p.take i)).length) = some (p.drop i) ∧ (encS (p.take i)).length ≤ l.length := by
  obtain ⟨h1, h2⟩ := (decS_iff h256 p).1 h
  have e : l = encS (p.take i) ++ encS (p.drop i) := by rw [← encS_append, List.take_append_drop, h2]
  refine ⟨?_, by rw [e, List.length_append]; omega⟩
  rw [e, List.drop_left]
  exact decS_encS fun x hx => h1 x (List.mem_of_mem_drop hx)
end Go.Proofs.YtkhcnfeklmbplaaDoor
