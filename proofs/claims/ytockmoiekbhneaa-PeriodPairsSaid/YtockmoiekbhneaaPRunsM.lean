/- The document's runs, plainly: the edges of a list of spans; the points of one list that another has not. -/
import Derived.Test.YtockmoiekbhneaaPMath
namespace Go.Proofs.Ytockmoiekbhneaa
open Go.RowKit

/-- How many of some ascending numbers are below v. -/
def posE (v : Int) (l : List Int) : Nat := (l.takeWhile fun x => decide (x < v)).length
def insE (v : Int) (l : List Int) : List Int := if l[posE v l]? = some v then l else l.take (posE v l) ++ [v] ++ l.drop (posE v l)
def nthE (l : List (Int × Int)) (i : Nat) : Int := match l[i / 2]? with
  | none => 0
  | some s => if i % 2 = 1 then s.2 else s.1
def edgesTo (l : List (Int × Int)) : Nat → List Int
  | 0 => []
  | i + 1 => insE (nthE l i) (edgesTo l i)
def edges (l : List (Int × Int)) : List Int := edgesTo l (2 * l.length)

theorem posE_le (v : Int) (l : List Int) : posE v l ≤ l.length := (List.takeWhile_sublist _).length_le
theorem posE_lt {v : Int} : ∀ {l : List Int} {i : Nat} {x : Int}, i < posE v l → l[i]? = some x → x < v
  | [], i, x, h, _ => by simp [posE] at h
  | y :: r, i, x, h, hx => by
    unfold posE at h
    rw [List.takeWhile_cons] at h
    split at h
    · rename_i hy
      cases i with
      | zero => simp at hx; subst hx; simpa using hy
      | succ i => exact posE_lt (l := r) (i := i) (by simpa [posE] using h) (by simpa using hx)
    · simp at h
theorem posE_at {v : Int} : ∀ {l : List Int} {x : Int}, l[posE v l]? = some x → ¬ x < v
  | [], x, h => by simp at h
  | y :: r, x, h => by
    unfold posE at h
    rw [List.takeWhile_cons] at h
    split at h
    · rename_i hy
      exact posE_at (l := r) (by simpa [posE] using h)
    · rename_i hy
      simp at h; subst h; simpa using hy

/-- Ascending, each once. -/
def Up : List Int → Prop
  | [] => True
  | x :: r => (∀ y ∈ r, x < y) ∧ Up r

theorem insE_mem (v : Int) (l : List Int) (x : Int) : x ∈ insE v l ↔ x = v ∨ x ∈ l := by
  unfold insE
  split
  · rename_i h
    have := List.mem_of_getElem? h
    constructor
    · exact .inr
    · rintro (rfl | h1)
      · exact this
      · exact h1
  · have e : x ∈ l ↔ x ∈ l.take (posE v l) ∨ x ∈ l.drop (posE v l) := by
      rw [← List.mem_append, List.take_append_drop]
    simp only [List.mem_append, List.mem_singleton]
    rw [e]
    constructor
    · rintro ((h | h) | h)
      · exact .inr (.inl h)
      · exact .inl h
      · exact .inr (.inr h)
    · rintro (h | h | h)
      · exact .inl (.inr h)
      · exact .inl (.inl h)
      · exact .inr h

theorem insE_cons_lt {v y : Int} {r : List Int} (h : y < v) : insE v (y :: r) = y :: insE v r := by
  have e : posE v (y :: r) = posE v r + 1 := by unfold posE; rw [List.takeWhile_cons]; simp [h]
  unfold insE
  rw [e]
  simp only [List.getElem?_cons_succ, List.take_succ_cons, List.drop_succ_cons, List.cons_append]
  split <;> rfl
theorem insE_cons_eq {v : Int} {r : List Int} : insE v (v :: r) = v :: r := by
  have e : posE v (v :: r) = 0 := by unfold posE; rw [List.takeWhile_cons]; simp
  unfold insE
  rw [e]; simp
theorem insE_cons_gt {v y : Int} {r : List Int} (h : v < y) : insE v (y :: r) = v :: y :: r := by
  have e : posE v (y :: r) = 0 := by unfold posE; rw [List.takeWhile_cons]; simp; omega
  unfold insE
  rw [e]; simp; omega
theorem insE_up {v : Int} : ∀ {l : List Int}, Up l → Up (insE v l)
  | [], _ => by simp [insE, posE, Up]
  | y :: r, h => by
    rcases Int.lt_trichotomy y v with h1 | h1 | h1
    · rw [insE_cons_lt h1]
      refine ⟨fun z hz => ?_, insE_up h.2⟩
      rcases (insE_mem v r z).1 hz with rfl | hz
      · exact h1
      · exact h.1 z hz
    · subst h1; rw [insE_cons_eq]; exact h
    · rw [insE_cons_gt h1]
      refine ⟨fun z hz => ?_, h⟩
      rcases List.mem_cons.1 hz with rfl | hz
      · exact h1
      · have := h.1 z hz; omega
theorem edgesTo_up (l : List (Int × Int)) : ∀ i, Up (edgesTo l i)
  | 0 => trivial
  | i + 1 => insE_up (edgesTo_up l i)
theorem edgesTo_len (l : List (Int × Int)) : ∀ i, (edgesTo l i).length ≤ i
  | 0 => by simp [edgesTo]
  | i + 1 => by
    have := edgesTo_len l i
    unfold edgesTo insE
    split
    · omega
    · simp only [List.length_append, List.length_take, List.length_drop, List.length_singleton]; omega
theorem edgesTo_mem (l : List (Int × Int)) : ∀ i x, x ∈ edgesTo l i ↔ ∃ j < i, x = nthE l j
  | 0, x => by simp [edgesTo]
  | i + 1, x => by
    unfold edgesTo
    rw [insE_mem, edgesTo_mem l i]
    constructor
    · rintro (rfl | ⟨j, hj, rfl⟩)
      · exact ⟨i, by omega, rfl⟩
      · exact ⟨j, by omega, rfl⟩
    · rintro ⟨j, hj, rfl⟩
      by_cases h : j = i
      · subst h; exact .inl rfl
      · exact .inr ⟨j, by omega, rfl⟩
theorem edges_mem (l : List (Int × Int)) (s : Int × Int) (hs : s ∈ l) : s.1 ∈ edges l ∧ s.2 ∈ edges l := by
  obtain ⟨k, hk, rfl⟩ := List.getElem_of_mem hs
  unfold edges
  rw [edgesTo_mem, edgesTo_mem]
  refine ⟨⟨2 * k, by omega, ?_⟩, ⟨2 * k + 1, by omega, ?_⟩⟩
  · unfold nthE
    rw [show 2 * k / 2 = k by omega, List.getElem?_eq_getElem hk]
    simp only
    rw [if_neg (by omega)]
  · unfold nthE
    rw [show (2 * k + 1) / 2 = k by omega, List.getElem?_eq_getElem hk]
    simp only
    rw [if_pos (by omega)]

theorem Up.get : ∀ {l : List Int} {i j : Nat} {x y : Int}, Up l → l[i]? = some x → l[j]? = some y → i < j → x < y
  | [], _, _, _, _, _, h, _, _ => by simp at h
  | z :: r, 0, j + 1, x, y, hn, h, h', _ => by
    simp at h h'
    subst h
    exact hn.1 y (List.mem_of_getElem? h')
  | z :: r, i + 1, j + 1, x, y, hn, h, h', hij => by
    simp at h h'
    exact Up.get hn.2 h h' (by omega)

/-- Some of a list has the point. -/
def anyB (l : List (Int × Int)) (p : Int) : Bool := l.any fun s => hasB s p
theorem anyB_iff (l : List (Int × Int)) (p : Int) : anyB l p = true ↔ Pts l p := by
  unfold anyB Pts
  rw [List.any_eq_true]
  constructor
  · rintro ⟨s, hs, h⟩; exact ⟨s, hs, (hasB_iff s p).1 h⟩
  · rintro ⟨s, hs, h⟩; exact ⟨s, hs, (hasB_iff s p).2 h⟩

def joinE (out : List (Int × Int)) (f t : Int) : List (Int × Int) := match out.getLast? with
  | none => [(f, t)]
  | some s => if s.2 = f then out.dropLast ++ [(s.1, t)] else out ++ [(f, t)]
def goodB (l m : List (Int × Int)) (p : Int) : Bool := anyB l p && !anyB m p
def runsTo (l m : List (Int × Int)) (e : List Int) : Nat → List (Int × Int)
  | 0 => []
  | i + 1 => if goodB l m (e.getD i 0) then joinE (runsTo l m e i) (e.getD i 0) (e.getD (i + 1) 0) else runsTo l m e i
def runsL (l m : List (Int × Int)) : List (Int × Int) := runsTo l m (edges (l ++ m)) ((edges (l ++ m)).length - 1)

theorem joinE_len (out : List (Int × Int)) (f t : Int) : (joinE out f t).length ≤ out.length + 1 := by
  unfold joinE
  cases h : out.getLast? with
  | none => simp
  | some s =>
    simp only
    split <;> (first | (simp; done) | (simp; omega))
theorem runsTo_len (l m : List (Int × Int)) (e : List Int) : ∀ i, (runsTo l m e i).length ≤ i
  | 0 => by simp [runsTo]
  | i + 1 => by
    have := runsTo_len l m e i
    unfold runsTo
    split
    · have := joinE_len (runsTo l m e i) (e.getD i 0) (e.getD (i + 1) 0); omega
    · omega

theorem Nrm.snoc : ∀ {l : List (Int × Int)} {s : Int × Int}, Nrm l → s.1 < s.2 → (∀ t ∈ l, t.2 < s.1) → Nrm (l ++ [s])
  | [], s, _, h, _ => ⟨h, by simp, trivial⟩
  | x :: r, s, h, h1, h2 => by
    refine ⟨h.1, fun t ht => ?_, Nrm.snoc h.2.2 h1 (fun t ht => h2 t (by simp [ht]))⟩
    rcases List.mem_append.1 ht with ht | ht
    · exact h.2.1 t ht
    · simp at ht; subst ht; exact h2 x (by simp)
theorem Nrm.last : ∀ {l : List (Int × Int)} {s : Int × Int}, Nrm (l ++ [s]) → Nrm l ∧ s.1 < s.2 ∧ ∀ t ∈ l, t.2 < s.1
  | [], s, h => ⟨trivial, h.1, by simp⟩
  | x :: r, s, h => by
    have ih := Nrm.last (l := r) (s := s) h.2.2
    refine ⟨⟨h.1, fun t ht => h.2.1 t (by simp [ht]), ih.1⟩, ih.2.1, fun t ht => ?_⟩
    rcases List.mem_cons.1 ht with rfl | ht
    · exact h.2.1 s (by simp)
    · exact ih.2.2 t ht

theorem joinE_ok {out : List (Int × Int)} {f t : Int} (hn : Nrm out) (hft : f < t) (hl : ∀ s ∈ out, s.2 ≤ f) :
    Nrm (joinE out f t) ∧ (∀ s ∈ joinE out f t, s.2 ≤ t) ∧ ∀ p, Pts (joinE out f t) p ↔ Pts out p ∨ (f ≤ p ∧ p < t) := by
  unfold joinE
  cases h : out.getLast? with
  | none =>
    have : out = [] := by simpa using h
    subst this
    refine ⟨⟨hft, by simp, trivial⟩, by simp, fun p => ?_⟩
    simp only
    rw [Pts_cons, Pts_nil]; simp
  | some s =>
    obtain ⟨r, hr⟩ : ∃ r, out = r ++ [s] := by
      have := List.getLast?_eq_some_iff.1 h
      exact this
    subst hr
    obtain ⟨h1, h2, h3⟩ := hn.last
    have hs2 := hl s (by simp)
    simp only
    split
    · rename_i he
      rw [List.dropLast_concat]
      refine ⟨Nrm.snoc h1 (by simp only; omega) (fun x hx => h3 x hx), ?_, fun p => ?_⟩
      · intro x hx
        rcases List.mem_append.1 hx with hx | hx
        · have := hl x (by simp [hx]); omega
        · simp at hx; subst hx; simp
      · simp only [Pts_app, Pts_cons, Pts_nil, or_false, or_assoc]
        refine or_congr Iff.rfl ?_
        constructor <;> intro hh <;> omega
    · rename_i he
      refine ⟨Nrm.snoc hn hft (fun x hx => ?_), ?_, fun p => ?_⟩
      · simp only
        rcases List.mem_append.1 hx with hx1 | hx1
        · have := h3 x hx1; omega
        · simp at hx1; subst hx1; omega
      · intro x hx
        rcases List.mem_append.1 hx with hx | hx
        · have := hl x hx; omega
        · simp at hx; subst hx; simp
      · rw [Pts_app, Pts_cons, Pts_nil, or_false]

theorem runsTo_ok (l m : List (Int × Int)) (e : List Int) (he : Up e) : ∀ i, i < e.length → Nrm (runsTo l m e i) ∧ (∀ s ∈ runsTo l m e i, s.2 ≤ e.getD i 0) ∧ ∀ p, Pts (runsTo l m e i) p ↔ ∃ j < i, (e.getD j 0 ≤ p ∧ p < e.getD (j + 1) 0) ∧ goodB l m (e.getD j 0) = true
  | 0, _ => ⟨trivial, by simp [runsTo], fun p => by simp [runsTo, Pts_nil]⟩
  | i + 1, hi => by
    obtain ⟨h1, h2, h3⟩ := runsTo_ok l m e he i (by omega)
    have g1 : e[i]? = some (e.getD i 0) := by rw [List.getD_eq_getElem?_getD, List.getElem?_eq_getElem (by omega)]; rfl
    have g2 : e[i + 1]? = some (e.getD (i + 1) 0) := by rw [List.getD_eq_getElem?_getD, List.getElem?_eq_getElem hi]; rfl
    have hlt := he.get g1 g2 (by omega)
    unfold runsTo
    split
    · rename_i hg
      obtain ⟨k1, k2, k3⟩ := joinE_ok h1 hlt h2
      refine ⟨k1, k2, fun p => ?_⟩
      rw [k3, h3]
      constructor
      · rintro (⟨j, hj, hh⟩ | hh)
        · exact ⟨j, by omega, hh⟩
        · exact ⟨i, by omega, hh, hg⟩
      · rintro ⟨j, hj, hh, hg2⟩
        by_cases hji : j = i
        · subst hji; exact .inr hh
        · exact .inl ⟨j, by omega, hh, hg2⟩
    · rename_i hg
      refine ⟨h1, fun s hs => by have := h2 s hs; omega, fun p => ?_⟩
      rw [h3]
      constructor
      · rintro ⟨j, hj, hh⟩; exact ⟨j, by omega, hh⟩
      · rintro ⟨j, hj, hh, hg2⟩
        by_cases hji : j = i
        · subst hji; exact absurd hg2 hg
        · exact ⟨j, by omega, hh, hg2⟩

/-- Between two edges that follow each other a list has all points or none. -/
theorem pts_between {L : List (Int × Int)} {e : List Int} (he : Up e) (hm : ∀ s ∈ L, s.1 ∈ e ∧ s.2 ∈ e) {j : Nat} {x y p : Int} (hx : e[j]? = some x) (hy : e[j + 1]? = some y) (h1 : x ≤ p) (h2 : p < y) : Pts L p ↔ Pts L x := by
  have key : ∀ z ∈ e, z ≤ p ↔ z ≤ x := by
    intro z hz
    obtain ⟨k, hk⟩ := List.getElem?_of_mem hz
    constructor
    · intro hzp
      rcases Nat.lt_trichotomy k j with h | h | h
      · have := he.get hk hx h; omega
      · subst h; rw [hk] at hx; simp at hx; omega
      · rcases Nat.lt_trichotomy k (j + 1) with h' | h' | h'
        · omega
        · subst h'; rw [hk] at hy; simp at hy; omega
        · have := he.get hy hk h'; omega
    · omega
  constructor
  · rintro ⟨s, hs, a, b⟩
    have k1 := key s.1 (hm s hs).1
    have k2 := key s.2 (hm s hs).2
    exact ⟨s, hs, k1.1 a, by omega⟩
  · rintro ⟨s, hs, a, b⟩
    have k1 := key s.1 (hm s hs).1
    have k2 := key s.2 (hm s hs).2
    exact ⟨s, hs, k1.2 a, by omega⟩

/-- The place of a point among the edges. -/
theorem Up.place : ∀ {e : List Int} {x y p : Int}, Up e → x ∈ e → y ∈ e → x ≤ p → p < y → ∃ j, ∃ a b, e[j]? = some a ∧ e[j + 1]? = some b ∧ a ≤ p ∧ p < b
  | [], _, _, _, _, h, _, _, _ => by simp at h
  | [z], x, y, p, _, hx, hy, h1, h2 => by simp at hx hy; subst hx hy; omega
  | z :: u :: r, x, y, p, hu, hx, hy, h1, h2 => by
    by_cases hp : p < u
    · refine ⟨0, z, u, rfl, rfl, ?_, hp⟩
      rcases List.mem_cons.1 hx with rfl | hx
      · exact h1
      · rcases List.mem_cons.1 hx with rfl | hx
        · omega
        · have := hu.2.1 x hx; omega
    · have hyr : y ∈ u :: r := by
        rcases List.mem_cons.1 hy with rfl | hy
        · have := hu.1 u (by simp); omega
        · exact hy
      obtain ⟨j, a, b, h3, h4, h5⟩ := Up.place (e := u :: r) (x := u) hu.2 (by simp) hyr (by omega) h2
      exact ⟨j + 1, a, b, by simpa using h3, by simpa using h4, h5⟩

theorem runsL_nrm (l m : List (Int × Int)) : Nrm (runsL l m) := by
  unfold runsL
  by_cases h : (edges (l ++ m)).length = 0
  · rw [h]; exact trivial
  · exact (runsTo_ok l m (edges (l ++ m)) (edgesTo_up _ _) _ (by omega)).1
theorem runsL_pts (l m : List (Int × Int)) (p : Int) : Pts (runsL l m) p ↔ Pts l p ∧ ¬ Pts m p := by
  have hup : Up (edges (l ++ m)) := edgesTo_up _ _
  have hml : ∀ s ∈ l, s.1 ∈ edges (l ++ m) ∧ s.2 ∈ edges (l ++ m) := fun s hs => edges_mem _ s (by simp [hs])
  have hmm : ∀ s ∈ m, s.1 ∈ edges (l ++ m) ∧ s.2 ∈ edges (l ++ m) := fun s hs => edges_mem _ s (by simp [hs])
  have hg : ∀ x, goodB l m x = true ↔ Pts l x ∧ ¬ Pts m x := by
    intro x
    unfold goodB
    rw [Bool.and_eq_true, anyB_iff, ← anyB_iff m]
    simp
  unfold runsL
  generalize edges (l ++ m) = e at *
  by_cases h0 : e.length = 0
  · have : e = [] := List.length_eq_zero_iff.1 h0
    subst this
    simp only [List.length_nil, Nat.zero_sub, runsTo, Pts_nil, false_iff]
    rintro ⟨⟨s, hs, _⟩, _⟩
    have := (hml s hs).1
    simp at this
  · rw [(runsTo_ok l m e hup _ (by omega)).2.2]
    constructor
    · rintro ⟨j, hj, ⟨h1, h2⟩, h3⟩
      have g1 : e[j]? = some (e.getD j 0) := by rw [List.getD_eq_getElem?_getD, List.getElem?_eq_getElem (by omega)]; rfl
      have g2 : e[j + 1]? = some (e.getD (j + 1) 0) := by rw [List.getD_eq_getElem?_getD, List.getElem?_eq_getElem (by omega)]; rfl
      rw [pts_between hup hml g1 g2 h1 h2, pts_between hup hmm g1 g2 h1 h2]
      exact (hg _).1 h3
    · rintro ⟨⟨s, hs, h1, h2⟩, h3⟩
      obtain ⟨j, a, b, g1, g2, h4, h5⟩ := hup.place (hml s hs).1 (hml s hs).2 h1 h2
      have hj1 := (List.getElem?_eq_some_iff.1 g2).1
      have ea : e.getD j 0 = a := by rw [List.getD_eq_getElem?_getD, g1]; rfl
      have eb : e.getD (j + 1) 0 = b := by rw [List.getD_eq_getElem?_getD, g2]; rfl
      refine ⟨j, by omega, by rw [ea, eb]; exact ⟨h4, h5⟩, ?_⟩
      rw [ea, hg, ← pts_between hup hml g1 g2 h4 h5, ← pts_between hup hmm g1 g2 h4 h5]
      exact ⟨⟨s, hs, h1, h2⟩, h3⟩
end Go.Proofs.Ytockmoiekbhneaa
