/- Spans, plainly: what the program's functions make of them. -/
import Derived.Test.YtockmoiekbhneaaNArr
namespace Go.Proofs.Ytockmoiekbhneaa
open Go.RowKit

/-- The two cells of a span. -/
def encS (s : Int × Int) : List Value := [.int .i64 s.1, .int .i64 s.2]
theorem encS_len (s : Int × Int) : (encS s).length = 2 := rfl
def fairS (s : Int × Int) : Prop := (-9223372036854775808 ≤ s.1 ∧ s.1 ≤ 9223372036854775807) ∧ (-9223372036854775808 ≤ s.2 ∧ s.2 ≤ 9223372036854775807)
def hasB (s : Int × Int) (p : Int) : Bool := decide (s.1 ≤ p) && decide (p < s.2)
theorem hasB_iff (s : Int × Int) (p : Int) : hasB s p = true ↔ s.1 ≤ p ∧ p < s.2 := by unfold hasB; simp
def rightB (s : Int × Int) : Bool := decide (s.1 < s.2)
def bothS (a b : Int × Int) : (Int × Int) × Bool := if max a.1 b.1 < min a.2 b.2 then ((max a.1 b.1, min a.2 b.2), true) else ((0, 0), false)
def validL (l : List (Int × Int)) : List (Int × Int) := l.filter rightB
def cutS (s b : Int × Int) : List (Int × Int) := if max s.1 b.1 < min s.2 b.2 then validL [(s.1, max s.1 b.1), (min s.2 b.2, s.2)] else validL [s]
/-- The spans from w on, joined. -/
def mrg : Int × Int → List (Int × Int) → List (Int × Int)
  | w, [] => [w]
  | w, s :: r => if w.2 < s.1 then w :: mrg s r else mrg (w.1, max w.2 s.2) r
def joinS : List (Int × Int) → List (Int × Int)
  | [] => []
  | s :: r => mrg s r
def minusS (l : List (Int × Int)) (b : Int × Int) : List (Int × Int) := l.flatMap fun s => cutS s b
/-- Is span number k valid, and behind the one ahead of it? -/
def okAt (l : List (Int × Int)) (k : Nat) : Bool := match l[k]? with
  | none => true
  | some s => rightB s && (match k with
    | 0 => true
    | j + 1 => match l[j]? with
      | none => true
      | some t => decide (t.2 ≤ s.1))
def apartTo (l : List (Int × Int)) (k : Nat) : Bool := (List.range k).all (okAt l)
theorem apartTo_succ (l : List (Int × Int)) (k : Nat) : apartTo l (k + 1) = (apartTo l k && okAt l k) := by
  unfold apartTo; rw [List.range_succ, List.all_append]; simp
theorem apartTo_le {l : List (Int × Int)} {k m : Nat} (h : apartTo l m = true) (hk : k ≤ m) : apartTo l k = true := by
  unfold apartTo at h ⊢
  rw [List.all_eq_true] at h ⊢
  intro x hx
  exact h x (by rw [List.mem_range] at hx ⊢; omega)
theorem okAt_zero {l : List (Int × Int)} {s : Int × Int} (h : l[0]? = some s) : okAt l 0 = decide (s.1 < s.2) := by
  unfold okAt rightB; rw [h]; simp
theorem okAt_succ {l : List (Int × Int)} {k : Nat} {s t : Int × Int} (h : l[k + 1]? = some s) (h' : l[k]? = some t) : okAt l (k + 1) = (decide (s.1 < s.2) && decide (t.2 ≤ s.1)) := by
  unfold okAt rightB; rw [h]; simp only; rw [h']
/-- Valid spans, each before the next, none meeting it. -/
def Nrm : List (Int × Int) → Prop
  | [] => True
  | s :: r => s.1 < s.2 ∧ (∀ t ∈ r, s.2 < t.1) ∧ Nrm r
def Pts (l : List (Int × Int)) (p : Int) : Prop := ∃ s ∈ l, s.1 ≤ p ∧ p < s.2

theorem Nrm.get : ∀ {l : List (Int × Int)} {i j : Nat} {s t : Int × Int}, Nrm l → l[i]? = some s → l[j]? = some t → i < j → s.2 < t.1
  | [], _, _, _, _, _, h, _, _ => by simp at h
  | x :: r, 0, j + 1, s, t, hn, h, h', _ => by
    simp at h h'
    subst h
    exact hn.2.1 t (List.mem_of_getElem? h')
  | x :: r, i + 1, j + 1, s, t, hn, h, h', hij => by
    simp at h h'
    exact Nrm.get hn.2.2 h h' (by omega)

theorem Nrm.valid : ∀ {l : List (Int × Int)}, Nrm l → ∀ s ∈ l, s.1 < s.2
  | _ :: _, h, s, hs => by
    rcases List.mem_cons.1 hs with rfl | hs
    · exact h.1
    · exact Nrm.valid h.2.2 s hs

/-- The same points, the same list. -/
theorem Nrm.same : ∀ {l m : List (Int × Int)}, Nrm l → Nrm m → (∀ p, Pts l p ↔ Pts m p) → l = m
  | [], [], _, _, _ => rfl
  | [], t :: m, _, hm, h => by
    have : Pts [] t.1 := (h t.1).2 ⟨t, by simp, by omega, hm.1⟩
    obtain ⟨_, hx, _⟩ := this
    simp at hx
  | s :: l, [], hl, _, h => by
    have : Pts [] s.1 := (h s.1).1 ⟨s, by simp, by omega, hl.1⟩
    obtain ⟨_, hx, _⟩ := this
    simp at hx
  | s :: l, t :: m, hl, hm, h => by
    have key : ∀ (s t : Int × Int) (l m : List (Int × Int)), Nrm (s :: l) → Nrm (t :: m) → (∀ p, Pts (s :: l) p ↔ Pts (t :: m) p) → t.1 ≤ s.1 ∧ (t.1 = s.1 → s.2 ≤ t.2) := by
      intro s t l m hl hm h
      refine ⟨?_, ?_⟩
      · obtain ⟨x, hx, h1, h2⟩ := (h s.1).1 ⟨s, by simp, by omega, hl.1⟩
        rcases List.mem_cons.1 hx with rfl | hx
        · exact h1
        · have := hm.2.1 x hx; have := hm.1; omega
      · intro he
        by_cases hlt : t.2 < s.2
        · exfalso
          have hm1 := hm.1
          have hl1 := hl.1
          obtain ⟨x, hx, h1, h2⟩ := (h t.2).1 ⟨s, by simp, by omega, hlt⟩
          rcases List.mem_cons.1 hx with rfl | hx
          · omega
          · have := hm.2.1 x hx; omega
        · omega
    obtain ⟨a1, a2⟩ := key s t l m hl hm h
    obtain ⟨b1, b2⟩ := key t s m l hm hl fun p => (h p).symm
    have e1 : s.1 = t.1 := by omega
    have e2 : s.2 = t.2 := by have := a2 e1.symm; have := b2 e1; omega
    have est : s = t := Prod.ext e1 e2
    subst est
    have : l = m := Nrm.same hl.2.2 hm.2.2 fun p => by
      constructor
      · rintro ⟨x, hx, h1, h2⟩
        have h3 := hl.2.1 x hx
        obtain ⟨y, hy, h4, h5⟩ := (h p).1 ⟨x, by simp [hx], h1, h2⟩
        rcases List.mem_cons.1 hy with rfl | hy
        · omega
        · exact ⟨y, hy, h4, h5⟩
      · rintro ⟨x, hx, h1, h2⟩
        have h3 := hm.2.1 x hx
        obtain ⟨y, hy, h4, h5⟩ := (h p).2 ⟨x, by simp [hx], h1, h2⟩
        rcases List.mem_cons.1 hy with rfl | hy
        · omega
        · exact ⟨y, hy, h4, h5⟩
    rw [this]

/-- Ascending by their beginnings. -/
def Asc : List (Int × Int) → Prop
  | [] => True
  | s :: r => (∀ t ∈ r, s.1 ≤ t.1) ∧ Asc r

theorem mrg_ge : ∀ (r : List (Int × Int)) (w : Int × Int) (x : Int × Int), (∀ t ∈ r, w.1 ≤ t.1) → Asc r → x ∈ mrg w r → w.1 ≤ x.1
  | [], w, x, _, _, h => by simp [mrg] at h; subst h; omega
  | s :: r, w, x, h1, h2, h => by
    unfold mrg at h
    split at h
    · rcases List.mem_cons.1 h with rfl | h
      · omega
      · have := mrg_ge r s x h2.1 h2.2 h
        have := h1 s (by simp); omega
    · exact mrg_ge r (w.1, max w.2 s.2) x (fun t ht => h1 t (by simp [ht])) h2.2 h

theorem mrg_nrm : ∀ (r : List (Int × Int)) (w : Int × Int), w.1 < w.2 → (∀ t ∈ r, t.1 < t.2) → (∀ t ∈ r, w.1 ≤ t.1) → Asc r → Nrm (mrg w r)
  | [], w, hw, _, _, _ => ⟨hw, by simp, trivial⟩
  | s :: r, w, hw, hv, h1, h2 => by
    unfold mrg
    split
    · rename_i hlt
      refine ⟨hw, fun t ht => ?_, mrg_nrm r s (hv s (by simp)) (fun t ht => hv t (by simp [ht])) h2.1 h2.2⟩
      have := mrg_ge r s t h2.1 h2.2 ht
      omega
    · exact mrg_nrm r (w.1, max w.2 s.2) (by simp only; omega) (fun t ht => hv t (by simp [ht])) (fun t ht => h1 t (by simp [ht])) h2.2

theorem Pts_nil (p : Int) : Pts [] p ↔ False := by unfold Pts; simp
theorem Pts_cons (s : Int × Int) (r : List (Int × Int)) (p : Int) : Pts (s :: r) p ↔ (s.1 ≤ p ∧ p < s.2) ∨ Pts r p := by unfold Pts; simp
theorem Pts_app (l m : List (Int × Int)) (p : Int) : Pts (l ++ m) p ↔ Pts l p ∨ Pts m p := by
  induction l with
  | nil => rw [List.nil_append, Pts_nil]; simp
  | cons s r ih => rw [List.cons_append, Pts_cons, Pts_cons, ih]; exact or_assoc.symm

theorem mrg_pts : ∀ (r : List (Int × Int)) (w : Int × Int) (p : Int), w.1 < w.2 → (∀ t ∈ r, t.1 < t.2) → (∀ t ∈ r, w.1 ≤ t.1) → Asc r → (Pts (mrg w r) p ↔ Pts (w :: r) p)
  | [], w, p, _, _, _, _ => Iff.rfl
  | s :: r, w, p, hw, hv, h1, h2 => by
    have hs := hv s (by simp)
    have h3 := h1 s (by simp)
    have hv2 : ∀ t ∈ r, t.1 < t.2 := fun t ht => hv t (by simp [ht])
    unfold mrg
    split
    · rename_i hlt
      rw [Pts_cons, mrg_pts r s p hs hv2 h2.1 h2.2, Pts_cons w]
    · rename_i hlt
      rw [mrg_pts r (w.1, max w.2 s.2) p (by simp only; omega) hv2 (fun t ht => h1 t (by simp [ht])) h2.2, Pts_cons, Pts_cons, Pts_cons]
      simp only
      rw [← or_assoc]
      refine or_congr ?_ Iff.rfl
      omega

theorem Asc.of_get : ∀ {l : List (Int × Int)}, (∀ i j (hi : i < l.length) (hj : j < l.length), i < j → (l[i]).1 ≤ (l[j]).1) → Asc l
  | [], _ => trivial
  | s :: r, h => by
    refine ⟨fun t ht => ?_, Asc.of_get fun i j hi hj hij => h (i + 1) (j + 1) (by simp; omega) (by simp; omega) (by omega)⟩
    obtain ⟨j, hj, rfl⟩ := List.getElem_of_mem ht
    exact h 0 (j + 1) (by simp) (by simp; omega) (by omega)

theorem joinS_nrm {l : List (Int × Int)} (hv : ∀ t ∈ l, t.1 < t.2) (ha : Asc l) : Nrm (joinS l) := by
  match l, hv, ha with
  | [], _, _ => exact trivial
  | s :: r, hv, ha => exact mrg_nrm r s (hv s (by simp)) (fun t ht => hv t (by simp [ht])) ha.1 ha.2
theorem joinS_pts {l : List (Int × Int)} (hv : ∀ t ∈ l, t.1 < t.2) (ha : Asc l) (p : Int) : Pts (joinS l) p ↔ Pts l p := by
  match l, hv, ha with
  | [], _, _ => exact Iff.rfl
  | s :: r, hv, ha => exact mrg_pts r s p (hv s (by simp)) (fun t ht => hv t (by simp [ht])) ha.1 ha.2

theorem validL_mem (l : List (Int × Int)) (s : Int × Int) : s ∈ validL l ↔ s ∈ l ∧ s.1 < s.2 := by unfold validL rightB; simp
theorem validL_pts (l : List (Int × Int)) (p : Int) : Pts (validL l) p ↔ Pts l p := by
  constructor
  · rintro ⟨s, hs, h1, h2⟩; exact ⟨s, ((validL_mem l s).1 hs).1, h1, h2⟩
  · rintro ⟨s, hs, h1, h2⟩; exact ⟨s, (validL_mem l s).2 ⟨hs, by omega⟩, h1, h2⟩

/-- A union of a list: joined from some order of its valid spans by their beginnings. -/
def IsU (l u : List (Int × Int)) : Prop := ∃ d, d.Perm (validL l) ∧ Asc d ∧ u = joinS d
theorem IsU.nrm {l u : List (Int × Int)} (h : IsU l u) : Nrm u := by
  obtain ⟨d, hp, ha, rfl⟩ := h
  exact joinS_nrm (fun t ht => ((validL_mem l t).1 (hp.mem_iff.1 ht)).2) ha
theorem IsU.pts {l u : List (Int × Int)} (h : IsU l u) (p : Int) : Pts u p ↔ Pts l p := by
  obtain ⟨d, hp, ha, rfl⟩ := h
  rw [joinS_pts (fun t ht => ((validL_mem l t).1 (hp.mem_iff.1 ht)).2) ha, ← validL_pts l]
  unfold Pts
  constructor
  · rintro ⟨s, hs, h⟩; exact ⟨s, hp.mem_iff.1 hs, h⟩
  · rintro ⟨s, hs, h⟩; exact ⟨s, hp.mem_iff.2 hs, h⟩

/-- What a span keeps without another. -/
theorem cutS_nrm (s b : Int × Int) : Nrm (cutS s b) := by
  unfold cutS validL rightB
  split
  · rename_i h
    simp only [List.filter_cons, List.filter_nil]
    split <;> split <;> simp_all [Nrm] <;> omega
  · simp only [List.filter_cons, List.filter_nil]
    split <;> simp_all [Nrm]
theorem cutS_pts (s b : Int × Int) (p : Int) : Pts (cutS s b) p ↔ (s.1 ≤ p ∧ p < s.2) ∧ ¬ (b.1 ≤ p ∧ p < b.2) := by
  unfold cutS
  split
  · rw [validL_pts, Pts_cons, Pts_cons, Pts_nil, or_false]; simp only; constructor <;> intro h <;> omega
  · rw [validL_pts, Pts_cons, Pts_nil, or_false]; constructor <;> intro h <;> omega
theorem minusS_pts (l : List (Int × Int)) (b : Int × Int) (p : Int) : Pts (minusS l b) p ↔ Pts l p ∧ ¬ (b.1 ≤ p ∧ p < b.2) := by
  induction l with
  | nil => simp [minusS, Pts]
  | cons s r ih =>
    have e : minusS (s :: r) b = cutS s b ++ minusS r b := rfl
    rw [e, Pts_app, cutS_pts, ih, Pts_cons]
    constructor
    · rintro (⟨h1, h2⟩ | ⟨h1, h2⟩)
      · exact ⟨.inl h1, h2⟩
      · exact ⟨.inr h1, h2⟩
    · rintro ⟨h1 | h1, h2⟩
      · exact .inl ⟨h1, h2⟩
      · exact .inr ⟨h1, h2⟩
theorem Nrm.apart {l : List (Int × Int)} (h : Nrm l) : apartTo l l.length = true := by
  unfold apartTo
  rw [List.all_eq_true]
  intro k hk
  rw [List.mem_range] at hk
  have h1 := List.getElem?_eq_getElem hk
  have hv := h.valid _ (List.getElem_mem hk)
  cases k with
  | zero => rw [okAt_zero h1]; simpa using hv
  | succ k =>
    have h2 := List.getElem?_eq_getElem (show k < l.length by omega)
    have := h.get h2 h1 (by omega)
    rw [okAt_succ h1 h2]
    simp only [Bool.and_eq_true, decide_eq_true_eq]
    exact ⟨hv, by omega⟩
end Go.Proofs.Ytockmoiekbhneaa
