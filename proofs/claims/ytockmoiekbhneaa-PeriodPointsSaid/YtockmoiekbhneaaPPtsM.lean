/- Points of spans, counted. -/
import Derived.Test.YtockmoiekbhneaaPList
import Derived.Test.YtockmoiekbhneaaPRunsM
namespace Go.Proofs.Ytockmoiekbhneaa
open Go.RowKit

theorem cnt_cons (s : Int × Int) (r : List (Int × Int)) (p : Int) : cnt (s :: r) p = (if hasB s p then 1 else 0) + cnt r p := by
  unfold cnt
  rw [List.filter_cons]
  cases hasB s p <;> simp; omega
theorem cnt_app (l m : List (Int × Int)) (p : Int) : cnt (l ++ m) p = cnt l p + cnt m p := by unfold cnt; rw [List.filter_append, List.length_append]
theorem cnt_zero {l : List (Int × Int)} {p : Int} (h : ¬ Pts l p) : cnt l p = 0 := by
  unfold cnt
  rw [List.length_eq_zero_iff, List.filter_eq_nil_iff]
  intro s hs hp
  exact h ⟨s, hs, (hasB_iff s p).1 hp⟩
theorem cnt_pos {l : List (Int × Int)} {p : Int} (h : Pts l p) : 0 < cnt l p := by
  obtain ⟨s, hs, h1⟩ := h
  unfold cnt
  rw [List.length_pos_iff]
  intro h0
  rw [List.filter_eq_nil_iff] at h0
  exact h0 s hs ((hasB_iff s p).2 h1)
theorem cnt_nrm : ∀ {u : List (Int × Int)} {p : Int}, Nrm u → Pts u p → cnt u p = 1
  | [], p, _, h => by rw [Pts_nil] at h; exact h.elim
  | s :: r, p, hn, h => by
    rw [cnt_cons]
    by_cases hs : hasB s p = true
    · have hr : ¬ Pts r p := by
        rintro ⟨t, ht, h1, h2⟩
        have := hn.2.1 t ht
        have := (hasB_iff s p).1 hs
        omega
      rw [cnt_zero hr, if_pos hs]
    · have hr : Pts r p := by
        rw [Pts_cons] at h
        rcases h with h | h
        · exact absurd ((hasB_iff s p).2 h) hs
        · exact h
      rw [if_neg hs, cnt_nrm hn.2.2 hr]
theorem cnt_union {l u : List (Int × Int)} (h : IsU l u) (p : Int) : cnt u p = if anyB l p then 1 else 0 := by
  by_cases hp : anyB l p = true
  · rw [if_pos hp]; exact cnt_nrm h.nrm ((h.pts p).2 ((anyB_iff l p).1 hp))
  · rw [if_neg hp]; exact cnt_zero fun h' => hp ((anyB_iff l p).2 ((h.pts p).1 h'))
theorem cnt_cut (s b : Int × Int) (p : Int) : cnt (cutS s b) p = if hasB s p && !hasB b p then 1 else 0 := by
  have h := cutS_pts s b p
  by_cases hp : (hasB s p && !hasB b p) = true
  · rw [if_pos hp]
    refine cnt_nrm (cutS_nrm s b) (h.2 ?_)
    simp only [Bool.and_eq_true, Bool.not_eq_true', hasB_iff] at hp
    refine ⟨hp.1, fun h' => ?_⟩
    rw [(hasB_iff b p).2 h'] at hp
    cases hp.2
  · rw [if_neg hp]
    refine cnt_zero fun h' => hp ?_
    obtain ⟨h1, h2⟩ := h.1 h'
    simp only [Bool.and_eq_true, Bool.not_eq_true']
    refine ⟨(hasB_iff s p).2 h1, ?_⟩
    cases hb : hasB b p
    · rfl
    · exact absurd ((hasB_iff b p).1 hb) h2
theorem cnt_minus (b : Int × Int) (p : Int) : ∀ l : List (Int × Int), cnt (minusS l b) p = if hasB b p then 0 else cnt l p
  | [] => by simp [minusS, cnt]
  | s :: r => by
    have e : minusS (s :: r) b = cutS s b ++ minusS r b := rfl
    rw [e, cnt_app, cnt_cut, cnt_minus b p r, cnt_cons]
    cases hasB s p <;> cases hasB b p <;> simp
theorem both_has (s b : Int × Int) (p : Int) : ((bothS s b).2 && hasB (bothS s b).1 p) = (hasB s p && hasB b p) := by
  rw [Bool.eq_iff_iff]
  simp only [Bool.and_eq_true, hasB_iff, bothS]
  split
  · simp only [true_and]; omega
  · simp only [Bool.false_eq_true, false_and, false_iff]; omega
theorem cnt_any (l : List (Int × Int)) (p : Int) : (anyB l p = true ∧ 0 < cnt l p) ∨ (anyB l p = false ∧ cnt l p = 0) := by
  cases h : anyB l p
  · right; exact ⟨rfl, cnt_zero fun h' => by rw [(anyB_iff l p).2 h'] at h; cases h⟩
  · left; exact ⟨rfl, cnt_pos ((anyB_iff l p).1 h)⟩
end Go.Proofs.Ytockmoiekbhneaa
