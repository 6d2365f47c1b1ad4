/- The reference's Add and Sub at any two values; cell.Neg. -/
import Derived.Test.YtipeinkogoghnaaCRefP
namespace Go.Proofs.Ytipeinkogoghnaa
open Go.RowKit

theorem askV_not (op : Int → Int → Int × Int) (a b : Vl) (h : ¬ ((a.right = true ∧ b.right = true) ∧ a.k = 1 ∧ b.k = 1)) :
    arithV op a b = (nullV, (askV a b).2) ∧ (((askV a b).2 != 0) = true ∨ (((askV a b).2 != 0) = false ∧ (askV a b).1 = true)) := by
  unfold arithV askV
  by_cases h1 : a.right = false ∨ b.right = false
  · rw [if_pos h1, if_pos h1]; exact ⟨rfl, .inl rfl⟩
  · rw [if_neg h1, if_neg h1]
    have hr : a.right = true ∧ b.right = true := by
      cases ha : a.right <;> cases hb : b.right <;> simp_all
    by_cases h2 : 1 < a.k ∨ 1 < b.k
    · rw [if_pos h2, if_pos h2]; exact ⟨rfl, .inl rfl⟩
    · rw [if_neg h2, if_neg h2]
      have h3 : a.k = 0 ∨ b.k = 0 := by
        by_cases ha : a.k = 0
        · exact .inl ha
        · by_cases hb : b.k = 0
          · exact .inr hb
          · exact absurd ⟨hr, by omega, by omega⟩ h
      rw [if_pos h3]
      exact ⟨rfl, .inr ⟨rfl, by simp [h3]⟩⟩

theorem askV_ii (x y : Int) : askV ⟨1, x, ⟨#[]⟩⟩ ⟨1, y, ⟨#[]⟩⟩ = (false, 0) := by
  unfold askV; rw [right_i, right_i]; rfl

theorem two_nums (a b : Vl) (h : (a.right = true ∧ b.right = true) ∧ a.k = 1 ∧ b.k = 1) : a = ⟨1, a.n, ⟨#[]⟩⟩ ∧ b = ⟨1, b.n, ⟨#[]⟩⟩ := by
  obtain ⟨⟨h1, h2⟩, h3, h4⟩ := h
  obtain ⟨k, n, s⟩ := a
  obtain ⟨k', n', s'⟩ := b
  simp only at h3 h4
  subst h3 h4
  exact ⟨by rw [right_num h1], by rw [right_num h2]⟩

theorem asked_ii (x y : Int) (W : World) : Calls Try.prog 36 #[.agg #[.int .u8 1, .int .i64 x, .string ⟨#[]⟩], .agg #[.int .u8 1, .int .i64 y, .string ⟨#[]⟩]] W (RetB2 W (false, 0)) := by
  have h := asked_any ⟨1, x, ⟨#[]⟩⟩ ⟨1, y, ⟨#[]⟩⟩ W
  rw [askV_ii] at h
  exact h

theorem rAdd_any (a b : Vl) (w : World) (ha : a.ok) (hb : b.ok) :
    Calls Try.prog 11 #[.agg #[.int .u8 a.k, .int .i64 a.n, .string a.s], .agg #[.int .u8 b.k, .int .i64 b.n, .string b.s]] w (RetV w (arithV addI a b)) := by
  by_cases h : (a.right = true ∧ b.right = true) ∧ a.k = 1 ∧ b.k = 1
  · obtain ⟨h1, h2⟩ := two_nums a b h
    have a1 := ha.2.1
    have a2 := ha.2.2
    have b1 := hb.2.1
    have b2 := hb.2.2
    generalize a.n = x at *
    generalize b.n = y at *
    subst h1 h2
    rw [arithV_ii]
    cases hf : fits (x + y) with
    | true =>
      rw [show pickV (addI x y).1 (addI x y).2 = (numV (x + y), 0) from by unfold addI; rw [hf]; rfl]
      exact radd_fits x y w a1 a2 b1 b2 hf (fun W => asked_ii x y W)
    | false =>
      rw [show pickV (addI x y).1 (addI x y).2 = (nullV, 21) from by unfold addI; rw [hf]; rfl]
      exact radd_over x y w a1 a2 b1 b2 hf (fun W => asked_ii x y W)
  · obtain ⟨e1, e2⟩ := askV_not addI a b h
    rw [e1]
    exact radd_not _ _ _ _ _ _ w (askV a b).1 _ e2 (fun W => asked_any a b W)

theorem rSub_any (a b : Vl) (w : World) (ha : a.ok) (hb : b.ok) :
    Calls Try.prog 13 #[.agg #[.int .u8 a.k, .int .i64 a.n, .string a.s], .agg #[.int .u8 b.k, .int .i64 b.n, .string b.s]] w (RetV w (arithV subI a b)) := by
  by_cases h : (a.right = true ∧ b.right = true) ∧ a.k = 1 ∧ b.k = 1
  · obtain ⟨h1, h2⟩ := two_nums a b h
    have a1 := ha.2.1
    have a2 := ha.2.2
    have b1 := hb.2.1
    have b2 := hb.2.2
    generalize a.n = x at *
    generalize b.n = y at *
    subst h1 h2
    rw [arithV_ii]
    cases hf : fits (x - y) with
    | true =>
      rw [show pickV (subI x y).1 (subI x y).2 = (numV (x - y), 0) from by unfold subI; rw [hf]; rfl]
      exact rsub_fits x y w a1 a2 b1 b2 hf (fun W => asked_ii x y W)
    | false =>
      rw [show pickV (subI x y).1 (subI x y).2 = (nullV, 21) from by unfold subI; rw [hf]; rfl]
      exact rsub_over x y w a1 a2 b1 b2 hf (fun W => asked_ii x y W)
  · obtain ⟨e1, e2⟩ := askV_not subI a b h
    rw [e1]
    exact rsub_not _ _ _ _ _ _ w (askV a b).1 _ e2 (fun W => asked_any a b W)

end Go.Proofs.Ytipeinkogoghnaa
