/- The law CellTruths. -/
import Derived.Test.YteepnbdkpelbiaaCTruths
namespace Go.Proofs.Yteepnbdkpelbiaa
open Go.RowKit

/-- What a join answers. -/
def joinV (a b : Vl) : Vl × Int :=
  if a.right = false ∨ b.right = false then (nullV, 3) else if a.k = 0 ∨ b.k = 0 then (nullV, 0) else if a.k = 1 ∨ a.k ≠ b.k then (nullV, 20) else (⟨a.k, 0, a.s ++ b.s⟩, 0)

theorem right_zero (x : Vl) (h : x.right = true) (hk : x.k = 0) : x = ⟨0, 0, ⟨#[]⟩⟩ := right_null0 x h hk

theorem kq0 {k : Nat} (h : ¬ k = 0) : ((k : Int) == 0) = false := by simp [h]
theorem kq1 {k : Nat} (h : ¬ k = 1) : ((k : Int) == 1) = false := by
  have : ¬ (k : Int) = 1 := by omega
  simp [this]
theorem kne {k l : Nat} (h : k ≠ l) : ((k : Int) != (l : Int)) = true := by
  have : ¬ (k : Int) = (l : Int) := by omega
  simp [this]
theorem keq {k l : Nat} (h : k = l) : ((k : Int) != (l : Int)) = false := by simp [h]

theorem Join_any (a b : Vl) (w : World) (hl : ¬ 9223372036854775807 < a.s.size + b.s.size) :
    Calls Try.prog 37 #[.agg #[.int .u8 a.k, .int .i64 a.n, .string a.s], .agg #[.int .u8 b.k, .int .i64 b.n, .string b.s]] w (RetV w (joinV a b)) := by
  unfold joinV
  by_cases h1 : a.right = true
  · by_cases h2 : b.right = true
    · rw [if_neg (by simp [h1, h2])]
      by_cases k1 : a.k = 0
      · rw [if_pos (.inl k1)]
        rw [right_zero a h1 k1]
        exact join_null1 _ _ _ w h2
      · by_cases k2 : b.k = 0
        · rw [if_pos (.inr k2)]
          rw [right_zero b h2 k2]
          exact join_null2 _ _ _ w h1 (kq0 k1)
        · rw [if_neg (by simp [k1, k2])]
          by_cases e1 : a.k = b.k
          · by_cases e2 : a.k = 1
            · rw [if_pos (.inl e2)]
              exact join_type _ _ _ _ _ _ w h1 h2 (kq0 k1) (kq0 k2) (.inr ⟨keq e1, by rw [e2]; rfl⟩)
            · rw [if_neg (by simp [e1] at e2 ⊢; exact e2)]
              exact join_good _ _ _ _ _ _ w h1 h2 (kq0 k1) (kq0 k2) (keq e1) (kq1 e2) hl
          · rw [if_pos (.inr e1)]
            exact join_type _ _ _ _ _ _ w h1 h2 (kq0 k1) (kq0 k2) (.inl (kne e1))
    · rw [if_pos (.inr (by simpa using h2))]
      exact join_bad2 _ _ _ _ _ _ w h1 (by simpa using h2)
  · rw [if_pos (.inl (by simpa using h1))]
    exact join_bad1 _ _ _ _ _ _ w (by simpa using h1)

theorem rJoin_any (a b : Vl) (w : World) (hl : ¬ 9223372036854775807 < a.s.size + b.s.size) :
    Calls Try.prog 38 #[.agg #[.int .u8 a.k, .int .i64 a.n, .string a.s], .agg #[.int .u8 b.k, .int .i64 b.n, .string b.s]] w (RetV w (joinV a b)) := by
  unfold joinV
  by_cases h1 : a.right = true
  · by_cases h2 : b.right = true
    · rw [if_neg (by simp [h1, h2])]
      by_cases k1 : a.k = 0
      · rw [if_pos (.inl k1)]
        exact rjoin_null _ _ _ _ _ _ w h1 h2 (.inl (by rw [k1]; rfl))
      · by_cases k2 : b.k = 0
        · rw [if_pos (.inr k2)]
          exact rjoin_null _ _ _ _ _ _ w h1 h2 (.inr ⟨kq0 k1, by rw [k2]; rfl⟩)
        · rw [if_neg (by simp [k1, k2])]
          by_cases e2 : a.k = 1
          · rw [if_pos (.inl e2)]
            exact rjoin_type _ _ _ _ _ _ w h1 h2 (kq0 k1) (kq0 k2) (.inl (by rw [e2]; rfl))
          · by_cases e1 : a.k = b.k
            · rw [if_neg (by simp [e1] at e2 ⊢; exact e2)]
              exact rjoin_good _ _ _ _ _ _ w h1 h2 (kq0 k1) (kq0 k2) (kq1 e2) (keq e1) hl
            · rw [if_pos (.inr e1)]
              exact rjoin_type _ _ _ _ _ _ w h1 h2 (kq0 k1) (kq0 k2) (.inr ⟨kq1 e2, kne e1⟩)
    · rw [if_pos (.inr (by simpa using h2))]
      exact rjoin_bad2 _ _ _ _ _ _ w h1 (by simpa using h2)
  · rw [if_pos (.inl (by simpa using h1))]
    exact rjoin_bad1 _ _ _ _ _ _ w (by simpa using h1)

/-- The two ways to tell a truth. -/
theorem both_truths (a : Vl) : (a.right = false ∧ truthT a = (false, false, 3) ∧ rtruthT a = (0, 3)) ∨ (a.right = true ∧ 1 < a.k ∧ truthT a = (false, false, 20) ∧ rtruthT a = (0, 20)) ∨
    (a.right = true ∧ ¬ 1 < a.k ∧ ((truthT a = (false, false, 0) ∧ rtruthT a = (2, 0)) ∨ (truthT a = (false, true, 0) ∧ rtruthT a = (0, 0)) ∨ (truthT a = (true, true, 0) ∧ rtruthT a = (1, 0)))) := by
  unfold truthT rtruthT
  by_cases h1 : a.right = false
  · rw [if_pos h1, if_pos h1]; exact .inl ⟨h1, rfl, rfl⟩
  · rw [if_neg h1, if_neg h1]
    have h1' : a.right = true := by simpa using h1
    by_cases h2 : 1 < a.k
    · rw [if_pos h2, if_pos h2]; exact .inr (.inl ⟨h1', h2, rfl, rfl⟩)
    · rw [if_neg h2, if_neg h2]
      refine .inr (.inr ⟨h1', h2, ?_⟩)
      by_cases h3 : a.k = 0
      · rw [if_pos h3, if_pos h3]; exact .inl ⟨rfl, rfl⟩
      · rw [if_neg h3, if_neg h3]
        by_cases h4 : a.n = 0
        · rw [if_pos h4, h4]; exact .inr (.inl ⟨rfl, rfl⟩)
        · rw [if_neg h4, show (a.n != 0) = true from bne_iff_ne.2 h4]; exact .inr (.inr ⟨rfl, rfl⟩)

theorem rand2_eq (a b : Vl) : rand2 tabA a b = decideV false a b ∧ rand2 tabO a b = decideV true a b := by
  unfold rand2 decideV
  rcases both_truths a with ⟨a1, a2, a3⟩ | ⟨a1, a2, a3, a4⟩ | ⟨a1, a2, a3⟩
  · rw [if_pos (.inl a1), if_pos (.inl a1), if_pos (.inl a1), if_pos (.inl a1)]; exact ⟨rfl, rfl⟩
  · rcases both_truths b with ⟨b1, b2, b3⟩ | ⟨b1, b2, b3, b4⟩ | ⟨b1, b2, b3⟩
    · rw [if_pos (.inr b1), if_pos (.inr b1), if_pos (.inr b1), if_pos (.inr b1)]; exact ⟨rfl, rfl⟩
    all_goals
      simp only [a1, b1, a3, a4, if_pos (show 1 < a.k ∨ 1 < b.k from .inl a2)]
      all_goals (constructor <;> first | trivial | rfl)
  · rcases both_truths b with ⟨b1, b2, b3⟩ | ⟨b1, b2, b3, b4⟩ | ⟨b1, b2, b3⟩
    · rw [if_pos (.inr b1), if_pos (.inr b1), if_pos (.inr b1), if_pos (.inr b1)]; exact ⟨rfl, rfl⟩
    · simp only [a1, b1, b3, b4, if_pos (show 1 < a.k ∨ 1 < b.k from .inr b2), if_pos (show (rtruthT a).2 ≠ 0 ∨ (20 : Int) ≠ 0 from .inr (by omega))]
      all_goals (constructor <;> first | trivial | rfl)
    · simp only [a1, b1, if_neg (show ¬ (1 < a.k ∨ 1 < b.k) from fun h => h.elim a2 b2)]
      rcases a3 with ⟨p, q⟩ | ⟨p, q⟩ | ⟨p, q⟩ <;> rcases b3 with ⟨r, t⟩ | ⟨r, t⟩ | ⟨r, t⟩ <;> rw [p, q, r, t] <;> (constructor <;> first | trivial | rfl)

theorem rnot_eq (a : Vl) : rnotV a = notV a := by
  unfold rnotV notV
  rcases both_truths a with ⟨_, a2, a3⟩ | ⟨_, _, a3, a4⟩ | ⟨_, _, ⟨p, q⟩ | ⟨p, q⟩ | ⟨p, q⟩⟩
  · rw [a2, a3]; rfl
  · rw [a3, a4]; rfl
  all_goals rw [p, q]; rfl

theorem rNot_any (a : Vl) (w : World) : Calls Try.prog 44 #[.agg #[.int .u8 a.k, .int .i64 a.n, .string a.s]] w (RetV w (rnotV a)) := by
  unfold rnotV
  by_cases h : (rtruthT a).2 = 0
  · rw [if_neg (by simp [h])]
    exact rnot_good _ _ _ w (rtruthT a).1 _ (rtruth_three a h) rfl (fun W => (Prod.ext rfl h : rtruthT a = ((rtruthT a).1, 0)) ▸ rTruth_any a W)
  · rw [if_pos h]
    exact rnot_bad _ _ _ w (rtruthT a).1 _ (bne_iff_ne.2 h) (fun W => rTruth_any a W)

theorem Truths_any (a b : Vl) (w : World) : Calls Try.prog 8 #[.agg #[.int .u8 a.k, .int .i64 a.n, .string a.s], .agg #[.int .u8 b.k, .int .i64 b.n, .string b.s]] w fun e w' => e = .returned (.bool true) ∧ Below w.heap.size w w' := by
  cases g1 : (decide (1000 < a.s.size) || decide (1000 < b.s.size)) with
  | true => exact truths_great _ _ _ _ _ _ w g1
  | false =>
    have hl : ¬ 9223372036854775807 < a.s.size + b.s.size := by
      simp at g1; omega
    obtain ⟨hA, hO⟩ := rand2_eq a b
    have hN := rnot_eq a
    refine truths_main a.k b.k (joinV a b).1.k (decideV false a b).1.k (decideV true a b).1.k (notV a).1.k a.n b.n (joinV a b).1.n (decideV false a b).1.n (decideV true a b).1.n (notV a).1.n
      (joinV a b).2 (decideV false a b).2 (decideV true a b).2 (notV a).2 a.s b.s (joinV a b).1.s (decideV false a b).1.s (decideV true a b).1.s (notV a).1.s (truthT a).1 (truthT a).2.1 (truthT a).2.2 (rtruthT a).1 w g1
      (fun W => Join_any a b W hl) (fun W => rJoin_any a b W hl) (fun W => And_any a b W) (fun W => ?_) (fun W => Or_any a b W) (fun W => ?_) (fun W => Not_any a W) (fun W => ?_) (fun W => Truth_any a W) (fun W => ?_) ?_
    · have := rand_any a b W; rw [hA] at this; exact this
    · have := ror_any a b W; rw [hO] at this; exact this
    · have := rNot_any a W; rw [hN] at this; exact this
    · have := rTruth_any a W
      rw [show rtruthT a = ((rtruthT a).1, (truthT a).2.2) from by
        rcases both_truths a with ⟨_, p, q⟩ | ⟨_, _, p, q⟩ | ⟨_, _, ⟨p, q⟩ | ⟨p, q⟩ | ⟨p, q⟩⟩ <;> rw [p, q]] at this
      exact this
    · show _ ∨ _
      rcases both_truths a with ⟨_, p, q⟩ | ⟨_, _, p, q⟩ | ⟨_, _, ⟨p, q⟩ | ⟨p, q⟩ | ⟨p, q⟩⟩ <;> rw [p, q] <;> simp

end Go.Proofs.Yteepnbdkpelbiaa
