/- The walks of the reference's Order and Compare. -/
import Derived.Test.YtipeinkogoghnaaCTotal
namespace Go.Proofs.Ytipeinkogoghnaa
open Go.RowKit

theorem rorder_bad1 (k1 k2 : Nat) (n1 n2 : Int) (s1 s2 : ByteArray) (w : World) (h : Vl.right ⟨k1, n1, s1⟩ = false) :
    Calls Try.prog 55 #[.agg #[.int .u8 k1, .int .i64 n1, .string s1], .agg #[.int .u8 k2, .int .i64 n2, .string s2]] w (RetI w 0) := by
  go_enter Try.func55, Try.ntmps55
  go_wp2_with fail
  refine (rright_any k1 n1 s1 _).mono ?_
  rw [h]
  rintro e w1 ⟨rfl, hb⟩
  obtain ⟨S3, S4, hz⟩ := slots2 _ _ _ _ _ _ _ _ _ hb
  have hw : Below w.heap.size w w1 := Below.trans (((Below.refl _ _).alloc (Nat.le_refl _) _).alloc (by simp) _) (Below.mono hb (by simp <;> omega))
  clear hb
  go_wp2
  go_ret
  exact ⟨rfl, hw⟩

theorem rorder_bad2 (k1 k2 : Nat) (n1 n2 : Int) (s1 s2 : ByteArray) (w : World) (h : Vl.right ⟨k1, n1, s1⟩ = true) (h2 : Vl.right ⟨k2, n2, s2⟩ = false) :
    Calls Try.prog 55 #[.agg #[.int .u8 k1, .int .i64 n1, .string s1], .agg #[.int .u8 k2, .int .i64 n2, .string s2]] w (RetI w 0) := by
  go_enter Try.func55, Try.ntmps55
  go_wp2_with fail
  refine (rright_any k1 n1 s1 _).mono ?_
  rw [h]
  rintro e w1 ⟨rfl, hb⟩
  obtain ⟨S3, S4, hz⟩ := slots2 _ _ _ _ _ _ _ _ _ hb
  have hw : Below w.heap.size w w1 := Below.trans (((Below.refl _ _).alloc (Nat.le_refl _) _).alloc (by simp) _) (Below.mono hb (by simp <;> omega))
  clear hb
  obtain ⟨p0, p1, p2, p3, p4, p5⟩ := id S3
  obtain ⟨q0, q1, q2, q3, q4, q5⟩ := id S4
  go_wp2_with fail
  clear p0 p1 p2 p3 p4 p5 q0 q1 q2 q3 q4 q5
  refine (rright_any k2 n2 s2 _).mono ?_
  rw [h2]
  rintro e w2 ⟨rfl, hb⟩
  replace S3 := S3.later hb (by omega)
  replace S4 := S4.later hb (by omega)
  replace hw := hw.trans (Below.mono hb (by omega))
  replace hz := Nat.le_trans hz (Below.size hb)
  clear hb
  go_wp2
  go_ret
  exact ⟨rfl, hw⟩

theorem rorder_same (k1 : Nat) (n1 : Int) (s1 : ByteArray) (w : World) (h : Vl.right ⟨k1, n1, s1⟩ = true) :
    Calls Try.prog 55 #[.agg #[.int .u8 k1, .int .i64 n1, .string s1], .agg #[.int .u8 k1, .int .i64 n1, .string s1]] w (RetI w 0) := by
  go_enter Try.func55, Try.ntmps55
  go_wp2_with fail
  refine (rright_any k1 n1 s1 _).mono ?_
  rw [h]
  rintro e w1 ⟨rfl, hb⟩
  obtain ⟨S3, S4, hz⟩ := slots2 _ _ _ _ _ _ _ _ _ hb
  have hw : Below w.heap.size w w1 := Below.trans (((Below.refl _ _).alloc (Nat.le_refl _) _).alloc (by simp) _) (Below.mono hb (by simp <;> omega))
  clear hb
  obtain ⟨p0, p1, p2, p3, p4, p5⟩ := id S3
  obtain ⟨q0, q1, q2, q3, q4, q5⟩ := id S4
  go_wp2_with fail
  clear p0 p1 p2 p3 p4 p5 q0 q1 q2 q3 q4 q5
  refine (rright_any k1 n1 s1 _).mono ?_
  rw [h]
  rintro e w2 ⟨rfl, hb⟩
  replace S3 := S3.later hb (by omega)
  replace S4 := S4.later hb (by omega)
  replace hw := hw.trans (Below.mono hb (by omega))
  replace hz := Nat.le_trans hz (Below.size hb)
  clear hb
  obtain ⟨p0, p1, p2, p3, p4, p5⟩ := id S3
  obtain ⟨q0, q1, q2, q3, q4, q5⟩ := id S4
  go_wp2
  go_ret
  exact ⟨rfl, hw⟩

theorem rorder_main (k1 k2 : Nat) (n1 n2 : Int) (s1 s2 : ByteArray) (w : World) (v : Int) (h : Vl.right ⟨k1, n1, s1⟩ = true) (h2 : Vl.right ⟨k2, n2, s2⟩ = true)
    (hne : ((k1 : Int) == (k2 : Int) && (n1 == n2 && s1.toList == s2.toList)) = false)
    (hc : (((k1 : Int) == (k2 : Int)) = false ∧ (k1 : Int) < (k2 : Int) ∧ v = -1) ∨ (((k1 : Int) == (k2 : Int)) = false ∧ ¬ ((k1 : Int) < (k2 : Int)) ∧ v = 1) ∨
      (((k1 : Int) == (k2 : Int)) = true ∧ ((k1 : Int) == 1) = false ∧ Op.bytesLess s1.toList s2.toList = true ∧ v = -1) ∨ (((k1 : Int) == (k2 : Int)) = true ∧ ((k1 : Int) == 1) = false ∧ Op.bytesLess s1.toList s2.toList = false ∧ v = 1) ∨
      (((k1 : Int) == (k2 : Int)) = true ∧ ((k1 : Int) == 1) = true ∧ n1 < n2 ∧ v = -1) ∨ (((k1 : Int) == (k2 : Int)) = true ∧ ((k1 : Int) == 1) = true ∧ ¬ (n1 < n2) ∧ v = 1)) :
    Calls Try.prog 55 #[.agg #[.int .u8 k1, .int .i64 n1, .string s1], .agg #[.int .u8 k2, .int .i64 n2, .string s2]] w (RetI w v) := by
  have HN := Lib.hid hne
  have HC := Lib.hid hc
  clear hne hc
  go_enter Try.func55, Try.ntmps55
  go_wp2_with fail
  refine (rright_any k1 n1 s1 _).mono ?_
  rw [h]
  rintro e w1 ⟨rfl, hb⟩
  obtain ⟨S3, S4, hz⟩ := slots2 _ _ _ _ _ _ _ _ _ hb
  have hw : Below w.heap.size w w1 := Below.trans (((Below.refl _ _).alloc (Nat.le_refl _) _).alloc (by simp) _) (Below.mono hb (by simp <;> omega))
  clear hb
  obtain ⟨p0, p1, p2, p3, p4, p5⟩ := id S3
  obtain ⟨q0, q1, q2, q3, q4, q5⟩ := id S4
  go_wp2_with fail
  clear p0 p1 p2 p3 p4 p5 q0 q1 q2 q3 q4 q5
  refine (rright_any k2 n2 s2 _).mono ?_
  rw [h2]
  rintro e w2 ⟨rfl, hb⟩
  replace S3 := S3.later hb (by omega)
  replace S4 := S4.later hb (by omega)
  replace hw := hw.trans (Below.mono hb (by omega))
  replace hz := Nat.le_trans hz (Below.size hb)
  clear hb
  have hne := HN.out
  have hc := HC.out
  clear HN HC
  obtain ⟨p0, p1, p2, p3, p4, p5⟩ := id S3
  obtain ⟨q0, q1, q2, q3, q4, q5⟩ := id S4
  rcases hc with ⟨c1, c2, rfl⟩ | ⟨c1, c2, rfl⟩ | ⟨c1, c2, c3, rfl⟩ | ⟨c1, c2, c3, rfl⟩ | ⟨c1, c2, c3, rfl⟩ | ⟨c1, c2, c3, rfl⟩
  all_goals
    try rw [c1, Bool.true_and] at hne
    go_wp2
    go_ret
    exact ⟨rfl, hw⟩

theorem rOrder_any (a b : Vl) (w : World) :
    Calls Try.prog 55 #[.agg #[.int .u8 a.k, .int .i64 a.n, .string a.s], .agg #[.int .u8 b.k, .int .i64 b.n, .string b.s]] w (RetI w (orderV a b)) := by
  by_cases h1 : a.right = true
  · by_cases h2 : b.right = true
    · by_cases hab : a = b
      · rw [show orderV a b = 0 from by unfold orderV; rw [if_pos (.inl hab)]]
        subst hab
        exact rorder_same _ _ _ w h1
      · refine rorder_main _ _ _ _ _ _ w _ h1 h2 (ne_bool _ _ _ _ _ _ hab) ?_
        rw [orderV_lt a b h1 h2, if_neg hab]
        by_cases hk : a.k = b.k
        · have c1 : ((a.k : Int) == (b.k : Int)) = true := by simp [hk]
          by_cases hk1 : a.k = 1
          · have c2 : ((a.k : Int) == 1) = true := by rw [hk1]; rfl
            have hs : a.s = b.s := by
              obtain ⟨k, n, s⟩ := a
              obtain ⟨k', n', s'⟩ := b
              simp only at hk hk1
              subst hk1
              subst hk
              rw [right_num h1, right_num h2]
            by_cases hl : a.n < b.n
            · rw [if_pos (show ltV a b from .inr ⟨hk, .inl hl⟩)]
              exact .inr (.inr (.inr (.inr (.inl ⟨c1, c2, hl, rfl⟩))))
            · rw [if_neg (show ¬ ltV a b from by
                rintro (h | ⟨_, h | ⟨_, h⟩⟩)
                · omega
                · exact hl h
                · rw [hs] at h; exact List.lt_irrefl _ h)]
              exact .inr (.inr (.inr (.inr (.inr ⟨c1, c2, hl, rfl⟩))))
          · have c2 : ((a.k : Int) == 1) = false := by
              have : ¬ (a.k : Int) = 1 := by omega
              simp [this]
            have hn : a.n = b.n := by
              obtain ⟨k, n, s⟩ := a
              obtain ⟨k', n', s'⟩ := b
              simp only at hk hk1 ⊢
              subst hk
              unfold Vl.right at h1 h2
              simp only at h1 h2
              by_cases z0 : k = 0
              · subst z0; simp at h1 h2; omega
              · rw [if_neg z0, if_neg hk1] at h1 h2
                by_cases z2 : k = 2 ∨ k = 3
                · rw [if_pos z2] at h1 h2; simp at h1 h2; omega
                · rw [if_neg z2] at h1; simp at h1
            by_cases hl : a.s.toList < b.s.toList
            · rw [if_pos (show ltV a b from .inr ⟨hk, .inr ⟨hn, hl⟩⟩)]
              exact .inr (.inr (.inl ⟨c1, c2, by rw [less_lt]; simpa using hl, rfl⟩))
            · rw [if_neg (show ¬ ltV a b from by
                rintro (h | ⟨_, h | ⟨_, h⟩⟩)
                · omega
                · omega
                · exact hl h)]
              exact .inr (.inr (.inr (.inl ⟨c1, c2, by rw [less_lt]; simpa using hl, rfl⟩)))
        · have c1 : ((a.k : Int) == (b.k : Int)) = false := by
            have : ¬ (a.k : Int) = (b.k : Int) := by omega
            simp [this]
          by_cases hl : a.k < b.k
          · rw [if_pos (show ltV a b from .inl hl)]
            exact .inl ⟨c1, by omega, rfl⟩
          · rw [if_neg (show ¬ ltV a b from by
              rintro (h | ⟨h, _⟩)
              · exact hl h
              · exact hk h)]
            exact .inr (.inl ⟨c1, by omega, rfl⟩)
    · rw [show orderV a b = 0 from by unfold orderV; rw [if_pos (.inr (.inr (by simpa using h2)))]]
      exact rorder_bad2 _ _ _ _ _ _ w h1 (by simpa using h2)
  · rw [show orderV a b = 0 from by unfold orderV; rw [if_pos (.inr (.inl (by simpa using h1)))]]
    exact rorder_bad1 _ _ _ _ _ _ w (by simpa using h1)

end Go.Proofs.Ytipeinkogoghnaa
