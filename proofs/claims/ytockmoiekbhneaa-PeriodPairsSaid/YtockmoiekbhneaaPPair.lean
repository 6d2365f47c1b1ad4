/- The walks of period's functions over two spans. -/
import Derived.Test.YtockmoiekbhneaaPMath
import Derived.Test.YtockmoiekbhneaaOrd
import Derived.Lib.Hide
namespace Go.Proofs.Ytockmoiekbhneaa
open Go.RowKit

set_option maxHeartbeats 400000 in
theorem PRight_any (f t : Int) (w : World) :
    Calls Try.prog 11 #[.agg #[.int .i64 f, .int .i64 t]] w fun e w' => e = .returned (.bool (decide (f < t))) ∧ Below w.heap.size w w' := by
  go_enter Try.func11, Try.ntmps11
  go_wp2
  go_ret
  exact ⟨rfl, (Below.refl _ _).alloc (Nat.le_refl _) _⟩

set_option maxHeartbeats 400000 in
theorem PHas_any (f t p : Int) (w : World) :
    Calls Try.prog 12 #[.agg #[.int .i64 f, .int .i64 t], .int .i64 p] w fun e w' => e = .returned (.bool (hasB (f, t) p)) ∧ Below w.heap.size w w' := by
  by_cases h : f ≤ p
  · have hh := Lib.hid (show hasB (f, t) p = decide (p < t) by simp [hasB, h])
    go_enter Try.func12, Try.ntmps12
    go_wp2
    go_ret
    rw [hh.out]
    exact ⟨rfl, (Below.refl _ _).alloc (Nat.le_refl _) _⟩
  · have hh := Lib.hid (show hasB (f, t) p = false by simp [hasB, h])
    go_enter Try.func12, Try.ntmps12
    go_wp2
    go_ret
    rw [hh.out]
    exact ⟨rfl, (Below.refl _ _).alloc (Nat.le_refl _) _⟩

theorem PRight_yes (f t : Int) (w : World) (h : f < t) :
    Calls Try.prog 11 #[.agg #[.int .i64 f, .int .i64 t]] w fun e w' => e = .returned (.bool true) ∧ Below w.heap.size w w' :=
  (PRight_any f t w).mono fun _ _ ⟨he, hb⟩ => ⟨by rw [he, decide_eq_true h], hb⟩
theorem PRight_no (f t : Int) (w : World) (h : ¬ f < t) :
    Calls Try.prog 11 #[.agg #[.int .i64 f, .int .i64 t]] w fun e w' => e = .returned (.bool false) ∧ Below w.heap.size w w' :=
  (PRight_any f t w).mono fun _ _ ⟨he, hb⟩ => ⟨by rw [he, decide_eq_false h], hb⟩

theorem ret_bool {a b : Bool} (h : a = b) : Ending.returned (.bool a) = .returned (.bool b) := by rw [h]

theorem bcell {W w1 : World} (hb : Below W.heap.size W w1) : (∀ b o, b < W.heap.size → w1.cell? ⟨b, o, none⟩ = W.cell? ⟨b, o, none⟩) ∧ (∀ b o, b < W.heap.size → w1.frozen? ⟨b, o, none⟩ = W.frozen? ⟨b, o, none⟩) :=
  ⟨fun b o h => hb.cell (p := ⟨b, o, none⟩) h, fun b o h => hb.frozen (p := ⟨b, o, none⟩) h⟩

def RetBoth (a b : Int × Int) (w : World) (e : Ending) (w' : World) : Prop := e = .returned (.tuple #[.agg #[.int .i64 (bothS a b).1.1, .int .i64 (bothS a b).1.2], .bool (bothS a b).2]) ∧ Below w.heap.size w w'
theorem RetBoth.mk {a b : Int × Int} {x y : Int} {r : Bool} {w : World} {e : Ending} {w' : World} (h : Hid (bothS a b = ((x, y), r))) (he : e = .returned (.tuple #[.agg #[.int .i64 x, .int .i64 y], .bool r])) (hb : Below w.heap.size w w') : RetBoth a b w e w' := by
  unfold RetBoth; rw [h.out]; exact ⟨he, hb⟩

set_option maxHeartbeats 1000000 in
theorem PBoth_any (a1 a2 b1 b2 : Int) (w : World) :
    Calls Try.prog 9 #[.agg #[.int .i64 a1, .int .i64 a2], .agg #[.int .i64 b1, .int .i64 b2]] w (RetBoth (a1, a2) (b1, b2) w) := by
  by_cases h : max a1 b1 < min a2 b2
  · have hh : ∀ x y, x = max a1 b1 → y = min a2 b2 → Hid (bothS (a1, a2) (b1, b2) = ((x, y), true)) := by
      rintro x y rfl rfl; show _ = _; simp only [bothS]; rw [if_pos h]
    have HH := Lib.hid hh
    clear hh
    go_enter Try.func9, Try.ntmps9
    go_wp2_with fail
    all_goals
      refine (PRight_yes _ _ _ (by omega)).mono ?_
      rintro e w1 ⟨rfl, hb⟩
      obtain ⟨hc, hf⟩ := bcell hb
      have hz : w.heap.size + 3 < w1.heap.size := by have := hb.size; simp at this; omega
      go_wp2
      refine bodyPost_ret (by simp [results, Try.results9, go_sem, hc, hf, hz]; exact ⟨rfl, rfl⟩) rfl (RetBoth.mk (HH.out _ _ (by omega) (by omega)) rfl ?_)
      exact (((((Below.refl _ _).alloc (Nat.le_refl _) _).alloc (by simp) _).alloc (by simp; omega) _).alloc (by simp; omega) _).trans (hb.mono (by simp; omega)) |>.setCell (by simp; omega) _ |>.setCell (by simp; omega) _
  · have HH : Hid (bothS (a1, a2) (b1, b2) = ((0, 0), false)) := by show _ = _; simp only [bothS]; rw [if_neg h]
    go_enter Try.func9, Try.ntmps9
    go_wp2_with fail
    all_goals
      refine (PRight_no _ _ _ (by omega)).mono ?_
      rintro e w1 ⟨rfl, hb⟩
      obtain ⟨hc, hf⟩ := bcell hb
      have hz : w.heap.size + 3 < w1.heap.size := by have := hb.size; simp at this; omega
      go_wp2
      refine bodyPost_ret (v := .tuple #[.agg #[.int .i64 0, .int .i64 0], .bool false]) (by simp [results, Try.results9, go_sem, hc, hf, hz]) rfl (RetBoth.mk HH rfl ?_)
      exact (((((Below.refl _ _).alloc (Nat.le_refl _) _).alloc (by simp) _).alloc (by simp; omega) _).alloc (by simp; omega) _).trans (hb.mono (by simp; omega)) |>.setCell (by simp; omega) _ |>.setCell (by simp; omega) _

set_option maxHeartbeats 1000000 in
theorem POverlaps_any (a1 a2 b1 b2 : Int) (w : World) :
    Calls Try.prog 14 #[.agg #[.int .i64 a1, .int .i64 a2], .agg #[.int .i64 b1, .int .i64 b2]] w fun e w' => e = .returned (.bool (bothS (a1, a2) (b1, b2)).2) ∧ Below w.heap.size w w' := by
  obtain ⟨⟨⟨x, y⟩, r⟩, hr⟩ : ∃ r, r = bothS (a1, a2) (b1, b2) := ⟨_, rfl⟩
  have HR := Lib.hid hr
  clear hr
  go_enter Try.func14, Try.ntmps14
  go_wp2_with fail
  refine (PBoth_any _ _ _ _ _).mono ?_
  rintro e w1 ⟨he, hb⟩
  rw [← HR.out] at he
  subst he
  obtain ⟨hc, hf⟩ := bcell hb
  go_wp2
  go_ret
  exact ⟨ret_bool (by rw [← HR.out]), (((((Below.refl _ _).alloc (Nat.le_refl _) _).alloc (by simp) _).trans (hb.mono (by simp; omega))).alloc (by have := hb.size; simp at this; omega) _)⟩

def containsB (a b : Int × Int) : Bool := rightB a && rightB b && decide (a.1 ≤ b.1) && decide (b.2 ≤ a.2)
def meetsB (a b : Int × Int) : Bool := rightB a && rightB b && decide (a.2 = b.1)

set_option maxHeartbeats 1000000 in
theorem PContains_any (a1 a2 b1 b2 : Int) (w : World) :
    Calls Try.prog 16 #[.agg #[.int .i64 a1, .int .i64 a2], .agg #[.int .i64 b1, .int .i64 b2]] w fun e w' => e = .returned (.bool (containsB (a1, a2) (b1, b2))) ∧ Below w.heap.size w w' := by
  by_cases h1 : a1 < a2
  · by_cases h2 : b1 < b2
    · have HH : Hid (containsB (a1, a2) (b1, b2) = (decide (a1 ≤ b1) && decide (b2 ≤ a2))) := by show _ = _; simp [containsB, rightB, h1, h2]
      go_enter Try.func16, Try.ntmps16
      go_wp2_with fail
      refine (PRight_yes _ _ _ h1).mono ?_
      rintro e w1 ⟨rfl, hb1⟩
      obtain ⟨hc1, hf1⟩ := bcell hb1
      go_wp2_with fail
      refine (PRight_yes _ _ _ h2).mono ?_
      rintro e w2 ⟨rfl, hb2⟩
      obtain ⟨hc2, hf2⟩ := bcell hb2
      have hz1 : w.heap.size + 1 < w1.heap.size := by have := hb1.size; simp at this; omega
      have hz2 : w.heap.size < w1.heap.size := by omega
      have H3 : (a1 ≤ b1 ∧ Hid (decide (a1 ≤ b1) = true)) ∨ (¬ a1 ≤ b1 ∧ Hid (decide (a1 ≤ b1) = false)) := by
        by_cases h3 : a1 ≤ b1
        · exact .inl ⟨h3, decide_eq_true h3⟩
        · exact .inr ⟨h3, decide_eq_false h3⟩
      rcases H3 with ⟨h3, H3⟩ | ⟨h3, H3⟩
      all_goals
        go_wp2
        go_ret
        exact ⟨ret_bool (by rw [HH.out, H3.out]; simp), (((Below.refl _ _).alloc (Nat.le_refl _) _).alloc (by simp) _).trans (hb1.mono (by simp; omega)) |>.trans (hb2.mono (by omega))⟩
    · have HH : Hid (containsB (a1, a2) (b1, b2) = false) := by show _ = _; simp [containsB, rightB, h1, h2]
      go_enter Try.func16, Try.ntmps16
      go_wp2_with fail
      refine (PRight_yes _ _ _ h1).mono ?_
      rintro e w1 ⟨rfl, hb1⟩
      obtain ⟨hc1, hf1⟩ := bcell hb1
      go_wp2_with fail
      refine (PRight_no _ _ _ (by omega)).mono ?_
      rintro e w2 ⟨rfl, hb2⟩
      have hz1 : w.heap.size + 1 < w1.heap.size := by have := hb1.size; simp at this; omega
      go_wp2
      go_ret
      exact ⟨ret_bool (by rw [HH.out]; try rfl), (((Below.refl _ _).alloc (Nat.le_refl _) _).alloc (by simp) _).trans (hb1.mono (by simp; omega)) |>.trans (hb2.mono (by omega))⟩
  · have HH : Hid (containsB (a1, a2) (b1, b2) = false) := by show _ = _; simp [containsB, rightB, h1]
    go_enter Try.func16, Try.ntmps16
    go_wp2_with fail
    refine (PRight_no _ _ _ (by omega)).mono ?_
    rintro e w1 ⟨rfl, hb1⟩
    go_wp2
    go_ret
    exact ⟨ret_bool (by rw [HH.out]; try rfl), (((Below.refl _ _).alloc (Nat.le_refl _) _).alloc (by simp) _).trans (hb1.mono (by simp; omega))⟩

set_option maxHeartbeats 1000000 in
theorem PMeets_any (a1 a2 b1 b2 : Int) (w : World) :
    Calls Try.prog 17 #[.agg #[.int .i64 a1, .int .i64 a2], .agg #[.int .i64 b1, .int .i64 b2]] w fun e w' => e = .returned (.bool (meetsB (a1, a2) (b1, b2))) ∧ Below w.heap.size w w' := by
  by_cases h1 : a1 < a2
  · by_cases h2 : b1 < b2
    · have HH : Hid (meetsB (a1, a2) (b1, b2) = (decide (a2 = b1))) := by show _ = _; simp [meetsB, rightB, h1, h2]
      go_enter Try.func17, Try.ntmps17
      go_wp2_with fail
      refine (PRight_yes _ _ _ h1).mono ?_
      rintro e w1 ⟨rfl, hb1⟩
      obtain ⟨hc1, hf1⟩ := bcell hb1
      go_wp2_with fail
      refine (PRight_yes _ _ _ h2).mono ?_
      rintro e w2 ⟨rfl, hb2⟩
      obtain ⟨hc2, hf2⟩ := bcell hb2
      have hz1 : w.heap.size + 1 < w1.heap.size := by have := hb1.size; simp at this; omega
      have hz2 : w.heap.size < w1.heap.size := by omega
      go_wp2
      go_ret
      exact ⟨ret_bool (by rw [HH.out]; try rfl), (((Below.refl _ _).alloc (Nat.le_refl _) _).alloc (by simp) _).trans (hb1.mono (by simp; omega)) |>.trans (hb2.mono (by omega))⟩
    · have HH : Hid (meetsB (a1, a2) (b1, b2) = false) := by show _ = _; simp [meetsB, rightB, h1, h2]
      go_enter Try.func17, Try.ntmps17
      go_wp2_with fail
      refine (PRight_yes _ _ _ h1).mono ?_
      rintro e w1 ⟨rfl, hb1⟩
      obtain ⟨hc1, hf1⟩ := bcell hb1
      go_wp2_with fail
      refine (PRight_no _ _ _ (by omega)).mono ?_
      rintro e w2 ⟨rfl, hb2⟩
      have hz1 : w.heap.size + 1 < w1.heap.size := by have := hb1.size; simp at this; omega
      go_wp2
      go_ret
      exact ⟨ret_bool (by rw [HH.out]; try rfl), (((Below.refl _ _).alloc (Nat.le_refl _) _).alloc (by simp) _).trans (hb1.mono (by simp; omega)) |>.trans (hb2.mono (by omega))⟩
  · have HH : Hid (meetsB (a1, a2) (b1, b2) = false) := by show _ = _; simp [meetsB, rightB, h1]
    go_enter Try.func17, Try.ntmps17
    go_wp2_with fail
    refine (PRight_no _ _ _ (by omega)).mono ?_
    rintro e w1 ⟨rfl, hb1⟩
    go_wp2
    go_ret
    exact ⟨ret_bool (by rw [HH.out]; try rfl), (((Below.refl _ _).alloc (Nat.le_refl _) _).alloc (by simp) _).trans (hb1.mono (by simp; omega))⟩

end Go.Proofs.Ytockmoiekbhneaa
