/- The walk of the law LikeJoins. -/
import Derived.Test.YtfbknfdbfnklmabDoorLLawS
import Derived.Test.YtfbknfdbfnklmabDoorLJoin
namespace Go.Proofs.YtfbknfdbfnklmabDoor
open Go.RowKit

theorem full_true {p a : ByteArray} (hp : p.size ≤ 1000) (ha : a.size ≤ 100000) (h : fullV p a = (true, 0)) : ∃ P A, decS (bytesU p) = some P ∧ decS (bytesU a) = some A ∧ M P A := by
  rcases full_of hp ha with ⟨P, A, h1, h2, h3⟩ | ⟨_, h3⟩
  · rw [h3] at h
    simp only [Prod.mk.injEq, and_true] at h
    exact ⟨P, A, h1, h2, h⟩
  · rw [h3] at h; simp at h

theorem full_make {p a : ByteArray} {P A : List Nat} (hp : p.size ≤ 1000) (ha : a.size ≤ 100000) (h1 : decS (bytesU p) = some P) (h2 : decS (bytesU a) = some A) (hM : M P A) : fullV p a = (true, 0) := by
  rcases full_of hp ha with ⟨P', A', g1, g2, g3⟩ | ⟨g, _⟩
  · rw [h1] at g1; rw [h2] at g2
    obtain rfl := Option.some.inj g1
    obtain rfl := Option.some.inj g2
    rw [g3]
    have : matB P A = true := hM
    rw [this]
  · rcases g with g | g
    · rw [h1] at g; cases g
    · rw [h2] at g; cases g

theorem size_app (s t : ByteArray) : (s ++ t).size = s.size + t.size := ByteArray.size_append

theorem dec_mark : decS (bytesU ⟨#[37]⟩) = some [37] := by decide

theorem joins_math {p q a b m : ByteArray} (h1 : p.size + q.size ≤ 300) (h2 : a.size + b.size ≤ 300) (h3 : m.size ≤ 50) (hx : fullV p a = (true, 0)) (hy : fullV q b = (true, 0)) :
    fullV (p ++ q) (a ++ b) = (true, 0) ∧ ((fullV (p ++ ⟨#[37]⟩ ++ q) (a ++ m ++ b)).2 ≠ 0 ∨ fullV (p ++ ⟨#[37]⟩ ++ q) (a ++ m ++ b) = (true, 0)) := by
  obtain ⟨P, A, e1, e2, e3⟩ := full_true (by omega) (by omega) hx
  obtain ⟨Q, B, f1, f2, f3⟩ := full_true (by omega) (by omega) hy
  have hpq : decS (bytesU (p ++ q)) = some (P ++ Q) := by rw [bytesU_app]; exact decS_append (bytesU_lt _) (bytesU_lt _) e1 f1
  have hab : decS (bytesU (a ++ b)) = some (A ++ B) := by rw [bytesU_app]; exact decS_append (bytesU_lt _) (bytesU_lt _) e2 f2
  have hp2 : decS (bytesU (p ++ ⟨#[37]⟩)) = some (P ++ [37]) := by rw [bytesU_app]; exact decS_append (bytesU_lt _) (bytesU_lt _) e1 dec_mark
  have hpq2 : decS (bytesU (p ++ ⟨#[37]⟩ ++ q)) = some ((P ++ [37]) ++ Q) := by rw [bytesU_app]; exact decS_append (bytesU_lt _) (bytesU_lt _) hp2 f1
  have s37 : (⟨#[37]⟩ : ByteArray).size = 1 := rfl
  have z1 : (p ++ q).size ≤ 1000 := by rw [size_app]; omega
  have z2 : (a ++ b).size ≤ 100000 := by rw [size_app]; omega
  have z3 : (p ++ ⟨#[37]⟩ ++ q).size ≤ 1000 := by rw [size_app, size_app]; omega
  have z4 : (a ++ m ++ b).size ≤ 100000 := by rw [size_app, size_app]; omega
  refine ⟨full_make z1 z2 hpq hab (M_join e3 f3), ?_⟩
  rcases full_of z3 z4 with ⟨P', X, g1, g2, g3⟩ | ⟨_, g3⟩
  · right
    have g2' := g2
    rw [bytesU_app, bytesU_app, List.append_assoc] at g2'
    obtain ⟨Y, hY⟩ := dec_between (bytesU_lt a) (bytesU_lt b) (bytesU_lt m) e2 f2 g2'
    refine full_make z3 z4 hpq2 g2 ?_
    rw [hY, List.append_assoc]
    exact M_between Y e3 f3
  · left; rw [g3]; simp

set_option maxHeartbeats 8000000 in
theorem joins6_any (p q a b m : ByteArray) (w : World) (hT : Tabs w) (hp : p.size ≤ 140737488351232) (hq : q.size ≤ 140737488351232) (ha : a.size ≤ 140737488351232) (hb : b.size ≤ 140737488351232) (hm : m.size ≤ 140737488351232) :
    Calls Tryd.prog 7 #[.string p, .string q, .string a, .string b, .string m] w fun e w' => e = .returned (.bool true) ∧ Below w.heap.size w w' := by
  have HA := Lib.hid (fun W (h : Below w.heap.size w W) => alive6_any W (hT.below h))
  by_cases hbig : 300 < p.size + q.size ∨ 300 < a.size + b.size ∨ 50 < m.size
  · have h1' : 300 < p.size + q.size ∨ (¬ 300 < p.size + q.size ∧ 300 < a.size + b.size) ∨ (¬ 300 < p.size + q.size ∧ ¬ 300 < a.size + b.size ∧ 50 < m.size) := by omega
    clear hbig hT
    go_enter Tryd.func7, Tryd.ntmps7
    rcases h1' with h | ⟨h, h2⟩ | ⟨h, h2, h3⟩
    · have q1 : decide ((300 : Int) < (p.size : Int) + (q.size : Int)) = true := by simp; omega
      go_wp2_with fail
      refine (HA.out _ (Below.refl _ _)).mono ?_
      rintro e w1 ⟨rfl, hb⟩
      go_wp2
      go_ret
      exact ⟨rfl, hb⟩
    · have q1 : decide ((300 : Int) < (p.size : Int) + (q.size : Int)) = false := by simp; omega
      have q2 : decide ((300 : Int) < (a.size : Int) + (b.size : Int)) = true := by simp; omega
      go_wp2_with fail
      refine (HA.out _ (Below.refl _ _)).mono ?_
      rintro e w1 ⟨rfl, hb⟩
      go_wp2
      go_ret
      exact ⟨rfl, hb⟩
    · have q1 : decide ((300 : Int) < (p.size : Int) + (q.size : Int)) = false := by simp; omega
      have q2 : decide ((300 : Int) < (a.size : Int) + (b.size : Int)) = false := by simp; omega
      have q3 : decide ((50 : Int) < (m.size : Int)) = true := by simp; omega
      go_wp2_with fail
      refine (HA.out _ (Below.refl _ _)).mono ?_
      rintro e w1 ⟨rfl, hb⟩
      go_wp2
      go_ret
      exact ⟨rfl, hb⟩
  · have g1 : p.size + q.size ≤ 300 := by omega
    have g2 : a.size + b.size ≤ 300 := by omega
    have g3 : m.size ≤ 50 := by omega
    have q1 : decide ((300 : Int) < (p.size : Int) + (q.size : Int)) = false := by simp; omega
    have q2 : decide ((300 : Int) < (a.size : Int) + (b.size : Int)) = false := by simp; omega
    have q3 : decide ((50 : Int) < (m.size : Int)) = false := by simp; omega
    have H1 := Lib.hid (fun W (h : Below w.heap.size w W) => Match_any p a W (hT.below h) (by omega) (by omega))
    have H2 := Lib.hid (fun W (h : Below w.heap.size w W) => Match_any q b W (hT.below h) (by omega) (by omega))
    have H3 := Lib.hid (fun W (h : Below w.heap.size w W) => Match_any (p ++ q) (a ++ b) W (hT.below h) (by rw [size_app]; omega) (by rw [size_app]; omega))
    have H4 := Lib.hid (fun W (h : Below w.heap.size w W) => Match_any (p ++ ⟨#[37]⟩ ++ q) (a ++ m ++ b) W (hT.below h) (by rw [size_app, size_app]; have : (⟨#[37]⟩ : ByteArray).size = 1 := rfl; omega) (by rw [size_app, size_app]; omega))
    have hmath : fullV p a = (true, 0) → fullV q b = (true, 0) → _ := fun h1 h2 => joins_math (m := m) g1 g2 g3 h1 h2
    obtain ⟨X, hX⟩ : ∃ X, fullV p a = X := ⟨_, rfl⟩
    obtain ⟨Y, hY⟩ : ∃ Y, fullV q b = Y := ⟨_, rfl⟩
    obtain ⟨Z, hZ⟩ : ∃ Z, fullV (p ++ q) (a ++ b) = Z := ⟨_, rfl⟩
    obtain ⟨V, hV⟩ : ∃ V, fullV (p ++ ⟨#[37]⟩ ++ q) (a ++ m ++ b) = V := ⟨_, rfl⟩
    rw [hX] at H1 hmath
    rw [hY] at H2 hmath
    rw [hZ] at H3 hmath
    rw [hV] at H4 hmath
    obtain ⟨x, e0⟩ := X
    obtain ⟨y, f0⟩ := Y
    have HM := Lib.hid hmath
    have s1 : ¬ 9223372036854775807 < p.size + q.size := by omega
    have s2 : ¬ 9223372036854775807 < a.size + b.size := by omega
    have s3 : ¬ 9223372036854775807 < p.size + 1 := by omega
    have s4 : ¬ 9223372036854775807 < p.size + 1 + q.size := by omega
    have s5 : ¬ 9223372036854775807 < a.size + m.size := by omega
    have s6 : ¬ 9223372036854775807 < a.size + m.size + b.size := by omega
    clear hbig hmath hX hY hZ hV hT
    dsimp only at H1 H2
    go_enter Tryd.func7, Tryd.ntmps7
    go_wp2_with fail
    refine (H1.out _ (Below.refl _ _)).mono ?_
    rintro e w1 ⟨rfl, b1⟩
    go_wp2_with fail
    refine (H2.out _ b1).mono ?_
    rintro e w2 ⟨rfl, b2⟩
    replace b2 := b1.trans (b2.mono b1.size)
    clear b1
    by_cases hall : (e0 = 0 ∧ x = true) ∧ (f0 = 0 ∧ y = true)
    · obtain ⟨⟨rfl, rfl⟩, rfl, rfl⟩ := hall
      obtain ⟨g4, g5⟩ := HM.out rfl rfl
      have G5 := Lib.hid g5
      subst g4
      clear HM g5
      dsimp only at H3
      go_wp2_with fail
      refine (H3.out _ b2).mono ?_
      rintro e w3 ⟨rfl, b3⟩
      replace b3 := b2.trans (b3.mono b2.size)
      clear b2
      go_wp2_with fail
      refine (H4.out _ b3).mono ?_
      rintro e w4 ⟨rfl, b4⟩
      replace b4 := b3.trans (b4.mono b3.size)
      clear b3 H4
      obtain ⟨v, v0⟩ := V
      dsimp only at G5 ⊢
      go_wp2_with fail
      refine (HA.out _ b4).mono ?_
      rintro e w5 ⟨rfl, b5⟩
      replace b5 := b4.trans (b5.mono b4.size)
      clear b4
      have hv := G5.out
      clear G5
      rcases hv with hv | hv
      · have qv : (v0 != 0) = true := by simpa using hv
        go_wp2
        go_ret
        exact ⟨rfl, b5⟩
      · simp only [Prod.mk.injEq] at hv
        obtain ⟨rfl, rfl⟩ := hv
        go_wp2
        go_ret
        exact ⟨rfl, b5⟩
    · have hways : ((e0 != 0) = true) ∨ ((e0 = 0) ∧ (f0 != 0) = true) ∨ (e0 = 0 ∧ f0 = 0 ∧ x = false) ∨ (e0 = 0 ∧ f0 = 0 ∧ x = true ∧ y = false) := by
        by_cases h1 : e0 = 0
        · by_cases h2 : f0 = 0
          · cases x with
            | false => exact .inr (.inr (.inl ⟨h1, h2, rfl⟩))
            | true =>
              cases y with
              | false => exact .inr (.inr (.inr ⟨h1, h2, rfl, rfl⟩))
              | true => exact absurd ⟨⟨h1, rfl⟩, h2, rfl⟩ hall
          · exact .inr (.inl ⟨h1, by simpa using h2⟩)
        · exact .inl (by simpa using h1)
      clear hall HM H3 H4
      rcases hways with h | ⟨rfl, h⟩ | ⟨rfl, rfl, rfl⟩ | ⟨rfl, rfl, rfl, rfl⟩
      all_goals
        go_wp2_with fail
        refine (HA.out _ b2).mono ?_
        rintro e w5 ⟨rfl, b5⟩
        go_wp2
        go_ret
        exact ⟨rfl, b2.trans (b5.mono b2.size)⟩
end Go.Proofs.YtfbknfdbfnklmabDoor
