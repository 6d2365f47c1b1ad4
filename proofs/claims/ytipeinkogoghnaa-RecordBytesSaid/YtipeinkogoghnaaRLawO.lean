/- The walks of the laws RecordOrders and RecordTotal. -/
import Derived.Test.YtipeinkogoghnaaRAlive
import Derived.Test.YtipeinkogoghnaaROrder
namespace Go.Proofs.Ytipeinkogoghnaa
open Go.RowKit

/-- What the walk is told of a row that came in. -/
def RowIn (w : World) (a : Option Addr) (len cap : Nat) (l : List Vl) : Prop := len = l.length ∧ len ≤ cap ∧ cap ≤ 9223372036854775807 ∧ Vs w.heap.size w a l ∧ ∀ x ∈ l, Came x

theorem RowIn.great {w : World} {a : Option Addr} {len cap : Nat} {l : List Vl} (h : RowIn w a len cap l) : Calls Try.prog 21 #[.slice a len cap] w (RetG w l) :=
  Great_any w.heap.size l a len cap w h.2.2.2.1 h.1 (fun x hx => (h.2.2.2.2 x hx).2.2) (by have := h.2.1; have := h.2.2.1; omega)

theorem RowIn.later {w w' : World} {a : Option Addr} {len cap : Nat} {l : List Vl} (h : RowIn w a len cap l) (hb : Below w.heap.size w w') : RowIn w' a len cap l :=
  ⟨h.1, h.2.1, h.2.2.1, (h.2.2.2.1.below hb).mono hb.size, h.2.2.2.2⟩

set_option maxHeartbeats 4000000 in
theorem orders3_any (l m : List Vl) (a : Option Addr) (len cap : Nat) (a' : Option Addr) (len' cap' : Nat) (w : World) (h1 : RowIn w a len cap l) (h2 : RowIn w a' len' cap' m) :
    Calls Try.prog 5 #[.slice a len cap, .slice a' len' cap'] w fun e w' => e = .returned (.bool true) ∧ Below w.heap.size w w' := by
  have H1 := Lib.hid h1
  have H2 := Lib.hid h2
  clear h1 h2
  go_enter Try.func5, Try.ntmps5
  go_wp2_with fail
  refine H1.out.great.mono ?_
  rintro e w1 ⟨g, rfl, hg, rfl⟩
  cases g with
  | true =>
    clear hg
    go_wp2_with fail
    refine (alive3_any _).mono ?_
    rintro e w1 ⟨rfl, hb⟩
    go_wp2
    go_ret
    exact ⟨rfl, hb⟩
  | false =>
    have S1 := Lib.hid (hg rfl)
    clear hg
    go_wp2_with fail
    refine H2.out.great.mono ?_
    rintro e w1 ⟨g, rfl, hg, rfl⟩
    cases g with
    | true =>
      clear hg
      go_wp2_with fail
      refine (alive3_any _).mono ?_
      rintro e w1 ⟨rfl, hb⟩
      go_wp2
      go_ret
      exact ⟨rfl, hb⟩
    | false =>
      have S2 := Lib.hid (hg rfl)
      clear hg
      go_wp2_with fail
      refine (alive3_any _).mono ?_
      rintro e w1 ⟨rfl, hb⟩
      go_wp2_with fail
      refine (ROrder_any l m a len cap a' len' cap' _ (H1.out.later hb).2.2.2.1 H1.out.1 (H2.out.later hb).2.2.2.1 H2.out.1 (by have := H1.out.1; have := S1.out.1; omega) (by have := H2.out.1; have := S2.out.1; omega)).mono ?_
      rintro e w2 ⟨rfl, hb2⟩
      have hbb := hb.trans (hb2.mono hb.size)
      clear hb2
      go_wp2_with fail
      refine (rROrder_any l m a len cap a' len' cap' _ (H1.out.later hbb).2.2.2.1 H1.out.1 (H2.out.later hbb).2.2.2.1 H2.out.1 (by have := H1.out.1; have := S1.out.1; omega) (by have := H2.out.1; have := S2.out.1; omega)).mono ?_
      rintro e w3 ⟨rfl, hb3⟩
      have hbc := hbb.trans (hb3.mono hbb.size)
      clear hb3 hbb hb
      go_wp2
      go_ret
      exact ⟨rfl, hbc⟩

/-! The order is total. -/
open Classical in
theorem lexO_neg : ∀ (l m : List Vl), (∀ x ∈ l, x.right = true) → (∀ x ∈ m, x.right = true) → lexO l m = -lexO m l
  | [], [], _, _ => rfl
  | [], _ :: _, _, _ => rfl
  | _ :: _, [], _, _ => rfl
  | x :: l, y :: m, h1, h2 => by
    have ho := (order_total x y y (h1 x (by simp)) (h2 y (by simp)) (h2 y (by simp))).1
    have ih := lexO_neg l m (fun z hz => h1 z (by simp [hz])) (fun z hz => h2 z (by simp [hz]))
    rw [lexO, lexO, ho]
    by_cases h0 : orderV y x = 0
    · rw [if_pos (by omega), if_pos h0]; exact ih
    · rw [if_neg (by omega), if_neg h0]

theorem lexO_bd : ∀ (l m : List Vl), -1 ≤ lexO l m ∧ lexO l m ≤ 1
  | [], [] => by simp [lexO]
  | [], _ :: _ => by simp [lexO]
  | _ :: _, [] => by simp [lexO]
  | x :: l, y :: m => by
    have h1 := orderV_bd x y
    have h2 := lexO_bd l m
    rw [lexO]
    by_cases h : orderV x y = 0
    · rw [if_pos h]; exact h2
    · rw [if_neg h]; exact h1

theorem lexO_zero : ∀ (l m : List Vl), (∀ x ∈ l, x.right = true) → (∀ x ∈ m, x.right = true) → (lexO l m = 0 ↔ l = m)
  | [], [], _, _ => by simp [lexO]
  | [], _ :: _, _, _ => by simp [lexO]
  | _ :: _, [], _, _ => by simp [lexO]
  | x :: l, y :: m, h1, h2 => by
    have ho := (order_total x y y (h1 x (by simp)) (h2 y (by simp)) (h2 y (by simp))).2.1
    have ih := lexO_zero l m (fun z hz => h1 z (by simp [hz])) (fun z hz => h2 z (by simp [hz]))
    rw [lexO]
    by_cases h0 : orderV x y = 0
    · rw [if_pos h0, ih]
      have := ho.1 h0
      subst this
      simp
    · rw [if_neg h0]
      constructor
      · intro h; exact absurd h h0
      · intro h
        simp only [List.cons.injEq] at h
        exact absurd (ho.2 h.1) h0

theorem lexO_trans : ∀ (l m n : List Vl), (∀ x ∈ l, x.right = true) → (∀ x ∈ m, x.right = true) → (∀ x ∈ n, x.right = true) → lexO l m ≤ 0 → lexO m n ≤ 0 → lexO l n ≤ 0 ∧ (lexO l m < 0 ∨ lexO m n < 0 → lexO l n < 0)
  | [], [], [], _, _, _, _, _ => by simp [lexO]
  | [], [], _ :: _, _, _, _, _, _ => by simp [lexO]
  | [], _ :: _, [], _, _, _, _, h => by simp [lexO] at h
  | [], _ :: _, _ :: _, _, _, _, _, _ => by simp [lexO]
  | _ :: _, [], _, _, _, _, h, _ => by simp [lexO] at h
  | _ :: _, _ :: _, [], _, _, _, _, h => by simp [lexO] at h
  | x :: l, y :: m, z :: n, h1, h2, h3, ha, hb => by
    have e1 := h1 x (by simp)
    have e2 := h2 y (by simp)
    have e3 := h3 z (by simp)
    obtain ⟨_, o1, o2, o3⟩ := order_total x y z e1 e2 e3
    obtain ⟨_, p1, _, _⟩ := order_total y z z e2 e3 e3
    obtain ⟨_, q1, _, _⟩ := order_total x z z e1 e3 e3
    simp only [lexO] at ha hb ⊢
    by_cases hxy : orderV x y = 0
    · simp only [if_pos hxy] at ha ⊢
      have := o1.1 hxy
      subst this
      by_cases hyz : orderV x z = 0
      · simp only [if_pos hyz] at hb ⊢
        exact lexO_trans l m n (fun z hz => h1 z (by simp [hz])) (fun z hz => h2 z (by simp [hz])) (fun z hz => h3 z (by simp [hz])) ha hb
      · simp only [if_neg hyz] at hb ⊢
        exact ⟨hb, fun _ => by omega⟩
    · simp only [if_neg hxy] at ha ⊢
      by_cases hyz : orderV y z = 0
      · have := p1.1 hyz
        subst this
        simp only [if_pos hyz, if_neg hxy] at hb ⊢
        exact ⟨ha, fun _ => by omega⟩
      · simp only [if_neg hyz] at hb ⊢
        have hlt : orderV x z < 0 := by omega
        rw [if_neg (by omega)]
        exact ⟨by omega, fun _ => hlt⟩

set_option maxHeartbeats 8000000 in
theorem total3_main (l m n : List Vl) (a : Option Addr) (len cap : Nat) (a' : Option Addr) (len' cap' : Nat) (a'' : Option Addr) (len'' cap'' : Nat) (w : World) (h1 : RowIn w a len cap l) (h2 : RowIn w a' len' cap' m) (h3 : RowIn w a'' len'' cap'' n) :
    Calls Try.prog 7 #[.slice a len cap, .slice a' len' cap', .slice a'' len'' cap''] w fun e w' => e = .returned (.bool true) ∧ Below w.heap.size w w' := by
  have H1 := Lib.hid h1
  have H2 := Lib.hid h2
  have H3 := Lib.hid h3
  clear h1 h2 h3
  have HA := Lib.hid (fun W => alive3_any W)
  go_enter Try.func7, Try.ntmps7
  go_wp2_with fail
  refine H1.out.great.mono ?_
  rintro e w1 ⟨g, rfl, hg, rfl⟩
  cases g with
  | true =>
    clear hg
    go_wp2_with fail
    refine (HA.out _).mono ?_
    rintro e w1 ⟨rfl, hb⟩
    go_wp2
    go_ret
    exact ⟨rfl, hb⟩
  | false =>
    have S1 := Lib.hid (hg rfl)
    clear hg
    go_wp2_with fail
    refine H2.out.great.mono ?_
    rintro e w1 ⟨g, rfl, hg, rfl⟩
    cases g with
    | true =>
      clear hg
      go_wp2_with fail
      refine (HA.out _).mono ?_
      rintro e w1 ⟨rfl, hb⟩
      go_wp2
      go_ret
      exact ⟨rfl, hb⟩
    | false =>
      have S2 := Lib.hid (hg rfl)
      clear hg
      go_wp2_with fail
      refine H3.out.great.mono ?_
      rintro e w1 ⟨g, rfl, hg, rfl⟩
      cases g with
      | true =>
        clear hg
        go_wp2_with fail
        refine (HA.out _).mono ?_
        rintro e w1 ⟨rfl, hb⟩
        go_wp2
        go_ret
        exact ⟨rfl, hb⟩
      | false =>
        have S3 := Lib.hid (hg rfl)
        clear hg
        have L1 : len ≤ 40 := by have := H1.out.1; have := S1.out.1; omega
        have L2 : len' ≤ 40 := by have := H2.out.1; have := S2.out.1; omega
        have L3 : len'' ≤ 40 := by have := H3.out.1; have := S3.out.1; omega
        have R1 := Lib.hid (fun W (hb : Below w.heap.size w W) => Right_any l a len cap W (H1.out.later hb).2.2.2.1 H1.out.1 (by omega) (fun x hx => (H1.out.2.2.2.2 x hx).fair))
        have R2 := Lib.hid (fun W (hb : Below w.heap.size w W) => Right_any m a' len' cap' W (H2.out.later hb).2.2.2.1 H2.out.1 (by omega) (fun x hx => (H2.out.2.2.2.2 x hx).fair))
        have R3 := Lib.hid (fun W (hb : Below w.heap.size w W) => Right_any n a'' len'' cap'' W (H3.out.later hb).2.2.2.1 H3.out.1 (by omega) (fun x hx => (H3.out.2.2.2.2 x hx).fair))
        have O12 := Lib.hid (fun W (hb : Below w.heap.size w W) => ROrder_any l m a len cap a' len' cap' W (H1.out.later hb).2.2.2.1 H1.out.1 (H2.out.later hb).2.2.2.1 H2.out.1 (by omega) (by omega))
        have O23 := Lib.hid (fun W (hb : Below w.heap.size w W) => ROrder_any m n a' len' cap' a'' len'' cap'' W (H2.out.later hb).2.2.2.1 H2.out.1 (H3.out.later hb).2.2.2.1 H3.out.1 (by omega) (by omega))
        have O13 := Lib.hid (fun W (hb : Below w.heap.size w W) => ROrder_any l n a len cap a'' len'' cap'' W (H1.out.later hb).2.2.2.1 H1.out.1 (H3.out.later hb).2.2.2.1 H3.out.1 (by omega) (by omega))
        have O21 := Lib.hid (fun W (hb : Below w.heap.size w W) => ROrder_any m l a' len' cap' a len cap W (H2.out.later hb).2.2.2.1 H2.out.1 (H1.out.later hb).2.2.2.1 H1.out.1 (by omega) (by omega))
        have SA := Lib.hid (fun W (hb : Below w.heap.size w W) => Same_any l m a len cap a' len' cap' W (H1.out.later hb).2.2.2.1 H1.out.1 (H2.out.later hb).2.2.2.1 H2.out.1 (by omega) (by omega))
        have hrr : ∀ L : List Vl, ((writeV L).2 == 0) = true → ∀ x ∈ L, x.right = true := by
          intro L hL
          cases hro : rowOk L with
          | true => exact ((rowOk_iff L).1 hro).2
          | false => rw [writeV_bad hro] at hL; simp at hL
        have HRR := Lib.hid hrr
        clear hrr
        obtain ⟨r1, hr1⟩ : ∃ r, ((writeV l).2 == 0) = r := ⟨_, rfl⟩
        obtain ⟨r2, hr2⟩ : ∃ r, ((writeV m).2 == 0) = r := ⟨_, rfl⟩
        obtain ⟨r3, hr3⟩ : ∃ r, ((writeV n).2 == 0) = r := ⟨_, rfl⟩
        rw [hr1] at R1
        rw [hr2] at R2
        rw [hr3] at R3
        have E1 := Lib.hid hr1
        have E2 := Lib.hid hr2
        have E3 := Lib.hid hr3
        clear hr1 hr2 hr3
        go_wp2_with fail
        refine (R1.out _ (Below.refl _ _)).mono ?_
        rintro e w1 ⟨rfl, hb⟩
        have hw : Below w.heap.size w w1 := hb
        clear hb
        cases r1 with
        | false =>
          go_wp2_with fail
          refine (HA.out _).mono ?_
          rintro e w2 ⟨rfl, hb⟩
          go_wp2
          go_ret
          exact ⟨rfl, hw.trans (hb.mono hw.size)⟩
        | true =>
          go_wp2_with fail
          refine (R2.out _ hw).mono ?_
          rintro e w2 ⟨rfl, hb⟩
          replace hw := hw.trans (hb.mono hw.size)
          clear hb
          cases r2 with
          | false =>
            go_wp2_with fail
            refine (HA.out _).mono ?_
            rintro e w2 ⟨rfl, hb⟩
            go_wp2
            go_ret
            exact ⟨rfl, hw.trans (hb.mono hw.size)⟩
          | true =>
            go_wp2_with fail
            refine (R3.out _ hw).mono ?_
            rintro e w3 ⟨rfl, hb⟩
            replace hw := hw.trans (hb.mono hw.size)
            clear hb R1 R2 R3
            cases r3 with
            | false =>
              go_wp2_with fail
              refine (HA.out _).mono ?_
              rintro e w2 ⟨rfl, hb⟩
              go_wp2
              go_ret
              exact ⟨rfl, hw.trans (hb.mono hw.size)⟩
            | true =>
              have t1 := HRR.out l E1.out
              have t2 := HRR.out m E2.out
              have t3 := HRR.out n E3.out
              have hneg := lexO_neg m l t2 t1
              have hzero := lexO_zero l m t1 t2
              have htr := lexO_trans l m n t1 t2 t3
              have hbd := lexO_bd l m
              have hbd3 := lexO_bd m l
              obtain ⟨X, hX⟩ : ∃ X, lexO l m = X := ⟨_, rfl⟩
              obtain ⟨Y, hY⟩ : ∃ Y, lexO m n = Y := ⟨_, rfl⟩
              obtain ⟨Z, hZ⟩ : ∃ Z, lexO l n = Z := ⟨_, rfl⟩
              obtain ⟨V, hV⟩ : ∃ V, lexO m l = V := ⟨_, rfl⟩
              rw [hX] at O12 hneg hzero htr hbd
              rw [hY] at O23 htr
              rw [hZ] at O13 htr
              rw [hV] at O21 hneg hbd3
              have hbdY := lexO_bd m n
              have hbdZ := lexO_bd l n
              rw [hY] at hbdY
              rw [hZ] at hbdZ
              obtain ⟨S, hS⟩ : ∃ S, decide (l = m) = S := ⟨_, rfl⟩
              unfold RetS at SA
              rw [hS] at SA
              have hS2 : S = decide (X = 0) := by rw [← hS]; exact (decide_eq_decide.2 hzero).symm
              have HTR : Hid ((X < 0 ∧ Y < 0 → Z < 0) ∧ (X ≤ 0 ∧ Y ≤ 0 → Z ≤ 0)) := ⟨fun h => (htr (by omega) (by omega)).2 (.inl h.1), fun h => (htr h.1 h.2).1⟩
              have HNEG := Lib.hid hneg
              have HS2 := Lib.hid hS2
              clear t1 t2 t3 hneg hzero htr hX hY hZ hV hS hS2 HRR E1 E2 E3
              go_wp2_with fail
              refine (O12.out _ hw).mono ?_
              rintro e w4 ⟨rfl, hb⟩
              replace hw := hw.trans (hb.mono hw.size)
              clear hb O12
              go_wp2_with fail
              refine (O23.out _ hw).mono ?_
              rintro e w5 ⟨rfl, hb⟩
              replace hw := hw.trans (hb.mono hw.size)
              clear hb O23
              go_wp2_with fail
              refine (O13.out _ hw).mono ?_
              rintro e w6 ⟨rfl, hb⟩
              replace hw := hw.trans (hb.mono hw.size)
              clear hb O13
              go_wp2_with fail
              refine (HA.out _).mono ?_
              rintro e w7 ⟨rfl, hb⟩
              replace hw := hw.trans (hb.mono hw.size)
              clear hb HA
              go_wp2_with fail
              refine (O21.out _ hw).mono ?_
              rintro e w8 ⟨rfl, hb⟩
              replace hw := hw.trans (hb.mono hw.size)
              clear hb O21
              have hV : V = -X := HNEG.out
              subst hV
              have hXX : (X == - -X) = true := by simp
              have hnn : - -X = X := by omega
              clear HNEG
              go_wp2_with fail
              refine (SA.out _ hw).mono ?_
              rintro e w9 ⟨rfl, hb⟩
              replace hw := hw.trans (hb.mono hw.size)
              clear hb SA hXX hnn
              have hS3 := HS2.out
              subst hS3
              have hT := HTR.out
              clear HS2 HTR
              have hc : (X < 0 ∧ Y < 0 ∧ Z < 0) ∨ (X < 0 ∧ Y = 0 ∧ Z ≤ 0) ∨ (X = 0 ∧ Y < 0 ∧ Z ≤ 0) ∨ (X = 0 ∧ Y = 0 ∧ Z ≤ 0) ∨ (X < 0 ∧ 0 < Y) ∨ (X = 0 ∧ 0 < Y) ∨ 0 < X := by omega
              clear hT
              rcases hc with ⟨q1, q2, q3⟩ | ⟨q1, rfl, q3⟩ | ⟨rfl, q2, q3⟩ | ⟨rfl, rfl, q3⟩ | ⟨q1, q2⟩ | ⟨rfl, q2⟩ | q1
              all_goals
                first
                | (have q5 : (X == 0) = false := by (simp; omega))
                | skip
                go_wp2
                go_ret
                first | exact ⟨rfl, hw⟩ | exact ⟨ret_b (by simp; omega), hw⟩
end Go.Proofs.Ytipeinkogoghnaa
