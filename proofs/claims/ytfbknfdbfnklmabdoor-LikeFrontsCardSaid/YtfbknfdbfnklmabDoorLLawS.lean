/- The walks of the laws LikeSelf and LikeJoins. -/
import Derived.Test.YtfbknfdbfnklmabDoorLAlive
namespace Go.Proofs.YtfbknfdbfnklmabDoor
open Go.RowKit

theorem toList_injU {s t : ByteArray} (h : s.toList = t.toList) : s = t := by
  rw [ByteArray.toList_eq, ByteArray.toList_eq] at h
  exact ByteArray.ext (Array.toList_inj.1 h)

theorem bytesU_inj {s t : ByteArray} (h : bytesU s = bytesU t) : s = t := by
  unfold bytesU at h
  have h2 := List.map_inj_right (f := UInt8.toNat) (fun x y h => UInt8.toNat_inj.1 h) |>.1 h
  exact ByteArray.ext (Array.toList_inj.1 h2)

theorem bytesU_app (s t : ByteArray) : bytesU (s ++ t) = bytesU s ++ bytesU t := by
  simp [bytesU, ByteArray.data_append]

/-- like.Match of texts that are short enough. -/
theorem full_of {p a : ByteArray} (hp : p.size ≤ 1000) (ha : a.size ≤ 100000) :
    (∃ P A, decS (bytesU p) = some P ∧ decS (bytesU a) = some A ∧ fullV p a = (matB P A, 0)) ∨ ((decS (bytesU p) = none ∨ decS (bytesU a) = none) ∧ fullV p a = (false, 3)) := by
  unfold fullV compV
  rw [if_neg (by omega)]
  cases hP : decS (bytesU p) with
  | none => exact .inr ⟨.inl rfl, rfl⟩
  | some P =>
    cases hA : decS (bytesU a) with
    | none => right; refine ⟨.inr rfl, ?_⟩; unfold matV; simp only []; rw [if_neg (by omega), hA]
    | some A => left; refine ⟨P, A, rfl, rfl, ?_⟩; unfold matV; simp only []; rw [if_neg (by omega), hA]

theorem plain_points {l P : List Nat} (h256 : ∀ c ∈ l, c < 256) (h : decS l = some P) (hp : ∀ c ∈ l, c ≠ 37 ∧ c ≠ 95) : ∀ v ∈ P, v ≠ 37 ∧ v ≠ 95 := by
  obtain ⟨h1, h2⟩ := (decS_iff h256 P).1 h
  intro v hv
  have hin : ∀ c ∈ encP v, c ∈ l := fun c hc => by rw [← h2]; exact List.mem_flatMap.2 ⟨v, hv, hc⟩
  constructor
  · rintro rfl; exact (hp 37 (hin 37 (by simp [encP]))).1 rfl
  · rintro rfl; exact (hp 95 (hin 95 (by simp [encP]))).2 rfl

/-- A pattern without marks matches itself alone. -/
theorem like_self {a b : ByteArray} (hp : ∀ c ∈ bytesU a, c ≠ 37 ∧ c ≠ 95) (ha : a.size ≤ 300) (hb : b.size ≤ 300) (he : (fullV a b).2 = 0) : (fullV a b).1 = (a.toList == b.toList) := by
  rcases full_of (p := a) (a := b) (by omega) (by omega) with ⟨P, A, h1, h2, h3⟩ | ⟨_, h3⟩
  · rw [h3]
    simp only []
    have hs := M_self P A (plain_points (bytesU_lt a) h1 hp)
    rw [Bool.eq_iff_iff, beq_iff_eq]
    show M P A ↔ _
    rw [hs]
    constructor
    · rintro rfl
      have e1 := ((decS_iff (bytesU_lt a) P).1 h1).2
      have e2 := ((decS_iff (bytesU_lt b) P).1 h2).2
      rw [bytesU_inj (e1.symm.trans e2)]
    · intro h
      have := toList_injU h
      subst this
      rw [h1] at h2
      exact Option.some.inj h2
  · rw [h3] at he; simp at he

theorem like_any {b : ByteArray} (hb : b.size ≤ 300) : (fullV ⟨#[37]⟩ b).2 ≠ 0 ∨ fullV ⟨#[37]⟩ b = (true, 0) := by
  rcases full_of (p := ⟨#[37]⟩) (a := b) (by decide) (by omega) with ⟨P, A, h1, h2, h3⟩ | ⟨_, h3⟩
  · right
    have : decS (bytesU ⟨#[37]⟩) = some [37] := by decide
    rw [this] at h1
    obtain rfl := Option.some.inj h1
    rw [h3]
    have : matB [37] A = true := M_any A
    rw [this]
  · left; rw [h3]; simp

def plainB (s : ByteArray) : Bool := (bytesU s).all fun c => c != 37 && c != 95

theorem plain_iff (s : ByteArray) : plainB s = true ↔ ∀ c ∈ bytesU s, c ≠ 37 ∧ c ≠ 95 := by
  unfold plainB; rw [List.all_eq_true]; simp

theorem all_takeB (l : List Nat) (k : Nat) (hk : k < l.length) (f : Nat → Bool) : (l.take (k + 1)).all f = ((l.take k).all f && f l[k]) := by
  rw [List.take_add_one, List.getElem?_eq_getElem hk, List.all_append]; simp

set_option maxHeartbeats 1000000 in
theorem plain_any (s : ByteArray) (w : World) (hs : s.size ≤ 1000000) :
    Calls Tryd.prog 17 #[.string s] w fun e w' => e = .returned (.bool (plainB s)) ∧ Below w.heap.size w w' := by
  obtain ⟨n, hn⟩ : ∃ n, n = s.size := ⟨_, rfl⟩
  go_enter Tryd.func17, Tryd.ntmps17
  go_wp2
  go_loopw [3] (fun i wr => ∃ k : Nat, k ≤ s.size ∧ i = .int .i64 k ∧ Hid (((bytesU s).take k).all (fun c => c != 37 && c != 95) = true) ∧ Below w.heap.size w wr) (fun i _ => s.size - (intOf i).toNat)
  case atStart => exact ⟨0, by omega, rfl, by simp [Hid], Below.refl _ _⟩
  case round =>
    obtain ⟨k, hk, rfl, HI, hb⟩ := hrel
    by_cases hlt : k < s.size
    · have hkl : k < (bytesU s).length := by rw [bytesU_len]; exact hlt
      have hA := all_takeB (bytesU s) k hkl (fun c => c != 37 && c != 95)
      have hF : ((bytesU s)[k] = 37 ∨ (bytesU s)[k] = 95) → plainB s = false := by
        intro h
        unfold plainB
        rw [List.all_eq_false]
        exact ⟨_, List.getElem_mem hkl, by rcases h with h | h <;> simp [h]⟩
      have hx : (bytesU s)[k] = (s[k]'hlt).toNat := by simp [bytesU]; rfl
      rw [HI.out, hx, Bool.true_and] at hA
      rw [hx] at hF
      have HF := Lib.hid hF
      by_cases h37 : (s[k]'hlt).toNat = 37
      · have q : (((s[k]'hlt).toNat : Int) == 37) = true := by rw [h37]; rfl
        have HP : Hid (plainB s = false) := HF.out (.inl h37)
        clear hA hF hx h37 HF
        go_wp2
        go_ret
        exact ⟨by rw [HP.out]; rfl, hb⟩
      · have q : (((s[k]'hlt).toNat : Int) == 37) = false := by simp; omega
        by_cases h95 : (s[k]'hlt).toNat = 95
        · have q2 : (((s[k]'hlt).toNat : Int) == 95) = true := by rw [h95]; rfl
          have HP : Hid (plainB s = false) := HF.out (.inr h95)
          clear hA hF hx h95 h37 HF
          go_wp2
          go_ret
          exact ⟨by rw [HP.out]; rfl, hb⟩
        · have q2 : (((s[k]'hlt).toNat : Int) == 95) = false := by simp; omega
          have HP : Hid (((bytesU s).take (k + 1)).all (fun c => c != 37 && c != 95) = true) := by
            rw [hA]; simp [h37, h95, Hid]
          clear hA hF hx h95 h37 HF
          go_wp2
          go_roundw
          case rel => exact ⟨k + 1, by omega, by go_num, HP, hb⟩
          case measure => simp [intOf]; omega
    · have HP : Hid (plainB s = true) := by
        have := HI.out
        rw [List.take_of_length_le (by rw [bytesU_len]; omega)] at this
        exact this
      go_wp2
      go_ret
      exact ⟨by rw [HP.out]; rfl, hb⟩

set_option maxHeartbeats 4000000 in
theorem self6_any (a b : ByteArray) (w : World) (hT : Tabs w) (ha : a.size ≤ 9223372036854775807) (hb : b.size ≤ 9223372036854775807) :
    Calls Tryd.prog 5 #[.string a, .string b] w fun e w' => e = .returned (.bool true) ∧ Below w.heap.size w w' := by
  have HA := Lib.hid (fun W (h : Below w.heap.size w W) => alive6_any W (hT.below h))
  by_cases h1 : 300 < a.size ∨ 300 < b.size
  · have h1' : 300 < a.size ∨ (¬ 300 < a.size ∧ 300 < b.size) := by omega
    clear h1 hT
    go_enter Tryd.func5, Tryd.ntmps5
    rcases h1' with h | ⟨h, h2⟩
    all_goals
      go_wp2_with fail
      refine (HA.out _ (Below.refl _ _)).mono ?_
      rintro e w1 ⟨rfl, hb⟩
      go_wp2
      go_ret
      exact ⟨rfl, hb⟩
  · have g1 : a.size ≤ 300 := by omega
    have g2 : b.size ≤ 300 := by omega
    have qa : decide ((300 : Int) < (a.size : Int)) = false := by simp; omega
    have qb : decide ((300 : Int) < (b.size : Int)) = false := by simp; omega
    have H1 := Lib.hid (fun W (h : Below w.heap.size w W) => Match_any a b W (hT.below h) ha hb)
    have H2 := Lib.hid (fun W (h : Below w.heap.size w W) => Match_any ⟨#[37]⟩ b W (hT.below h) (by decide) hb)
    have HP := Lib.hid (fun W => plain_any a W (by omega))
    have hself : plainB a = true → (fullV a b).2 = 0 → (fullV a b).1 = (a.toList == b.toList) := fun h1 h2 => like_self ((plain_iff a).1 h1) g1 g2 h2
    have hany := like_any g2
    obtain ⟨X, hX⟩ : ∃ X, fullV a b = X := ⟨_, rfl⟩
    obtain ⟨Y, hY⟩ : ∃ Y, fullV ⟨#[37]⟩ b = Y := ⟨_, rfl⟩
    obtain ⟨pl, hpl⟩ : ∃ pl, plainB a = pl := ⟨_, rfl⟩
    rw [hX] at H1 hself
    rw [hY] at H2 hany
    rw [hpl] at HP hself
    obtain ⟨x, e0⟩ := X
    obtain ⟨y, f0⟩ := Y
    have HS := Lib.hid hself
    have HY := Lib.hid hany
    clear h1 hself hany hX hY hpl hT
    dsimp only at H1 H2
    go_enter Tryd.func5, Tryd.ntmps5
    go_wp2_with fail
    refine (H1.out _ (Below.refl _ _)).mono ?_
    rintro e w1 ⟨rfl, b1⟩
    go_wp2_with fail
    refine (H2.out _ b1).mono ?_
    rintro e w2 ⟨rfl, b2⟩
    replace b2 := b1.trans (b2.mono b1.size)
    clear b1
    go_wp2_with fail
    refine (HP.out _).mono ?_
    rintro e w3 ⟨rfl, b3⟩
    replace b3 := b2.trans (b3.mono b2.size)
    clear b2
    have hy := HY.out
    clear HY
    have hs : pl = false ∨ (pl = true ∧ e0 ≠ 0) ∨ (pl = true ∧ e0 = 0 ∧ x = (a.toList == b.toList)) := by
      cases pl with
      | false => exact .inl rfl
      | true =>
        by_cases h0 : e0 = 0
        · exact .inr (.inr ⟨rfl, h0, HS.out rfl h0⟩)
        · exact .inr (.inl ⟨rfl, h0⟩)
    clear HS
    have hf : (∃ q : (f0 != 0) = true, True) ∨ (f0 = 0 ∧ y = true) := by
      rcases hy with h | h
      · exact .inl ⟨by simpa using h, trivial⟩
      · simp only [Prod.mk.injEq] at h; exact .inr ⟨h.2, h.1⟩
    clear hy
    rcases hs with rfl | ⟨rfl, h0⟩ | ⟨rfl, rfl, rfl⟩
    · rcases hf with ⟨q, _⟩ | ⟨rfl, rfl⟩
      all_goals
        go_wp2_with fail
        refine (HA.out _ b3).mono ?_
        rintro e w5 ⟨rfl, b5⟩
        go_wp2
        go_ret
        exact ⟨rfl, b3.trans (b5.mono b3.size)⟩
    · have q0 : (e0 == 0) = false := by simp [h0]
      rcases hf with ⟨q, _⟩ | ⟨rfl, rfl⟩
      all_goals
        go_wp2_with fail
        refine (HA.out _ b3).mono ?_
        rintro e w5 ⟨rfl, b5⟩
        go_wp2
        go_ret
        exact ⟨rfl, b3.trans (b5.mono b3.size)⟩
    · rcases hf with ⟨q, _⟩ | ⟨rfl, rfl⟩
      all_goals
        go_wp2_with fail
        refine (HA.out _ b3).mono ?_
        rintro e w5 ⟨rfl, b5⟩
        go_wp2
        go_ret
        exact ⟨rfl, b3.trans (b5.mono b3.size)⟩
end Go.Proofs.YtfbknfdbfnklmabDoor
