/- The walks of like.onlyRuns and like.matches. -/
import Derived.Test.YtkhcnfeklmbplaaDoorUFunc
import Derived.Test.YtkhcnfeklmbplaaDoorUSplit
import Derived.Test.YtkhcnfeklmbplaaDoorLMath
namespace Go.Proofs.YtkhcnfeklmbplaaDoor
open Go.RowKit

theorem ptsZ_range {p : List Nat} (h : ∀ v ∈ p, okP v = true) : ∀ c ∈ ptsZ p, -2147483648 ≤ c ∧ c ≤ 2147483647 := by
  intro c hc
  obtain ⟨v, hv, rfl⟩ := List.mem_map.1 hc
  have := okP_le (h v hv)
  omega

theorem ptsZ_drop (p : List Nat) (k : Nat) : (ptsZ p).drop k = ptsZ (p.drop k) := by simp [ptsZ]
theorem ptsZ_take (p : List Nat) (k : Nat) : (ptsZ p).take k = ptsZ (p.take k) := by simp [ptsZ]

theorem onlyRuns_any (p : List Nat) (hp : ∀ v ∈ p, okP v = true) (a : Option Addr) (len cap : Nat) (w : World) (hV : Rs .i32 w.heap.size w a (ptsZ p)) (hlen : len = p.length) (hmax : len ≤ 140737488355328) :
    Calls Tryd.prog 15 #[.slice a len cap] w fun e w' => e = .returned (.bool (p.all fun c => c == 37)) ∧ Below w.heap.size w w' := by
  have HC := Lib.hid (hasRun_any (ptsZ p) (ptsZ_range hp) a len cap w hV (by rw [ptsZ_len]; exact hlen) hmax)
  have hE : (!((ptsZ p).any notRun)) = p.all fun c => c == 37 := by
    rw [Bool.eq_iff_iff]
    simp only [Bool.not_eq_true', List.any_eq_false, List.all_eq_true, ptsZ, List.mem_map, notRun, beq_iff_eq, bne_iff_ne, ne_eq, Decidable.not_not]
    constructor
    · intro h c hc; have := h _ ⟨c, hc, rfl⟩; omega
    · rintro h x ⟨c, hc, rfl⟩; have := h c hc; omega
  obtain ⟨r, hrr⟩ : ∃ r, (ptsZ p).any notRun = r := ⟨_, rfl⟩
  rw [hrr] at HC hE
  rw [← hE]
  clear hV hlen hrr hE
  go_enter Tryd.func15, Tryd.ntmps15
  go_wp2_with fail
  refine HC.out.mono ?_
  rintro e w1 ⟨rfl, hb⟩
  clear HC
  go_wp2
  go_ret
  exact ⟨by simp, hb⟩

/-- The walk's state as two numbers: behind and taken. -/
def stZ : Option (Nat × Nat) → Int × Int
  | none => (-1, 0)
  | some (b, t) => ((b : Int), (t : Int))

def takenN : Option (Nat × Nat) → Nat
  | none => 0
  | some (_, t) => t

theorem taken_le {P S : List Nat} {at_ next : Nat} {st : Option (Nat × Nat)} (h : Ok P S at_ next st) : takenN st ≤ next := by
  cases st with
  | none => exact Nat.zero_le _
  | some x => obtain ⟨b, t⟩ := x; have := h.2.2.2.1; unfold takenN; dsimp only; omega

theorem ok_le {P S : List Nat} {at_ next : Nat} {st : Option (Nat × Nat)} (h : Ok P S at_ next st) : at_ ≤ P.length ∧ next ≤ S.length := by
  cases st with
  | none => exact h
  | some x => obtain ⟨b, t⟩ := x; exact ⟨h.1, h.2.1⟩

theorem stZ_taken (st : Option (Nat × Nat)) : (stZ st).2.toNat = takenN st := by
  cases st with
  | none => rfl
  | some x => obtain ⟨b, t⟩ := x; simp [stZ, takenN]

theorem mul_lt_of {K a b x y : Nat} (h : a < b) (hx : x ≤ K) : a * (K + 1) + x < b * (K + 1) + y := by
  have : (a + 1) * (K + 1) ≤ b * (K + 1) := Nat.mul_le_mul_right _ h
  rw [Nat.add_mul] at this
  omega

theorem mul_le_of {K a b x y : Nat} (h : a ≤ b) (hx : x < y) : a * (K + 1) + x < b * (K + 1) + y := by
  have : a * (K + 1) ≤ b * (K + 1) := Nat.mul_le_mul_right _ h
  omega

set_option maxHeartbeats 4000000 in
theorem matches_any (P S : List Nat) (hP : ∀ v ∈ P, okP v = true) (hS : ∀ v ∈ S, okP v = true) (a : Option Addr) (len cap : Nat) (a' : Option Addr) (len' cap' : Nat) (w : World) (hV : Rs .i32 w.heap.size w a (ptsZ P)) (hlen : len = P.length) (hcap : len ≤ cap)
    (hV' : Rs .i32 w.heap.size w a' (ptsZ S)) (hlen' : len' = S.length) (hmax : len ≤ 1000000000) (hmax' : len' ≤ 1000000000) :
    Calls Tryd.prog 12 #[.slice a len cap, .slice a' len' cap'] w fun e w' => e = .returned (.bool (matB P S)) ∧ Below w.heap.size w w' := by
  have HV := Lib.hid hV
  have HV' := Lib.hid hV'
  have HL := Lib.hid hlen
  have HL' := Lib.hid hlen'
  have HPP := Lib.hid hP
  have HSS := Lib.hid hS
  obtain ⟨r, hr⟩ : ∃ r, matB P S = r := ⟨_, rfl⟩
  have HM : Hid ((r = true) ↔ M P S) := by rw [← hr]; exact Iff.rfl
  rw [hr]
  clear hV hV' hlen hlen' hP hS hr
  go_enter Tryd.func12, Tryd.ntmps12
  go_wp2
  go_step3
  go_wp2
  go_step3
  go_wp2
  go_loopw [5, 6, 7, 8] (fun s5 s6 s7 s8 wr => ∃ (i k : Nat) (st : Option (Nat × Nat)), s5 = .int .i64 i ∧ s6 = .int .i64 k ∧ s7 = .int .i64 (stZ st).1 ∧ s8 = .int .i64 (stZ st).2 ∧ Hid (Ok P S i k st) ∧ Hid (r = true ↔ Left P S i k st) ∧ Below w.heap.size w wr)
    (fun s5 s6 s7 s8 _ => (len' - (intOf s8).toNat) * (len + 1) + (len - (intOf s5).toNat))
  case atStart => 
    refine ⟨0, 0, none, rfl, rfl, rfl, rfl, ⟨Nat.zero_le _, Nat.zero_le _⟩, ?_, Below.refl _ _⟩
    show r = true ↔ M (P.drop 0) (S.drop 0)
    simpa using HM.out
  case round =>
    obtain ⟨i, k, st, rfl, rfl, rfl, rfl, HOk, HLeft, hb⟩ := hrel
    have hsz := hb.size
    obtain ⟨hi, hk⟩ := ok_le HOk.out
    rw [← HL.out] at hi
    rw [← HL'.out] at hk
    by_cases hlt : k < len'
    · have hkl : k < S.length := by have := HL'.out; omega
      by_cases hat : i < len
      · have hil : i < P.length := by have := HL.out; omega
        obtain ⟨b, o, rfl, hbN, hc⟩ := (HV.out.below hb).at_ (j := i) (by rw [ptsZ_len]; exact hil)
        obtain ⟨b', o', rfl, hbN', hc'⟩ := (HV'.out.below hb).at_ (j := k) (by rw [ptsZ_len]; exact hkl)
        have e1 : (ptsZ P)[i]'(by rw [ptsZ_len]; exact hil) = ((P[i] : Nat) : Int) := by simp [ptsZ]
        have e2 : (ptsZ S)[k]'(by rw [ptsZ_len]; exact hkl) = ((S[k] : Nat) : Int) := by simp [ptsZ]
        rw [e1] at hc
        rw [e2] at hc'
        have HRun := Lib.hid (fun h => left_run HOk.out hil h)
        have HOne := Lib.hid (fun h1 h2 => left_one HOk.out hil hkl h1 h2)
        obtain ⟨x, hx⟩ : ∃ x, x = P[i] := ⟨_, rfl⟩
        obtain ⟨y, hy⟩ : ∃ y, y = S[k] := ⟨_, rfl⟩
        have HStuck : Hid (x ≠ 37 → x ≠ 95 → x ≠ y → (i = P.length ∨ ∃ h : i < P.length, P[i] ≠ 37 ∧ P[i] ≠ 95 ∧ P[i] ≠ S[k])) := by
          rw [hx, hy]; exact fun h1 h2 h3 => .inr ⟨hil, h1, h2, h3⟩
        rw [← hx] at hc HRun HOne
        rw [← hy] at hc' HOne
        clear e1 e2 hx hy
        by_cases h37 : x = 37
        · subst h37
          obtain ⟨g1, g2⟩ := HRun.out rfl
          have HL2 : Hid (r = true ↔ Left P S (i + 1) k (some (i + 1, k))) := HLeft.out.trans g1
          have HO2 := Lib.hid g2
          have ht := taken_le HOk.out
          have hst := stZ_taken st
          clear g1 g2 HRun HOne HStuck
          obtain ⟨u7, hu7⟩ : ∃ u, u = (stZ st).1 := ⟨_, rfl⟩
          obtain ⟨u8, hu8⟩ : ∃ u, u = (stZ st).2 := ⟨_, rfl⟩
          rw [← hu8] at hst
          rw [← hu7, ← hu8]
          have HT := Lib.hid hst
          clear HLeft HOk hu7 hu8 hst
          go_wp2
          go_roundw
          case rel => exact ⟨i + 1, k, some (i + 1, k), by go_num, rfl, by simp [stZ], rfl, HO2, HL2, hb⟩
          case measure =>
            have := HT.out
            show (len' - ((k : Int)).toNat) * (len + 1) + (len - ((i : Int) + 1).toNat) < (len' - u8.toNat) * (len + 1) + (len - ((i : Int)).toNat)
            rw [this]
            exact mul_le_of (by omega) (by omega)
        · have q37 : ((x : Int) == 37) = false := by simp; omega
          by_cases hm : x = 95 ∨ x = y
          · obtain ⟨g1, g2⟩ := HOne.out h37 hm
            have HL2 : Hid (r = true ↔ Left P S (i + 1) (k + 1) st) := HLeft.out.trans g1
            have HO2 := Lib.hid g2
            clear g1 g2 HRun HOne HStuck HLeft HOk
            obtain ⟨u7, hu7⟩ : ∃ u, u = (stZ st).1 := ⟨_, rfl⟩
            obtain ⟨u8, hu8⟩ : ∃ u, u = (stZ st).2 := ⟨_, rfl⟩
            have H7 := Lib.hid hu7
            have H8 := Lib.hid hu8
            rw [← hu7, ← hu8]
            clear hu7 hu8
            by_cases h95 : x = 95
            · subst h95
              clear hm
              go_wp2
              go_roundw
              case rel => exact ⟨i + 1, k + 1, st, by go_num, by go_num, by rw [H7.out], by rw [H8.out], HO2, HL2, hb⟩
              case measure =>
                show (len' - u8.toNat) * (len + 1) + (len - ((i : Int) + 1).toNat) < (len' - u8.toNat) * (len + 1) + (len - ((i : Int)).toNat)
                exact mul_le_of (Nat.le_refl _) (by omega)
            · obtain rfl := hm.resolve_left h95
              have q95 : ((x : Int) == 95) = false := by simp; omega
              clear hm
              go_wp2
              go_roundw
              case rel => exact ⟨i + 1, k + 1, st, by go_num, by go_num, by rw [H7.out], by rw [H8.out], HO2, HL2, hb⟩
              case measure =>
                show (len' - u8.toNat) * (len + 1) + (len - ((i : Int) + 1).toNat) < (len' - u8.toNat) * (len + 1) + (len - ((i : Int)).toNat)
                exact mul_le_of (Nat.le_refl _) (by omega)
          · have q95 : ((x : Int) == 95) = false := by simp; omega
            have qxy : ((x : Int) == (y : Int)) = false := by simp; omega
            have HS2 := Lib.hid (HStuck.out h37 (fun h => hm (.inl h)) (fun h => hm (.inr h)))
            clear HRun HOne HStuck hm h37
            cases st with
            | none =>
              have HF : Hid (r = false) := by
                cases r with
                | false => rfl
                | true => exact absurd (HLeft.out.1 rfl) (M_stuck hkl HS2.out)
              clear HLeft HOk HS2 HM
              simp only [stZ]
              go_wp2
              rw [Exit.noGoto_ret]
              go_ret
              exact ⟨by rw [HF.out]; rfl, hb⟩
            | some z =>
              obtain ⟨bb, t⟩ := z
              obtain ⟨g1, g2⟩ := left_back HOk.out hkl HS2.out
              have HL2 : Hid (r = true ↔ Left P S bb (t + 1) (some (bb, t + 1))) := HLeft.out.trans g1
              have HO2 := Lib.hid g2
              have hbb : bb ≤ len := by have := g2.1; have := HL.out; omega
              have htt : t + 1 ≤ len' := by have := g2.2.1; have := HL'.out; omega
              clear g1 g2 HLeft HOk HS2 HM
              simp only [stZ]
              go_wp2
              go_roundw
              case rel => exact ⟨bb, t + 1, some (bb, t + 1), by go_num, by go_num, rfl, by simp [stZ], HO2, HL2, hb⟩
              case measure =>
                show (len' - ((t : Int) + 1).toNat) * (len + 1) + (len - ((bb : Int)).toNat) < (len' - ((t : Int)).toNat) * (len + 1) + (len - ((i : Int)).toNat)
                exact mul_lt_of (by omega) (by omega)
      · have HS2 : Hid (i = P.length ∨ ∃ h : i < P.length, P[i] ≠ 37 ∧ P[i] ≠ 95 ∧ P[i] ≠ S[k]) := .inl (by have := HL.out; omega)
        cases st with
        | none =>
          have HF : Hid (r = false) := by
            cases r with
            | false => rfl
            | true => exact absurd (HLeft.out.1 rfl) (M_stuck hkl HS2.out)
          clear HLeft HOk HS2 HM
          simp only [stZ]
          go_wp2
          rw [Exit.noGoto_ret]
          go_ret
          exact ⟨by rw [HF.out]; rfl, hb⟩
        | some z =>
          obtain ⟨bb, t⟩ := z
          obtain ⟨g1, g2⟩ := left_back HOk.out hkl HS2.out
          have HL2 : Hid (r = true ↔ Left P S bb (t + 1) (some (bb, t + 1))) := HLeft.out.trans g1
          have HO2 := Lib.hid g2
          have hbb : bb ≤ len := by have := g2.1; have := HL.out; omega
          have htt : t + 1 ≤ len' := by have := g2.2.1; have := HL'.out; omega
          clear g1 g2 HLeft HOk HS2 HM
          simp only [stZ]
          go_wp2
          go_roundw
          case rel => exact ⟨bb, t + 1, some (bb, t + 1), by go_num, by go_num, rfl, by simp [stZ], HO2, HL2, hb⟩
          case measure =>
            show (len' - ((t : Int) + 1).toNat) * (len + 1) + (len - ((bb : Int)).toNat) < (len' - ((t : Int)).toNat) * (len + 1) + (len - ((i : Int)).toNat)
            exact mul_lt_of (by omega) (by omega)
    · have hkl : k = S.length := by have := HL'.out; omega
      have hE : ((P.drop i).all fun c => c == 37) = r := by
        have := HLeft.out
        have hok := HOk.out
        rw [hkl] at this hok
        rw [left_done hok] at this
        rw [Bool.eq_iff_iff, this, List.all_eq_true]
        simp
      have HE := Lib.hid hE
      clear hE
      obtain ⟨a5, hV5, hsl⟩ := (HV.out.below hb).from 35 21 Tryd.underlying35 Tryd.sizeOf21 len cap i (by rw [ptsZ_len]; exact HL.out) hi hcap
      rw [ptsZ_drop] at hV5
      have HC := Lib.hid (onlyRuns_any (P.drop i) (fun v hv => HPP.out v (List.mem_of_mem_drop hv)) a5 (len - i) (cap - i) wr (hV5.mono hsz) (by rw [List.length_drop]; have := HL.out; omega) (by omega))
      rw [HE.out] at HC
      obtain ⟨u7, hu7⟩ : ∃ u, u = (stZ st).1 := ⟨_, rfl⟩
      obtain ⟨u8, hu8⟩ : ∃ u, u = (stZ st).2 := ⟨_, rfl⟩
      rw [← hu7, ← hu8]
      clear HLeft HOk HM HE hV5 hkl hu7 hu8
      go_wp2_with fail
      refine HC.out.mono ?_
      rintro e w1 ⟨rfl, hb1⟩
      go_wp2
      rw [Exit.noGoto_ret]
      go_ret
      exact ⟨rfl, hb.trans (hb1.mono hsz)⟩
end Go.Proofs.YtkhcnfeklmbplaaDoor
