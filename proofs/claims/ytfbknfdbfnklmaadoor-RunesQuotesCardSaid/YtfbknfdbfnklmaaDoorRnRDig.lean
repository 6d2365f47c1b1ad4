/- The walk of hindsightref05.Digits. -/
import Derived.Test.YtfbknfdbfnklmaaDoorRnBackM
namespace Go.Proofs.YtfbknfdbfnklmaaDoor
set_option linter.unusedSimpArgs false
open Go.RowKit

/-- The loop's number: u, with the sign that came in. -/
def sgn (neg : Bool) (u : Nat) : Int := if neg then -(u : Int) else (u : Int)

theorem sgn_mod (b : Bool) (u : Nat) : (sgn b u).tmod 10 = sgn b (u % 10) := by
  cases b
  · exact (Int.ofNat_tmod u 10).symm
  · show (-(u : Int)).tmod 10 = -((u % 10 : Nat) : Int)
    rw [Int.neg_tmod]
    congr 1
theorem sgn_div (b : Bool) (u : Nat) : (sgn b u).tdiv 10 = sgn b (u / 10) := by
  cases b
  · exact (Int.ofNat_tdiv u 10).symm
  · show (-(u : Int)).tdiv 10 = -((u / 10 : Nat) : Int)
    rw [Int.neg_tdiv]
    congr 1
theorem sgn_zero (b : Bool) (u : Nat) : (sgn b u == 0) = decide (u = 0) := by
  rw [Bool.eq_iff_iff, beq_iff_eq, decide_eq_true_iff]
  unfold sgn
  split <;> omega

theorem dig_cat (c : Nat) (hc : c < 10) (out : List UInt8) : (baL [UInt8.ofNat (48 + c)]) ++ baL out = baL (UInt8.ofNat (48 + c) :: out) := by
  apply ByteArray.ext
  simp [baL]

theorem Bs.newD (w : World) (l : List Nat) (h : ∀ c ∈ l, c < 256) (T : TypeId) (cs : Array Value) (hc : cs = (l.map fun (c : Nat) => Value.int .u8 (c : Int)).toArray) : Bs (w.heap.size + 1) (w.alloc (.cells cs T)) (some ⟨w.heap.size, 0, none⟩) l := by
  refine ⟨h, .inr ⟨w.heap.size, 0, rfl, by omega, fun i c hi => ?_⟩⟩
  rw [Nat.zero_add, World.cell?_alloc_new, hc, List.getElem?_toArray, List.getElem?_map, hi]
  rfl

theorem dig_wrap (c : Nat) (h : c < 10) : wrap64 (c : Int) = (c : Int) ∧ wrap64 (48 + (c : Int)) = 48 + (c : Int) ∧ (48 + (c : Int)) % 256 = 48 + (c : Int) := by
  unfold wrap64; omega

theorem itoa_sgn (n : Int) : Lib.itoa n = if n < 0 then 45 :: Lib.decDigits n.natAbs else Lib.decDigits n.natAbs := by
  unfold Lib.itoa
  split
  · rfl
  · congr 1; omega

theorem dec_step (u : Nat) : Lib.decDigits u = (if u < 10 then [] else Lib.decDigits (u / 10)) ++ [UInt8.ofNat (48 + u % 10)] := by
  rw [Lib.decDigits]
  split
  · rename_i h; rw [Nat.mod_eq_of_lt h]; rfl
  · rfl

set_option maxRecDepth 1000000 in
set_option maxHeartbeats 4000000 in
theorem rDigits_any (n : Int) (w : World) (h0 : -9223372036854775808 ≤ n) (h1 : n ≤ 9223372036854775807) :
    Calls Tryd.prog 28 #[.int .i64 n] w fun e w' => e = .returned (.string (baL (Lib.itoa n))) ∧ Below w.heap.size w w' := by
  obtain ⟨b, hb⟩ : ∃ b, decide (n < 0) = b := ⟨_, rfl⟩
  have hn : n = sgn b n.natAbs := by unfold sgn; subst hb; split <;> simp_all <;> omega
  have HI := Lib.hid (itoa_sgn n)
  have HN := Lib.hid hn
  go_enter Tryd.func28, Tryd.ntmps28
  go_wp2
  go_loopw [3, 4] (fun o i wr => ∃ (u : Nat) (t : ByteArray) (out : List UInt8), o = .string t ∧ i = .int .i64 (sgn b u) ∧ u ≤ 9223372036854775808 ∧ (b = false → u ≤ 9223372036854775807) ∧ t.size ≤ 30 ∧ Hid (t = baL out ∧ Lib.decDigits n.natAbs = Lib.decDigits u ++ out ∧ out.length + (Lib.decDigits u).length ≤ 30) ∧ Below w.heap.size w wr) (fun _ i _ => (intOf i).natAbs)
  case atStart =>
    have hl := (dec_facts n.natAbs).2.2.2 29 (by omega)
    exact ⟨n.natAbs, ⟨#[]⟩, [], rfl, by rw [← HN.out], by omega, fun h => by subst h; simp at hb; omega, by decide, ⟨rfl, by simp, by simpa using hl⟩, Below.refl _ _⟩
  case round =>
    obtain ⟨u, t, out, rfl, rfl, hu, hub, hts, HD, hbw⟩ := hrel
    have hsz := hbw.size
    have hmod := Lib.hid (sgn_mod b u)
    have hdiv := Lib.hid (sgn_div b u)
    have hz := sgn_zero b (u / 10)
    have hst := dec_step u
    obtain ⟨c, hc⟩ : ∃ c, u % 10 = c := ⟨_, rfl⟩
    have hc10 : c < 10 := by omega
    rw [hc] at hmod hst
    have hB := Bs.newD wr [48 + c] (by simp; omega) 5 #[.int .u8 ((48 + c : Nat) : Int)] rfl
    have hcv := hB.conv (P := Tryd.prog) 33 5 Tryd.underlying33 Tryd.underlying5 9 Tryd.underlying9 1 1 rfl
    have ecast : ((48 + c : Nat) : Int) = 48 + (c : Int) := by omega
    rw [ecast] at hcv
    have hstr : strN [48 + c] = baL [UInt8.ofNat (48 + c)] := rfl
    rw [hstr] at hcv
    have hcat : baL [UInt8.ofNat (48 + c)] ++ t = baL (UInt8.ofNat (48 + c) :: out) := by rw [HD.out.1]; exact dig_cat c hc10 out
    have hol := HD.out.2.2
    have hds : baL [UInt8.ofNat (48 + c)] = baL [UInt8.ofNat (48 + c)] → (baL [UInt8.ofNat (48 + c)]).size = 1 := fun _ => rfl
    obtain ⟨i, hi⟩ : ∃ i, sgn b u = i := ⟨_, rfl⟩
    obtain ⟨q, hq⟩ : ∃ q, sgn b (u / 10) = q := ⟨_, rfl⟩
    obtain ⟨v, hv⟩ : ∃ v, u / 10 = v := ⟨_, rfl⟩
    obtain ⟨d, hd⟩ : ∃ d, baL [UInt8.ofNat (48 + c)] = d := ⟨_, rfl⟩
    obtain ⟨t', ht'⟩ : ∃ t', baL (UInt8.ofNat (48 + c) :: out) = t' := ⟨_, rfl⟩
    rw [hd] at hcv hcat hds
    have hd1 := hds rfl
    have ht's : t'.size = out.length + 1 := by rw [← ht', baL_size]; simp
    rw [ht'] at hcat
    rw [hq] at hdiv hz
    rw [hi] at hmod hdiv ⊢
    rw [hv] at hz hst hq
    have hqr : -9223372036854775808 ≤ q ∧ q ≤ 9223372036854775807 := by
      rw [← hq]; unfold sgn; split <;> omega
    obtain ⟨q0, q1⟩ := hqr
    have hm := (dig_wrap c hc10).2.2
    have hlong : ¬ 9223372036854775807 < d.size + t.size := by omega
    have hbx : Below w.heap.size w (wr.alloc (.cells #[.int .u8 (48 + (c : Int))] 5)) := hbw.alloc hsz _
    have hdl := (dec_facts v).2.2.1
    have HG : Hid (v ≠ 0 → (Lib.decDigits n.natAbs = Lib.decDigits v ++ UInt8.ofNat (48 + c) :: out ∧ (UInt8.ofNat (48 + c) :: out).length + (Lib.decDigits v).length ≤ 30)) := fun h => by
      have h10 : ¬ u < 10 := by omega
      rw [if_neg h10] at hst
      have h1 := HD.out.2.1
      rw [hst, List.append_assoc] at h1
      refine ⟨h1, ?_⟩
      have h2 := HD.out.2.2
      rw [hst, List.length_append, List.length_singleton] at h2
      rw [List.length_cons]; omega
    have HE : Hid (v = 0 → Lib.decDigits n.natAbs = UInt8.ofNat (48 + c) :: out) := fun h => by
      have h10 : u < 10 := by omega
      rw [if_pos h10] at hst
      have h1 := HD.out.2.1
      rw [hst] at h1
      exact h1
    have hmeas : v ≠ 0 → q.natAbs < i.natAbs := fun h => by
      rw [← hq, ← hi]; unfold sgn; split <;> omega
    have HT := Lib.hid ht'
    have HQ := Lib.hid hq
    have hvb : v ≤ 922337203685477580 := by omega
    have hts2 : out.length + 1 ≤ 30 := by have := (dec_facts u).2.2.1; omega
    have hneg : ¬ 9223372036854775807 < 1 + t'.size := by omega
    have HI2 : Hid (v = 0 → baL (Lib.itoa n) = if n < 0 then ⟨#[45]⟩ ++ t' else t') := fun h => by
      rw [HI.out, HE.out h, ← HT.out]
      split
      · apply ByteArray.ext; simp [baL]
      · rfl
    have hways : (∀ y : Int, y = 10 → i.tmod y = (c : Int)) ∨ ((∀ y : Int, y = 10 → i.tmod y = -(c : Int)) ∧ 1 ≤ c) := by
      cases b with
      | false => exact .inl (fun y hy => by rw [hy]; exact hmod.out)
      | true =>
        by_cases h : c = 0
        · exact .inl (fun y hy => by rw [hy, h]; rw [h] at hmod; exact hmod.out)
        · exact .inr ⟨fun y hy => by rw [hy]; exact hmod.out, Nat.pos_of_ne_zero h⟩
    have hdv : ∀ y : Int, y = 10 → i.tdiv y = q := fun y hy => by rw [hy]; exact hdiv.out
    clear hdiv
    clear hB hstr hds hi hq hv hd ht' hc hst hmod HD hol hdl ecast HI HE HN hn
    rcases hways with hmod | ⟨hmod, hc1⟩
    · have qB : decide ((c : Int) < 0) = false := by simp
      by_cases hv0 : v = 0
      · have hz2 : (q == 0) = true := by rw [hz]; simp [hv0]
        have HF := Lib.hid (HI2.out hv0)
        clear HI2 HG HT HQ hz hmeas
        by_cases hnn : n < 0
        · have HF2 : Hid (baL (Lib.itoa n) = ⟨#[45]⟩ ++ t') := by rw [HF.out, if_pos hnn]; rfl
          clear HF
          go_wp2
          go_ret
          exact ⟨by rw [HF2.out]; rfl, hbx⟩
        · have HF2 : Hid (baL (Lib.itoa n) = t') := by rw [HF.out, if_neg hnn]; rfl
          clear HF
          go_wp2
          go_ret
          exact ⟨by rw [HF2.out]; rfl, hbx⟩
      · have hz2 : (q == 0) = false := by rw [hz]; simp [hv0]
        obtain ⟨g1, g2⟩ := HG.out hv0
        have HG2 := Lib.hid g1
        have hme := hmeas hv0
        clear HI2 HG hz hmeas g1
        go_wp2
        go_roundw
        case rel => exact ⟨v, t', _, rfl, by rw [HQ.out], by omega, fun _ => by omega, by omega, ⟨HT.out.symm, HG2.out, g2⟩, hbx⟩
        case measure => simp [intOf]; omega
    · have qB : decide (-(c : Int) < 0) = true := by simp; omega
      by_cases hv0 : v = 0
      · have hz2 : (q == 0) = true := by rw [hz]; simp [hv0]
        have HF := Lib.hid (HI2.out hv0)
        clear HI2 HG HT HQ hz hmeas
        by_cases hnn : n < 0
        · have HF2 : Hid (baL (Lib.itoa n) = ⟨#[45]⟩ ++ t') := by rw [HF.out, if_pos hnn]; rfl
          clear HF
          go_wp2
          go_ret
          exact ⟨by rw [HF2.out]; rfl, hbx⟩
        · have HF2 : Hid (baL (Lib.itoa n) = t') := by rw [HF.out, if_neg hnn]; rfl
          clear HF
          go_wp2
          go_ret
          exact ⟨by rw [HF2.out]; rfl, hbx⟩
      · have hz2 : (q == 0) = false := by rw [hz]; simp [hv0]
        obtain ⟨g1, g2⟩ := HG.out hv0
        have HG2 := Lib.hid g1
        have hme := hmeas hv0
        clear HI2 HG hz hmeas g1
        go_wp2
        go_roundw
        case rel => exact ⟨v, t', _, rfl, by rw [HQ.out], by omega, fun _ => by omega, by omega, ⟨HT.out.symm, HG2.out, g2⟩, hbx⟩
        case measure => simp [intOf]; omega
end Go.Proofs.YtfbknfdbfnklmaaDoor
