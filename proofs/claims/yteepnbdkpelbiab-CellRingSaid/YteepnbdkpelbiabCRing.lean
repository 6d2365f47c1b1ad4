/- The walk of the law CellRing. -/
import Derived.Test.YteepnbdkpelbiabCAlive
namespace Go.Proofs.Yteepnbdkpelbiab
open Go.RowKit

theorem addI_comm (x y : Int) : addI x y = addI y x := by unfold addI; rw [Int.add_comm]
theorem mulI_comm (x y : Int) : mulI x y = mulI y x := by unfold mulI; rw [Int.mul_comm]

theorem add_ring (a b : Int) (W : World) (a1 : -9223372036854775808 ≤ a) (a2 : a ≤ 9223372036854775807) (b1 : -9223372036854775808 ≤ b) (b2 : b ≤ 9223372036854775807) :
    Calls Try.prog 22 #[.agg #[.int .u8 1, .int .i64 a, .string ⟨#[]⟩], .agg #[.int .u8 1, .int .i64 b, .string ⟨#[]⟩]] W (RetV W (pickV (addI a b).1 (addI a b).2)) := by
  have h := Add_any (numV a) (numV b) W (ok_num _ a1 a2) (ok_num _ b1 b2)
  rw [show arithV addI (numV a) (numV b) = pickV (addI a b).1 (addI a b).2 from by unfold numV; rw [arithV_ii]] at h
  exact h
theorem sub_ring (a b : Int) (W : World) (a1 : -9223372036854775808 ≤ a) (a2 : a ≤ 9223372036854775807) (b1 : -9223372036854775808 ≤ b) (b2 : b ≤ 9223372036854775807) :
    Calls Try.prog 24 #[.agg #[.int .u8 1, .int .i64 a, .string ⟨#[]⟩], .agg #[.int .u8 1, .int .i64 b, .string ⟨#[]⟩]] W (RetV W (pickV (subI a b).1 (subI a b).2)) := by
  have h := Sub_any (numV a) (numV b) W (ok_num _ a1 a2) (ok_num _ b1 b2)
  rw [show arithV subI (numV a) (numV b) = pickV (subI a b).1 (subI a b).2 from by unfold numV; rw [arithV_ii]] at h
  exact h
theorem mul_ring (a b : Int) (W : World) (a1 : -9223372036854775808 ≤ a) (a2 : a ≤ 9223372036854775807) (b1 : -9223372036854775808 ≤ b) (b2 : b ≤ 9223372036854775807) :
    Calls Try.prog 23 #[.agg #[.int .u8 1, .int .i64 a, .string ⟨#[]⟩], .agg #[.int .u8 1, .int .i64 b, .string ⟨#[]⟩]] W (RetV W (pickV (mulI a b).1 (mulI a b).2)) := by
  have h := Mul_any (numV a) (numV b) W (ok_num _ a1 a2) (ok_num _ b1 b2)
  rw [show arithV mulI (numV a) (numV b) = pickV (mulI a b).1 (mulI a b).2 from by unfold numV; rw [arithV_ii]] at h
  exact h
theorem div_ring (a b : Int) (W : World) (a1 : -9223372036854775808 ≤ a) (a2 : a ≤ 9223372036854775807) (b1 : -9223372036854775808 ≤ b) (b2 : b ≤ 9223372036854775807) :
    Calls Try.prog 25 #[.agg #[.int .u8 1, .int .i64 a, .string ⟨#[]⟩], .agg #[.int .u8 1, .int .i64 b, .string ⟨#[]⟩]] W (RetV W (pickV (divI a b).1 (divI a b).2)) := by
  have h := Div_any (numV a) (numV b) W (ok_num _ a1 a2) (ok_num _ b1 b2)
  rw [show arithV divI (numV a) (numV b) = pickV (divI a b).1 (divI a b).2 from by unfold numV; rw [arithV_ii]] at h
  exact h
theorem mod_ring (a b : Int) (W : World) (a1 : -9223372036854775808 ≤ a) (a2 : a ≤ 9223372036854775807) (b1 : -9223372036854775808 ≤ b) (b2 : b ≤ 9223372036854775807) :
    Calls Try.prog 26 #[.agg #[.int .u8 1, .int .i64 a, .string ⟨#[]⟩], .agg #[.int .u8 1, .int .i64 b, .string ⟨#[]⟩]] W (RetV W (pickV (modI a b).1 (modI a b).2)) := by
  have h := Mod_any (numV a) (numV b) W (ok_num _ a1 a2) (ok_num _ b1 b2)
  rw [show arithV modI (numV a) (numV b) = pickV (modI a b).1 (modI a b).2 from by unfold numV; rw [arithV_ii]] at h
  exact h

/-- What is behind the sums and products: the four results, each in a variable of its own. -/
theorem pick0 (v : Int) : pickV v 0 = (⟨1, v, ⟨#[]⟩⟩, 0) := rfl
theorem pickE (v q : Int) (h : q ≠ 0) : pickV v q = (⟨0, 0, ⟨#[]⟩⟩, q) := if_pos h

theorem ring_over (a b : Int) (hb : b = -1) (ha : a = -9223372036854775808) : divI a b = (0, 21) ∧ modI a b = (0, 0) := by
  subst ha hb
  exact ⟨by decide, by decide⟩

theorem ring_good (a b : Int) (a1 : -9223372036854775808 ≤ a) (a2 : a ≤ 9223372036854775807) (h0 : b ≠ 0) (h : ¬ (a = -9223372036854775808 ∧ b = -1)) :
    divI a b = (a.tdiv b, 0) ∧ modI a b = (a.tmod b, 0) ∧ mulI (a.tdiv b) b = (a.tdiv b * b, 0) ∧ addI (a.tdiv b * b) (a.tmod b) = (a, 0) ∧
    (-9223372036854775808 ≤ a.tdiv b ∧ a.tdiv b ≤ 9223372036854775807) ∧ (-9223372036854775808 ≤ a.tmod b ∧ a.tmod b ≤ 9223372036854775807) ∧ (-9223372036854775808 ≤ a.tdiv b * b ∧ a.tdiv b * b ≤ 9223372036854775807) := by
  have hf := div_fits a b a1 a2 h0 h
  have hm := mod_fits a b a1 a2
  have hdm := Int.tdiv_mul_add_tmod a b
  have hmul : -9223372036854775808 ≤ a.tdiv b * b ∧ a.tdiv b * b ≤ 9223372036854775807 := by
    have e : a.tdiv b * b = a - a.tmod b := by omega
    rw [e]
    by_cases ha : 0 ≤ a
    · have := Int.tmod_nonneg b ha
      have h2 : (a.tmod b).natAbs ≤ a.natAbs := by rw [Int.natAbs_tmod]; exact Nat.mod_le _ _
      omega
    · have h4 : a.tmod b = -((-a).tmod b) := by rw [Int.neg_tmod]; simp
      have h5 := Int.tmod_nonneg b (show 0 ≤ -a by omega)
      have h2 : (a.tmod b).natAbs ≤ a.natAbs := by rw [Int.natAbs_tmod]; exact Nat.mod_le _ _
      omega
  refine ⟨?_, ?_, ?_, ?_, hf, hm, hmul⟩
  · unfold divI; rw [if_neg h0, fits_yes hf.1 hf.2]; rfl
  · unfold modI; rw [if_neg h0]
  · unfold mulI; rw [fits_yes hmul.1 hmul.2]; rfl
  · unfold addI; rw [hdm, fits_yes a1 a2]; rfl

set_option maxRecDepth 100000 in
set_option maxHeartbeats 4000000 in
theorem ring_any (a b : Int) (w : World) (a1 : -9223372036854775808 ≤ a) (a2 : a ≤ 9223372036854775807) (b1 : -9223372036854775808 ≤ b) (b2 : b ≤ 9223372036854775807) :
    Calls Try.prog 6 #[.int .i64 a, .int .i64 b] w fun e w' => e = .returned (.bool true) ∧ Below w.heap.size w w' := by
  have hA1 := fun W => add_ring a b W a1 a2 b1 b2
  have hA2 := fun W => add_ring b a W b1 b2 a1 a2
  have hM1 := fun W => mul_ring a b W a1 a2 b1 b2
  have hM2 := fun W => mul_ring b a W b1 b2 a1 a2
  have hD := fun W => div_ring a b W a1 a2 b1 b2
  have hR := fun W => mod_ring a b W a1 a2 b1 b2
  rw [addI_comm b a] at hA2
  rw [mulI_comm b a] at hM2
  obtain ⟨P, hP⟩ : ∃ P, pickV (mulI a b).1 (mulI a b).2 = P := ⟨_, rfl⟩
  rw [hP] at hM1 hM2
  obtain ⟨⟨pk, pn, ps⟩, pe⟩ := P
  have HM1 := Lib.hid hM1
  have HM2 := Lib.hid hM2
  have HD := Lib.hid hD
  have HR := Lib.hid hR
  have HB : Hid (-9223372036854775808 ≤ a ∧ a ≤ 9223372036854775807 ∧ -9223372036854775808 ≤ b ∧ b ≤ 9223372036854775807) := ⟨a1, a2, b1, b2⟩
  clear hP hM1 hM2 hD hR
  have hS : (∃ sn, pickV (addI a b).1 (addI a b).2 = (⟨1, sn, ⟨#[]⟩⟩, 0) ∧ sn = a + b ∧ -9223372036854775808 ≤ sn ∧ sn ≤ 9223372036854775807) ∨ pickV (addI a b).1 (addI a b).2 = (⟨0, 0, ⟨#[]⟩⟩, 21) := by
    unfold addI
    by_cases hf : fits (a + b) = true
    · have := (fits_iff _).1 hf
      rw [hf]; exact .inl ⟨_, rfl, rfl, this.1, this.2⟩
    · rw [show fits (a + b) = false from by simpa using hf]; exact .inr rfl
  rcases hS with ⟨sn, hS, hsn, sn1, sn2⟩ | hS
  focus
    have hSub : ∀ W, Calls Try.prog 24 #[.agg #[.int .u8 1, .int .i64 sn, .string ⟨#[]⟩], .agg #[.int .u8 1, .int .i64 b, .string ⟨#[]⟩]] W (RetV W (⟨1, a, ⟨#[]⟩⟩, 0)) := by
      intro W
      have h := sub_ring sn b W sn1 sn2 b1 b2
      rw [show subI sn b = (a, 0) from by unfold subI; rw [show sn - b = a by omega, fits_yes a1 a2]; rfl] at h
      exact h
    have HSub := Lib.hid hSub
    clear hSub hsn
  all_goals
    rw [hS] at hA1 hA2
    have HA1 := Lib.hid hA1
    have HA2 := Lib.hid hA2
    clear hS hA1 hA2
    go_enter Try.func6, Try.ntmps6
    go_wp2_with fail
    refine (HA1.out _).mono ?_
    rintro e w1 ⟨rfl, h1⟩
    obtain ⟨Sx, Sy, hz⟩ := slots2 _ _ _ _ _ _ _ _ _ h1
    have hw : Later w w1 := Below.trans (((Below.refl _ _).alloc (Nat.le_refl _) _).alloc (by simp) _) (Below.mono h1 (by simp <;> omega))
    clear h1
    obtain ⟨Sxc0, Sxc1, Sxc2, Sxc3, Sxc4, Sxc5⟩ := id Sx
    have Sxa0 := fun o => (Sx.on (Below.box _ o)).1
    have Sxa1 := fun o => (Sx.on (Below.box _ o)).2.1
    have Sxa2 := fun o => (Sx.on (Below.box _ o)).2.2.1
    obtain ⟨Syc0, Syc1, Syc2, Syc3, Syc4, Syc5⟩ := id Sy
    have Sya0 := fun o => (Sy.on (Below.box _ o)).1
    have Sya1 := fun o => (Sy.on (Below.box _ o)).2.1
    have Sya2 := fun o => (Sy.on (Below.box _ o)).2.2.1
    go_wp2_with fail
    clear Sxc0 Sxc1 Sxc2 Sxc3 Sxc4 Sxc5 Sxa0 Sxa1 Sxa2 Syc0 Syc1 Syc2 Syc3 Syc4 Syc5 Sya0 Sya1 Sya2
    refine (HA2.out _).mono ?_
    rintro e w2 ⟨rfl, h2⟩
    obtain ⟨Ss, h2⟩ := slotN _ _ _ _ _ _ h2
    replace Sx := Sx.on h2
    replace Sy := Sy.on h2
    replace hw := hw.trans h2
    clear h2
    obtain ⟨Sxc0, Sxc1, Sxc2, Sxc3, Sxc4, Sxc5⟩ := id Sx
    have Sxa0 := fun o => (Sx.on (Below.box _ o)).1
    have Sxa1 := fun o => (Sx.on (Below.box _ o)).2.1
    have Sxa2 := fun o => (Sx.on (Below.box _ o)).2.2.1
    obtain ⟨Syc0, Syc1, Syc2, Syc3, Syc4, Syc5⟩ := id Sy
    have Sya0 := fun o => (Sy.on (Below.box _ o)).1
    have Sya1 := fun o => (Sy.on (Below.box _ o)).2.1
    have Sya2 := fun o => (Sy.on (Below.box _ o)).2.2.1
    go_wp2_with fail
    clear Sxc0 Sxc1 Sxc2 Sxc3 Sxc4 Sxc5 Sxa0 Sxa1 Sxa2 Syc0 Syc1 Syc2 Syc3 Syc4 Syc5 Sya0 Sya1 Sya2
    refine (HM1.out _).mono ?_
    rintro e w3 ⟨rfl, h3⟩
    obtain ⟨St, h3⟩ := slotN _ _ _ _ _ _ h3
    replace Sx := Sx.on h3
    replace Sy := Sy.on h3
    replace Ss := Ss.on h3
    replace hw := hw.trans h3
    clear h3
    obtain ⟨Sxc0, Sxc1, Sxc2, Sxc3, Sxc4, Sxc5⟩ := id Sx
    have Sxa0 := fun o => (Sx.on (Below.box _ o)).1
    have Sxa1 := fun o => (Sx.on (Below.box _ o)).2.1
    have Sxa2 := fun o => (Sx.on (Below.box _ o)).2.2.1
    obtain ⟨Syc0, Syc1, Syc2, Syc3, Syc4, Syc5⟩ := id Sy
    have Sya0 := fun o => (Sy.on (Below.box _ o)).1
    have Sya1 := fun o => (Sy.on (Below.box _ o)).2.1
    have Sya2 := fun o => (Sy.on (Below.box _ o)).2.2.1
    go_wp2_with fail
    clear Sxc0 Sxc1 Sxc2 Sxc3 Sxc4 Sxc5 Sxa0 Sxa1 Sxa2 Syc0 Syc1 Syc2 Syc3 Syc4 Syc5 Sya0 Sya1 Sya2
    refine (HM2.out _).mono ?_
    rintro e w4 ⟨rfl, h4⟩
    obtain ⟨Sp, h4⟩ := slotN _ _ _ _ _ _ h4
    replace Sx := Sx.on h4
    replace Sy := Sy.on h4
    replace Ss := Ss.on h4
    replace St := St.on h4
    replace hw := hw.trans h4
    clear h4
    obtain ⟨Sxc0, Sxc1, Sxc2, Sxc3, Sxc4, Sxc5⟩ := id Sx
    have Sxa0 := fun o => (Sx.on (Below.box _ o)).1
    have Sxa1 := fun o => (Sx.on (Below.box _ o)).2.1
    have Sxa2 := fun o => (Sx.on (Below.box _ o)).2.2.1
    obtain ⟨Syc0, Syc1, Syc2, Syc3, Syc4, Syc5⟩ := id Sy
    have Sya0 := fun o => (Sy.on (Below.box _ o)).1
    have Sya1 := fun o => (Sy.on (Below.box _ o)).2.1
    have Sya2 := fun o => (Sy.on (Below.box _ o)).2.2.1
    obtain ⟨Ssc0, Ssc1, Ssc2, Ssc3, Ssc4, Ssc5⟩ := id Ss
    have Ssa0 := fun o => (Ss.on (Below.box _ o)).1
    have Ssa1 := fun o => (Ss.on (Below.box _ o)).2.1
    have Ssa2 := fun o => (Ss.on (Below.box _ o)).2.2.1
    obtain ⟨Stc0, Stc1, Stc2, Stc3, Stc4, Stc5⟩ := id St
    have Sta0 := fun o => (St.on (Below.box _ o)).1
    have Sta1 := fun o => (St.on (Below.box _ o)).2.1
    have Sta2 := fun o => (St.on (Below.box _ o)).2.2.1
    obtain ⟨Spc0, Spc1, Spc2, Spc3, Spc4, Spc5⟩ := id Sp
    have Spa0 := fun o => (Sp.on (Below.box _ o)).1
    have Spa1 := fun o => (Sp.on (Below.box _ o)).2.1
    have Spa2 := fun o => (Sp.on (Below.box _ o)).2.2.1
    go_wp2_with fail
    clear Sxc0 Sxc1 Sxc2 Sxc3 Sxc4 Sxc5 Sxa0 Sxa1 Sxa2 Syc0 Syc1 Syc2 Syc3 Syc4 Syc5 Sya0 Sya1 Sya2 Ssc0 Ssc1 Ssc2 Ssc3 Ssc4 Ssc5 Ssa0 Ssa1 Ssa2 Stc0 Stc1 Stc2 Stc3 Stc4 Stc5 Sta0 Sta1 Sta2 Spc0 Spc1 Spc2 Spc3 Spc4 Spc5 Spa0 Spa1 Spa2
    clear HA1 HA2 HM1 HM2 Ss St Sp
  focus
    refine (HSub.out _).mono ?_
    rintro e w5 ⟨rfl, h5⟩
    replace h5 := (slotN _ _ _ _ _ _ h5).2
    replace Sx := Sx.on h5
    replace Sy := Sy.on h5
    replace hw := hw.trans h5
    clear h5 HSub
    obtain ⟨Sxc0, Sxc1, Sxc2, Sxc3, Sxc4, Sxc5⟩ := id Sx
    have Sxa0 := fun o => (Sx.on (Below.box _ o)).1
    have Sxa1 := fun o => (Sx.on (Below.box _ o)).2.1
    have Sxa2 := fun o => (Sx.on (Below.box _ o)).2.2.1
    obtain ⟨Syc0, Syc1, Syc2, Syc3, Syc4, Syc5⟩ := id Sy
    have Sya0 := fun o => (Sy.on (Below.box _ o)).1
    have Sya1 := fun o => (Sy.on (Below.box _ o)).2.1
    have Sya2 := fun o => (Sy.on (Below.box _ o)).2.2.1
    go_wp2_with fail
    clear Sxc0 Sxc1 Sxc2 Sxc3 Sxc4 Sxc5 Sxa0 Sxa1 Sxa2 Syc0 Syc1 Syc2 Syc3 Syc4 Syc5 Sya0 Sya1 Sya2
  all_goals
    have hd : b = 0 ∨ (b = -1 ∧ a = -9223372036854775808) ∨ (b ≠ 0 ∧ ¬ (a = -9223372036854775808 ∧ b = -1)) := by omega
    rcases hd with hd | ⟨hd, hd2⟩ | ⟨hd, hd2⟩
    · have e0 : (b == 0) = true := by simp [hd]
      have hD0 : ∀ W, Calls Try.prog 25 #[.agg #[.int .u8 1, .int .i64 a, .string ⟨#[]⟩], .agg #[.int .u8 1, .int .i64 b, .string ⟨#[]⟩]] W (RetV W (⟨0, 0, ⟨#[]⟩⟩, 22)) := by
        intro W
        have h := HD.out W
        rw [show divI a b = (0, 22) from by unfold divI; rw [if_pos hd]] at h
        exact h
      have hR0 : ∀ W, Calls Try.prog 26 #[.agg #[.int .u8 1, .int .i64 a, .string ⟨#[]⟩], .agg #[.int .u8 1, .int .i64 b, .string ⟨#[]⟩]] W (RetV W (⟨0, 0, ⟨#[]⟩⟩, 22)) := by
        intro W
        have h := HR.out W
        rw [show modI a b = (0, 22) from by unfold modI; rw [if_pos hd]] at h
        exact h
      have HD0 := Lib.hid hD0
      have HR0 := Lib.hid hR0
      clear hD0 hR0 HD HR HB hd
      refine (HD0.out _).mono ?_
      rintro e w6 ⟨rfl, h6⟩
      replace h6 := (slotN _ _ _ _ _ _ h6).2
      replace Sx := Sx.on h6
      replace Sy := Sy.on h6
      obtain ⟨Sxc0, Sxc1, Sxc2, Sxc3, Sxc4, Sxc5⟩ := id Sx
      have Sxa0 := fun o => (Sx.on (Below.box _ o)).1
      have Sxa1 := fun o => (Sx.on (Below.box _ o)).2.1
      have Sxa2 := fun o => (Sx.on (Below.box _ o)).2.2.1
      obtain ⟨Syc0, Syc1, Syc2, Syc3, Syc4, Syc5⟩ := id Sy
      have Sya0 := fun o => (Sy.on (Below.box _ o)).1
      have Sya1 := fun o => (Sy.on (Below.box _ o)).2.1
      have Sya2 := fun o => (Sy.on (Below.box _ o)).2.2.1
      go_wp2_with fail
      clear Sxc0 Sxc1 Sxc2 Sxc3 Sxc4 Sxc5 Sxa0 Sxa1 Sxa2 Syc0 Syc1 Syc2 Syc3 Syc4 Syc5 Sya0 Sya1 Sya2
      refine (HR0.out _).mono ?_
      rintro e w7 ⟨rfl, h7⟩
      replace h7 := (slotN _ _ _ _ _ _ h7).2
      go_wp2_with fail
      refine (alive2_any _).mono ?_
      rintro e w8 ⟨rfl, h8⟩
      replace h8 := (slotN _ _ _ _ _ _ h8).2
      go_wp2
      go_ret
      exact ⟨rfl, ((hw.trans h6).trans h7).trans h8⟩
    · have e0 : (b == 0) = false := by simp [hd]
      have e1 : (b == -1) = true := by simp [hd]
      have e2 : a < 0 := by omega
      have ho := ring_over a b hd hd2
      have hD0 : ∀ W, Calls Try.prog 25 #[.agg #[.int .u8 1, .int .i64 a, .string ⟨#[]⟩], .agg #[.int .u8 1, .int .i64 b, .string ⟨#[]⟩]] W (RetV W (⟨0, 0, ⟨#[]⟩⟩, 21)) := by
        intro W
        have h := HD.out W
        rw [ho.1] at h
        exact h
      have hR0 : ∀ W, Calls Try.prog 26 #[.agg #[.int .u8 1, .int .i64 a, .string ⟨#[]⟩], .agg #[.int .u8 1, .int .i64 b, .string ⟨#[]⟩]] W (RetV W (⟨1, 0, ⟨#[]⟩⟩, 0)) := by
        intro W
        have h := HR.out W
        rw [ho.2] at h
        exact h
      have HD0 := Lib.hid hD0
      have HR0 := Lib.hid hR0
      clear hD0 hR0 HD HR HB hd hd2 ho
      refine (HD0.out _).mono ?_
      rintro e w6 ⟨rfl, h6⟩
      replace h6 := (slotN _ _ _ _ _ _ h6).2
      replace Sx := Sx.on h6
      replace Sy := Sy.on h6
      obtain ⟨Sxc0, Sxc1, Sxc2, Sxc3, Sxc4, Sxc5⟩ := id Sx
      have Sxa0 := fun o => (Sx.on (Below.box _ o)).1
      have Sxa1 := fun o => (Sx.on (Below.box _ o)).2.1
      have Sxa2 := fun o => (Sx.on (Below.box _ o)).2.2.1
      obtain ⟨Syc0, Syc1, Syc2, Syc3, Syc4, Syc5⟩ := id Sy
      have Sya0 := fun o => (Sy.on (Below.box _ o)).1
      have Sya1 := fun o => (Sy.on (Below.box _ o)).2.1
      have Sya2 := fun o => (Sy.on (Below.box _ o)).2.2.1
      go_wp2_with fail
      clear Sxc0 Sxc1 Sxc2 Sxc3 Sxc4 Sxc5 Sxa0 Sxa1 Sxa2 Syc0 Syc1 Syc2 Syc3 Syc4 Syc5 Sya0 Sya1 Sya2
      refine (HR0.out _).mono ?_
      rintro e w7 ⟨rfl, h7⟩
      replace h7 := (slotN _ _ _ _ _ _ h7).2
      go_wp2_with fail
      refine (alive2_any _).mono ?_
      rintro e w8 ⟨rfl, h8⟩
      replace h8 := (slotN _ _ _ _ _ _ h8).2
      go_wp2
      go_ret
      exact ⟨rfl, ((hw.trans h6).trans h7).trans h8⟩
    · obtain ⟨g1, g2, g3, g4, g5, g6, g7⟩ := ring_good a b HB.out.1 HB.out.2.1 hd hd2
      have hM0 : ∀ W, Calls Try.prog 23 #[.agg #[.int .u8 1, .int .i64 (a.tdiv b), .string ⟨#[]⟩], .agg #[.int .u8 1, .int .i64 b, .string ⟨#[]⟩]] W (RetV W (⟨1, a.tdiv b * b, ⟨#[]⟩⟩, 0)) := by
        intro W
        have h := mul_ring (a.tdiv b) b W g5.1 g5.2 HB.out.2.2.1 HB.out.2.2.2
        rw [g3] at h
        exact h
      have hA0 : ∀ W, Calls Try.prog 22 #[.agg #[.int .u8 1, .int .i64 (a.tdiv b * b), .string ⟨#[]⟩], .agg #[.int .u8 1, .int .i64 (a.tmod b), .string ⟨#[]⟩]] W (RetV W (⟨1, a, ⟨#[]⟩⟩, 0)) := by
        intro W
        have h := add_ring (a.tdiv b * b) (a.tmod b) W g7.1 g7.2 g6.1 g6.2
        rw [g4] at h
        exact h
      obtain ⟨u, hu⟩ : ∃ u, u = a.tdiv b := ⟨_, rfl⟩
      obtain ⟨v, hv⟩ : ∃ v, v = a.tmod b := ⟨_, rfl⟩
      obtain ⟨m, hm⟩ : ∃ m, m = a.tdiv b * b := ⟨_, rfl⟩
      have hD0 : ∀ W, Calls Try.prog 25 #[.agg #[.int .u8 1, .int .i64 a, .string ⟨#[]⟩], .agg #[.int .u8 1, .int .i64 b, .string ⟨#[]⟩]] W (RetV W (⟨1, u, ⟨#[]⟩⟩, 0)) := by
        intro W
        have h := HD.out W
        rw [g1, ← hu] at h
        exact h
      have hR0 : ∀ W, Calls Try.prog 26 #[.agg #[.int .u8 1, .int .i64 a, .string ⟨#[]⟩], .agg #[.int .u8 1, .int .i64 b, .string ⟨#[]⟩]] W (RetV W (⟨1, v, ⟨#[]⟩⟩, 0)) := by
        intro W
        have h := HR.out W
        rw [g2, ← hv] at h
        exact h
      rw [← hm, ← hu] at hM0
      rw [← hm, ← hv] at hA0
      have HD0 := Lib.hid hD0
      have HR0 := Lib.hid hR0
      have HM0 := Lib.hid hM0
      have HA0 := Lib.hid hA0
      clear hD0 hR0 HD HR HB hd hd2 g1 g2 g3 g4 g5 g6 g7 hM0 hA0 hu hv hm
      refine (HD0.out _).mono ?_
      rintro e w6 ⟨rfl, h6⟩
      replace h6 := (slotN _ _ _ _ _ _ h6).2
      replace Sx := Sx.on h6
      replace Sy := Sy.on h6
      obtain ⟨Sxc0, Sxc1, Sxc2, Sxc3, Sxc4, Sxc5⟩ := id Sx
      have Sxa0 := fun o => (Sx.on (Below.box _ o)).1
      have Sxa1 := fun o => (Sx.on (Below.box _ o)).2.1
      have Sxa2 := fun o => (Sx.on (Below.box _ o)).2.2.1
      obtain ⟨Syc0, Syc1, Syc2, Syc3, Syc4, Syc5⟩ := id Sy
      have Sya0 := fun o => (Sy.on (Below.box _ o)).1
      have Sya1 := fun o => (Sy.on (Below.box _ o)).2.1
      have Sya2 := fun o => (Sy.on (Below.box _ o)).2.2.1
      go_wp2_with fail
      clear Sxc0 Sxc1 Sxc2 Sxc3 Sxc4 Sxc5 Sxa0 Sxa1 Sxa2 Syc0 Syc1 Syc2 Syc3 Syc4 Syc5 Sya0 Sya1 Sya2
      refine (HR0.out _).mono ?_
      rintro e w7 ⟨rfl, h7⟩
      obtain ⟨Su, h7⟩ := slotN _ _ _ _ _ _ h7
      replace Sx := Sx.on h7
      replace Sy := Sy.on h7
      obtain ⟨Sxc0, Sxc1, Sxc2, Sxc3, Sxc4, Sxc5⟩ := id Sx
      have Sxa0 := fun o => (Sx.on (Below.box _ o)).1
      have Sxa1 := fun o => (Sx.on (Below.box _ o)).2.1
      have Sxa2 := fun o => (Sx.on (Below.box _ o)).2.2.1
      obtain ⟨Syc0, Syc1, Syc2, Syc3, Syc4, Syc5⟩ := id Sy
      have Sya0 := fun o => (Sy.on (Below.box _ o)).1
      have Sya1 := fun o => (Sy.on (Below.box _ o)).2.1
      have Sya2 := fun o => (Sy.on (Below.box _ o)).2.2.1
      obtain ⟨Suc0, Suc1, Suc2, Suc3, Suc4, Suc5⟩ := id Su
      have Sua0 := fun o => (Su.on (Below.box _ o)).1
      have Sua1 := fun o => (Su.on (Below.box _ o)).2.1
      have Sua2 := fun o => (Su.on (Below.box _ o)).2.2.1
      go_wp2_with fail
      clear Sxc0 Sxc1 Sxc2 Sxc3 Sxc4 Sxc5 Sxa0 Sxa1 Sxa2 Syc0 Syc1 Syc2 Syc3 Syc4 Syc5 Sya0 Sya1 Sya2 Suc0 Suc1 Suc2 Suc3 Suc4 Suc5 Sua0 Sua1 Sua2
      refine (HM0.out _).mono ?_
      rintro e w8 ⟨rfl, h8⟩
      obtain ⟨Sv, h8⟩ := slotN _ _ _ _ _ _ h8
      replace Sx := Sx.on h8
      replace Sy := Sy.on h8
      obtain ⟨Sxc0, Sxc1, Sxc2, Sxc3, Sxc4, Sxc5⟩ := id Sx
      have Sxa0 := fun o => (Sx.on (Below.box _ o)).1
      have Sxa1 := fun o => (Sx.on (Below.box _ o)).2.1
      have Sxa2 := fun o => (Sx.on (Below.box _ o)).2.2.1
      obtain ⟨Syc0, Syc1, Syc2, Syc3, Syc4, Syc5⟩ := id Sy
      have Sya0 := fun o => (Sy.on (Below.box _ o)).1
      have Sya1 := fun o => (Sy.on (Below.box _ o)).2.1
      have Sya2 := fun o => (Sy.on (Below.box _ o)).2.2.1
      obtain ⟨Svc0, Svc1, Svc2, Svc3, Svc4, Svc5⟩ := id Sv
      have Sva0 := fun o => (Sv.on (Below.box _ o)).1
      have Sva1 := fun o => (Sv.on (Below.box _ o)).2.1
      have Sva2 := fun o => (Sv.on (Below.box _ o)).2.2.1
      go_wp2_with fail
      clear Sxc0 Sxc1 Sxc2 Sxc3 Sxc4 Sxc5 Sxa0 Sxa1 Sxa2 Syc0 Syc1 Syc2 Syc3 Syc4 Syc5 Sya0 Sya1 Sya2 Svc0 Svc1 Svc2 Svc3 Svc4 Svc5 Sva0 Sva1 Sva2
      refine (HA0.out _).mono ?_
      rintro e w9 ⟨rfl, h9⟩
      obtain ⟨Sm, h9⟩ := slotN _ _ _ _ _ _ h9
      replace Sx := Sx.on h9
      replace Sy := Sy.on h9
      go_wp2_with fail
      refine (alive2_any _).mono ?_
      rintro e w10 ⟨rfl, h10⟩
      obtain ⟨Sw, h10⟩ := slotN _ _ _ _ _ _ h10
      replace Sx := Sx.on h10
      replace Sy := Sy.on h10
      obtain ⟨Sxc0, Sxc1, Sxc2, Sxc3, Sxc4, Sxc5⟩ := id Sx
      have Sxa0 := fun o => (Sx.on (Below.box _ o)).1
      have Sxa1 := fun o => (Sx.on (Below.box _ o)).2.1
      have Sxa2 := fun o => (Sx.on (Below.box _ o)).2.2.1
      obtain ⟨Syc0, Syc1, Syc2, Syc3, Syc4, Syc5⟩ := id Sy
      have Sya0 := fun o => (Sy.on (Below.box _ o)).1
      have Sya1 := fun o => (Sy.on (Below.box _ o)).2.1
      have Sya2 := fun o => (Sy.on (Below.box _ o)).2.2.1
      obtain ⟨Swc0, Swc1, Swc2, Swc3, Swc4, Swc5⟩ := id Sw
      have Swa0 := fun o => (Sw.on (Below.box _ o)).1
      have Swa1 := fun o => (Sw.on (Below.box _ o)).2.1
      have Swa2 := fun o => (Sw.on (Below.box _ o)).2.2.1
      go_wp2
      go_ret
      exact ⟨rfl, ((((hw.trans h6).trans h7).trans h8).trans h9).trans h10⟩
end Go.Proofs.Yteepnbdkpelbiab
