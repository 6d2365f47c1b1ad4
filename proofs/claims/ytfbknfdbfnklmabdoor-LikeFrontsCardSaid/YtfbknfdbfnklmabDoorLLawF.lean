/- The walk of the law LikeFronts. -/
import Derived.Test.YtfbknfdbfnklmabDoorLLawB
import Derived.Test.YtfbknfdbfnklmabDoorLRFront
namespace Go.Proofs.YtfbknfdbfnklmabDoor
open Go.RowKit

theorem PMatch_zero (B : Nat) (s : ByteArray) (w : World) (hc1 : w.cell? ⟨B, 1, none⟩ = some (.bool false)) :
    Calls Tryd.prog 12 #[.pointer (some ⟨B, 0, none⟩), .string s] w fun e w' => e = .returned (.tuple #[.bool false, .int .i64 6]) ∧ Below w.heap.size w w' := by
  go_enter Tryd.func12, Tryd.ntmps12
  go_wp2
  go_ret2
  exact ⟨rfl, Below.refl _ _⟩

theorem PatP.zero (w : World) (T : TypeId) : PatP (w.alloc (.cells #[.slice none 0 0, .bool false] T)) (.pointer (some ⟨w.heap.size, 0, none⟩)) [] :=
  .inr ⟨w.heap.size, none, 0, rfl, by simp, by rw [World.cell?_alloc_new]; rfl, by simp, by simp, .inl rfl, by simp⟩

theorem front_nil : strP (frontP []) = ⟨#[]⟩ := rfl
theorem least_nil : leastP [] = 0 := rfl

set_option maxHeartbeats 8000000 in
theorem fronts6_any (p : ByteArray) (w : World) (hT : Tabs w) (hp : p.size ≤ 140737488351232) :
    Calls Tryd.prog 4 #[.string p] w fun e w' => e = .returned (.bool true) ∧ Below w.heap.size w w' := by
  have HA := Lib.hid (fun W (h : Below w.heap.size w W) => alive6_any W (hT.below h))
  by_cases h1 : 1000 < p.size
  · clear hT
    go_enter Tryd.func4, Tryd.ntmps4
    go_wp2_with fail
    refine (HA.out _ (Below.refl _ _)).mono ?_
    rintro e w1 ⟨rfl, hb⟩
    go_wp2
    go_ret
    exact ⟨rfl, hb⟩
  · have qa : decide ((1000 : Int) < (p.size : Int)) = false := by simp; omega
    have HC := Lib.hid (Compile_any p w hT (by omega))
    have HS := Lib.hid (fun W => rSplit_any p W (by omega))
    have hcw := compV_ways p (by omega)
    have hNone : matV none ⟨#[]⟩ = (false, 6) := rfl
    have HM0 := Lib.hid (fun W (h : Below w.heap.size w W) => PMatch_any (.pointer none) none ⟨#[]⟩ W (.inl ⟨rfl, rfl⟩) (hT.below h) (by decide))
    rw [hNone] at HM0
    have HF0 := Lib.hid (fun W => Front_any (.pointer none) [] W (.inl ⟨rfl, rfl⟩))
    have HL0 := Lib.hid (fun W => Least_any (.pointer none) [] W (.inl ⟨rfl, rfl⟩))
    rw [front_nil] at HF0
    rw [least_nil] at HL0
    have hdec : (∃ P, decS (bytesU p) = some P ∧ compV p = (some P, 0)) ∨ (decS (bytesU p) = none ∧ compV p = (none, 3)) := by
      rcases hcw with h | h
      · exact .inl h
      · right
        refine ⟨?_, h⟩
        unfold compV at h
        rw [if_neg (by omega)] at h
        cases hP : decS (bytesU p) with
        | none => rfl
        | some P => rw [hP] at h; simp at h
    have HPS : Hid (p.size ≤ 1000) := by show p.size ≤ 1000; omega
    clear hcw h1 hT hNone
    have main : ∀ (P : List Nat) (e0 : Int) (ok : Bool) (o : Option (List Nat)), o.getD [] = P → ((e0 == 0) == ok) = true → (∀ v ∈ P, okP v = true) → P.length ≤ 1000 → compV p = (o, e0) →
        (∀ e w1 w', RetRS w1 (decS (bytesU p)) e w' → Below w1.heap.size w1 w' ∧ ∃ a cap, e = .returned (.tuple #[.slice a P.length cap, .bool ok]) ∧ Rs .i64 w'.heap.size w' a (ptsI P)) →
        Calls Tryd.prog 4 #[.string p] w fun e w' => e = .returned (.bool true) ∧ Below w.heap.size w w' := by
      intro P e0 ok o ho hok hP hPl hc hRS
      have HRS := Lib.hid hRS
      have HPk := Lib.hid hP
      have HO := Lib.hid ho
      have hk := hok
      rw [hc] at HC
      obtain ⟨f, hf⟩ : ∃ f, strP (frontP P) = f := ⟨_, rfl⟩
      obtain ⟨l, hl⟩ : ∃ l, leastP P = l := ⟨_, rfl⟩
      have hll : l ≤ 1000 := by rw [← hl]; exact Nat.le_trans (least_le P) hPl
      have HFa := Lib.hid (fun W v (h : PatP W v P) => Front_any v P W h)
      have HLa := Lib.hid (fun W v (h : PatP W v P) => Least_any v P W h)
      have HRa := Lib.hid (fun W a cap (h : Rs .i64 W.heap.size W a (ptsI P)) => rFront_any P hP a P.length cap W h rfl (by omega))
      rw [hf] at HFa
      rw [hl] at HLa
      rw [hf, hl] at HRa
      obtain ⟨n, hn⟩ : ∃ n, P.length = n := ⟨_, rfl⟩
      rw [hn] at HRa HRS
      clear hP ho hc hRS hf hl hn hPl hok
      go_enter Tryd.func4, Tryd.ntmps4
      go_wp2_with fail
      refine HC.out.mono ?_
      rintro e w1 ⟨b1, v, rfl, hv⟩
      dsimp only at hv ⊢
      have hv1 := hv.points
      rw [HO.out] at hv1
      have HV1 := Lib.hid hv1
      clear hv hv1 HC HO
      go_wp2_with fail
      refine (HS.out w1).mono ?_
      intro e w2 hr
      obtain ⟨b2, a, cap, rfl, hR⟩ := HRS.out _ _ _ hr
      have HR := Lib.hid hR
      have HV2 := Lib.hid (HV1.out.below b2)
      have c2 := b1.trans (b2.mono b1.size)
      clear hr hR HRS HS b1 b2 HV1
      go_wp2_with fail
      refine (HRa.out w2 a cap HR.out).mono ?_
      rintro e w3 ⟨rfl, b3⟩
      have HV3 := Lib.hid (HV2.out.below b3)
      have c3 := c2.trans (b3.mono c2.size)
      clear HRa HR HV2 b3 c2
      go_wp2_with fail
      have hz := PatP.zero w3 38
      have hz1 : (w3.alloc (.cells #[.slice none 0 0, .bool false] 38)).cell? ⟨w3.heap.size, 1, none⟩ = some (.bool false) := by rw [World.cell?_alloc_new]; rfl
      have bz := boxB w3 (.cells #[.slice none 0 0, .bool false] 38)
      have cz := c3.trans (bz.mono c3.size)
      have HVz := Lib.hid (HV3.out.below bz)
      have hszz : w3.heap.size < (w3.alloc (.cells #[.slice none 0 0, .bool false] 38)).heap.size := by simp
      refine (HM0.out _ cz).mono ?_
      rintro e w4 ⟨rfl, b4⟩
      have HV4 := Lib.hid (HVz.out.below b4)
      have HZ4 := Lib.hid (hz.below b4)
      have hz4 := (b4.cell (p := ⟨w3.heap.size, 1, none⟩) hszz).trans hz1
      have hsz4 : w3.heap.size < w4.heap.size := by have := b4.size; omega
      have c4 := cz.trans (b4.mono cz.size)
      obtain ⟨Z, hZ⟩ : ∃ Z, Z = w3.heap.size := ⟨_, rfl⟩
      rw [← hZ] at hz4 hsz4 HZ4 ⊢
      clear hz hz1 bz cz b4 HVz HV3 c3 hszz HM0 hZ
      go_wp2_with fail
      refine (PMatch_zero Z ⟨#[]⟩ w4 hz4).mono ?_
      rintro e w5 ⟨rfl, b5⟩
      have HV5 := Lib.hid (HV4.out.below b5)
      have HZ5 := Lib.hid (HZ4.out.below b5)
      have c5 := c4.trans (b5.mono c4.size)
      clear HV4 HZ4 c4 b5 hz4 hsz4
      go_wp2_with fail
      refine (HA.out _ c5).mono ?_
      rintro e w6 ⟨rfl, b6⟩
      have HV6 := Lib.hid (HV5.out.below b6)
      have HZ6 := Lib.hid (HZ5.out.below b6)
      have c6 := c5.trans (b6.mono c5.size)
      clear HV5 HZ5 c5 b6
      go_wp2_with fail
      refine (HFa.out _ v HV6.out).mono ?_
      rintro e w7 ⟨rfl, b7⟩
      have HV7 := Lib.hid (HV6.out.below b7)
      have HZ7 := Lib.hid (HZ6.out.below b7)
      have c7 := c6.trans (b7.mono c6.size)
      clear HV6 HZ6 c6 b7 HFa
      go_wp2_with fail
      refine (HLa.out _ v HV7.out).mono ?_
      rintro e w8 ⟨rfl, b8⟩
      have HZ8 := Lib.hid (HZ7.out.below b8)
      have c8 := c7.trans (b8.mono c7.size)
      clear HV7 HZ7 c7 b8 HLa
      go_wp2_with fail
      refine (HF0.out _).mono ?_
      rintro e w9 ⟨rfl, b9⟩
      have HZ9 := Lib.hid (HZ8.out.below b9)
      have c9 := c8.trans (b9.mono c8.size)
      clear HZ8 c8 b9
      have hfz := Front_any (.pointer (some ⟨Z, 0, none⟩)) [] w9 HZ9.out
      rw [front_nil] at hfz
      have HFz := Lib.hid hfz
      clear hfz
      go_wp2_with fail
      refine HFz.out.mono ?_
      rintro e w10 ⟨rfl, b10⟩
      have c10 := c9.trans (b10.mono c9.size)
      clear HZ9 c9 b10 HFz
      go_wp2_with fail
      refine (HL0.out _).mono ?_
      rintro e w11 ⟨rfl, b11⟩
      have c11 := c10.trans (b11.mono c10.size)
      go_wp2
      · go_ret
        exact ⟨rfl, c11⟩
      · rename_i hne
        exact absurd (by rw [ByteArray.toList_eq]; rfl) hne
    rcases hdec with ⟨P, hP, hc⟩ | ⟨hP, hc⟩
    · have hd := decS_ok hP
      refine main P 0 true (some P) rfl rfl hd.1 (by have := HPS.out; omega) hc ?_
      rintro e w1 w' ⟨hb, ⟨h, _⟩ | ⟨q, a, cap, h, he, hcap, hR⟩⟩
      · rw [hP] at h; cases h
      · rw [hP] at h
        obtain rfl := Option.some.inj h
        exact ⟨hb, a, cap, he, hR⟩
    · refine main [] 3 false none rfl rfl (by simp) (by simp) hc ?_
      rintro e w1 w' ⟨hb, ⟨_, he⟩ | ⟨q, a, cap, h, he, hcap, hR⟩⟩
      · exact ⟨hb, none, 0, he, .inl rfl⟩
      · rw [hP] at h; cases h
end Go.Proofs.YtfbknfdbfnklmabDoor
