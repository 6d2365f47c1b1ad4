/- The walk of the reference's one. -/
import Derived.Test.YtipeinkogoghnaaRRead
namespace Go.Proofs.Ytipeinkogoghnaa
open Go.RowKit

theorem textR_of {l : List Nat} {at_ : Int} {v : Nat} {m q : Nat} (h : getR l at_ = (v, (m : Int), q)) : textR l at_ =
    if q ≠ 0 then (ByteArray.empty, 0, q) else if (l.length : Int) - m < (v : Int) then (ByteArray.empty, 0, 10) else (strN ((l.drop m).take v), (m : Int) + v, 0) := by
  unfold textR; rw [h]; simp only [Int.toNat_natCast]

set_option maxHeartbeats 4000000 in
theorem one_any (l : List Nat) (a : Option Addr) (len cap p : Nat) (w : World) (hB : Bs w.heap.size w a l) (hlen : len = l.length) (hcap : len ≤ cap) (hmax : len ≤ 1000000) (hp : p ≤ 1000000) :
    Calls Try.prog 50 #[.slice a len cap, .int .i64 p] w (RetD w (decV l p)) := by
  have HB := Lib.hid hB
  have HL := Lib.hid hlen
  by_cases hlt : len ≤ p
  · have HD : Hid (decV l p = none) := by unfold decV; rw [List.getElem?_eq_none (by omega)]; rfl
    clear hB hlen
    go_enter Try.func50, Try.ntmps50
    go_wp2
    refine bodyPost_ret (v := .tuple #[.agg #[.int .u8 0, .int .i64 0, .string ⟨#[]⟩], .int .i64 0, .bool false]) (by simp [results, Try.results50, go_sem]) rfl (RetD.no HD.out ?_ _ _ _ _)
    repeat (refine Below.setCell ?_ (by first | exact Nat.le_refl _ | (simp; done) | (simp; omega)) _)
    first | exact ((Below.refl _ _).alloc (Nat.le_refl _) _).alloc (by simp) _ | exact (Below.refl _ _).alloc (Nat.le_refl _) _ | exact (((Below.refl _ _).alloc (Nat.le_refl _) _).alloc (by simp) _).alloc (by simp; omega) _
  · have hkl : p < l.length := by omega
    obtain ⟨h256, hcell⟩ := hB
    rcases hcell with hnil | ⟨b, o, rfl, hN, hcell⟩
    · rw [hnil] at hkl; simp at hkl
    · obtain ⟨k, hk⟩ : ∃ k, l[p]? = some k := ⟨_, List.getElem?_eq_getElem hkl⟩
      have c0 := hcell p k hk
      have hk256 := h256 k (List.mem_of_getElem? hk)
      have HDA := Lib.hid (decV_at hk)
      have hlt' : ¬ len ≤ p := hlt
      clear hcell h256 hlen hk hkl
      by_cases hk3 : 3 < k
      · have HD : Hid (decV l p = none) := by rw [HDA.out, if_neg (by omega), if_neg (by omega), if_neg (by omega)]; rfl
        have e3 : decide ((3 : Int) < (k : Int)) = true := by simp; omega
        clear HDA
        go_enter Try.func50, Try.ntmps50
        go_wp2
        refine bodyPost_ret (v := .tuple #[.agg #[.int .u8 0, .int .i64 0, .string ⟨#[]⟩], .int .i64 0, .bool false]) (by simp [results, Try.results50, go_sem]) rfl (RetD.no HD.out ?_ _ _ _ _)
        repeat (refine Below.setCell ?_ (by first | exact Nat.le_refl _ | (simp; done) | (simp; omega)) _)
        first | exact ((Below.refl _ _).alloc (Nat.le_refl _) _).alloc (by simp) _ | exact (Below.refl _ _).alloc (Nat.le_refl _) _ | exact (((Below.refl _ _).alloc (Nat.le_refl _) _).alloc (by simp) _).alloc (by simp; omega) _
      · have e3 : decide ((3 : Int) < (k : Int)) = false := by simp; omega
        by_cases hk0 : k = 0
        · have HD : Hid (decV l p = some (⟨0, 0, ⟨#[]⟩⟩, p + 1)) := by rw [HDA.out, if_pos hk0]; rfl
          subst hk0
          clear HDA
          go_enter Try.func50, Try.ntmps50
          go_wp2
          refine bodyPost_ret (v := .tuple #[.agg #[.int .u8 ((0 : Nat) : Int), .int .i64 0, .string ⟨#[]⟩], .int .i64 ((p + 1 : Nat) : Int), .bool true]) (by simp [results, Try.results50, go_sem]) rfl (RetD.yes HD.out ?_)
          repeat (refine Below.setCell ?_ (by first | exact Nat.le_refl _ | (simp; done) | (simp; omega)) _)
          first | exact ((Below.refl _ _).alloc (Nat.le_refl _) _).alloc (by simp) _ | exact (Below.refl _ _).alloc (Nat.le_refl _) _ | exact (((Below.refl _ _).alloc (Nat.le_refl _) _).alloc (by simp) _).alloc (by simp; omega) _
        · have e0 : ((k : Int) == 0) = false := by simp; omega
          have HG : Hid (∀ W, Below w.heap.size w W → _) := fun W (hW : Below w.heap.size w W) => rget_any w.heap.size l (some ⟨b, o, none⟩) len cap ((p + 1 : Nat) : Int) W (HB.out.below hW) HL.out (by omega) (by omega) (by omega)
          have hrl := getR_lt l HB.out.1 ((p + 1 : Nat) : Int) (by omega)
          have hD0 := HDA.out
          rw [if_neg hk0] at hD0
          obtain ⟨R, hR⟩ : ∃ R, getR l ((p + 1 : Nat) : Int) = R := ⟨_, rfl⟩
          obtain ⟨v, n, q⟩ := R
          have HGR := Lib.hid hR
          rw [hR] at HG hrl hD0
          simp only at hrl hD0 HG
          obtain ⟨m, rfl⟩ := Int.eq_ofNat_of_zero_le hrl.2.1
          have hm : m ≤ len := by have := HL.out; omega
          have hv64 := hrl.1
          rw [Int.toNat_natCast, textR_of hR] at hD0
          clear hR hrl HDA HGR
          by_cases hq : q = 0
          · subst hq
            simp only [if_true, ne_eq, not_true_eq_false, if_false] at hD0
            by_cases hk1 : k = 1
            · rw [if_pos hk1] at hD0
              have HD := Lib.hid hD0
              clear hD0
              subst hk1
              go_enter Try.func50, Try.ntmps50
              go_wp2_with fail
              refine (HG.out _ (((Below.refl _ _).alloc (Nat.le_refl _) _).alloc (by simp) _)).mono ?_
              rintro e w1 ⟨rfl, rfl⟩
              clear HG
              go_wp2_with fail
              refine (rzag_any v _ hv64).mono ?_
              rintro e w1 ⟨rfl, rfl⟩
              go_wp2
              refine bodyPost_ret (v := .tuple #[.agg #[.int .u8 ((1 : Nat) : Int), .int .i64 (zagZ v), .string ⟨#[]⟩], .int .i64 (m : Int), .bool true]) (by simp [results, Try.results50, go_sem]) rfl (RetD.yes HD.out ?_)
              repeat (refine Below.setCell ?_ (by first | exact Nat.le_refl _ | (simp; done) | (simp; omega)) _)
              first | exact ((Below.refl _ _).alloc (Nat.le_refl _) _).alloc (by simp) _ | exact (Below.refl _ _).alloc (Nat.le_refl _) _ | exact (((Below.refl _ _).alloc (Nat.le_refl _) _).alloc (by simp) _).alloc (by simp; omega) _
            · have e1 : ((k : Int) == 1) = false := by simp; omega
              rw [if_neg hk1, if_pos (show k = 2 ∨ k = 3 by omega)] at hD0
              by_cases hlv : (len : Int) - m < v
              · have hif : (l.length : Int) - m < (v : Int) := by have := HL.out; omega
                simp only [if_pos hif, if_neg (show ¬ (10 : Nat) = 0 by omega)] at hD0
                have HD : Hid (decV l p = none) := hD0
                clear hD0 hif
                go_enter Try.func50, Try.ntmps50
                go_wp2_with fail
                refine (HG.out _ (((Below.refl _ _).alloc (Nat.le_refl _) _).alloc (by simp) _)).mono ?_
                rintro e w1 ⟨rfl, rfl⟩
                clear HG
                go_wp2
                refine bodyPost_ret (v := .tuple #[.agg #[.int .u8 (k : Int), .int .i64 0, .string ⟨#[]⟩], .int .i64 0, .bool false]) (by simp [results, Try.results50, go_sem]) rfl (RetD.no HD.out ?_ _ _ _ _)
                repeat (refine Below.setCell ?_ (by first | exact Nat.le_refl _ | (simp; done) | (simp; omega)) _)
                first | exact ((Below.refl _ _).alloc (Nat.le_refl _) _).alloc (by simp) _ | exact (Below.refl _ _).alloc (Nat.le_refl _) _ | exact (((Below.refl _ _).alloc (Nat.le_refl _) _).alloc (by simp) _).alloc (by simp; omega) _
              · have hif : ¬ (l.length : Int) - m < (v : Int) := by have := HL.out; omega
                simp only [if_neg hif, if_true] at hD0
                rw [show ((m : Int) + v).toNat = m + v by omega] at hD0
                have HD := Lib.hid hD0
                clear hif
                have hmv : m + v ≤ len := by omega
                obtain ⟨a', hB', hsl⟩ := HB.out.window 33 5 Try.underlying33 Try.sizeOf5 len cap m (m + v) HL.out (by omega) (by omega) hcap
                rw [show m + v - m = v by omega] at hsl hB'
                have hlen' : ((l.drop m).take v).length = v := by rw [List.length_take, List.length_drop]; have := HL.out; omega
                have HS := Lib.hid (fun W (hW : Below w.heap.size w W) => (hB'.below hW).str v (cap - m) hlen'.symm)
                simp only [Int.natCast_add] at hsl
                clear hD0 hlen' hB'
                go_enter Try.func50, Try.ntmps50
                go_wp2_with fail
                obtain ⟨S4, S7⟩ := slots2_here w 23 (.int .u8 0) (.int .i64 0) (.string ⟨#[]⟩) (.int .u8 k) (.int .i64 0) (.string ⟨#[]⟩)
                have hw : Below w.heap.size w ((w.alloc (.cells #[.int .u8 0, .int .i64 0, .string ⟨#[]⟩] 23)).alloc (.cells #[.int .u8 k, .int .i64 0, .string ⟨#[]⟩] 23)) := ((Below.refl _ _).alloc (Nat.le_refl _) _).alloc (by simp) _
                generalize ((w.alloc (.cells #[.int .u8 0, .int .i64 0, .string ⟨#[]⟩] 23)).alloc (.cells #[.int .u8 k, .int .i64 0, .string ⟨#[]⟩] 23)) = W0 at *
                refine (HG.out _ hw).mono ?_
                rintro e w1 ⟨rfl, rfl⟩
                have hcv := HS.out W0 hw
                obtain ⟨p0, p1, p2, p3, p4, p5⟩ := S4
                obtain ⟨r0, r1, r2, r3, r4, r5⟩ := S7
                clear HG HS
                go_wp2
                refine bodyPost_ret (v := .tuple #[.agg #[.int .u8 (k : Int), .int .i64 0, .string (strN ((l.drop m).take v))], .int .i64 ((m + v : Nat) : Int), .bool true]) (by simp [results, Try.results50, go_sem, *]) rfl (RetD.yes HD.out ?_)
                repeat (refine Below.setCell ?_ (by first | exact Nat.le_refl _ | (simp; done) | (simp; omega)) _)
                exact hw
          · simp only [if_neg hq, if_pos hq, ne_eq] at hD0
            have HD : Hid (decV l p = none) := by rw [hD0]; split <;> first | rfl | (split <;> rfl)
            have hq3 : ((q : Int) != 0) = true := by simp; omega
            clear hD0
            go_enter Try.func50, Try.ntmps50
            go_wp2_with fail
            refine (HG.out _ (((Below.refl _ _).alloc (Nat.le_refl _) _).alloc (by simp) _)).mono ?_
            rintro e w1 ⟨rfl, rfl⟩
            clear HG
            go_wp2
            refine bodyPost_ret (v := .tuple #[.agg #[.int .u8 (k : Int), .int .i64 0, .string ⟨#[]⟩], .int .i64 0, .bool false]) (by simp [results, Try.results50, go_sem]) rfl (RetD.no HD.out ?_ _ _ _ _)
            repeat (refine Below.setCell ?_ (by first | exact Nat.le_refl _ | (simp; done) | (simp; omega)) _)
            first | exact ((Below.refl _ _).alloc (Nat.le_refl _) _).alloc (by simp) _ | exact (Below.refl _ _).alloc (Nat.le_refl _) _ | exact (((Below.refl _ _).alloc (Nat.le_refl _) _).alloc (by simp) _).alloc (by simp; omega) _
end Go.Proofs.Ytipeinkogoghnaa
