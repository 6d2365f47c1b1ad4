/- The walks of Get: varint's and hindsightref01's. -/
import Derived.Test.YtipeinkogoghnaaVWalks
namespace Go.Proofs.Ytipeinkogoghnaa
open Go.RowKit

theorem Try.sizeOf5 : ∀ w, (Go.sizeOf 5).run Try.prog w = .ok 1 w := by
  obtain ⟨i0, hi, hz0, hz1, hz2⟩ := info_parts Try.info5
  intro w
  have h := run_sizeOf (P := Try.prog) w hi
  have e : Try.prog.cellsOf 5 = 1 := by kernel_rfl
  rw [e] at h; exact h

set_option maxRecDepth 100000 in
set_option maxHeartbeats 1000000 in
theorem get_any (N : Nat) (l : List Nat) (a : Option Addr) (len cap : Nat) (at_ : Int) (w : World) (hB : Bs N w a l) (hlen : len = l.length) (hmax : len ≤ 140737488355328) (hcap : len ≤ cap)
    (h1 : -9223372036854775808 ≤ at_) (h2 : at_ ≤ 9223372036854775807) :
    Calls Try.prog 48 #[.slice a len cap, .int .i64 at_] w fun e w' =>
      e = .returned (.tuple #[.int .u64 (getR l at_).1, .int .i64 (getR l at_).2.1, .int .i64 (getR l at_).2.2]) ∧ w = w' := by
  by_cases hneg : at_ < 0
  · have HR : Hid (getR l at_ = (0, 0, 1)) := by unfold getR; rw [if_pos (.inl hneg)]; rfl
    clear hlen hB
    go_enter Try.func48, Try.ntmps48
    go_wp2
    go_step3
    go_wp2
    rw [Exit.noGoto_ret]
    go_ret3
    exact ⟨by rw [HR.out]; rfl, rfl⟩
  · by_cases hgt : (len : Int) < at_
    · have HR : Hid (getR l at_ = (0, 0, 1)) := by unfold getR; rw [if_pos (.inr (by omega))]; rfl
      have hlt : decide (at_ < 0) = false := by simp; omega
      clear hlen hB h1 h2
      go_enter Try.func48, Try.ntmps48
      go_wp2
      go_step3
      go_wp2
      rw [Exit.noGoto_ret]
      go_ret3
      exact ⟨by rw [HR.out]; rfl, rfl⟩
    · obtain ⟨k0, rfl⟩ := Int.eq_ofNat_of_zero_le (show 0 ≤ at_ by omega)
      have hk0 : k0 ≤ len := by omega
      obtain ⟨a', hB', hsl⟩ := hB.from 33 5 Try.underlying33 Try.sizeOf5 len cap k0 hlen hk0 hcap
      have HR : Hid (getR l (k0 : Int) = let r := getS (l.drop k0) 0 0; if r.2.2 = 0 then (r.1, (k0 : Int) + r.2.1, 0) else (0, 0, r.2.2)) := by
        unfold getR; rw [if_neg (by omega)]; simp [Hid]
      have HL : Hid (len = l.length) := hlen
      clear hlen hB h1 h2
      have q1 : decide ((k0 : Int) < 0) = false := by simp
      have q2 : decide (len < k0) = false := by simp; omega
      obtain ⟨hlt256, hB'⟩ := hB'
      have HC : Hid (∀ c ∈ List.drop k0 l, c < 256) := hlt256
      clear hlt256
      have hdl : (l.drop k0).length = len - k0 := by rw [List.length_drop, HL.out]
      rcases hB' with hnil | ⟨b, o, rfl, hN, hcell⟩
      · have hk : k0 = len := by rw [hnil] at hdl; simp at hdl; omega
        subst hk
        have HN : Hid (l.drop k0 = []) := hnil
        clear hnil hdl HC
        go_enter Try.func48, Try.ntmps48
        go_wp2
        go_step3
        go_wp2
        go_step3
        go_wp2
        go_loop [7, 8, 23] (fun v en i => v = .int .u64 0 ∧ en = .int .i64 (-1) ∧ i = .int .i64 0) (fun _ _ i => 0)
        case atStart => exact ⟨rfl, rfl, rfl⟩
        case round =>
          obtain ⟨rfl, rfl, rfl⟩ := hrel
          go_wp2
          all_goals ((try rw [Exit.noGoto_ret]); go_ret3; exact ⟨by rw [HR.out, HN.out]; rfl, rfl⟩)
      · have HCc : Hid (∀ (i c : Nat), (List.drop k0 l)[i]? = some c → w.cell? ⟨b, o + i, none⟩ = some (Value.int IntKind.u8 (c : Int))) := hcell
        have HD : Hid ((l.drop k0).length = len - k0) := hdl
        clear hcell hdl
        go_enter Try.func48, Try.ntmps48
        go_wp2
        go_step3
        go_wp2
        go_step3
        go_wp2
        go_loop [7, 8, 23] (fun v en i => ∃ k V : Nat, en = .int .i64 (-1) ∧ k ≤ len - k0 ∧ k ≤ 9 ∧ V < 128 ^ k ∧ v = .int .u64 V ∧ i = .int .i64 k ∧ Hid (getS (l.drop k0) 0 0 = getS ((l.drop k0).drop k) k V)) (fun _ _ i => len - (intOf i).toNat)
        case atStart => exact ⟨0, 0, rfl, by omega, by omega, by simp, rfl, rfl, rfl⟩
        case round =>
          obtain ⟨k, V, rfl, hk, hk9, hV, rfl, rfl, HS⟩ := hrel
          by_cases hlt : k < len - k0
          · have hk' : k < (l.drop k0).length := by rw [HD.out]; exact hlt
            obtain ⟨c, hc⟩ : ∃ c, c = (l.drop k0)[k] := ⟨_, rfl⟩
            have hc' : (l.drop k0)[k]? = some c := by rw [hc]; simp [hk']
            have hcell := HCc.out k c hc'
            have hc256 := HC.out c (List.mem_of_getElem? hc')
            have hcE : Hid ((l.drop k0)[k] = c) := hc.symm
            clear hc hc'
            have ha := and127 c hc256
            obtain ⟨X, Y, hsh, hor, hY, hYe⟩ := shiftOr c k V hk9 hV
            have HY : Hid _ := hYe
            clear hYe
            have hk' : k < (l.drop k0).length := by rw [HD.out]; exact hlt
            have hdrop : (l.drop k0).drop k = c :: (l.drop k0).drop (k + 1) := by rw [List.drop_eq_getElem_cons hk', hcE.out]
            have hS : Hid (getS (l.drop k0) 0 0 = getS (c :: (l.drop k0).drop (k + 1)) k V) := by rw [HS.out, hdrop]; rfl
            clear hdrop HS
            have hcase : (9 ≤ k ∧ 1 < c) ∨ (1 ≤ k ∧ c < 1) ∨ (9 ≤ k ∧ 1 ≤ c ∧ c ≤ 1) ∨ (1 ≤ k ∧ k < 9 ∧ 1 ≤ c ∧ c < 128) ∨ (k < 1 ∧ c < 128) ∨ (1 ≤ k ∧ k < 9 ∧ 128 ≤ c) ∨ (k < 1 ∧ 128 ≤ c) := by omega
            rcases hcase with ⟨t1, t2⟩ | ⟨t1, t2⟩ | ⟨t1, t2, t3⟩ | ⟨t1, t2, t3, t4⟩ | ⟨t1, t2⟩ | ⟨t1, t2, t3⟩ | ⟨t1, t2⟩
            · have E : Hid (getS (l.drop k0) 0 0 = (0, 0, 3)) := by rw [hS.out, getS, if_pos (by omega)]; rfl
              go_wp2
              all_goals ((try rw [Exit.noGoto_ret]); go_ret3; exact ⟨by rw [HR.out, E.out]; rfl, rfl⟩)
            · have E : Hid (getS (l.drop k0) 0 0 = (0, 0, 3)) := by rw [hS.out, getS, if_neg (by omega), if_pos (by omega)]; rfl
              go_wp2
              all_goals ((try rw [Exit.noGoto_ret]); go_ret3; exact ⟨by rw [HR.out, E.out]; rfl, rfl⟩)
            · have E : Hid (getS (l.drop k0) 0 0 = (Y, k + 1, 0)) := by
                rw [hS.out, getS, if_neg (by omega), if_neg (by omega), if_pos (by omega), HY.out (fits7 c k V hV (by omega)), Nat.mod_eq_of_lt (by omega)]; rfl
              go_wp2
              all_goals ((try rw [Exit.noGoto_ret]); go_ret3; exact ⟨by rw [HR.out, E.out]; simp; omega, rfl⟩)
            · have E : Hid (getS (l.drop k0) 0 0 = (Y, k + 1, 0)) := by
                rw [hS.out, getS, if_neg (by omega), if_neg (by omega), if_pos (by omega), HY.out (fits7 c k V hV (by omega)), Nat.mod_eq_of_lt (by omega)]; rfl
              go_wp2
              all_goals ((try rw [Exit.noGoto_ret]); go_ret3; exact ⟨by rw [HR.out, E.out]; simp; omega, rfl⟩)
            · have E : Hid (getS (l.drop k0) 0 0 = (Y, k + 1, 0)) := by
                rw [hS.out, getS, if_neg (by omega), if_neg (by omega), if_pos (by omega), HY.out (fits7 c k V hV (by omega)), Nat.mod_eq_of_lt (by omega)]; rfl
              go_wp2
              all_goals ((try rw [Exit.noGoto_ret]); go_ret3; exact ⟨by rw [HR.out, E.out]; simp; omega, rfl⟩)
            · have E : Hid (getS (l.drop k0) 0 0 = getS ((l.drop k0).drop (k + 1)) (k + 1) Y) := by
                rw [hS.out, getS, if_neg (by omega), if_neg (by omega), if_neg (by omega), HY.out (fits7 c k V hV (by omega)), show c - 128 = c % 128 by omega]; rfl
              go_wp2
              all_goals (
                go_round
                case rel => exact ⟨k + 1, Y, rfl, by omega, by omega, by rw [HY.out (fits7 c k V hV (by omega)), Nat.add_comm]; exact grow7 c k V hV, rfl, by go_num, E⟩
                case measure => simp [intOf]; omega)
            · have E : Hid (getS (l.drop k0) 0 0 = getS ((l.drop k0).drop (k + 1)) (k + 1) Y) := by
                rw [hS.out, getS, if_neg (by omega), if_neg (by omega), if_neg (by omega), HY.out (fits7 c k V hV (by omega)), show c - 128 = c % 128 by omega]; rfl
              go_wp2
              all_goals (
                go_round
                case rel => exact ⟨k + 1, Y, rfl, by omega, by omega, by rw [HY.out (fits7 c k V hV (by omega)), Nat.add_comm]; exact grow7 c k V hV, rfl, by go_num, E⟩
                case measure => simp [intOf]; omega)
          · have E : Hid (getS (l.drop k0) 0 0 = (0, 0, 10)) := by
              rw [HS.out, List.drop_of_length_le (by rw [HD.out]; omega)]; rfl
            go_wp2
            all_goals ((try rw [Exit.noGoto_ret]); go_ret3; exact ⟨by rw [HR.out, E.out]; rfl, rfl⟩)

set_option maxRecDepth 100000 in
set_option maxHeartbeats 2000000 in
theorem rget_any (N : Nat) (l : List Nat) (a : Option Addr) (len cap : Nat) (at_ : Int) (w : World) (hB : Bs N w a l) (hlen : len = l.length) (hmax : len ≤ 140737488355328)
    (h1 : -9223372036854775808 ≤ at_) (h2 : at_ ≤ 9223372036854775807) :
    Calls Try.prog 66 #[.slice a len cap, .int .i64 at_] w fun e w' =>
      e = .returned (.tuple #[.int .u64 (getR l at_).1, .int .i64 (getR l at_).2.1, .int .i64 (getR l at_).2.2]) ∧ w = w' := by
  by_cases hneg : at_ < 0
  · have HR : Hid (getR l at_ = (0, 0, 1)) := by unfold getR; rw [if_pos (.inl hneg)]; rfl
    clear hlen hB
    go_enter Try.func66, Try.ntmps66
    go_wp2
    go_ret3
    exact ⟨by rw [HR.out]; rfl, rfl⟩
  · by_cases hgt : (len : Int) < at_
    · have HR : Hid (getR l at_ = (0, 0, 1)) := by unfold getR; rw [if_pos (.inr (by omega))]; rfl
      have hlt : decide (at_ < 0) = false := by simp; omega
      clear hlen hB h1 h2
      go_enter Try.func66, Try.ntmps66
      go_wp2
      go_ret3
      exact ⟨by rw [HR.out]; rfl, rfl⟩
    · obtain ⟨k0, rfl⟩ := Int.eq_ofNat_of_zero_le (show 0 ≤ at_ by omega)
      have hk0 : k0 ≤ len := by omega
      obtain ⟨D, hD⟩ : ∃ D, D = l.drop k0 := ⟨_, rfl⟩
      have HR : Hid (getR l (k0 : Int) = let r := getS D 0 0; if r.2.2 = 0 then (r.1, (k0 : Int) + r.2.1, 0) else (0, 0, r.2.2)) := by
        unfold getR; rw [if_neg (by omega)]; simp [Hid, hD]
      obtain ⟨hlt256, hB⟩ := hB
      have HC : Hid (∀ c ∈ D, c < 256) := by rw [hD]; intro c hc; exact hlt256 c (List.mem_of_mem_drop hc)
      have HM : Hid (D.length = len - k0) := by rw [hD, List.length_drop, ← hlen]; rfl
      have HX : Hid (D = [] ∨ ∃ b o, a = some ⟨b, o, none⟩ ∧ ∀ (i c : Nat), D[i]? = some c → w.cell? ⟨b, o + (k0 + i), none⟩ = some (.int .u8 (c : Int))) := by
        rcases hB with h | ⟨b, o, ha, _, hc⟩
        · exact .inl (by rw [hD, h]; simp)
        · exact .inr ⟨b, o, ha, fun i c hi => hc _ _ (by rw [hD, List.getElem?_drop] at hi; exact hi)⟩
      clear hlt256 hB hD hlen h1 h2
      have q1 : decide ((k0 : Int) < 0) = false := by simp
      have q2 : decide (len < k0) = false := by simp; omega
      rcases HX.out with hnil | ⟨b, o, rfl, hcell⟩
      · have hk : k0 = len := by have := HM.out; rw [hnil] at this; simp at this; omega
        subst hk
        have HN : Hid (D = []) := hnil
        clear hnil HC HX HM
        go_enter Try.func66, Try.ntmps66
        go_wp2
        go_loop [7] (fun n => n = .int .i64 0) (fun _ => 0)
        case atStart => rfl
        case round =>
          obtain rfl := hrel
          go_wp2
          all_goals (go_ret3; exact ⟨by rw [HR.out, HN.out]; rfl, rfl⟩)
      · have HCc : Hid (∀ (i c : Nat), D[i]? = some c → w.cell? ⟨b, o + (k0 + i), none⟩ = some (Value.int IntKind.u8 (c : Int))) := hcell
        clear hcell HX
        go_enter Try.func66, Try.ntmps66
        go_wp2
        go_loop [7] (fun n => ∃ k : Nat, k ≤ len - k0 ∧ k ≤ 10 ∧ n = .int .i64 k ∧ Hid (∀ i, i < k → ∀ c, D[i]? = some c → 127 < c)) (fun n => 10 - (intOf n).toNat)
        case atStart => exact ⟨0, by omega, by omega, rfl, fun i hi => by omega⟩
        case round =>
          obtain ⟨k, hk, hk10, rfl, HS⟩ := hrel
          have HS' : Hid (∀ i (h : i < k), 127 < D[i]'(by have := HM.out; omega)) := fun i hi => HS.out i hi _ (List.getElem?_eq_getElem _)
          by_cases hten : 10 ≤ k
          · have h9 : 9 < D.length := by have := HM.out; omega
            have hc9 := HCc.out 9 _ (List.getElem?_eq_getElem h9)
            have hb9 := HS.out 9 (by omega) _ (List.getElem?_eq_getElem h9)
            have E : Hid (getS D 0 0 = (0, 0, 3)) := getS_big D h9 (fun i hi => HS'.out i (by omega)) HC.out (by omega)
            obtain ⟨c, hc⟩ : ∃ c, c = D[9] := ⟨_, rfl⟩
            rw [← hc] at hc9 hb9
            clear hc
            go_wp2
            all_goals (go_ret3; exact ⟨by rw [HR.out, E.out]; rfl, rfl⟩)
          · by_cases hend : len - k0 ≤ k
            · have E : Hid (getS D 0 0 = (0, 0, 10)) := getS_short D (by rw [HM.out]; omega) (fun i hi => HS'.out i (by rw [HM.out] at hi; omega)) HC.out
              go_wp2
              all_goals (go_ret3; exact ⟨by rw [HR.out, E.out]; rfl, rfl⟩)
            · have hkD : k < D.length := by have := HM.out; omega
              have hck := HCc.out k _ (List.getElem?_eq_getElem hkD)
              have hc256 := HC.out _ (List.getElem_mem hkD)
              obtain ⟨c, hc⟩ : ∃ c, c = D[k] := ⟨_, rfl⟩
              rw [← hc] at hck hc256
              have HE : Hid (D[k] = c) := hc.symm
              clear hc
              by_cases hgo : 127 < c
              · have HS2 : Hid (∀ i, i < k + 1 → ∀ c, D[i]? = some c → 127 < c) := by
                  intro i hi d hd
                  by_cases e : i = k
                  · subst e
                    rw [List.getElem?_eq_getElem hkD, HE.out] at hd; simp at hd; omega
                  · exact HS.out i (by omega) d hd
                go_wp2
                go_round
                case rel => exact ⟨k + 1, by omega, by omega, by go_num, HS2⟩
                case measure => simp [intOf]; omega
              · have hck' := HE.out
                have hS9 : Hid (9 ≤ k → w.cell? ⟨b, o + (k0 + 9), none⟩ = some (Value.int IntKind.u8 (c : Int))) := fun h => by
                  have e : k = 9 := by omega
                  subst e; exact hck
                by_cases f1 : 9 ≤ k ∧ 1 < c
                · obtain ⟨f1, f2⟩ := f1
                  have E : Hid (getS D 0 0 = (0, 0, 3)) := by
                    have e : k = 9 := by omega
                    subst e
                    exact getS_big D hkD HS'.out HC.out (by omega)
                  have hc9 := hS9.out f1
                  clear hck'
                  go_wp2
                  all_goals (go_ret3; exact ⟨by rw [HR.out, E.out]; rfl, rfl⟩)
                · by_cases f2 : 1 ≤ k ∧ c < 1
                  · obtain ⟨f2, f3⟩ := f2
                    have E : Hid (getS D 0 0 = (0, 0, 3)) := getS_zero D k (by omega) hkD (by omega) HS'.out HC.out (by omega)
                    clear hck'
                    by_cases f4 : 9 ≤ k
                    · have hc9 := hS9.out f4
                      go_wp2
                      all_goals (go_ret3; exact ⟨by rw [HR.out, E.out]; rfl, rfl⟩)
                    · go_wp2
                      all_goals (go_ret3; exact ⟨by rw [HR.out, E.out]; rfl, rfl⟩)
                  · have E : Hid (getS D 0 0 = (horner (D.take (k + 1)), k + 1, 0)) := getS_good D k (by omega) hkD HS'.out HC.out (by omega) (by omega) (by omega)
                    have HF : Hid (horner (D.take (k + 1)) < 18446744073709551616) := horner_fits D k (by omega) hkD (by omega)
                    have HTl : Hid ((D.take (k + 1)).length = k + 1) := List.length_take_of_le (by omega)
                    have HTe : Hid (∀ j, j ≤ k → (D.take (k + 1))[j]? = D[j]?) := fun j hj => List.getElem?_take_of_lt (by omega)
                    obtain ⟨T, hT⟩ : ∃ T, T = D.take (k + 1) := ⟨_, rfl⟩
                    rw [← hT] at E HF HTl HTe
                    clear hT hck'
                    have hcases : (9 ≤ k ∧ 1 ≤ c ∧ c ≤ 1) ∨ (k < 9 ∧ 1 ≤ k ∧ 1 ≤ c) ∨ (k < 1) := by omega
                    have hc9 : 9 ≤ k → w.cell? ⟨b, o + (k0 + 9), none⟩ = some (Value.int IntKind.u8 (c : Int)) := hS9.out
                    clear f1 f2
                    rcases hcases with ⟨f1, f2, f3⟩ | ⟨f1, f2, f3⟩ | f1
                    all_goals
                      first | (have hc9' := hc9 f1; clear hc9) | clear hc9
                      go_wp2
                      go_loop [8, 9] (fun v i => ∃ j : Nat, j ≤ k + 1 ∧ i = .int .i64 ((j : Int) - 1) ∧ ∃ V : Nat, v = .int .u64 V ∧ Hid (V = horner (T.drop j))) (fun _ i => (intOf i + 1).toNat)
                      case atStart => exact ⟨k + 1, by omega, by go_num, 0, rfl, by rw [List.drop_of_length_le (by rw [HTl.out]; omega)]; rfl⟩
                      case round =>
                        obtain ⟨j, hj, hi, V, rfl, HV⟩ := hrel
                        cases j with
                        | zero =>
                          obtain rfl : _ = Value.int .i64 (-1) := hi
                          go_wp2
                          go_ret3
                          exact ⟨by rw [HR.out, E.out, HV.out]; simp; omega, rfl⟩
                        | succ j =>
                          have hi' : _ = Value.int .i64 (j : Int) := hi.trans (by go_num)
                          subst hi'
                          clear hi
                          have hjT : j < T.length := by rw [HTl.out]; omega
                          have hjD : j < D.length := by omega
                          obtain ⟨d, hd⟩ : ∃ d, d = T[j] := ⟨_, rfl⟩
                          have hd' : D[j]? = some d := by rw [← HTe.out j (by omega), List.getElem?_eq_getElem hjT, hd]
                          have hcd := HCc.out j d hd'
                          have hd256 := HC.out d (List.mem_of_getElem? hd')
                          have HV2 : Hid (d % 128 + 128 * V = horner (T.drop j)) := by rw [HV.out, horner_step T j hjT, hd]; rfl
                          have hfit : 128 * V + d % 128 < 18446744073709551616 := by
                            have h1 := horner_drop T j
                            have h2 := HV2.out
                            have h3 := HF.out
                            omega
                          clear hd hd' hjT hjD
                          go_wp2
                          go_round
                          case rel => exact ⟨j, by omega, by go_num, d % 128 + 128 * V, by go_num, HV2⟩
                          case measure => simp [intOf]
end Go.Proofs.Ytipeinkogoghnaa
