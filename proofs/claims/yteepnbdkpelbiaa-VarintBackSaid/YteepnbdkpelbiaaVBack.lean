/- The walk of the law VarintBack. -/
import Derived.Test.YteepnbdkpelbiaaVBackM
namespace Go.Proofs.Yteepnbdkpelbiaa
open Go.RowKit

/-- A slice of uint64 that came in. -/
def Us (N : Nat) (w : World) (a : Option Addr) (l : List Nat) : Prop :=
  (∀ c ∈ l, c < 18446744073709551616) ∧ (l = [] ∨ ∃ b o, a = some ⟨b, o, none⟩ ∧ b < N ∧ ∀ (i c : Nat), l[i]? = some c → w.cell? ⟨b, o + i, none⟩ = some (.int .u64 (c : Int)))

theorem IsRow.us {w : World} {a : Option Addr} {len cap : Nat} {zs : List Int} (h : IsRow .u64 w a len cap zs) : ∃ l : List Nat, len = l.length ∧ Us w.heap.size w a l := by
  obtain ⟨_, _, l, hl, hw, hc⟩ := h.read
  refine ⟨l.map Int.toNat, by simp [hl], ⟨?_, ?_⟩⟩
  · intro c hc
    obtain ⟨n, hn, rfl⟩ := List.mem_map.1 hc
    have := bounds_u64 (hw n hn)
    omega
  · rcases hc with rfl | ⟨b, o, ha, hb, hc⟩
    · exact .inl rfl
    · refine .inr ⟨b, o, ha, hb, fun i c hi => ?_⟩
      rw [List.getElem?_map] at hi
      cases hli : l[i]? with
      | none => rw [hli] at hi; simp at hi
      | some n =>
        rw [hli] at hi
        simp at hi
        have := bounds_u64 (hw n (List.mem_of_getElem? hli))
        rw [hc i n hli]
        congr 2; omega

set_option maxRecDepth 100000 in
set_option maxHeartbeats 4000000 in
theorem back_any (ls : List Nat) (la : Option Addr) (llen lcap : Nat) (i : Int) (s : ByteArray) (l : List Nat) (a : Option Addr) (len cap : Nat) (at_ : Int) (w : World)
    (hL : Us w.heap.size w la ls) (hllen : llen = ls.length) (h1 : -9223372036854775808 ≤ i) (h2 : i ≤ 9223372036854775807) (hsm : s.size ≤ maxLen)
    (hB : Bs w.heap.size w a l) (hlen : len = l.length) (hcap : len ≤ cap) (h3 : -9223372036854775808 ≤ at_) (h4 : at_ ≤ 9223372036854775807) :
    Calls Try.prog 5 #[.slice la llen lcap, .int .i64 i, .string s, .slice a len cap, .int .i64 at_] w fun e w' => e = .returned (.bool true) ∧ Below w.heap.size w w' := by
  unfold maxLen at hsm
  by_cases hb1 : 60 < llen
  · clear hlen hllen
    go_enter Try.func5, Try.ntmps5
    go_wp2_with fail
    refine (alive_any _).mono ?_
    rintro e w1 ⟨rfl, hb1⟩
    go_wp2
    go_ret
    exact ⟨rfl, hb1⟩
  by_cases hb2 : 2000 < s.size
  · clear hlen hllen
    have q1 : decide ((60 : Int) < (llen : Int)) = false := by simp; omega
    go_enter Try.func5, Try.ntmps5
    go_wp2_with fail
    refine (alive_any _).mono ?_
    rintro e w1 ⟨rfl, hb1⟩
    go_wp2
    go_ret
    exact ⟨rfl, hb1⟩
  have q1 : decide ((60 : Int) < (llen : Int)) = false := by simp; omega
  have q2 : decide ((2000 : Int) < (s.size : Int)) = false := by simp; omega
  by_cases hb3 : 2000 < len
  · clear hlen hllen
    go_enter Try.func5, Try.ntmps5
    go_wp2_with fail
    refine (alive_any _).mono ?_
    rintro e w1 ⟨rfl, hb1⟩
    go_wp2
    go_ret
    exact ⟨rfl, hb1⟩
  have q3 : decide ((2000 : Int) < (len : Int)) = false := by simp; omega
  obtain ⟨i0, hi, hz0, hz1, hz2⟩ := info_parts Try.info5
  have HB := Lib.hid hB
  have HLen := Lib.hid hlen
  have HLL := Lib.hid hllen
  have HU := Lib.hid hL
  have HAL := Lib.hid (allL_len ls hL.1)
  clear hB hlen hllen hL
  go_enter Try.func5, Try.ntmps5
  go_wp2_with fail
  go_loopw [11, 12] (fun v j wr => ∃ k : Nat, k ≤ llen ∧ j = .int .i64 k ∧ OwnB wr w.heap.size 5 v (allL (ls.take k)) ∧ Below w.heap.size w wr) (fun _ j _ => llen - (intOf j).toNat)
  case atStart => exact ⟨0, by omega, rfl, OwnB.nil _ _ _, Below.refl _ _⟩
  case round =>
    obtain ⟨k, hk, rfl, hown, hbw⟩ := hrel
    by_cases hlt : k < llen
    · have hkl : k < ls.length := by have := HLL.out; omega
      rcases HU.out.2 with hnil | ⟨lb, lo, rfl, hlb, hlc⟩
      · rw [hnil] at hkl; simp at hkl
      · obtain ⟨c, hc⟩ : ∃ c, c = ls[k] := ⟨_, rfl⟩
        have hck := hlc k c (by rw [hc]; simp [hkl])
        have hckr : wr.cell? ⟨lb, lo + k, none⟩ = some (.int .u64 (c : Int)) := (hbw.cell (p := ⟨lb, lo + k, none⟩) hlb).trans hck
        have hc64 : c < 18446744073709551616 := HU.out.1 c (by rw [hc]; exact List.getElem_mem hkl)
        have HS : Hid (allL (ls.take (k + 1)) = allL (ls.take k) ++ putL c) := by rw [hc]; exact allL_snoc ls k hkl
        have hlen1 : (allL (ls.take k)).length < 100000 := by
          have := allL_len (ls.take k) (fun d hd => HU.out.1 d (List.mem_of_mem_take hd))
          rw [List.length_take] at this; have := HLL.out; omega
        have hp := putL_pos c
        have hp10 := putL_len10 hc64
        have hne : putL c ≠ [] := by intro h; rw [h] at hp; simp at hp
        clear hc hlc hck
        go_wp2_with fail
        refine (put_ret c _ hc64).mono ?_
        rintro e w1 ⟨a1, c1, rfl, hcap1, hB1, hbb1⟩
        have hsz := hbw.size
        have hsz1 := hbb1.size
        go_wp2_with (at_builtin; refine wpList_appB rfl _ _ 23 rfl w.heap.size 5 i0 Try.underlying23 hi hz0 hz1 hz2 _ _ w1 (hown.below (Nat.le_refl _) hbb1) rfl w1.heap.size a1 (putL c) (putL c).length c1 hB1 hne rfl rfl (by omega) (by omega) ?_; intro v' w2 hown' hb' hsz')
        go_roundw
        case rel => exact ⟨k + 1, by omega, by go_num, by rw [HS.out]; exact hown', hbw.trans ((hbb1.mono hsz).trans hb')⟩
        case measure => simp [intOf]; omega
    · have hkl : k = ls.length := by have := HLL.out; omega
      have hall : ls.take k = ls := List.take_of_length_le (by omega)
      rw [hall] at hown
      clear hkl hall
      have hz := zigN_lt i h1 h2
      have hp1 := putL_pos (zigN i)
      have hp2 := putL_len10 hz
      have hne1 : putL (zigN i) ≠ [] := by intro h; rw [h] at hp1; simp at hp1
      have hp3 := putL_pos s.size
      have hp4 := putL_len10 (show s.size < 18446744073709551616 by omega)
      have hne2 : textL s ≠ [] := by unfold textL; intro h; have := congrArg List.length h; rw [List.length_append] at this; simp only [List.length_nil] at this; omega
      have htl : (textL s).length ≤ 5000 := by simp [textL, bytesOf_len]; omega
      have hal : (allL ls).length ≤ 5000 := by have := HAL.out; have := HLL.out; omega
      have hsz := hbw.size
      go_wp2_with fail
      refine (putInt_ret i _ h1 h2).mono ?_
      rintro e w2 ⟨a2, c2, rfl, hcap2, hB2, hbb2⟩
      have hsz2 := hbb2.size
      go_wp2_with (first | (go_at_call 20; fail) | (at_builtin; refine wpList_appB rfl _ _ 23 rfl w.heap.size 5 i0 Try.underlying23 hi hz0 hz1 hz2 _ _ w2 (hown.below (Nat.le_refl _) hbb2) rfl w2.heap.size a2 (putL (zigN i)) (putL (zigN i)).length c2 hB2 hne1 rfl rfl (by omega) (by omega) ?_; intro v3 w3 hown3 hb3 hsz3))
      refine (putText_ret s _ (by omega)).mono ?_
      rintro e w4 ⟨a4, c4, rfl, hcap4, hB4, hbb4⟩
      have hsz4 := hbb4.size
      have hl3 : (allL ls ++ putL (zigN i)).length ≤ 6000 := by simp; omega
      have hbA : Below w.heap.size w w4 := ((hbw.trans (hbb2.mono hsz)).trans hb3).trans (hbb4.mono (by omega))
      clear hbw hown hbb2 hB2 hb3
      go_wp2_with (at_builtin; refine wpList_appB rfl _ _ 23 rfl w.heap.size 5 i0 Try.underlying23 hi hz0 hz1 hz2 _ _ w4 (hown3.below (Nat.le_refl _) hbb4) rfl w4.heap.size a4 (textL s) (textL s).length c4 hB4 hne2 rfl rfl (by omega) (by omega) ?_; intro v5 w5 hown5 hb5 hsz5)
      have hbB : Below w.heap.size w w5 := hbA.trans hb5
      clear hbA hb5 hown3 hB4 hbb4
      obtain ⟨ALL, hALL⟩ : ∃ ALL, ALL = allL ls ++ putL (zigN i) ++ textL s := ⟨_, rfl⟩
      rw [← hALL] at hown5
      have hAlen : ALL.length ≤ 20000 := by rw [hALL]; simp; omega
      obtain ⟨a5, c5, rfl, hcap5, hB5, _⟩ := hown5.slice
      obtain ⟨n5, hn5⟩ : ∃ n5, n5 = ALL.length := ⟨_, rfl⟩
      rw [← hn5] at hcap5 hAlen ⊢
      have HN5 := Lib.hid hn5
      have HALL := Lib.hid hALL
      have HB5 := Lib.hid hB5
      clear hn5 hALL hown5 hB5
      go_loop [13, 14] (fun x j => ∃ k : Nat, k ≤ llen ∧ j = .int .i64 k ∧ ∃ p : Nat, x = .int .i64 p ∧ Hid (p = (allL (ls.take k)).length)) (fun _ j => llen - (intOf j).toNat)
      case atStart => exact ⟨0, by omega, rfl, 0, rfl, by simp [allL, Hid]⟩
      case round =>
        obtain ⟨k, hk, rfl, p, rfl, HP⟩ := hrel
        by_cases hlt : k < llen
        · have hkl : k < ls.length := by have := HLL.out; omega
          rcases HU.out.2 with hnil | ⟨lb, lo, rfl, hlb, hlc⟩
          · rw [hnil] at hkl; simp at hkl
          · obtain ⟨c, hc⟩ : ∃ c, c = ls[k] := ⟨_, rfl⟩
            have hck := hlc k c (by rw [hc]; simp [hkl])
            have hckr : w5.cell? ⟨lb, lo + k, none⟩ = some (.int .u64 (c : Int)) := (hbB.cell (p := ⟨lb, lo + k, none⟩) hlb).trans hck
            have hc64 : c < 18446744073709551616 := HU.out.1 c (by rw [hc]; exact List.getElem_mem hkl)
            have hsnoc := allL_snoc ls k hkl
            rw [← hc] at hsnoc
            have hpc := putL_pos c
            have hple : p + (putL c).length ≤ 5000 := by
              have h1 := congrArg List.length (allL_split ls k hkl)
              rw [List.length_append, List.length_append, ← hc] at h1
              have := HP.out; omega
            have hg : Calls Try.prog 23 #[.slice a5 n5 c5, .int .i64 (p : Nat)] w5 fun e w' => e = .returned (.tuple #[.int .u64 (c : Nat), .int .i64 ((p : Int) + (putL c).length), .int .i64 0]) ∧ w5 = w' := by
              have h := get_any w5.heap.size ALL a5 n5 c5 (p : Nat) w5 HB5.out HN5.out (by omega) hcap5 (by omega) (by omega)
              have e1 : ALL = allL (ls.take k) ++ (putL c ++ (allL (ls.drop (k + 1)) ++ (putL (zigN i) ++ textL s))) := by
                rw [HALL.out, allL_split ls k hkl, ← hc]; simp
              have e2 : getR ALL (p : Nat) = (c, (p : Int) + (putL c).length, 0) := by
                rw [e1, HP.out]; exact getR_put _ _ c hc64
              rw [e2] at h
              exact h
            have HG := Lib.hid hg
            have HP2 : Hid (p + (putL c).length = (allL (ls.take (k + 1))).length) := by rw [hsnoc, List.length_append, ← HP.out]; rfl
            clear hg hsnoc hc hlc hck
            go_wp2_with fail
            refine HG.out.mono ?_
            rintro e w6 ⟨rfl, rfl⟩
            go_wp2
            go_round
            case rel => exact ⟨k + 1, by omega, by go_num, p + (putL c).length, by go_num, HP2⟩
            case measure => simp [intOf]; omega
        · have hkl : ls.take k = ls := List.take_of_length_le (by have := HLL.out; omega)
          rw [hkl] at HP
          clear hkl
          have hpl : p ≤ 5000 := by have := HP.out; omega
          obtain ⟨z, hzd⟩ : ∃ z, z = (putL (zigN i)).length := ⟨_, rfl⟩
          have hg1 : Calls Try.prog 10 #[.slice a5 n5 c5, .int .i64 (p : Nat)] w5 fun e w' => e = .returned (.tuple #[.int .i64 i, .int .i64 ((p : Int) + z), .int .i64 0]) ∧ w5 = w' := by
            have h := getInt_any w5.heap.size ALL a5 n5 c5 (p : Nat) w5 HB5.out HN5.out (by omega) hcap5 (by omega) (by omega)
            have e1 : ALL = allL ls ++ (putL (zigN i) ++ textL s) := by rw [HALL.out]; simp
            have e2 : getR ALL (p : Nat) = (zigN i, (p : Int) + z, 0) := by
              rw [e1, HP.out, hzd]; exact getR_put _ _ (zigN i) hz
            rw [e2] at h
            simp only [if_true, zag_zig] at h
            exact h
          have hg2 : Calls Try.prog 18 #[.slice a5 n5 c5, .int .i64 ((p : Int) + z)] w5 fun e w' => e = .returned (.tuple #[.string s, .int .i64 (n5 : Nat), .int .i64 0]) ∧ w5 = w' := by
            have h := getText_any w5.heap.size ALL a5 n5 c5 ((p : Int) + z) w5 HB5.out HN5.out (by omega) hcap5 (by omega) (by omega)
            have e2 : textR ALL ((p : Int) + z) = (s, ((n5 : Nat) : Int), 0) := by
              rw [HN5.out, HALL.out, HP.out, hzd, ← Int.natCast_add, ← List.length_append]
              exact textR_put _ s (by omega)
            rw [e2] at h
            exact h
          have hz20 : z ≤ 10 := by omega
          have hgb := get_any w5.heap.size l a len cap at_ w5 ((HB.out.below hbB).mono hbB.size) HLen.out (by omega) hcap h3 h4
          have hro := getR_only l HB.out.1 at_
          have hrl := getR_lt l HB.out.1 at_ h4
          obtain ⟨R, hR⟩ : ∃ R, getR l at_ = R := ⟨_, rfl⟩
          rw [hR] at hgb hro hrl
          obtain ⟨v, n, q⟩ := R
          simp only [] at hgb hrl
          have HG1 := Lib.hid hg1
          have HG2 := Lib.hid hg2
          have HGB := Lib.hid hgb
          have HRO := Lib.hid hro
          clear hg1 hg2 hzd hgb hR hro
          go_wp2_with fail
          refine HG1.out.mono ?_
          rintro e w6 ⟨rfl, rfl⟩
          go_wp2_with fail
          refine HG2.out.mono ?_
          rintro e w6 ⟨rfl, rfl⟩
          go_wp2_with fail
          refine HGB.out.mono ?_
          rintro e w6 ⟨rfl, rfl⟩
          clear HG1 HG2 HGB
          by_cases hq : q = 0
          · subst hq
            obtain ⟨hat, m, rfl, hlt2, hmlen, hput⟩ := HRO.out v n rfl
            obtain ⟨k0, rfl⟩ := Int.eq_ofNat_of_zero_le hat
            rw [Int.toNat_natCast] at hput
            obtain ⟨a9, hB9, hsl⟩ := ((HB.out.below hbB).mono hbB.size).window 23 5 Try.underlying23 Try.sizeOf5 len cap k0 m HLen.out (by omega) (by have := HLen.out; omega) hcap
            rw [← hput] at hB9
            have hcv9 := hB9.strL (m - k0) (cap - k0) (by rw [hput, List.length_take, List.length_drop]; omega)
            have hmlen' : m ≤ len := by have := HLen.out; omega
            have HPut := Lib.hid hput
            clear hput HRO hB9
            go_wp2_with fail
            refine wp_region_ord [(0, false), (1, true), (2, true), (3, true), (4, true), (5, true), (6, true), (7, true), (8, true), (9, true), (10, true), (11, true), (12, true), (13, true), (14, true), (15, true), (18, true), (19, true), (20, true), (21, true), (22, true), (16, false), (17, true), (23, true), (24, true), (25, true), (26, true), (27, true)] (by kernel_rfl) (by kernel_rfl) (by kernel_rfl) (by kernel_rfl) ?_
            refine wpO_C rfl (by rfl) ?_
            go_simp
            refine (alive_any _).mono ?_
            rintro e w7 ⟨rfl, hb7⟩
            refine ⟨hb7, ?_⟩
            try simp only [Act.put, List.setIfInBounds_toArray, List.set_cons_zero, List.set_cons_succ]
            have hcv9' := fun W (hW : Later w7 W) => hcv9 W ((Below.refl _ _).drew.trans (hb7.trans (Below.mono hW hb7.size)))
            clear hcv9
            repeat (first | (refine wpO_F (v := ?_) rfl (by rfl) (fun w' hL => ?_) ?_; rotate_left; (solve | (go_simp; with_reducible rfl) | go_simp); try simp only [Act.put, List.setIfInBounds_toArray, List.set_cons_zero, List.set_cons_succ]) | (refine wpO_G rfl (by rfl) ?_; try simp only [Act.put, List.setIfInBounds_toArray, List.set_cons_zero, List.set_cons_succ]))
            refine wpO_C rfl (by rfl) ?_
            go_simp
            refine (put_ret v _ hrl.1).mono ?_
            rintro e w8 ⟨a8, c8, rfl, hc8, hB8, hb8⟩
            refine ⟨hb8, ?_⟩
            try simp only [Act.put, List.setIfInBounds_toArray, List.set_cons_zero, List.set_cons_succ]
            have hcv8 := hB8.strL (putL v).length c8 rfl
            have hcv9 := fun W (hW : Later w8 W) => hcv9' W (hb8.trans (Below.mono hW hb8.size))
            clear hcv9'
            repeat (first | (refine wpO_F (v := ?_) rfl (by rfl) (fun w' hL => ?_) ?_; rotate_left; (solve | (go_simp; with_reducible rfl) | go_simp); try simp only [Act.put, List.setIfInBounds_toArray, List.set_cons_zero, List.set_cons_succ]) | (refine wpO_G rfl (by rfl) ?_; try simp only [Act.put, List.setIfInBounds_toArray, List.set_cons_zero, List.set_cons_succ]))
            refine wpO_nil ?_
            go_wp2
            go_ret
            exact ⟨rfl, hbB.trans ((Below.trans (Below.trans (Below.refl _ _).drew hb7) (hb8.mono hb7.size)).mono hbB.size)⟩
          · have hq3 : ((q : Int) != 0) = true := by simp; omega
            clear HRO
            go_wp2_with fail
            refine wp_region_ord [(0, false), (1, true), (2, true), (3, true), (4, true), (5, true), (6, true), (7, true), (8, true), (9, true), (10, true), (11, true), (12, true), (13, true), (14, true), (15, true), (18, true), (19, true), (20, true), (21, true), (22, true), (16, false), (17, true), (23, true), (24, true), (25, true), (26, true), (27, true)] (by kernel_rfl) (by kernel_rfl) (by kernel_rfl) (by kernel_rfl) ?_
            refine wpO_C rfl (by rfl) ?_
            go_simp
            refine (alive_any _).mono ?_
            rintro e w7 ⟨rfl, hb7⟩
            refine ⟨hb7, ?_⟩
            try simp only [Act.put, List.setIfInBounds_toArray, List.set_cons_zero, List.set_cons_succ]
            repeat (first | (refine wpO_F (v := ?_) rfl (by rfl) (fun w' hL => ?_) ?_; rotate_left; (solve | (go_simp; with_reducible rfl) | go_simp); try simp only [Act.put, List.setIfInBounds_toArray, List.set_cons_zero, List.set_cons_succ]) | (refine wpO_G rfl (by rfl) ?_; try simp only [Act.put, List.setIfInBounds_toArray, List.set_cons_zero, List.set_cons_succ]))
            refine wpO_nil ?_
            go_wp2
            go_ret
            exact ⟨rfl, hbB.trans ((Below.trans (Below.refl _ _).drew hb7).mono hbB.size)⟩
end Go.Proofs.Yteepnbdkpelbiaa
