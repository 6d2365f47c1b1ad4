/- The walk of the law VarintTexts. -/
import Derived.Test.YteepnbdkpelbiaaVText
namespace Go.Proofs.Yteepnbdkpelbiaa
open Go.RowKit

theorem putText_ret (s : ByteArray) (w : World) (hs : s.size ≤ 1000000) : Calls Try.prog 20 #[.string s] w (RetB w (textL s)) := (putText_any s w hs).mono fun _ _ h => RetB.of h
theorem rputText_ret (s : ByteArray) (w : World) (hs : s.size ≤ 1000000) : Calls Try.prog 21 #[.string s] w (RetB w (textL s)) := (rputText_any s w hs).mono fun _ _ h => RetB.of h

set_option maxHeartbeats 2000000 in
theorem texts_any (s : ByteArray) (l : List Nat) (a : Option Addr) (len cap : Nat) (at_ : Int) (w : World)
    (hB : Bs w.heap.size w a l) (hlen : len = l.length) (hcap : len ≤ cap) (h3 : -9223372036854775808 ≤ at_) (h4 : at_ ≤ 9223372036854775807) (hsm : s.size ≤ maxLen) :
    Calls Try.prog 4 #[.string s, .slice a len cap, .int .i64 at_] w fun e w' => e = .returned (.bool true) ∧ Below w.heap.size w w' := by
  unfold maxLen at hsm
  by_cases hbig : 2000 < s.size
  · clear hlen
    go_enter Try.func4, Try.ntmps4
    go_wp2_with fail
    refine (alive_any _).mono ?_
    rintro e w1 ⟨rfl, hb1⟩
    go_wp2
    go_ret
    exact ⟨rfl, hb1⟩
  · have hbig' : decide ((2000 : Int) < (s.size : Int)) = false := by simp; omega
    by_cases hbig2 : 2000 < len
    · clear hlen
      go_enter Try.func4, Try.ntmps4
      go_wp2_with fail
      refine (alive_any _).mono ?_
      rintro e w1 ⟨rfl, hb1⟩
      go_wp2
      go_ret
      exact ⟨rfl, hb1⟩
    · have hg := getText_any w.heap.size l a len cap at_ w hB hlen (by omega) hcap h3 h4
      have hr := rgetText_any w.heap.size l a len cap at_ w hB hlen (by omega) hcap h3 h4
      obtain ⟨T, hT⟩ : ∃ T, textR l at_ = T := ⟨_, rfl⟩
      rw [hT] at hg hr
      obtain ⟨x, n, q⟩ := T
      simp only [] at hg hr
      have HG := Lib.hid hg
      have HR := Lib.hid hr
      have hs : s.size ≤ 1000000 := by omega
      clear hg hr hT hlen hB
      go_enter Try.func4, Try.ntmps4
      go_wp2_with fail
      refine HG.out.mono ?_
      rintro e w1 ⟨rfl, rfl⟩
      go_wp2_with fail
      refine HR.out.mono ?_
      rintro e w1 ⟨rfl, rfl⟩
      go_wp2_with fail
      refine wp_region_ord [(0, false), (1, true), (2, true), (5, true), (3, false), (4, true), (6, false), (7, true), (8, true), (9, true), (10, true), (11, true), (12, true), (13, true), (14, true), (15, true), (16, true), (17, true), (18, true), (19, true), (20, true), (21, true), (22, true), (23, true), (24, true), (25, true)] (by kernel_rfl) (by kernel_rfl) (by kernel_rfl) (by kernel_rfl) ?_
      refine wpO_C rfl (by rfl) ?_
      go_simp
      refine (alive_any _).mono ?_
      rintro e w1 ⟨rfl, hb1⟩
      refine ⟨hb1, ?_⟩
      try simp only [Act.put, List.setIfInBounds_toArray, List.set_cons_zero, List.set_cons_succ]
      repeat (refine wpO_F (v := ?_) rfl (by rfl) (fun w' hL => ?_) ?_; rotate_left; (solve | (go_simp; with_reducible rfl) | go_simp); try simp only [Act.put, List.setIfInBounds_toArray, List.set_cons_zero, List.set_cons_succ])
      refine wpO_C rfl (by rfl) ?_
      go_simp
      refine (putText_ret s _ hs).mono ?_
      rintro e w2 ⟨a2, c2, rfl, hc2, hB2, hb2⟩
      refine ⟨hb2, ?_⟩
      try simp only [Act.put, List.setIfInBounds_toArray, List.set_cons_zero, List.set_cons_succ]
      have hcv2 := hB2.strL (textL s).length c2 rfl
      repeat (refine wpO_F (v := ?_) rfl (by rfl) (fun w' hL => ?_) ?_; rotate_left; (solve | (go_simp; with_reducible rfl) | go_simp); try simp only [Act.put, List.setIfInBounds_toArray, List.set_cons_zero, List.set_cons_succ])
      refine wpO_C rfl (by rfl) ?_
      go_simp
      refine (rputText_ret s _ hs).mono ?_
      rintro e w3 ⟨a3, c3, rfl, hc3, hB3, hb3⟩
      refine ⟨hb3, ?_⟩
      try simp only [Act.put, List.setIfInBounds_toArray, List.set_cons_zero, List.set_cons_succ]
      have hcv3 := hB3.strL (textL s).length c3 rfl
      repeat (refine wpO_F (v := ?_) rfl (by rfl) (fun w' hL => ?_) ?_; rotate_left; (solve | (go_simp; with_reducible rfl) | go_simp); try simp only [Act.put, List.setIfInBounds_toArray, List.set_cons_zero, List.set_cons_succ])
      refine wpO_nil ?_
      go_wp2
      go_ret
      exact ⟨rfl, (Below.trans (Below.refl _ w).drew hb1).trans ((hb2.mono hb1.size).trans (hb3.mono (Nat.le_trans hb1.size hb2.size)))⟩
end Go.Proofs.Yteepnbdkpelbiaa
