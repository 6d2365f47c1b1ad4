/- The walk of the law VarintInts. -/
import Derived.Test.YteepnbdkpelbiaaVLaws
import Derived.Deep.RegionWith
import Derived.BigQuiet
import Derived.Test.YteepnbdkpelbiaaOrd
namespace Go.Proofs.Yteepnbdkpelbiaa
open Go.RowKit

set_option maxHeartbeats 2000000 in
theorem ints_any (i : Int) (v : Nat) (l : List Nat) (a : Option Addr) (len cap : Nat) (at_ : Int) (w : World) (h1 : -9223372036854775808 ≤ i) (h2 : i ≤ 9223372036854775807) (hv : v < 18446744073709551616)
    (hB : Bs w.heap.size w a l) (hlen : len = l.length) (hcap : len ≤ cap) (h3 : -9223372036854775808 ≤ at_) (h4 : at_ ≤ 9223372036854775807) :
    Calls Try.prog 3 #[.int .i64 i, .int .u64 v, .slice a len cap, .int .i64 at_] w fun e w' => e = .returned (.bool true) ∧ Below w.heap.size w w' := by
  by_cases hbig : 2000 < len
  · clear hlen
    go_enter Try.func3, Try.ntmps3
    go_wp2_with fail
    refine (alive_any _).mono ?_
    rintro e w1 ⟨rfl, hb1⟩
    go_wp2
    go_ret
    exact ⟨rfl, hb1⟩
  · have hg := getInt_any w.heap.size l a len cap at_ w hB hlen (by omega) hcap h3 h4
    have hr := rget_any w.heap.size l a len cap at_ w hB hlen (by omega) h3 h4
    have hl := getR_lt l hB.1 at_ h4
    have he := getR_err l at_
    obtain ⟨R, hR⟩ : ∃ R, getR l at_ = R := ⟨_, rfl⟩
    rw [hR] at hg hr hl he
    obtain ⟨x, n, q⟩ := R
    have hzl := zigN_lt i h1 h2
    simp only [] at hg hr hl he
    have HG := Lib.hid hg
    have HR := Lib.hid hr
    have HE := Lib.hid he
    clear hg hr hR he hlen hB
    have hqq : ((q : Int) == (q : Int)) = true := by simp
    by_cases hq : q = 0
    focus
      subst hq
      rw [if_pos rfl] at HG
      go_enter Try.func3, Try.ntmps3
      go_wp2_with fail
      refine HG.out.mono ?_
      rintro e w1 ⟨rfl, rfl⟩
      go_wp2_with fail
      refine HR.out.mono ?_
      rintro e w1 ⟨rfl, rfl⟩
      go_wp2_with fail
      refine (rzag_any x _ hl.1).mono ?_
      rintro e w1 ⟨rfl, rfl⟩
      go_wp2_with fail
    rotate_left
    focus
      rw [if_neg hq] at HG
      have hq3 : ((q : Int) != 0) = true := by simp; omega
      go_enter Try.func3, Try.ntmps3
      go_wp2_with fail
      refine HG.out.mono ?_
      rintro e w1 ⟨rfl, rfl⟩
      go_wp2_with fail
      refine HR.out.mono ?_
      rintro e w1 ⟨rfl, rfl⟩
      go_wp2_with fail
      refine (rzag_any x _ hl.1).mono ?_
      rintro e w1 ⟨rfl, rfl⟩
      go_wp2_with fail
    all_goals
      refine wp_region_ord [(0, false), (1, true), (2, true), (4, true), (3, false), (5, false), (6, true), (7, true), (8, true), (9, true), (11, true), (10, false), (12, false), (13, true), (14, true), (15, true), (16, true), (19, true), (17, false), (18, true), (20, false), (21, false), (22, true), (23, true), (24, true), (25, true), (26, true), (27, true), (28, true), (29, true), (30, true), (31, true), (32, true), (33, true), (34, true), (35, true), (36, true), (37, true), (38, true), (39, true), (40, true)] (by kernel_rfl) (by kernel_rfl) (by kernel_rfl) (by kernel_rfl) ?_
      refine wpO_C rfl (by rfl) ?_
      go_simp
      refine (alive_any _).mono ?_
      rintro e w1 ⟨rfl, hb1⟩
      refine ⟨hb1, ?_⟩
      try simp only [Act.put, List.setIfInBounds_toArray, List.set_cons_zero, List.set_cons_succ]
      repeat (refine wpO_F (v := ?_) rfl (by rfl) (fun w' hL => ?_) ?_; rotate_left; (solve | (go_simp; with_reducible rfl) | go_simp); try simp only [Act.put, List.setIfInBounds_toArray, List.set_cons_zero, List.set_cons_succ])
      refine wpO_C rfl (by rfl) ?_
      go_simp
      refine (zig_any i _ h1 h2).mono ?_
      rintro e w2 ⟨rfl, rfl⟩
      refine ⟨Later.refl _, ?_⟩
      try simp only [Act.put, List.setIfInBounds_toArray, List.set_cons_zero, List.set_cons_succ]
      repeat (refine wpO_F (v := ?_) rfl (by rfl) (fun w' hL => ?_) ?_; rotate_left; (solve | (go_simp; with_reducible rfl) | go_simp); try simp only [Act.put, List.setIfInBounds_toArray, List.set_cons_zero, List.set_cons_succ])
      refine wpO_C rfl (by rfl) ?_
      go_simp
      refine (rzig_any i _ h1 h2).mono ?_
      rintro e w2 ⟨rfl, rfl⟩
      refine ⟨Later.refl _, ?_⟩
      try simp only [Act.put, List.setIfInBounds_toArray, List.set_cons_zero, List.set_cons_succ]
      repeat (refine wpO_F (v := ?_) rfl (by rfl) (fun w' hL => ?_) ?_; rotate_left; (solve | (go_simp; with_reducible rfl) | go_simp); try simp only [Act.put, List.setIfInBounds_toArray, List.set_cons_zero, List.set_cons_succ])
      refine wpO_C rfl (by rfl) ?_
      go_simp
      refine (zag_any v _ hv).mono ?_
      rintro e w2 ⟨rfl, rfl⟩
      refine ⟨Later.refl _, ?_⟩
      try simp only [Act.put, List.setIfInBounds_toArray, List.set_cons_zero, List.set_cons_succ]
      repeat (refine wpO_F (v := ?_) rfl (by rfl) (fun w' hL => ?_) ?_; rotate_left; (solve | (go_simp; with_reducible rfl) | go_simp); try simp only [Act.put, List.setIfInBounds_toArray, List.set_cons_zero, List.set_cons_succ])
      refine wpO_C rfl (by rfl) ?_
      go_simp
      refine (rzag_any v _ hv).mono ?_
      rintro e w2 ⟨rfl, rfl⟩
      refine ⟨Later.refl _, ?_⟩
      try simp only [Act.put, List.setIfInBounds_toArray, List.set_cons_zero, List.set_cons_succ]
      repeat (refine wpO_F (v := ?_) rfl (by rfl) (fun w' hL => ?_) ?_; rotate_left; (solve | (go_simp; with_reducible rfl) | go_simp); try simp only [Act.put, List.setIfInBounds_toArray, List.set_cons_zero, List.set_cons_succ])
      refine wpO_C rfl (by rfl) ?_
      go_simp
      refine (putInt_ret i _ h1 h2).mono ?_
      rintro e w2 ⟨a2, c2, rfl, hc2, hB2, hb2⟩
      refine ⟨hb2, ?_⟩
      try simp only [Act.put, List.setIfInBounds_toArray, List.set_cons_zero, List.set_cons_succ]
      have hcv2 := hB2.strL (putL (zigN i)).length c2 rfl
      repeat (refine wpO_F (v := ?_) rfl (by rfl) (fun w' hL => ?_) ?_; rotate_left; (solve | (go_simp; with_reducible rfl) | go_simp); try simp only [Act.put, List.setIfInBounds_toArray, List.set_cons_zero, List.set_cons_succ])
      refine wpO_C rfl (by rfl) ?_
      go_simp
      refine (rzig_any i _ h1 h2).mono ?_
      rintro e w3 ⟨rfl, rfl⟩
      refine ⟨Later.refl _, ?_⟩
      try simp only [Act.put, List.setIfInBounds_toArray, List.set_cons_zero, List.set_cons_succ]
      repeat (refine wpO_F (v := ?_) rfl (by rfl) (fun w' hL => ?_) ?_; rotate_left; (solve | (go_simp; with_reducible rfl) | go_simp); try simp only [Act.put, List.setIfInBounds_toArray, List.set_cons_zero, List.set_cons_succ])
      refine wpO_C rfl (by rfl) ?_
      go_simp
      refine (rput_ret (zigN i) _ hzl).mono ?_
      rintro e w3 ⟨a3, c3, rfl, hc3, hB3, hb3⟩
      refine ⟨hb3, ?_⟩
      try simp only [Act.put, List.setIfInBounds_toArray, List.set_cons_zero, List.set_cons_succ]
      have hcv3 := hB3.strL (putL (zigN i)).length c3 rfl
      repeat (refine wpO_F (v := ?_) rfl (by rfl) (fun w' hL => ?_) ?_; rotate_left; (solve | (go_simp; with_reducible rfl) | go_simp); try simp only [Act.put, List.setIfInBounds_toArray, List.set_cons_zero, List.set_cons_succ])
      refine wpO_nil ?_
      go_wp2
      go_ret
      exact ⟨rfl, (Below.trans (Below.refl _ w).drew hb1).trans ((hb2.mono hb1.size).trans (hb3.mono (Nat.le_trans hb1.size hb2.size)))⟩
end Go.Proofs.Yteepnbdkpelbiaa
