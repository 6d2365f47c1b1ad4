/- Clock: ClockBack, walked. -/
import Derived.Test.YtfldjmjnjeemeaaClk6
import Derived.Test.YtfldjmjnjeemeaaClkA
import Derived.Test.YtfldjmjnjeemeaaClkO
namespace Go.Proofs.Ytfldjmjnjeemeaa
open Go.RowKit

theorem wpList_valG {P : Program} {ops : Array Oper} {Q : Exit → Act → World → Prop} {rest : List Oper} {o : Oper} {a : Act} {w w' : World} (hw : Region.wanted o (yielded ops a.tmps) = true) {v : Value} (h : (execOp a.eval o).run P w = .ok (.value v) w')
    (hK : wpList P ops Q rest (a.put o.dst v) w') : wpList P ops Q (o :: rest) a w := by
  unfold wpList
  rw [if_pos hw]
  left
  unfold Oper.wp
  rw [h]
  exact hK
theorem wrS_len2 (l r : Int) : (wrS l r).1.length = 64 := by
  unfold wrS; split
  · exact z64_len
  · exact stL_len _ _
theorem wrS_lt2 (l r : Int) : ∀ c ∈ (wrS l r).1, c < 256 := by
  unfold wrS; split
  · exact z64_lt
  · exact stL_lt _ _
theorem rdS_bd {b : List Nat} (hl : b.length = 64) (hb : ∀ c ∈ b, c < 256) : -9223372036854775808 ≤ (rdS b).1.1 ∧ (rdS b).1.1 ≤ 9223372036854775807 := by
  have h8 : ((b.drop 8).take 8).length = 8 := by rw [List.length_take, List.length_drop, hl]; rfl
  have h8b : ∀ c ∈ (b.drop 8).take 8, c < 256 := fun c hc => hb c (List.mem_of_mem_drop (List.mem_of_mem_take hc))
  have := rdW_bd h8 h8b
  unfold rdS
  split
  · simp
  · split
    · exact this
    · simp

set_option maxRecDepth 100000 in
set_option maxHeartbeats 4000000 in
theorem clockBack_walk (last0 root0 : Int) (l1 : List Nat) (w : World) (w00 : (Lit.int .i64 last0).wf = true) (w01 : (Lit.int .i64 root0).wf = true) (n1 : l1.length = 64) (w1 : ∀ c ∈ l1, c < 256) :
    Calls Try.prog 6 #[.agg #[.int .i64 last0, .int .i64 root0], .agg (byL l1)] w fun e w' => e = .returned (.bool true) ∧ Below w.heap.size w w' := by
  have hlb := bd_i64 w00
  have HN1 := Lib.hid n1
  have HW1 := Lib.hid w1
  have HZ := Lib.hid zero64
  have HBd := Lib.hid build64
  have HRes : Hid (∃ (x y z : Int) (wb : List Nat) (we : Int), Hid (wrS x y = (wb, we)) ∧ wb.length = 64 ∧ Hid (rdS l1 = ((x, y), z)) ∧ Hid (-9223372036854775808 ≤ x ∧ x ≤ 9223372036854775807) ∧ Hid (z = 52 ∨ (z = 0 ∧ (∀ W, (Op.equalIn 10000 24 (.agg (byL l1)) (.agg (byL z64))).run Try.prog W = .ok true W)) ∨
      (z = 0 ∧ (∀ W, (Op.equalIn 10000 24 (.agg (byL l1)) (.agg (byL z64))).run Try.prog W = .ok false W) ∧ we = 0 ∧ (∀ W, (Op.equalIn 10000 24 (.agg (byL wb)) (.agg (byL l1))).run Try.prog W = .ok true W)))) := by
    obtain ⟨⟨⟨x, y⟩, z⟩, hr⟩ : ∃ r, r = rdS l1 := ⟨_, rfl⟩
    refine ⟨x, y, z, (wrS x y).1, (wrS x y).2, rfl, wrS_len2 _ _, hr.symm, by have := rdS_bd n1 w1; rw [← hr] at this; exact this, ?_⟩
    show _ ∨ _
    rcases rdS_err l1 with h | h
    · rw [← hr] at h
      simp only at h
      subst h
      right
      by_cases hz : l1 = z64
      · left
        exact ⟨rfl, fun W => (eql_byL _ _ n1 z64_len w1 z64_lt W).trans (by rw [hz]; simp)⟩
      · right
        obtain ⟨h1, h2, h3⟩ := rdS_ok hr.symm hz
        have e : wrS x y = (l1, 0) := by unfold wrS; rw [if_neg (by omega), h3]
        refine ⟨rfl, fun W => (eql_byL _ _ n1 z64_len w1 z64_lt W).trans (by rw [beq_eq_false_iff_ne.2 hz]), by rw [e], fun W => ?_⟩
        rw [e]
        exact (eql_byL _ _ n1 n1 w1 w1 W).trans (by simp)
    · left
      rw [← hr] at h
      exact h
  have HK0 := Lib.hid ((Blk.new w 23 #[.int .i64 last0, .int .i64 root0]).alloc (.cells (byL l1) 24))
  have hk1 := Blk.new (w.alloc (.cells #[.int .i64 last0, .int .i64 root0] 23)) 24 (byL l1)
  rw [show (w.alloc (.cells #[.int .i64 last0, .int .i64 root0] 23)).heap.size = w.heap.size + 1 by simp] at hk1
  have HK1 := Lib.hid hk1
  have HKB : Hid (Below w.heap.size w ((w.alloc (.cells #[.int .i64 last0, .int .i64 root0] 23)).alloc (.cells (byL l1) 24))) := ((Below.refl _ _).alloc (Nat.le_refl _) _).alloc (by simp) _
  clear hk1 n1 w1 w00 w01
  by_cases hr : 0 ≤ root0 ∧ root0 ≤ 4095
  · obtain ⟨hr0, hr1⟩ := hr
    have HWr : Hid (wrS last0 root0 = (stL last0 root0.toNat, 0)) := by show _ = _; unfold wrS; rw [if_neg (by omega)]
    have HRd : Hid (rdS (stL last0 root0.toNat) = ((last0, root0), 0)) := by
      show _ = _
      rw [rdS_stL last0 root0.toNat hlb.1 hlb.2 (by omega)]
      congr 2
      omega
    have q0 : ¬ root0 < 0 := by omega
    have q1 : root0 < 4096 := by omega
    go_enter Try.func6, Try.ntmps6
    go_wp2_with fail
    refine (CWrite_any last0 root0 _ hlb).mono ?_
    rintro e w1 ⟨rfl, hb1⟩
    rw [HWr.out]
    have HS1 := Lib.hid (store64n w1 (l := (stL last0 root0.toNat)) z64_len (stL_len _ _))
    have k0 := (Blk.alloc (HK0.out.bel2 hb1 (by first | (simp; done) | (simp; omega))) (.cells (byL (stL last0 root0.toNat)) 24))
    have k1 := (Blk.alloc (HK1.out.bel2 hb1 (by first | (simp; done) | (simp; omega))) (.cells (byL (stL last0 root0.toNat)) 24))
    have k5 := Blk.new w1 24 (byL (stL last0 root0.toNat))
    have kb := Below.alloc ((HKB.out.trans (hb1.mono (by simp; omega)))) (by have := hb1.size; simp at this; omega) (.cells (byL (stL last0 root0.toNat)) 24)
    have K0 := Lib.hid k0
    have K1 := Lib.hid k1
    have K5 := Lib.hid k5
    have KB := Lib.hid kb
    have lt0 := k0.lt
    have lt1 := k1.lt
    clear hb1 k0 k1 k5 kb HK0 HK1 HKB
    have L5 := Lib.hid (load64 K5.out (stL_len _ _))
    go_wp2_with (first | (guard_target =~ wpList _ _ _ (Oper.mk _ (Op.alloc 24) _ _ _ _ :: _) _ _; refine wpList_val rfl (exec_alloc (e := 24) rfl HZ.out) ?_) | (guard_target =~ wpList _ _ _ (Oper.mk _ (Op.store 24 _ _) _ _ _ _ :: _) _ _; refine wpList_skp rfl (exec_store rfl rfl rfl HS1.out) ?_) | (guard_target =~ wpList _ _ _ (Oper.mk _ (Op.load 24 _) _ _ _ _ :: _) _ _; refine wpList_loadV rfl 24 _ rfl rfl L5.out ?_))
    refine (CRead_any (stL last0 root0.toNat) _ (stL_len _ _) (stL_lt _ _)).mono ?_
    rintro e w2 ⟨he, hb2⟩
    rw [HRd.out] at he
    subst he
    generalize hV1 : w1.alloc (.cells (byL (stL last0 root0.toNat)) 24) = V1 at *
    have c00 : w2.cell? ⟨w.heap.size, 0, none⟩ = some (.int .i64 last0) := (K0.out.bel2 hb2 K0.out.lt).cell 0
    have c01 : w2.cell? ⟨w.heap.size, 1, none⟩ = some (.int .i64 root0) := (K0.out.bel2 hb2 K0.out.lt).cell 1
    have hz2 : w.heap.size < w2.heap.size := (K0.out.bel2 hb2 K0.out.lt).lt
    have hz2b : w.heap.size + 1 < w2.heap.size := (K1.out.bel2 hb2 K1.out.lt).lt
    have L1 := Lib.hid (load64 ((K1.out.bel2 hb2 K1.out.lt).alloc (.cells #[.int .i64 last0, .int .i64 root0] 23)) HN1.out)
    have k0 := (K0.out.bel2 hb2 K0.out.lt).alloc (.cells #[.int .i64 last0, .int .i64 root0] 23)
    have k1 := (K1.out.bel2 hb2 K1.out.lt).alloc (.cells #[.int .i64 last0, .int .i64 root0] 23)
    have kb := Below.alloc (KB.out.trans (hb2.mono KB.out.size)) (by have := KB.out.size; have := hb2.size; omega) (.cells #[.int .i64 last0, .int .i64 root0] 23)
    replace K0 := Lib.hid k0
    replace K1 := Lib.hid k1
    replace KB := Lib.hid kb
    clear k0 k1 kb hb2 hV1 L5 K5 HS1 lt0 lt1
    go_wp2_with (first | (guard_target =~ wpList _ _ _ (Oper.mk _ (Op.load 24 _) _ _ _ _ :: _) _ _; refine wpList_loadV rfl 24 _ rfl rfl L1.out ?_))
    clear c00 c01
    refine (CRead_any l1 _ HN1.out HW1.out).mono ?_
    rintro e w3 ⟨he, hb3⟩
    generalize hV2 : w2.alloc (.cells #[.int .i64 last0, .int .i64 root0] 23) = V2 at *
    clear L1
    have k0 := K0.out.bel2 hb3 K0.out.lt
    have k1 := K1.out.bel2 hb3 K1.out.lt
    have kb := KB.out.trans (hb3.mono KB.out.size)
    replace K0 := Lib.hid k0
    replace K1 := Lib.hid k1
    replace KB := Lib.hid kb
    have hz3 : w.heap.size + 1 < w3.heap.size := k1.lt
    clear k0 k1 kb hb3 hV2
    obtain ⟨x, y, z, wb, we, HW4, hwb, HRd3, hxb, hcases⟩ := HRes.out
    rw [HRd3.out] at he
    subst he
    go_wp2_with fail
    refine (CWrite_any x y _ hxb.out).mono ?_
    rintro e w4 ⟨rfl, hb4⟩
    rw [HW4.out]
    have k0 := (K0.out.alloc (.cells #[.int .i64 x, .int .i64 y] 23)).bel2 hb4 (by simp; omega)
    have k1 := (K1.out.alloc (.cells #[.int .i64 x, .int .i64 y] 23)).bel2 hb4 (by simp; omega)
    have kb := (KB.out.alloc (by omega) (.cells #[.int .i64 x, .int .i64 y] 23)).trans (hb4.mono (by simp; omega))
    have HS4 := Lib.hid (store64n w4 (l := wb) z64_len hwb)
    replace K0 := Lib.hid (k0.alloc (.cells (byL wb) 24))
    replace K1 := Lib.hid (k1.alloc (.cells (byL wb) 24))
    replace KB := Lib.hid (kb.alloc (by have := k1.lt; omega) (.cells (byL wb) 24))
    have K11 := Lib.hid (Blk.new w4 24 (byL wb))
    clear k0 k1 kb hb4
    go_wp2_with (first | (guard_target =~ wpList _ _ _ (Oper.mk _ (Op.alloc 24) _ _ _ _ :: _) _ _; refine wpList_val rfl (exec_alloc (e := 24) rfl HZ.out) ?_) | (guard_target =~ wpList _ _ _ (Oper.mk _ (Op.store 24 _ _) _ _ _ _ :: _) _ _; refine wpList_skp rfl (exec_store rfl rfl rfl HS4.out) ?_))
    refine (alive13 _).mono ?_
    rintro e w5 ⟨rfl, hb5⟩
    have k0 := K0.out.bel2 hb5 K0.out.lt
    have c01 : w5.cell? ⟨w.heap.size, 1, none⟩ = some (.int .i64 root0) := k0.cell 1
    have k1 := K1.out.bel2 hb5 K1.out.lt
    have k11 := K11.out.bel2 hb5 K11.out.lt
    have HL1 := Lib.hid (load64 k1 HN1.out)
    have HL11 := Lib.hid (load64 k11 hwb)
    have kb := Lib.hid (KB.out.trans (hb5.mono KB.out.size))
    clear hb5 k0 k1 k11 K0 K1 K11 KB HS4 hwb
    rcases hcases.out with h | ⟨h, h1⟩ | ⟨h, h1, h2, h3⟩
    · subst h
      go_wp2
      go_ret
      exact ⟨rfl, kb.out⟩
    · subst h
      clear hcases
      go_wp2_with (first | (guard_target =~ wpList _ _ _ (Oper.mk _ (Op.load 24 _) _ _ _ _ :: _) _ _; first | refine wpList_loadG (by rfl) 24 _ rfl rfl HL1.out ?_) | (guard_target =~ wpList _ _ _ (Oper.mk _ (Op.build 24 _) _ _ _ _ :: _) _ _; refine wpList_valG (by rfl) (exec_build0 rfl (HBd.out _)) ?_))
      go_ret
      exact ⟨rfl, kb.out⟩
    · subst h h2
      clear hcases
      go_wp2_with (first | (guard_target =~ wpList _ _ _ (Oper.mk _ (Op.load 24 _) _ _ _ _ :: _) _ _; first | refine wpList_loadG (by rfl) 24 _ rfl rfl HL11.out ?_ | refine wpList_loadG (by rfl) 24 _ rfl rfl HL1.out ?_) | (guard_target =~ wpList _ _ _ (Oper.mk _ (Op.build 24 _) _ _ _ _ :: _) _ _; refine wpList_valG (by rfl) (exec_build0 rfl (HBd.out _)) ?_))
      go_ret
      exact ⟨rfl, kb.out⟩
  · have HWr : Hid (wrS last0 root0 = (z64, 3)) := by show _ = _; unfold wrS; rw [if_pos (by omega)]
    have hr2 : (root0 < 0 ∧ Hid True) ∨ (0 ≤ root0 ∧ 4096 ≤ root0) := by
      by_cases h0 : root0 < 0
      · exact .inl ⟨h0, trivial⟩
      · exact .inr ⟨by omega, by omega⟩
    clear hr
    have q2 : 0 ≤ root0 → decide (root0 < 4096) = false := by intro h; rcases hr2 with ⟨q0, _⟩ | ⟨q0, q1⟩ <;> simp <;> omega
    rcases hr2 with ⟨q0, _⟩ | ⟨q0, q1⟩
    all_goals
      first | (have q3 := q2 q0; clear q2) | clear q2
      go_enter Try.func6, Try.ntmps6
      go_wp2_with fail
      refine (CWrite_any last0 root0 _ hlb).mono ?_
      rintro e w1 ⟨rfl, hb1⟩
      rw [HWr.out]
      have HS1 := Lib.hid (store64n w1 (l := z64) z64_len z64_len)
      have k0 := (Blk.alloc (HK0.out.bel2 hb1 (by first | (simp; done) | (simp; omega))) (.cells (byL z64) 24))
      have k1 := (Blk.alloc (HK1.out.bel2 hb1 (by first | (simp; done) | (simp; omega))) (.cells (byL z64) 24))
      have k5 := Blk.new w1 24 (byL z64)
      have kb := Below.alloc ((HKB.out.trans (hb1.mono (by simp; omega)))) (by have := hb1.size; simp at this; omega) (.cells (byL z64) 24)
      have K0 := Lib.hid k0
      have K1 := Lib.hid k1
      have K5 := Lib.hid k5
      have KB := Lib.hid kb
      have lt0 := k0.lt
      have lt1 := k1.lt
      clear hb1 k0 k1 k5 kb HK0 HK1 HKB
      have L1 := Lib.hid (load64 K1.out HN1.out)
      go_wp2_with (first | (guard_target =~ wpList _ _ _ (Oper.mk _ (Op.alloc 24) _ _ _ _ :: _) _ _; refine wpList_val rfl (exec_alloc (e := 24) rfl HZ.out) ?_) | (guard_target =~ wpList _ _ _ (Oper.mk _ (Op.store 24 _ _) _ _ _ _ :: _) _ _; refine wpList_skp rfl (exec_store rfl rfl rfl HS1.out) ?_) | (guard_target =~ wpList _ _ _ (Oper.mk _ (Op.load 24 _) _ _ _ _ :: _) _ _; refine wpList_loadV rfl 24 _ rfl rfl L1.out ?_))
      refine (CRead_any l1 _ HN1.out HW1.out).mono ?_
      rintro e w3 ⟨he, hb3⟩
      generalize hV2 : w1.alloc (.cells (byL z64) 24) = V2 at *
      clear L1 K5 HS1 lt0 lt1
      have k0 := K0.out.bel2 hb3 K0.out.lt
      have k1 := K1.out.bel2 hb3 K1.out.lt
      have kb := KB.out.trans (hb3.mono KB.out.size)
      replace K0 := Lib.hid k0
      replace K1 := Lib.hid k1
      replace KB := Lib.hid kb
      have hz3 : w.heap.size + 1 < w3.heap.size := k1.lt
      clear k0 k1 kb hb3 hV2
      obtain ⟨x, y, z, wb, we, HW4, hwb, HRd3, hxb, hcases⟩ := HRes.out
      rw [HRd3.out] at he
      subst he
      go_wp2_with fail
      refine (CWrite_any x y _ hxb.out).mono ?_
      rintro e w4 ⟨rfl, hb4⟩
      rw [HW4.out]
      have k0 := (K0.out.alloc (.cells #[.int .i64 x, .int .i64 y] 23)).bel2 hb4 (by simp; omega)
      have k1 := (K1.out.alloc (.cells #[.int .i64 x, .int .i64 y] 23)).bel2 hb4 (by simp; omega)
      have kb := (KB.out.alloc (by omega) (.cells #[.int .i64 x, .int .i64 y] 23)).trans (hb4.mono (by simp; omega))
      have HS4 := Lib.hid (store64n w4 (l := wb) z64_len hwb)
      replace K0 := Lib.hid (k0.alloc (.cells (byL wb) 24))
      replace K1 := Lib.hid (k1.alloc (.cells (byL wb) 24))
      replace KB := Lib.hid (kb.alloc (by have := k1.lt; omega) (.cells (byL wb) 24))
      have K11 := Lib.hid (Blk.new w4 24 (byL wb))
      clear k0 k1 kb hb4
      go_wp2_with (first | (guard_target =~ wpList _ _ _ (Oper.mk _ (Op.alloc 24) _ _ _ _ :: _) _ _; refine wpList_val rfl (exec_alloc (e := 24) rfl HZ.out) ?_) | (guard_target =~ wpList _ _ _ (Oper.mk _ (Op.store 24 _ _) _ _ _ _ :: _) _ _; refine wpList_skp rfl (exec_store rfl rfl rfl HS4.out) ?_))
      refine (alive13 _).mono ?_
      rintro e w5 ⟨rfl, hb5⟩
      have k0 := K0.out.bel2 hb5 K0.out.lt
      have c01 : w5.cell? ⟨w.heap.size, 1, none⟩ = some (.int .i64 root0) := k0.cell 1
      have k1 := K1.out.bel2 hb5 K1.out.lt
      have k11 := K11.out.bel2 hb5 K11.out.lt
      have HL1 := Lib.hid (load64 k1 HN1.out)
      have HL11 := Lib.hid (load64 k11 hwb)
      have kb := Lib.hid (KB.out.trans (hb5.mono KB.out.size))
      clear hb5 k0 k1 k11 K0 K1 K11 KB HS4 hwb
      rcases hcases.out with h | ⟨h, h1⟩ | ⟨h, h1, h2, h3⟩
      · subst h
        go_wp2
        go_ret
        exact ⟨rfl, kb.out⟩
      · subst h
        clear hcases
        go_wp2_with (first | (guard_target =~ wpList _ _ _ (Oper.mk _ (Op.load 24 _) _ _ _ _ :: _) _ _; first | refine wpList_loadG (by rfl) 24 _ rfl rfl HL1.out ?_) | (guard_target =~ wpList _ _ _ (Oper.mk _ (Op.build 24 _) _ _ _ _ :: _) _ _; refine wpList_valG (by rfl) (exec_build0 rfl (HBd.out _)) ?_))
        go_ret
        exact ⟨rfl, kb.out⟩
      · subst h h2
        clear hcases
        go_wp2_with (first | (guard_target =~ wpList _ _ _ (Oper.mk _ (Op.load 24 _) _ _ _ _ :: _) _ _; first | refine wpList_loadG (by rfl) 24 _ rfl rfl HL11.out ?_ | refine wpList_loadG (by rfl) 24 _ rfl rfl HL1.out ?_) | (guard_target =~ wpList _ _ _ (Oper.mk _ (Op.build 24 _) _ _ _ _ :: _) _ _; refine wpList_valG (by rfl) (exec_build0 rfl (HBd.out _)) ?_))
        go_ret
        exact ⟨rfl, kb.out⟩
end Go.Proofs.Ytfldjmjnjeemeaa
