/- Clock: Write of a state. -/
import Derived.Test.YtfldjmjnjeemeaaClk2
namespace Go.Proofs.Ytfldjmjnjeemeaa
open Go.RowKit

def st1 (u : Nat) : List Nat := [1, 0, 0, 0, 0, 0, 0, 0] ++ (whole8 u ++ List.replicate 48 0)
theorem st1_len (u : Nat) : (st1 u).length = 64 := by simp [st1, whole8_len]
theorem one64_len : one64.length = 64 := by simp [one64]
theorem splice8 (u : Nat) : ((byL one64).toList.take 8 ++ (whole8 u).map byV ++ (byL one64).toList.drop (8 + ((whole8 u).map byV).length)).toArray = byL (st1 u) := by
  have e1 : ((whole8 u).map byV).length = 8 := rfl
  rw [e1]
  unfold byL st1
  rw [List.map_append, List.map_append]
  congr 1
theorem put16 (l : Int) (n : Nat) : putB (byL (st1 (up64 l))) 16 (beL 4 n) = byL (stL l n) := by
  have e1 : (byL (st1 (up64 l))).toList.take 16 = ([1, 0, 0, 0, 0, 0, 0, 0] ++ whole8 (up64 l)).map byV := rfl
  have e2 : (byL (st1 (up64 l))).toList.drop 20 = (List.replicate 44 0).map byV := rfl
  unfold putB
  rw [beL_len, e1, e2]
  unfold byL stL
  rw [List.map_append, List.map_append, List.map_append, List.map_append, List.append_assoc]
  rfl
theorem st1_bytes (u : Nat) (i : Nat) (h : i < 64) : ∃ d : Int, (byL (st1 u))[i]? = some (.int .u8 d) :=
  ⟨_, byL_get _ _ (by rw [st1_len]; exact h)⟩
theorem blk_row {w : World} {b : Nat} {T : TypeId} {l : List Nat} (h : Blk w b T (byL l)) (j : Nat) (v : Value) (hv : (l.map byV)[j]? = some v) : w.cell? ((⟨b, 0, none⟩ : Addr).add j) = some v := by
  have e1 : (⟨b, 0, none⟩ : Addr).add j = ⟨b, j, none⟩ := by unfold Addr.add; split <;> simp_all
  rw [e1, h.cell j]
  simpa [byL] using hv

set_option maxRecDepth 100000 in
set_option maxHeartbeats 400000 in
theorem CWrite_yes (l : Int) (n : Nat) (w : World) (hn : n ≤ 4095) (hl : -9223372036854775808 ≤ l ∧ l ≤ 9223372036854775807) :
    Calls Try.prog 13 #[.agg #[.int .i64 l, .int .i64 (n : Int)]] w (RetWr l n w) := by
  have HW : Hid (wrS l n = (stL l n, 0)) := by
    show _ = _
    unfold wrS
    rw [if_neg (by omega)]
    rfl
  have HR : Hid (∀ e w', e = .returned (.tuple #[.agg (byL (stL l n)), .int .i64 0]) → Below w.heap.size w w' → RetWr l n w e w') := by
    intro e w' he hb
    refine ⟨?_, hb⟩
    rw [HW.out]; exact he
  generalize RetWr l n w = R at *
  clear HW
  have HZ := Lib.hid zero64
  have HZ8 := Lib.hid zero8
  have HBd := Lib.hid build64_1
  obtain ⟨W2, hW2⟩ : ∃ W2, W2 = (w.alloc (.cells #[.int .i64 l, .int .i64 (n : Int)] 23)).alloc (.cells (byL z64) 24) := ⟨_, rfl⟩
  have hs2 : W2.heap.size = w.heap.size + 1 + 1 := by rw [hW2]; simp
  have k0 : Blk W2 w.heap.size 23 #[.int .i64 l, .int .i64 (n : Int)] := by rw [hW2]; exact (Blk.new _ _ _).alloc _
  have k1 : Blk W2 (w.heap.size + 1) 24 (byL z64) := by
    have := Blk.new (w.alloc (.cells #[.int .i64 l, .int .i64 (n : Int)] 23)) 24 (byL z64)
    rw [hW2]; simpa using this
  have b2 : Below w.heap.size w W2 := by rw [hW2]; exact ((Below.refl _ _).alloc (Nat.le_refl _) _).alloc (by simp) _
  have HSn := Lib.hid (store64n W2 z64_len one64_len)
  rw [hW2] at HSn
  have HK0 := Lib.hid k0
  have HK1 := Lib.hid k1
  have HB2 := Lib.hid b2
  have HS2 := Lib.hid hs2
  have HW2 := Lib.hid hW2
  clear k0 k1 b2 hs2 hW2
  have q1 : decide ((n : Int) < 0) = false := by simp
  have q2 : decide ((4096 : Int) ≤ (n : Int)) = false := by simp; omega
  have q3 : decide (4096 ≤ n) = false := by simp; omega
  go_enter Try.func13, Try.ntmps13
  go_wp2_with (first | (guard_target =~ wpList _ _ _ (Oper.mk _ (Op.alloc 24) _ _ _ _ :: _) _ _; refine wpList_val rfl (exec_alloc (e := 24) rfl HZ.out) ?_) | (guard_target =~ wpList _ _ _ (Oper.mk _ (Op.build 24 _) _ _ _ _ :: _) _ _; refine wpList_val rfl (exec_build1 (t := 24) (i := 0) (x := .const (.int .u8 1)) (vx := .int .u8 1) rfl rfl (HBd.out _)) ?_) | (guard_target =~ wpList _ _ _ (Oper.mk _ (Op.store 24 _ _) _ _ _ _ :: _) _ _; refine wpList_skp rfl (exec_store rfl rfl rfl HSn.out) ?_))
  refine (Whole_any l _ hl.1 hl.2).mono ?_
  rintro e w3 ⟨rfl, hb3⟩
  rw [← HW2.out] at hb3
  clear HW2 HSn HBd HZ
  have hc2 := Blk.new W2 24 (byL one64)
  rw [HS2.out] at hc2
  have c0 := (HK0.out.alloc (.cells (byL one64) 24)).chg (Below.chg0 hb3 []) (by simp)
  have c1 := (HK1.out.alloc (.cells (byL one64) 24)).chg (Below.chg0 hb3 []) (by simp)
  have c2 := hc2.chg (Below.chg0 hb3 []) (by simp)
  have c3 : Below w.heap.size w w3 := (HB2.out.alloc (by have := HS2.out; omega) _).trans (hb3.mono (by have := HS2.out; simp; omega))
  clear hc2 hb3 HK0 HK1 HB2
  obtain ⟨u, hu⟩ : ∃ u, u = up64 l := ⟨_, rfl⟩
  have HU := Lib.hid hu
  have HS8 := Lib.hid (store8n w3 (old := z8) (l := whole8 u) rfl rfl)
  rw [← hu]
  clear hu
  obtain ⟨l0, l1, l2⟩ : w.heap.size < w3.heap.size ∧ w.heap.size + 1 < w3.heap.size ∧ w.heap.size + 1 + 1 < w3.heap.size := ⟨c0.lt, c1.lt, c2.lt⟩
  have HC0 := Lib.hid c0
  have HC1 := Lib.hid c1
  have HC2 := Lib.hid c2
  have HC3 := Lib.hid c3
  clear c0 c1 c2 c3
  rw [aggB_byL]
  go_wp2_with (first | (guard_target =~ wpList _ _ _ (Oper.mk _ (Op.alloc 73) _ _ _ _ :: _) _ _; refine wpList_val rfl (exec_alloc (e := 73) rfl HZ8.out) ?_) | (guard_target =~ wpList _ _ _ (Oper.mk _ (Op.store 73 _ _) _ _ _ _ :: _) _ _; refine wpList_skp rfl (exec_store rfl rfl rfl HS8.out) ?_))
  generalize hW4 : w3.alloc (.cells (byL (whole8 u)) 73) = W4 at *
  have d0 : Blk W4.drew w.heap.size 23 #[.int .i64 l, .int .i64 (n : Int)] := by rw [← hW4]; exact (HC0.out.alloc _).drew
  have d1 : Blk W4.drew (w.heap.size + 1) 24 (byL z64) := by rw [← hW4]; exact (HC1.out.alloc _).drew
  have d2 : Blk W4.drew (w.heap.size + 1 + 1) 24 (byL one64) := by rw [← hW4]; exact (HC2.out.alloc _).drew
  have d4 : Blk W4.drew w3.heap.size 73 (byL (whole8 u)) := by rw [← hW4]; exact (Blk.new _ _ _).drew
  have d3 : Below w.heap.size w W4.drew := by rw [← hW4]; exact (HC3.out.alloc (by omega) _).drew
  have hcp := fun ty => run_copy_row (P := Try.prog) W4.drew 30 30 ty 5 (w.heap.size + 1 + 1) 8 8 56 ⟨w3.heap.size, 0, none⟩ 8 8 (byL one64) 24 ((whole8 u).map byV) Try.underlying30 (by kernel_rfl) d2 rfl (blk_row d4) (by rw [byL_size, one64_len]; show 16 ≤ 64; omega) (by intro v hv; obtain ⟨c, _, rfl⟩ := List.mem_map.1 hv; rfl)
  rw [splice8] at hcp
  have HCp := Lib.hid hcp
  have e2 := d2.setRow (new := byL (st1 u))
  have e0 : Blk (W4.drew.setRow (w.heap.size + 1 + 1) (byL (st1 u))) w.heap.size 23 #[.int .i64 l, .int .i64 (n : Int)] := d0.chg (((Chg.refl [w.heap.size + 1 + 1] _).setRow (.inl (by simp)) _)) (by first | (simp; done) | (simp; omega))
  have e1 : Blk (W4.drew.setRow (w.heap.size + 1 + 1) (byL (st1 u))) (w.heap.size + 1) 24 (byL z64) := d1.chg (((Chg.refl [w.heap.size + 1 + 1] _).setRow (.inl (by simp)) _)) (by first | (simp; done) | (simp; omega))
  have e3 : Below w.heap.size w (W4.drew.setRow (w.heap.size + 1 + 1) (byL (st1 u))) := d3.trans (Chg.below (S := [w.heap.size + 1 + 1]) ((Chg.refl _ _).setRow (.inl (by simp)) _) (by have := d0.lt; omega) (by first | (simp; done) | (simp; omega)))
  have hC5 : Hid (Chg [w.heap.size + 1 + 1] W4.drew (W4.drew.setRow (w.heap.size + 1 + 1) (byL (st1 u)))) := (Chg.refl _ _).setRow (.inl (by simp)) _
  clear HC0 HC1 HC2 HC3 hW4 d0 d1 d2 d4 d3 hcp
  have E0 := Lib.hid e0
  have E1 := Lib.hid e1
  have E2 := Lib.hid e2
  have E3 := Lib.hid e3
  clear e0 e1 e2 e3
  refine wp_region_ordS [w.heap.size + 1 + 1] [(0, true), (1, true), (2, false)] (by kernel_rfl) (by kernel_rfl) (by kernel_rfl) (by kernel_rfl) ?_
  repeat (first | (refine wpO_F (v := ?_) rfl (by rfl) (fun w' hL => ?_) ?_; rotate_left; (solve | (go_simp; with_reducible rfl) | go_simp); try simp only [Act.put, List.setIfInBounds_toArray, List.set_cons_zero, List.set_cons_succ]) | (refine wpO_G' (Chg.refl _) rfl (by rfl) ?_; try simp only [Act.put, List.setIfInBounds_toArray, List.set_cons_zero, List.set_cons_succ]))
  refine wpO_C rfl (by rfl) ?_
  refine wp_val (exec_copy rfl rfl rfl (HCp.out _)) ?_
  refine ⟨hC5.out, ?_⟩
  try simp only [Act.put, List.setIfInBounds_toArray, List.set_cons_zero, List.set_cons_succ]
  refine wpO_nil ?_
  generalize W4.drew.setRow (w.heap.size + 1 + 1) (byL (st1 u)) = W5 at *
  clear hC5 HCp
  have hlt0 := E0.out.lt
  go_wp2_with fail
  have e0 : ∀ W, Chg [w.heap.size + 1 + 1] W5.drew W → W.cell? ⟨w.heap.size, 1, none⟩ = some (.int .i64 (n : Int)) := fun W hW => ((E0.out.drew.chg hW (by first | (simp; done) | (simp; omega))).cell 1).trans rfl
  refine wp_region_ordS [w.heap.size + 1 + 1] [(0, true), (1, true), (2, true), (3, false)] (by kernel_rfl) (by kernel_rfl) (by kernel_rfl) (by kernel_rfl) ?_
  repeat (first | (refine wpO_F (v := ?_) rfl (by rfl) (fun w' hL => ?_) ?_; rotate_left; (solve | (go_simp; with_reducible rfl) | go_simp); try simp only [Act.put, List.setIfInBounds_toArray, List.set_cons_zero, List.set_cons_succ]) | (refine wpO_G' (Chg.refl _) rfl (by rfl) ?_; try simp only [Act.put, List.setIfInBounds_toArray, List.set_cons_zero, List.set_cons_succ]))
  clear e0
  refine wpO_C rfl (by rfl) ?_
  go_simp
  refine (Put_any (w.heap.size + 1 + 1) 16 4 48 n 24 (byL (st1 u)) W5.drew E2.out.drew (by rw [byL_size, st1_len]; omega) (fun i _ hi => st1_bytes u i (by omega)) (by omega) (by omega)).mono ?_
  rintro e W6 ⟨rfl, hP, hC6⟩
  refine ⟨hC6, ?_⟩
  try simp only [Act.put, List.setIfInBounds_toArray, List.set_cons_zero, List.set_cons_succ]
  refine wpO_nil ?_
  have hput := put16 l n
  rw [← HU.out] at hput
  rw [hput] at hP
  have f1 := E1.out.drew.chg hC6 (by first | (simp; done) | (simp; omega))
  have F0 := Lib.hid (load64 hP (stL_len l n))
  have F1 := Lib.hid (store64 (l := stL l n) f1 z64_len (stL_len l n))
  have F2 := Lib.hid (load64 (f1.setRow (new := byL (stL l n))) (stL_len l n))
  have F3 : Hid (Below w.heap.size w (W6.setRow (w.heap.size + 1) (byL (stL l n)))) :=
    (E3.out.drew.trans (hC6.below (by simp; omega) (by first | (simp; done) | (simp; omega)))).trans (Chg.below (S := [w.heap.size + 1]) ((Chg.refl _ _).setRow (.inl (by simp)) _) (by have := f1.lt; omega) (by first | (simp; done) | (simp; omega)))
  clear hP hC6 f1 hput E0 E1 E2 E3 HU
  go_wp2_with (first | (guard_target =~ wpList _ _ _ (Oper.mk _ (Op.load 24 _) _ _ _ _ :: _) _ _; refine wpList_loadV rfl 24 _ rfl rfl F0.out ?_) | (guard_target =~ wpList _ _ _ (Oper.mk _ (Op.store 24 _ _) _ _ _ _ :: _) _ _; refine wpList_skp rfl (exec_store rfl rfl rfl F1.out) ?_))
  exact bodyPost_ret (v := .tuple #[.agg (byL (stL l n)), .int .i64 0]) (results_cell_tmp Try.results13 _ _ rfl rfl F2.out) rfl (HR.out _ _ rfl F3.out)

theorem CWrite_any (l r : Int) (w : World) (hl : -9223372036854775808 ≤ l ∧ l ≤ 9223372036854775807) :
    Calls Try.prog 13 #[.agg #[.int .i64 l, .int .i64 r]] w (RetWr l r w) := by
  by_cases hr : r < 0 ∨ 4095 < r
  · exact CWrite_no l r w hr
  · obtain ⟨n, rfl⟩ : ∃ n : Nat, r = n := ⟨r.toNat, by omega⟩
    exact CWrite_yes l n w (by omega) hl
end Go.Proofs.Ytfldjmjnjeemeaa
