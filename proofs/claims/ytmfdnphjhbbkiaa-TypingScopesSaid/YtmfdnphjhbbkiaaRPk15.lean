/- Several texts of one proof, one behind the other. -/
import Derived.Test.YtmfdnphjhbbkiaaRPk14
import Derived.Deep.QuietTactic
import Derived.BigQuiet
set_option linter.unusedSimpArgs false
set_option linter.unusedVariables false

/- The walks of typing.mayHave, of Bind at a sum of columns, and of law 17's Plain. -/
set_option linter.unusedSimpArgs false
set_option linter.unusedVariables false
set_option maxRecDepth 100000
namespace Go.Proofs.Ytmfdnphjhbbkiaa
open Go.RowKit

set_option maxHeartbeats 1000000 in
theorem mayHave_no (a : Option Addr) (n cap : Nat) (w : World) :
    Calls Try.prog 21 #[.slice a n cap, .bool false] w fun e w' => e = .returned (.bool (decide (n = 0))) ∧ w' = w := by
  by_cases h : n = 0
  · subst h
    go_enter Try.func21, Try.ntmps21
    go_wp2
    go_ret
    exact ⟨rfl, rfl⟩
  · have q : ((n : Int) == 0) = false := by rw [beq_eq_false_iff_ne]; omega
    have q2 : (n == 0) = false := by simpa using h
    rw [decide_eq_false h]
    go_enter Try.func21, Try.ntmps21
    go_wp2
    go_ret
    exact ⟨rfl, rfl⟩

/-- The expression of a sum of columns. -/
abbrev exOf (x : Cx) : XM := ⟨.mk ⟨2, ⟨0, 0, ⟨#[]⟩⟩, x.tb, x.nm, ⟨#[]⟩⟩ [], none, 0⟩
abbrev sumX (xs : List Cx) (xa : Option Addr) (xc : Nat) : XM := ⟨.mk ⟨4, ⟨0, 0, ⟨#[]⟩⟩, ⟨#[]⟩, ⟨#[]⟩, ⟨#[43]⟩⟩ (xs.map fun x => (exOf x).t), xa, xc⟩
theorem exOf_cells (xs : List Cx) : cellsOf cellsX (xs.map exOf) = cellsOf exC xs := by
  unfold cellsOf
  rw [List.flatMap_map]
  rfl
theorem exLb_fair (kd : Int) (h : -9223372036854775808 ≤ kd ∧ kd ≤ 9223372036854775807) (tb nm op : ByteArray) (h1 : tb.size ≤ 140737488351232) (h2 : nm.size ≤ 140737488351232) (h3 : op.size ≤ 140737488351232) : Lb.fair ⟨kd, ⟨0, 0, ⟨#[]⟩⟩, tb, nm, op⟩ :=
  ⟨h, show 0 < 256 by decide, show (-9223372036854775808 : Int) ≤ 0 ∧ (0 : Int) ≤ 9223372036854775807 by decide, show (⟨#[]⟩ : ByteArray).size ≤ 140737488351232 by decide, h1, h2, h3⟩
theorem sumX_at {w : World} {xs : List Cx} {xa : Option Addr} {xc : Nat} (hx : Arr w.heap.size w xa (cellsOf exC xs)) (hc : xs.length ≤ xc) (hm : xc ≤ 9223372036854775807) (hs : ∀ x ∈ xs, x.tb.size ≤ 140737488351232 ∧ x.nm.size ≤ 140737488351232) : XAt w.heap.size w 2 (sumX xs xa xc) := by
  refine ⟨exLb_fair 4 (by decide) _ _ _ (by decide) (by decide) (by decide), by simp [Rose.args]; exact hc, hm, xs.map exOf, ?_, by rw [← exOf_cells] at hx; exact hx, ?_⟩
  · simp [Rose.args, List.map_map]
  · intro y hy
    obtain ⟨x, hx, rfl⟩ := List.mem_map.1 hy
    exact ⟨exLb_fair 2 (by decide) _ _ _ (hs x hx).1 (hs x hx).2 (by decide), Nat.le_refl _, show 0 ≤ 9223372036854775807 by decide, [], rfl, .inl rfl, fun y hy => by cases hy⟩

set_option maxRecDepth 100000 in
set_option maxHeartbeats 8000000 in
theorem BindSum_any (L : List Sx) (a : Option Addr) (cap : Nat) (w : World) (h : ScAt w a cap L) (xs : List Cx) (xa : Option Addr) (xc : Nat) (hx : Arr w.heap.size w xa (cellsOf exC xs)) (hxl : xs.length ≤ 100) (hok : ∀ x ∈ xs, CxOk L x) (hc : xs.length ≤ xc) (hm : xc ≤ 9223372036854775807) (hs : ∀ x ∈ xs, x.tb.size ≤ 140737488351232 ∧ x.nm.size ≤ 140737488351232)
    (hr : rightX 20 (sumX xs xa xc).t = true) (hp : pickX 6 false (sumX xs xa xc).t = []) (hct : (sumX xs xa xc).t.count ≤ 1000000) :
    Calls Try.prog 16 #[.agg #[.int .i64 4, .int .u8 0, .int .i64 0, .string ⟨#[]⟩, .string ⟨#[]⟩, .string ⟨#[]⟩, .string ⟨#[43]⟩, .slice xa xs.length xc], .slice a L.length cap, .bool false] w (RetSum w xs.length ((xs.map ndOf).all (fun x => okTy 1 x.t.lab.ty))) := by
  have hX := Slot8.new w 54 (.int .i64 4) (.int .u8 0) (.int .i64 0) (.string ⟨#[]⟩) (.string ⟨#[]⟩) (.string ⟨#[]⟩) (.string ⟨#[43]⟩) (.slice xa xs.length xc)
  have hRi := fun V (hb : Below w.heap.size w V) => Right_any20 2 (sumX xs xa xc) V ((sumX_at hx hc hm hs).later hb)
  have hAg := fun V (hb : Below w.heap.size w V) => aggs_any 2 (sumX xs xa xc) V ((sumX_at hx hc hm hs).later hb) hct
  rw [hr, if_pos rfl, hp] at hAg
  rw [hr] at hRi
  have hBi := fun V (hb : Below w.heap.size w V) => bindSum_any L a cap V (h.later hb) xs xa xc ((hx.below hb).mono hb.size) hxl hok
  have ev : (sumX xs xa xc).v = .agg #[.int .i64 4, .int .u8 0, .int .i64 0, .string ⟨#[]⟩, .string ⟨#[]⟩, .string ⟨#[]⟩, .string ⟨#[43]⟩, .slice xa xs.length xc] := by
    rw [XM.v_eq]; simp [Rose.lab, Rose.args]
  rw [ev] at hAg hRi
  obtain ⟨n, hn⟩ : ∃ n, xs.length = n := ⟨_, rfl⟩
  obtain ⟨nl, hnl⟩ : ∃ nl, L.length = nl := ⟨_, rfl⟩
  obtain ⟨bt, hbt⟩ : ∃ bt, (xs.map ndOf).all (fun x => okTy 1 x.t.lab.ty) = bt := ⟨_, rfl⟩
  rw [hn] at hX hRi hAg hBi ⊢
  rw [hnl] at hBi ⊢
  rw [hbt] at hBi ⊢
  have HRi := Lib.hid hRi
  have HAg := Lib.hid hAg
  have HBi := Lib.hid hBi
  obtain ⟨w0, hw0⟩ : ∃ w0, w.alloc (.cells #[.int .i64 4, .int .u8 0, .int .i64 0, .string ⟨#[]⟩, .string ⟨#[]⟩, .string ⟨#[]⟩, .string ⟨#[43]⟩, .slice xa n xc] 54) = w0 := ⟨_, rfl⟩
  rw [hw0] at hX
  have hb0 : Below w.heap.size w w0 := by rw [← hw0]; exact (Below.refl _ w).alloc (Nat.le_refl _) _
  have hs0 : w0.heap.size = w.heap.size + 1 := by rw [← hw0]; simp
  have hR : Blk (w0.alloc (.cells ndZ 57)) w0.heap.size 57 ndZ := Blk.new w0 _ _
  obtain ⟨w1, hw1⟩ : ∃ w1, w0.alloc (.cells #[.int .i64 0, .string ⟨#[]⟩, .int .u8 0, .int .i64 0, .string ⟨#[]⟩, .int .i64 0, .int .u8 0, .slice none 0 0] 57) = w1 := ⟨_, rfl⟩
  rw [hw1] at hR
  have hb1 : Below w0.heap.size w0 w1 := by rw [← hw1]; exact (Below.refl _ w0).alloc (Nat.le_refl _) _
  have hs1 : w1.heap.size = w.heap.size + 2 := by rw [← hw1]; simp [hs0]
  have hbw : Below w.heap.size w w1 := hb0.trans (hb1.mono (by omega))
  have HX := Lib.hid (hX.later (by omega) hb1)
  have HR := Lib.hid hR
  have HBw := Lib.hid hbw
  have HZ0 := Lib.hid hs0
  have HZ1 := Lib.hid hs1
  clear h hx hxl hok hc hm hs hr hp hct hX hRi hAg hBi ev hn hnl hbt hb0 hs0 hR hb1 hs1 hbw
  obtain ⟨x0, x1, x2, x3, x4, x5, x6, x7⟩ := HX.out
  go_enter Try.func16, Try.ntmps16
  go_wp2_with fail
  refine (HRi.out _ HBw.out).mono ?_
  rintro e w2 ⟨rfl, hb2⟩
  have HB2 := Lib.hid (HBw.out.trans (hb2.mono HBw.out.size))
  have HR2 : Hid (Blk w2 w0.heap.size 57 ndZ) := (hb2.block _ HR.out.lt).trans HR.out
  have HX2 := Lib.hid (HX.out.later (by have := HZ1.out; omega) hb2)
  clear hb2 x0 x1 x2 x3 x4 x5 x6 x7
  obtain ⟨x0, x1, x2, x3, x4, x5, x6, x7⟩ := HX2.out
  have hlt2 : w.heap.size < w2.heap.size := World.block_lt_of_cell? _ _ x0
  go_wp2_with fail
  refine (HAg.out _ HB2.out).mono ?_
  rintro e w3 ⟨a3, c3, L3, rfl, -, -, hL3, -, -, hb3⟩
  have h30 : L3 = [] := by simpa using hL3
  subst h30
  have HB3 := Lib.hid (HB2.out.trans (hb3.mono HB2.out.size))
  have HR3 : Hid (Blk w3 w0.heap.size 57 ndZ) := (hb3.block _ HR2.out.lt).trans HR2.out
  have HX3 := Lib.hid (HX2.out.later hlt2 hb3)
  have HM := Lib.hid (mayHave_no a3 0 c3 w3)
  clear hb3 x0 x1 x2 x3 x4 x5 x6 x7 hL3
  obtain ⟨x0, x1, x2, x3, x4, x5, x6, x7⟩ := HX3.out
  go_wp2_with fail
  refine HM.out.mono ?_
  rintro e w4 ⟨rfl, rfl⟩
  go_wp2_with fail
  refine (HBi.out _ HB3.out).mono ?_
  rintro e w5 ⟨⟨a5, c5, rfl⟩, hb5⟩
  have HB5 := Lib.hid (HB3.out.trans (hb5.mono HB3.out.size))
  have HR5 : Hid (Blk w5 w0.heap.size 57 ndZ) := (hb5.block _ HR3.out.lt).trans HR3.out
  clear hb5 x0 x1 x2 x3 x4 x5 x6 x7
  cases bt with
  | false =>
    obtain ⟨s1, s2, s3⟩ := nd_end (w := w) (W := w5) (B := w0.heap.size) 0 ⟨#[]⟩ 0 0 ⟨#[]⟩ 0 0 none 0 0 HR5.out (by have := HZ0.out; omega) HB5.out
    have S1 := Lib.hid s1
    have S2 := Lib.hid s2
    have S3 := Lib.hid s3
    clear s1 s2 s3
    go_wp2_with (first | (guard_target =~ wpList _ _ _ (Oper.mk _ (Op.store 57 _ _) _ _ _ _ :: _) _ _; refine wpList_skp rfl (exec_store rfl rfl rfl S1.out) ?_))
    exact bodyPost_ret (results_cell_tmp Try.results16 _ _ rfl rfl S2.out) rfl ⟨⟨none, 0, rfl⟩, S3.out⟩
  | true =>
    obtain ⟨s1, s2, s3⟩ := nd_end (w := w) (W := w5) (B := w0.heap.size) 4 ⟨#[43]⟩ 0 0 ⟨#[]⟩ 0 1 a5 n c5 HR5.out (by have := HZ0.out; omega) HB5.out
    have S1 := Lib.hid s1
    have S2 := Lib.hid s2
    have S3 := Lib.hid s3
    clear s1 s2 s3
    go_wp2_with (first | (guard_target =~ wpList _ _ _ (Oper.mk _ (Op.store 57 _ _) _ _ _ _ :: _) _ _; refine wpList_skp rfl (exec_store rfl rfl rfl S1.out) ?_))
    exact bodyPost_ret (results_cell_tmp Try.results16 _ _ rfl rfl S2.out) rfl ⟨⟨a5, c5, rfl⟩, S3.out⟩

/-! Plain. -/
def plainT (v : Bool) : Tb := ⟨⟨#[116]⟩, [⟨⟨#[97]⟩, 1, true⟩, ⟨⟨#[98]⟩, 2, false⟩], [0], ⟨#[]⟩, -1, -1, false, v⟩
theorem plainT_fair (v : Bool) : (plainT v).Fair := by
  refine ⟨show 2 ≤ 1000000 by decide, show 1 ≤ 1000000 by decide, show (⟨#[116]⟩ : ByteArray).size ≤ 1000000 by decide, show (⟨#[]⟩ : ByteArray).size ≤ 1000000 by decide, show (-9223372036854775808 : Int) ≤ -1 ∧ (-1 : Int) ≤ 9223372036854775807 by decide, show (-9223372036854775808 : Int) ≤ -1 ∧ (-1 : Int) ≤ 9223372036854775807 by decide, ?_, ?_⟩
  · intro c hc
    simp [plainT] at hc
    rcases hc with rfl | rfl <;> decide
  · intro k hk
    simp [plainT] at hk
    subst hk; decide
theorem info_tbS : (Try.prog.info? 44).map (·.size) = some 8 := by kernel_rfl
set_option maxHeartbeats 2000000 in
theorem plain_any (v : Bool) (w : World) : Calls Try.prog 15 #[.bool v] w fun e w' => (∃ m : TM, e = .returned (m.v (plainT v)) ∧ TAt w' (plainT v) m) ∧ Below w.heap.size w w' := by
  have hT : Blk (w.alloc (.cells #[.string ⟨#[]⟩, .slice none 0 0, .slice none 0 0, .string ⟨#[]⟩, .int .i64 0, .int .i64 0, .bool false, .bool false] 44)) w.heap.size 44 #[.string ⟨#[]⟩, .slice none 0 0, .slice none 0 0, .string ⟨#[]⟩, .int .i64 0, .int .i64 0, .bool false, .bool false] := Blk.new w _ _
  obtain ⟨w0, hw0⟩ : ∃ w0, w.alloc (.cells #[.string ⟨#[]⟩, .slice none 0 0, .slice none 0 0, .string ⟨#[]⟩, .int .i64 0, .int .i64 0, .bool false, .bool false] 44) = w0 := ⟨_, rfl⟩
  rw [hw0] at hT
  have hb0 : Below w.heap.size w w0 := by rw [← hw0]; exact (Below.refl _ w).alloc (Nat.le_refl _) _
  have hs0 : w0.heap.size = w.heap.size + 1 := by rw [← hw0]; simp
  have hA : Arr (w0.heap.size + 1) (w0.alloc (.cells (cellsO (plainT v).cols).toArray 69)) (some ⟨w0.heap.size, 0, none⟩) (cellsO (plainT v).cols) := by
    refine .inr ⟨w0.heap.size, 0, rfl, by omega, fun i u hi => ?_⟩
    rw [World.cell?_alloc_at _ _ _ _ rfl, Nat.zero_add]
    simpa using hi
  obtain ⟨w1, hw1⟩ : ∃ w1, w0.alloc (.cells #[.string ⟨#[97]⟩, .int .u8 1, .bool true, .string ⟨#[98]⟩, .int .u8 2, .bool false] 69) = w1 := ⟨_, rfl⟩
  have hA1 : Arr (w0.heap.size + 1) w1 (some ⟨w0.heap.size, 0, none⟩) (cellsO (plainT v).cols) := by rw [← hw1]; exact hA
  have hb1 : Below w0.heap.size w0 w1 := by rw [← hw1]; exact (Below.refl _ w0).alloc (Nat.le_refl _) _
  have hs1 : w1.heap.size = w0.heap.size + 1 := by rw [← hw1]; simp
  have hK : Arr (w1.heap.size + 1) (w1.alloc (.cells (cellsI (plainT v).key).toArray 3)) (some ⟨w1.heap.size, 0, none⟩) (cellsI (plainT v).key) := by
    refine .inr ⟨w1.heap.size, 0, rfl, by omega, fun i u hi => ?_⟩
    rw [World.cell?_alloc_at _ _ _ _ rfl, Nat.zero_add]
    simpa using hi
  obtain ⟨w2, hw2⟩ : ∃ w2, w1.alloc (.cells #[.int .i64 0] 3) = w2 := ⟨_, rfl⟩
  have hK2 : Arr (w1.heap.size + 1) w2 (some ⟨w1.heap.size, 0, none⟩) (cellsI (plainT v).key) := by rw [← hw2]; exact hK
  have hb2 : Below w1.heap.size w1 w2 := by rw [← hw2]; exact (Below.refl _ w1).alloc (Nat.le_refl _) _
  have hs2 : w2.heap.size = w1.heap.size + 1 := by rw [← hw2]; simp
  have hA2 := hA1.below (hb2.mono (by omega))
  have hT2 : Blk w2 w.heap.size 44 #[.string ⟨#[]⟩, .slice none 0 0, .slice none 0 0, .string ⟨#[]⟩, .int .i64 0, .int .i64 0, .bool false, .bool false] := (hb2.block _ (by omega)).trans ((hb1.block _ (by omega)).trans hT)
  have hbw : Below w.heap.size w w2 := hb0.trans ((hb1.mono (by omega)).trans (hb2.mono (by omega)))
  have hS1 : (storeVar 44 ⟨w.heap.size, 0, none⟩ (.agg #[.string ⟨#[116]⟩, .slice (some ⟨w0.heap.size, 0, none⟩) 2 2, .slice (some ⟨w1.heap.size, 0, none⟩) 1 1, .string ⟨#[]⟩, .int .i64 (-1), .int .i64 (-1), .bool false, .bool v])).run Try.prog w2 = .ok () (w2.setRow w.heap.size #[.string ⟨#[116]⟩, .slice (some ⟨w0.heap.size, 0, none⟩) 2 2, .slice (some ⟨w1.heap.size, 0, none⟩) 1 1, .string ⟨#[]⟩, .int .i64 (-1), .int .i64 (-1), .bool false, .bool v]) := run_storeVar_row _ _ _ 44 _ _ hT2 (by rw [info_tbS]; rfl) rfl (by simp [Value.oneCell'])
  have hc3 : Chg [w.heap.size] w2 (w2.setRow w.heap.size #[.string ⟨#[116]⟩, .slice (some ⟨w0.heap.size, 0, none⟩) 2 2, .slice (some ⟨w1.heap.size, 0, none⟩) 1 1, .string ⟨#[]⟩, .int .i64 (-1), .int .i64 (-1), .bool false, .bool v]) := (Chg.refl _ _).setRow (.inl (by simp)) _
  have hS2 : (loadVar 44 ⟨w.heap.size, 0, none⟩).run Try.prog (w2.setRow w.heap.size #[.string ⟨#[116]⟩, .slice (some ⟨w0.heap.size, 0, none⟩) 2 2, .slice (some ⟨w1.heap.size, 0, none⟩) 1 1, .string ⟨#[]⟩, .int .i64 (-1), .int .i64 (-1), .bool false, .bool v]) = .ok (.agg #[.string ⟨#[116]⟩, .slice (some ⟨w0.heap.size, 0, none⟩) 2 2, .slice (some ⟨w1.heap.size, 0, none⟩) 1 1, .string ⟨#[]⟩, .int .i64 (-1), .int .i64 (-1), .bool false, .bool v]) (w2.setRow w.heap.size #[.string ⟨#[116]⟩, .slice (some ⟨w0.heap.size, 0, none⟩) 2 2, .slice (some ⟨w1.heap.size, 0, none⟩) 1 1, .string ⟨#[]⟩, .int .i64 (-1), .int .i64 (-1), .bool false, .bool v]) := run_loadVar_row _ _ _ 44 _ (0, 0) _ (Blk.setRow hT2) Try.underlying44 rfl (by rw [info_tbS]; rfl)
  have hBf := hbw.trans (hc3.below hbw.size (by simp))
  have hTa : TAt (w2.setRow w.heap.size #[.string ⟨#[116]⟩, .slice (some ⟨w0.heap.size, 0, none⟩) 2 2, .slice (some ⟨w1.heap.size, 0, none⟩) 1 1, .string ⟨#[]⟩, .int .i64 (-1), .int .i64 (-1), .bool false, .bool v]) (plainT v) ⟨some ⟨w0.heap.size, 0, none⟩, 2, 2, some ⟨w1.heap.size, 0, none⟩, 1, 1⟩ := by
    refine ⟨rfl, rfl, Nat.le_refl _, Nat.le_refl _, ?_, ?_, plainT_fair v⟩
    · rcases hA2 with h | ⟨b, o, h1, h2, h3⟩
      · exact .inl h
      · injection h1 with h1
        injection h1 with e1 e2
        subst e1 e2
        exact .inr ⟨_, _, rfl, by have := hc3.size; omega, fun i u hi => (hc3.cell (b := w0.heap.size) (by omega) (by simp; omega)).trans (h3 i u hi)⟩
    · rcases hK2 with h | ⟨b, o, h1, h2, h3⟩
      · exact .inl h
      · injection h1 with h1
        injection h1 with e1 e2
        subst e1 e2
        exact .inr ⟨_, _, rfl, by have := hc3.size; omega, fun i u hi => (hc3.cell (b := w1.heap.size) (by omega) (by simp; omega)).trans (h3 i u hi)⟩
  have S1 := Lib.hid hS1
  have S2 := Lib.hid hS2
  have HB := Lib.hid hBf
  have HT := Lib.hid hTa
  clear hT hb0 hs0 hA hA1 hb1 hs1 hK hK2 hb2 hs2 hA2 hT2 hbw hS1 hS2 hc3 hBf hTa
  go_enter Try.func15, Try.ntmps15
  go_wp2_with (first | (guard_target =~ wpList _ _ _ (Oper.mk _ (Op.store 44 _ _) _ _ _ _ :: _) _ _; refine wpList_skp rfl (exec_store rfl rfl rfl S1.out) ?_))
  exact bodyPost_ret (results_cell1 Try.results15 _ _ rfl S2.out) rfl ⟨⟨⟨some ⟨w0.heap.size, 0, none⟩, 2, 2, some ⟨w1.heap.size, 0, none⟩, 1, 1⟩, rfl, HT.out⟩, HB.out⟩
end Go.Proofs.Ytmfdnphjhbbkiaa

/- The walk of law 22's alive. -/
set_option linter.unusedSimpArgs false
set_option linter.unusedVariables false
set_option maxRecDepth 100000
namespace Go.Proofs.Ytmfdnphjhbbkiaa
open Go.RowKit

def ca22 : Cx := ⟨⟨#[]⟩, ⟨#[97]⟩, 0, ⟨⟨#[97]⟩, 1, true⟩⟩
def cb22 : Cx := ⟨⟨#[120]⟩, ⟨#[98]⟩, 1, ⟨⟨#[98]⟩, 2, false⟩⟩
abbrev sx22 (m : TM) : Sx := ⟨⟨#[120]⟩, plainT true, m⟩
def pl22 : List (ByteArray × Col) := (colsOf (plainT true)).map fun c => (⟨#[120]⟩, c)
theorem pl_sx (m : TM) : plOf [sx22 m] = pl22 := by unfold plOf pl22; simp
theorem al_sx (m : TM) : allOf [sx22 m] = colsOf (plainT true) := by unfold allOf; simp
theorem ok_ca (m : TM) : CxOk [sx22 m] ca22 := by
  unfold CxOk
  rw [pl_sx, al_sx]
  exact ⟨by decide +kernel, by decide +kernel⟩
theorem ok_cb (m : TM) : CxOk [sx22 m] cb22 := by
  unfold CxOk
  rw [pl_sx, al_sx]
  exact ⟨by decide +kernel, by decide +kernel⟩
theorem slot_no (m : TM) : slotV (hitP ⟨#[121]⟩ ⟨#[97]⟩) (plOf [sx22 m]) = (0, 31) := by rw [pl_sx]; decide +kernel
theorem slots_4 (m : TM) : (allOf [sx22 m]).length = 4 := by rw [al_sx]; decide +kernel
theorem all_aa : ([ca22, ca22].map ndOf).all (fun x => okTy 1 x.t.lab.ty) = true := by decide +kernel
theorem all_ab : ([ca22, cb22].map ndOf).all (fun x => okTy 1 x.t.lab.ty) = false := by decide +kernel
def tr22 (x y : Cx) : Ex := .mk ⟨4, ⟨0, 0, ⟨#[]⟩⟩, ⟨#[]⟩, ⟨#[]⟩, ⟨#[43]⟩⟩ [(exOf x).t, (exOf y).t]
theorem r_aa : rightX 20 (tr22 ca22 ca22) = true := by decide +kernel
theorem r_ab : rightX 20 (tr22 ca22 cb22) = true := by decide +kernel
theorem p_aa : pickX 6 false (tr22 ca22 ca22) = [] := by simp [tr22, pickX, pickL, Rose.lab, ca22]
theorem p_ab : pickX 6 false (tr22 ca22 cb22) = [] := by simp [tr22, pickX, pickL, Rose.lab, ca22, cb22]
theorem c_aa : (tr22 ca22 ca22).count ≤ 1000000 := by decide +kernel
theorem c_ab : (tr22 ca22 cb22).count ≤ 1000000 := by decide +kernel
/-- Bind at the two sums. -/
theorem bind22 (m : TM) (a : Option Addr) (cap : Nat) (w : World) (h : ScAt w a cap [sx22 m]) (x y : Cx) (hx : CxOk [sx22 m] x) (hy : CxOk [sx22 m] y) (hr : rightX 20 (tr22 x y) = true) (hp : pickX 6 false (tr22 x y) = []) (hc : (tr22 x y).count ≤ 1000000)
    (h1 : x.tb.size ≤ 1 ∧ x.nm.size ≤ 1 ∧ y.tb.size ≤ 1 ∧ y.nm.size ≤ 1) (b : Bool) (hb : ([x, y].map ndOf).all (fun x => okTy 1 x.t.lab.ty) = b) (g : Nat) (hA : Arr w.heap.size w (some ⟨g, 0, none⟩) (exC x ++ exC y)) :
    Calls Try.prog 16 #[.agg #[.int .i64 4, .int .u8 0, .int .i64 0, .string ⟨#[]⟩, .string ⟨#[]⟩, .string ⟨#[]⟩, .string ⟨#[43]⟩, .slice (some ⟨g, 0, none⟩) 2 2], .slice a 1 cap, .bool false] w (RetSum w 2 b) := by
  have := BindSum_any [sx22 m] a cap w h [x, y] (some ⟨g, 0, none⟩) 2 (by simpa [cellsOf] using hA) (show 2 ≤ 100 by decide) (by simp; exact ⟨hx, hy⟩) (show 2 ≤ 2 by decide) (by decide) (by simp; omega) hr hp hc
  rw [hb] at this
  exact this

theorem RetSum.yes {w : World} {n : Nat} {e : Ending} {w' : World} (h : RetSum w n true e w') : (∃ (a2 : Option Addr) (c2 : Nat), e = .returned (.tuple #[.agg #[.int .i64 4, .string ⟨#[43]⟩, .int .u8 0, .int .i64 0, .string ⟨#[]⟩, .int .i64 0, .int .u8 1, .slice a2 n c2], .int .i64 0])) ∧ Below w.heap.size w w' := h
theorem RetSum.no {w : World} {n : Nat} {e : Ending} {w' : World} (h : RetSum w n false e w') : e = .returned (.tuple #[.agg #[.int .i64 0, .string ⟨#[]⟩, .int .u8 0, .int .i64 0, .string ⟨#[]⟩, .int .i64 0, .int .u8 0, .slice none 0 0], .int .i64 20]) ∧ Below w.heap.size w w' := by
  obtain ⟨⟨_, _, h1⟩, h2⟩ := h
  exact ⟨h1, h2⟩
/-- A row of two expressions that has just been made. -/
theorem row22 (w : World) (x y : Cx) : Arr (w.alloc (.cells (exC x ++ exC y).toArray 54)).heap.size (w.alloc (.cells (exC x ++ exC y).toArray 54)) (some ⟨w.heap.size, 0, none⟩) (exC x ++ exC y) := by
  refine .inr ⟨w.heap.size, 0, rfl, by simp, fun i v hi => ?_⟩
  rw [World.cell?_alloc_at _ _ _ _ rfl, Nat.zero_add]
  simpa using hi

set_option maxRecDepth 100000 in
set_option maxHeartbeats 8000000 in
theorem alive22_any (w : World) : Calls Try.prog 6 #[] w fun e w' => e = .returned (.bool true) ∧ Below w.heap.size w w' := by
  have HPl := Lib.hid (plain_any true w)
  go_enter Try.func6, Try.ntmps6
  go_wp2_with fail
  refine HPl.out.mono ?_
  rintro e w1 ⟨⟨m, rfl, hT⟩, hb1⟩
  have HB1 := Lib.hid hb1
  have HT1 := Lib.hid hT
  clear hb1 hT HPl
  go_wp2_with fail
  obtain ⟨w2, hw2⟩ : ∃ w2, w1.alloc (.cells #[.string ⟨#[120]⟩, .string (plainT true).name, .slice m.ca m.cl m.cc, .slice m.ka m.kl m.kc, .string (plainT true).per, .int .i64 (plainT true).fr, .int .i64 (plainT true).tt, .bool (plainT true).apart, .bool (plainT true).vers] 46) = w2 := ⟨_, rfl⟩
  rw [hw2]
  have hb2 : Below w1.heap.size w1 w2 := by rw [← hw2]; exact (Below.refl _ w1).alloc (Nat.le_refl _) _
  have hs2 : w2.heap.size = w1.heap.size + 1 := by rw [← hw2]; simp
  have hSc : ScAt w2 (some ⟨w1.heap.size, 0, none⟩) 1 [sx22 m] := by
    refine ⟨.inr ⟨w1.heap.size, 0, rfl, by omega, fun i v hi => ?_⟩, ?_, ?_, show 1 ≤ 6 by decide, show 1 ≤ 1 by decide, by decide⟩
    · rw [← hw2, World.cell?_alloc_at _ _ _ _ rfl, Nat.zero_add]
      simpa [cellsSx, cellsOf] using hi
    · intro x hx
      rw [List.mem_singleton.1 hx]
      exact HT1.out.later hb2
    · intro x hx
      rw [List.mem_singleton.1 hx]
      show (⟨#[120]⟩ : ByteArray).size ≤ 1000000
      decide
  obtain ⟨w3, hw3⟩ : ∃ w3, w2.alloc (.cells #[.int .i64 2, .int .u8 0, .int .i64 0, .string ⟨#[]⟩, .string ⟨#[]⟩, .string ⟨#[97]⟩, .string ⟨#[]⟩, .slice none 0 0] 54) = w3 := ⟨_, rfl⟩
  rw [hw3]
  have hb3 : Below w2.heap.size w2 w3 := by rw [← hw3]; exact (Below.refl _ w2).alloc (Nat.le_refl _) _
  have hs3 : w3.heap.size = w1.heap.size + 1 + 1 := by rw [← hw3]; simp [hs2]
  have hA3 : Slot8 w3 (w1.heap.size + 1) (.int .i64 2) (.int .u8 0) (.int .i64 0) (.string ⟨#[]⟩) (.string ⟨#[]⟩) (.string ⟨#[97]⟩) (.string ⟨#[]⟩) (.slice none 0 0) := by
    rw [← hw3, ← hs2]; exact Slot8.new w2 _ _ _ _ _ _ _ _ _
  obtain ⟨w4, hw4⟩ : ∃ w4, w3.alloc (.cells #[.int .i64 2, .int .u8 0, .int .i64 0, .string ⟨#[]⟩, .string ⟨#[120]⟩, .string ⟨#[98]⟩, .string ⟨#[]⟩, .slice none 0 0] 54) = w4 := ⟨_, rfl⟩
  rw [hw4]
  have hb4 : Below w3.heap.size w3 w4 := by rw [← hw4]; exact (Below.refl _ w3).alloc (Nat.le_refl _) _
  have hs4 : w4.heap.size = w1.heap.size + 1 + 1 + 1 := by rw [← hw4]; simp [hs3]
  have hB4 : Slot8 w4 (w1.heap.size + 1 + 1) (.int .i64 2) (.int .u8 0) (.int .i64 0) (.string ⟨#[]⟩) (.string ⟨#[120]⟩) (.string ⟨#[98]⟩) (.string ⟨#[]⟩) (.slice none 0 0) := by
    rw [← hw4, ← hs3]; exact Slot8.new w3 _ _ _ _ _ _ _ _ _
  have hA4 := hA3.later (by omega) hb4
  have hR5 := row22 w4 ca22 ca22
  obtain ⟨w5, hw5⟩ : ∃ w5, w4.alloc (.cells #[.int .i64 2, .int .u8 0, .int .i64 0, .string ⟨#[]⟩, .string ⟨#[]⟩, .string ⟨#[97]⟩, .string ⟨#[]⟩, .slice none 0 0, .int .i64 2, .int .u8 0, .int .i64 0, .string ⟨#[]⟩, .string ⟨#[]⟩, .string ⟨#[97]⟩, .string ⟨#[]⟩, .slice none 0 0] 54) = w5 := ⟨_, rfl⟩
  rw [hw5]
  have hR5' : Arr w5.heap.size w5 (some ⟨w1.heap.size + 1 + 1 + 1, 0, none⟩) (exC ca22 ++ exC ca22) := by rw [← hw5, ← hs4]; exact hR5
  have hb5 : Below w4.heap.size w4 w5 := by rw [← hw5]; exact (Below.refl _ w4).alloc (Nat.le_refl _) _
  have hs5 : w5.heap.size = w1.heap.size + 1 + 1 + 1 + 1 := by rw [← hw5]; simp [hs4]
  have hb25 : Below w2.heap.size w2 w5 := hb3.trans ((hb4.mono (by omega)).trans (hb5.mono (by omega)))
  have hA5 := hA4.later (by omega) hb5
  have hB5 := hB4.later (by omega) hb5
  have HSc5 := Lib.hid (hSc.later hb25)
  have HBi := Lib.hid (bind22 m _ 1 w5 (hSc.later hb25) ca22 ca22 (ok_ca m) (ok_ca m) r_aa p_aa c_aa (by decide) true all_aa _ hR5')
  have HB5 : Hid (Below w.heap.size w w5) := HB1.out.trans ((hb2.trans (hb25.mono (by omega))).mono HB1.out.size)
  have HA5 := Lib.hid hA5
  have HB5' := Lib.hid hB5
  have HZ5 := Lib.hid hs5
  clear hw2 hb2 hs2 hSc hw3 hb3 hs3 hA3 hw4 hb4 hs4 hB4 hA4 hR5 hw5 hR5' hb5 hs5 hb25 hA5 hB5 HT1
  refine HBi.out.mono ?_
  rintro e w6 hret
  obtain ⟨⟨a6, c6, rfl⟩, hb6⟩ := hret.yes
  have HSc6 := Lib.hid (HSc5.out.later hb6)
  have hA6 := HA5.out.later (by have := HZ5.out; omega) hb6
  have hB6 := HB5'.out.later (by have := HZ5.out; omega) hb6
  have HB6 : Hid (Below w.heap.size w w6) := HB5.out.trans (hb6.mono HB5.out.size)
  have HZ6 : Hid (w1.heap.size + 1 + 1 + 1 + 1 ≤ w6.heap.size) := by show _ ≤ _; have := HZ5.out; have := hb6.size; omega
  have hal : ∀ o, Below w6.heap.size w6 (w6.alloc o) := fun o => (Below.refl _ w6).alloc (Nat.le_refl _) o
  have hl1 : w1.heap.size + 1 < w6.heap.size := by have := HZ6.out; omega
  have hl2 : w1.heap.size + 1 + 1 < w6.heap.size := by have := HZ6.out; omega
  have ea0 : ∀ o, (w6.alloc o).cell? ⟨w1.heap.size + 1, 0, none⟩ = some (.int .i64 2) := fun o => ((hal o).cell (p := ⟨w1.heap.size + 1, 0, none⟩) hl1).trans hA6.c0
  have ea1 : ∀ o, (w6.alloc o).cell? ⟨w1.heap.size + 1, 1, none⟩ = some (.int .u8 0) := fun o => ((hal o).cell (p := ⟨w1.heap.size + 1, 1, none⟩) hl1).trans hA6.c1
  have ea2 : ∀ o, (w6.alloc o).cell? ⟨w1.heap.size + 1, 2, none⟩ = some (.int .i64 0) := fun o => ((hal o).cell (p := ⟨w1.heap.size + 1, 2, none⟩) hl1).trans hA6.c2
  have ea3 : ∀ o, (w6.alloc o).cell? ⟨w1.heap.size + 1, 3, none⟩ = some (.string ⟨#[]⟩) := fun o => ((hal o).cell (p := ⟨w1.heap.size + 1, 3, none⟩) hl1).trans hA6.c3
  have ea4 : ∀ o, (w6.alloc o).cell? ⟨w1.heap.size + 1, 4, none⟩ = some (.string ⟨#[]⟩) := fun o => ((hal o).cell (p := ⟨w1.heap.size + 1, 4, none⟩) hl1).trans hA6.c4
  have ea5 : ∀ o, (w6.alloc o).cell? ⟨w1.heap.size + 1, 5, none⟩ = some (.string ⟨#[97]⟩) := fun o => ((hal o).cell (p := ⟨w1.heap.size + 1, 5, none⟩) hl1).trans hA6.c5
  have ea6 : ∀ o, (w6.alloc o).cell? ⟨w1.heap.size + 1, 6, none⟩ = some (.string ⟨#[]⟩) := fun o => ((hal o).cell (p := ⟨w1.heap.size + 1, 6, none⟩) hl1).trans hA6.c6
  have ea7 : ∀ o, (w6.alloc o).cell? ⟨w1.heap.size + 1, 7, none⟩ = some (.slice none 0 0) := fun o => ((hal o).cell (p := ⟨w1.heap.size + 1, 7, none⟩) hl1).trans hA6.c7
  have eb0 : ∀ o, (w6.alloc o).cell? ⟨w1.heap.size + 1 + 1, 0, none⟩ = some (.int .i64 2) := fun o => ((hal o).cell (p := ⟨w1.heap.size + 1 + 1, 0, none⟩) hl2).trans hB6.c0
  have eb1 : ∀ o, (w6.alloc o).cell? ⟨w1.heap.size + 1 + 1, 1, none⟩ = some (.int .u8 0) := fun o => ((hal o).cell (p := ⟨w1.heap.size + 1 + 1, 1, none⟩) hl2).trans hB6.c1
  have eb2 : ∀ o, (w6.alloc o).cell? ⟨w1.heap.size + 1 + 1, 2, none⟩ = some (.int .i64 0) := fun o => ((hal o).cell (p := ⟨w1.heap.size + 1 + 1, 2, none⟩) hl2).trans hB6.c2
  have eb3 : ∀ o, (w6.alloc o).cell? ⟨w1.heap.size + 1 + 1, 3, none⟩ = some (.string ⟨#[]⟩) := fun o => ((hal o).cell (p := ⟨w1.heap.size + 1 + 1, 3, none⟩) hl2).trans hB6.c3
  have eb4 : ∀ o, (w6.alloc o).cell? ⟨w1.heap.size + 1 + 1, 4, none⟩ = some (.string ⟨#[120]⟩) := fun o => ((hal o).cell (p := ⟨w1.heap.size + 1 + 1, 4, none⟩) hl2).trans hB6.c4
  have eb5 : ∀ o, (w6.alloc o).cell? ⟨w1.heap.size + 1 + 1, 5, none⟩ = some (.string ⟨#[98]⟩) := fun o => ((hal o).cell (p := ⟨w1.heap.size + 1 + 1, 5, none⟩) hl2).trans hB6.c5
  have eb6 : ∀ o, (w6.alloc o).cell? ⟨w1.heap.size + 1 + 1, 6, none⟩ = some (.string ⟨#[]⟩) := fun o => ((hal o).cell (p := ⟨w1.heap.size + 1 + 1, 6, none⟩) hl2).trans hB6.c6
  have eb7 : ∀ o, (w6.alloc o).cell? ⟨w1.heap.size + 1 + 1, 7, none⟩ = some (.slice none 0 0) := fun o => ((hal o).cell (p := ⟨w1.heap.size + 1 + 1, 7, none⟩) hl2).trans hB6.c7
  clear hret hb6 HBi hA6 hB6 hal hl1 hl2
  go_wp2_with fail
  obtain ⟨w7, hw7⟩ : ∃ w7, w6.alloc (.cells #[.int .i64 4, .string ⟨#[43]⟩, .int .u8 0, .int .i64 0, .string ⟨#[]⟩, .int .i64 0, .int .u8 1, .slice a6 2 c6] 57) = w7 := ⟨_, rfl⟩
  rw [hw7]
  have hb7 : Below w6.heap.size w6 w7 := by rw [← hw7]; exact (Below.refl _ w6).alloc (Nat.le_refl _) _
  have hs7 : w7.heap.size = w6.heap.size + 1 := by rw [← hw7]; simp
  have hN7 : Blk w7 w6.heap.size 57 #[.int .i64 4, .string ⟨#[43]⟩, .int .u8 0, .int .i64 0, .string ⟨#[]⟩, .int .i64 0, .int .u8 1, .slice a6 2 c6] := by rw [← hw7]; exact Blk.new w6 _ _
  have hR8 := row22 w7 ca22 cb22
  obtain ⟨w8, hw8⟩ : ∃ w8, w7.alloc (.cells #[.int .i64 2, .int .u8 0, .int .i64 0, .string ⟨#[]⟩, .string ⟨#[]⟩, .string ⟨#[97]⟩, .string ⟨#[]⟩, .slice none 0 0, .int .i64 2, .int .u8 0, .int .i64 0, .string ⟨#[]⟩, .string ⟨#[120]⟩, .string ⟨#[98]⟩, .string ⟨#[]⟩, .slice none 0 0] 54) = w8 := ⟨_, rfl⟩
  rw [hw8]
  have hR8' : Arr w8.heap.size w8 (some ⟨w6.heap.size + 1, 0, none⟩) (exC ca22 ++ exC cb22) := by rw [← hw8, ← hs7]; exact hR8
  have hb8 : Below w7.heap.size w7 w8 := by rw [← hw8]; exact (Below.refl _ w7).alloc (Nat.le_refl _) _
  have hb68 : Below w6.heap.size w6 w8 := hb7.trans (hb8.mono (by omega))
  have hN8 : Blk w8 w6.heap.size 57 #[.int .i64 4, .string ⟨#[43]⟩, .int .u8 0, .int .i64 0, .string ⟨#[]⟩, .int .i64 0, .int .u8 1, .slice a6 2 c6] := (hb8.block _ (by omega)).trans hN7
  have HBi2 := Lib.hid (bind22 m _ 1 w8 (HSc6.out.later hb68) ca22 cb22 (ok_ca m) (ok_cb m) r_ab p_ab c_ab (by decide) false all_ab _ hR8')
  have HSc8 := Lib.hid (HSc6.out.later hb68)
  have HB8 : Hid (Below w.heap.size w w8) := HB6.out.trans (hb68.mono HB6.out.size)
  have HN8 := Lib.hid hN8
  clear hw7 hb7 hs7 hN7 hR8 hw8 hR8' hb8 hb68 hN8 ea0 ea1 ea2 ea3 ea4 ea5 ea6 ea7 eb0 eb1 eb2 eb3 eb4 eb5 eb6 eb7
  refine HBi2.out.mono ?_
  rintro e w9 hret
  obtain ⟨rfl, hb9⟩ := hret.no
  have HSc9 := Lib.hid (HSc8.out.later hb9)
  have HB9 : Hid (Below w.heap.size w w9) := HB8.out.trans (hb9.mono HB8.out.size)
  have HN9 : Hid (Blk w9 w6.heap.size 57 #[.int .i64 4, .string ⟨#[43]⟩, .int .u8 0, .int .i64 0, .string ⟨#[]⟩, .int .i64 0, .int .u8 1, .slice a6 2 c6]) := (hb9.block _ HN8.out.lt).trans HN8.out
  clear hret hb9 HBi2
  go_wp2_with fail
  obtain ⟨w10, hw10⟩ : ∃ w10, w9.alloc (.cells #[.int .i64 0, .string ⟨#[]⟩, .int .u8 0, .int .i64 0, .string ⟨#[]⟩, .int .i64 0, .int .u8 0, .slice none 0 0] 57) = w10 := ⟨_, rfl⟩
  rw [hw10]
  have hb10 : Below w9.heap.size w9 w10 := by rw [← hw10]; exact (Below.refl _ w9).alloc (Nat.le_refl _) _
  have HSl := Lib.hid (slot_any22 [sx22 m] _ 1 ⟨#[121]⟩ ⟨#[97]⟩ w10 (HSc9.out.later hb10))
  rw [slot_no] at HSl
  have HSc10 := Lib.hid (HSc9.out.later hb10)
  have HB10 : Hid (Below w.heap.size w w10) := HB9.out.trans (hb10.mono HB9.out.size)
  have HN10 : Hid (Blk w10 w6.heap.size 57 #[.int .i64 4, .string ⟨#[43]⟩, .int .u8 0, .int .i64 0, .string ⟨#[]⟩, .int .i64 0, .int .u8 1, .slice a6 2 c6]) := (hb10.block _ HN9.out.lt).trans HN9.out
  clear hw10 hb10
  refine HSl.out.mono ?_
  rintro e w11 ⟨rfl, hb11⟩
  have HS11 := Lib.hid (slots_any [sx22 m] _ 1 w11 (HSc10.out.later hb11))
  rw [slots_4] at HS11
  have HB11 : Hid (Below w.heap.size w w11) := HB10.out.trans (hb11.mono HB10.out.size)
  have hN11 : Blk w11 w6.heap.size 57 #[.int .i64 4, .string ⟨#[43]⟩, .int .u8 0, .int .i64 0, .string ⟨#[]⟩, .int .i64 0, .int .u8 1, .slice a6 2 c6] := (hb11.block _ HN10.out.lt).trans HN10.out
  have n6 := (hN11.cell 6).trans rfl
  have n7 := (hN11.cell 7).trans rfl
  clear hb11 HSl hN11
  go_wp2_with fail
  refine HS11.out.mono ?_
  rintro e w12 ⟨rfl, hb12⟩
  have HB12 : Hid (Below w.heap.size w w12) := HB11.out.trans (hb12.mono HB11.out.size)
  clear hb12 n6 n7
  go_wp2
  go_ret
  exact ⟨ret_b (by first | rfl | simp), HB12.out⟩
end Go.Proofs.Ytmfdnphjhbbkiaa

/- A table that comes in as an argument. -/
set_option linter.unusedSimpArgs false
set_option linter.unusedVariables false
set_option maxRecDepth 100000
namespace Go.Proofs.Ytmfdnphjhbbkiaa
open Go.RowKit Go.ChangeShapes Go.WideShapes Go.Deep Go.Joins

/-- What the walk is told of a table that came in. -/
structure TbIn (w : World) (t : Tb) (m : TM) : Prop where
  hc : m.cl = t.cols.length
  hk : m.kl = t.key.length
  ccap : m.cl ≤ m.cc
  kcap : m.kl ≤ m.kc
  cmax : m.cl ≤ 9223372036854775807
  kmax : m.kl ≤ 9223372036854775807
  carr : Arr w.heap.size w m.ca (cellsO t.cols)
  karr : Arr w.heap.size w m.ka (cellsI t.key)
  nm : t.name.size ≤ 9223372036854775807
  per : t.per.size ≤ 9223372036854775807
  fr : -9223372036854775808 ≤ t.fr ∧ t.fr ≤ 9223372036854775807
  tt : -9223372036854775808 ≤ t.tt ∧ t.tt ≤ 9223372036854775807
  cfair : ∀ c ∈ t.cols, c.nm.size ≤ 9223372036854775807 ∧ c.kd < 256
  kfair : ∀ k ∈ t.key, -9223372036854775808 ≤ k ∧ k ≤ 9223372036854775807

set_option maxRecDepth 100000 in
theorem trod_cols {H : Type} {enc : TypeId × Value → H} {w : World} {fuel : Nat} {cs : List Value} {x : DataW H × List MemPlace}
    (h : DataW.trod enc Try.prog w 0 (fun _ => true) true fuel 41 cs = some x) :
    ∃ (a : Option Addr) (len cap : Nat) (L : List Col), cs = [.slice a len cap] ∧ L.length = len ∧ len ≤ cap ∧ cap ≤ 9223372036854775807 ∧ Arr w.heap.size w a (cellsO L) ∧ ∀ c ∈ L, c.nm.size ≤ 9223372036854775807 ∧ c.kd < 256 := by
  rcases open_slice Try.underlying41 h with ⟨hcs, _⟩ | ⟨x, l, c, m, n, D, Pl, hcs, _, hl, hm, hmm, _, hi⟩
  · exact ⟨none, 0, 0, [], hcs, rfl, by omega, by omega, .inl rfl, by simp⟩
  · have hmc : m = c := by simpa using hmm
    have hC : Try.prog.cellsOf 69 = 3 := by kernel_rfl
    unfold maxLen at hm
    obtain ⟨L, h1, h2, h3⟩ := row_of (fun c : Col => [Value.string c.nm, .int .u8 (c.kd : Int), .bool c.nn]) 3 (by omega) (fun _ => rfl) (fun c => c.nm.size ≤ 9223372036854775807 ∧ c.kd < 256) w x l (fun i => by
      obtain ⟨cs', hc', ht'⟩ := hi i.1 (by have := i.2; omega)
      rw [hC] at hc'
      obtain ⟨_, hlen, hat⟩ := World.cells?_some hc'
      obtain ⟨y0, y1, y2, n', _, _, h0, h1, h2⟩ := trod_struct3 Try.underlying69 ht'
      match cs', hlen with
      | [v0, v1, v2], _ =>
        have g0 : DataW.trod enc Try.prog w 0 (fun _ => true) true n' 9 [v0] = some y0 := h0
        have g1 : DataW.trod enc Try.prog w 0 (fun _ => true) true n' 5 [v1] = some y1 := h1
        have g2 : DataW.trod enc Try.prog w 0 (fun _ => true) true n' 4 [v2] = some y2 := h2
        obtain ⟨s, e0, -, w0⟩ := DataW.trod_string Try.underlying9 g0
        obtain ⟨z, e1, -, w1⟩ := DataW.trod_int Try.underlying5 g1
        obtain ⟨b, e2, -⟩ := DataW.trod_bool Try.underlying4 g2
        simp only [List.cons.injEq, and_true] at e0 e1 e2
        subst e0 e1 e2
        unfold maxLen at w0
        obtain ⟨k, rfl, hk⟩ := nat_u8 w1
        exact ⟨⟨s, k, b⟩, ⟨w0, hk⟩, fun j v hj => by rw [hat j (by have := (List.getElem?_eq_some_iff.1 hj).1; simpa using this)]; exact hj⟩)
    exact ⟨some x, l, c, L, hcs, h1, hl, by omega, h2, h3⟩

set_option maxRecDepth 100000 in
theorem open_table {H : Type} {enc : TypeId × Value → H} {w : World} {r : Reach} {b0 : Nat} {v : Value} {d : DataW H} {p : List MemPlace} (hv : Value.okWide Try.prog w r b0 44 v) (h : DataW.Trod enc Try.prog w 0 (fun _ => true) true 44 v d p) :
    ∃ (t : Tb) (m : TM), v = m.v t ∧ TbIn w t m := by
  obtain ⟨cs, rfl, _⟩ := okWide_struct Try.underlying44 hv
  obtain ⟨fuel, hf⟩ := h
  have hf2 : DataW.trod enc Try.prog w 0 (fun _ => true) true fuel 44 cs.toList = some (d, p) := hf
  obtain ⟨xs, n, _, hx, hl, hlen, hfin⟩ := DataW.trod_struct Try.underlying44 hf2
  have hC : Try.prog.cellsOf 44 = 8 := by kernel_rfl
  rw [hC] at hl
  obtain ⟨cl, hcl⟩ : ∃ cl, cs.toList = cl := ⟨_, rfl⟩
  have hcs : cs = cl.toArray := by rw [← hcl]
  rw [hcl] at hl hfin
  subst hcs
  match cl, hl with
  | [v0, v1, v2, v3, v4, v5, v6, v7], _ =>
    match xs, hlen with
    | [y0, y1, y2, y3, y4, y5, y6, y7], _ =>
      have g0 : DataW.trod enc Try.prog w 0 (fun _ => true) true n 9 [v0] = some y0 := hfin 0 _ rfl
      have g1 : DataW.trod enc Try.prog w 0 (fun _ => true) true n 41 [v1] = some y1 := hfin 1 _ rfl
      have g2 : DataW.trod enc Try.prog w 0 (fun _ => true) true n 42 [v2] = some y2 := hfin 2 _ rfl
      have g3 : DataW.trod enc Try.prog w 0 (fun _ => true) true n 9 [v3] = some y3 := hfin 3 _ rfl
      have g4 : DataW.trod enc Try.prog w 0 (fun _ => true) true n 3 [v4] = some y4 := hfin 4 _ rfl
      have g5 : DataW.trod enc Try.prog w 0 (fun _ => true) true n 3 [v5] = some y5 := hfin 5 _ rfl
      have g6 : DataW.trod enc Try.prog w 0 (fun _ => true) true n 4 [v6] = some y6 := hfin 6 _ rfl
      have g7 : DataW.trod enc Try.prog w 0 (fun _ => true) true n 4 [v7] = some y7 := hfin 7 _ rfl
      obtain ⟨s0, e0, -, w0⟩ := DataW.trod_string Try.underlying9 g0
      obtain ⟨ca, cl, cc, cs, e1, c1, c2, c3, c4, c5⟩ := trod_cols g1
      obtain ⟨ka, kl, kc, ks, e2, k1, k2, k3, k4, k5⟩ := trod_nums g2
      obtain ⟨s3, e3, -, w3⟩ := DataW.trod_string Try.underlying9 g3
      obtain ⟨z4, e4, -, w4⟩ := DataW.trod_int Try.underlying3 g4
      obtain ⟨z5, e5, -, w5⟩ := DataW.trod_int Try.underlying3 g5
      obtain ⟨b6, e6, -⟩ := DataW.trod_bool Try.underlying4 g6
      obtain ⟨b7, e7, -⟩ := DataW.trod_bool Try.underlying4 g7
      simp only [List.cons.injEq, and_true] at e0 e1 e2 e3 e4 e5 e6 e7
      subst e0 e1 e2 e3 e4 e5 e6 e7
      unfold maxLen at w0 w3
      exact ⟨⟨s0, cs, ks, s3, z4, z5, b6, b7⟩, ⟨ca, cl, cc, ka, kl, kc⟩, rfl, ⟨c1.symm, k1.symm, c2, k2, by simp only; omega, by simp only; omega, c4, k4, w0, w3, bd_i64 w4, bd_i64 w5, c5, k5⟩⟩
end Go.Proofs.Ytmfdnphjhbbkiaa

/- The walk of hindsightlaw15.Great. -/
set_option linter.unusedSimpArgs false
set_option linter.unusedVariables false
set_option maxRecDepth 100000
namespace Go.Proofs.Ytmfdnphjhbbkiaa
open Go.RowKit

/-- Too much for a statement. -/
def greatT (t : Tb) : Bool := t.cols.any (fun c => decide (40 < t.cols.length) || decide (100 < c.nm.size)) || (decide (40 < t.key.length) || (decide (100 < t.name.size) || decide (100 < t.per.size)))
theorem TbIn.at_ {w : World} {t : Tb} {m : TM} (h : TbIn w t m) (hg : greatT t = false) : TAt w t m := by
  unfold greatT at hg
  simp only [Bool.or_eq_false_iff, List.any_eq_false, decide_eq_false_iff_not, Bool.or_eq_true, decide_eq_true_eq, not_or] at hg
  obtain ⟨h1, h2, h3, h4⟩ := hg
  have hcl : t.cols.length ≤ 40 := by
    by_cases h0 : t.cols.length = 0
    · omega
    · have := (h1 _ (List.getElem_mem (show 0 < t.cols.length by omega))).1
      omega
  exact ⟨h.hc, h.hk, h.ccap, h.kcap, h.carr, h.karr, ⟨by omega, by omega, by omega, by omega, h.fr, h.tt, fun c hc => ⟨by have := (h1 c hc).2; omega, (h.cfair c hc).2⟩, h.kfair⟩⟩

theorem any_take_succ {α : Type} (p : α → Bool) (l : List α) (k : Nat) (h : k < l.length) : (l.take (k + 1)).any p = ((l.take k).any p || p l[k]) := by
  rw [List.take_succ_eq_append_getElem h, List.any_append]; simp
theorem any_hit {α : Type} (p : α → Bool) (l : List α) (k : Nat) (h : k < l.length) (hk : p l[k] = true) : l.any p = true := List.any_eq_true.2 ⟨_, List.getElem_mem h, hk⟩

set_option maxHeartbeats 4000000 in
theorem great15_any (t : Tb) (m : TM) (w : World) (h : TbIn w t m) :
    Calls Try.prog 14 #[m.v t] w fun e w' => e = .returned (.bool (greatT t)) ∧ Below w.heap.size w w' := by
  have hcm := h.cmax
  have hkm := h.kmax
  have hcl := h.hc
  have hkl := h.hk
  have HCol := Lib.hid h.carr
  have HCF := Lib.hid (fun c hc => (h.cfair c hc).1)
  have hnm := h.nm
  have hper := h.per
  obtain ⟨ca, cl, cc, ka, kl, kc⟩ := m
  dsimp only at hcm hkm hcl hkl HCol
  subst hcl hkl
  have HB0 : Hid (Below w.heap.size w (w.alloc (.cells (TM.cs ⟨ca, t.cols.length, cc, ka, t.key.length, kc⟩ t) 44))) := (Below.refl _ w).alloc (Nat.le_refl _) _
  obtain ⟨G, hG⟩ : ∃ G, greatT t = G := ⟨_, rfl⟩
  rw [hG]
  have HG := Lib.hid hG
  obtain ⟨p, hp⟩ : ∃ p : Col → Bool, (fun c => decide (40 < t.cols.length) || decide (100 < c.nm.size)) = p := ⟨_, rfl⟩
  have HT : Hid (t.cols.any p = true → G = true) := fun h1 => by rw [← HG.out]; unfold greatT; rw [hp, h1]; rfl
  have HE : Hid (t.cols.any p = false → G = (decide (40 < t.key.length) || (decide (100 < t.name.size) || decide (100 < t.per.size)))) := fun h1 => by rw [← HG.out]; unfold greatT; rw [hp, h1]; rfl
  have HP : Hid (∀ c, p c = (decide (40 < t.cols.length) || decide (100 < c.nm.size))) := fun c => by rw [← hp]
  clear h hG HG hp
  go_enter Try.func14, Try.ntmps14
  go_wp2
  go_loop [3] (fun i => ∃ k : Nat, k ≤ t.cols.length ∧ i = .int .i64 k ∧ Hid ((t.cols.take k).any p = false)) (fun i => t.cols.length - (intOf i).toNat)
  case atStart => exact ⟨0, by omega, rfl, by simp [Hid]⟩
  case round =>
    obtain ⟨k, hk, rfl, HI⟩ := hrel
    by_cases hlt : k < t.cols.length
    · obtain ⟨b, o, rfl, hbN, c0, -, -⟩ := colAt HCol.out hlt
      replace c0 := (HB0.out.cell (p := ⟨b, o + k * 3, none⟩) hbN).trans c0
      have hcf := HCF.out _ (List.getElem_mem hlt)
      have HHit : Hid (p t.cols[k] = true → G = true) := fun h1 => HT.out (any_hit p t.cols k hlt h1)
      have HNx : Hid (p t.cols[k] = false → (t.cols.take (k + 1)).any p = false) := fun h1 => by rw [any_take_succ p t.cols k hlt, HI.out, h1]; rfl
      rw [HP.out t.cols[k]] at HHit HNx
      obtain ⟨x, hx⟩ : ∃ x, x = t.cols[k].nm := ⟨_, rfl⟩
      rw [← hx] at c0 hcf HHit HNx
      clear hx hbN HI
      by_cases h40 : 40 < t.cols.length
      · have HA := Lib.hid (HHit.out (by rw [decide_eq_true h40]; rfl))
        clear HHit HNx
        go_wp2
        go_ret
        exact ⟨ret_b HA.out.symm, HB0.out⟩
      · have q40 : decide ((40 : Int) < (t.cols.length : Int)) = false := by simp; omega
        by_cases h100 : 100 < x.size
        · have HA := Lib.hid (HHit.out (by rw [decide_eq_true h100]; simp))
          clear HHit HNx
          go_wp2
          go_ret
          exact ⟨ret_b HA.out.symm, HB0.out⟩
        · have q100 : decide ((100 : Int) < (x.size : Int)) = false := by simp; omega
          have HA := Lib.hid (HNx.out (by rw [decide_eq_false h40, decide_eq_false h100]; rfl))
          clear HHit HNx
          go_wp2
          go_round
          case rel => exact ⟨k + 1, by omega, by go_num, HA⟩
          case measure => simp [intOf]; omega
    · have hA := HE.out (by have := HI.out; rwa [List.take_of_length_le (by omega)] at this)
      obtain ⟨g1, hg1⟩ : ∃ g, decide (40 < t.key.length) = g := ⟨_, rfl⟩
      obtain ⟨g2, hg2⟩ : ∃ g, decide (100 < t.name.size) = g := ⟨_, rfl⟩
      obtain ⟨g3, hg3⟩ : ∃ g, decide (100 < t.per.size) = g := ⟨_, rfl⟩
      rw [hg1, hg2, hg3] at hA
      have q1 : decide ((40 : Int) < (t.key.length : Int)) = g1 := by rw [← hg1, Bool.eq_iff_iff]; simp; omega
      have q2 : decide ((100 : Int) < (t.name.size : Int)) = g2 := by rw [← hg2, Bool.eq_iff_iff]; simp; omega
      have q3 : decide ((100 : Int) < (t.per.size : Int)) = g3 := by rw [← hg3, Bool.eq_iff_iff]; simp; omega
      have HA := Lib.hid hA
      clear hA hg1 hg2 hg3 HI HT HE
      cases g1 with
      | true =>
        go_wp2
        go_ret
        exact ⟨ret_b (by rw [HA.out]; rfl), HB0.out⟩
      | false =>
        cases g2 with
        | true =>
          go_wp2
          go_ret
          exact ⟨ret_b (by rw [HA.out]; rfl), HB0.out⟩
        | false =>
          go_wp2
          go_ret
          exact ⟨ret_b (by rw [HA.out]; rfl), HB0.out⟩
end Go.Proofs.Ytmfdnphjhbbkiaa

/- A scope that comes in; the walk of law 22's Great; what a column's slot says of its source. -/
set_option linter.unusedSimpArgs false
set_option linter.unusedVariables false
set_option maxRecDepth 100000
namespace Go.Proofs.Ytmfdnphjhbbkiaa
open Go.RowKit Go.ChangeShapes Go.WideShapes Go.Deep Go.Joins

set_option maxRecDepth 100000 in
theorem trod_table {H : Type} {enc : TypeId × Value → H} {w : World} {fuel : Nat} {cl : List Value} {d : DataW H} {p : List MemPlace} (hf2 : DataW.trod enc Try.prog w 0 (fun _ => true) true fuel 44 cl = some (d, p)) :
    ∃ (t : Tb) (m : TM), cl = (m.cs t).toList ∧ TbIn w t m := by
  obtain ⟨xs, n, _, hx, hl, hlen, hfin⟩ := DataW.trod_struct Try.underlying44 hf2
  have hC : Try.prog.cellsOf 44 = 8 := by kernel_rfl
  rw [hC] at hl
  match cl, hl with
  | [v0, v1, v2, v3, v4, v5, v6, v7], _ =>
    match xs, hlen with
    | [y0, y1, y2, y3, y4, y5, y6, y7], _ =>
      have g0 : DataW.trod enc Try.prog w 0 (fun _ => true) true n 9 [v0] = some y0 := hfin 0 _ rfl
      have g1 : DataW.trod enc Try.prog w 0 (fun _ => true) true n 41 [v1] = some y1 := hfin 1 _ rfl
      have g2 : DataW.trod enc Try.prog w 0 (fun _ => true) true n 42 [v2] = some y2 := hfin 2 _ rfl
      have g3 : DataW.trod enc Try.prog w 0 (fun _ => true) true n 9 [v3] = some y3 := hfin 3 _ rfl
      have g4 : DataW.trod enc Try.prog w 0 (fun _ => true) true n 3 [v4] = some y4 := hfin 4 _ rfl
      have g5 : DataW.trod enc Try.prog w 0 (fun _ => true) true n 3 [v5] = some y5 := hfin 5 _ rfl
      have g6 : DataW.trod enc Try.prog w 0 (fun _ => true) true n 4 [v6] = some y6 := hfin 6 _ rfl
      have g7 : DataW.trod enc Try.prog w 0 (fun _ => true) true n 4 [v7] = some y7 := hfin 7 _ rfl
      obtain ⟨s0, e0, -, w0⟩ := DataW.trod_string Try.underlying9 g0
      obtain ⟨ca, clen, cc, cs, e1, c1, c2, c3, c4, c5⟩ := trod_cols g1
      obtain ⟨ka, kl, kc, ks, e2, k1, k2, k3, k4, k5⟩ := trod_nums g2
      obtain ⟨s3, e3, -, w3⟩ := DataW.trod_string Try.underlying9 g3
      obtain ⟨z4, e4, -, w4⟩ := DataW.trod_int Try.underlying3 g4
      obtain ⟨z5, e5, -, w5⟩ := DataW.trod_int Try.underlying3 g5
      obtain ⟨b6, e6, -⟩ := DataW.trod_bool Try.underlying4 g6
      obtain ⟨b7, e7, -⟩ := DataW.trod_bool Try.underlying4 g7
      simp only [List.cons.injEq, and_true] at e0 e1 e2 e3 e4 e5 e6 e7
      subst e0 e1 e2 e3 e4 e5 e6 e7
      unfold maxLen at w0 w3
      exact ⟨⟨s0, cs, ks, s3, z4, z5, b6, b7⟩, ⟨ca, clen, cc, ka, kl, kc⟩, rfl, ⟨c1.symm, k1.symm, c2, k2, by simp only; omega, by simp only; omega, c4, k4, w0, w3, bd_i64 w4, bd_i64 w5, c5, k5⟩⟩

/-- What the walk is told of a scope that came in. -/
structure ScIn (w : World) (a : Option Addr) (len cap : Nat) (L : List Sx) : Prop where
  hlen : len = L.length
  hcap : len ≤ cap
  hmax : cap ≤ 9223372036854775807
  arr : Arr w.heap.size w a (cellsSx L)
  tabs : ∀ x ∈ L, TbIn w x.t x.m
  names : ∀ x ∈ L, x.al.size ≤ 9223372036854775807
theorem TbIn.later {w w' : World} {t : Tb} {m : TM} (h : TbIn w t m) (hb : Below w.heap.size w w') : TbIn w' t m :=
  ⟨h.hc, h.hk, h.ccap, h.kcap, h.cmax, h.kmax, (h.carr.below hb).mono hb.size, (h.karr.below hb).mono hb.size, h.nm, h.per, h.fr, h.tt, h.cfair, h.kfair⟩

set_option maxRecDepth 100000 in
theorem open_scope {H : Type} {enc : TypeId × Value → H} {w : World} {r : Reach} {b0 : Nat} {v : Value} {d : DataW H} {p : List MemPlace} (hv : Value.okWide Try.prog w r b0 22 v) (h : DataW.Trod enc Try.prog w 0 (fun _ => true) true 22 v d p) :
    ∃ (a : Option Addr) (len cap : Nat) (z : List Sx), v = .slice a len cap ∧ ScIn w a len cap z := by
  obtain ⟨a, len, cap, rfl⟩ := okWide_slice Try.underlying22 hv
  obtain ⟨fuel, hf⟩ := h
  rcases open_slice Try.underlying22 hf with ⟨hcs, _⟩ | ⟨x, l, c, m, n, D, Pl, hcs, _, hl, hm, hmm, _, hi⟩
  · simp [Value.cells] at hcs
    obtain ⟨rfl, rfl, rfl⟩ := hcs
    exact ⟨none, 0, 0, [], rfl, rfl, by omega, by omega, .inl rfl, by simp, by simp⟩
  · simp [Value.cells] at hcs
    obtain ⟨rfl, rfl, rfl⟩ := hcs
    have hC : Try.prog.cellsOf 46 = 9 := by kernel_rfl
    have hC1 : Try.prog.cellsOf 9 = 1 := by kernel_rfl
    have hC8 : Try.prog.cellsOf 44 = 8 := by kernel_rfl
    unfold maxLen at hm
    have hmc : m = cap := by simpa using hmm
    obtain ⟨L, h1, h2, h3⟩ := row_of Sx.cells 9 (by decide) (fun _ => rfl) (fun x => TbIn w x.t x.m ∧ x.al.size ≤ 9223372036854775807) w x len (fun i => by
      obtain ⟨cs', hc', ht'⟩ := hi i.1 (by have := i.2; omega)
      rw [hC] at hc'
      obtain ⟨_, hlen, hat⟩ := World.cells?_some hc'
      obtain ⟨xs, n', _, hx, hl', hlen', hfin⟩ := DataW.trod_struct Try.underlying46 ht'
      match cs', hlen with
      | [v0, v1, v2, v3, v4, v5, v6, v7, v8], _ =>
        match xs, hlen' with
        | [y0, y1], _ =>
          have g0 : DataW.trod enc Try.prog w 0 (fun _ => true) true n' 9 [v0] = some y0 := hfin 0 _ rfl
          have g1 : DataW.trod enc Try.prog w 0 (fun _ => true) true n' 44 [v1, v2, v3, v4, v5, v6, v7, v8] = some y1 := hfin 1 _ rfl
          obtain ⟨s0, e0, -, w0⟩ := DataW.trod_string Try.underlying9 g0
          obtain ⟨t, m, e1, ht⟩ := trod_table (d := y1.1) (p := y1.2) g1
          simp only [List.cons.injEq, and_true] at e0 e1
          obtain ⟨rfl, rfl, rfl, rfl, rfl, rfl, rfl, rfl⟩ := e1
          subst e0
          unfold maxLen at w0
          exact ⟨⟨s0, t, m⟩, ⟨ht, w0⟩, fun j v hj => by rw [hat j (by have := (List.getElem?_eq_some_iff.1 hj).1; simpa using this)]; exact hj⟩)
    exact ⟨some x, len, cap, L, rfl, h1.symm, hl, by omega, h2, fun y hy => (h3 y hy).1, fun y hy => (h3 y hy).2⟩

/-- Not too much for the statement. -/
def SmallSc (L : List Sx) : Prop := L.length ≤ 6 ∧ ∀ x ∈ L, greatT x.t = false ∧ x.al.size ≤ 100
theorem ScIn.at_ {w : World} {a : Option Addr} {len cap : Nat} {L : List Sx} (h : ScIn w a len cap L) (hs : SmallSc L) : ScAt w a cap L :=
  ⟨h.arr, fun x hx => (h.tabs x hx).at_ (hs.2 x hx).1, fun x hx => by have := (hs.2 x hx).2; omega, hs.1, by rw [← h.hlen]; exact h.hcap, h.hmax⟩
theorem ScIn.later {w w' : World} {a : Option Addr} {len cap : Nat} {L : List Sx} (h : ScIn w a len cap L) (hb : Below w.heap.size w w') : ScIn w' a len cap L :=
  ⟨h.hlen, h.hcap, h.hmax, (h.arr.below hb).mono hb.size, fun x hx => (h.tabs x hx).later hb, h.names⟩

set_option maxHeartbeats 4000000 in
theorem great22_any (L : List Sx) (a : Option Addr) (len cap : Nat) (w : World) (h : ScIn w a len cap L) :
    Calls Try.prog 5 #[.slice a len cap] w fun e w' => (∃ b, e = .returned (.bool b) ∧ (b = false → SmallSc L)) ∧ Below w.heap.size w w' := by
  have HS := Lib.hid h
  have hcap := h.hcap
  have hmax := h.hmax
  have HL := Lib.hid h.hlen
  clear h
  go_enter Try.func5, Try.ntmps5
  go_wp2
  go_loopw [3] (fun i wr => ∃ k : Nat, k ≤ len ∧ i = .int .i64 (k : Int) ∧ Hid (∀ j (h : j < L.length), j < k → greatT L[j].t = false ∧ L[j].al.size ≤ 100) ∧ Hid (0 < k → len ≤ 6) ∧ Hid (Below w.heap.size w wr)) (fun i _ => len - (intOf i).toNat)
  case atStart => exact ⟨0, by omega, rfl, (fun j _ hj => by omega), (fun h => by omega), Below.refl _ _⟩
  case round =>
    obtain ⟨k, hk, rfl, HI, HZ, HB⟩ := hrel
    by_cases hlt : k < len
    · have hkl : k < L.length := by rw [← HL.out]; exact hlt
      obtain ⟨b, o, hab, hbN, hSl⟩ := sxAt (HS.out.later HB.out).arr hkl
      have HG0 := great15_any L[k].t L[k].m wr ((HS.out.tabs _ (List.getElem_mem hkl)).later HB.out)
      have hnm := HS.out.names _ (List.getElem_mem hkl)
      have HI1 : Hid (greatT L[k].t = false → L[k].al.size ≤ 100 → ∀ j (h : j < L.length), j < k + 1 → greatT L[j].t = false ∧ L[j].al.size ≤ 100) := fun h1 h2 j h hj => by
        by_cases hjk : j = k
        · subst hjk; exact ⟨h1, h2⟩
        · exact HI.out j h (by omega)
      generalize L[k] = x at *
      subst hab
      have HG : Hid (Calls Try.prog 14 #[.agg #[.string x.t.name, .slice x.m.ca x.m.cl x.m.cc, .slice x.m.ka x.m.kl x.m.kc, .string x.t.per, .int .i64 x.t.fr, .int .i64 x.t.tt, .bool x.t.apart, .bool x.t.vers]] wr fun e w' => e = .returned (.bool (greatT x.t)) ∧ Below wr.heap.size wr w') := HG0
      have q0 : decide ((k : Int) < (len : Int)) = true := by simp; omega
      obtain ⟨gb, hgb⟩ : ∃ gb, greatT x.t = gb := ⟨_, rfl⟩
      rw [hgb] at HG HI1
      have HSl := Lib.hid hSl
      clear HG0 hgb hkl
      by_cases h6 : 6 < len
      · have q1 : decide ((6 : Int) < (len : Int)) = true := by simp; omega
        clear hSl
        go_wp2
        go_ret
        exact ⟨⟨true, rfl, fun h => by cases h⟩, HB.out⟩
      have q1 : decide ((6 : Int) < (len : Int)) = false := by simp; omega
      obtain ⟨c0, c1, c2, c3, c4, c5, c6, c7, c8⟩ := hSl
      go_wp2_with fail
      refine HG.out.mono ?_
      rintro e w2 ⟨rfl, hb2⟩
      have HB2 := Lib.hid (HB.out.trans (hb2.mono HB.out.size))
      have k0 := (HSl.out.later hbN hb2).c0
      clear hb2 c0 c1 c2 c3 c4 c5 c6 c7 c8
      cases gb with
      | true =>
        go_wp2
        go_ret
        exact ⟨⟨true, rfl, fun h => by cases h⟩, HB2.out⟩
      | false =>
        by_cases h100 : 100 < x.al.size
        · have q2 : decide ((100 : Int) < (x.al.size : Int)) = true := by simp; omega
          go_wp2
          go_ret
          exact ⟨⟨true, rfl, fun h => by cases h⟩, HB2.out⟩
        · have q2 : decide ((100 : Int) < (x.al.size : Int)) = false := by simp; omega
          have HI2 := Lib.hid (HI1.out (by trivial) (by omega))
          have HZ2 : Hid (0 < k + 1 → len ≤ 6) := fun _ => by omega
          go_wp2
          go_roundw
          case rel => exact ⟨k + 1, by omega, by go_num, HI2.out, HZ2.out, HB2.out⟩
          case measure => (simp [intOf] <;> try omega)
    · have q0 : decide ((k : Int) < (len : Int)) = false := by simp; omega
      have HSm : Hid (SmallSc L) := by
        refine ⟨?_, fun x hx => ?_⟩
        · rw [← HL.out]
          by_cases h0 : 0 < k
          · exact HZ.out h0
          · omega
        · obtain ⟨j, hj, rfl⟩ := List.getElem_of_mem hx
          exact HI.out j hj (by have := HL.out; omega)
      clear HI HZ
      go_wp2
      go_ret
      exact ⟨⟨false, rfl, fun _ => HSm.out⟩, HB.out⟩

/-! What a slot says. -/
theorem snoc_ind {α : Type} {P : List α → Prop} (h0 : P []) (hs : ∀ l a, P l → P (l ++ [a])) (l : List α) : P l := by
  have : ∀ r : List α, P r.reverse := by
    intro r
    induction r with
    | nil => exact h0
    | cons a r ih => rw [List.reverse_cons]; exact hs _ _ ih
  have := this l.reverse
  rwa [List.reverse_reverse] at this
theorem lastI_spec {α : Type} (p : α → Bool) : ∀ (l : List α), l.countP p = 1 → ∃ x, l[lastI p l]? = some x ∧ p x = true := by
  intro l
  induction l using snoc_ind with
  | h0 => intro h; simp at h
  | hs l a ih =>
    intro h
    rw [List.countP_append, List.countP_singleton] at h
    rw [lastI_snoc]
    by_cases hp : p a = true
    · rw [if_pos hp]
      exact ⟨a, by simp, hp⟩
    · rw [if_neg hp]
      rw [if_neg hp] at h
      obtain ⟨x, h1, h2⟩ := ih (by omega)
      refine ⟨x, ?_, h2⟩
      rw [List.getElem?_append_left (List.getElem?_eq_some_iff.1 h1).1]; exact h1
theorem lastI_sub {α : Type} (p q : α → Bool) (hq : ∀ x, q x = true → p x = true) : ∀ (l : List α), l.countP p = 1 → (∃ x, l[lastI p l]? = some x ∧ q x = true) → l.countP q = 1 ∧ lastI q l = lastI p l := by
  intro l
  induction l using snoc_ind with
  | h0 => intro h; simp at h
  | hs l a ih =>
    intro h hx
    obtain ⟨x, hx1, hx2⟩ := hx
    rw [List.countP_append, List.countP_singleton] at h
    rw [lastI_snoc] at hx1
    rw [lastI_snoc, lastI_snoc, List.countP_append, List.countP_singleton]
    by_cases hp : p a = true
    · rw [if_pos hp] at hx1 h
      simp at hx1
      subst hx1
      have h0 : l.countP q ≤ l.countP p := List.countP_mono_left fun y _ hy => hq y hy
      rw [if_pos hp, if_pos hx2, if_pos hx2]
      exact ⟨by omega, rfl⟩
    · have hqa : ¬ q a = true := fun h2 => hp (hq a h2)
      rw [if_neg hp] at hx1 h
      rw [if_neg hp, if_neg hqa, if_neg hqa]
      have hc : l.countP p = 1 := by omega
      obtain ⟨y, hy1, -⟩ := lastI_spec p l hc
      rw [List.getElem?_append_left (List.getElem?_eq_some_iff.1 hy1).1] at hx1
      have := ih hc ⟨x, hx1, hx2⟩
      exact ⟨by omega, this.2⟩
theorem hitP_none (name : ByteArray) (y : ByteArray × Col) : hitP ⟨#[]⟩ name y = decide (y.2.nm = name) := by
  unfold hitP; simp
/-- A column that is found has its name, and is found by its source's name as well. -/
theorem slot_names {L : List Sx} {name : ByteArray} {at_ : Int} (h : slotV (hitP ⟨#[]⟩ name) (plOf L) = (at_, 0)) :
    ∃ k : Nat, at_ = (k : Int) ∧ (∃ c, (allOf L)[k]? = some c ∧ c.nm = name) ∧ ∃ x ∈ L, slotV (hitP x.al name) (plOf L) = (at_, 0) := by
  unfold slotV at h
  split at h
  · rename_i hc
    injection h with h1 _
    obtain ⟨y, hy1, hy2⟩ := lastI_spec _ _ hc
    have hnm : y.2.nm = name := by rw [hitP_none] at hy2; simpa using hy2
    refine ⟨_, h1.symm, ⟨y.2, ?_, hnm⟩, ?_⟩
    · rw [← plOf_all, List.getElem?_map, hy1]; rfl
    · have hm : y ∈ plOf L := List.mem_of_getElem? hy1
      unfold plOf at hm
      obtain ⟨x, hx, hxy⟩ := List.mem_flatMap.1 hm
      obtain ⟨c, -, rfl⟩ := List.mem_map.1 hxy
      refine ⟨x, hx, ?_⟩
      have := lastI_sub (hitP ⟨#[]⟩ name) (hitP x.al name) (fun z hz => by rw [hitP_none]; unfold hitP at hz; simp at hz; simpa using hz.1) (plOf L) hc ⟨_, hy1, by unfold hitP; simp; exact hnm⟩
      unfold slotV
      rw [if_pos this.1, this.2, h1]
  · injection h with _ h2; cases h2
theorem slot_zero {L : List Sx} {p : (ByteArray × Col) → Bool} (h : (slotV p (plOf L)).2 ≠ 0) : (slotV p (plOf L)) = (0, 31) := by
  unfold slotV at h ⊢
  split
  · rename_i hc; rw [if_pos hc] at h; exact absurd rfl h
  · rfl
end Go.Proofs.Ytmfdnphjhbbkiaa

/- The walk of law 22's As. -/
set_option linter.unusedSimpArgs false
set_option linter.unusedVariables false
set_option maxRecDepth 100000
namespace Go.Proofs.Ytmfdnphjhbbkiaa
open Go.RowKit

abbrev Sx.core (x : Sx) : ByteArray × Tb := (x.al, x.t)
theorem info_rsrc : (Try.prog.info? 64).map (fun i => (i.zero, i.size, i.bytes)) = some (some (.agg #[.string ⟨#[]⟩, .string ⟨#[]⟩, .slice none 0 0, .slice none 0 0, .string ⟨#[]⟩, .int .i64 0, .int .i64 0, .bool false, .bool false]), 9, 120) := by kernel_rfl
theorem own_ty {w : World} {base : Nat} {e : TypeId} {z n : Nat} {v : Value} {xs : List Value} (h : w.ownsRow base e z v n xs) {g : Nat} (hg : v.ownBlock = some g) : ∃ cur, w.heap[g]? = some (.cells cur e (0, 0)) := by
  obtain ⟨-, h2⟩ := h
  rcases h2 with ⟨hv, _⟩ | ⟨g', cap, cur, rfl, _, hh, _⟩
  · rw [hv] at hg; simp [Value.ownBlock] at hg
  · have : g' = g := by simpa [Value.ownBlock] using hg
    subst this; exact ⟨cur, hh⟩
theorem own_apart {w : World} {b1 b2 : Nat} {e1 e2 : TypeId} {z1 z2 n1 n2 : Nat} {v1 v2 : Value} {x1 x2 : List Value} (h1 : w.ownsRow b1 e1 z1 v1 n1 x1) (h2 : w.ownsRow b2 e2 z2 v2 n2 x2) (hne : e1 ≠ e2) : ∀ g, v1.ownBlock = some g → g ∉ v2.ownBlock.toList := fun g hg hm => by
  obtain ⟨c1, hc1⟩ := own_ty h1 hg
  obtain ⟨c2, hc2⟩ := own_ty h2 (by simpa using hm)
  rw [hc1] at hc2
  injection hc2 with hc2
  injection hc2 with _ h3
  exact hne h3
/-- A source of which As has made the columns anew. -/
structure AsX (w W : World) (x : Sx) : Prop where
  hc : x.m.cl = x.t.cols.length
  hk : x.m.kl = x.t.key.length
  kcap : x.m.kl ≤ x.m.kc
  karr : Arr w.heap.size w x.m.ka (cellsI x.t.key)
  fair : x.t.Fair
  al : x.al.size ≤ 1000000
  own : W.ownsRow w.heap.size 66 3 (.slice x.m.ca x.m.cl x.m.cc) x.m.cl (cellsO x.t.cols)
theorem AsX.at_ {w W : World} {x : Sx} (h : AsX w W x) (hb : Below w.heap.size w W) : TAt W x.t x.m := by
  obtain ⟨a, c, hv, h1, h2, h3⟩ := own_slice h.own
  injection hv with e1 e2 e3
  subst e1 e3
  exact ⟨h.hc, h.hk, h1, h.kcap, h3, (h.karr.below hb).mono hb.size, h.fair⟩
theorem AsX.below {w W W' : World} {x : Sx} (h : AsX w W x) (hb : Below W.heap.size W W') : AsX w W' x := ⟨h.hc, h.hk, h.kcap, h.karr, h.fair, h.al, own_below h.own (Nat.le_refl _) hb⟩
theorem AsX.chg {w W W' : World} {x : Sx} {S : List Nat} (h : AsX w W x) (hc : Chg S W W') (hn : ∀ g, (Value.slice x.m.ca x.m.cl x.m.cc).ownBlock = some g → g ∉ S) : AsX w W' x := ⟨h.hc, h.hk, h.kcap, h.karr, h.fair, h.al, own_chg h.own hc hn⟩
/-- A call hands back the same sources, elsewhere. -/
def RetSc (w : World) (L : List Sx) (e : Ending) (w' : World) : Prop :=
  ∃ (a : Option Addr) (cap : Nat) (M : List Sx), e = .returned (.slice a L.length cap) ∧ M.map Sx.core = L.map Sx.core ∧ ScAt w' a cap M ∧ Below w.heap.size w w'

set_option maxRecDepth 100000 in
set_option maxHeartbeats 8000000 in
theorem as22_any (L : List Sx) (a : Option Addr) (cap : Nat) (w : World) (h : ScAt w a cap L) :
    Calls Try.prog 8 #[.slice a L.length cap] w (RetSc w L) := by
  obtain ⟨i0, hi, hz0, hz1, hz2⟩ := info_parts info_rsrc
  have HSc := Lib.hid h
  have hsm := h.small
  have hcap := h.hcap
  have hmax := h.hmax
  obtain ⟨n, hn⟩ : ∃ n, L.length = n := ⟨_, rfl⟩
  have HN := Lib.hid hn
  have HR : Hid (RetSc w L = fun e w' => ∃ (a : Option Addr) (cap : Nat) (M : List Sx), e = .returned (.slice a n cap) ∧ M.map Sx.core = L.map Sx.core ∧ ScAt w' a cap M ∧ Below w.heap.size w w') := by show _ = _; unfold RetSc; rw [hn]
  rw [HR.out]
  rw [hn] at hsm hcap ⊢
  clear h hn HR
  go_enter Try.func8, Try.ntmps8
  go_wp2
  go_loopw [3, 4] (fun v i wr => ∃ (k : Nat) (cv : Value) (M : List Sx), cv = v ∧ k ≤ n ∧ i = .int .i64 (k : Int) ∧ Hid (M.map Sx.core = (L.take k).map Sx.core) ∧ Hid (wr.ownsRow w.heap.size 64 9 cv k (cellsSx M)) ∧ Hid (∀ x ∈ M, AsX w wr x) ∧ Hid (Below w.heap.size w wr)) (fun _ i _ => n - (intOf i).toNat)
  case atStart => exact ⟨0, _, [], rfl, by omega, rfl, rfl, World.ownsRow_nil _ _ _ _, (fun x hx => by cases hx), Below.refl _ _⟩
  case round =>
    obtain ⟨k, cv, M, rfl, hk, rfl, HMc, HO, HX, HB⟩ := hrel
    by_cases hlt : k < n
    · have hkl : k < L.length := by rw [HN.out]; exact hlt
      have HTk : Hid ((L.take (k + 1)).map Sx.core = (L.take k).map Sx.core ++ [(L[k].al, L[k].t)]) := by
        show _ = _
        rw [List.take_succ_eq_append_getElem hkl, List.map_append]; rfl
      obtain ⟨b, o, hab, hbN, hS⟩ := sxAt HSc.out.arr hkl
      have hT := HSc.out.tabs _ (List.getElem_mem hkl)
      have hal := HSc.out.names _ (List.getElem_mem hkl)
      generalize L[k] = x at *
      subst hab
      have q0 : decide ((k : Int) < (n : Int)) = true := by simp; omega
      obtain ⟨S, hSS⟩ : ∃ S, cv.ownBlock.toList = S := ⟨_, rfl⟩
      have hSg : ∀ g ∈ S, w.heap.size ≤ g := fun g hg => by rw [← hSS, Option.mem_toList] at hg; exact (HO.out.lt g hg).1
      have hbS : b ∉ S := fun hm => by have := hSg b hm; omega
      have hbr : b < wr.drew.heap.size := Nat.lt_of_lt_of_le hbN HB.out.size
      have hZ : ∀ V, Chg S wr.drew V → Slot9 V b (o + k * 9) x := fun V hV => by
        have h1 := hS.later hbN HB.out
        exact ⟨(hV.cell (b := b) hbr hbS).trans h1.c0, (hV.cell (b := b) hbr hbS).trans h1.c1, (hV.cell (b := b) hbr hbS).trans h1.c2, (hV.cell (b := b) hbr hbS).trans h1.c3, (hV.cell (b := b) hbr hbS).trans h1.c4, (hV.cell (b := b) hbr hbS).trans h1.c5, (hV.cell (b := b) hbr hbS).trans h1.c6, (hV.cell (b := b) hbr hbS).trans h1.c7, (hV.cell (b := b) hbr hbS).trans h1.c8⟩
      have u0 := fun V hV => (hZ V hV).c0
      have u1 := fun V hV => (hZ V hV).c1
      have u2 := fun V hV => (hZ V hV).c2
      have u3 := fun V hV => (hZ V hV).c3
      have u4 := fun V hV => (hZ V hV).c4
      have u5 := fun V hV => (hZ V hV).c5
      have u6 := fun V hV => (hZ V hV).c6
      have u7 := fun V hV => (hZ V hV).c7
      have u8 := fun V hV => (hZ V hV).c8
      have HAs := Lib.hid (as15_any x.t x.m wr.drew (hT.later HB.out.drew))
      have HT := Lib.hid hT
      have HAl := Lib.hid hal
      have HSS := Lib.hid hSS
      have HBs := Lib.hid HB.out.size
      clear hkl hbN hS hT hal hSg hbS hbr hZ hSS
      go_wp2_with fail
      refine wp_region_ordX S 15 [(0, true), (1, true), (2, true), (3, true), (4, true), (5, true), (6, true), (7, true), (8, true), (9, true), (10, true), (11, false), (12, true), (13, false), (14, false)] (by kernel_rfl) (by kernel_rfl) (by kernel_rfl) (by kernel_rfl) ?_
      repeat (first | (refine wpOX_F (v := ?_) rfl (by rfl) (fun w' hL => ?_) ?_; rotate_left; (solve | (go_simp; with_reducible rfl) | go_simp); try simp only [Act.put, List.setIfInBounds_toArray, List.set_cons_zero, List.set_cons_succ]) | (refine wpOX_G (Chg.refl _) rfl (by rfl) ?_; try simp only [Act.put, List.setIfInBounds_toArray, List.set_cons_zero, List.set_cons_succ]))
      refine wpOX_C rfl (by rfl) ?_
      go_simp
      refine HAs.out.mono ?_
      rintro e w3 ⟨m3, rfl, hT3, ⟨hka, hkl, hkc, hcl, hown3⟩, hb3⟩
      have Hka := Lib.hid hka
      have Hkl := Lib.hid hkl
      have Hkc := Lib.hid hkc
      have Hcl := Lib.hid hcl
      clear hka hkl hkc hcl
      refine ⟨below_chg hb3, ?_⟩
      try simp only [Act.put, List.setIfInBounds_toArray, List.set_cons_zero, List.set_cons_succ]
      repeat (first | (refine wpOX_F (v := ?_) rfl (by rfl) (fun w' hL => ?_) ?_; rotate_left; (solve | (go_simp; with_reducible rfl) | go_simp); try simp only [Act.put, List.setIfInBounds_toArray, List.set_cons_zero, List.set_cons_succ]) | (refine wpOX_G (Chg.refl _) rfl (by rfl) ?_; try simp only [Act.put, List.setIfInBounds_toArray, List.set_cons_zero, List.set_cons_succ]))
      refine wpOX_C rfl (by rfl) ?_
      go_simp
      refine ⟨(Chg.refl _ _).alloc _, ?_⟩
      try simp only [Act.put, List.setIfInBounds_toArray, List.set_cons_zero, List.set_cons_succ]
      obtain ⟨wa, hwa⟩ : ∃ wa, w3.alloc (.cells #[.string x.al, .string x.t.name, .slice m3.ca m3.cl m3.cc, .slice m3.ka m3.kl m3.kc, .string x.t.per, .int .i64 x.t.fr, .int .i64 x.t.tt, .bool x.t.apart, .bool x.t.vers] 64) = wa := ⟨_, rfl⟩
      rw [hwa]
      have hbk : ∀ (j : Nat) u, (Sx.cells ⟨x.al, x.t, m3⟩)[j]? = some u → wa.cell? ⟨w3.heap.size, j, none⟩ = some u := fun j u hu => by
        rw [← hwa, World.cell?_alloc_at _ _ _ _ rfl]; simpa using hu
      have hBa : Below w3.heap.size w3 wa := by rw [← hwa]; exact (Below.refl _ w3).alloc (Nat.le_refl _) _
      have hB3 : Below wr.heap.size wr w3 := (Below.refl _ wr).drew.trans hb3
      have hWa : Below wr.heap.size wr wa := hB3.trans (hBa.mono hB3.size)
      have hrow : wa.ownsRow w.heap.size 64 9 cv k (cellsSx M) := own_below HO.out (Nat.le_refl _) hWa
      have hXa : ∀ y ∈ M ++ [(⟨x.al, x.t, m3⟩ : Sx)], AsX w wa y := fun y hy => by
        rcases List.mem_append.1 hy with hy | hy
        · exact (HX.out y hy).below hWa
        · rw [List.mem_singleton.1 hy]
          refine ⟨Hcl.out, by show m3.kl = _; rw [Hkl.out]; exact HT.out.hk, by show m3.kl ≤ m3.kc; rw [Hkl.out, Hkc.out]; exact HT.out.kcap, by show Arr _ _ m3.ka _; rw [Hka.out]; exact HT.out.karr, HT.out.fair, HAl.out, ?_⟩
          have h3 := own_below hown3 (Nat.le_refl _) hBa
          exact ⟨h3.1, h3.2.imp id fun ⟨g, c, cur, r1, r2, r3⟩ => ⟨g, c, cur, r1, Nat.le_trans HBs.out r2, r3⟩⟩
      refine wpOX_C rfl (by rfl) ?_
      refine wp_appG (.tmp 11) (.tmp 24) 27 rfl w.heap.size 64 i0 (.agg #[.string ⟨#[]⟩, .string ⟨#[]⟩, .slice none 0 0, .slice none 0 0, .string ⟨#[]⟩, .int .i64 0, .int .i64 0, .bool false, .bool false]) 9 120 1 Try.underlying27 hi hz0 rfl hz1 (by omega) hz2 (by omega) cv k _ (Sx.cells ⟨x.al, x.t, m3⟩) wa hrow rfl w3.heap.size 1 hbk rfl (by intro u hu; simp at hu; rcases hu with rfl | rfl | rfl | rfl | rfl | rfl | rfl | rfl | rfl <;> rfl) rfl (by omega) (Nat.le_trans HBs.out hWa.size) ?_
      intro v5 w5 hown5 hc5 hf5
      have hc5S : Chg S wa w5 := by rw [← HSS.out]; exact hc5
      refine ⟨hc5S, ?_⟩
      try simp only [Act.put, List.setIfInBounds_toArray, List.set_cons_zero, List.set_cons_succ]
      have HX5 : Hid (∀ y ∈ M ++ [(⟨x.al, x.t, m3⟩ : Sx)], AsX w w5 y) := fun y hy => (hXa y hy).chg hc5 (own_apart (hXa y hy).own hrow (by decide))
      have HO5 : Hid (w5.ownsRow w.heap.size 64 9 v5 (k + 1) (cellsSx (M ++ [(⟨x.al, x.t, m3⟩ : Sx)]))) := by
        show World.ownsRow _ _ _ _ _ _ _
        have e : cellsSx (M ++ [(⟨x.al, x.t, m3⟩ : Sx)]) = cellsSx M ++ Sx.cells ⟨x.al, x.t, m3⟩ := cellsOf_snoc _ _ _
        rw [e]; exact hown5
      have HB5 : Hid (Below w.heap.size w w5) := HB.out.trans ((hWa.mono HBs.out).trans (hc5.below (Nat.le_trans HBs.out hWa.size) (fun g hg => (hrow.lt g (by simpa using hg)).1)))
      have HM5 : Hid ((M ++ [(⟨x.al, x.t, m3⟩ : Sx)]).map Sx.core = (L.take (k + 1)).map Sx.core) := by
        show _ = _
        rw [HTk.out, List.map_append, HMc.out]; rfl
      clear hwa hbk hBa hB3 hWa hrow hXa hown5 hc5 hf5 hc5S hT3 Hka Hkl Hkc Hcl hown3 hb3 u0 u1 u2 u3 u4 u5 u6 u7 u8
      repeat (first | (refine wpOX_F (v := ?_) rfl (by rfl) (fun w' hL => ?_) ?_; rotate_left; (solve | (go_simp; with_reducible rfl) | go_simp); try simp only [Act.put, List.setIfInBounds_toArray, List.set_cons_zero, List.set_cons_succ]) | (refine wpOX_G (Chg.refl _) rfl (by rfl) ?_; try simp only [Act.put, List.setIfInBounds_toArray, List.set_cons_zero, List.set_cons_succ]))
      refine wpOX_end rfl (by rfl) ?_
      try go_simp
      try simp only [NoPanic]
      go_wp2
      go_roundw
      case rel => exact ⟨k + 1, v5, _, rfl, by omega, by go_num, HM5, HO5.out, HX5.out, HB5.out⟩
      case measure => (simp [intOf] <;> try omega)
    · have q0 : decide ((k : Int) < (n : Int)) = false := by simp; omega
      have hke : k = n := by omega
      subst hke
      have hMc := HMc.out
      rw [List.take_of_length_le (by rw [HN.out]; exact Nat.le_refl _)] at hMc
      have hml : M.length = k := by have := congrArg List.length hMc; rw [List.length_map, List.length_map, HN.out] at this; exact this
      obtain ⟨a2, c2, hv, hcc, hcm, hA2⟩ := own_slice HO.out
      subst hv
      have HSc2 : Hid (ScAt wr a2 c2 M) := ⟨hA2, fun x hx => (HX.out x hx).at_ HB.out, fun x hx => (HX.out x hx).al, by rw [hml]; exact hsm, by rw [hml]; exact hcc, hcm⟩
      have HM2 := Lib.hid hMc
      clear hMc hml hA2 HO HX HMc
      go_wp2
      go_ret
      exact ⟨a2, c2, M, rfl, HM2.out, HSc2.out, HB.out⟩
end Go.Proofs.Ytmfdnphjhbbkiaa

/- The walks of the reference's Places and Slot (layer 22). -/
set_option linter.unusedSimpArgs false
set_option linter.unusedVariables false
set_option maxRecDepth 100000
namespace Go.Proofs.Ytmfdnphjhbbkiaa
open Go.RowKit

abbrev plC (p : ByteArray × Col) : List Value := [.string p.1, .string p.2.nm, .int .u8 (p.2.kd : Int)]
theorem info_plc : (Try.prog.info? 39).map (fun i => (i.zero, i.size, i.bytes)) = some (some (.agg #[.string ⟨#[]⟩, .string ⟨#[]⟩, .int .u8 0]), 3, 40) := by kernel_rfl
theorem plAt {N : Nat} {w : World} {a : Option Addr} {l : List (ByteArray × Col)} (h : Arr N w a (cellsOf plC l)) {k : Nat} (hk : k < l.length) : ∃ b o, a = some ⟨b, o, none⟩ ∧ b < N ∧ w.cell? ⟨b, o + k * 3, none⟩ = some (.string l[k].1) ∧ w.cell? ⟨b, o + k * 3 + 1, none⟩ = some (.string l[k].2.nm) ∧ w.cell? ⟨b, o + k * 3 + 2, none⟩ = some (.int .u8 (l[k].2.kd : Int)) := by
  obtain ⟨b, o, ha, hb, hc⟩ := h.at_ (by intro h0; have := cellsOf_len plC 3 (fun _ => rfl) l; rw [h0] at this; simp at this; omega)
  have g := fun (j : Nat) (v : Value) (hv : (plC l[k])[j]? = some v) => hc _ _ (cellsOf_get plC 3 (fun _ => rfl) l k j l[k] v (List.getElem?_eq_getElem hk) hv)
  exact ⟨b, o, ha, hb, by simpa using g 0 _ rfl, by simpa [Nat.add_assoc] using g 1 _ rfl, by simpa [Nat.add_assoc] using g 2 _ rfl⟩

set_option maxRecDepth 100000 in
set_option maxHeartbeats 4000000 in
theorem rSlot_any22 (l : List (ByteArray × Col)) (a : Option Addr) (cap : Nat) (table name : ByteArray) (w : World) (h : Arr w.heap.size w a (cellsOf plC l)) (hl : l.length ≤ 100000000) :
    Calls Try.prog 12 #[.slice a l.length cap, .string table, .string name] w fun e w' => e = .returned (.tuple #[.int .i64 (slotV (hitP table name) l).1, .int .i64 (slotV (hitP table name) l).2]) ∧ w' = w := by
  have HA := Lib.hid h
  obtain ⟨pf, hpf⟩ : ∃ pf, hitP table name = pf := ⟨_, rfl⟩
  have HPf : Hid (∀ x : ByteArray × Col, pf x = ((x.2.nm.toList == name.toList) && ((table.toList == []) || (x.1.toList == table.toList)))) := fun x => by
    rw [← hpf, toL_eq, toL_eq]
    unfold hitP
    have : (table.toList == []) = decide (table = ⟨#[]⟩) := by
      have h1 := toL_eq table ⟨#[]⟩
      rw [show (⟨#[]⟩ : ByteArray).toList = [] from by rw [ByteArray.toList_eq]] at h1
      exact h1
    rw [this]
  rw [hpf]
  obtain ⟨V, hV⟩ : ∃ V, slotV pf l = V := ⟨_, rfl⟩
  have HV2 : Hid (V = if l.countP pf = 1 then ((lastI pf l : Int), 0) else (0, 31)) := by rw [← hV]; rfl
  rw [hV]
  obtain ⟨n, hn⟩ : ∃ n, l.length = n := ⟨_, rfl⟩
  have HN := Lib.hid hn
  rw [hn] at hl ⊢
  clear h hn hV hpf
  go_enter Try.func12, Try.ntmps12
  go_wp2
  go_loopw [8, 9, 10] (fun sv fv i wr => ∃ (k fd sl : Nat), k ≤ n ∧ i = .int .i64 (k : Int) ∧ fv = .int .i64 (fd : Int) ∧ sv = .int .i64 (sl : Int) ∧ fd ≤ k ∧ Hid (SlI pf (l.take k) k fd sl) ∧ wr = w) (fun _ _ i _ => n - (intOf i).toNat)
  case atStart => exact ⟨0, 0, 0, by omega, rfl, rfl, rfl, by omega, SlI.nil pf, rfl⟩
  case round =>
    obtain ⟨k, fd, sl, hk, rfl, rfl, rfl, hfd, HI, rfl⟩ := hrel
    by_cases hlt : k < n
    · have q0 : decide ((k : Int) < (n : Int)) = true := by simp; omega
      have hkl : k < l.length := by rw [HN.out]; exact hlt
      obtain ⟨b, o, hab, hbN, t0, t1, t2⟩ := plAt HA.out hkl
      have HTk : Hid (l.take (k + 1) = l.take k ++ [l[k]]) := List.take_succ_eq_append_getElem hkl
      have hpx := HPf.out l[k]
      generalize l[k] = x at *
      obtain ⟨al, c⟩ := x
      dsimp only at t0 t1 hpx
      subst hab
      have hy := HI.out.yes (x := (al, c))
      have hno := HI.out.no (x := (al, c))
      rw [← HTk.out] at hy hno
      have HY := Lib.hid hy
      have HNo := Lib.hid hno
      obtain ⟨bn, hbn⟩ : ∃ b, (c.nm.toList == name.toList) = b := ⟨_, rfl⟩
      obtain ⟨bt, hbt⟩ : ∃ b, (table.toList == []) = b := ⟨_, rfl⟩
      obtain ⟨ba, hba⟩ : ∃ b, (al.toList == table.toList) = b := ⟨_, rfl⟩
      rw [hbn, hbt, hba] at hpx
      have hbt2 : table.toList.isEmpty = bt := by rw [← hbt]; cases table.toList <;> rfl
      clear hy hno hkl hbN t2 HI HTk
      cases bn with
      | false =>
        have HI3 := Lib.hid (HNo.out (by rw [hpx]; rfl))
        clear HY HNo hpx
        go_wp2
        go_roundw
        case rel => exact ⟨k + 1, fd, sl, by omega, by go_num, rfl, rfl, by omega, HI3, by first | rfl | trivial⟩
        case measure => (simp [intOf] <;> try omega)
      | true =>
        cases bt with
        | true =>
          have HI3 := Lib.hid (HY.out (by rw [hpx]; rfl))
          clear HY HNo hpx
          go_wp2
          go_roundw
          case rel => exact ⟨k + 1, fd + 1, k, by omega, by go_num, by go_num, rfl, by omega, HI3, by first | rfl | trivial⟩
          case measure => (simp [intOf] <;> try omega)
        | false =>
          cases ba with
          | true =>
            have HI3 := Lib.hid (HY.out (by rw [hpx]; rfl))
            clear HY HNo hpx
            go_wp2
            go_roundw
            case rel => exact ⟨k + 1, fd + 1, k, by omega, by go_num, by go_num, rfl, by omega, HI3, by first | rfl | trivial⟩
            case measure => (simp [intOf] <;> try omega)
          | false =>
            have HI3 := Lib.hid (HNo.out (by rw [hpx]; rfl))
            clear HY HNo hpx
            go_wp2
            go_roundw
            case rel => exact ⟨k + 1, fd, sl, by omega, by go_num, rfl, rfl, by omega, HI3, by first | rfl | trivial⟩
            case measure => (simp [intOf] <;> try omega)
    · have q0 : decide ((k : Int) < (n : Int)) = false := by simp; omega
      have hI := HI.out
      rw [List.take_of_length_le (by rw [HN.out]; omega)] at hI
      have hI1 := hI.f
      have hI2 := hI.s
      by_cases h1 : fd = 1
      · subst h1
        have HF : Hid (V = ((sl : Int), 0)) := by show _ = _; rw [HV2.out, ← hI1, ← hI2]; rfl
        clear hI hI1 hI2 HI HV2
        go_wp2
        go_ret2
        exact ⟨by rw [HF.out]; rfl, rfl⟩
      · have HF : Hid (V = (0, 31)) := by show _ = _; rw [HV2.out, ← hI1, if_neg h1]
        have q1 : ((fd : Int) != 1) = true := by simp; omega
        have q2 : (fd != 1) = true := by simp; omega
        clear hI hI1 hI2 HI HV2
        go_wp2
        go_ret2
        exact ⟨by rw [HF.out]; rfl, rfl⟩

set_option maxRecDepth 100000 in
set_option maxHeartbeats 8000000 in
theorem places_any22 (L : List Sx) (a : Option Addr) (cap : Nat) (w : World) (h : ScAt w a cap L) :
    Calls Try.prog 7 #[.slice a L.length cap] w (RetOwn w 39 3 (cellsOf plC (plOf L)) (plOf L).length) := by
  obtain ⟨i0, hi, hz0, hz1, hz2⟩ := info_parts info_plc
  have HSc := Lib.hid h
  have hsm := h.small
  obtain ⟨n, hn⟩ : ∃ n, L.length = n := ⟨_, rfl⟩
  have HN := Lib.hid hn
  rw [hn] at hsm ⊢
  clear h hn
  go_enter Try.func7, Try.ntmps7
  go_wp2
  go_loopw [3, 4] (fun v i wr => ∃ (k m : Nat) (cv : Value), cv = v ∧ k ≤ n ∧ i = .int .i64 (k : Int) ∧ m ≤ k * 1000002 ∧ Hid (m = (plOf (L.take k)).length) ∧ Hid (wr.ownsRow w.heap.size 39 3 cv m (cellsOf plC (plOf (L.take k)))) ∧ Hid (Below w.heap.size w wr)) (fun _ i _ => n - (intOf i).toNat)
  case atStart => exact ⟨0, 0, _, rfl, by omega, rfl, by omega, rfl, World.ownsRow_nil _ _ _ _, Below.refl _ _⟩
  case round =>
    obtain ⟨k, m, cv, rfl, hk, rfl, hm, HM, HO, HB⟩ := hrel
    obtain ⟨wo, rfl⟩ : ∃ wo, wo = wr := ⟨wr, rfl⟩
    by_cases hlt : k < n
    · have q0 : decide ((k : Int) < (n : Int)) = true := by simp; omega
      have hkl : k < L.length := by rw [HN.out]; exact hlt
      have HTk : Hid (plOf (L.take (k + 1)) = plOf (L.take k) ++ (colsOf L[k].t).map fun c => (L[k].al, c)) := by
        show _ = _
        rw [List.take_succ_eq_append_getElem hkl, plOf_snoc]
      obtain ⟨b, o, hab, hbN, hS⟩ := sxAt (HSc.out.later HB.out).arr hkl
      have hT := HSc.out.tabs _ (List.getElem_mem hkl)
      generalize L[k] = x at *
      subst hab
      have hBx : Blk (wo.alloc (.cells #[.string x.al, .string x.t.name, .slice x.m.ca x.m.cl x.m.cc, .slice x.m.ka x.m.kl x.m.kc, .string x.t.per, .int .i64 x.t.fr, .int .i64 x.t.tt, .bool x.t.apart, .bool x.t.vers] 64)) wo.heap.size 64 #[.string x.al, .string x.t.name, .slice x.m.ca x.m.cl x.m.cc, .slice x.m.ka x.m.kl x.m.kc, .string x.t.per, .int .i64 x.t.fr, .int .i64 x.t.tt, .bool x.t.apart, .bool x.t.vers] := Blk.new wo _ _
      obtain ⟨w2, hw2⟩ : ∃ w2, wo.alloc (.cells #[.string x.al, .string x.t.name, .slice x.m.ca x.m.cl x.m.cc, .slice x.m.ka x.m.kl x.m.kc, .string x.t.per, .int .i64 x.t.fr, .int .i64 x.t.tt, .bool x.t.apart, .bool x.t.vers] 64) = w2 := ⟨_, rfl⟩
      rw [hw2] at hBx
      have hb2 : Below wo.heap.size wo w2 := by rw [← hw2]; exact (Below.refl _ wo).alloc (Nat.le_refl _) _
      have HO2 : Hid (w2.ownsRow w.heap.size 39 3 cv m (cellsOf plC (plOf (L.take k)))) := own_below HO.out (Nat.le_refl _) hb2
      have HB2 : Hid (Below w.heap.size w w2) := HB.out.trans (hb2.mono HB.out.size)
      have HBx := Lib.hid hBx
      have hcl := hT.fair.cl
      have HT := Lib.hid hT
      have HCl := Lib.hid hT.hc
      obtain ⟨c0, c1, c2, c3, c4, c5, c6, c7, c8⟩ := hS
      clear hb2 hkl hbN hT hBx
      go_wp2
      clear c0 c1 c2 c3 c4 c5 c6 c7 c8 hw2
      go_loopw [3, 6] (fun v i wr => ∃ (j m2 : Nat) (cv2 : Value), cv2 = v ∧ j ≤ x.t.cols.length ∧ i = .int .i64 (j : Int) ∧ (m2 ≤ m + j ∧ m + j ≤ m2) ∧ Hid (wr.ownsRow w.heap.size 39 3 cv2 m2 (cellsOf plC (plOf (L.take k) ++ (x.t.cols.take j).map fun c => (x.al, c)))) ∧ Hid (Blk wr wo.heap.size 64 #[.string x.al, .string x.t.name, .slice x.m.ca x.m.cl x.m.cc, .slice x.m.ka x.m.kl x.m.kc, .string x.t.per, .int .i64 x.t.fr, .int .i64 x.t.tt, .bool x.t.apart, .bool x.t.vers]) ∧ Hid (Below w.heap.size w wr)) (fun _ i _ => x.t.cols.length - (intOf i).toNat)
      case atStart => exact ⟨0, m, cv, rfl, by omega, rfl, ⟨by omega, by omega⟩, by show World.ownsRow _ _ _ _ _ _ _; simpa using HO2.out, HBx.out, HB2.out⟩
      case round =>
        obtain ⟨j, m2, cv2, rfl, hj, rfl, hm2, HOj, HBj, HBr⟩ := hrel
        have z0 := (HBj.out.cell 0).trans rfl
        have z2 := (HBj.out.cell 2).trans rfl
        have z8 := (HBj.out.cell 8).trans rfl
        rw [HCl.out] at z2
        by_cases hjt : j < x.t.cols.length
        · have q1 : decide ((j : Int) < (x.t.cols.length : Int)) = true := by simp; omega
          obtain ⟨b4, o4, hab4, hbN4, y0, y1, y2⟩ := colAt HT.out.carr hjt
          have HTj : Hid ((x.t.cols.take (j + 1)).map (fun c => (x.al, c)) = (x.t.cols.take j).map (fun c => (x.al, c)) ++ [(x.al, x.t.cols[j])]) := by
            show _ = _
            rw [List.take_succ_eq_append_getElem hjt, List.map_append]; rfl
          generalize x.t.cols[j] = c at *
          obtain ⟨S, hSS⟩ : ∃ S, cv2.ownBlock.toList = S := ⟨_, rfl⟩
          have hSg : ∀ g ∈ S, w.heap.size ≤ g := fun g hg => by rw [← hSS, Option.mem_toList] at hg; exact (HOj.out.lt g hg).1
          have hbS : b4 ∉ S := fun hm => by have := hSg b4 hm; omega
          have hbr : b4 < wr.drew.heap.size := Nat.lt_of_lt_of_le hbN4 HBr.out.size
          have hxS : wo.heap.size ∉ S := fun hm => by rw [← hSS, Option.mem_toList] at hm; exact own_ne HOj.out HBj.out (by decide) hm
          have hxr : wo.heap.size < wr.drew.heap.size := HBj.out.lt
          have u0 : ∀ V, Chg S wr.drew V → V.cell? ⟨wo.heap.size, 0, none⟩ = some (.string x.al) := fun V hV => (hV.cell (b := wo.heap.size) hxr hxS).trans z0
          have u2 : ∀ V, Chg S wr.drew V → V.cell? ⟨wo.heap.size, 2, none⟩ = some (.slice x.m.ca x.t.cols.length x.m.cc) := fun V hV => (hV.cell (b := wo.heap.size) hxr hxS).trans z2
          have v0 : ∀ V, Chg S wr.drew V → V.cell? ⟨b4, o4 + j * 3, none⟩ = some (.string c.nm) := fun V hV => (hV.cell (b := b4) hbr hbS).trans ((HBr.out.cell (p := ⟨b4, o4 + j * 3, none⟩) hbN4).trans y0)
          have v1 : ∀ V, Chg S wr.drew V → V.cell? ⟨b4, o4 + j * 3 + 1, none⟩ = some (.int .u8 (c.kd : Int)) := fun V hV => (hV.cell (b := b4) hbr hbS).trans ((HBr.out.cell (p := ⟨b4, o4 + j * 3 + 1, none⟩) hbN4).trans y1)
          rw [hab4] at z2 u2
          clear hab4
          have HSS := Lib.hid hSS
          have HBs := Lib.hid HBr.out.size
          clear hSg hbS hbr hxS hxr hSS hbN4 y0 y1 y2
          go_wp2_with fail
          refine wp_region_ordX S 20 [(0, true), (1, true), (2, true), (3, true), (4, true), (5, true), (6, true), (7, true), (8, true), (9, true), (10, true), (11, true), (12, true), (13, true), (14, true), (15, true), (16, true), (17, true), (18, false), (19, false)] (by kernel_rfl) (by kernel_rfl) (by kernel_rfl) (by kernel_rfl) ?_
          repeat (first | (refine wpOX_F (v := ?_) rfl (by rfl) (fun w' hL => ?_) ?_; rotate_left; (solve | (go_simp; with_reducible rfl) | go_simp); try simp only [Act.put, List.setIfInBounds_toArray, List.set_cons_zero, List.set_cons_succ]) | (refine wpOX_G (Chg.refl _) rfl (by rfl) ?_; try simp only [Act.put, List.setIfInBounds_toArray, List.set_cons_zero, List.set_cons_succ]))
          refine wpOX_C rfl (by rfl) ?_
          go_simp
          refine ⟨(Chg.refl _ _).alloc _, ?_⟩
          try simp only [Act.put, List.setIfInBounds_toArray, List.set_cons_zero, List.set_cons_succ]
          have hr2 : wr.drew.ownsRow w.heap.size 39 3 cv2 m2 (cellsOf plC (plOf (L.take k) ++ (x.t.cols.take j).map fun c => (x.al, c))) := HOj.out
          refine wpOX_C rfl (by rfl) ?_
          refine wp_appM (.tmp 25) (.tmp 43) 25 rfl w.heap.size 39 i0 (.agg #[.string ⟨#[]⟩, .string ⟨#[]⟩, .int .u8 0]) 3 40 1 Try.underlying25 hi hz0 rfl hz1 (by omega) hz2 (by omega) cv2 m2 _ [.string x.al, .string c.nm, .int .u8 (c.kd : Int)] wr.drew hr2 rfl _ rfl rfl (by intro u hu; simp at hu; rcases hu with rfl | rfl | rfl <;> rfl) rfl (by omega) HBs.out ?_
          intro v5 w5 hown5 hc5 hsz5
          have hblk5 := (HBj.out.drew.alloc (.cells #[.string x.al, .string c.nm, .int .u8 (c.kd : Int)] 39)).chg hc5 (fun hm => own_ne HOj.out HBj.out (by decide) (by simpa using hm))
          have HB5 : Hid (Below w.heap.size w w5) := HBr.out.trans (((Below.refl w.heap.size wr).drew.alloc HBs.out _).trans (hc5.below (by have := HBs.out; simp; omega) (fun g hg => (hr2.lt g (by simpa using hg)).1)))
          rw [HSS.out] at hc5
          refine ⟨hc5, ?_⟩
          try simp only [Act.put, List.setIfInBounds_toArray, List.set_cons_zero, List.set_cons_succ]
          have HBx5 := Lib.hid hblk5
          have HO5 : Hid (w5.ownsRow w.heap.size 39 3 v5 (m2 + 1) (cellsOf plC (plOf (L.take k) ++ (x.t.cols.take (j + 1)).map fun c => (x.al, c)))) := by
            show World.ownsRow _ _ _ _ _ _ _
            rw [HTj.out, ← List.append_assoc]
            have e : cellsOf plC ((plOf (L.take k) ++ (x.t.cols.take j).map fun c => (x.al, c)) ++ [(x.al, c)]) = cellsOf plC (plOf (L.take k) ++ (x.t.cols.take j).map fun c => (x.al, c)) ++ plC (x.al, c) := cellsOf_snoc _ _ _
            rw [e]; exact hown5
          clear hr2 hown5 hc5 hsz5 hblk5 u0 u2 v0 v1
          repeat (first | (refine wpOX_F (v := ?_) rfl (by rfl) (fun w' hL => ?_) ?_; rotate_left; (solve | (go_simp; with_reducible rfl) | go_simp); try simp only [Act.put, List.setIfInBounds_toArray, List.set_cons_zero, List.set_cons_succ]) | (refine wpOX_G (Chg.refl _) rfl (by rfl) ?_; try simp only [Act.put, List.setIfInBounds_toArray, List.set_cons_zero, List.set_cons_succ]))
          refine wpOX_end rfl (by rfl) ?_
          try go_simp
          try simp only [NoPanic]
          go_wp2
          go_roundw
          case rel => exact ⟨j + 1, m2 + 1, v5, rfl, by omega, by go_num, ⟨by omega, by omega⟩, HO5.out, HBx5.out, HB5.out⟩
          case measure => (simp [intOf] <;> try omega)
        · have q1 : decide ((j : Int) < (x.t.cols.length : Int)) = false := by simp; omega
          have hje : j = x.t.cols.length := by omega
          have hO := HOj.out
          rw [hje, List.take_of_length_le (Nat.le_refl _)] at hO
          have HBs := Lib.hid HBr.out.size
          cases hv : x.t.vers with
          | false =>
            have HO3 : Hid (wr.ownsRow w.heap.size 39 3 cv2 m2 (cellsOf plC (plOf (L.take (k + 1))))) := by
              show World.ownsRow _ _ _ _ _ _ _
              rw [HTk.out]
              unfold colsOf
              rw [hv]
              simpa using hO
            have HM3 : Hid (m2 = (plOf (L.take (k + 1))).length) := by
              show _ = _
              rw [HTk.out, List.length_append, ← HM.out, List.length_map]
              unfold colsOf
              rw [hv]
              simp; omega
            rw [hv] at z8
            clear hO hv HTk
            go_wp2
            go_roundw
            case rel => exact ⟨k + 1, m2, cv2, rfl, by omega, by go_num, by omega, HM3, HO3.out, HBr.out⟩
            case measure => (simp [intOf] <;> try omega)
          | true =>
            rw [hv] at z8
            have HOj2 := Lib.hid hO
            have HE : Hid (cellsOf plC (plOf (L.take (k + 1))) = cellsOf plC (plOf (L.take k) ++ x.t.cols.map fun c => (x.al, c)) ++ [.string x.al, .string ⟨#[115, 121, 115, 95, 102, 114, 111, 109]⟩, .int .u8 1, .string x.al, .string ⟨#[115, 121, 115, 95, 116, 111]⟩, .int .u8 1]) := by
              show _ = _
              rw [HTk.out]
              unfold colsOf
              rw [if_pos hv, List.map_append, ← List.append_assoc]
              unfold cellsOf
              rw [List.flatMap_append]
              rfl
            have HM3 : Hid (m2 + 2 = (plOf (L.take (k + 1))).length) := by
              show _ = _
              rw [HTk.out, List.length_append, ← HM.out, List.length_map]
              unfold colsOf sysC
              rw [if_pos hv]
              simp; omega
            clear hO hv HTk
            go_wp2_with (at_builtin; refine wpList_appM rfl _ _ 25 rfl w.heap.size 39 i0 (.agg #[.string ⟨#[]⟩, .string ⟨#[]⟩, .int .u8 0]) 3 40 2 Try.underlying25 hi hz0 rfl hz1 (by omega) hz2 (by omega) cv2 m2 _ [.string x.al, .string ⟨#[115, 121, 115, 95, 102, 114, 111, 109]⟩, .int .u8 1, .string x.al, .string ⟨#[115, 121, 115, 95, 116, 111]⟩, .int .u8 1] wr HOj2.out rfl _ rfl rfl (by intro u hu; simp at hu; rcases hu with rfl | rfl | rfl | rfl | rfl | rfl <;> rfl) rfl (by omega) HBs.out ?_; intro v5 w5 hown5 hc5 hsz5; have HO5 := Lib.hid hown5; have HC5 := Lib.hid hc5; clear hown5 hc5 hsz5)
            have HB5 : Hid (Below w.heap.size w w5) := HBr.out.trans (((Below.refl w.heap.size wr).alloc HBs.out _).trans (HC5.out.below (by have := HBs.out; simp; omega) (fun g hg => (HOj2.out.lt g (by simpa using hg)).1)))
            have HO6 : Hid (w5.ownsRow w.heap.size 39 3 v5 (m2 + 2) (cellsOf plC (plOf (L.take (k + 1))))) := by show World.ownsRow _ _ _ _ _ _ _; rw [HE.out]; exact HO5.out
            go_roundw
            case rel => exact ⟨k + 1, m2 + 2, v5, rfl, by omega, by go_num, by omega, HM3, HO6.out, HB5.out⟩
            case measure => (simp [intOf] <;> try omega)
    · have q0 : decide ((k : Int) < (n : Int)) = false := by simp; omega
      have hke : k = n := by omega
      have hO := HO.out
      have hM := HM.out
      rw [hke, List.take_of_length_le (by rw [HN.out]; omega)] at hO hM
      have HO2 := Lib.hid hO
      have HM2 := Lib.hid hM
      clear hO hM HO HM hke
      go_wp2
      go_ret
      exact ⟨_, rfl, by rw [← HM2.out]; exact HO2.out, HB.out⟩
end Go.Proofs.Ytmfdnphjhbbkiaa

/- The walk of the law TypingScopes. -/
set_option linter.unusedSimpArgs false
set_option linter.unusedVariables false
set_option maxRecDepth 100000
namespace Go.Proofs.Ytmfdnphjhbbkiaa
open Go.RowKit

theorem drewN_belS {B : Nat} {a w : World} (h : Below B a w) (n : Nat) : Below B a (w.drewN n) := h.trans ⟨rfl, rfl, rfl, Nat.le_refl _, fun _ _ => rfl⟩
theorem plOf_core {L M : List Sx} (h : M.map Sx.core = L.map Sx.core) : plOf M = plOf L := by
  have e : ∀ K : List Sx, plOf K = (K.map Sx.core).flatMap fun c => (colsOf c.2).map fun d => (c.1, d) := fun K => by
    unfold plOf; rw [List.flatMap_map]
  rw [e, e, h]
theorem kdAt {N : Nat} {w : World} {a : Option Addr} {l : List Col} (h : Arr N w a (cellsOf kdCell l)) {k : Nat} (hk : k < l.length) : ∃ b o, a = some ⟨b, o, none⟩ ∧ b < N ∧ w.cell? ⟨b, o + k, none⟩ = some (.int .u8 (l[k].kd : Int)) := by
  obtain ⟨b, o, ha, hb, hc⟩ := h.at_ (by intro h0; have := cellsOf_len kdCell 1 (fun _ => rfl) l; rw [h0] at this; simp at this; omega)
  exact ⟨b, o, ha, hb, by simpa using hc _ _ (cellsOf_get kdCell 1 (fun _ => rfl) l k 0 l[k] _ (List.getElem?_eq_getElem hk) rfl)⟩
theorem nmAt {N : Nat} {w : World} {a : Option Addr} {l : List Col} (h : Arr N w a (cellsOf nmCell l)) {k : Nat} (hk : k < l.length) : ∃ b o, a = some ⟨b, o, none⟩ ∧ b < N ∧ w.cell? ⟨b, o + k, none⟩ = some (.string l[k].nm) := by
  obtain ⟨b, o, ha, hb, hc⟩ := h.at_ (by intro h0; have := cellsOf_len nmCell 1 (fun _ => rfl) l; rw [h0] at this; simp at this; omega)
  exact ⟨b, o, ha, hb, by simpa using hc _ _ (cellsOf_get nmCell 1 (fun _ => rfl) l k 0 l[k] _ (List.getElem?_eq_getElem hk) rfl)⟩

set_option maxRecDepth 100000 in
set_option maxHeartbeats 16000000 in
theorem scopes22_walk (a : Option Addr) (len cap : Nat) (L : List Sx) (table name : ByteArray) (w : World) (h : ScIn w a len cap L) (ht : table.size ≤ maxLen) (hn : name.size ≤ maxLen) :
    Calls Try.prog 3 #[.slice a len cap, .string table, .string name] w fun e w' => e = .returned (.bool true) ∧ Below w.heap.size w w' := by
  have HAl := Lib.hid (fun W => alive22_any W)
  have HG := Lib.hid (great22_any L a len cap w h)
  have HL := Lib.hid h.hlen
  unfold maxLen at hn ht
  obtain ⟨P, hP⟩ : ∃ P, plOf L = P := ⟨_, rfl⟩
  obtain ⟨p, hp⟩ : ∃ p, P.length = p := ⟨_, rfl⟩
  have hpa : (allOf L).length = p := by rw [← plOf_len, hP, hp]
  have hPa : P.map (·.2) = allOf L := by rw [← hP]; exact plOf_all L
  have HSc : Hid (SmallSc L → ∀ W, Below w.heap.size w W → ScAt W a cap L) := fun hs W hb => (h.at_ hs).later hb
  have HSl : Hid (SmallSc L → ∀ W, Below w.heap.size w W → Calls Try.prog 11 #[.slice a len cap, .string table, .string name] W fun e w' => e = .returned (.tuple #[.int .i64 (slotV (hitP table name) P).1, .int .i64 (slotV (hitP table name) P).2]) ∧ Below W.heap.size W w') := fun hs W hb => by
    have := slot_any22 L a cap table name W ((h.at_ hs).later hb)
    rw [← h.hlen, hP] at this; exact this
  have HNm : Hid (SmallSc L → ∀ W, Below w.heap.size w W → Calls Try.prog 10 #[.slice a len cap] W (RetOwn W 9 1 (cellsOf nmCell (allOf L)) p)) := fun hs W hb => by
    have := names_any22 L a cap W ((h.at_ hs).later hb)
    rw [← h.hlen, hpa] at this; exact this
  have HKd : Hid (SmallSc L → ∀ W, Below w.heap.size w W → Calls Try.prog 9 #[.slice a len cap] W (RetOwn W 5 1 (cellsOf kdCell (allOf L)) p)) := fun hs W hb => by
    have := kinds_any22 L a cap W ((h.at_ hs).later hb)
    rw [← h.hlen, hpa] at this; exact this
  have HSs : Hid (SmallSc L → ∀ W, Below w.heap.size w W → Calls Try.prog 13 #[.slice a len cap] W fun e w' => e = .returned (.int .i64 (p : Int)) ∧ Below W.heap.size W w') := fun hs W hb => by
    have := slots_any L a cap W ((h.at_ hs).later hb)
    rw [← h.hlen, hpa] at this; exact this
  have HAs : Hid (SmallSc L → ∀ W, Below w.heap.size w W → Calls Try.prog 8 #[.slice a len cap] W fun e w' => ∃ (a2 : Option Addr) (c2 : Nat) (M : List Sx), e = .returned (.slice a2 len c2) ∧ M.map Sx.core = L.map Sx.core ∧ ScAt w' a2 c2 M ∧ Below W.heap.size W w') := fun hs W hb => by
    have := as22_any L a cap W ((h.at_ hs).later hb)
    unfold RetSc at this
    rw [← h.hlen] at this; exact this
  have HPl : Hid (∀ (a2 : Option Addr) (c2 : Nat) (M : List Sx) W, M.map Sx.core = L.map Sx.core → ScAt W a2 c2 M → Calls Try.prog 7 #[.slice a2 len c2] W (RetOwn W 39 3 (cellsOf plC P) p)) := fun a2 c2 M W hM hS => by
    have := places_any22 M a2 c2 W hS
    have hl : M.length = len := by have := congrArg List.length hM; rw [List.length_map, List.length_map, ← h.hlen] at this; exact this
    rw [hl, plOf_core hM, hP, hp] at this; exact this
  have HRs : Hid (p ≤ 100000000 → ∀ (a2 : Option Addr) (c2 : Nat) W, Arr W.heap.size W a2 (cellsOf plC P) → Calls Try.prog 12 #[.slice a2 p c2, .string table, .string name] W fun e w' => e = .returned (.tuple #[.int .i64 (slotV (hitP table name) P).1, .int .i64 (slotV (hitP table name) P).2]) ∧ w' = W) := fun hl a2 c2 W hA => by
    have := rSlot_any22 P a2 c2 table name W hA (by rw [hp]; exact hl)
    rw [hp] at this; exact this
  have HAll : Hid (SmallSc L → p ≤ 100000000) := fun hs => by rw [← hpa]; exact allOf_len (h.at_ hs)
  have HPa := Lib.hid hPa
  have HPp := Lib.hid hp
  have HPq := Lib.hid hpa
  obtain ⟨⟨v1, v2⟩, hV⟩ : ∃ V, slotV (hitP table name) P = V := ⟨_, rfl⟩
  rw [hV] at HSl HRs
  simp only at HSl HRs
  have hcap := h.hcap
  have hmax := h.hmax
  clear h hP hp hpa hPa hV
  go_enter Try.func3, Try.ntmps3
  go_wp2_with fail
  refine HG.out.mono ?_
  rintro e w1 ⟨⟨g, rfl, hg⟩, hb1⟩
  have HB1 := Lib.hid hb1
  clear hb1 HG
  obtain ⟨c, hcs⟩ : ∃ c, (g = true ∨ 100 < table.size ∨ 100 < name.size) = c := ⟨_, rfl⟩
  by_cases hbig : g = true ∨ 100 < table.size ∨ 100 < name.size
  · have hcase : g = true ∨ (g = false ∧ decide ((100 : Int) < (table.size : Int)) = true) ∨ (g = false ∧ decide ((100 : Int) < (table.size : Int)) = false ∧ decide ((100 : Int) < (name.size : Int)) = true) := by
      cases g with
      | true => exact .inl rfl
      | false =>
        right
        by_cases h1 : 100 < table.size
        · left; exact ⟨rfl, by simp; omega⟩
        · right
          rcases hbig with hb | hb | hb
          · cases hb
          · omega
          · exact ⟨rfl, by simp; omega, by simp; omega⟩
    clear hbig hcs hg
    rcases hcase with rfl | ⟨rfl, q1⟩ | ⟨rfl, q1, q2⟩
    all_goals
      go_wp2_with fail
      refine (HAl.out _).mono ?_
      rintro e w2 ⟨rfl, hb2⟩
      have HB2 := Lib.hid (HB1.out.trans (hb2.mono HB1.out.size))
      clear hb2
      go_wp2
      go_ret
      exact ⟨rfl, HB2.out⟩
  · obtain rfl : g = false := by cases g <;> simp_all
    have q1 : decide ((100 : Int) < (table.size : Int)) = false := by simp; omega
    have q2 : decide ((100 : Int) < (name.size : Int)) = false := by simp; omega
    have HSm := Lib.hid (hg rfl)
    have hpl := HAll.out HSm.out
    clear hbig hcs hg
    go_wp2_with fail
    refine (HAs.out HSm.out _ HB1.out).mono ?_
    rintro e w2 ⟨a2, c2, M, rfl, hM, hS2, hb2⟩
    have HB2 := Lib.hid (HB1.out.trans (hb2.mono HB1.out.size))
    have HP2 := Lib.hid (HPl.out a2 c2 M w2 hM hS2)
    clear hM hS2 hb2 q1 q2
    go_wp2_with fail
    refine HP2.out.mono ?_
    rintro e w3 ⟨v3, rfl, ho3, hb3⟩
    obtain ⟨a3, c3, rfl, hc3, hm3, hA3⟩ := own_slice ho3
    have HA3 := Lib.hid hA3
    have HB3 := Lib.hid (HB2.out.trans (hb3.mono HB2.out.size))
    clear ho3 hA3 hb3 HP2
    go_wp2_with fail
    refine (HKd.out HSm.out _ HB3.out).mono ?_
    rintro e w4 ⟨v4, rfl, ho4, hb4⟩
    obtain ⟨a4, c4, rfl, hc4, hm4, hA4⟩ := own_slice ho4
    have HA4 := Lib.hid hA4
    have HA34 : Hid (Arr w4.heap.size w4 a3 (cellsOf plC P)) := (HA3.out.below hb4).mono hb4.size
    have HB4 := Lib.hid (HB3.out.trans (hb4.mono HB3.out.size))
    clear ho4 hA4 hb4
    go_wp2_with fail
    refine (HNm.out HSm.out _ HB4.out).mono ?_
    rintro e w5 ⟨v5, rfl, ho5, hb5⟩
    obtain ⟨a5, c5, rfl, hc5, hm5, hA5⟩ := own_slice ho5
    have HA5 := Lib.hid hA5
    have HA35 : Hid (Arr w5.heap.size w5 a3 (cellsOf plC P)) := (HA34.out.below hb5).mono hb5.size
    have HA45 : Hid (Arr w5.heap.size w5 a4 (cellsOf kdCell (allOf L))) := (HA4.out.below hb5).mono hb5.size
    have HB5 := Lib.hid (HB4.out.trans (hb5.mono HB4.out.size))
    clear ho5 hA5 hb5
    go_wp2_with fail
    refine (HSl.out HSm.out _ HB5.out).mono ?_
    rintro e w6 ⟨rfl, hb6⟩
    have HA36 : Hid (Arr w6.heap.size w6 a3 (cellsOf plC P)) := (HA35.out.below hb6).mono hb6.size
    have HA46 : Hid (Arr w6.heap.size w6 a4 (cellsOf kdCell (allOf L))) := (HA45.out.below hb6).mono hb6.size
    have HA56 : Hid (Arr w6.heap.size w6 a5 (cellsOf nmCell (allOf L))) := (HA5.out.below hb6).mono hb6.size
    have HB6 := Lib.hid (HB5.out.trans (hb6.mono HB5.out.size))
    clear hb6
    go_wp2_with fail
    refine (HRs.out hpl a3 c3 w6 HA36.out).mono ?_
    rintro e w7 ⟨rfl, rfl⟩
    go_wp2_with fail
    refine (HSs.out HSm.out _ HB6.out).mono ?_
    rintro e w8 ⟨rfl, hb8⟩
    have HA38 : Hid (Arr w8.heap.size w8 a3 (cellsOf plC P)) := (HA36.out.below hb8).mono hb8.size
    have HA48 : Hid (Arr w8.heap.size w8 a4 (cellsOf kdCell (allOf L))) := (HA46.out.below hb8).mono hb8.size
    have HA58 : Hid (Arr w8.heap.size w8 a5 (cellsOf nmCell (allOf L))) := (HA56.out.below hb8).mono hb8.size
    have HB8 := Lib.hid (HB6.out.trans (hb8.mono HB6.out.size))
    have n1 : ((p : Int) != (p : Int)) = false := by simp
    have n2 : (v1 != v1) = false := by simp
    have n3 : (v2 != v2) = false := by simp
    clear hb8
    go_wp2
    clear n1 n2 n3
    go_loopw [14] (fun i wr => ∃ k : Nat, k ≤ p ∧ i = .int .i64 (k : Int) ∧ Hid (Below w8.heap.size w8 wr)) (fun i _ => p - (intOf i).toNat)
    case atStart => exact ⟨0, by omega, rfl, Below.refl _ _⟩
    case round =>
      obtain ⟨k, hk, rfl, HB⟩ := hrel
      have HBw := Lib.hid (HB8.out.trans (HB.out.mono HB8.out.size))
      by_cases hlt : k < p
      · have q0 : decide ((k : Int) < (p : Int)) = true := by simp; omega
        have hkl : k < P.length := by rw [HPp.out]; exact hlt
        have hka : k < (allOf L).length := by rw [HPq.out]; exact hlt
        obtain ⟨b3, o3, h3, hN3, t0, t1, t2⟩ := plAt ((HA38.out.below HB.out).mono HB.out.size) hkl
        obtain ⟨b4, o4, h4, hN4, s0⟩ := kdAt ((HA48.out.below HB.out).mono HB.out.size) hka
        obtain ⟨b5, o5, h5, hN5, r0⟩ := nmAt ((HA58.out.below HB.out).mono HB.out.size) hka
        have he : (allOf L)[k] = P[k].2 := by
          have h1 : (allOf L)[k]? = some P[k].2 := by rw [← HPa.out, List.getElem?_map, List.getElem?_eq_getElem hkl]; rfl
          rw [List.getElem?_eq_getElem hka] at h1
          exact Option.some.inj h1
        rw [he] at s0 r0
        generalize P[k] = x at *
        obtain ⟨al, cc⟩ := x
        dsimp only at t0 t1 t2 s0 r0
        subst h3 h4 h5
        have n1 : ((cc.kd : Int) != (cc.kd : Int)) = false := by simp
        have n2 : (cc.nm.toList != cc.nm.toList) = false := by simp
        clear hkl hka hN3 hN4 hN5 he t0
        go_wp2_with fail
        go_quiet (fail)
        go_wp2
        go_roundw
        case rel => exact ⟨k + 1, by omega, by go_num, drewN_belS HB.out _⟩
        case measure => (simp [intOf] <;> try omega)
      · have q0 : decide ((k : Int) < (p : Int)) = false := by simp; omega
        go_wp2_with fail
        refine (HAl.out _).mono ?_
        rintro e w9 ⟨rfl, hb9⟩
        have HB9 := Lib.hid (HBw.out.trans (hb9.mono HBw.out.size))
        clear hb9
        go_wp2
        go_ret
        exact ⟨rfl, HB9.out⟩
end Go.Proofs.Ytmfdnphjhbbkiaa
