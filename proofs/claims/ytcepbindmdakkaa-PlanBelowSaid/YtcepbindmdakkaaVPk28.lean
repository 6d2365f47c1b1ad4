/- Several texts of one proof, one behind the other. -/
import Derived.Test.YtcepbindmdakkaaVPk27
import Derived.BigQuiet
set_option linter.unusedSimpArgs false
set_option linter.unusedVariables false

/- A region walked along a tree of orders, where all that was made since its beginning may be written; the rest behind it is walked once, from what R tells. -/
set_option linter.unusedSimpArgs false
set_option linter.unusedVariables false
set_option maxRecDepth 100000
namespace Go.Proofs.Ytcepbindmdakkaa
open Go.RowKit

/-- What the region's end must tell. -/
def cutQ (R : Act → World → Prop) (Q : Exit → Act → World → Prop) : Exit → Act → World → Prop
  | .normal, a, w => R a w
  | e, a, w => Q e a w
theorem wp_region_treeK {P : Program} {ops : Array Oper} {Q : Exit → Act → World → Prop} {id : Nat} {a : Act} {w : World} (N : Nat) (t : OT) (R : Act → Act → World → Prop) (hm : P.follows .mixedOrders = true) (hs : Region.noSelect ops = true)
    (hl : decide (t.high ≤ ops.size) = true) (hc : checkT .any ops t (Array.replicate ops.size false) = true) (h : wpT P ops (NoPanic (cutQ (R a) Q)) (Kp N (fun _ => True)) t a w.drew) (hq : ∀ a' w', R a a' w' → Q .normal a' w') : (Code.region id ops true).wp P Q a w :=
  Code.wp_mono (Q := cutQ (R a) Q) (fun e a' w' h => by cases e <;> first | exact hq _ _ h | exact h)
    (wp_region_noPanic (wp_region_held hm (wpT_sound (Kp.refl N _) Kp.trans hs (NoPanic.put _) t ops.size _ a w.drew (of_decide_eq_true hl) hc h)))
end Go.Proofs.Ytcepbindmdakkaa

/- The walk of law 24's alive. Written by wip/gen/genpn18.py. -/
set_option linter.unusedSimpArgs false
set_option linter.unusedVariables false
set_option maxRecDepth 100000
namespace Go.Proofs.Ytcepbindmdakkaa
open Go.RowKit

abbrev colL : NLb := ⟨2, ⟨#[]⟩, ⟨0, 0, ⟨#[]⟩⟩, 0, 1⟩
abbrev oneL : NLb := ⟨1, ⟨#[]⟩, ⟨1, 1, ⟨#[]⟩⟩, 0, 1⟩
abbrev bnL (c : UInt8) : NLb := ⟨4, ⟨#[c]⟩, ⟨0, 0, ⟨#[]⟩⟩, 0, 1⟩
abbrev colT : Nx := .mk colL []
abbrev oneT : Nx := .mk oneL []
abbrev binT (c : UInt8) : Nx := .mk (bnL c) [colT, oneT]
abbrev colCs : Array Value := #[.int .i64 2, .string ⟨#[]⟩, .int .u8 0, .int .i64 0, .string ⟨#[]⟩, .int .i64 0, .int .u8 1, .slice none 0 0]
abbrev oneCs : Array Value := #[.int .i64 1, .string ⟨#[]⟩, .int .u8 1, .int .i64 1, .string ⟨#[]⟩, .int .i64 0, .int .u8 1, .slice none 0 0]
abbrev binCs (c : UInt8) (h : Nat) : Array Value := #[.int .i64 4, .string ⟨#[c]⟩, .int .u8 0, .int .i64 0, .string ⟨#[]⟩, .int .i64 0, .int .u8 1, .slice (some ⟨h, 0, none⟩) 2 2]
abbrev argCs : Array Value := #[.int .i64 2, .string ⟨#[]⟩, .int .u8 0, .int .i64 0, .string ⟨#[]⟩, .int .i64 0, .int .u8 1, .slice none 0 0, .int .i64 1, .string ⟨#[]⟩, .int .u8 1, .int .i64 1, .string ⟨#[]⟩, .int .i64 0, .int .u8 1, .slice none 0 0]
theorem allocSz24 (w : World) (o : Obj) : (w.alloc o).heap.size = w.heap.size + 1 := by simp
theorem cutQ_intro24 {R : Act → World → Prop} {Q : Exit → Act → World → Prop} {a : Act} {w : World} (h : R a w) : cutQ R Q .normal a w := h

theorem col24_any (w : World) : Calls Try.prog 13 #[.int .i64 0] w fun e w' => e = .returned (.agg colCs) ∧ Below w.heap.size w w' := by
  have hB := Blk.new w 36 zeroNdc
  have HS : Hid ((storeVar 36 ⟨w.heap.size, 0, none⟩ (.agg colCs)).run Try.prog (w.alloc (.cells zeroNdc 36)) = .ok () ((w.alloc (.cells zeroNdc 36)).setRow w.heap.size colCs)) :=
    run_storeVar_row _ _ _ 36 _ _ hB (by rw [info_ndS]; rfl) rfl (by simp [Value.oneCell'])
  have HL : Hid ((loadVar 36 ⟨w.heap.size, 0, none⟩).run Try.prog ((w.alloc (.cells zeroNdc 36)).setRow w.heap.size colCs) = .ok (.agg colCs) ((w.alloc (.cells zeroNdc 36)).setRow w.heap.size colCs)) :=
    run_loadVar_row _ _ _ 36 _ (0, 0) _ (Blk.setRow (new := colCs) hB) Try.underlying36 rfl (by rw [info_ndS]; rfl)
  have hc : Chg [w.heap.size] (w.alloc (.cells zeroNdc 36)) ((w.alloc (.cells zeroNdc 36)).setRow w.heap.size colCs) := (Chg.refl _ _).setRow (.inl (by simp)) _
  have HB : Hid (Below w.heap.size w ((w.alloc (.cells zeroNdc 36)).setRow w.heap.size colCs)) := ((Below.refl _ w).alloc (Nat.le_refl _) _).trans (hc.below (by simp) (by simp))
  clear hB hc
  go_enter Try.func13, Try.ntmps13
  go_wp2_with (first | (guard_target =~ wpList _ _ _ (Oper.mk _ (Op.store 36 _ _) _ _ _ _ :: _) _ _; refine wpList_skp rfl (exec_store rfl rfl rfl HS.out) ?_))
  exact bodyPost_ret (v := .agg colCs) (results_cell1x Try.results13 _ _ rfl HL.out) rfl ⟨rfl, HB.out⟩

/-- How far a region that makes a sum of two nodes has come. -/
structure CS (w2 W : World) (o4 o2 : Option Nat) : Prop where
  bel : Below w2.heap.size w2 W
  b4 : ∀ g, o4 = some g → Blk W g 36 zeroNdc ∧ w2.heap.size ≤ g
  b2 : ∀ h, o2 = some h → Blk W h 36 argCs ∧ w2.heap.size ≤ h
  ne : ∀ g h, o4 = some g → o2 = some h → g ≠ h
theorem CS.new (w2 : World) : CS w2 w2.drew none none := ⟨(Below.refl _ _).drew, fun _ h => (by cases h), fun _ h => (by cases h), fun _ _ h => (by cases h)⟩
theorem CS.later {w2 W W' : World} {o4 o2 : Option Nat} (h : CS w2 W o4 o2) (hb : Below W.heap.size W W') : CS w2 W' o4 o2 :=
  ⟨h.bel.trans (hb.mono h.bel.size), fun g e => ⟨(hb.block g (h.b4 g e).1.lt).trans (h.b4 g e).1, (h.b4 g e).2⟩, fun g e => ⟨(hb.block g (h.b2 g e).1.lt).trans (h.b2 g e).1, (h.b2 g e).2⟩, h.ne⟩
theorem CS.alloc4 {w2 W : World} {o2 : Option Nat} (h : CS w2 W none o2) : CS w2 (W.alloc (.cells zeroNdc 36)) (some W.heap.size) o2 := by
  have k := h.later ((Below.refl _ W).alloc (Nat.le_refl _) (.cells zeroNdc 36))
  refine ⟨k.bel, fun g e => ?_, k.b2, fun g g' e e' => ?_⟩
  · injection e with e; subst e; exact ⟨Blk.new _ _ _, h.bel.size⟩
  · injection e with e; subst e; have := (h.b2 g' e').1.lt; omega
theorem CS.alloc2 {w2 W : World} {o4 : Option Nat} (h : CS w2 W o4 none) : CS w2 (W.alloc (.cells argCs 36)) o4 (some W.heap.size) := by
  have k := h.later ((Below.refl _ W).alloc (Nat.le_refl _) (.cells argCs 36))
  refine ⟨k.bel, k.b4, fun g e => ?_, fun g g' e e' => ?_⟩
  · injection e with e; subst e; exact ⟨Blk.new _ _ _, h.bel.size⟩
  · injection e' with e'; subst e'; have := (h.b4 g e).1.lt; omega
/-- A sum of two nodes in its variable. -/
structure CF (w2 W : World) (c : UInt8) (g h : Nat) : Prop where
  bel : Below w2.heap.size w2 W
  b4 : Blk W g 36 (binCs c h)
  b2 : Blk W h 36 argCs
theorem CF.later {w2 W W' : World} {c : UInt8} {g h : Nat} (k : CF w2 W c g h) (hb : Below W.heap.size W W') : CF w2 W' c g h :=
  ⟨k.bel.trans (hb.mono k.bel.size), (hb.block g k.b4.lt).trans k.b4, (hb.block h k.b2.lt).trans k.b2⟩
theorem CS.final {w2 W : World} {g h : Nat} (k : CS w2 W (some g) (some h)) (c : UInt8) : Blk W g 36 zeroNdc ∧ Kp w2.heap.size (fun _ => True) W (W.setRow g (binCs c h)) ∧ CF w2 (W.setRow g (binCs c h)) c g h := by
  obtain ⟨b4, n4⟩ := k.b4 g rfl
  obtain ⟨b2, n2⟩ := k.b2 h rfl
  have hne := k.ne g h rfl rfl
  have c1 : Chg [g] W (W.setRow g (binCs c h)) := (Chg.refl _ _).setRow (.inl (List.mem_singleton.2 rfl)) _
  exact ⟨b4, Kp.of_chg c1 (fun q hq => by rw [List.mem_singleton.1 hq]; exact ⟨n4, trivial⟩), k.bel.trans (c1.below k.bel.size (by simpa using n4)), Blk.setRow b4, b2.chg c1 (fun hm => hne (List.mem_singleton.1 hm).symm)⟩

theorem fairC : colL.fair := ⟨by decide, by decide, by decide, by decide, by decide, by decide, by decide⟩
theorem fairO : oneL.fair := ⟨by decide, by decide, by decide, by decide, by decide, by decide, by decide⟩
theorem fairBn (c : UInt8) : (bnL c).fair := ⟨(by show (-9223372036854775808 : Int) ≤ 4 ∧ (4 : Int) ≤ 9223372036854775807; decide), (by show 1 ≤ 9223372036854775807; decide), (by show 0 < 256; decide), (by show (-9223372036854775808 : Int) ≤ 0 ∧ (0 : Int) ≤ 9223372036854775807; decide), (by show 0 ≤ 9223372036854775807; decide), (by show (-9223372036854775808 : Int) ≤ 0 ∧ (0 : Int) ≤ 9223372036854775807; decide), (by show 1 < 256; decide)⟩
/-- A sum of two nodes as a tree in memory. -/
theorem bin_at {W : World} {h : Nat} (c : UInt8) (hB : Blk W h 36 argCs) : NdAt W.heap.size W 2 ⟨binT c, some ⟨h, 0, none⟩, 2⟩ := by
  refine ⟨fairBn c, Nat.le_refl _, by show 2 ≤ 9223372036854775807; decide, [⟨colT, none, 0⟩, ⟨oneT, none, 0⟩], rfl, .inr ⟨h, 0, rfl, hB.lt, fun i v hi => ?_⟩, fun y hy => ?_⟩
  · rw [Nat.zero_add]
    exact (hB.cell i).trans (by rw [← hi]; simp [cellsOf, cellsR, NLb.cells, Rose.lab, Rose.args])
  · simp only [List.mem_cons, List.not_mem_nil, or_false] at hy
    rcases hy with rfl | rfl
    · exact ⟨fairC, Nat.le_refl _, by show 0 ≤ 9223372036854775807; decide, [], rfl, .inl rfl, fun y hy => by cases hy⟩
    · exact ⟨fairO, Nat.le_refl _, by show 0 ≤ 9223372036854775807; decide, [], rfl, .inl rfl, fun y hy => by cases hy⟩
theorem cnt_eq : (binT 61).count ≤ 200 := by decide +kernel
theorem cnt_sum : (binT 43).count ≤ 200 := by decide +kernel
theorem safe_col : safeN colT = true := by rw [safeN_eq]; decide
theorem safe_one : safeN oneT = true := by rw [safeN_eq]; decide
theorem safe_eq : safeN (binT 61) = true := by rw [safeN_eq]; simp [Rose.lab, Rose.args, safe_col, safe_one]; decide +kernel
theorem safe_sum : safeN (binT 43) = false := by
  rw [safeN_eq]
  have : isSafeN (binT 43).lab (binT 43).args.length = false := by decide +kernel
  rw [this]; rfl
theorem cond_eq : condSafe [binT 61] = true := by simp [condSafe, safe_eq]
theorem cond_two : condSafe [binT 61, binT 43] = false := by simp [condSafe, safe_sum, Rose.lab]
theorem use_one : useN oneT = [] := by rw [useN_eq]; simp [useL, Rose.lab, Rose.args]
theorem low_one : lowZ 0 oneT = true := by
  unfold lowZ usedZ
  rw [use_one]
  decide +kernel
theorem and_eq : isAnd (binT 61) = false := by decide +kernel
theorem part_eq : condParts [binT 61] = [binT 61] := by
  unfold condParts
  simp only [List.flatMap_cons, List.flatMap_nil, List.append_nil]
  rw [if_neg (by decide), partN_eq, and_eq]; simp
theorem key_eq : ∀ i ∈ ([0] : List Int), (eqParts (0 + i) 0 [binT 61]).isSome = true := by
  intro i hi
  rw [List.mem_singleton.1 hi]
  have hb : binN (binT 61) [61] = true := by decide +kernel
  have ha : eqArg 0 0 colT oneT = true := by unfold eqArg; rw [low_one]; decide
  have : eqParts (0 + 0) 0 [binT 61] = some oneT := by
    unfold eqParts
    simp only [List.findSome?_cons, List.findSome?_nil]
    unfold eqPart
    rw [if_pos hb]
    simp only [Rose.args]
    rw [show (0 : Int) + 0 = 0 from rfl, if_pos ha]
  rw [this]; rfl
/-- The table. -/
abbrev tab24 (k : Nat) : PTm := ⟨⟨0, 2, [0], [], true⟩, some ⟨k, 0, none⟩, 1, none, 0⟩
theorem paths24 (k : Nat) : pathsZ (tab24 k).t = true := by show pathsZ ⟨0, 2, [0], [], true⟩ = true; decide
theorem small_24 (k : Nat) : smallT (tab24 k) := ⟨by show (1 : Nat) ≤ 20; decide, by show (0 : Nat) ≤ 20; decide, by show ((-10000 : Int) < 0 ∧ (0 : Int) < 10000); decide, by show ((-10000 : Int) < 2 ∧ (2 : Int) < 10000); decide⟩
theorem tabs24 {W : World} {k g : Nat} (hk : Blk W k 3 #[.int .i64 0]) (hg : Blk W g 29 #[.int .i64 0, .int .i64 2, .slice (some ⟨k, 0, none⟩) 1 1, .slice none 0 0, .bool true]) : PsIn W (some ⟨g, 0, none⟩) 1 1 [tab24 k] := by
  refine ⟨rfl, Nat.le_refl _, by decide, .inr ⟨g, 0, rfl, hg.lt, fun i v hi => ?_⟩, fun x hx => ?_⟩
  · rw [Nat.zero_add]
    exact (hg.cell i).trans (by rw [← hi]; simp [cellsPT, cellsOf, PTm.cl, PTm.cells])
  · rw [List.mem_singleton.1 hx]
    refine ⟨⟨.inr ⟨k, 0, rfl, hk.lt, fun i v hi => ?_⟩, (by show 1 ≤ 1; decide), (by show 1 ≤ 9223372036854775807; decide), .inl rfl, Nat.le_refl _, (by show 0 ≤ 9223372036854775807; decide)⟩, (by show (-9223372036854775808 : Int) ≤ 0 ∧ (0 : Int) ≤ 9223372036854775807; decide), (by show (-9223372036854775808 : Int) ≤ 2 ∧ (2 : Int) ≤ 9223372036854775807; decide), fun j hj => ?_, fun j hj => (by cases hj)⟩
    · rw [Nat.zero_add]
      exact (hk.cell i).trans (by rw [← hi]; simp)
    · have : j = 0 := by simpa using hj
      subst this; decide
theorem nodes24 {W : World} {g h : Nat} (c : UInt8) (hh : Blk W h 36 argCs) (hg : Blk W g 36 (binCs c h)) : NsAt W.heap.size W 2 (some ⟨g, 0, none⟩) 1 [⟨binT c, some ⟨h, 0, none⟩, 2⟩] := by
  refine ⟨.inr ⟨g, 0, rfl, hg.lt, fun i v hi => ?_⟩, fun y hy => ?_, Nat.le_refl _, by decide⟩
  · rw [Nat.zero_add]
    exact (hg.cell i).trans (by rw [← hi]; simp [cellsNs, cellsOf, cellsNd, cellsR, NLb.cells, Rose.lab, Rose.args])
  · rw [List.mem_singleton.1 hy]; exact bin_at c hh
abbrev twoCs (h h2 : Nat) : Array Value := #[.int .i64 4, .string ⟨#[61]⟩, .int .u8 0, .int .i64 0, .string ⟨#[]⟩, .int .i64 0, .int .u8 1, .slice (some ⟨h, 0, none⟩) 2 2, .int .i64 4, .string ⟨#[43]⟩, .int .u8 0, .int .i64 0, .string ⟨#[]⟩, .int .i64 0, .int .u8 1, .slice (some ⟨h2, 0, none⟩) 2 2]
theorem nodes24b {W : World} {g h h2 : Nat} (hh : Blk W h 36 argCs) (hh2 : Blk W h2 36 argCs) (hg : Blk W g 36 (twoCs h h2)) : NsAt W.heap.size W 2 (some ⟨g, 0, none⟩) 2 [⟨binT 61, some ⟨h, 0, none⟩, 2⟩, ⟨binT 43, some ⟨h2, 0, none⟩, 2⟩] := by
  refine ⟨.inr ⟨g, 0, rfl, hg.lt, fun i v hi => ?_⟩, fun y hy => ?_, Nat.le_refl _, by decide⟩
  · rw [Nat.zero_add]
    exact (hg.cell i).trans (by rw [← hi]; simp [cellsNs, cellsOf, cellsNd, cellsR, NLb.cells, Rose.lab, Rose.args])
  · simp only [List.mem_cons, List.not_mem_nil, or_false] at hy
    rcases hy with rfl | rfl
    · exact bin_at 61 hh
    · exact bin_at 43 hh2
/-- What a row of one step holds. -/
theorem RetSteps.one {sf : Bool} {P : List Nx} {w w' : World} {n : Nat} {t : PTm} {e : Ending} (h : RetSteps sf P w n [t] e w') :
    ∃ (b o cap : Nat) (kd co : Int) (a : Option Addr) (c : Nat) (L : List NM), e = .returned (.slice (some ⟨b, o, none⟩) 1 cap) ∧ b < w'.heap.size ∧ 1 ≤ cap ∧ w'.cell? ⟨b, o, none⟩ = some (.int .i64 kd) ∧ w'.cell? ⟨b, o + 2, none⟩ = some (.slice a L.length c) ∧ okAt sf P t ⟨kd, co, a, c, L⟩ ∧ Below w.heap.size w w' := by
  obtain ⟨v, D, rfl, hD, hb⟩ := h
  match D, hD.len with
  | [d], _ =>
    obtain ⟨a, cap, hv, h1, h2, h3⟩ := own_slice hD.row
    rcases h3 with h0 | ⟨b, o, rfl, hbl, hc⟩
    · simp [cellsOf, cellsS3] at h0
    · have g0 := hc 0 _ rfl
      have g2 := hc 2 _ rfl
      exact ⟨b, o, cap, d.kd, d.co, d.a, d.cap, d.L, by rw [hv]; rfl, hbl, h1, by simpa using g0, g2, hD.ok 0 t d rfl rfl, hb⟩

set_option maxHeartbeats 16000000 in
theorem alive24_any (w : World) : Calls Try.prog 5 #[] w fun e w' => e = .returned (.bool true) ∧ Below w.heap.size w w' := by
  have HCol := Lib.hid (fun W => col24_any W)
  obtain ⟨w1, hw1⟩ : ∃ w1, (w.alloc (.cells zeroNdc 36)).setRow w.heap.size oneCs = w1 := ⟨_, rfl⟩
  have hB := Blk.new w 36 zeroNdc
  have HS1 : Hid ((storeVar 36 ⟨w.heap.size, 0, none⟩ (.agg oneCs)).run Try.prog (w.alloc (.cells zeroNdc 36)) = .ok () w1) := by
    rw [← hw1]; exact run_storeVar_row _ _ _ 36 _ _ hB (by rw [info_ndS]; rfl) rfl (by simp [Value.oneCell'])
  have HV1 : Hid (Blk w1 w.heap.size 36 oneCs) := by rw [← hw1]; exact Blk.setRow (new := oneCs) hB
  have HB1 : Hid (Below w.heap.size w w1) := by
    rw [← hw1]
    have hc : Chg [w.heap.size] (w.alloc (.cells zeroNdc 36)) ((w.alloc (.cells zeroNdc 36)).setRow w.heap.size oneCs) := (Chg.refl _ _).setRow (.inl (by simp)) _
    exact ((Below.refl _ w).alloc (Nat.le_refl _) _).trans (hc.below (by simp) (by simp))
  have HOne : Hid (∀ W, Below w1.heap.size w1 W → Slot8 W w.heap.size (.int .i64 1) (.string ⟨#[]⟩) (.int .u8 1) (.int .i64 1) (.string ⟨#[]⟩) (.int .i64 0) (.int .u8 1) (.slice none 0 0)) := fun W hb => by
    have h := (hb.block _ HV1.out.lt).trans HV1.out
    exact ⟨(Blk.cell h 0).trans rfl, (Blk.cell h 1).trans rfl, (Blk.cell h 2).trans rfl, (Blk.cell h 3).trans rfl, (Blk.cell h 4).trans rfl, (Blk.cell h 5).trans rfl, (Blk.cell h 6).trans rfl, (Blk.cell h 7).trans rfl⟩
  clear hB hw1
  go_enter Try.func5, Try.ntmps5
  go_upto_region 2 with (first | (guard_target =~ wpList _ _ _ (Oper.mk _ (Op.store 36 _ _) _ _ _ _ :: _) _ _; refine wpList_skp rfl (exec_store rfl rfl rfl HS1.out) ?_))
  refine wp_region_treeK (w1.heap.size) (.free 1 (.two 0 4 (.two 2 4 (.free 3 (.one 4 (.one 5 (.nil)))) (.one 2 (.free 3 (.one 5 (.nil))))) (.one 0 (.one 2 (.free 3 (.one 5 (.nil))))))) (fun a a' W => ∃ (g h : Nat), a' = puts a [(some 10, .agg #[.int .i64 1, .string ⟨#[]⟩, .int .u8 1, .int .i64 1, .string ⟨#[]⟩, .int .i64 0, .int .u8 1, .slice none 0 0]), (some 9, .agg #[.int .i64 2, .string ⟨#[]⟩, .int .u8 0, .int .i64 0, .string ⟨#[]⟩, .int .i64 0, .int .u8 1, .slice none 0 0]), (some 11, .slice (some ⟨h, 0, none⟩) 2 2), (some 12, .agg #[.int .i64 4, .string ⟨#[61]⟩, .int .u8 0, .int .i64 0, .string ⟨#[]⟩, .int .i64 0, .int .u8 1, .slice (some ⟨h, 0, none⟩) 2 2]), (some 2, .pointer (some ⟨g, 0, none⟩))] ∧ CF w1 W 61 g h) (by kernel_rfl) (by kernel_rfl) (by kernel_rfl) (by kernel_rfl) ?_ ?_
  · have HS := Lib.hid (CS.new w1)
    refine wpT_F (v := .agg #[.int .i64 1, .string ⟨#[]⟩, .int .u8 1, .int .i64 1, .string ⟨#[]⟩, .int .i64 0, .int .u8 1, .slice none 0 0]) rfl (by rfl) (fun w' hL => ?_) ?_
    · obtain ⟨x0, x1, x2, x3, x4, x5, x6, x7⟩ := HOne.out w' (Kp.below (Kp.undrew hL) (Nat.le_refl _))
      clear hL HS
      go_simp
    try simp only [Act.put, List.setIfInBounds_toArray, List.set_cons_zero, List.set_cons_succ]
    repeat' (first
      | refine wpT_three ?_ ?_ ?_
      | refine wpT_two ?_ ?_
      | (refine wpT_F (v := ?_) rfl (by rfl) (fun w' hL => ?_) ?_; rotate_left; (solve | (go_simp; with_reducible rfl) | go_simp); (try simp only [Act.put, List.setIfInBounds_toArray, List.set_cons_zero, List.set_cons_succ]))
      | (refine wpT_C (i := 4) rfl (by rfl) ?_; go_simp; refine ⟨Kp.of_below ((Below.refl _ _).alloc (Nat.le_refl _) _), ?_⟩; (try simp only [Act.put, List.setIfInBounds_toArray, List.set_cons_zero, List.set_cons_succ]); replace HS := Lib.hid HS.out.alloc4)
      | (refine wpT_C (i := 2) rfl (by rfl) ?_; go_simp; refine ⟨Kp.of_below ((Below.refl _ _).alloc (Nat.le_refl _) _), ?_⟩; (try simp only [Act.put, List.setIfInBounds_toArray, List.set_cons_zero, List.set_cons_succ]); replace HS := Lib.hid HS.out.alloc2)
      | (refine wpT_C (i := 0) rfl (by rfl) ?_; go_simp; refine (HCol.out _).mono ?_; rintro e z1 ⟨rfl, hb⟩; refine ⟨Kp.of_below hb, ?_⟩; (try simp only [Act.put, List.setIfInBounds_toArray, List.set_cons_zero, List.set_cons_succ]); replace HS := Lib.hid (HS.out.later hb); clear hb))
    all_goals (
      have hL := HS.out
      try simp only [allocSz24] at hL
      replace HS := Lib.hid hL
      clear hL
      obtain ⟨B4, K4, hF⟩ := HS.out.final 61
      refine wpT_C (i := 5) rfl (by rfl) ?_
      refine wp_skp (exec_store (ty := 36) rfl rfl rfl (run_storeVar_row _ _ _ 36 _ _ B4 (by rw [info_ndS]; rfl) rfl (by simp [Value.oneCell']))) ?_
      refine ⟨K4, ?_⟩
      try simp only [Act.put, List.setIfInBounds_toArray, List.set_cons_zero, List.set_cons_succ]
      exact wpT_nil (cutQ_intro24 ⟨_, _, by (simp only [puts, List.nil_append, List.cons_append, List.foldl_cons, List.foldl_nil, Act.put, List.setIfInBounds_toArray, List.set_cons_zero, List.set_cons_succ]) <;> rfl, hF⟩))
  rintro a2 w2 ⟨g2, h2, rfl, hF⟩
  have HF2 := Lib.hid hF
  have HB2 : Hid (Below w.heap.size w w2) := HB1.out.trans (hF.bel.mono HB1.out.size)
  have HOne2 : Hid (∀ W, Below w2.heap.size w2 W → Slot8 W w.heap.size (.int .i64 1) (.string ⟨#[]⟩) (.int .u8 1) (.int .i64 1) (.string ⟨#[]⟩) (.int .i64 0) (.int .u8 1) (.slice none 0 0)) := fun W hb => HOne.out W (HF2.out.bel.trans (hb.mono HF2.out.bel.size))
  clear hF
  simp only [puts, List.nil_append, List.cons_append, List.foldl_cons, List.foldl_nil, Act.put, List.setIfInBounds_toArray, List.set_cons_zero, List.set_cons_succ]
  go_upto_region 3 with fail
  refine wp_region_treeK (w2.heap.size) (.free 1 (.two 0 4 (.two 2 4 (.free 3 (.one 4 (.one 5 (.nil)))) (.one 2 (.free 3 (.one 5 (.nil))))) (.one 0 (.one 2 (.free 3 (.one 5 (.nil))))))) (fun a a' W => ∃ (g h : Nat), a' = puts a [(some 14, .agg #[.int .i64 1, .string ⟨#[]⟩, .int .u8 1, .int .i64 1, .string ⟨#[]⟩, .int .i64 0, .int .u8 1, .slice none 0 0]), (some 13, .agg #[.int .i64 2, .string ⟨#[]⟩, .int .u8 0, .int .i64 0, .string ⟨#[]⟩, .int .i64 0, .int .u8 1, .slice none 0 0]), (some 15, .slice (some ⟨h, 0, none⟩) 2 2), (some 16, .agg #[.int .i64 4, .string ⟨#[43]⟩, .int .u8 0, .int .i64 0, .string ⟨#[]⟩, .int .i64 0, .int .u8 1, .slice (some ⟨h, 0, none⟩) 2 2]), (some 3, .pointer (some ⟨g, 0, none⟩))] ∧ CF w2 W 43 g h) (by kernel_rfl) (by kernel_rfl) (by kernel_rfl) (by kernel_rfl) ?_ ?_
  · have HS := Lib.hid (CS.new w2)
    refine wpT_F (v := .agg #[.int .i64 1, .string ⟨#[]⟩, .int .u8 1, .int .i64 1, .string ⟨#[]⟩, .int .i64 0, .int .u8 1, .slice none 0 0]) rfl (by rfl) (fun w' hL => ?_) ?_
    · obtain ⟨x0, x1, x2, x3, x4, x5, x6, x7⟩ := HOne2.out w' (Kp.below (Kp.undrew hL) (Nat.le_refl _))
      clear hL HS
      go_simp
    try simp only [Act.put, List.setIfInBounds_toArray, List.set_cons_zero, List.set_cons_succ]
    repeat' (first
      | refine wpT_three ?_ ?_ ?_
      | refine wpT_two ?_ ?_
      | (refine wpT_F (v := ?_) rfl (by rfl) (fun w' hL => ?_) ?_; rotate_left; (solve | (go_simp; with_reducible rfl) | go_simp); (try simp only [Act.put, List.setIfInBounds_toArray, List.set_cons_zero, List.set_cons_succ]))
      | (refine wpT_C (i := 4) rfl (by rfl) ?_; go_simp; refine ⟨Kp.of_below ((Below.refl _ _).alloc (Nat.le_refl _) _), ?_⟩; (try simp only [Act.put, List.setIfInBounds_toArray, List.set_cons_zero, List.set_cons_succ]); replace HS := Lib.hid HS.out.alloc4)
      | (refine wpT_C (i := 2) rfl (by rfl) ?_; go_simp; refine ⟨Kp.of_below ((Below.refl _ _).alloc (Nat.le_refl _) _), ?_⟩; (try simp only [Act.put, List.setIfInBounds_toArray, List.set_cons_zero, List.set_cons_succ]); replace HS := Lib.hid HS.out.alloc2)
      | (refine wpT_C (i := 0) rfl (by rfl) ?_; go_simp; refine (HCol.out _).mono ?_; rintro e z1 ⟨rfl, hb⟩; refine ⟨Kp.of_below hb, ?_⟩; (try simp only [Act.put, List.setIfInBounds_toArray, List.set_cons_zero, List.set_cons_succ]); replace HS := Lib.hid (HS.out.later hb); clear hb))
    all_goals (
      have hL := HS.out
      try simp only [allocSz24] at hL
      replace HS := Lib.hid hL
      clear hL
      obtain ⟨B4, K4, hF⟩ := HS.out.final 43
      refine wpT_C (i := 5) rfl (by rfl) ?_
      refine wp_skp (exec_store (ty := 36) rfl rfl rfl (run_storeVar_row _ _ _ 36 _ _ B4 (by rw [info_ndS]; rfl) rfl (by simp [Value.oneCell']))) ?_
      refine ⟨K4, ?_⟩
      try simp only [Act.put, List.setIfInBounds_toArray, List.set_cons_zero, List.set_cons_succ]
      exact wpT_nil (cutQ_intro24 ⟨_, _, by (simp only [puts, List.nil_append, List.cons_append, List.foldl_cons, List.foldl_nil, Act.put, List.setIfInBounds_toArray, List.set_cons_zero, List.set_cons_succ]) <;> rfl, hF⟩))
  rintro a3 w3 ⟨g3, h3, rfl, hF⟩
  have HF3 := Lib.hid hF
  have HF2b := Lib.hid (HF2.out.later hF.bel)
  have HB3 : Hid (Below w.heap.size w w3) := HB2.out.trans (hF.bel.mono HB2.out.size)
  clear hF HOne HOne2 HF2 HV1 HB1 HB2
  simp only [puts, List.nil_append, List.cons_append, List.foldl_cons, List.foldl_nil, Act.put, List.setIfInBounds_toArray, List.set_cons_zero, List.set_cons_succ]
  -- the table
  obtain ⟨w4, hw4⟩ : ∃ w4, w3.alloc (.cells #[.int .i64 0] 3) = w4 := ⟨_, rfl⟩
  obtain ⟨w5, hw5⟩ : ∃ w5, w4.alloc (.cells #[.int .i64 0, .int .i64 2, .slice (some ⟨w3.heap.size, 0, none⟩) 1 1, .slice none 0 0, .bool true] 29) = w5 := ⟨_, rfl⟩
  have hs4 : w4.heap.size = w3.heap.size + 1 := by rw [← hw4]; simp
  have hs5 : w5.heap.size = w3.heap.size + 1 + 1 := by rw [← hw5]; simp [hs4]
  have hb4 : Below w3.heap.size w3 w4 := by rw [← hw4]; exact (Below.refl _ w3).alloc (Nat.le_refl _) _
  have hb5 : Below w4.heap.size w4 w5 := by rw [← hw5]; exact (Below.refl _ w4).alloc (Nat.le_refl _) _
  have hk4 : Blk w4 w3.heap.size 3 #[.int .i64 0] := by rw [← hw4]; exact Blk.new w3 _ _
  have hk5 : Blk w5 w3.heap.size 3 #[.int .i64 0] := (hb5.block _ hk4.lt).trans hk4
  have hg5 : Blk w5 w4.heap.size 29 #[.int .i64 0, .int .i64 2, .slice (some ⟨w3.heap.size, 0, none⟩) 1 1, .slice none 0 0, .bool true] := by rw [← hw5]; exact Blk.new w4 _ _
  have hb35 : Below w3.heap.size w3 w5 := hb4.trans (hb5.mono hb4.size)
  have HT5 := Lib.hid (tabs24 hk5 hg5)
  have HA5 := Lib.hid (HF2b.out.later hb35)
  have HC5 := Lib.hid (HF3.out.later hb35)
  have HB5 : Hid (Below w.heap.size w w5) := HB3.out.trans (hb35.mono HB3.out.size)
  -- the first row of conditions
  obtain ⟨w6, hw6⟩ : ∃ w6, w5.alloc (.cells (binCs 61 h2) 36) = w6 := ⟨_, rfl⟩
  have hb6 : Below w5.heap.size w5 w6 := by rw [← hw6]; exact (Below.refl _ w5).alloc (Nat.le_refl _) _
  have hr6 : Blk w6 w5.heap.size 36 (binCs 61 h2) := by rw [← hw6]; exact Blk.new w5 _ _
  have HA6 := Lib.hid (HA5.out.later hb6)
  have HB6 : Hid (Below w.heap.size w w6) := HB5.out.trans (hb6.mono HB5.out.size)
  have HT6 := Lib.hid (HT5.out.later hb6)
  have HC6 := Lib.hid (HC5.out.later hb6)
  have HY := Lib.hid (steps_any [tab24 w3.heap.size] (some ⟨w4.heap.size, 0, none⟩) 1 1 2 [⟨binT 61, some ⟨h2, 0, none⟩, 2⟩] (some ⟨w5.heap.size, 0, none⟩) 1 1 w6 HT6.out (fun x hx => by rw [List.mem_singleton.1 hx]; exact small_24 _) (by decide) (nodes24 61 HA6.out.b2 hr6) rfl (by decide) (fun y hy => by rw [List.mem_singleton.1 hy]; exact cnt_eq))
  have z0 := ((HA5.out.b4.cell 0).trans rfl : w5.cell? ⟨g2, 0, none⟩ = some (.int .i64 4))
  have z1 := ((HA5.out.b4.cell 1).trans rfl : w5.cell? ⟨g2, 1, none⟩ = some (.string ⟨#[61]⟩))
  have z2 := ((HA5.out.b4.cell 2).trans rfl : w5.cell? ⟨g2, 2, none⟩ = some (.int .u8 0))
  have z3 := ((HA5.out.b4.cell 3).trans rfl : w5.cell? ⟨g2, 3, none⟩ = some (.int .i64 0))
  have z4 := ((HA5.out.b4.cell 4).trans rfl : w5.cell? ⟨g2, 4, none⟩ = some (.string ⟨#[]⟩))
  have z5 := ((HA5.out.b4.cell 5).trans rfl : w5.cell? ⟨g2, 5, none⟩ = some (.int .i64 0))
  have z6 := ((HA5.out.b4.cell 6).trans rfl : w5.cell? ⟨g2, 6, none⟩ = some (.int .u8 1))
  have z7 := ((HA5.out.b4.cell 7).trans rfl : w5.cell? ⟨g2, 7, none⟩ = some (.slice (some ⟨h2, 0, none⟩) 2 2))
  clear hs4 hs5 hb4 hb5 hk4 hk5 hg5 hb35 hb6 hr6 HF2b HF3 HB3 HCol
  go_wp2_with fail
  refine HY.out.mono ?_
  rintro e w7 hret
  obtain ⟨b7, o7, p7, kd7, co7, a7, c7, L7, rfl, hbl7, hcap7, k0, k2, hok7, hb7⟩ := hret.one
  have hok7' : okAt (condSafe [binT 61]) (condParts [binT 61]) (tab24 w3.heap.size) ⟨kd7, co7, a7, c7, L7⟩ := hok7
  have hkd7 : kd7 = 1 := hok7'.2.2 cond_eq (paths24 _) (by rw [part_eq]; exact key_eq)
  have hL7 : L7.length = 1 := by
    rcases hok7'.1.2 with ⟨h, -⟩ | ⟨-, h⟩ | ⟨h, -⟩
    · exact absurd (h.symm.trans hkd7) (by decide)
    · simpa using h
    · exact absurd (h.symm.trans hkd7) (by decide)
  rw [hkd7] at k0
  rw [hL7] at k2
  have HK0 := Lib.hid k0
  have HK2 := Lib.hid k2
  have HBl7 := Lib.hid hbl7
  have HA7 := Lib.hid (HA6.out.later hb7)
  have HC7 := Lib.hid (HC6.out.later hb7)
  have HT7 := Lib.hid (HT6.out.later hb7)
  have HB7 : Hid (Below w.heap.size w w7) := HB6.out.trans (hb7.mono HB6.out.size)
  clear hret hok7 hok7' hkd7 hL7 k0 k2 hb7 z0 z1 z2 z3 z4 z5 z6 z7 hw4 hw5 hw6 HY hbl7
  -- both conditions
  obtain ⟨w8, hw8⟩ : ∃ w8, w7.alloc (.cells (twoCs h2 h3) 36) = w8 := ⟨_, rfl⟩
  have hb8 : Below w7.heap.size w7 w8 := by rw [← hw8]; exact (Below.refl _ w7).alloc (Nat.le_refl _) _
  have hr8 : Blk w8 w7.heap.size 36 (twoCs h2 h3) := by rw [← hw8]; exact Blk.new w7 _ _
  have HA8 := Lib.hid (HA7.out.later hb8)
  have HC8 := Lib.hid (HC7.out.later hb8)
  have HB8 : Hid (Below w.heap.size w w8) := HB7.out.trans (hb8.mono HB7.out.size)
  have HK0b := Lib.hid ((hb8.cell (p := ⟨b7, o7, none⟩) HBl7.out).trans HK0.out)
  have HK2b := Lib.hid ((hb8.cell (p := ⟨b7, o7 + 2, none⟩) HBl7.out).trans HK2.out)
  have HBl8 : Hid (b7 < w8.heap.size) := Nat.lt_of_lt_of_le HBl7.out hb8.size
  have HY := Lib.hid (steps_any [tab24 w3.heap.size] (some ⟨w4.heap.size, 0, none⟩) 1 1 2 [⟨binT 61, some ⟨h2, 0, none⟩, 2⟩, ⟨binT 43, some ⟨h3, 0, none⟩, 2⟩] (some ⟨w7.heap.size, 0, none⟩) 2 2 w8 (HT7.out.later hb8) (fun x hx => by rw [List.mem_singleton.1 hx]; exact small_24 _) (by decide) (nodes24b HA8.out.b2 HC8.out.b2 hr8) rfl (by decide) (fun y hy => by
    simp only [List.mem_cons, List.not_mem_nil, or_false] at hy
    rcases hy with rfl | rfl
    · exact cnt_eq
    · exact cnt_sum))
  have z0 := ((HA7.out.b4.cell 0).trans rfl : w7.cell? ⟨g2, 0, none⟩ = some (.int .i64 4))
  have z1 := ((HA7.out.b4.cell 1).trans rfl : w7.cell? ⟨g2, 1, none⟩ = some (.string ⟨#[61]⟩))
  have z2 := ((HA7.out.b4.cell 2).trans rfl : w7.cell? ⟨g2, 2, none⟩ = some (.int .u8 0))
  have z3 := ((HA7.out.b4.cell 3).trans rfl : w7.cell? ⟨g2, 3, none⟩ = some (.int .i64 0))
  have z4 := ((HA7.out.b4.cell 4).trans rfl : w7.cell? ⟨g2, 4, none⟩ = some (.string ⟨#[]⟩))
  have z5 := ((HA7.out.b4.cell 5).trans rfl : w7.cell? ⟨g2, 5, none⟩ = some (.int .i64 0))
  have z6 := ((HA7.out.b4.cell 6).trans rfl : w7.cell? ⟨g2, 6, none⟩ = some (.int .u8 1))
  have z7 := ((HA7.out.b4.cell 7).trans rfl : w7.cell? ⟨g2, 7, none⟩ = some (.slice (some ⟨h2, 0, none⟩) 2 2))
  have v0 := ((HC7.out.b4.cell 0).trans rfl : w7.cell? ⟨g3, 0, none⟩ = some (.int .i64 4))
  have v1 := ((HC7.out.b4.cell 1).trans rfl : w7.cell? ⟨g3, 1, none⟩ = some (.string ⟨#[43]⟩))
  have v2 := ((HC7.out.b4.cell 2).trans rfl : w7.cell? ⟨g3, 2, none⟩ = some (.int .u8 0))
  have v3 := ((HC7.out.b4.cell 3).trans rfl : w7.cell? ⟨g3, 3, none⟩ = some (.int .i64 0))
  have v4 := ((HC7.out.b4.cell 4).trans rfl : w7.cell? ⟨g3, 4, none⟩ = some (.string ⟨#[]⟩))
  have v5 := ((HC7.out.b4.cell 5).trans rfl : w7.cell? ⟨g3, 5, none⟩ = some (.int .i64 0))
  have v6 := ((HC7.out.b4.cell 6).trans rfl : w7.cell? ⟨g3, 6, none⟩ = some (.int .u8 1))
  have v7 := ((HC7.out.b4.cell 7).trans rfl : w7.cell? ⟨g3, 7, none⟩ = some (.slice (some ⟨h3, 0, none⟩) 2 2))
  clear hb8 hr8 HA6 HB6 HT6 HC6 HA5 HC5 HB5 HT5
  go_wp2_with fail
  refine HY.out.mono ?_
  rintro e w9 hret
  obtain ⟨b9, o9, p9, kd9, co9, a9, c9, L9, rfl, hbl9, hcap9, n0, n2, hok9, hb9⟩ := hret.one
  have hok9' : okAt (condSafe [binT 61, binT 43]) (condParts [binT 61, binT 43]) (tab24 w3.heap.size) ⟨kd9, co9, a9, c9, L9⟩ := hok9
  have hkd9 : kd9 = 0 := hok9'.2.1 cond_two
  rw [hkd9] at n0
  have HA9 := Lib.hid (HA8.out.later hb9)
  have HC9 := Lib.hid (HC8.out.later hb9)
  have HB9 : Hid (Below w.heap.size w w9) := HB8.out.trans (hb9.mono HB8.out.size)
  have k0 := (hb9.cell (p := ⟨b7, o7, none⟩) HBl8.out).trans HK0b.out
  have k2 := (hb9.cell (p := ⟨b7, o7 + 2, none⟩) HBl8.out).trans HK2b.out
  have HS1 : Hid (∀ W, Below w9.heap.size w9 W → Calls Try.prog 14 #[.agg (binCs 61 h2)] W fun e w' => e = .returned (.bool true) ∧ Below W.heap.size W w') := fun W hb => by
    have := safe_is 2 ⟨binT 61, some ⟨h2, 0, none⟩, 2⟩ W (bin_at 61 (HA9.out.later hb).b2)
    rw [safe_eq] at this; exact this
  have HS2 : Hid (∀ W, Below w9.heap.size w9 W → Calls Try.prog 14 #[.agg (binCs 43 h3)] W fun e w' => e = .returned (.bool false) ∧ Below W.heap.size W w') := fun W hb => by
    have := safe_is 2 ⟨binT 43, some ⟨h3, 0, none⟩, 2⟩ W (bin_at 43 (HC9.out.later hb).b2)
    rw [safe_sum] at this; exact this
  clear hret hok9 hok9' hkd9 n2 hb9 z0 z1 z2 z3 z4 z5 z6 z7 v0 v1 v2 v3 v4 v5 v6 v7 hw8 HY
  have z0 := ((HA9.out.b4.cell 0).trans rfl : w9.cell? ⟨g2, 0, none⟩ = some (.int .i64 4))
  have z1 := ((HA9.out.b4.cell 1).trans rfl : w9.cell? ⟨g2, 1, none⟩ = some (.string ⟨#[61]⟩))
  have z2 := ((HA9.out.b4.cell 2).trans rfl : w9.cell? ⟨g2, 2, none⟩ = some (.int .u8 0))
  have z3 := ((HA9.out.b4.cell 3).trans rfl : w9.cell? ⟨g2, 3, none⟩ = some (.int .i64 0))
  have z4 := ((HA9.out.b4.cell 4).trans rfl : w9.cell? ⟨g2, 4, none⟩ = some (.string ⟨#[]⟩))
  have z5 := ((HA9.out.b4.cell 5).trans rfl : w9.cell? ⟨g2, 5, none⟩ = some (.int .i64 0))
  have z6 := ((HA9.out.b4.cell 6).trans rfl : w9.cell? ⟨g2, 6, none⟩ = some (.int .u8 1))
  have z7 := ((HA9.out.b4.cell 7).trans rfl : w9.cell? ⟨g2, 7, none⟩ = some (.slice (some ⟨h2, 0, none⟩) 2 2))
  go_wp2_with fail
  refine (HS1.out _ (Below.refl _ _)).mono ?_
  rintro e w10 ⟨rfl, hb10⟩
  have HB10 := Lib.hid hb10
  have HC10 := Lib.hid (HC9.out.later hb10)
  clear z0 z1 z2 z3 z4 z5 z6 z7 k0 k2 n0 hb10
  have v0 := ((HC10.out.b4.cell 0).trans rfl : w10.cell? ⟨g3, 0, none⟩ = some (.int .i64 4))
  have v1 := ((HC10.out.b4.cell 1).trans rfl : w10.cell? ⟨g3, 1, none⟩ = some (.string ⟨#[43]⟩))
  have v2 := ((HC10.out.b4.cell 2).trans rfl : w10.cell? ⟨g3, 2, none⟩ = some (.int .u8 0))
  have v3 := ((HC10.out.b4.cell 3).trans rfl : w10.cell? ⟨g3, 3, none⟩ = some (.int .i64 0))
  have v4 := ((HC10.out.b4.cell 4).trans rfl : w10.cell? ⟨g3, 4, none⟩ = some (.string ⟨#[]⟩))
  have v5 := ((HC10.out.b4.cell 5).trans rfl : w10.cell? ⟨g3, 5, none⟩ = some (.int .i64 0))
  have v6 := ((HC10.out.b4.cell 6).trans rfl : w10.cell? ⟨g3, 6, none⟩ = some (.int .u8 1))
  have v7 := ((HC10.out.b4.cell 7).trans rfl : w10.cell? ⟨g3, 7, none⟩ = some (.slice (some ⟨h3, 0, none⟩) 2 2))
  go_wp2_with fail
  refine (HS2.out _ HB10.out).mono ?_
  rintro e w11 ⟨rfl, hb11⟩
  have HB11 : Hid (Below w.heap.size w w11) := HB9.out.trans ((HB10.out.trans (hb11.mono HB10.out.size)).mono HB9.out.size)
  clear hb11
  go_wp2
  go_ret
  exact ⟨rfl, HB11.out⟩
end Go.Proofs.Ytcepbindmdakkaa

/- The law PlanBelow: its walk. -/
set_option linter.unusedSimpArgs false
set_option linter.unusedVariables false
set_option maxRecDepth 100000
namespace Go.Proofs.Ytcepbindmdakkaa
open Go.RowKit

theorem drewN_belP {w wr : World} (h : Below w.heap.size w wr) (n : Nat) : Below w.heap.size w (wr.drewN n) := ⟨h.os, h.tape, h.output, h.size, h.block⟩
/-- The k-th step's cells. -/
theorem StepsIn.at_ {sf : Bool} {P : List Nx} {lo : Nat} {W : World} {n q : Nat} {v : Value} {T : List PTm} {D : List StM} (h : StepsIn sf P lo W n q q v T D) :
    ∃ sa sc, v = .slice sa q sc ∧ q ≤ sc ∧ sc ≤ 9223372036854775807 ∧ Arr W.heap.size W sa (cellsOf cellsS3 D) := by
  obtain ⟨sa, sc, hv, h1, h2, h3⟩ := own_slice h.row
  refine ⟨sa, sc, hv, h1, h2, ?_⟩
  rw [Nat.sub_self, List.replicate_zero] at h3
  have : cellsOf cellsS3 ([] : List StM) = [] := rfl
  rw [this, List.append_nil] at h3
  exact h3
theorem stAt {W : World} {sa : Option Addr} {D : List StM} (h : Arr W.heap.size W sa (cellsOf cellsS3 D)) {k : Nat} (hk : k < D.length) :
    ∃ b o, sa = some ⟨b, o, none⟩ ∧ b < W.heap.size ∧ W.cell? ⟨b, o + k * 3, none⟩ = some (.int .i64 D[k].kd) ∧ W.cell? ⟨b, o + k * 3 + 2, none⟩ = some (.slice D[k].a D[k].L.length D[k].cap) := by
  obtain ⟨b, o, ha, hb, hc⟩ := h.at_ (by intro h0; have := cellsOf_len cellsS3 3 cellsS3_len D; rw [h0] at this; simp at this; omega)
  have g := fun (j : Nat) (v : Value) (hv : (cellsS3 D[k])[j]? = some v) => hc _ _ (cellsOf_get cellsS3 3 cellsS3_len D k j D[k] v (List.getElem?_eq_getElem hk) hv)
  exact ⟨b, o, ha, hb, by simpa using g 0 _ rfl, by simpa [Nat.add_assoc] using g 2 _ rfl⟩
theorem used_low {fr : Int} {t : Nx} (h : goodN fr t) {m : Nat} (hm : m < (usedZ t).length) : (usedZ t)[m] < fr := by
  have := h.1
  unfold lowZ at this
  simp only [Bool.not_eq_true', List.any_eq_false] at this
  have h2 := this _ (List.getElem_mem hm)
  simp at h2
  exact h2

set_option maxHeartbeats 16000000 in
theorem planBelow_walk (a0 : Option Addr) (len0 cap0 : Nat) (T : List PTm) (a1 : Option Addr) (len1 cap1 : Nat) (C : List NM) (n : Nat) (w : World) (hT : PsIn w a0 len0 cap0 T) (hl1 : C.length = len1) (hC : NsAt w.heap.size w n a1 cap1 C) :
    Calls Try.prog 4 #[.slice a0 len0 cap0, .slice a1 len1 cap1] w fun e w' => e = .returned (.bool true) ∧ Below w.heap.size w w' := by
  have HT := Lib.hid hT
  have HC := Lib.hid hC
  have HQ := Lib.hid hT.hlen
  have HR := Lib.hid hl1
  have hcap0 := hT.hcap
  have hmax0 := hT.hmax
  have hcap1 := hC.hcap
  have hmax1 := hC.hmax
  rw [hl1] at hcap1
  have HAl := Lib.hid (fun W => alive24_any W)
  clear hT hC hl1
  by_cases hbig : 6 < len0 ∨ 6 < len1
  · have hcase : decide ((6 : Int) < (len0 : Int)) = true ∨ (decide ((6 : Int) < (len0 : Int)) = false ∧ decide ((6 : Int) < (len1 : Int)) = true) := by
      by_cases h : 6 < len0
      · left; simp; omega
      · right; exact ⟨by simp; omega, by simp; omega⟩
    clear hbig
    rcases hcase with q1 | ⟨q1, q2⟩
    all_goals
      go_enter Try.func4, Try.ntmps4
      go_wp2_with fail
      refine (HAl.out _).mono ?_
      rintro e w2 ⟨rfl, hb2⟩
      have HB2 := Lib.hid hb2
      clear hb2
      go_wp2
      go_ret
      exact ⟨rfl, HB2.out⟩
  · have q1 : decide ((6 : Int) < (len0 : Int)) = false := by simp; omega
    have q2 : decide ((6 : Int) < (len1 : Int)) = false := by simp; omega
    have h06 : len0 ≤ 6 := by omega
    have h16 : len1 ≤ 6 := by omega
    have hn0 : ¬ 6 < len0 := by omega
    have hn1 : ¬ 6 < len1 := by omega
    clear hbig
    go_enter Try.func4, Try.ntmps4
    go_wp2
    clear q1 q2
    go_loopw [5] (fun i wr => ∃ k : Nat, k ≤ len0 ∧ i = .int .i64 (k : Int) ∧ Hid (∀ j (h : j < T.length), j < k → smallT T[j]) ∧ Hid (Below w.heap.size w wr)) (fun i _ => len0 - (intOf i).toNat)
    case atStart => exact ⟨0, by omega, rfl, (fun j _ hj => by omega), Below.refl _ _⟩
    case round =>
      obtain ⟨k, hk, rfl, HI, HB⟩ := hrel
      by_cases hlt : k < len0
      · have hkl : k < T.length := by rw [HQ.out]; exact hlt
        obtain ⟨b, o, hab, -, hSl⟩ := (HT.out.later HB.out).at_ hkl
        have HI1 : Hid (smallT T[k] → ∀ j (h : j < T.length), j < k + 1 → smallT T[j]) := fun h1 j h hj => by
          by_cases hjk : j = k
          · subst hjk; exact h1
          · exact HI.out j h (by omega)
        generalize T[k] = x at *
        subst hab
        obtain ⟨t0, t1, t2, t3, t4⟩ := hSl
        have HS1 := Lib.hid (fun W => small24_any x.t.fr W)
        have HS2 := Lib.hid (fun W => small24_any x.t.co W)
        obtain ⟨m1, hm1⟩ : ∃ m, x.t.key.length = m := ⟨_, rfl⟩
        obtain ⟨m2, hm2⟩ : ∃ m, x.t.idx.length = m := ⟨_, rfl⟩
        obtain ⟨s1, hs1⟩ : ∃ s, smallZ x.t.fr = s := ⟨_, rfl⟩
        obtain ⟨s2, hs2⟩ : ∃ s, smallZ x.t.co = s := ⟨_, rfl⟩
        rw [hm1] at t2
        rw [hm2] at t3
        rw [hs1] at HS1
        rw [hs2] at HS2
        have HSm : Hid (m1 ≤ 20 → m2 ≤ 20 → s1 = true → s2 = true → smallT x) := fun g1 g2 g3 g4 => by
          subst g3 g4
          unfold smallZ at hs1 hs2
          simp at hs1 hs2
          exact ⟨by omega, by omega, hs1, hs2⟩
        clear hkl hm1 hm2 hs1 hs2
        by_cases g1 : 20 < m1
        · have q1 : decide ((20 : Int) < (m1 : Int)) = true := by simp; omega
          clear HS1 HS2
          go_wp2_with fail
          refine (HAl.out _).mono ?_
          rintro e w2 ⟨rfl, hb2⟩
          have HB2 := Lib.hid (HB.out.trans (hb2.mono HB.out.size))
          clear hb2 t0 t1 t2 t3 t4
          go_wp2
          go_ret
          exact ⟨rfl, HB2.out⟩
        have q1 : decide ((20 : Int) < (m1 : Int)) = false := by simp; omega
        by_cases g2 : 20 < m2
        · have q2 : decide ((20 : Int) < (m2 : Int)) = true := by simp; omega
          clear HS1 HS2
          go_wp2_with fail
          refine (HAl.out _).mono ?_
          rintro e w2 ⟨rfl, hb2⟩
          have HB2 := Lib.hid (HB.out.trans (hb2.mono HB.out.size))
          clear hb2 t0 t1 t2 t3 t4
          go_wp2
          go_ret
          exact ⟨rfl, HB2.out⟩
        have q2 : decide ((20 : Int) < (m2 : Int)) = false := by simp; omega
        cases s1 with
        | false =>
          go_wp2_with fail
          refine (HS1.out _).mono ?_
          rintro e w3 ⟨rfl, rfl⟩
          clear HS1 HS2
          go_wp2_with fail
          refine (HAl.out _).mono ?_
          rintro e w2 ⟨rfl, hb2⟩
          have HB2 := Lib.hid (HB.out.trans (hb2.mono HB.out.size))
          clear hb2 t0 t1 t2 t3 t4
          go_wp2
          go_ret
          exact ⟨rfl, HB2.out⟩
        | true =>
          go_wp2_with fail
          refine (HS1.out _).mono ?_
          rintro e w3 ⟨rfl, rfl⟩
          go_wp2_with fail
          refine (HS2.out _).mono ?_
          rintro e w4 ⟨rfl, rfl⟩
          clear HS1 HS2
          cases s2 with
          | false =>
            go_wp2_with fail
            refine (HAl.out _).mono ?_
            rintro e w2 ⟨rfl, hb2⟩
            have HB2 := Lib.hid (HB.out.trans (hb2.mono HB.out.size))
            clear hb2 t0 t1 t2 t3 t4
            go_wp2
            go_ret
            exact ⟨rfl, HB2.out⟩
          | true =>
            have HI2 := Lib.hid (HI1.out (HSm.out (by omega) (by omega) (by trivial) (by trivial)))
            go_wp2
            go_roundw
            case rel => exact ⟨k + 1, by omega, by go_num, HI2.out, HB.out⟩
            case measure => (simp [intOf] <;> try omega)
      · have q0 : decide ((k : Int) < (len0 : Int)) = false := by simp; omega
        have HSm : Hid (∀ x ∈ T, smallT x) := fun x hx => by
          obtain ⟨j, hj, rfl⟩ := List.getElem_of_mem hx
          exact HI.out j hj (by have := HQ.out; omega)
        clear HI
        go_wp2
        clear q0
        obtain ⟨wa, rfl⟩ : ∃ wa, wa = wr := ⟨wr, rfl⟩
        go_loopw [6] (fun i wr => ∃ k : Nat, k ≤ len1 ∧ i = .int .i64 (k : Int) ∧ Hid (∀ j (h : j < C.length), j < k → C[j].t.count ≤ 200) ∧ Hid (Below w.heap.size w wr)) (fun i _ => len1 - (intOf i).toNat)
        case atStart => exact ⟨0, by omega, rfl, (fun j _ hj => by omega), HB.out⟩
        case round =>
          obtain ⟨j, hj, rfl, HI, HBj⟩ := hrel
          by_cases hjl : j < len1
          · have hkl : j < C.length := by rw [HR.out]; exact hjl
            have hAr := HC.out.later HBj.out
            obtain ⟨b, o, hab, -, hKid⟩ := hAr.at_ hkl
            have HNd := Lib.hid (hAr.kids _ (List.getElem_mem hkl))
            have HI1 : Hid (C[j].t.count ≤ 200 → ∀ i (h : i < C.length), i < j + 1 → C[i].t.count ≤ 200) := fun h1 i h hi => by
              by_cases hij : i = j
              · subst hij; exact h1
              · exact HI.out i h (by omega)
            generalize C[j] = y at *
            subst hab
            have HG := Lib.hid (great24_any n y wr HNd.out)
            rw [NM.nv_eq] at HG
            obtain ⟨g, hg⟩ : ∃ g, great24 y.t = g := ⟨_, rfl⟩
            rw [hg] at HG
            have HGc : Hid (g = false → y.t.count ≤ 200) := fun h => great24_count (hg.trans h)
            obtain ⟨y0, y1, y2, y3, y4, y5, y6, y7⟩ := hKid
            clear hkl hAr hg
            go_wp2_with fail
            refine HG.out.mono ?_
            rintro e w2 ⟨rfl, hb2⟩
            have HB2 := Lib.hid (HBj.out.trans (hb2.mono HBj.out.size))
            clear hb2 HG y0 y1 y2 y3 y4 y5 y6 y7
            cases g with
            | true =>
              go_wp2_with fail
              refine (HAl.out _).mono ?_
              rintro e w3 ⟨rfl, hb3⟩
              have HB3 := Lib.hid (HB2.out.trans (hb3.mono HB2.out.size))
              clear hb3
              go_wp2
              go_ret
              exact ⟨rfl, HB3.out⟩
            | false =>
              have HI2 := Lib.hid (HI1.out (HGc.out (by trivial)))
              go_wp2
              go_roundw
              case rel => exact ⟨j + 1, by omega, by go_num, HI2.out, HB2.out⟩
              case measure => (simp [intOf] <;> try omega)
          · have HCn : Hid (∀ y ∈ C, y.t.count ≤ 200) := fun y hy => by
              obtain ⟨i, hi, rfl⟩ := List.getElem_of_mem hy
              exact HI.out i hi (by have := HR.out; omega)
            have HSt := Lib.hid (steps_any T a0 cap0 len0 n C a1 cap1 len1 wr (HT.out.later HBj.out) HSm.out h06 (HC.out.later HBj.out) HR.out h16 HCn.out)
            clear HI HCn
            go_wp2_with fail
            refine HSt.out.mono ?_
            rintro e w2 ⟨v, D, rfl, hD, hb2⟩
            rw [HQ.out] at hD
            obtain ⟨sa, sc, hv, hsc, hsm2, hA⟩ := hD.at_
            subst hv
            have HD := Lib.hid hD
            have HA := Lib.hid hA
            have HB2 : Hid (Below w.heap.size w w2) := HBj.out.trans (hb2.mono HBj.out.size)
            have n1 : ((len0 : Int) != (len0 : Int)) = false := by simp
            clear hD hA hb2 HSt
            go_wp2
            clear n1
            go_loopw [8] (fun i wr => ∃ k : Nat, k ≤ len0 ∧ i = .int .i64 (k : Int) ∧ Hid (Below w2.heap.size w2 wr)) (fun i _ => len0 - (intOf i).toNat)
            case atStart => exact ⟨0, by omega, rfl, Below.refl _ _⟩
            case round =>
              obtain ⟨i, hi, rfl, HBi⟩ := hrel
              have HBw := Lib.hid (HB2.out.trans (HBi.out.mono HB2.out.size))
              by_cases hil : i < len0
              · have hiD : i < D.length := by rw [HD.out.len]; exact hil
                have hiT : i < T.length := by rw [HQ.out]; exact hil
                have hok := HD.out.ok i T[i] D[i] (List.getElem?_eq_getElem hiT) (List.getElem?_eq_getElem hiD)
                have HNs : Hid (∀ W, Below w2.heap.size w2 W → NsAt W.heap.size W n D[i].a D[i].cap D[i].L) := fun W hb =>
                  StIn.at_ (((HD.out.later hb).kid D[i] (List.getElem_mem hiD)).imp fun b hb => hb.2.1)
                have HCl : Hid (∀ W, Below w2.heap.size w2 W → ∃ b o, sa = some ⟨b, o, none⟩ ∧ b < W.heap.size ∧ W.cell? ⟨b, o + i * 3, none⟩ = some (.int .i64 D[i].kd) ∧ W.cell? ⟨b, o + i * 3 + 2, none⟩ = some (.slice D[i].a D[i].L.length D[i].cap)) := fun W hb => stAt ((HA.out.below hb).mono hb.size) hiD
                have HTc : Hid (∀ W, Below w2.heap.size w2 W → ∃ b o, a0 = some ⟨b, o, none⟩ ∧ b < W.heap.size ∧ Slot5T W b (o + i * 5) T[i]) := fun W hb => (HT.out.later (HB2.out.trans (hb.mono HB2.out.size))).at_ hiT
                have hnl := (HNs.out _ HBi.out).hcap
                have hnm := (HNs.out _ HBi.out).hmax
                generalize D[i] = x at *
                generalize T[i] = t at *
                obtain ⟨kd, co, xa, xc, L⟩ := x
                simp only at hok hnl hnm HNs HCl HTc
                obtain ⟨m, hm⟩ : ∃ m, L.length = m := ⟨_, rfl⟩
                have HM := Lib.hid hm
                obtain ⟨mk, hmk⟩ : ∃ mk, t.t.key.length = mk := ⟨_, rfl⟩
                have HMk := Lib.hid hmk
                have HGd : Hid (∀ y ∈ L, goodN t.t.fr y.t) := fun y hy => hok.1.1 _ (List.mem_map_of_mem hy)
                have HKd : Hid ((kd = 0 ∧ m = 0) ∨ (kd = 1 ∧ m = mk) ∨ (kd = 2 ∧ m = 1)) := by
                  rcases hok.1.2 with ⟨h1, h2⟩ | ⟨h1, h2⟩ | ⟨h1, h2⟩
                  · left; refine ⟨h1, ?_⟩; rw [← hm]; have := congrArg List.length h2; simpa using this
                  · right; left; refine ⟨h1, ?_⟩; rw [← hm, ← hmk]; simpa using h2
                  · right; right; refine ⟨h1, ?_⟩; rw [← hm]; simpa using h2
                rw [hm] at HCl hnl
                clear hiD hiT hok hm hmk
                obtain ⟨b, o, hsa, hbl, -, -⟩ := HCl.out _ HBi.out
                subst hsa
                obtain ⟨b0, o0, ha0, hbl0, -⟩ := HTc.out _ HBi.out
                subst ha0
                have HC2 : Hid (∀ W, Below w2.heap.size w2 W → W.cell? ⟨b, o + i * 3, none⟩ = some (.int .i64 kd) ∧ W.cell? ⟨b, o + i * 3 + 2, none⟩ = some (.slice xa m xc)) := fun W hb => by
                  obtain ⟨b', o', h1, _, h2, h3⟩ := HCl.out W hb
                  obtain ⟨rfl, rfl⟩ : b = b' ∧ o = o' := by simpa using h1
                  exact ⟨h2, h3⟩
                have HT2 : Hid (∀ W, Below w2.heap.size w2 W → Slot5T W b0 (o0 + i * 5) t) := fun W hb => by
                  obtain ⟨b', o', h1, _, h2⟩ := HTc.out W hb
                  obtain ⟨rfl, rfl⟩ : b0 = b' ∧ o0 = o' := by simpa using h1
                  exact h2
                clear HCl HTc hbl hbl0
                obtain ⟨s0, s2⟩ := HC2.out _ HBi.out
                obtain ⟨wi, rfl⟩ : ∃ wi, wi = wr := ⟨wr, rfl⟩
                go_wp2
                clear s0 s2
                go_loopw [9] (fun i wr => ∃ k : Nat, k ≤ m ∧ i = .int .i64 (k : Int) ∧ Hid (Below w2.heap.size w2 wr)) (fun i _ => m - (intOf i).toNat)
                case atStart => exact ⟨0, by omega, rfl, HBi.out⟩
                case round =>
                  obtain ⟨k, hk2, rfl, HBk⟩ := hrel
                  obtain ⟨s0, s2⟩ := HC2.out _ HBk.out
                  by_cases hkm : k < m
                  · have hkL : k < L.length := by rw [HM.out]; exact hkm
                    have hNs := HNs.out _ HBk.out
                    obtain ⟨bn, on, hxa, -, hKid⟩ := hNs.at_ hkL
                    have HNd := Lib.hid (hNs.kids _ (List.getElem_mem hkL))
                    have HGy := Lib.hid (HGd.out _ (List.getElem_mem hkL))
                    generalize L[k] = y at *
                    subst hxa
                    obtain ⟨y0, y1, y2, y3, y4, y5, y6, y7⟩ := hKid
                    have HU := Lib.hid (used_any n y wr HNd.out HGy.out.2)
                    rw [NM.nv_eq] at HU
                    clear hkL hNs
                    go_wp2_with fail
                    refine HU.out.mono ?_
                    rintro e w3 ⟨v3, rfl, ho3, hb3⟩
                    obtain ⟨ua, uc, hv3, hu1, hu2, hUA⟩ := own_slice ho3
                    have HB3 : Hid (Below w2.heap.size w2 w3) := HBk.out.trans (hb3.mono HBk.out.size)
                    have HUA := Lib.hid hUA
                    have HUl : Hid (∀ j (h : j < (usedZ y.t).length), (usedZ y.t)[j] < t.t.fr) := fun j h => used_low HGy.out h
                    generalize usedZ y.t = U at *
                    obtain ⟨u, hu⟩ : ∃ u, U.length = u := ⟨_, rfl⟩
                    have HUu := Lib.hid hu
                    rw [hu] at hv3 hu1
                    subst hv3
                    clear ho3 hb3 hUA hu HU y0 y1 y2 y3 y4 y5 y6 y7 s0 s2
                    go_wp2
                    go_loopw [11] (fun i wr => ∃ k : Nat, k ≤ u ∧ i = .int .i64 (k : Int) ∧ Hid (Below w3.heap.size w3 wr)) (fun i _ => u - (intOf i).toNat)
                    case atStart => exact ⟨0, by omega, rfl, Below.refl _ _⟩
                    case round =>
                      obtain ⟨p, hp, rfl, HBp⟩ := hrel
                      have HBq : Hid (Below w2.heap.size w2 wr) := HB3.out.trans (HBp.out.mono HB3.out.size)
                      by_cases hpu : p < u
                      · have hpl : p < U.length := by rw [HUu.out]; exact hpu
                        obtain ⟨t0, t1, t2, t3, t4⟩ := HT2.out _ HBq.out
                        have hlow := HUl.out p hpl
                        rcases (HUA.out.below HBp.out).mono HBp.out.size with h0 | ⟨bu, ou, hua, hbu, hcu⟩
                        · have : U = [] := by simpa [rowZ] using h0
                          rw [this] at hpl; exact absurd hpl (by simp)
                        subst hua
                        have r0 : wr.cell? ⟨bu, ou + p, none⟩ = some (.int .i64 U[p]) := hcu p _ (by simp [rowZ, List.getElem?_eq_getElem hpl])
                        generalize U[p] = z at *
                        have n1 : decide (t.t.fr ≤ z) = false := by simp; omega
                        have i1 : (0 : Int) ≤ (p : Int) := by omega
                        have i2 : (p : Int) < (u : Int) := by omega
                        have i3 : (0 : Int) ≤ (i : Int) := by omega
                        have i4 : (i : Int) < (len0 : Int) := by omega
                        clear hpl hcu hbu t1 t2 t3 t4
                        go_wp2_with fail
                        go_quiet (fail)
                        go_wp2
                        go_roundw
                        case rel => exact ⟨p + 1, by omega, by go_num, drewN_belP HBp.out _⟩
                        case measure => (simp [intOf] <;> try omega)
                      · go_wp2
                        go_roundw
                        case rel => exact ⟨k + 1, by omega, by go_num, HBq.out⟩
                        case measure => (simp [intOf] <;> try omega)
                  · obtain ⟨t0, t1, t2, t3, t4⟩ := HT2.out _ HBk.out
                    rw [HMk.out] at t2
                    rcases HKd.out with ⟨rfl, rfl⟩ | ⟨rfl, rfl⟩ | ⟨rfl, rfl⟩
                    · go_wp2
                      go_roundw
                      case rel => exact ⟨i + 1, by omega, by go_num, HBk.out⟩
                      case measure => (simp [intOf] <;> try omega)
                    · have n1 : ((m : Int) != (m : Int)) = false := by simp
                      go_wp2
                      go_roundw
                      case rel => exact ⟨i + 1, by omega, by go_num, HBk.out⟩
                      case measure => (simp [intOf] <;> try omega)
                    · go_wp2
                      go_roundw
                      case rel => exact ⟨i + 1, by omega, by go_num, HBk.out⟩
                      case measure => (simp [intOf] <;> try omega)
              · go_wp2_with fail
                refine (HAl.out _).mono ?_
                rintro e w9 ⟨rfl, hb9⟩
                have HB9 := Lib.hid (HBw.out.trans (hb9.mono HBw.out.size))
                clear hb9
                go_wp2
                go_ret
                exact ⟨rfl, HB9.out⟩
end Go.Proofs.Ytcepbindmdakkaa
