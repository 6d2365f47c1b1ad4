/- Clock: Read of bytes that are not zeros. -/
import Derived.Test.YtfldjmjnjeemeaaClk5
import Derived.Laws.Cover3
namespace Go.Proofs.Ytfldjmjnjeemeaa
open Go.RowKit

theorem Blk.bel2 {w w' : World} {g N : Nat} {t : TypeId} {cs : Array Value} (h : Blk w g t cs) (hb : Below N w w') (hg : g < N) : Blk w' g t cs := (hb.block g hg).trans h
theorem wpList_loadG {P : Program} {ops : Array Oper} {Q : Exit → Act → World → Prop} {rest : List Oper} {o : Oper} {a : Act} {w : World} (hw : Region.wanted o (yielded ops a.tmps) = true) (ty : TypeId) (x : Operand) (ho : o.op = .load ty x) {ad : Addr} (hx : a.eval x = .pointer (some ad)) {v : Value} (h : (loadVar ty ad).run P w = .ok v w)
    (hK : wpList P ops Q rest (a.put o.dst v) w) : wpList P ops Q (o :: rest) a w := by
  unfold wpList
  rw [if_pos hw]
  left
  unfold Oper.wp
  rw [exec_load ho hx h]
  exact hK
theorem zeroSt (w : World) : (zeroValue 23).run Try.prog w = .ok (.agg #[.int .i64 0, .int .i64 0]) w := zero_of (by kernel_rfl) w
theorem bs_blk {w : World} {B : Nat} {T : TypeId} {b : List Nat} (h : Blk w B T (byL b)) (hb : ∀ c ∈ b, c < 256) (o k : Nat) : Bs w.heap.size w (some ⟨B, o, none⟩) ((b.drop o).take k) := by
  refine ⟨fun c hc => hb c (List.mem_of_mem_drop (List.mem_of_mem_take hc)), .inr ⟨B, o, rfl, h.lt, fun i c hi => ?_⟩⟩
  rw [List.getElem?_take] at hi
  split at hi
  · rw [List.getElem?_drop] at hi
    rw [h.cell, byL]
    simp [hi, byV]
  · cases hi
theorem load8 {w : World} {B : Nat} {T : TypeId} {b : List Nat} (h : Blk w B T (byL b)) (hl : b.length = 64) : (loadVar 73 ⟨B, 8, none⟩).run Try.prog w = .ok (.agg (byL ((b.drop 8).take 8))) w := by
  refine run_loadVar_mid w B 8 73 (((b.drop 8).take 8).map byV) _ (fun j v hv => ?_) Try.underlying73 rfl (by rw [size8, List.length_map, List.length_take, List.length_drop, hl]; rfl)
  rw [h.cell, byL]
  rw [List.getElem?_map, List.getElem?_take] at hv
  split at hv
  · rw [List.getElem?_drop] at hv
    simpa using hv
  · simp at hv

set_option maxRecDepth 100000 in
set_option maxHeartbeats 4000000 in
theorem CRead_else (b : List Nat) (w : World) (hl : b.length = 64) (hb : ∀ c ∈ b, c < 256) (hz : b ≠ z64) : Calls Try.prog 15 #[.agg (byL b)] w (RetRd b w) := by
  have HR : Hid (∀ x y z, rdS b = ((x, y), z) → ∀ w', Below w.heap.size w w' → RetRd b w (.returned (.tuple #[.agg #[.int .i64 x, .int .i64 y], .int .i64 z])) w') := fun x y z h w' hb => RetRd.mk h hb
  generalize RetRd b w = R at *
  have h8 : ((b.drop 8).take 8).length = 8 := by rw [List.length_take, List.length_drop, hl]; rfl
  have h8b : ∀ c ∈ (b.drop 8).take 8, c < 256 := fun c hc => hb c (List.mem_of_mem_drop (List.mem_of_mem_take hc))
  have h4 : ((b.drop 16).take 4).length = 4 := by rw [List.length_take, List.length_drop, hl]; rfl
  have h4b : ∀ c ∈ (b.drop 16).take 4, c < 256 := fun c hc => hb c (List.mem_of_mem_drop (List.mem_of_mem_take hc))
  obtain ⟨L, hL⟩ : ∃ L, L = rdW ((b.drop 8).take 8) := ⟨_, rfl⟩
  obtain ⟨V, hV⟩ : ∃ V : Int, V = ((valL ((b.drop 16).take 4) : Nat) : Int) := ⟨_, rfl⟩
  have HLb : Hid (-9223372036854775808 ≤ L ∧ L ≤ 9223372036854775807) := by rw [hL]; exact rdW_bd h8 h8b
  have HCase : Hid ((wrS L V = (z64, 3) ∧ rdS b = ((0, 0), 52)) ∨ (wrS L V = (stL L V.toNat, 0) ∧ (stL L V.toNat).length = 64 ∧
      (((∀ W, (Op.equalIn 10000 24 (.agg (byL (stL L V.toNat))) (.agg (byL b))).run Try.prog W = .ok false W) ∧ rdS b = ((0, 0), 52)) ∨ ((∀ W, (Op.equalIn 10000 24 (.agg (byL (stL L V.toNat))) (.agg (byL b))).run Try.prog W = .ok true W) ∧ rdS b = ((L, V), 0))))) := by
    show _ ∨ _
    by_cases hv : 4095 < V
    · left
      refine ⟨by unfold wrS; rw [if_pos (.inr hv)], ?_⟩
      unfold rdS
      rw [if_neg hz, if_neg (by intro h; omega)]
    · right
      have hv0 : 0 ≤ V := by omega
      refine ⟨by unfold wrS; rw [if_neg (by omega)], stL_len _ _, ?_⟩
      have hn : V.toNat = valL ((b.drop 16).take 4) := by omega
      by_cases he : stL L V.toNat = b
      · right
        refine ⟨fun W => (eql_byL _ _ (stL_len _ _) hl (stL_lt _ _) hb W).trans (by rw [he]; simp), ?_⟩
        unfold rdS
        rw [if_neg hz, ← hn, ← hL, if_pos ⟨by omega, he⟩, hV, ← hn]
        congr 2
      · left
        refine ⟨fun W => (eql_byL _ _ (stL_len _ _) hl (stL_lt _ _) hb W).trans (by rw [beq_eq_false_iff_ne.2 he]), ?_⟩
        unfold rdS
        rw [if_neg hz, ← hn, ← hL, if_neg (by rintro ⟨_, h⟩; exact he h)]
  have HZ := Lib.hid zero64
  have HZS := Lib.hid zeroSt
  have HBd := Lib.hid build64
  have HB64 := Lib.hid hl
  obtain ⟨W1, hW1⟩ : ∃ W1, W1 = (w.alloc (.cells (byL b) 24)).alloc (.cells #[.int .i64 0, .int .i64 0] 23) := ⟨_, rfl⟩
  have hs1 : W1.heap.size = w.heap.size + 2 := by rw [hW1]; simp
  have g0 : Blk W1 w.heap.size 24 (byL b) := by rw [hW1]; exact (Blk.new _ _ _).alloc _
  have g1 : Blk W1 (w.heap.size + 1) 23 #[.int .i64 0, .int .i64 0] := by
    have := Blk.new (w.alloc (.cells (byL b) 24)) 23 #[.int .i64 0, .int .i64 0]
    rw [hW1]; simpa using this
  have gb : Below w.heap.size w W1 := by rw [hW1]; exact ((Below.refl _ _).alloc (Nat.le_refl _) _).alloc (by simp) _
  have HLd := Lib.hid (load64 g0 hl)
  rw [hW1] at HLd
  have heq : ∀ W, (Op.equalIn 10000 24 (.agg (byL b)) (.agg (byL z64))).run Try.prog W = .ok false W := fun W => (eql_byL b z64 hl z64_len hb z64_lt W).trans (by rw [beq_eq_false_iff_ne.2 hz])
  have HG : Hid (∀ W, Chg [w.heap.size + 2, w.heap.size + 2 + 1] W1.drew W → Calls Try.prog 42 #[.slice (some ⟨w.heap.size, 16, none⟩) 4 48] W fun e w' => e = .returned (.int .i64 V) ∧ W = w') := by
    intro W hW
    have := GetB_any W.heap.size _ _ 4 48 W (bs_blk (g0.drew.chg hW (by first | (simp; done) | (simp; omega))) hb 16 4) (by rw [h4]) (by omega)
    rw [← hV] at this
    exact this
  have HW8 : Hid (∀ W, Calls Try.prog 41 #[.agg (byL ((b.drop 8).take 8))] W fun e w' => e = .returned (.int .i64 L) ∧ Below W.heap.size W w' ∧ w'.heap.size = W.heap.size + 1) := by
    intro W
    have := ReadWhole_any _ W h8 h8b
    rw [← hL] at this
    exact this
  have HE : Hid (∀ W, Chg [w.heap.size + 2, w.heap.size + 2 + 1] W1.drew W → Blk W w.heap.size 24 (byL b) ∧ Blk W (w.heap.size + 1) 23 #[.int .i64 0, .int .i64 0] ∧ Below w.heap.size w W) := by
    intro W hW
    refine ⟨g0.drew.chg hW (by first | (simp; done) | (simp; omega)), g1.drew.chg hW (by first | (simp; done) | (simp; omega)), gb.drew.trans (hW.below (by show w.heap.size ≤ W1.heap.size; omega) (by simp; omega))⟩
  have e8 : ∀ W, Chg [w.heap.size + 2, w.heap.size + 2 + 1] W1.drew W → (loadVar 73 ⟨w.heap.size, 8, none⟩).run Try.prog W = .ok (.agg (byL ((b.drop 8).take 8))) W := fun W hW => load8 (g0.drew.chg hW (by first | (simp; done) | (simp; omega))) hl
  have HE8 := Lib.hid e8
  have HW1 := Lib.hid hW1
  have HS1 := Lib.hid hs1
  clear e8 hW1 hs1 g0 g1 gb h8 h8b h4 h4b hL hV hz hl hb
  go_enter Try.func15, Try.ntmps15
  go_wp2_with (first | (guard_target =~ wpList _ _ _ (Oper.mk _ (Op.load 24 _) _ _ _ _ :: _) _ _; refine wpList_loadV rfl 24 _ rfl rfl HLd.out ?_) | (guard_target =~ wpList _ _ _ (Oper.mk _ (Op.build 24 _) _ _ _ _ :: _) _ _; refine wpList_val rfl (exec_build0 rfl (HBd.out _)) ?_))
  clear heq HLd HBd
  rw [← HW1.out]
  clear HW1
  generalize (b.drop 8).take 8 = L8 at *
  have e8 := HE8.out
  have hta : ∀ W, (Instr.arrayAt 73 (.slice (some ⟨w.heap.size, 8, none⟩) 8 56)).run Try.prog W = .ok (.pointer (some ⟨w.heap.size, 8, none⟩)) W := fun W => run_arrayAt W 73 5 8 (some ⟨w.heap.size, 8, none⟩) 8 56 Try.underlying73 (by omega)
  refine wp_region_tree [w.heap.size + 2, w.heap.size + 2 + 1] (.free 0 (.free 1 (.free 2 (.free 4 (.two 3 7 (.two 5 7 (.free 6 (.one 7 (.one 8 (.nil)))) (.one 5 (.free 6 (.one 8 (.nil))))) (.one 3 (.one 5 (.free 6 (.one 8 (.nil)))))))))) (by kernel_rfl) (by kernel_rfl) (by kernel_rfl) (by kernel_rfl) ?_
  repeat (first | ((refine wpT_F rfl (by rfl) (fun w' hL => exec_load rfl rfl (e8 w' hL)) ?_); try simp only [Act.put, List.setIfInBounds_toArray, List.set_cons_zero, List.set_cons_succ]) | (refine wpT_F (v := ?_) rfl (by rfl) (fun w' hL => ?_) ?_; rotate_left; (solve | (go_simp; with_reducible rfl) | go_simp); try simp only [Act.put, List.setIfInBounds_toArray, List.set_cons_zero, List.set_cons_succ]) | (refine wpT_G rfl (by rfl) ?_; try simp only [Act.put, List.setIfInBounds_toArray, List.set_cons_zero, List.set_cons_succ]) | (refine wpT_skip (Chg.refl _) rfl (by rfl) ?_; try simp only [Act.put, List.setIfInBounds_toArray, List.set_cons_zero, List.set_cons_succ]))
  clear e8 hta
  refine wpT_two ?_ ?_
  · refine wpT_C rfl (by rfl) ?_
    go_simp
    refine (HW8.out _).mono ?_
    rintro e w3 ⟨rfl, hb3, hzq⟩
    refine ⟨Below.chg0 hb3 _, ?_⟩
    try simp only [Act.put, List.setIfInBounds_toArray, List.set_cons_zero, List.set_cons_succ]
    replace hzq : w3.heap.size = w.heap.size + 2 + 1 := by rw [hzq]; show W1.heap.size + 1 = _; rw [HS1.out]
    have HC3 : Hid (Chg [w.heap.size + 2, w.heap.size + 2 + 1] W1.drew w3) := Below.chg0 hb3 _
    have HZ3 := Lib.hid hzq
    have HSn := Lib.hid (run_storeVar_new (P := Try.prog) w3 23 #[.int .i64 0, .int .i64 0] #[.int .i64 L, .int .i64 V] (by kernel_rfl) rfl (by kernel_rfl))
    have hCa : Chg [w.heap.size + 2, w.heap.size + 2 + 1] W1.drew (w3.alloc (.cells #[.int .i64 L, .int .i64 V] 23)) := HC3.out.alloc _
    have HE0 := Lib.hid (HE.out _ hCa).1
    have HE1 := Lib.hid (HE.out _ hCa).2.1
    have HEB := Lib.hid (HE.out _ hCa).2.2
    have HE4 := Lib.hid (Blk.new w3 23 #[.int .i64 L, .int .i64 V])
    have HCs : Hid (Chg [w.heap.size + 2, w.heap.size + 2 + 1] (w3.alloc (.cells #[.int .i64 0, .int .i64 0] 23)) (w3.alloc (.cells #[.int .i64 L, .int .i64 V] 23))) := alloc_chg w3 _ _ _ (by rw [hzq]; simp)
    clear hzq hb3 hCa
    refine wpT_two ?_ ?_
    · refine wpT_C rfl (by rfl) ?_
      go_simp
      refine (HG.out w3 HC3.out).mono ?_
      rintro e w4 ⟨rfl, rfl⟩
      refine ⟨Chg.refl _ _, ?_⟩
      try simp only [Act.put, List.setIfInBounds_toArray, List.set_cons_zero, List.set_cons_succ]
      repeat (first | (refine wpT_F (v := ?_) rfl (by rfl) (fun w' hL => ?_) ?_; rotate_left; (solve | (go_simp; with_reducible rfl) | go_simp); try simp only [Act.put, List.setIfInBounds_toArray, List.set_cons_zero, List.set_cons_succ]) | (refine wpT_G rfl (by rfl) ?_; try simp only [Act.put, List.setIfInBounds_toArray, List.set_cons_zero, List.set_cons_succ]) | (refine wpT_skip (Chg.refl _) rfl (by rfl) ?_; try simp only [Act.put, List.setIfInBounds_toArray, List.set_cons_zero, List.set_cons_succ]))
      refine wpT_C rfl (by rfl) ?_
      refine wp_val (exec_alloc (e := 23) rfl HZS.out) ?_
      refine ⟨(Chg.refl _ _).alloc _, ?_⟩
      try simp only [Act.put, List.setIfInBounds_toArray, List.set_cons_zero, List.set_cons_succ]
      refine wpT_C rfl (by rfl) ?_
      refine wp_skp (exec_store rfl rfl rfl HSn.out) ?_
      refine ⟨HCs.out, ?_⟩
      try simp only [Act.put, List.setIfInBounds_toArray, List.set_cons_zero, List.set_cons_succ]
      refine wpT_nil ?_
      have HT := Lib.hid True.intro
      generalize hWE : w3.alloc (.cells #[.int .i64 L, .int .i64 V] 23) = WE at *
      have e40 : WE.cell? ⟨w3.heap.size, 0, none⟩ = some (.int .i64 L) := HE4.out.cell 0
      have e41 : WE.cell? ⟨w3.heap.size, 1, none⟩ = some (.int .i64 V) := HE4.out.cell 1
      go_wp2_with fail
      clear e40 e41
      refine (CWrite_any L V WE (by exact HLb.out)).mono ?_
      rintro e w5 ⟨rfl, hb5⟩
      have k0' := (HE0.out).bel2 hb5 HE0.out.lt
      have k1' := (HE1.out).bel2 hb5 HE1.out.lt
      have k4' := (HE4.out).bel2 hb5 HE4.out.lt
      have kB := Lib.hid (HEB.out.trans (hb5.mono HEB.out.size))
      have hz5 : w.heap.size + 1 < w5.heap.size := k1'.lt
      have K0 := Lib.hid k0'
      have K1 := Lib.hid k1'
      have K4 := Lib.hid k4'
      have hx4 : w3.heap.size < w5.heap.size := k4'.lt
      clear HE0 HE1 HE4 HEB hb5 hWE k0' k1' k4'
      rcases HCase.out with ⟨h1, h2⟩ | ⟨h1, hln, h2⟩
      · rw [h1]
        have HS5 := Lib.hid (store64n w5 z64_len z64_len)
        have c10 : w5.cell? ⟨w.heap.size + 1, 0, none⟩ = some (.int .i64 0) := K1.out.cell 0
        have c11 : w5.cell? ⟨w.heap.size + 1, 1, none⟩ = some (.int .i64 0) := K1.out.cell 1
        have f10 : w5.frozen? ⟨w.heap.size + 1, 0, none⟩ = false := K1.out.frozen 0
        have f11 : w5.frozen? ⟨w.heap.size + 1, 1, none⟩ = false := K1.out.frozen 1
        have hw6 := Lib.hid (kB.out.alloc (by omega) (.cells (byL z64) 24))
        clear K4
        go_wp2_with (first | (guard_target =~ wpList _ _ _ (Oper.mk _ (Op.alloc 24) _ _ _ _ :: _) _ _; refine wpList_val rfl (exec_alloc (e := 24) rfl HZ.out) ?_) | (guard_target =~ wpList _ _ _ (Oper.mk _ (Op.store 24 _ _) _ _ _ _ :: _) _ _; refine wpList_skp rfl (exec_store rfl rfl rfl HS5.out) ?_))
        refine bodyPost_ret (v := .tuple #[.agg #[.int .i64 0, .int .i64 0], .int .i64 52]) (by simp [results, Try.results15, go_sem, c10, c11, hz5]; try omega) rfl (HR.out _ _ _ h2 _ ?_)
        first | exact (Below.setCell (Below.setCell kB.out (by simp) _) (by simp) _).alloc (by simp; omega) _ | exact hw6.out
      · rw [h1]
        have HS5 := Lib.hid (store64n w5 (l := stL L V.toNat) z64_len hln)
        have HL5 := Lib.hid (load64 (Blk.new w5 24 (byL (stL L V.toNat))) hln)
        have HL1 := Lib.hid (load64 (K0.out.alloc (.cells (byL (stL L V.toNat)) 24)) HB64.out)
        have c10 : w5.cell? ⟨w.heap.size + 1, 0, none⟩ = some (.int .i64 0) := K1.out.cell 0
        have c11 : w5.cell? ⟨w.heap.size + 1, 1, none⟩ = some (.int .i64 0) := K1.out.cell 1
        have c40 : w5.cell? ⟨w3.heap.size, 0, none⟩ = some (.int .i64 L) := K4.out.cell 0
        have c41 : w5.cell? ⟨w3.heap.size, 1, none⟩ = some (.int .i64 V) := K4.out.cell 1
        have f10 : w5.frozen? ⟨w.heap.size + 1, 0, none⟩ = false := K1.out.frozen 0
        have f11 : w5.frozen? ⟨w.heap.size + 1, 1, none⟩ = false := K1.out.frozen 1
        have hw6 := Lib.hid (kB.out.alloc (by omega) (.cells (byL (stL L V.toNat)) 24))
        clear K4
        rcases h2 with ⟨h2, h3⟩ | ⟨h2, h3⟩
        all_goals
          have heq : ∀ W, (Op.equalIn 10000 24 (.agg (byL (stL L V.toNat))) (.agg (byL b))).run Try.prog W = .ok _ W := h2
          go_wp2_with (first | (guard_target =~ wpList _ _ _ (Oper.mk _ (Op.alloc 24) _ _ _ _ :: _) _ _; refine wpList_val rfl (exec_alloc (e := 24) rfl HZ.out) ?_) | (guard_target =~ wpList _ _ _ (Oper.mk _ (Op.store 24 _ _) _ _ _ _ :: _) _ _; refine wpList_skp rfl (exec_store rfl rfl rfl HS5.out) ?_) | (guard_target =~ wpList _ _ _ (Oper.mk _ (Op.load 24 _) _ _ _ _ :: _) _ _; first | refine wpList_loadG (by rfl) 24 _ rfl rfl HL5.out ?_ | refine wpList_loadG (by rfl) 24 _ rfl rfl HL1.out ?_))
          clear heq
          first
            | refine bodyPost_ret (v := .tuple #[.agg #[.int .i64 0, .int .i64 0], .int .i64 52]) (by simp [results, Try.results15, go_sem, c10, c11, hz5]; try omega) rfl (HR.out _ _ _ h3 _ ?_)
            | refine bodyPost_ret (v := .tuple #[.agg #[.int .i64 L, .int .i64 V], .int .i64 0]) (by simp [results, Try.results15, go_sem, c10, c11, hz5]; try omega) rfl (HR.out _ _ _ h3 _ ?_)
          first | exact (Below.setCell (Below.setCell kB.out (by simp) _) (by simp) _).alloc (by simp; omega) _ | exact hw6.out
    · refine wpT_C rfl (by rfl) ?_
      refine wp_val (exec_alloc (e := 23) rfl HZS.out) ?_
      refine ⟨(Chg.refl _ _).alloc _, ?_⟩
      try simp only [Act.put, List.setIfInBounds_toArray, List.set_cons_zero, List.set_cons_succ]
      refine wpT_C rfl (by rfl) ?_
      go_simp
      refine (HG.out _ (HC3.out.alloc _)).mono ?_
      rintro e w4 ⟨rfl, rfl⟩
      refine ⟨Chg.refl _ _, ?_⟩
      try simp only [Act.put, List.setIfInBounds_toArray, List.set_cons_zero, List.set_cons_succ]
      repeat (first | (refine wpT_F (v := ?_) rfl (by rfl) (fun w' hL => ?_) ?_; rotate_left; (solve | (go_simp; with_reducible rfl) | go_simp); try simp only [Act.put, List.setIfInBounds_toArray, List.set_cons_zero, List.set_cons_succ]) | (refine wpT_G rfl (by rfl) ?_; try simp only [Act.put, List.setIfInBounds_toArray, List.set_cons_zero, List.set_cons_succ]) | (refine wpT_skip (Chg.refl _) rfl (by rfl) ?_; try simp only [Act.put, List.setIfInBounds_toArray, List.set_cons_zero, List.set_cons_succ]))
      refine wpT_C rfl (by rfl) ?_
      refine wp_skp (exec_store rfl rfl rfl HSn.out) ?_
      refine ⟨HCs.out, ?_⟩
      try simp only [Act.put, List.setIfInBounds_toArray, List.set_cons_zero, List.set_cons_succ]
      refine wpT_nil ?_
      generalize hWE : w3.alloc (.cells #[.int .i64 L, .int .i64 V] 23) = WE at *
      have e40 : WE.cell? ⟨w3.heap.size, 0, none⟩ = some (.int .i64 L) := HE4.out.cell 0
      have e41 : WE.cell? ⟨w3.heap.size, 1, none⟩ = some (.int .i64 V) := HE4.out.cell 1
      go_wp2_with fail
      clear e40 e41
      refine (CWrite_any L V WE (by exact HLb.out)).mono ?_
      rintro e w5 ⟨rfl, hb5⟩
      have k0' := (HE0.out).bel2 hb5 HE0.out.lt
      have k1' := (HE1.out).bel2 hb5 HE1.out.lt
      have k4' := (HE4.out).bel2 hb5 HE4.out.lt
      have kB := Lib.hid (HEB.out.trans (hb5.mono HEB.out.size))
      have hz5 : w.heap.size + 1 < w5.heap.size := k1'.lt
      have K0 := Lib.hid k0'
      have K1 := Lib.hid k1'
      have K4 := Lib.hid k4'
      have hx4 : w3.heap.size < w5.heap.size := k4'.lt
      clear HE0 HE1 HE4 HEB hb5 hWE k0' k1' k4'
      rcases HCase.out with ⟨h1, h2⟩ | ⟨h1, hln, h2⟩
      · rw [h1]
        have HS5 := Lib.hid (store64n w5 z64_len z64_len)
        have c10 : w5.cell? ⟨w.heap.size + 1, 0, none⟩ = some (.int .i64 0) := K1.out.cell 0
        have c11 : w5.cell? ⟨w.heap.size + 1, 1, none⟩ = some (.int .i64 0) := K1.out.cell 1
        have f10 : w5.frozen? ⟨w.heap.size + 1, 0, none⟩ = false := K1.out.frozen 0
        have f11 : w5.frozen? ⟨w.heap.size + 1, 1, none⟩ = false := K1.out.frozen 1
        have hw6 := Lib.hid (kB.out.alloc (by omega) (.cells (byL z64) 24))
        clear K4
        go_wp2_with (first | (guard_target =~ wpList _ _ _ (Oper.mk _ (Op.alloc 24) _ _ _ _ :: _) _ _; refine wpList_val rfl (exec_alloc (e := 24) rfl HZ.out) ?_) | (guard_target =~ wpList _ _ _ (Oper.mk _ (Op.store 24 _ _) _ _ _ _ :: _) _ _; refine wpList_skp rfl (exec_store rfl rfl rfl HS5.out) ?_))
        refine bodyPost_ret (v := .tuple #[.agg #[.int .i64 0, .int .i64 0], .int .i64 52]) (by simp [results, Try.results15, go_sem, c10, c11, hz5]; try omega) rfl (HR.out _ _ _ h2 _ ?_)
        first | exact (Below.setCell (Below.setCell kB.out (by simp) _) (by simp) _).alloc (by simp; omega) _ | exact hw6.out
      · rw [h1]
        have HS5 := Lib.hid (store64n w5 (l := stL L V.toNat) z64_len hln)
        have HL5 := Lib.hid (load64 (Blk.new w5 24 (byL (stL L V.toNat))) hln)
        have HL1 := Lib.hid (load64 (K0.out.alloc (.cells (byL (stL L V.toNat)) 24)) HB64.out)
        have c10 : w5.cell? ⟨w.heap.size + 1, 0, none⟩ = some (.int .i64 0) := K1.out.cell 0
        have c11 : w5.cell? ⟨w.heap.size + 1, 1, none⟩ = some (.int .i64 0) := K1.out.cell 1
        have c40 : w5.cell? ⟨w3.heap.size, 0, none⟩ = some (.int .i64 L) := K4.out.cell 0
        have c41 : w5.cell? ⟨w3.heap.size, 1, none⟩ = some (.int .i64 V) := K4.out.cell 1
        have f10 : w5.frozen? ⟨w.heap.size + 1, 0, none⟩ = false := K1.out.frozen 0
        have f11 : w5.frozen? ⟨w.heap.size + 1, 1, none⟩ = false := K1.out.frozen 1
        have hw6 := Lib.hid (kB.out.alloc (by omega) (.cells (byL (stL L V.toNat)) 24))
        clear K4
        rcases h2 with ⟨h2, h3⟩ | ⟨h2, h3⟩
        all_goals
          have heq : ∀ W, (Op.equalIn 10000 24 (.agg (byL (stL L V.toNat))) (.agg (byL b))).run Try.prog W = .ok _ W := h2
          go_wp2_with (first | (guard_target =~ wpList _ _ _ (Oper.mk _ (Op.alloc 24) _ _ _ _ :: _) _ _; refine wpList_val rfl (exec_alloc (e := 24) rfl HZ.out) ?_) | (guard_target =~ wpList _ _ _ (Oper.mk _ (Op.store 24 _ _) _ _ _ _ :: _) _ _; refine wpList_skp rfl (exec_store rfl rfl rfl HS5.out) ?_) | (guard_target =~ wpList _ _ _ (Oper.mk _ (Op.load 24 _) _ _ _ _ :: _) _ _; first | refine wpList_loadG (by rfl) 24 _ rfl rfl HL5.out ?_ | refine wpList_loadG (by rfl) 24 _ rfl rfl HL1.out ?_))
          clear heq
          first
            | refine bodyPost_ret (v := .tuple #[.agg #[.int .i64 0, .int .i64 0], .int .i64 52]) (by simp [results, Try.results15, go_sem, c10, c11, hz5]; try omega) rfl (HR.out _ _ _ h3 _ ?_)
            | refine bodyPost_ret (v := .tuple #[.agg #[.int .i64 L, .int .i64 V], .int .i64 0]) (by simp [results, Try.results15, go_sem, c10, c11, hz5]; try omega) rfl (HR.out _ _ _ h3 _ ?_)
          first | exact (Below.setCell (Below.setCell kB.out (by simp) _) (by simp) _).alloc (by simp; omega) _ | exact hw6.out
  · refine wpT_C rfl (by rfl) ?_
    refine wp_val (exec_alloc (e := 23) rfl HZS.out) ?_
    refine ⟨(Chg.refl _ _).alloc _, ?_⟩
    try simp only [Act.put, List.setIfInBounds_toArray, List.set_cons_zero, List.set_cons_succ]
    have hC1 : Chg [w.heap.size + 2, w.heap.size + 2 + 1] W1.drew (W1.drew.alloc (.cells #[.int .i64 0, .int .i64 0] 23)) := (Chg.refl _ _).alloc _
    have HC1 := Lib.hid hC1
    have hs1 : W1.drew.heap.size = w.heap.size + 2 := HS1.out
    have k4 := Blk.new W1.drew 23 #[.int .i64 0, .int .i64 0]
    have HK4 := Lib.hid k4
    have hs2 : (W1.drew.alloc (.cells #[.int .i64 0, .int .i64 0] 23)).heap.size = w.heap.size + 2 + 1 := by simp [HS1.out]
    have HS2 := Lib.hid hs2
    clear hC1 hs1 k4 hs2
    refine wpT_C rfl (by rfl) ?_
    go_simp
    refine (HW8.out _).mono ?_
    rintro e w3 ⟨rfl, hb3, hzq⟩
    refine ⟨Below.chg0 hb3 _, ?_⟩
    try simp only [Act.put, List.setIfInBounds_toArray, List.set_cons_zero, List.set_cons_succ]
    have HC3 : Hid (Chg [w.heap.size + 2, w.heap.size + 2 + 1] W1.drew w3) := HC1.out.trans (Below.chg0 hb3 _)
    have k4 := HK4.out.bel2 hb3 HK4.out.lt
    have hsv := run_storeVar_row (P := Try.prog) w3 W1.drew.heap.size 23 23 #[.int .i64 0, .int .i64 0] #[.int .i64 L, .int .i64 V] k4 (by kernel_rfl) rfl (by kernel_rfl)
    have HSn := Lib.hid hsv
    have HCs : Hid (Chg [w.heap.size + 2, w.heap.size + 2 + 1] w3 (w3.setRow W1.drew.heap.size #[.int .i64 L, .int .i64 V])) := (Chg.refl _ _).setRow (.inl (by show W1.heap.size ∈ _; rw [HS1.out]; simp)) _
    have hCa : Chg [w.heap.size + 2, w.heap.size + 2 + 1] W1.drew (w3.setRow W1.drew.heap.size #[.int .i64 L, .int .i64 V]) := HC3.out.trans HCs.out
    have HE0 := Lib.hid (HE.out _ hCa).1
    have HE1 := Lib.hid (HE.out _ hCa).2.1
    have HEB := Lib.hid (HE.out _ hCa).2.2
    have HE4 := Lib.hid (k4.setRow (new := #[.int .i64 L, .int .i64 V]))
    clear hzq hb3 hCa k4 hsv
    refine wpT_C rfl (by rfl) ?_
    go_simp
    refine (HG.out w3 HC3.out).mono ?_
    rintro e w4 ⟨rfl, rfl⟩
    refine ⟨Chg.refl _ _, ?_⟩
    try simp only [Act.put, List.setIfInBounds_toArray, List.set_cons_zero, List.set_cons_succ]
    repeat (first | (refine wpT_F (v := ?_) rfl (by rfl) (fun w' hL => ?_) ?_; rotate_left; (solve | (go_simp; with_reducible rfl) | go_simp); try simp only [Act.put, List.setIfInBounds_toArray, List.set_cons_zero, List.set_cons_succ]) | (refine wpT_G rfl (by rfl) ?_; try simp only [Act.put, List.setIfInBounds_toArray, List.set_cons_zero, List.set_cons_succ]) | (refine wpT_skip (Chg.refl _) rfl (by rfl) ?_; try simp only [Act.put, List.setIfInBounds_toArray, List.set_cons_zero, List.set_cons_succ]))
    refine wpT_C rfl (by rfl) ?_
    refine wp_skp (exec_store rfl rfl rfl HSn.out) ?_
    refine ⟨HCs.out, ?_⟩
    try simp only [Act.put, List.setIfInBounds_toArray, List.set_cons_zero, List.set_cons_succ]
    refine wpT_nil ?_
    have HSx : Hid (W1.drew.heap.size = w.heap.size + 2) := HS1.out
    generalize hWE : w3.setRow W1.drew.heap.size #[.int .i64 L, .int .i64 V] = WE at *
    have e40 : WE.cell? ⟨W1.heap.size, 0, none⟩ = some (.int .i64 L) := HE4.out.cell 0
    have e41 : WE.cell? ⟨W1.heap.size, 1, none⟩ = some (.int .i64 V) := HE4.out.cell 1
    go_wp2_with fail
    clear e40 e41
    refine (CWrite_any L V WE (by exact HLb.out)).mono ?_
    rintro e w5 ⟨rfl, hb5⟩
    have k0' := (HE0.out).bel2 hb5 HE0.out.lt
    have k1' := (HE1.out).bel2 hb5 HE1.out.lt
    have k4' := (HE4.out).bel2 hb5 HE4.out.lt
    have kB := Lib.hid (HEB.out.trans (hb5.mono HEB.out.size))
    have hz5 : w.heap.size + 1 < w5.heap.size := k1'.lt
    have K0 := Lib.hid k0'
    have K1 := Lib.hid k1'
    have K4 := Lib.hid k4'
    have hx4 : W1.heap.size < w5.heap.size := k4'.lt
    clear HE0 HE1 HE4 HEB hb5 hWE k0' k1' k4'
    rcases HCase.out with ⟨h1, h2⟩ | ⟨h1, hln, h2⟩
    · rw [h1]
      have HS5 := Lib.hid (store64n w5 z64_len z64_len)
      have c10 : w5.cell? ⟨w.heap.size + 1, 0, none⟩ = some (.int .i64 0) := K1.out.cell 0
      have c11 : w5.cell? ⟨w.heap.size + 1, 1, none⟩ = some (.int .i64 0) := K1.out.cell 1
      have f10 : w5.frozen? ⟨w.heap.size + 1, 0, none⟩ = false := K1.out.frozen 0
      have f11 : w5.frozen? ⟨w.heap.size + 1, 1, none⟩ = false := K1.out.frozen 1
      have hw6 := Lib.hid (kB.out.alloc (by omega) (.cells (byL z64) 24))
      clear K4
      go_wp2_with (first | (guard_target =~ wpList _ _ _ (Oper.mk _ (Op.alloc 24) _ _ _ _ :: _) _ _; refine wpList_val rfl (exec_alloc (e := 24) rfl HZ.out) ?_) | (guard_target =~ wpList _ _ _ (Oper.mk _ (Op.store 24 _ _) _ _ _ _ :: _) _ _; refine wpList_skp rfl (exec_store rfl rfl rfl HS5.out) ?_))
      refine bodyPost_ret (v := .tuple #[.agg #[.int .i64 0, .int .i64 0], .int .i64 52]) (by simp [results, Try.results15, go_sem, c10, c11, hz5]; try omega) rfl (HR.out _ _ _ h2 _ ?_)
      first | exact (Below.setCell (Below.setCell kB.out (by simp) _) (by simp) _).alloc (by simp; omega) _ | exact hw6.out
    · rw [h1]
      have HS5 := Lib.hid (store64n w5 (l := stL L V.toNat) z64_len hln)
      have HL5 := Lib.hid (load64 (Blk.new w5 24 (byL (stL L V.toNat))) hln)
      have HL1 := Lib.hid (load64 (K0.out.alloc (.cells (byL (stL L V.toNat)) 24)) HB64.out)
      have c10 : w5.cell? ⟨w.heap.size + 1, 0, none⟩ = some (.int .i64 0) := K1.out.cell 0
      have c11 : w5.cell? ⟨w.heap.size + 1, 1, none⟩ = some (.int .i64 0) := K1.out.cell 1
      have c40 : w5.cell? ⟨W1.heap.size, 0, none⟩ = some (.int .i64 L) := K4.out.cell 0
      have c41 : w5.cell? ⟨W1.heap.size, 1, none⟩ = some (.int .i64 V) := K4.out.cell 1
      have f10 : w5.frozen? ⟨w.heap.size + 1, 0, none⟩ = false := K1.out.frozen 0
      have f11 : w5.frozen? ⟨w.heap.size + 1, 1, none⟩ = false := K1.out.frozen 1
      have hw6 := Lib.hid (kB.out.alloc (by omega) (.cells (byL (stL L V.toNat)) 24))
      clear K4
      rcases h2 with ⟨h2, h3⟩ | ⟨h2, h3⟩
      all_goals
        have heq : ∀ W, (Op.equalIn 10000 24 (.agg (byL (stL L V.toNat))) (.agg (byL b))).run Try.prog W = .ok _ W := h2
        go_wp2_with (first | (guard_target =~ wpList _ _ _ (Oper.mk _ (Op.alloc 24) _ _ _ _ :: _) _ _; refine wpList_val rfl (exec_alloc (e := 24) rfl HZ.out) ?_) | (guard_target =~ wpList _ _ _ (Oper.mk _ (Op.store 24 _ _) _ _ _ _ :: _) _ _; refine wpList_skp rfl (exec_store rfl rfl rfl HS5.out) ?_) | (guard_target =~ wpList _ _ _ (Oper.mk _ (Op.load 24 _) _ _ _ _ :: _) _ _; first | refine wpList_loadG (by rfl) 24 _ rfl rfl HL5.out ?_ | refine wpList_loadG (by rfl) 24 _ rfl rfl HL1.out ?_))
        clear heq
        first
          | refine bodyPost_ret (v := .tuple #[.agg #[.int .i64 0, .int .i64 0], .int .i64 52]) (by simp [results, Try.results15, go_sem, c10, c11, hz5]; try omega) rfl (HR.out _ _ _ h3 _ ?_)
          | refine bodyPost_ret (v := .tuple #[.agg #[.int .i64 L, .int .i64 V], .int .i64 0]) (by simp [results, Try.results15, go_sem, c10, c11, hz5]; try omega) rfl (HR.out _ _ _ h3 _ ?_)
        first | exact (Below.setCell (Below.setCell kB.out (by simp) _) (by simp) _).alloc (by simp; omega) _ | exact hw6.out

theorem CRead_any (b : List Nat) (w : World) (hl : b.length = 64) (hb : ∀ c ∈ b, c < 256) : Calls Try.prog 15 #[.agg (byL b)] w (RetRd b w) := by
  by_cases hz : b = z64
  · subst hz; exact CRead_zero w
  · exact CRead_else b w hl hb hz
end Go.Proofs.Ytfldjmjnjeemeaa
