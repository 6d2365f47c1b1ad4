/- Clock: the reference's Read. -/
import Derived.Test.YtfldjmjnjeemeaaClkR
import Derived.IntWalk
namespace Go.Proofs.Ytfldjmjnjeemeaa
open Go.RowKit

theorem strN_beq {l m : List Nat} (hl : ∀ c ∈ l, c < 256) (hm : ∀ c ∈ m, c < 256) : ((strN l).toList == (strN m).toList) = decide (l = m) := by
  rw [Bool.eq_iff_iff, beq_iff_eq, decide_eq_true_iff]
  constructor
  · intro h
    have h2 : bytesOf (strN l) = bytesOf (strN m) := by
      rw [ByteArray.toList_eq, ByteArray.toList_eq] at h
      unfold bytesOf; rw [h]
    rw [bytesOf_strN l hl, bytesOf_strN m hm] at h2
    exact h2
  · intro h; rw [h]

theorem cut4 (l : List Nat) (hl : l.length = 64) : (l.drop 16).take 4 = [l[16], l[17], l[18], l[19]] := by
  apply List.ext_getElem
  · simp [hl]
  · intro i h1 h2
    simp at h2
    rw [List.getElem_take, List.getElem_drop]
    match i, h2 with
    | 0, _ => rfl
    | 1, _ => rfl
    | 2, _ => rfl
    | 3, _ => rfl
theorem rdS_alt {l : List Nat} (hl : l.length = 64) (hb : ∀ c ∈ l, c < 256) (hz : l ≠ z64) (x y : Nat) (hx : l[18]? = some x) (hy : l[19]? = some y) :
    rdS l = if 256 * x + y ≤ 4095 ∧ stL (rdW ((l.drop 8).take 8)) (256 * x + y) = l then ((rdW ((l.drop 8).take 8), ((256 * x + y : Nat) : Int)), 0) else ((0, 0), 52) := by
  have ex : l[18] = x := by rw [List.getElem?_eq_getElem (by omega)] at hx; exact Option.some.inj hx
  have ey : l[19] = y := by rw [List.getElem?_eq_getElem (by omega)] at hy; exact Option.some.inj hy
  have hv : valL ((l.drop 16).take 4) = ((l[16] * 256 + l[17]) * 256 + x) * 256 + y := by
    rw [cut4 l hl, ex, ey]
    simp only [valL, List.foldl_cons, List.foldl_nil]
    omega
  unfold rdS
  rw [if_neg hz]
  by_cases hr : 256 * x + y ≤ 4095 ∧ stL (rdW ((l.drop 8).take 8)) (256 * x + y) = l
  · have h1 : valL ((l.drop 16).take 4) = 256 * x + y := by
      conv => lhs; rw [← hr.2]
      rw [stL_16, valL_beL]; exact Nat.mod_eq_of_lt (by omega)
    rw [h1, if_pos hr]
  · rw [if_neg hr, if_neg]
    rintro ⟨h1, h2⟩
    apply hr
    have : valL ((l.drop 16).take 4) = 256 * x + y := by omega
    rw [← this]; exact ⟨h1, h2⟩

def RetRR (l : List Nat) (w : World) (e : Ending) (w' : World) : Prop := e = .returned (.tuple #[.int .i64 (rdS l).1.1, .int .i64 (rdS l).1.2, .int .i64 (rdS l).2]) ∧ Below w.heap.size w w'
theorem RetRR.mk {l : List Nat} {w : World} : Hid (∀ x y z, rdS l = ((x, y), z) → ∀ w', Below w.heap.size w w' → RetRR l w (.returned (.tuple #[.int .i64 x, .int .i64 y, .int .i64 z])) w') := by
  intro x y z h w' hb
  unfold RetRR; rw [h]; exact ⟨rfl, hb⟩
theorem unB_snoc (l : List Nat) (c : Nat) : unB (l ++ [c]) = unB l * 256 + c := by simp [unB]
theorem unB_lt : ∀ (l : List Nat), (∀ c ∈ l, c < 256) → unB l < 256 ^ l.length := by
  intro l
  refine rev_ind (P := fun l => (∀ c ∈ l, c < 256) → unB l < 256 ^ l.length) (fun _ => by simp [unB]) (fun l c ih h => ?_) l
  have hc := h c (by simp)
  have := ih (fun d hd => h d (by simp [hd]))
  rw [List.length_append, unB_snoc]
  show _ < 256 ^ (l.length + 1)
  rw [Nat.pow_succ]; omega

theorem Bs.cellAt {N : Nat} {w : World} {b o : Nat} {l : List Nat} (h : Bs N w (some ⟨b, o, none⟩) l) (hne : l ≠ []) : b < N ∧ ∀ (i c : Nat), l[i]? = some c → w.cell? ⟨b, o + i, none⟩ = some (.int .u8 (c : Int)) := by
  obtain ⟨b', o', h1, h2, h3⟩ := h.2.resolve_left hne
  simp only [Option.some.injEq, Addr.mk.injEq] at h1
  obtain ⟨rfl, rfl, _⟩ := h1
  exact ⟨h2, h3⟩
theorem cellsU_bs {w : World} {a : Option Addr} {l : List Nat} (h : Arr w.heap.size w a (cellsU l)) (hb : ∀ c ∈ l, c < 256) : Bs w.heap.size w a l := by
  refine ⟨hb, ?_⟩
  rcases h with h | ⟨b, o, h1, h2, h3⟩
  · left; simpa [cellsU] using h
  · right
    refine ⟨b, o, h1, h2, fun i c hi => h3 i _ ?_⟩
    simp [cellsU, hi]
theorem stL_lt' (l r : Int) : ∀ c ∈ (wrS l r).1, c < 256 := by
  unfold wrS; split
  · exact z64_lt
  · exact stL_lt _ _
theorem wrS_len (l r : Int) : (wrS l r).1.length = 64 := by
  unfold wrS; split
  · exact z64_len
  · exact stL_len _ _

theorem exec_makeSlice {P : Program} {o : Oper} {a : Act} {w w' : World} {t : TypeId} {l c : Operand} (ho : o.op = .makeSlice t l c) {vl vc v : Value} (hl : a.eval l = vl) (hc : a.eval c = vc) (h : (Instr.makeSlice t vl vc).run P w = .ok v w') :
    (execOp a.eval o).run P w = .ok (.value v) w' := by
  unfold execOp
  simp only [ho, hl, hc, Sem.run_bind, h, Result.andThen_ok, Sem.run_pure]

set_option maxRecDepth 100000 in
set_option maxHeartbeats 2000000 in
theorem RRd_zero (a : Option Addr) (cap : Nat) (w : World) (hB : Bs w.heap.size w a z64) (hc : 64 ≤ cap) :
    Calls Try.prog 16 #[.slice a 64 cap] w (RetRR z64 w) := by
  have HR := RetRR.mk (l := z64) (w := w)
  generalize RetRR z64 w = R at *
  have hz : rdS z64 = ((-9223372036854775808, 0), 0) := by unfold rdS; rw [if_pos rfl]
  have HZ := Lib.hid hz
  have h1 : ∀ W, Later w.drew W → (convert 30 9 (.slice a 64 cap)).run Try.prog W = .ok (.string (strN z64)) W := fun W hW =>
    (hB.below (show Below w.heap.size w W from ⟨hW.os, hW.tape, hW.output, hW.size, hW.block⟩)).conv 30 5 Try.underlying30 Try.underlying5 9 Try.underlying9 64 cap z64_len.symm
  have h2 : ∀ W, Later (w.drew.alloc (.cells (cellsU z64).toArray 5)) W → (convert 30 9 (.slice (some ⟨w.heap.size, 0, none⟩) 64 64)).run Try.prog W = .ok (.string (strN z64)) W := fun W hW =>
    (Bs.below (cellsU_bs ((arr_lit w.drew 5 z64).mono (by simp)) z64_lt) hW).conv 30 5 Try.underlying30 Try.underlying5 9 Try.underlying9 64 64 z64_len.symm
  have hmk := Lib.hid (fun V => make64 V)
  clear hB hz
  go_enter Try.func16, Try.ntmps16
  go_wp2_with fail
  refine wp_region_ord [(0, true), (1, true), (2, false), (3, true), (4, true)] (by kernel_rfl) (by kernel_rfl) (by kernel_rfl) (by kernel_rfl) ?_
  repeat (first | (refine wpO_F (v := ?_) rfl (by rfl) (fun w' hL => ?_) ?_; rotate_left; (solve | (go_simp; with_reducible rfl) | go_simp); try simp only [Act.put, List.setIfInBounds_toArray, List.set_cons_zero, List.set_cons_succ]) | (refine wpO_G rfl (by rfl) ?_; try simp only [Act.put, List.setIfInBounds_toArray, List.set_cons_zero, List.set_cons_succ]))
  refine wpO_C rfl (by rfl) ?_
  refine wp_val (exec_makeSlice rfl rfl rfl (hmk.out _)) ?_
  refine ⟨(Below.refl _ _).alloc (Nat.le_refl _) _, ?_⟩
  try simp only [Act.put, List.setIfInBounds_toArray, List.set_cons_zero, List.set_cons_succ]
  rw [show w.drew.heap.size = w.heap.size from rfl]
  have hb1 : Below w.heap.size w (w.drew.alloc (.cells (cellsU z64).toArray 5)) := (Below.refl w.heap.size w).drew.alloc (Nat.le_refl _) _
  generalize w.drew.alloc (.cells (cellsU z64).toArray 5) = W1 at *
  have HB1 := Lib.hid hb1
  clear hb1
  repeat (first | (refine wpO_F (v := ?_) rfl (by rfl) (fun w' hL => ?_) ?_; rotate_left; (solve | (go_simp; with_reducible rfl) | go_simp); try simp only [Act.put, List.setIfInBounds_toArray, List.set_cons_zero, List.set_cons_succ]) | (refine wpO_G rfl (by rfl) ?_; try simp only [Act.put, List.setIfInBounds_toArray, List.set_cons_zero, List.set_cons_succ]))
  refine wpO_nil ?_
  clear h1 h2
  go_wp2
  go_ret3
  exact HR.out _ _ _ HZ.out _ HB1.out

set_option maxRecDepth 100000 in
set_option maxHeartbeats 4000000 in
theorem RRd_else (l : List Nat) (b o : Nat) (cap : Nat) (w : World) (hB : Bs w.heap.size w (some ⟨b, o, none⟩) l) (hl : l.length = 64) (hc : 64 ≤ cap) (hz : l ≠ z64) :
    Calls Try.prog 16 #[.slice (some ⟨b, o, none⟩) 64 cap] w (RetRR l w) := by
  have HR := RetRR.mk (l := l) (w := w)
  generalize RetRR l w = R at *
  have hne : l ≠ [] := by intro h; rw [h] at hl; simp at hl
  obtain ⟨hbN, hcell⟩ := hB.cellAt hne
  have h1 : ∀ W, Later w.drew W → (convert 30 9 (.slice (some ⟨b, o, none⟩) 64 cap)).run Try.prog W = .ok (.string (strN l)) W := fun W hW =>
    (hB.below (show Below w.heap.size w W from ⟨hW.os, hW.tape, hW.output, hW.size, hW.block⟩)).conv 30 5 Try.underlying30 Try.underlying5 9 Try.underlying9 64 cap hl.symm
  have h2 : ∀ W, Later (w.drew.alloc (.cells (cellsU z64).toArray 5)) W → (convert 30 9 (.slice (some ⟨w.heap.size, 0, none⟩) 64 64)).run Try.prog W = .ok (.string (strN z64)) W := fun W hW =>
    (Bs.below (cellsU_bs ((arr_lit w.drew 5 z64).mono (by simp)) z64_lt) hW).conv 30 5 Try.underlying30 Try.underlying5 9 Try.underlying9 64 64 z64_len.symm
  have heq : ((strN l).toList == (strN z64).toList) = false := by rw [strN_beq hB.1 z64_lt]; simpa using hz
  have hmk := Lib.hid (fun V => make64 V)
  have HBs := Lib.hid hB
  have HL := Lib.hid hl
  have HCell := Lib.hid hcell
  obtain ⟨x, hx⟩ : ∃ x, l[18]? = some x := ⟨_, List.getElem?_eq_getElem (by omega)⟩
  obtain ⟨y, hy⟩ : ∃ y, l[19]? = some y := ⟨_, List.getElem?_eq_getElem (by omega)⟩
  have hx256 := hB.1 _ (List.mem_of_getElem? hx)
  have hy256 := hB.1 _ (List.mem_of_getElem? hy)
  have HAlt := Lib.hid (rdS_alt hl hB.1 hz x y hx hy)
  have HX := Lib.hid hx
  have HY := Lib.hid hy
  have h8 : ((l.drop 8).take 8).length = 8 := by rw [List.length_take, List.length_drop, hl]; rfl
  have h8b : ∀ c ∈ (l.drop 8).take 8, c < 256 := fun c hc => hB.1 c (List.mem_of_mem_drop (List.mem_of_mem_take hc))
  have HLb := Lib.hid (rdW_bd h8 h8b)
  have H8 := Lib.hid h8b
  clear hB hz hl hne hcell hx hy h8 h8b
  go_enter Try.func16, Try.ntmps16
  go_wp2_with fail
  refine wp_region_ord [(0, true), (1, true), (2, false), (3, true), (4, true)] (by kernel_rfl) (by kernel_rfl) (by kernel_rfl) (by kernel_rfl) ?_
  repeat (first | (refine wpO_F (v := ?_) rfl (by rfl) (fun w' hL => ?_) ?_; rotate_left; (solve | (go_simp; with_reducible rfl) | go_simp); try simp only [Act.put, List.setIfInBounds_toArray, List.set_cons_zero, List.set_cons_succ]) | (refine wpO_G rfl (by rfl) ?_; try simp only [Act.put, List.setIfInBounds_toArray, List.set_cons_zero, List.set_cons_succ]))
  refine wpO_C rfl (by rfl) ?_
  refine wp_val (exec_makeSlice rfl rfl rfl (hmk.out _)) ?_
  refine ⟨(Below.refl _ _).alloc (Nat.le_refl _) _, ?_⟩
  try simp only [Act.put, List.setIfInBounds_toArray, List.set_cons_zero, List.set_cons_succ]
  rw [show w.drew.heap.size = w.heap.size from rfl]
  have hb1 : Below w.heap.size w (w.drew.alloc (.cells (cellsU z64).toArray 5)) := (Below.refl w.heap.size w).drew.alloc (Nat.le_refl _) _
  generalize w.drew.alloc (.cells (cellsU z64).toArray 5) = W1 at *
  have HB1 := Lib.hid hb1
  clear hb1
  repeat (first | (refine wpO_F (v := ?_) rfl (by rfl) (fun w' hL => ?_) ?_; rotate_left; (solve | (go_simp; with_reducible rfl) | go_simp); try simp only [Act.put, List.setIfInBounds_toArray, List.set_cons_zero, List.set_cons_succ]) | (refine wpO_G rfl (by rfl) ?_; try simp only [Act.put, List.setIfInBounds_toArray, List.set_cons_zero, List.set_cons_succ]))
  refine wpO_nil ?_
  clear h1 h2 heq
  clear hmk
  go_wp2
  go_loop [5, 6] (fun v i => ∃ k V : Nat, k ≤ 8 ∧ i = .int .i64 (8 + (k : Int)) ∧ v = .int .u64 (V : Int) ∧ V < 256 ^ k ∧ Hid (V = unB (((l.drop 8).take 8).take k))) (fun _ i => 16 - (intOf i).toNat)
  case atStart => exact ⟨0, 0, by omega, rfl, rfl, by simp, rfl⟩
  case round =>
    obtain ⟨k, V, hk, rfl, rfl, hV, HV⟩ := hrel
    by_cases hlt : k < 8
    · have hkl : 8 + k < l.length := by have := HL.out; omega
      have hck := (HB1.out.cell (p := ⟨b, o + (8 + k), none⟩) hbN).trans (HCell.out (8 + k) _ (List.getElem?_eq_getElem hkl))
      have hc256 : l[8 + k] < 256 := HBs.out.1 _ (List.getElem_mem hkl)
      have HS : Hid (256 * V + l[8 + k] = unB (((l.drop 8).take 8).take (k + 1))) := by
        show _ = _
        have hk8 : k < ((l.drop 8).take 8).length := by rw [List.length_take, List.length_drop]; omega
        rw [List.take_succ_eq_append_getElem hk8, unB_snoc, ← HV.out, List.getElem_take, List.getElem_drop, Nat.mul_comm]
      have hV7 : V < 72057594037927936 := Nat.lt_of_lt_of_le hV (by
        calc 256 ^ k ≤ 256 ^ 7 := Nat.pow_le_pow_right (by omega) (by omega)
          _ = 72057594037927936 := rfl)
      generalize l[8 + k]'hkl = c at *
      have hVn : 256 * V + c < 256 ^ (k + 1) := by rw [Nat.pow_succ]; omega
      have q1 : decide ((8 : Int) + (k : Int) < 16) = true := by simp; omega
      have e1 : ((8 : Int) + (k : Int)).toNat = 8 + k := by omega
      clear hV
      go_wp2
      go_round
      case rel => exact ⟨k + 1, 256 * V + c, by omega, by first | rfl | (congr 1; omega), by first | rfl | go_num, hVn, HS⟩
      case measure => simp [intOf]; omega
    · have hkk : k = 8 := by omega
      subst hkk
      have hL8 : V = unB ((l.drop 8).take 8) := by rw [HV.out]; congr 1; exact List.take_of_length_le (by rw [List.length_take]; omega)
      have hV64 : V < 18446744073709551616 := Nat.lt_of_lt_of_le hV (by decide)
      obtain ⟨L, hLd⟩ : ∃ L, L = rdW ((l.drop 8).take 8) := ⟨_, rfl⟩
      have hw64 : wrap64 (IntKind.u64.wrap ((V : Int) - 9223372036854775808)) = L := by
        rw [hLd]
        unfold rdW
        rw [← hL8, IntKind.wrap_u64]
        unfold wrap64
        omega
      have hw64' : IntKind.i64.wrap (IntKind.u64.wrap ((V : Int) - 9223372036854775808)) = L := (IntWalk.i64_left _).trans hw64
      have hLb : -9223372036854775808 ≤ L ∧ L ≤ 9223372036854775807 := by rw [hLd]; exact HLb.out
      have hAlt := HAlt.out
      rw [← hLd] at hAlt
      have HAlt2 := Lib.hid hAlt
      have c18 := (HB1.out.cell (p := ⟨b, o + 18, none⟩) hbN).trans (HCell.out 18 _ HX.out)
      have c19 := (HB1.out.cell (p := ⟨b, o + 19, none⟩) hbN).trans (HCell.out 19 _ HY.out)
      have d18 : ∀ W, Later W1.drew W → W.cell? ⟨b, o + 18, none⟩ = some (.int .u8 (x : Int)) := fun W hW => ((Below.drew HB1.out).trans (hW.mono (show w.heap.size ≤ W1.heap.size from HB1.out.size)) |>.cell (p := ⟨b, o + 18, none⟩) hbN).trans (HCell.out 18 _ HX.out)
      have d19 : ∀ W, Later W1.drew W → W.cell? ⟨b, o + 19, none⟩ = some (.int .u8 (y : Int)) := fun W hW => ((Below.drew HB1.out).trans (hW.mono (show w.heap.size ≤ W1.heap.size from HB1.out.size)) |>.cell (p := ⟨b, o + 19, none⟩) hbN).trans (HCell.out 19 _ HY.out)
      have a1 : IntKind.i64.wrap (256 * (x : Int)) = 256 * (x : Int) := IntWalk.i64_in _ ⟨by omega, by omega⟩
      have a2 : IntKind.i64.wrap (256 * (x : Int) + (y : Int)) = 256 * (x : Int) + (y : Int) := IntWalk.i64_in _ ⟨by omega, by omega⟩
      have a3 : IntKind.i64.wrap (x : Int) = (x : Int) := IntWalk.i64_in _ ⟨by omega, by omega⟩
      have a4 : IntKind.i64.wrap (y : Int) = (y : Int) := IntWalk.i64_in _ ⟨by omega, by omega⟩
      clear hAlt hL8 hLd c18 c19 hV HV HAlt
      go_wp2_with fail
      refine wp_region_ord [(0, true), (1, true), (2, true), (3, true), (4, true), (5, true), (6, true), (7, true), (8, true), (9, true), (10, true), (11, true), (12, true), (13, true), (14, true)] (by kernel_rfl) (by kernel_rfl) (by kernel_rfl) (by kernel_rfl) ?_
      repeat (first | (refine wpO_F (v := ?_) rfl (by rfl) (fun w' hL => ?_) ?_; rotate_left; (solve | (go_simp; with_reducible rfl) | go_simp); try simp only [Act.put, List.setIfInBounds_toArray, List.set_cons_zero, List.set_cons_succ]) | (refine wpO_G rfl (by rfl) ?_; try simp only [Act.put, List.setIfInBounds_toArray, List.set_cons_zero, List.set_cons_succ]))
      refine wpO_nil ?_
      clear d18 d19 hw64 hw64' a1 a2 a3 a4
      go_wp2_with fail
      refine (RWr_any L (256 * (x : Int) + (y : Int)) _ hLb).mono ?_
      rintro e W2 ⟨v, rfl, hown, hb2⟩
      obtain ⟨a3, c3, rfl, hc3, _, harr⟩ := own_slice hown
      have hbs3 := cellsU_bs harr (stL_lt' L (256 * (x : Int) + (y : Int)))
      have HB2 : Hid (Below w.heap.size w W2) := HB1.out.drew.trans (hb2.mono (show w.heap.size ≤ W1.heap.size from HB1.out.size))
      have hcv := hbs3.conv (P := Try.prog) 30 5 Try.underlying30 Try.underlying5 9 Try.underlying9 64 c3 (wrS_len _ _).symm
      have hcl := (HBs.out.below HB2.out).conv (P := Try.prog) 30 5 Try.underlying30 Try.underlying5 9 Try.underlying9 64 cap HL.out.symm
      have hcases : Hid ((wrS L (256 * (x : Int) + (y : Int)) = (z64, 3) ∧ rdS l = ((0, 0), 52)) ∨ ((wrS L (256 * (x : Int) + (y : Int))).2 = 0 ∧ ((((strN (wrS L (256 * (x : Int) + (y : Int))).1).toList == (strN l).toList) = false ∧ rdS l = ((0, 0), 52)) ∨ (((strN (wrS L (256 * (x : Int) + (y : Int))).1).toList == (strN l).toList) = true ∧ rdS l = ((L, 256 * (x : Int) + (y : Int)), 0))))) := by
        show _ ∨ _
        by_cases hr : 4095 < 256 * (x : Int) + (y : Int)
        · left
          refine ⟨by unfold wrS; rw [if_pos (.inr hr)], ?_⟩
          rw [HAlt2.out, if_neg (by omega)]
        · right
          have e : wrS L (256 * (x : Int) + (y : Int)) = (stL L (256 * x + y), 0) := by
            unfold wrS
            rw [if_neg (by omega), show (256 * (x : Int) + (y : Int)).toNat = 256 * x + y by omega]
          rw [e]
          refine ⟨rfl, ?_⟩
          rw [strN_beq (stL_lt _ _) HBs.out.1]
          by_cases he : stL L (256 * x + y) = l
          · right
            refine ⟨by simpa using he, ?_⟩
            rw [HAlt2.out, if_pos ⟨by omega, he⟩]
            simp
          · left
            refine ⟨by simpa using he, ?_⟩
            rw [HAlt2.out, if_neg (by rintro ⟨_, h⟩; exact he h)]
      clear hown hb2 harr hbs3 HAlt2 HBs
      generalize wrS L (256 * (x : Int) + (y : Int)) = ws at *
      obtain ⟨wb, we⟩ := ws
      simp only at hcv hcases ⊢
      rcases hcases.out with ⟨h1, h2⟩ | ⟨h1, ⟨h2, h3⟩ | ⟨h2, h3⟩⟩
      · simp only [Prod.mk.injEq] at h1
        obtain ⟨rfl, rfl⟩ := h1
        clear hcases
        go_wp2
        go_ret3
        exact HR.out _ _ _ h2 _ HB2.out
      · subst h1
        clear hcases
        go_wp2
        go_ret3
        exact HR.out _ _ _ h3 _ HB2.out
      · subst h1
        clear hcases
        go_wp2
        go_ret3
        exact HR.out _ _ _ h3 _ HB2.out

theorem RRd_any (l : List Nat) (a : Option Addr) (cap : Nat) (w : World) (hB : Bs w.heap.size w a l) (hl : l.length = 64) (hc : 64 ≤ cap) :
    Calls Try.prog 16 #[.slice a 64 cap] w (RetRR l w) := by
  by_cases hz : l = z64
  · subst hz; exact RRd_zero a cap w hB hc
  · have hne : l ≠ [] := by intro h; rw [h] at hl; simp at hl
    obtain ⟨b, o, rfl, _, _⟩ := hB.2.resolve_left hne
    exact RRd_else l b o cap w hB hl hc hz
end Go.Proofs.Ytfldjmjnjeemeaa
