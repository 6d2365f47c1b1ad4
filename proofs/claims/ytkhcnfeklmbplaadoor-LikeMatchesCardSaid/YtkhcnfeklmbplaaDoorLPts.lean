/- The walk of hindsightref06.Points. -/
import Derived.Test.YtkhcnfeklmbplaaDoorLDpM
import Derived.Test.YtkhcnfeklmbplaaDoorUKit
import Derived.Test.YtkhcnfeklmbplaaDoorOrd
import Derived.Lib.Hide
import Derived.Deep.OwnRows
namespace Go.Proofs.YtkhcnfeklmbplaaDoor
set_option linter.unusedSimpArgs false
open Go.RowKit

/-- A row of n + 1 truths. -/
def BRow (w : World) (G n : Nat) (f : Nat → Bool) : Prop := ∀ j, j ≤ n → w.cell? ⟨G, j, none⟩ = some (.bool (f j)) ∧ w.frozen? ⟨G, j, none⟩ = false

theorem BRow.set {w : World} {G n k : Nat} {f g : Nat → Bool} (h : BRow w G n f) (hk : k ≤ n) (v : Bool) (hg : ∀ j, j ≤ n → g j = if j = k then v else f j) : BRow (w.setCell ⟨G, k, none⟩ (.bool v)) G n g := by
  intro j hj
  refine ⟨?_, by rw [World.frozen?_setCell]; exact (h j hj).2⟩
  rw [hg j hj]
  by_cases h2 : j = k
  · subst h2
    rw [World.cell?_setCell_same _ _ _ (h j hj).1, if_pos rfl]
  · rw [World.cell?_setCell_other _ _ _ _ (by simp [Ne.symm h2]), (h j hj).1, if_neg h2]
theorem BRow.laterB {w w' : World} {B G n : Nat} {f : Nat → Bool} (h : BRow w G n f) (hl : LaterB B w w') (hG : G < w.heap.size) (hn : G ≠ B) : BRow w' G n f := fun j hj =>
  ⟨(hl.cell hG hn).trans (h j hj).1, by
    have := hl.block G hG hn
    rw [← (h j hj).2]
    unfold World.frozen?
    simp only [this]⟩

theorem made_row (w : World) (n : Nat) (T : TypeId) : BRow (w.alloc (.cells (madeCells #[.bool false] (n + 1)) T)) w.heap.size n (fun _ => false) := by
  intro j hj
  refine ⟨?_, World.frozen?_alloc_new _ _ _ _⟩
  rw [World.cell?_alloc_new, ← Array.getElem?_toList, toList_madeCells_one, List.getElem?_replicate, if_pos (by omega)]

/-- The next row while its first k truths are written. -/
def dpRow (q s : List Nat) (k j : Nat) : Bool := if j < k then dpB q s j else false

theorem LaterB.belowP {B N : Nat} {w w' : World} (h : LaterB B w w') (hB : N ≤ B) (hN : N ≤ w.heap.size) : Below N w w' :=
  ⟨h.os, h.tape, h.output, h.size, fun k hk => h.block k (by omega) (by omega)⟩
theorem BRow.drew {w : World} {G n : Nat} {f : Nat → Bool} (h : BRow w G n f) : BRow w.drew G n f := h
theorem dpRow_next (q s : List Nat) (k : Nat) (v : Bool) (hv : v = dpB q s k) : ∀ j, dpRow q s (k + 1) j = if j = k then v else dpRow q s k j := by
  intro j
  unfold dpRow
  by_cases h : j = k
  · subst h; rw [if_pos (by omega), if_pos rfl, hv]
  · rw [if_neg h]
    by_cases h2 : j < k
    · rw [if_pos h2, if_pos (by omega)]
    · rw [if_neg h2, if_neg (by omega)]

set_option maxRecDepth 100000 in
set_option maxHeartbeats 8000000 in
theorem Points_any (p s : List Nat) (a1 a2 : Option Addr) (l1 c1 l2 c2 : Nat) (w : World) (hP : Rs .i64 w.heap.size w a1 (p.map fun (n : Nat) => (n : Int))) (hS : Rs .i64 w.heap.size w a2 (s.map fun (n : Nat) => (n : Int)))
    (h1 : l1 = p.length) (h2 : l2 = s.length) (hm1 : l1 ≤ 1000000) (hm2 : l2 ≤ 1000000) :
    Calls Tryd.prog 10 #[.slice a1 l1 c1, .slice a2 l2 c2] w fun e w' => e = .returned (.bool (matB p s)) ∧ Below w.heap.size w w' := by
  have HP := Lib.hid hP
  have HS := Lib.hid hS
  have H1 := Lib.hid h1
  have H2 := Lib.hid h2
  have hmk : ∀ V : World, (Instr.makeSlice 43 (.int .i64 ((l2 : Int) + 1)) (.int .i64 ((l2 : Int) + 1))).run Tryd.prog V = .ok (.slice (some ⟨V.heap.size, 0, none⟩) (l2 + 1) (l2 + 1)) (V.alloc (.cells (madeCells #[.bool false] (l2 + 1)) 4)) := by
    intro V
    have := run_make_row' (P := Tryd.prog) 43 4 (.bool false) 1 Tryd.underlying43 (by kernel_rfl) rfl .i64 .i64 (l2 + 1) (by omega) (by omega) V
    simpa using this
  have HR0 := Lib.hid (made_row w l2 4)
  have hb0 : Below w.heap.size w (w.alloc (.cells (madeCells #[.bool false] (l2 + 1)) 4)) := boxB _ _
  obtain ⟨W0, hW0⟩ : ∃ W, w.alloc (.cells (madeCells #[.bool false] (l2 + 1)) 4) = W := ⟨_, rfl⟩
  have hsz0 : W0.heap.size = w.heap.size + 1 := by rw [← hW0]; simp
  rw [hW0] at HR0 hb0
  obtain ⟨hc0, hf0⟩ := HR0.out 0 (by omega)
  have HRI : Hid (BRow (W0.setCell ⟨w.heap.size, 0, none⟩ (.bool true)) w.heap.size l2 (dpB (p.take 0) s)) := HR0.out.set (by omega) true (fun j hj => by
    rw [List.take_zero, dp_empty s j (by have := H2.out; omega)]
    by_cases h : j = 0 <;> simp [h])
  clear hP hS h1 h2 HR0
  go_enter Tryd.func10, Tryd.ntmps10
  go_wp2
  go_loopw [5, 6] (fun rv iv wr => ∃ i g : Nat, i ≤ l1 ∧ rv = .slice (some ⟨g, 0, none⟩) (l2 + 1) (l2 + 1) ∧ iv = .int .i64 i ∧ w.heap.size ≤ g ∧ g < wr.heap.size ∧ Hid (BRow wr g l2 (dpB (p.take i) s)) ∧ Below w.heap.size w wr) (fun _ iv _ => l1 - (intOf iv).toNat)
  case atStart => exact ⟨0, w.heap.size, by omega, rfl, rfl, Nat.le_refl _, by simp [World.setCell]; omega, HRI.out, hb0.trans ((LaterB.setCell _).belowP (Nat.le_refl _) (by omega))⟩
  case round =>
    obtain ⟨i, g, hi, rfl, rfl, hg1, hg2, HR, hb⟩ := hrel
    have hsz := hb.size
    clear hb0 hW0 hc0 hf0 HRI hsz0
    by_cases hlt : i < l1
    · have hR1 := made_row wr l2 4
      have hb1 : LaterB wr.heap.size wr (wr.alloc (.cells (madeCells #[.bool false] (l2 + 1)) 4)) := Later.toB (boxB _ _) _
      have hs1 : (wr.alloc (.cells (madeCells #[.bool false] (l2 + 1)) 4)).heap.size = wr.heap.size + 1 := by simp
      obtain ⟨W1, hW1⟩ : ∃ W, wr.alloc (.cells (madeCells #[.bool false] (l2 + 1)) 4) = W := ⟨_, rfl⟩
      rw [hW1] at hR1 hb1 hs1
      have hRg1 := HR.out.laterB hb1 hg2 (by omega)
      have HRG := Lib.hid hRg1
      have HRN : Hid (BRow W1 wr.heap.size l2 (dpRow (p.take (i + 1)) s 0)) := hR1
      have hbw1 : Below w.heap.size w W1 := hb.trans (hb1.belowP hsz hsz)
      have hip : i < p.length := by have := H1.out; omega
      obtain ⟨bp, op, rfl, hbp, hcp⟩ := HP.out.at_ (j := i) (by rw [List.length_map]; exact hip)
      rw [List.getElem_map] at hcp
      have htk : p.take (i + 1) = p.take i ++ [p[i]] := by rw [List.take_add_one, List.getElem?_eq_getElem hip]; rfl
      have HTK := Lib.hid htk
      obtain ⟨c, hc⟩ : ∃ c, p[i] = c := ⟨_, rfl⟩
      rw [hc] at hcp HTK
      have HCP : Hid (∀ W, Below w.heap.size w W → W.cell? ⟨bp, op + i, none⟩ = some (.int .i64 (c : Int))) := fun W h => (h.cell (p := ⟨bp, op + i, none⟩) hbp).trans hcp
      have HSC : Hid (∀ m, m < s.length → ∃ bs os, a2 = some ⟨bs, os, none⟩ ∧ bs < w.heap.size ∧ ∀ W, Below w.heap.size w W → W.cell? ⟨bs, os + m, none⟩ = some (.int .i64 ((s.getD m 0 : Nat) : Int))) := fun m hm => by
        obtain ⟨bs, os, e, hbs, hcs⟩ := HS.out.at_ (j := m) (by rw [List.length_map]; exact hm)
        rw [List.getElem_map] at hcs
        refine ⟨bs, os, e, hbs, fun W h => (h.cell (p := ⟨bs, os + m, none⟩) hbs).trans ?_⟩
        rw [hcs, List.getD_eq_getElem?_getD, List.getElem?_eq_getElem hm]; rfl
      clear hR1 hRg1 htk hc hcp hip
      go_wp2
      generalize hG : wr.heap.size = G at *
      go_loopw [8] (fun kv wq => ∃ k : Nat, k ≤ l2 + 1 ∧ kv = .int .i64 k ∧ Hid (BRow wq G l2 (dpRow (p.take (i + 1)) s k)) ∧ LaterB G W1 wq) (fun kv _ => l2 + 1 - (intOf kv).toNat)
      case atStart => exact ⟨0, by omega, rfl, HRN.out, LaterB.refl _ _⟩
      case round =>
        obtain ⟨k, hk, rfl, HN, hlb⟩ := hrel
        have hzq := hlb.size
        have hbw : Below w.heap.size w wr := hbw1.trans (hlb.belowP hsz hbw1.size)
        have hRq := HRG.out.laterB hlb (by omega) (by omega)
        by_cases hk2 : k < l2 + 1
        · have hk3 : k ≤ l2 := by omega
          have qk : decide ((k : Int) ≤ (l2 : Int)) = true := by simp; omega
          have hcp := HCP.out wr hbw
          obtain ⟨hrk, hrf⟩ := hRq k hk3
          obtain ⟨hnk, hfk⟩ := HN.out k hk3
          have HSET : Hid (∀ v, v = dpB (p.take (i + 1)) s k → BRow (wr.setCell ⟨G, k, none⟩ (.bool v)) G l2 (dpRow (p.take (i + 1)) s (k + 1))) := fun v hv => HN.out.set hk3 v (fun j _ => dpRow_next _ s k v hv j)
          have HSETd : Hid (∀ v, v = dpB (p.take (i + 1)) s k → BRow (wr.drew.setCell ⟨G, k, none⟩ (.bool v)) G l2 (dpRow (p.take (i + 1)) s (k + 1))) := fun v hv => BRow.set (BRow.drew HN.out) hk3 v (fun j _ => dpRow_next _ s k v hv j)
          have hnd : wr.drew.cell? ⟨G, k, none⟩ = some (.bool (dpRow (p.take (i + 1)) s k k)) := hnk
          have hfd : wr.drew.frozen? ⟨G, k, none⟩ = false := hfk
          have hks : k ≤ s.length := by have := H2.out; omega
          obtain ⟨old, hold⟩ : ∃ old, dpRow (p.take (i + 1)) s k k = old := ⟨_, rfl⟩
          rw [hold] at hnk hnd
          clear hold hk2
          by_cases hk0 : k = 0
          · subst hk0
            have qz : decide ((0 : Int) < ((0 : Nat) : Int)) = false := rfl
            by_cases h37 : c = 37
            · subst h37
              have HV : Hid (dpB (p.take (i + 1)) s 0 = dpB (p.take i) s 0) := by
                rw [HTK.out, dp_run _ s 0 (by omega)]; simp [Hid]
              obtain ⟨r, hr⟩ : ∃ r, dpB (p.take i) s 0 = r := ⟨_, rfl⟩
              rw [hr] at hrk HV
              have HST := Lib.hid (HSET.out r HV.out.symm)
              clear hr HSET HSETd HN hRq HV
              cases r
              · go_wp2
                go_roundw
                case rel => exact ⟨_, by omega, by go_num, HST.out, hlb.trans (LaterB.setCell _)⟩
                case measure => simp [intOf] <;> omega
              · go_wp2
                go_roundw
                case rel => exact ⟨_, by omega, by go_num, HST.out, hlb.trans (LaterB.setCell _)⟩
                case measure => simp [intOf] <;> omega
            · have q37 : ((c : Int) == 37) = false := by simp; omega
              have HV : Hid (dpB (p.take (i + 1)) s 0 = false) := by rw [HTK.out]; exact dp_one0 h37 _ _
              have HST := Lib.hid (HSETd.out false HV.out.symm)
              clear HSET HSETd HN hRq HV hrk hrf
              go_wp2_with fail
              refine wp_region_ordB G [(0, true), (1, true), (2, true), (3, true), (4, true), (5, true), (6, true), (7, true), (8, true), (9, true), (10, true), (11, true), (12, true), (13, true), (14, true), (15, true), (16, true), (17, true), (18, true), (19, true), (20, true), (21, true), (22, true), (23, true), (24, true), (25, true), (26, true), (27, true), (28, true), (29, true), (30, true), (31, false)] (by kernel_rfl) (by kernel_rfl) (by kernel_rfl) (by kernel_rfl) ?_
              repeat (first | (refine wpO_F (v := ?_) rfl (by rfl) (fun w' hL => ?_) ?_; rotate_left; (solve | (go_simp; with_reducible rfl) | go_simp); try simp only [Act.put, List.setIfInBounds_toArray, List.set_cons_zero, List.set_cons_succ]) | (refine wpO_G' (LaterB.refl G) rfl (by rfl) ?_; try simp only [Act.put, List.setIfInBounds_toArray, List.set_cons_zero, List.set_cons_succ]))
              refine wpO_C rfl (by rfl) ?_
              go_simp
              refine ⟨LaterB.setCell _, ?_⟩
              try simp only [Act.put, List.setIfInBounds_toArray, List.set_cons_zero, List.set_cons_succ]
              refine wpO_nil ?_
              go_wp2
              go_roundw
              case rel => exact ⟨_, by omega, by go_num, HST.out, hlb.trans (LaterB.trans (Later.toB (Below.refl _ _).drew _) (LaterB.setCell _))⟩
              case measure => simp [intOf] <;> omega
          · obtain ⟨m, rfl⟩ : ∃ m, k = m + 1 := ⟨k - 1, by omega⟩
            have qz : decide ((0 : Int) < ((m + 1 : Nat) : Int)) = true := by rw [decide_eq_true_iff]; omega
            have qz2 : decide ((0 : Int) < (m : Int) + 1) = true := by rw [decide_eq_true_iff]; omega
            have hm1 : m < l2 + 1 := by omega
            have hm4 : m ≤ l2 := by omega
            have hm5 : ¬ l2 < m := by omega
            have hm2 : m + 1 < l2 + 1 := by omega
            have hm3 : m < l2 := by omega
            have qs1 : ((m + 1 : Nat) : Int) - 1 = (m : Int) := by omega
            have hmr := (hRq m (by omega)).1
            by_cases h37 : c = 37
            · subst h37
              have hmn := (HN.out m (by omega)).1
              have e : dpRow (p.take (i + 1)) s (m + 1) m = dpB (p.take (i + 1)) s m := by unfold dpRow; rw [if_pos (by omega)]
              rw [e] at hmn
              have HV : Hid (dpB (p.take (i + 1)) s (m + 1) = (dpB (p.take i) s (m + 1) || dpB (p.take (i + 1)) s m)) := by
                rw [HTK.out, dp_run _ s (m + 1) (by omega)]; simp [Hid]
              obtain ⟨r, hr⟩ : ∃ r, dpB (p.take i) s (m + 1) = r := ⟨_, rfl⟩
              obtain ⟨b, hbb⟩ : ∃ b, dpB (p.take (i + 1)) s m = b := ⟨_, rfl⟩
              rw [hr] at hrk HV
              rw [hbb] at hmn HV
              have HST := Lib.hid (HSET.out (r || b) HV.out.symm)
              clear hr hbb HSET HSETd HN hRq HV e hmr
              cases r
              · cases b
                · go_wp2
                  go_roundw
                  case rel => exact ⟨_, by omega, by go_num, HST.out, hlb.trans (LaterB.setCell _)⟩
                  case measure => simp [intOf] <;> omega
                · go_wp2
                  go_roundw
                  case rel => exact ⟨_, by omega, by go_num, HST.out, hlb.trans (LaterB.setCell _)⟩
                  case measure => simp [intOf] <;> omega
              · go_wp2
                go_roundw
                case rel => exact ⟨_, by omega, by go_num, HST.out, hlb.trans (LaterB.setCell _)⟩
                case measure => simp [intOf] <;> omega
            · have q37 : ((c : Int) == 37) = false := by simp; omega
              obtain ⟨bs, os, rfl, hbs, hcs⟩ := HSC.out m (by omega)
              have HV : Hid (dpB (p.take (i + 1)) s (m + 1) = (dpB (p.take i) s m && (c == 95 || c == s.getD m 0))) := by
                rw [HTK.out, dp_one h37 _ s m (by omega), List.getD_eq_getElem?_getD, List.getElem?_eq_getElem (by omega)]; rfl
              obtain ⟨r, hr⟩ : ∃ r, dpB (p.take i) s m = r := ⟨_, rfl⟩
              obtain ⟨d, hd⟩ : ∃ d, s.getD m 0 = d := ⟨_, rfl⟩
              rw [hr] at hmr HV
              rw [hd] at hcs HV
              have e1 : ∀ W, LaterB G wr.drew W → W.cell? ⟨g, m, none⟩ = some (.bool r) := fun W h => (h.undrew.cell (by omega) (by omega)).trans hmr
              have e2 : ∀ W, LaterB G wr.drew W → W.cell? ⟨bp, op + i, none⟩ = some (.int .i64 (c : Int)) := fun W h => HCP.out W (hbw.trans (h.undrew.belowP hsz hbw.size))
              have e3 : ∀ W, LaterB G wr.drew W → W.cell? ⟨bs, os + m, none⟩ = some (.int .i64 (d : Int)) := fun W h => hcs W (hbw.trans (h.undrew.belowP hsz hbw.size))
              have HST := Lib.hid (HSETd.out _ HV.out.symm)
              clear hr hd HSET HSETd HN hRq HV hrk hrf hmr hcs
              clear qz qz2 qs1 hk0
              obtain ⟨k', hk'⟩ : ∃ k', m + 1 = k' := ⟨_, rfl⟩
              rw [hk'] at HST hnd hnk hfd hfk qk hk hk3 hks hm2 ⊢
              have hk1 : 1 ≤ k' := by omega
              have qz : decide ((0 : Int) < (k' : Int)) = true := by rw [decide_eq_true_iff]; omega
              have qzn : decide (0 < k') = true := by rw [decide_eq_true_iff]; omega
              have qs1 : (k' : Int) - 1 = (m : Int) := by omega
              have hwr : IntKind.i64.wrap (m : Int) = (m : Int) := IntWalk.i64_in _ ⟨by omega, by omega⟩
              have hmi : (m : Int) < (l2 : Int) + 1 := by omega
              have hki : (k' : Int) < (l2 : Int) + 1 := by omega
              clear hk'
              cases r
              · go_wp2_with fail
                refine wp_region_ordB G [(0, true), (1, true), (2, true), (3, true), (4, true), (5, true), (6, true), (7, true), (8, true), (9, true), (10, true), (11, true), (12, true), (13, true), (14, true), (15, true), (16, true), (17, true), (18, true), (19, true), (20, true), (21, true), (22, true), (23, true), (24, true), (25, true), (26, true), (27, true), (28, true), (29, true), (30, true), (31, false)] (by kernel_rfl) (by kernel_rfl) (by kernel_rfl) (by kernel_rfl) ?_
                repeat (first | (refine wpO_F (v := ?_) rfl (by rfl) (fun w' hL => ?_) ?_; rotate_left; (solve | (go_simp; with_reducible rfl) | go_simp); try simp only [Act.put, List.setIfInBounds_toArray, List.set_cons_zero, List.set_cons_succ]) | (refine wpO_G' (LaterB.refl G) rfl (by rfl) ?_; try simp only [Act.put, List.setIfInBounds_toArray, List.set_cons_zero, List.set_cons_succ]))
                refine wpO_C rfl (by rfl) ?_
                go_simp
                refine ⟨LaterB.setCell _, ?_⟩
                try simp only [Act.put, List.setIfInBounds_toArray, List.set_cons_zero, List.set_cons_succ]
                refine wpO_nil ?_
                go_wp2
                go_roundw
                case rel => exact ⟨_, by omega, by go_num, HST.out, hlb.trans (LaterB.trans (Later.toB (Below.refl _ _).drew _) (LaterB.setCell _))⟩
                case measure => simp [intOf] <;> omega
              · by_cases h95 : c = 95
                · subst h95
                  go_wp2_with fail
                  refine wp_region_ordB G [(0, true), (1, true), (2, true), (3, true), (4, true), (5, true), (6, true), (7, true), (8, true), (9, true), (10, true), (11, true), (12, true), (13, true), (14, true), (15, true), (16, true), (17, true), (18, true), (19, true), (20, true), (21, true), (22, true), (23, true), (24, true), (25, true), (26, true), (27, true), (28, true), (29, true), (30, true), (31, false)] (by kernel_rfl) (by kernel_rfl) (by kernel_rfl) (by kernel_rfl) ?_
                  repeat (first | (refine wpO_F (v := ?_) rfl (by rfl) (fun w' hL => ?_) ?_; rotate_left; (solve | (go_simp; with_reducible rfl) | go_simp); try simp only [Act.put, List.setIfInBounds_toArray, List.set_cons_zero, List.set_cons_succ]) | (refine wpO_G' (LaterB.refl G) rfl (by rfl) ?_; try simp only [Act.put, List.setIfInBounds_toArray, List.set_cons_zero, List.set_cons_succ]))
                  refine wpO_C rfl (by rfl) ?_
                  go_simp
                  refine ⟨LaterB.setCell _, ?_⟩
                  try simp only [Act.put, List.setIfInBounds_toArray, List.set_cons_zero, List.set_cons_succ]
                  refine wpO_nil ?_
                  go_wp2
                  go_roundw
                  case rel => exact ⟨_, by omega, by go_num, HST.out, hlb.trans (LaterB.trans (Later.toB (Below.refl _ _).drew _) (LaterB.setCell _))⟩
                  case measure => simp [intOf] <;> omega
                · have q95 : ((c : Int) == 95) = false := by simp; omega
                  have q95n : (c == 95) = false := by simp [h95]
                  rw [q95n] at HST
                  by_cases hcd : c = d
                  · subst hcd
                    have qcc : (c == c) = true := by simp
                    rw [qcc] at HST
                    go_wp2_with fail
                    refine wp_region_ordB G [(0, true), (1, true), (2, true), (3, true), (4, true), (5, true), (6, true), (7, true), (8, true), (9, true), (10, true), (11, true), (12, true), (13, true), (14, true), (15, true), (16, true), (17, true), (18, true), (19, true), (20, true), (21, true), (22, true), (23, true), (24, true), (25, true), (26, true), (27, true), (28, true), (29, true), (30, true), (31, false)] (by kernel_rfl) (by kernel_rfl) (by kernel_rfl) (by kernel_rfl) ?_
                    repeat (first | (refine wpO_F (v := ?_) rfl (by rfl) (fun w' hL => ?_) ?_; rotate_left; (solve | (go_simp; with_reducible rfl) | go_simp); try simp only [Act.put, List.setIfInBounds_toArray, List.set_cons_zero, List.set_cons_succ]) | (refine wpO_G' (LaterB.refl G) rfl (by rfl) ?_; try simp only [Act.put, List.setIfInBounds_toArray, List.set_cons_zero, List.set_cons_succ]))
                    refine wpO_C rfl (by rfl) ?_
                    go_simp
                    refine ⟨LaterB.setCell _, ?_⟩
                    try simp only [Act.put, List.setIfInBounds_toArray, List.set_cons_zero, List.set_cons_succ]
                    refine wpO_nil ?_
                    go_wp2
                    go_roundw
                    case rel => exact ⟨_, by omega, by go_num, HST.out, hlb.trans (LaterB.trans (Later.toB (Below.refl _ _).drew _) (LaterB.setCell _))⟩
                    case measure => simp [intOf] <;> omega
                  · have qcd : ((c : Int) == (d : Int)) = false := by simp; omega
                    have qcdn : (c == d) = false := by simp [hcd]
                    rw [qcdn] at HST
                    go_wp2_with fail
                    refine wp_region_ordB G [(0, true), (1, true), (2, true), (3, true), (4, true), (5, true), (6, true), (7, true), (8, true), (9, true), (10, true), (11, true), (12, true), (13, true), (14, true), (15, true), (16, true), (17, true), (18, true), (19, true), (20, true), (21, true), (22, true), (23, true), (24, true), (25, true), (26, true), (27, true), (28, true), (29, true), (30, true), (31, false)] (by kernel_rfl) (by kernel_rfl) (by kernel_rfl) (by kernel_rfl) ?_
                    repeat (first | (refine wpO_F (v := ?_) rfl (by rfl) (fun w' hL => ?_) ?_; rotate_left; (solve | (go_simp; with_reducible rfl) | go_simp); try simp only [Act.put, List.setIfInBounds_toArray, List.set_cons_zero, List.set_cons_succ]) | (refine wpO_G' (LaterB.refl G) rfl (by rfl) ?_; try simp only [Act.put, List.setIfInBounds_toArray, List.set_cons_zero, List.set_cons_succ]))
                    refine wpO_C rfl (by rfl) ?_
                    go_simp
                    refine ⟨LaterB.setCell _, ?_⟩
                    try simp only [Act.put, List.setIfInBounds_toArray, List.set_cons_zero, List.set_cons_succ]
                    refine wpO_nil ?_
                    go_wp2
                    go_roundw
                    case rel => exact ⟨_, by omega, by go_num, HST.out, hlb.trans (LaterB.trans (Later.toB (Below.refl _ _).drew _) (LaterB.setCell _))⟩
                    case measure => simp [intOf] <;> omega
        · have hke : k = l2 + 1 := by omega
          have qk : decide ((k : Int) ≤ (l2 : Int)) = false := by rw [decide_eq_false_iff_not]; omega
          have HRn : Hid (BRow wr G l2 (dpB (p.take (i + 1)) s)) := fun j hj => by
            have := HN.out j hj
            unfold dpRow at this
            rw [if_pos (by omega)] at this
            exact this
          go_wp2
          go_roundw
          case rel => exact ⟨i + 1, G, by omega, rfl, by go_num, hsz, by omega, HRn.out, hbw⟩
          case measure => simp [intOf] <;> omega
    · obtain rfl : i = l1 := by omega
      have hall : p.take i = p := List.take_of_length_le (by have := H1.out; omega)
      obtain ⟨hce, _⟩ := HR.out l2 (Nat.le_refl _)
      rw [hall, show l2 = s.length from H2.out, dp_all, ← show l2 = s.length from H2.out] at hce
      obtain ⟨R, hR⟩ : ∃ R, matB p s = R := ⟨_, rfl⟩
      rw [hR] at hce
      have HRR := Lib.hid hR
      clear hR hall
      go_wp2
      go_ret
      exact ⟨by rw [HRR.out]; rfl, hb⟩
end Go.Proofs.YtkhcnfeklmbplaaDoor
