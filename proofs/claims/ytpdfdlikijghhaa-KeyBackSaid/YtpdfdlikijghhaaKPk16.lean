/- Several texts of one proof, one behind the other. -/
import Derived.Test.YtpdfdlikijghhaaKPk15
import Derived.Deep.WholeRow
import Derived.Deep.OwnRows

/- 'make([]byte, k)' and 'copy' from a longer row into it. -/
namespace Go.Proofs.Ytpdfdlikijghhaa
open Go.RowKit

theorem copyK (w : World) (N : Nat) (l : List Nat) (a : Option Addr) (n cap k : Nat) (hB : Bs N w a l) (hN : N ≤ w.heap.size) (hn : n = l.length) (hk : k ≤ n) (h0 : 0 < k) (ty : TypeId) (T : TypeId) :
    (Builtin.copy_ #[22, 22] ty #[.slice (some ⟨w.heap.size, 0, none⟩) k k, .slice a n cap]).run Try.prog (w.alloc (.cells (madeCells #[.int .u8 0] k) T)) =
      .ok (.int .i64 (k : Int)) (w.alloc (.cells ((l.take k).map fun (c : Nat) => Value.int .u8 (c : Int)).toArray T)) := by
  subst hn
  rcases hB.2 with h | ⟨b, o, rfl, hb, hc⟩
  · subst h; simp at hk; omega
  · have hlen : ((l.take k).map fun (c : Nat) => Value.int .u8 (c : Int)).length = k := by rw [List.length_map, List.length_take]; omega
    have hcells : ∀ j v, ((l.take k).map fun (c : Nat) => Value.int .u8 (c : Int))[j]? = some v → (w.alloc (.cells (madeCells #[.int .u8 0] k) T)).cell? ((⟨b, o, none⟩ : Addr).add j) = some v := by
      intro j v hv
      rw [List.getElem?_map] at hv
      cases hj : (l.take k)[j]? with
      | none => rw [hj] at hv; cases hv
      | some c =>
        rw [hj] at hv
        simp only [Option.map_some, Option.some.injEq] at hv
        subst hv
        have e1 : (⟨b, o, none⟩ : Addr).add j = ⟨b, o + j, none⟩ := by unfold Addr.add; split <;> simp_all
        have hj2 : l[j]? = some c := by
          rw [List.getElem?_take] at hj
          split at hj
          · exact hj
          · cases hj
        rw [e1, (Below.box w _).cell (p := ⟨b, o + j, none⟩) (show b < w.heap.size by omega)]
        exact hc j c hj2
    have hrun := run_copy_row (P := Try.prog) (w.alloc (.cells (madeCells #[.int .u8 0] k) T)) 22 22 ty 5 w.heap.size 0 k k ⟨b, o, none⟩ l.length cap
      (madeCells #[.int .u8 0] k) T ((l.take k).map fun (c : Nat) => Value.int .u8 (c : Int)) Try.underlying22 (by kernel_rfl)
      (heap_alloc_new _ _) (by rw [hlen]; exact (Nat.min_eq_right hk).symm) hcells (by rw [hlen, size_madeCells]; omega) (by intro v hv; obtain ⟨c, _, rfl⟩ := List.mem_map.1 hv; rfl)
    rw [hrun, hlen, World.setRow_alloc_new]
    have hd : (madeCells #[Value.int .u8 0] k).toList.drop (0 + k) = [] := List.drop_eq_nil_of_le (by rw [Array.length_toList, size_madeCells]; omega)
    rw [hd, List.take_zero, List.nil_append, List.append_nil]
    rfl
end Go.Proofs.Ytpdfdlikijghhaa

/- The walk of key.Next. -/
namespace Go.Proofs.Ytpdfdlikijghhaa
open Go.RowKit Go.Shelf

attribute [local go_sem] Oper.semAt_some

theorem Bs.keptBy {N : Nat} {w w' : World} {a : Option Addr} {l : List Nat} {row : Option Nat} (h : Bs N w a l) (hg : w.grownBy w' row) (hr : ∀ r, row = some r → ∃ o : Obj, w.heap[r]? = some o ∧ o.isCells = false) : Bs N w' a l := by
  refine ⟨h.1, ?_⟩
  rcases h.2 with h2 | ⟨b, o, ha, hN, hc⟩
  · exact .inl h2
  · exact .inr ⟨b, o, ha, hN, fun i c hi => cell_kept (hc i c hi) hg hr⟩

/-- The rounds so far: every byte was 255. -/
def NGo (l : List Nat) (a : Option Addr) (len cap : Nat) (w : World) (pre : List (Fin l.length)) (W : World) : Prop :=
  ((∀ p ∈ pre, l[p.val] = 255) ∧ W.cell? ⟨w.heap.size, 0, none⟩ = some (.slice a len cap) ∧ (W.cell? ⟨w.heap.size + 1, 0, none⟩ = some (.slice none 0 0) ∧ W.frozen? ⟨w.heap.size + 1, 0, none⟩ = false) ∧ W.cell? ⟨w.heap.size + 2, 0, none⟩ = some (.bool false) ∧ W.frozen? ⟨w.heap.size + 2, 0, none⟩ = false) ∧ Below w.heap.size w W

/-- How the loop is left by its return. -/
def NOut (l : List Nat) (w : World) (c : Code) (pre : List (Fin l.length)) (W : World) : Prop :=
  (c = .ret ∧ ∃ ini last g cap', pre = ini ++ [last] ∧ (∀ p ∈ ini, l[p.val] = 255) ∧ l[last.val] ≠ 255 ∧ last.val + 1 ≤ cap' ∧ W.cell? ⟨w.heap.size + 1, 0, none⟩ = some (.slice (some ⟨g, 0, none⟩) (last.val + 1) cap') ∧ W.cell? ⟨w.heap.size + 2, 0, none⟩ = some (.bool true) ∧ ∃ N, Bs N W (some ⟨g, 0, none⟩) (l.take last.val ++ [l[last.val] + 1]) ∧ N ≤ W.heap.size) ∧ Below w.heap.size w W

theorem NGo_own (l : List Nat) (a : Option Addr) (len cap : Nat) (w : World) (B : Nat) (hB : w.heap.size ≤ B) : OwnFrom B (NGo l a len cap w) :=
  OwnFrom.and (Own.from (fun s A B row hs hg hr => ⟨hs.1, cell_kept hs.2.1 hg hr, ⟨cell_kept hs.2.2.1.1 hg hr, (frozen_kept hs.2.2.1.1 hg hr).trans hs.2.2.1.2⟩, cell_kept hs.2.2.2.1 hg hr, (frozen_kept hs.2.2.2.1 hg hr).trans hs.2.2.2.2⟩) _) (ownFrom_below (Nat.le_refl _) hB)

theorem NOut_own (l : List Nat) (w : World) (c : Code) (B : Nat) (hB : w.heap.size ≤ B) : OwnFrom B (NOut l w c) :=
  OwnFrom.and (Own.from (fun s A B row hs hg hr => by
      obtain ⟨hc, ini, last, g, cap', e1, e2, e3, e4, e5, e6, N, e7, e8⟩ := hs
      exact ⟨hc, ini, last, g, cap', e1, e2, e3, e4, cell_kept e5 hg hr, cell_kept e6 hg hr, N, e7.keptBy hg hr, Nat.le_trans e8 hg.size⟩) _) (ownFrom_below (Nat.le_refl _) hB)

theorem row_set (l : List Nat) (i c : Nat) (hi : i < l.length) (hc : c = l[i]) :
    (((l.take (i + 1)).map fun (c : Nat) => Value.int .u8 (c : Int)).toArray).setIfInBounds i (.int .u8 ((c : Int) + 1)) = ((l.take i ++ [c + 1]).map fun (c : Nat) => Value.int .u8 (c : Int)).toArray := by
  have hl : (l.take i).length = i := by rw [List.length_take]; omega
  rw [List.take_add_one, List.getElem?_eq_getElem hi, ← hc, List.setIfInBounds_toArray]
  congr 1
  simp only [Option.toList_some, List.map_append, List.map_cons, List.map_nil]
  rw [List.set_append_right _ _ (by simp; omega)]
  simp [hl, Nat.min_eq_left (Nat.le_of_lt hi)]

theorem next_out (w W : World) (l : List Nat) (a : Option Addr) (len cap B i c : Nat) (hi : i < l.length) (hc : c = l[i]) (h255 : c ≠ 255) (h256 : ∀ x ∈ l, x < 256) (pre : List (Fin l.length))
    (hG : NGo l a len cap w pre W) (hsz : w.heap.size + 2 < W.heap.size) (hB : w.heap.size + 4 ≤ B) (row : Array Value) (hrow : row = ((l.take (i + 1)).map fun (c : Nat) => Value.int .u8 (c : Int)).toArray) (T : TypeId) :
    KeepsFrom B W (((W.alloc (.cells (row.setIfInBounds i (.int .u8 ((c : Int) + 1))) T)).setCell ⟨w.heap.size + 1, 0, none⟩ (.slice (some ⟨W.heap.size, 0, none⟩) (i + 1) (i + 1))).setCell ⟨w.heap.size + 1 + 1, 0, none⟩ (.bool true)) ∧
      NOut l w .ret (pre ++ [⟨i, hi⟩]) (((W.alloc (.cells (row.setIfInBounds i (.int .u8 ((c : Int) + 1))) T)).setCell ⟨w.heap.size + 1, 0, none⟩ (.slice (some ⟨W.heap.size, 0, none⟩) (i + 1) (i + 1))).setCell ⟨w.heap.size + 1 + 1, 0, none⟩ (.bool true)) := by
  obtain ⟨⟨hp, c1, ⟨c2, f2⟩, c3, f3⟩, hbw⟩ := hG
  rw [hrow, row_set l i c hi hc]
  obtain ⟨o, ho⟩ : ∃ o, o = ((l.take i ++ [c + 1]).map fun (c : Nat) => Value.int .u8 (c : Int)).toArray := ⟨_, rfl⟩
  rw [← ho]
  have k2 : (W.alloc (.cells o T)).cell? ⟨w.heap.size + 1, 0, none⟩ = some (.slice none 0 0) := (World.cell?_alloc_lt _ _ _ (show w.heap.size + 1 < W.heap.size by omega)).trans c2
  have k3 : ((W.alloc (.cells o T)).setCell ⟨w.heap.size + 1, 0, none⟩ (.slice (some ⟨W.heap.size, 0, none⟩) (i + 1) (i + 1))).cell? ⟨w.heap.size + 1 + 1, 0, none⟩ = some (.bool false) :=
    (World.cell?_setCell_other _ _ _ _ (by simp)).trans ((World.cell?_alloc_lt _ _ _ (show w.heap.size + 2 < W.heap.size by omega)).trans c3)
  refine ⟨⟨by simp, fun k x hk hx hcell => ?_⟩, ⟨rfl, pre, ⟨i, hi⟩, W.heap.size, i + 1, rfl, hp, by rw [← hc]; exact h255, Nat.le_refl _, ?_, World.cell?_setCell_same _ _ _ k3, W.heap.size + 1, ⟨?_, ?_⟩, by simp⟩, ?_⟩
  · have hkl : k < W.heap.size := by
      by_cases h : k < W.heap.size
      · exact h
      · rw [Array.getElem?_eq_none (by omega)] at hx; simp at hx
    rw [Below.heap_setCell _ _ _ _ (by show k ≠ w.heap.size + 1 + 1; omega), Below.heap_setCell _ _ _ _ (by show k ≠ w.heap.size + 1; omega), Below.heap_alloc _ _ _ hkl]
    exact hx
  · exact (World.cell?_setCell_other _ _ _ _ (by simp)).trans (World.cell?_setCell_same _ _ _ k2)
  · intro x hx
    rcases List.mem_append.1 hx with hx | hx
    · exact h256 x (List.mem_of_mem_take hx)
    · rw [List.mem_singleton.1 hx, ← hc]
      have := h256 _ (List.getElem_mem hi)
      omega
  · refine .inr ⟨W.heap.size, 0, rfl, by omega, fun j x hj => ?_⟩
    rw [Nat.zero_add]
    refine (World.cell?_setCell_other _ _ _ _ (by simp; try omega)).trans ((World.cell?_setCell_other _ _ _ _ (by simp; try omega)).trans ?_)
    rw [World.cell?_alloc_new]
    rw [← hc] at hj
    have hj' : (l.take i ++ [c + 1])[j]? = some x := hj
    rw [ho, List.getElem?_toArray, List.getElem?_map, hj']
    rfl
  · exact (((hbw.alloc (by omega) _).setCell (p := ⟨w.heap.size + 1, 0, none⟩) (by show w.heap.size ≤ w.heap.size + 1; omega) _).setCell (p := ⟨w.heap.size + 1 + 1, 0, none⟩) (by show w.heap.size ≤ w.heap.size + 1 + 1; omega) _)

theorem back_all {l : List Nat} {ys : List (Fin l.length)} (h : BackPre l l.length ys) (hp : ∀ p ∈ ys, l[p.val] = 255) : ∀ c ∈ l, c = 255 := by
  intro c hc
  obtain ⟨j, hj, rfl⟩ := List.getElem_of_mem hc
  have hm : j ∈ ys.map Fin.val := by
    rw [h]
    refine List.mem_map.2 ⟨l.length - 1 - j, List.mem_range.2 (by omega), by omega⟩
  obtain ⟨p, hpy, rfl⟩ := List.mem_map.1 hm
  exact hp p hpy

theorem back_last {l : List Nat} {k : Nat} {ini : List (Fin l.length)} {last : Fin l.length} (hk : k ≤ l.length) (h : BackPre l k (ini ++ [last])) (hp : ∀ p ∈ ini, l[p.val] = 255) (h5 : l[last.val] ≠ 255) : nextV l = (l.take last.val ++ [l[last.val] + 1], true) := by
  have hk1 : 1 ≤ k := by have := h.len; simp at this; omega
  obtain ⟨k', rfl⟩ : ∃ k', k = k' + 1 := ⟨k - 1, by omega⟩
  unfold BackPre at h
  rw [List.map_append, List.range_succ, List.map_append] at h
  obtain ⟨e1, e2⟩ := List.append_inj' h rfl
  simp at e2
  have hl := last.isLt
  have hall : ∀ d ∈ l.drop (last.val + 1), d = 255 := by
    intro d hd
    obtain ⟨j, hj, rfl⟩ := List.getElem_of_mem hd
    rw [List.length_drop] at hj
    rw [List.getElem_drop]
    have hm : last.val + 1 + j ∈ ini.map Fin.val := by
      rw [e1]
      exact List.mem_map.2 ⟨l.length - 1 - (last.val + 1 + j), List.mem_range.2 (by omega), by omega⟩
    obtain ⟨p, hpy, hpe⟩ := List.mem_map.1 hm
    have := hp p hpy
    simp only [hpe] at this
    exact this
  have := nextV_some (a := l.take last.val) hall h5
  rw [← List.drop_eq_getElem_cons hl, List.take_append_drop] at this
  exact this

set_option maxRecDepth 100000 in
set_option maxHeartbeats 4000000 in
theorem Next_in (F : Fence) (n : Nat) (h8 : F.fn 8) (h16 : F.fn 16) (h25 : F.fn 25) (hro : F.round = none) (hn : 3 ≤ n)
    (l : List Nat) (a : Option Addr) (len cap : Nat) (w : World) (hB : Bs w.heap.size w a l) (hlen : len = l.length) (hcap : len ≤ cap) (hmax : len ≤ 1000000) :
    CallsIn F n Try.prog 8 #[.slice a len cap] w (RetN w (nextV l)) := by
  have h1 : 1 ≤ n := by omega
  have HB := Lib.hid hB
  have HL := Lib.hid hlen
  clear hB hlen
  refine callsIn_of_wp_marks Try.func8 rfl h8 ?_ hro
  simp only [Try.ntmps8, List.size_toArray, List.length_cons, List.length_nil, Nat.reduceAdd, Nat.reduceSub, Array.replicate_succ, Array.replicate_zero, List.push_toArray, List.append_toArray, List.nil_append, List.cons_append]
  gi_wp2_with (gi_at_call 16; refine (back_in F (n - 1) h16 hro _ _ _ _).mono ?_; rintro e w' ⟨rfl, rfl⟩)
  have hA : ∀ (W : World) (X : Obj), Below w.heap.size w W → Below w.heap.size w (W.alloc X) := fun W X h => h.alloc h.size _
  have hBW := hA _ (.cells #[.slice a len cap] 22) (hA _ (.cells #[.bool false] 4) (hA _ (.cells #[.slice none 0 0] 22) (hA _ (.cells #[.slice a len cap] 22) (Below.refl _ w))))
  have b1 := (((Boxed.new w 22 (.slice a len cap)).alloc (.cells #[.slice none 0 0] 22)).alloc (.cells #[.bool false] 4)).alloc (.cells #[.slice a len cap] 22)
  have b2 := ((Boxed.new (w.alloc (.cells #[.slice a len cap] 22)) 22 (.slice none 0 0)).alloc (.cells #[.bool false] 4)).alloc (.cells #[.slice a len cap] 22)
  have b3 := (Boxed.new ((w.alloc (.cells #[.slice a len cap] 22)).alloc (.cells #[.slice none 0 0] 22)) 4 (.bool false)).alloc (.cells #[.slice a len cap] 22)
  have b4 := Boxed.new (((w.alloc (.cells #[.slice a len cap] 22)).alloc (.cells #[.slice none 0 0] 22)).alloc (.cells #[.bool false] 4)) 22 (.slice a len cap)
  simp only [World.size_alloc] at b1 b2 b3 b4
  have hz : ((((w.alloc (.cells #[.slice a len cap] 22)).alloc (.cells #[.slice none 0 0] 22)).alloc (.cells #[.bool false] 4)).alloc (.cells #[.slice a len cap] 22)).heap.size = w.heap.size + 4 := by simp
  clear hA
  generalize ((((w.alloc (.cells #[.slice a len cap] 22)).alloc (.cells #[.slice none 0 0] 22)).alloc (.cells #[.bool false] 4)).alloc (.cells #[.slice a len cap] 22)) = W1 at *
  have hB1 := HB.out.below hBW
  have hst := back_stops F (n - 1) h25 hro (by omega) (w.heap.size + 3) W1.heap.size a cap l (by have := HL.out; omega) W1 (by omega) (Nat.le_refl _) (by have := b4.cell; rw [HL.out] at this; exact this) (hB1.mono (by omega))
  rw [show backArgs l = fun x => #[Value.int .i64 (x.val : Int), Value.int .u8 ((l[x.val] : Nat) : Int)] from rfl] at hst
  refine wpIn_rangeFunc_ownG hro h1 (gf := 25) (lb := #[.pointer (some ⟨w.heap.size + 3, 0, none⟩)]) rfl h25 (enters_of Try.func25 (by kernel_rfl) rfl)
    hst belowK_t (belowK_b (Nat.le_refl _)) (Below.refl _ _) (fun _ => rfl)
    (NGo l a len cap w) (NOut l w)
    (NGo_own l a len cap w _ (by omega))
    (fun c => NOut_own l w c _ (by omega))
    ⟨⟨by simp, b1.cell, ⟨b2.cell, b2.frozen⟩, b3.cell, b3.frozen⟩, hBW⟩
    ?a1 ?assign ?body ?done ?stop
  case assign =>
    intro y x W K hK
    gi_wp2
    exact hK
  case body =>
    rintro y pre x W hG _
    have HG := Lib.hid hG
    obtain ⟨⟨hp, c1, ⟨c2, f2⟩, c3, f3⟩, hBW2⟩ := hG
    obtain ⟨i, hi⟩ := x
    have h256 := HB.out.1 _ (List.getElem_mem hi)
    have hPX : ∀ (h : l[i] = 255), ∀ p ∈ pre ++ [(⟨i, hi⟩ : Fin l.length)], l[p.val] = 255 := fun h p hp' => (List.mem_append.1 hp').elim (hp p) (fun e => by simp at e; subst e; exact h)
    obtain ⟨c, hcd⟩ : ∃ c, c = l[i] := ⟨_, rfl⟩
    rw [← hcd] at h256 hPX
    have hcg : (((l[(⟨i, hi⟩ : Fin l.length).val] : Nat)) : Int) = (c : Int) := by rw [hcd]
    by_cases h255 : c = 255
    · subst h255
      have HPX := Lib.hid (hPX rfl)
      clear hPX hcd h256
      try rw [hcg]
      have HZ := Lib.hid hz
      clear hz
      gi_wp2
      exact ⟨KeepsFrom.refl _ _, Below.refl _ _, ⟨HPX.out, c1, ⟨c2, f2⟩, c3, f3⟩, hBW2⟩
    · have q255 : decide ((c : Int) < 255) = true := by simp; omega
      have hmk : ∀ V : World, (Instr.makeSlice 22 (.int .i64 ((i : Int) + 1)) (.int .i64 ((i : Int) + 1))).run Try.prog V = .ok (.slice (some ⟨V.heap.size, 0, none⟩) (i + 1) (i + 1)) (V.alloc (.cells (madeCells #[.int .u8 0] (i + 1)) 5)) := by
        intro V
        have := run_make_row' (P := Try.prog) 22 5 (.int .u8 0) 1 Try.underlying22 (by kernel_rfl) rfl .i64 .i64 (i + 1) (by have := HL.out; omega) (by have := HL.out; omega) V
        simpa using this
      have hcp := fun ty => copyK W w.heap.size l a len cap (i + 1) (HB.out.below hBW2) hBW2.size HL.out (by have := HL.out; omega) (by omega) ty 5
      have him : i + 1 ≤ 1000000 := by have := HL.out; omega
      obtain ⟨row, hrow⟩ : ∃ row, row = ((l.take (i + 1)).map fun (c : Nat) => Value.int .u8 (c : Int)).toArray := ⟨_, rfl⟩
      have hrc : row[i]? = some (.int .u8 (c : Int)) := by rw [hrow, hcd]; simp [hi]
      have hgc : (W.alloc (.cells row 5)).cell? ⟨W.heap.size, i, none⟩ = some (.int .u8 (c : Int)) := by rw [World.cell?_alloc_new]; exact hrc
      have hgf : (W.alloc (.cells row 5)).frozen? ⟨W.heap.size, i, none⟩ = false := World.frozen?_alloc_new _ _ _ _
      have hsz : w.heap.size + 2 < W.heap.size := by
        by_cases h : w.heap.size + 2 < W.heap.size
        · exact h
        · exfalso
          simp only [World.cell?] at c3
          rw [Array.getElem?_eq_none (by omega)] at c3
          simp at c3
      have d1 : (W.alloc (.cells (madeCells #[.int .u8 0] (i + 1)) 5)).cell? ⟨w.heap.size, 0, none⟩ = some (.slice a len cap) := (World.cell?_alloc_lt _ _ _ (show w.heap.size < W.heap.size by omega)).trans c1
      have e2 : ∀ o : Obj, (W.alloc o).cell? ⟨w.heap.size + 1, 0, none⟩ = some (.slice none 0 0) := fun o => (World.cell?_alloc_lt _ _ _ (show w.heap.size + 1 < W.heap.size by omega)).trans c2
      have g2 : ∀ o : Obj, (W.alloc o).frozen? ⟨w.heap.size + 1, 0, none⟩ = false := fun o => ((Below.box W o).frozen (p := ⟨w.heap.size + 1, 0, none⟩) (show w.heap.size + 1 < W.heap.size by omega)).trans f2
      have e3 : ∀ (o : Obj) v, ((W.alloc o).setCell ⟨w.heap.size + 1, 0, none⟩ v).cell? ⟨w.heap.size + 1 + 1, 0, none⟩ = some (.bool false) := fun o v =>
        (World.cell?_setCell_other _ _ _ _ (by simp)).trans ((World.cell?_alloc_lt _ _ _ (show w.heap.size + 2 < W.heap.size by omega)).trans c3)
      have g3 : ∀ (o : Obj) v, ((W.alloc o).setCell ⟨w.heap.size + 1, 0, none⟩ v).frozen? ⟨w.heap.size + 1 + 1, 0, none⟩ = false := fun o v => by
        rw [World.frozen?_setCell]; exact ((Below.box W o).frozen (p := ⟨w.heap.size + 2, 0, none⟩) (show w.heap.size + 2 < W.heap.size by omega)).trans f3
      rw [← hrow] at hcp
      have HRow := Lib.hid hrow
      have HCD := Lib.hid hcd
      have HJ := Lib.hid hi
      have HZ := Lib.hid hz
      clear hPX hcd hrow hrc hz
      try rw [hcg]
      gi_wp2
      exact next_out w W l a len cap _ i c hi HCD.out h255 HB.out.1 pre HG.out hsz (by have := HZ.out; omega) row HRow.out _
  case done =>
    rintro D ys W hD hys ⟨⟨hp, c1, ⟨c2, f2⟩, c3, f3⟩, hbw⟩ hK
    have HN := Lib.hid (nextV_none (back_all hys hp))
    have HZ := Lib.hid hz
    clear hz hp hys
    have e3 : ∀ v, (W.setCell ⟨w.heap.size + 1, 0, none⟩ v).cell? ⟨w.heap.size + 1 + 1, 0, none⟩ = some (.bool false) := fun v => (World.cell?_setCell_other _ _ _ _ (by simp)).trans c3
    have g3 : ∀ v, (W.setCell ⟨w.heap.size + 1, 0, none⟩ v).frozen? ⟨w.heap.size + 1 + 1, 0, none⟩ = false := fun v => by rw [World.frozen?_setCell]; exact f3
    gi_wp2
    have hK1 := (KeepsOthers.setCell W ⟨w.heap.size + 1, 0, none⟩ (.slice none 0 0)).same D _ hK rfl
    have hK' := (KeepsOthers.setCell _ ⟨w.heap.size + 1 + 1, 0, none⟩ (.bool false)).same D _ hK1 rfl
    refine ⟨by simp, .inl ⟨_, _, rfl, run_takeDeferred hK', ?_⟩⟩
    have k5 : ((W.setCell ⟨w.heap.size + 1, 0, none⟩ (.slice none 0 0)).setCell ⟨w.heap.size + 1 + 1, 0, none⟩ (.bool false)).cell? ⟨w.heap.size + 1 + 1, 0, none⟩ = some (.bool false) := World.cell?_setCell_same _ _ _ (e3 _)
    have k4 : ((W.setCell ⟨w.heap.size + 1, 0, none⟩ (.slice none 0 0)).setCell ⟨w.heap.size + 1 + 1, 0, none⟩ (.bool false)).cell? ⟨w.heap.size + 1, 0, none⟩ = some (.slice none 0 0) := (World.cell?_setCell_other _ _ _ _ (by simp)).trans (World.cell?_setCell_same _ _ _ c2)
    have hc5 := cell_kept k5 (grownBy_putObj' _ D (.deferred none)) (fun r e => by cases e; exact ⟨_, hK', rfl⟩)
    have hc4 := cell_kept k4 (grownBy_putObj' _ D (.deferred none)) (fun r e => by cases e; exact ⟨_, hK', rfl⟩)
    refine ⟨.tuple #[.slice none 0 0, .bool false], ?_, retN_no w _ _ HN.out ((((hbw.setCell (p := ⟨w.heap.size + 1, 0, none⟩) (by show w.heap.size ≤ w.heap.size + 1; omega) _).setCell (p := ⟨w.heap.size + 1 + 1, 0, none⟩) (by show w.heap.size ≤ w.heap.size + 1 + 1; omega) _)).trans (belowK_b (w := w) (Nat.le_refl _) _ D _ _ (by have := HZ.out; omega) hK' rfl rfl))⟩
    simp [results, Try.f8, go_sem, hc4, hc5]
  case stop =>
    rintro D c pre W hD ⟨k, hk, hpre⟩ ⟨⟨rfl, ini, last, g, cap', rfl, e2, e3, e4, e5, e6, N, e7, e8⟩, hbw⟩ hK
    have HN := Lib.hid (back_last hk hpre e2 e3)
    have HZ := Lib.hid hz
    clear hz e2 e3 hpre
    gi_wp2
    refine ⟨by simp, .inl ⟨_, _, rfl, run_takeDeferred hK, ?_⟩⟩
    have hc5 := cell_kept e5 (grownBy_putObj' _ D (.deferred none)) (fun r e => by cases e; exact ⟨_, hK, rfl⟩)
    have hc6 := cell_kept e6 (grownBy_putObj' _ D (.deferred none)) (fun r e => by cases e; exact ⟨_, hK, rfl⟩)
    have hbs := e7.keptBy (grownBy_putObj' _ D (.deferred none)) (fun r e => by cases e; exact ⟨_, hK, rfl⟩)
    refine ⟨.tuple #[.slice (some ⟨g, 0, none⟩) (last.val + 1) cap', .bool true], ?_, hbw.trans (belowK_b (w := w) (Nat.le_refl _) _ D _ _ (by have := HZ.out; omega) hK rfl rfl), some ⟨g, 0, none⟩, cap', ?_, ?_, ?_⟩
    · simp [results, Try.f8, go_sem, hc5, hc6]
    · rw [HN.out]
      have : last.val < l.length := last.isLt
      simp [List.length_take, Nat.min_eq_left (Nat.le_of_lt this)]
    · rw [HN.out]
      have : last.val < l.length := last.isLt
      simp [List.length_take, Nat.min_eq_left (Nat.le_of_lt this)]; omega
    · rw [HN.out]
      exact hbs.mono (Nat.le_trans e8 (grownBy_putObj' W D (.deferred none)).size)

theorem Next_any (l : List Nat) (a : Option Addr) (len cap : Nat) (w : World) (hB : Bs w.heap.size w a l) (hlen : len = l.length) (hcap : len ≤ cap) (hmax : len ≤ 1000000) :
    Calls Try.prog 8 #[.slice a len cap] w (RetN w (nextV l)) :=
  (callsIn_wide (n := 6)).1 (Next_in Fence.wide 6 trivial trivial trivial rfl (by omega) l a len cap w hB hlen hcap hmax)
end Go.Proofs.Ytpdfdlikijghhaa

/- The walk of hindsightlaw04.alive. -/
namespace Go.Proofs.Ytpdfdlikijghhaa
open Go.RowKit

theorem k_write_two : writeK [⟨0, 0, ⟨#[]⟩⟩, ⟨2, 0, ⟨#[97, 0]⟩⟩] = ([16, 18, 97, 0, 255, 0, 1], 0) := by
  have hr : rowOk [⟨0, 0, ⟨#[]⟩⟩, ⟨2, 0, ⟨#[97, 0]⟩⟩] = true := by decide
  have hk : keyL [⟨0, 0, ⟨#[]⟩⟩, ⟨2, 0, ⟨#[97, 0]⟩⟩] = [16, 18, 97, 0, 255, 0, 1] := by decide
  rw [writeK_good hr (by rw [hk]; simp), hk]

theorem k_read_two : readK [16, 18, 97, 0, 255, 0, 1] = ([⟨0, 0, ⟨#[]⟩⟩, ⟨2, 0, ⟨#[97, 0]⟩⟩], 0) := by
  have h : tupK [16, 18, 97, 0, 255, 0, 1] = some [⟨0, 0, ⟨#[]⟩⟩, ⟨2, 0, ⟨#[97, 0]⟩⟩] := by decide
  unfold readK
  rw [if_neg (by simp), h]

theorem k_read_bad : readK [20] = ([], 3) := by
  have h : tupK [20] = none := by decide
  unfold readK
  rw [if_neg (by simp), h]

theorem k_next : nextV [1, 255] = ([2], true) := by decide

theorem Vs.two (w : World) (x y : Vl) (T : TypeId) : Vs (w.heap.size + 1) (w.alloc (.cells #[.int .u8 x.k, .int .i64 x.n, .string x.s, .int .u8 y.k, .int .i64 y.n, .string y.s] T)) (some ⟨w.heap.size, 0, none⟩) [x, y] := by
  refine .inr ⟨w.heap.size, 0, rfl, by omega, fun i z hi => ?_⟩
  match i, hi with
  | 0, hi =>
    simp at hi; subst hi
    refine ⟨?_, ?_, ?_⟩ <;> (rw [World.cell?_alloc_new]; rfl)
  | 1, hi =>
    simp at hi; subst hi
    refine ⟨?_, ?_, ?_⟩ <;> (rw [World.cell?_alloc_new]; rfl)

set_option maxHeartbeats 4000000 in
theorem alive4_any (w : World) : Calls Try.prog 7 #[] w fun e w' => e = .returned (.bool true) ∧ Below w.heap.size w w' := by
  go_enter Try.func7, Try.ntmps7
  go_wp2_with fail
  have hV := Vs.two w ⟨0, 0, ⟨#[]⟩⟩ ⟨2, 0, ⟨#[97, 0]⟩⟩ 39
  have hW := KWrite_any [⟨0, 0, ⟨#[]⟩⟩, ⟨2, 0, ⟨#[97, 0]⟩⟩] (some ⟨w.heap.size, 0, none⟩) 2 2 (w.alloc (.cells #[.int .u8 0, .int .i64 0, .string ⟨#[]⟩, .int .u8 2, .int .i64 0, .string ⟨#[97, 0]⟩] 39)) (by simpa using hV) rfl (by omega) (by intro x hx; simp at hx; rcases hx with rfl | rfl <;> exact ⟨by decide, by decide, by decide⟩)
  rw [k_write_two] at hW
  have hw1 : Below w.heap.size w (w.alloc (.cells #[.int .u8 0, .int .i64 0, .string ⟨#[]⟩, .int .u8 2, .int .i64 0, .string ⟨#[97, 0]⟩] 39)) := Below.box _ _
  clear hV
  refine hW.mono ?_
  rintro e w2 ⟨a2, c2, rfl, hcap2, hB2, hb2⟩
  dsimp only at hB2 hcap2
  replace hw1 := hw1.trans (hb2.mono hw1.size)
  have hz2 := hw1.size
  clear hW hb2
  go_wp2_with fail
  have hR := KRead_any [16, 18, 97, 0, 255, 0, 1] a2 7 c2 w2 hB2 rfl hcap2 (by omega)
  rw [k_read_two] at hR
  refine hR.mono ?_
  rintro e w4 ⟨a4, c4, rfl, hcap4, hV4, hb24⟩
  dsimp only at hV4
  have hB4 := (hB2.below hb24).mono hb24.size
  replace hw1 := hw1.trans (hb24.mono hz2)
  have hz4 := hw1.size
  clear hR hcap4 hB2 hb24 hcap2
  go_wp2_with fail
  have hR := Next_any [1, 255] (some ⟨w4.heap.size, 0, none⟩) 2 2 (w4.alloc (.cells #[.int .u8 1, .int .u8 255] 5))
    (by simpa using Bs.new w4 [1, 255] (by simp) #[.int .u8 1, .int .u8 255] 5 (by intro i c hi; match i, hi with | 0, hi => simp at hi; subst hi; rfl | 1, hi => simp at hi; subst hi; rfl)) rfl (by omega) (by omega)
  rw [k_next] at hR
  have hbA := Below.box w4 (.cells #[.int .u8 1, .int .u8 255] 5)
  refine hR.mono ?_
  rintro e w6 ⟨hb6, a6, c6, rfl, hcap6, hB6⟩
  dsimp only at hB6
  have hb46 : Below w4.heap.size w4 w6 := hbA.trans (hb6.mono (by simp))
  have hB46 := (hB4.below hb46).mono hb46.size
  have hV46 := (hV4.below hb46).mono hb46.size
  replace hw1 := hw1.trans (hb46.mono hz4)
  have hz6 := hw1.size
  clear hR hb6 hcap6 hbA hB4 hV4 hb46
  go_wp2_with fail
  have hR := KRead_any [20] (some ⟨w6.heap.size, 0, none⟩) 1 1 (w6.alloc (.cells #[.int .u8 20] 5))
    (by simpa using Bs.new w6 [20] (by simp) #[.int .u8 20] 5 (by intro i c hi; match i, hi with | 0, hi => simp at hi; subst hi; rfl)) rfl (by omega) (by omega)
  rw [k_read_bad] at hR
  have hbA := Below.box w6 (.cells #[.int .u8 20] 5)
  refine hR.mono ?_
  rintro e w8 ⟨a8, c8, rfl, hcap8, hV8, hb8⟩
  have hb68 : Below w6.heap.size w6 w8 := hbA.trans (hb8.mono (by simp))
  have hs := (hB46.below hb68).str 7 c2 rfl
  rw [show strN [16, 18, 97, 0, 255, 0, 1] = ⟨#[16, 18, 97, 0, 255, 0, 1]⟩ from by decide] at hs
  have hs2 := (hB6.below hb68).str 1 c6 rfl
  rw [show strN [2] = ⟨#[2]⟩ from by decide] at hs2
  obtain ⟨b, o, rfl, hbN, hc⟩ := (hV46.below hb68).at_ (k := 1) (by simp)
  obtain ⟨d0, d1, d2⟩ := hc
  simp only [Nat.one_mul] at d0 d1 d2
  replace hw1 := hw1.trans (hb68.mono hz6)
  clear hR hb8 hcap8 hbA hV8 hV46 hB46 hB6
  go_wp2
  go_ret
  exact ⟨rfl, hw1⟩
end Go.Proofs.Ytpdfdlikijghhaa

/- The walk of the law KeyBack. -/
namespace Go.Proofs.Ytpdfdlikijghhaa
open Go.RowKit

theorem k_read_write {l : List Vl} {x : List Nat} (h : writeK l = (x, 0)) (hf : ∀ y ∈ l, y.fair) : readK x = (l, 0) := by
  cases hro : rowOk l with
  | false => rw [writeK_bad hro] at h; simp at h
  | true =>
    by_cases hl : 100 < (keyL l).length
    · rw [writeK_long hro hl] at h; simp at h
    · rw [writeK_good hro hl] at h
      simp only [Prod.mk.injEq, and_true] at h
      subst h
      obtain ⟨h16, hr⟩ := (rowOk_iff l).1 hro
      unfold readK tupK
      rw [if_neg hl, tup_enc l [] _ hr hf (by simpa using h16) (Nat.le_refl _)]
      rfl

theorem k_write_read (b : List Nat) (h256 : ∀ c ∈ b, c < 256) : ((readK b).2 ≠ 0 ∧ (readK b).1 = []) ∨
    ((readK b).2 = 0 ∧ writeK (readK b).1 = (b, 0) ∧ (∀ y ∈ (readK b).1, y.fair) ∧ (readK b).1.length ≤ 16) := by
  unfold readK
  by_cases hlong : 100 < b.length
  · left; rw [if_pos hlong]; exact ⟨by simp, rfl⟩
  · rw [if_neg hlong]
    cases hT : tupK b with
    | none => left; exact ⟨by simp, rfl⟩
    | some L =>
      right
      unfold tupK at hT
      obtain ⟨M, e1, e2, e3, e4, e5, e6⟩ := enc_tup b.length [] b h256 (Nat.le_refl _) (by omega) (by simp) L hT
      rw [List.nil_append] at e1
      subst e1
      refine ⟨rfl, ?_, e4, e5⟩
      have hr : rowOk L = true := (rowOk_iff L).2 ⟨e5, e3⟩
      simp only []
      rw [writeK_good hr (by rw [e2]; exact hlong), e2]

theorem writeK_len (l : List Vl) : (writeK l).1.length ≤ 100 := by
  cases hro : rowOk l with
  | false => rw [writeK_bad hro]; simp
  | true =>
    by_cases hl : 100 < (keyL l).length
    · rw [writeK_long hro hl]; simp
    · rw [writeK_good hro hl]; simp only []; omega

set_option maxHeartbeats 8000000 in
theorem kback_any (l : List Vl) (a : Option Addr) (len cap : Nat) (bl : List Nat) (a' : Option Addr) (len' cap' : Nat) (w : World) (h1 : RowIn w a len cap l) (hB : Bs w.heap.size w a' bl) (hlen' : len' = bl.length) (hcap' : len' ≤ cap') (hmax' : cap' ≤ 9223372036854775807) :
    Calls Try.prog 4 #[.slice a len cap, .slice a' len' cap'] w fun e w' => e = .returned (.bool true) ∧ Below w.heap.size w w' := by
  have H1 := Lib.hid h1
  have HB := Lib.hid hB
  have HL := Lib.hid hlen'
  clear h1 hB hlen'
  have HA := Lib.hid (fun W => alive4_any W)
  go_enter Try.func4, Try.ntmps4
  go_wp2_with fail
  refine H1.out.great.mono ?_
  rintro e w1 ⟨g, rfl, hg, rfl⟩
  cases g with
  | true =>
    clear hg
    go_wp2_with fail
    refine (HA.out _).mono ?_
    rintro e w1 ⟨rfl, hb⟩
    go_wp2
    go_ret
    exact ⟨rfl, hb⟩
  | false =>
    have S1 := Lib.hid (hg rfl)
    clear hg
    by_cases hbig : 300 < len'
    · go_wp2_with fail
      refine (HA.out _).mono ?_
      rintro e w1 ⟨rfl, hb⟩
      go_wp2
      go_ret
      exact ⟨rfl, hb⟩
    · have qb : decide ((300 : Int) < (len' : Int)) = false := by simp; omega
      have L1 : len ≤ 40 := by have := H1.out.1; have := S1.out.1; omega
      have hf : ∀ x ∈ l, x.fair := fun x hx => (H1.out.2.2.2.2 x hx).fair
      have HWr := Lib.hid (fun W (hb : Below w.heap.size w W) => KWrite_any l a len cap W (H1.out.later hb).2.2.2.1 H1.out.1 (by omega) hf)
      have HRd := Lib.hid (fun W (hb : Below w.heap.size w W) => KRead_any bl a' len' cap' W ((HB.out.below hb).mono hb.size) HL.out hcap' (by omega))
      have HRW := Lib.hid (fun x (h : writeK l = (x, 0)) => k_read_write h hf)
      have HXL := Lib.hid (writeK_len l)
      have hm := k_write_read bl HB.out.1
      obtain ⟨R, hR⟩ : ∃ R, readK bl = R := ⟨_, rfl⟩
      rw [hR] at HRd hm
      obtain ⟨M, f⟩ := R
      dsimp only at hm
      have hMf : (∀ y ∈ M, y.fair) ∧ M.length ≤ 16 := by
        rcases hm with ⟨_, h⟩ | ⟨_, _, h⟩
        · rw [h]; simp
        · exact h
      have HMF := Lib.hid hMf
      have HM : Hid ((f ≠ 0) ∨ (f = 0 ∧ writeK M = (bl, 0))) := by
        rcases hm with ⟨h, _⟩ | ⟨h1, h2, _⟩
        · exact .inl h
        · exact .inr ⟨h1, h2⟩
      obtain ⟨X, hX⟩ : ∃ X, writeK l = X := ⟨_, rfl⟩
      rw [hX] at HWr HRW HXL
      obtain ⟨xl, e0⟩ := X
      clear hf hm hMf hR hX
      dsimp only at HXL
      go_wp2_with fail
      refine (HWr.out _ (Below.refl _ _)).mono ?_
      rintro e w2 ⟨a2, c2, rfl, hcap2, hB2, hb2⟩
      dsimp only at hcap2 hB2 ⊢
      have hw : Below w.heap.size w w2 := hb2
      have HB2 := Lib.hid hB2
      obtain ⟨n2, hn2⟩ : ∃ n2, n2 = xl.length := ⟨_, rfl⟩
      rw [← hn2] at hcap2 ⊢
      have HN2 := Lib.hid hn2
      have hx2 : n2 ≤ 100 := by have := HXL.out; have := HN2.out; omega
      clear hb2 hB2 HWr HXL hn2
      -- what comes behind the first half
      have HT : ∀ (W : World), Below w.heap.size w W → Hid (Below w.heap.size w W) := fun _ h => h
      by_cases he : e0 = 0
      · subst he
        have HRX := Lib.hid (HRW.out xl rfl)
        have hRdX := KRead_any xl a2 n2 c2 w2 HB2.out HN2.out hcap2 (by omega)
        rw [HRX.out] at hRdX
        have HRdX := Lib.hid hRdX
        clear hRdX
        go_wp2_with fail
        refine HRdX.out.mono ?_
        rintro e w3 ⟨a3, c3, rfl, hcap3, hV3, hb3⟩
        dsimp only at hcap3 hV3 ⊢
        have hw3 := hw.trans (hb3.mono hw.size)
        have hSame := Same_any l l a len cap a3 l.length c3 w3 (H1.out.later hw3).2.2.2.1 H1.out.1 hV3 rfl (by omega) (by have := H1.out.1; omega)
        unfold RetS at hSame
        rw [decide_eq_true (rfl : l = l), ← H1.out.1] at hSame
        rw [← H1.out.1]
        have HSame := Lib.hid hSame
        clear hSame HRdX hV3 hcap3 hb3
        go_wp2_with fail
        refine HSame.out.mono ?_
        rintro e w4 ⟨rfl, hb4⟩
        have hw4 := hw3.trans (hb4.mono hw3.size)
        clear HSame hb4 hw3 hw HT
        go_wp2_with fail
        refine (HRd.out _ hw4).mono ?_
        rintro e w5 ⟨a5, c5, rfl, hcap5, hV5, hb5⟩
        dsimp only at hcap5 hV5 ⊢
        have hw5 := hw4.trans (hb5.mono hw4.size)
        have hWM := KWrite_any M a5 M.length c5 w5 hV5 rfl (by have := HMF.out.2; omega) HMF.out.1
        have HWM := Lib.hid hWM
        clear hWM hV5 hcap5 hb5 HRd hw4
        go_wp2_with fail
        refine HWM.out.mono ?_
        rintro e w6 ⟨a6, c6, rfl, hcap6, hB6, hb6⟩
        have hw6 := hw5.trans (hb6.mono hw5.size)
        clear HWM hw5 hb6
        have hm := HM.out
        clear HM
        rcases hm with hf | ⟨rfl, hwm⟩
        · have qf : (f != 0) = true := by simp [hf]
          have qf2 : (f == 0) = false := by simp [hf]
          obtain ⟨G, hG⟩ : ∃ G, writeK M = G := ⟨_, rfl⟩
          rw [hG] at hB6 hcap6 ⊢
          obtain ⟨al, gg⟩ := G
          clear hG hB6 hcap6
          go_wp2_with fail
          refine (HA.out _).mono ?_
          rintro e w7 ⟨rfl, hb7⟩
          have hw7 := hw6.trans (hb7.mono hw6.size)
          go_wp2
          go_ret
          exact ⟨rfl, hw7⟩
        · rw [hwm] at hB6 hcap6 ⊢
          dsimp only at hB6 ⊢
          clear hcap6 hwm
          go_wp2_with fail
          refine (HA.out _).mono ?_
          rintro e w7 ⟨rfl, hb7⟩
          have hw7 := hw6.trans (hb7.mono hw6.size)
          have hcv := (hB6.below hb7).str bl.length c6 rfl
          have hcv2 := (HB.out.below hw7).str len' cap' HL.out
          rw [← HL.out] at hcv ⊢
          clear hB6 hb7
          go_wp2
          go_ret
          exact ⟨rfl, hw7⟩
      · have qe : (e0 == 0) = false := by simp [he]
        clear HRW HT
        go_wp2_with fail
        refine (HRd.out _ hw).mono ?_
        rintro e w5 ⟨a5, c5, rfl, hcap5, hV5, hb5⟩
        dsimp only at hcap5 hV5 ⊢
        have hw5 := hw.trans (hb5.mono hw.size)
        have hWM := KWrite_any M a5 M.length c5 w5 hV5 rfl (by have := HMF.out.2; omega) HMF.out.1
        have HWM := Lib.hid hWM
        clear hWM hV5 hcap5 hb5 HRd hw
        go_wp2_with fail
        refine HWM.out.mono ?_
        rintro e w6 ⟨a6, c6, rfl, hcap6, hB6, hb6⟩
        have hw6 := hw5.trans (hb6.mono hw5.size)
        clear HWM hw5 hb6
        have hm := HM.out
        clear HM
        rcases hm with hf | ⟨rfl, hwm⟩
        · have qf : (f != 0) = true := by simp [hf]
          have qf2 : (f == 0) = false := by simp [hf]
          obtain ⟨G, hG⟩ : ∃ G, writeK M = G := ⟨_, rfl⟩
          rw [hG] at hB6 hcap6 ⊢
          obtain ⟨al, gg⟩ := G
          clear hG hB6 hcap6
          go_wp2_with fail
          refine (HA.out _).mono ?_
          rintro e w7 ⟨rfl, hb7⟩
          have hw7 := hw6.trans (hb7.mono hw6.size)
          go_wp2
          go_ret
          exact ⟨rfl, hw7⟩
        · rw [hwm] at hB6 hcap6 ⊢
          dsimp only at hB6 ⊢
          clear hcap6 hwm
          go_wp2_with fail
          refine (HA.out _).mono ?_
          rintro e w7 ⟨rfl, hb7⟩
          have hw7 := hw6.trans (hb7.mono hw6.size)
          have hcv := (hB6.below hb7).str bl.length c6 rfl
          have hcv2 := (HB.out.below hw7).str len' cap' HL.out
          rw [← HL.out] at hcv ⊢
          clear hB6 hb7
          go_wp2
          go_ret
          exact ⟨rfl, hw7⟩
end Go.Proofs.Ytpdfdlikijghhaa
