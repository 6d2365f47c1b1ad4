/- Several texts of one proof, one behind the other. -/
import Derived.Test.YtialpfdhdcjpaaaSPk20
import Derived.RangeFuncBox
import Derived.RangeFuncLeaves
import Derived.Shelf.Abstract
import Derived.WalkKit
import Derived.OwnWalkIn
import Derived.TacticsInMore
import Derived.LoopNIn
import Derived.LoopIn
import Derived.Deep.WholeRow
import Derived.Deep.OwnRows
set_option linter.unusedSimpArgs false
set_option linter.unusedVariables false

/- slices.Backward of bytes: what its range hands out. -/
set_option linter.unusedSimpArgs false
set_option linter.unusedVariables false
set_option maxRecDepth 100000
namespace Go.Proofs.Ytialpfdhdcjpaaa
open Go.RowKit Go.Shelf

attribute [local go_sem] Oper.semAt_some

/-- The indices that have come when k rounds are over: from the last on downwards. -/
def BackPre (l : List Nat) (k : Nat) (pre : List (Fin l.length)) : Prop := pre.map Fin.val = (List.range k).map fun j => l.length - 1 - j

theorem BackPre.succ {l : List Nat} {k : Nat} {pre : List (Fin l.length)} (h : BackPre l k pre) (x : Fin l.length) (hx : x.val = l.length - 1 - k) : BackPre l (k + 1) (pre ++ [x]) := by
  unfold BackPre at *
  rw [List.map_append, h, List.range_succ, List.map_append]; simp [hx]

theorem BackPre.len {l : List Nat} {k : Nat} {pre : List (Fin l.length)} (h : BackPre l k pre) : pre.length = k := by
  have := congrArg List.length h
  simpa using this

/-- The arguments of the loop's body. -/
def backArgs (l : List Nat) (x : Fin l.length) : Array Value := #[.int .i64 (x.val : Int), .int .u8 ((l[x.val] : Nat) : Int)]

end Go.Proofs.Ytialpfdhdcjpaaa

/- 'make([]byte, k)' and 'copy' from a longer row into it. -/
set_option linter.unusedSimpArgs false
set_option linter.unusedVariables false
set_option maxRecDepth 100000
namespace Go.Proofs.Ytialpfdhdcjpaaa
open Go.RowKit

theorem copyK (w : World) (N : Nat) (l : List Nat) (a : Option Addr) (n cap k : Nat) (hB : Bs N w a l) (hN : N ≤ w.heap.size) (hn : n = l.length) (hk : k ≤ n) (h0 : 0 < k) (ty : TypeId) (T : TypeId) :
    (Builtin.copy_ #[32, 32] ty #[.slice (some ⟨w.heap.size, 0, none⟩) k k, .slice a n cap]).run Try.prog (w.alloc (.cells (madeCells #[.int .u8 0] k) T)) =
      .ok (.int .i64 (k : Int)) (w.alloc (.cells ((l.take k).map fun (c : Nat) => Value.int .u8 (c : Int)).toArray T)) := by
  subst hn
  rcases hB.2 with h | ⟨b, o, rfl, hb, hc⟩
  · subst h; simp at hk; omega
  · have hlen : ((l.take k).map fun (c : Nat) => Value.int .u8 (c : Int)).length = k := by rw [List.length_map, List.length_take]; omega
    have hcells : ∀ j v, ((l.take k).map fun (c : Nat) => Value.int .u8 (c : Int))[j]? = some v → (w.alloc (.cells (madeCells #[.int .u8 0] k) T)).cell? ((⟨b, o, none⟩ : Addr).add j) = some v := by
      intro j v hv
      rw [List.getElem?_map] at hv
      cases hj : (l.take k)[j]? with
      | none => rw [hj] at hv; cases hv
      | some c =>
        rw [hj] at hv
        simp only [Option.map_some, Option.some.injEq] at hv
        subst hv
        have e1 : (⟨b, o, none⟩ : Addr).add j = ⟨b, o + j, none⟩ := by unfold Addr.add; split <;> simp_all
        have hj2 : l[j]? = some c := by
          rw [List.getElem?_take] at hj
          split at hj
          · exact hj
          · cases hj
        rw [e1, (Below.box w _).cell (p := ⟨b, o + j, none⟩) (show b < w.heap.size by omega)]
        exact hc j c hj2
    have hrun := run_copy_row (P := Try.prog) (w.alloc (.cells (madeCells #[.int .u8 0] k) T)) 32 32 ty 5 w.heap.size 0 k k ⟨b, o, none⟩ l.length cap
      (madeCells #[.int .u8 0] k) T ((l.take k).map fun (c : Nat) => Value.int .u8 (c : Int)) Try.underlying32 (by kernel_rfl)
      (heap_alloc_new _ _) (by rw [hlen]; exact (Nat.min_eq_right hk).symm) hcells (by rw [hlen, size_madeCells]; omega) (by intro v hv; obtain ⟨c, _, rfl⟩ := List.mem_map.1 hv; rfl)
    rw [hrun, hlen, World.setRow_alloc_new]
    have hd : (madeCells #[Value.int .u8 0] k).toList.drop (0 + k) = [] := List.drop_eq_nil_of_le (by rw [Array.length_toList, size_madeCells]; omega)
    rw [hd, List.take_zero, List.nil_append, List.append_nil]
    rfl
end Go.Proofs.Ytialpfdhdcjpaaa

/- The walk of key.Next. -/
set_option linter.unusedSimpArgs false
set_option linter.unusedVariables false
set_option maxRecDepth 100000
namespace Go.Proofs.Ytialpfdhdcjpaaa
open Go.RowKit Go.Shelf

attribute [local go_sem] Oper.semAt_some

theorem Bs.keptBy {N : Nat} {w w' : World} {a : Option Addr} {l : List Nat} {row : Option Nat} (h : Bs N w a l) (hg : w.grownBy w' row) (hr : ∀ r, row = some r → ∃ o : Obj, w.heap[r]? = some o ∧ o.isCells = false) : Bs N w' a l := by
  refine ⟨h.1, ?_⟩
  rcases h.2 with h2 | ⟨b, o, ha, hN, hc⟩
  · exact .inl h2
  · exact .inr ⟨b, o, ha, hN, fun i c hi => cell_kept (hc i c hi) hg hr⟩

/-- The rounds so far: every byte was 255. -/
def NGo (l : List Nat) (a : Option Addr) (len cap : Nat) (w : World) (pre : List (Fin l.length)) (W : World) : Prop :=
  ((∀ p ∈ pre, l[p.val] = 255) ∧ W.cell? ⟨w.heap.size, 0, none⟩ = some (.slice a len cap) ∧ (W.cell? ⟨w.heap.size + 1, 0, none⟩ = some (.slice none 0 0) ∧ W.frozen? ⟨w.heap.size + 1, 0, none⟩ = false) ∧ W.cell? ⟨w.heap.size + 2, 0, none⟩ = some (.bool false) ∧ W.frozen? ⟨w.heap.size + 2, 0, none⟩ = false) ∧ Below w.heap.size w W

/-- How the loop is left by its return. -/
def NOut (l : List Nat) (w : World) (c : Code) (pre : List (Fin l.length)) (W : World) : Prop :=
  (c = .ret ∧ ∃ ini last g cap', pre = ini ++ [last] ∧ (∀ p ∈ ini, l[p.val] = 255) ∧ l[last.val] ≠ 255 ∧ last.val + 1 ≤ cap' ∧ W.cell? ⟨w.heap.size + 1, 0, none⟩ = some (.slice (some ⟨g, 0, none⟩) (last.val + 1) cap') ∧ W.cell? ⟨w.heap.size + 2, 0, none⟩ = some (.bool true) ∧ ∃ N, Bs N W (some ⟨g, 0, none⟩) (l.take last.val ++ [l[last.val] + 1]) ∧ N ≤ W.heap.size) ∧ Below w.heap.size w W

theorem NGo_own (l : List Nat) (a : Option Addr) (len cap : Nat) (w : World) (B : Nat) (hB : w.heap.size ≤ B) : OwnFrom B (NGo l a len cap w) :=
  OwnFrom.and (Own.from (fun s A B row hs hg hr => ⟨hs.1, cell_kept hs.2.1 hg hr, ⟨cell_kept hs.2.2.1.1 hg hr, (frozen_kept hs.2.2.1.1 hg hr).trans hs.2.2.1.2⟩, cell_kept hs.2.2.2.1 hg hr, (frozen_kept hs.2.2.2.1 hg hr).trans hs.2.2.2.2⟩) _) (ownFrom_below (Nat.le_refl _) hB)

theorem NOut_own (l : List Nat) (w : World) (c : Code) (B : Nat) (hB : w.heap.size ≤ B) : OwnFrom B (NOut l w c) :=
  OwnFrom.and (Own.from (fun s A B row hs hg hr => by
      obtain ⟨hc, ini, last, g, cap', e1, e2, e3, e4, e5, e6, N, e7, e8⟩ := hs
      exact ⟨hc, ini, last, g, cap', e1, e2, e3, e4, cell_kept e5 hg hr, cell_kept e6 hg hr, N, e7.keptBy hg hr, Nat.le_trans e8 hg.size⟩) _) (ownFrom_below (Nat.le_refl _) hB)

theorem row_set (l : List Nat) (i c : Nat) (hi : i < l.length) (hc : c = l[i]) :
    (((l.take (i + 1)).map fun (c : Nat) => Value.int .u8 (c : Int)).toArray).setIfInBounds i (.int .u8 ((c : Int) + 1)) = ((l.take i ++ [c + 1]).map fun (c : Nat) => Value.int .u8 (c : Int)).toArray := by
  have hl : (l.take i).length = i := by rw [List.length_take]; omega
  rw [List.take_add_one, List.getElem?_eq_getElem hi, ← hc, List.setIfInBounds_toArray]
  congr 1
  simp only [Option.toList_some, List.map_append, List.map_cons, List.map_nil]
  rw [List.set_append_right _ _ (by simp; omega)]
  simp [hl, Nat.min_eq_left (Nat.le_of_lt hi)]

theorem next_out (w W : World) (l : List Nat) (a : Option Addr) (len cap B i c : Nat) (hi : i < l.length) (hc : c = l[i]) (h255 : c ≠ 255) (h256 : ∀ x ∈ l, x < 256) (pre : List (Fin l.length))
    (hG : NGo l a len cap w pre W) (hsz : w.heap.size + 2 < W.heap.size) (hB : w.heap.size + 4 ≤ B) (row : Array Value) (hrow : row = ((l.take (i + 1)).map fun (c : Nat) => Value.int .u8 (c : Int)).toArray) (T : TypeId) :
    KeepsFrom B W (((W.alloc (.cells (row.setIfInBounds i (.int .u8 ((c : Int) + 1))) T)).setCell ⟨w.heap.size + 1, 0, none⟩ (.slice (some ⟨W.heap.size, 0, none⟩) (i + 1) (i + 1))).setCell ⟨w.heap.size + 1 + 1, 0, none⟩ (.bool true)) ∧
      NOut l w .ret (pre ++ [⟨i, hi⟩]) (((W.alloc (.cells (row.setIfInBounds i (.int .u8 ((c : Int) + 1))) T)).setCell ⟨w.heap.size + 1, 0, none⟩ (.slice (some ⟨W.heap.size, 0, none⟩) (i + 1) (i + 1))).setCell ⟨w.heap.size + 1 + 1, 0, none⟩ (.bool true)) := by
  obtain ⟨⟨hp, c1, ⟨c2, f2⟩, c3, f3⟩, hbw⟩ := hG
  rw [hrow, row_set l i c hi hc]
  obtain ⟨o, ho⟩ : ∃ o, o = ((l.take i ++ [c + 1]).map fun (c : Nat) => Value.int .u8 (c : Int)).toArray := ⟨_, rfl⟩
  rw [← ho]
  have k2 : (W.alloc (.cells o T)).cell? ⟨w.heap.size + 1, 0, none⟩ = some (.slice none 0 0) := (World.cell?_alloc_lt _ _ _ (show w.heap.size + 1 < W.heap.size by omega)).trans c2
  have k3 : ((W.alloc (.cells o T)).setCell ⟨w.heap.size + 1, 0, none⟩ (.slice (some ⟨W.heap.size, 0, none⟩) (i + 1) (i + 1))).cell? ⟨w.heap.size + 1 + 1, 0, none⟩ = some (.bool false) :=
    (World.cell?_setCell_other _ _ _ _ (by simp)).trans ((World.cell?_alloc_lt _ _ _ (show w.heap.size + 2 < W.heap.size by omega)).trans c3)
  refine ⟨⟨by simp, fun k x hk hx hcell => ?_⟩, ⟨rfl, pre, ⟨i, hi⟩, W.heap.size, i + 1, rfl, hp, by rw [← hc]; exact h255, Nat.le_refl _, ?_, World.cell?_setCell_same _ _ _ k3, W.heap.size + 1, ⟨?_, ?_⟩, by simp⟩, ?_⟩
  · have hkl : k < W.heap.size := by
      by_cases h : k < W.heap.size
      · exact h
      · rw [Array.getElem?_eq_none (by omega)] at hx; simp at hx
    rw [Below.heap_setCell _ _ _ _ (by show k ≠ w.heap.size + 1 + 1; omega), Below.heap_setCell _ _ _ _ (by show k ≠ w.heap.size + 1; omega), Below.heap_alloc _ _ _ hkl]
    exact hx
  · exact (World.cell?_setCell_other _ _ _ _ (by simp)).trans (World.cell?_setCell_same _ _ _ k2)
  · intro x hx
    rcases List.mem_append.1 hx with hx | hx
    · exact h256 x (List.mem_of_mem_take hx)
    · rw [List.mem_singleton.1 hx, ← hc]
      have := h256 _ (List.getElem_mem hi)
      omega
  · refine .inr ⟨W.heap.size, 0, rfl, by omega, fun j x hj => ?_⟩
    rw [Nat.zero_add]
    refine (World.cell?_setCell_other _ _ _ _ (by simp; try omega)).trans ((World.cell?_setCell_other _ _ _ _ (by simp; try omega)).trans ?_)
    rw [World.cell?_alloc_new]
    rw [← hc] at hj
    have hj' : (l.take i ++ [c + 1])[j]? = some x := hj
    rw [ho, List.getElem?_toArray, List.getElem?_map, hj']
    rfl
  · exact (((hbw.alloc (by omega) _).setCell (p := ⟨w.heap.size + 1, 0, none⟩) (by show w.heap.size ≤ w.heap.size + 1; omega) _).setCell (p := ⟨w.heap.size + 1 + 1, 0, none⟩) (by show w.heap.size ≤ w.heap.size + 1 + 1; omega) _)

theorem back_all {l : List Nat} {ys : List (Fin l.length)} (h : BackPre l l.length ys) (hp : ∀ p ∈ ys, l[p.val] = 255) : ∀ c ∈ l, c = 255 := by
  intro c hc
  obtain ⟨j, hj, rfl⟩ := List.getElem_of_mem hc
  have hm : j ∈ ys.map Fin.val := by
    rw [h]
    refine List.mem_map.2 ⟨l.length - 1 - j, List.mem_range.2 (by omega), by omega⟩
  obtain ⟨p, hpy, rfl⟩ := List.mem_map.1 hm
  exact hp p hpy

theorem back_last {l : List Nat} {k : Nat} {ini : List (Fin l.length)} {last : Fin l.length} (hk : k ≤ l.length) (h : BackPre l k (ini ++ [last])) (hp : ∀ p ∈ ini, l[p.val] = 255) (h5 : l[last.val] ≠ 255) : nextV l = (l.take last.val ++ [l[last.val] + 1], true) := by
  have hk1 : 1 ≤ k := by have := h.len; simp at this; omega
  obtain ⟨k', rfl⟩ : ∃ k', k = k' + 1 := ⟨k - 1, by omega⟩
  unfold BackPre at h
  rw [List.map_append, List.range_succ, List.map_append] at h
  obtain ⟨e1, e2⟩ := List.append_inj' h rfl
  simp at e2
  have hl := last.isLt
  have hall : ∀ d ∈ l.drop (last.val + 1), d = 255 := by
    intro d hd
    obtain ⟨j, hj, rfl⟩ := List.getElem_of_mem hd
    rw [List.length_drop] at hj
    rw [List.getElem_drop]
    have hm : last.val + 1 + j ∈ ini.map Fin.val := by
      rw [e1]
      exact List.mem_map.2 ⟨l.length - 1 - (last.val + 1 + j), List.mem_range.2 (by omega), by omega⟩
    obtain ⟨p, hpy, hpe⟩ := List.mem_map.1 hm
    have := hp p hpy
    simp only [hpe] at this
    exact this
  have := nextV_some (a := l.take last.val) hall h5
  rw [← List.drop_eq_getElem_cons hl, List.take_append_drop] at this
  exact this

end Go.Proofs.Ytialpfdhdcjpaaa

/- The walk of hindsightlaw04.alive. -/
set_option linter.unusedSimpArgs false
set_option linter.unusedVariables false
set_option maxRecDepth 100000
namespace Go.Proofs.Ytialpfdhdcjpaaa
open Go.RowKit

theorem k_write_two : writeK [⟨0, 0, ⟨#[]⟩⟩, ⟨2, 0, ⟨#[97, 0]⟩⟩] = ([16, 18, 97, 0, 255, 0, 1], 0) := by
  have hr : rowOk [⟨0, 0, ⟨#[]⟩⟩, ⟨2, 0, ⟨#[97, 0]⟩⟩] = true := by decide
  have hk : keyL [⟨0, 0, ⟨#[]⟩⟩, ⟨2, 0, ⟨#[97, 0]⟩⟩] = [16, 18, 97, 0, 255, 0, 1] := by decide
  rw [writeK_good hr (by rw [hk]; simp), hk]

theorem k_read_two : readK [16, 18, 97, 0, 255, 0, 1] = ([⟨0, 0, ⟨#[]⟩⟩, ⟨2, 0, ⟨#[97, 0]⟩⟩], 0) := by
  have h : tupK [16, 18, 97, 0, 255, 0, 1] = some [⟨0, 0, ⟨#[]⟩⟩, ⟨2, 0, ⟨#[97, 0]⟩⟩] := by decide
  unfold readK
  rw [if_neg (by simp), h]

theorem k_read_bad : readK [20] = ([], 3) := by
  have h : tupK [20] = none := by decide
  unfold readK
  rw [if_neg (by simp), h]

theorem k_next : nextV [1, 255] = ([2], true) := by decide

theorem Vs.two (w : World) (x y : Vl) (T : TypeId) : Vs (w.heap.size + 1) (w.alloc (.cells #[.int .u8 x.k, .int .i64 x.n, .string x.s, .int .u8 y.k, .int .i64 y.n, .string y.s] T)) (some ⟨w.heap.size, 0, none⟩) [x, y] := by
  refine .inr ⟨w.heap.size, 0, rfl, by omega, fun i z hi => ?_⟩
  match i, hi with
  | 0, hi =>
    simp at hi; subst hi
    refine ⟨?_, ?_, ?_⟩ <;> (rw [World.cell?_alloc_new]; rfl)
  | 1, hi =>
    simp at hi; subst hi
    refine ⟨?_, ?_, ?_⟩ <;> (rw [World.cell?_alloc_new]; rfl)

end Go.Proofs.Ytialpfdhdcjpaaa

/- The walk of the law KeyBack. -/
set_option linter.unusedSimpArgs false
set_option linter.unusedVariables false
set_option maxRecDepth 100000
namespace Go.Proofs.Ytialpfdhdcjpaaa
open Go.RowKit

theorem k_read_write {l : List Vl} {x : List Nat} (h : writeK l = (x, 0)) (hf : ∀ y ∈ l, y.fair) : readK x = (l, 0) := by
  cases hro : rowOk l with
  | false => rw [writeK_bad hro] at h; simp at h
  | true =>
    by_cases hl : 100 < (keyL l).length
    · rw [writeK_long hro hl] at h; simp at h
    · rw [writeK_good hro hl] at h
      simp only [Prod.mk.injEq, and_true] at h
      subst h
      obtain ⟨h16, hr⟩ := (rowOk_iff l).1 hro
      unfold readK tupK
      rw [if_neg hl, tup_enc l [] _ hr hf (by simpa using h16) (Nat.le_refl _)]
      rfl

theorem k_write_read (b : List Nat) (h256 : ∀ c ∈ b, c < 256) : ((readK b).2 ≠ 0 ∧ (readK b).1 = []) ∨
    ((readK b).2 = 0 ∧ writeK (readK b).1 = (b, 0) ∧ (∀ y ∈ (readK b).1, y.fair) ∧ (readK b).1.length ≤ 16) := by
  unfold readK
  by_cases hlong : 100 < b.length
  · left; rw [if_pos hlong]; exact ⟨by simp, rfl⟩
  · rw [if_neg hlong]
    cases hT : tupK b with
    | none => left; exact ⟨by simp, rfl⟩
    | some L =>
      right
      unfold tupK at hT
      obtain ⟨M, e1, e2, e3, e4, e5, e6⟩ := enc_tup b.length [] b h256 (Nat.le_refl _) (by omega) (by simp) L hT
      rw [List.nil_append] at e1
      subst e1
      refine ⟨rfl, ?_, e4, e5⟩
      have hr : rowOk L = true := (rowOk_iff L).2 ⟨e5, e3⟩
      simp only []
      rw [writeK_good hr (by rw [e2]; exact hlong), e2]

theorem writeK_len (l : List Vl) : (writeK l).1.length ≤ 100 := by
  cases hro : rowOk l with
  | false => rw [writeK_bad hro]; simp
  | true =>
    by_cases hl : 100 < (keyL l).length
    · rw [writeK_long hro hl]; simp
    · rw [writeK_good hro hl]; simp only []; omega

end Go.Proofs.Ytialpfdhdcjpaaa

/- The walk of the law KeyOrder. -/
set_option linter.unusedSimpArgs false
set_option linter.unusedVariables false
set_option maxRecDepth 100000
namespace Go.Proofs.Ytialpfdhdcjpaaa
open Go.RowKit

theorem writeK_ok {l : List Vl} {x : List Nat} (h : writeK l = (x, 0)) : x = keyL l ∧ l.length ≤ 16 ∧ ∀ y ∈ l, y.right = true := by
  cases hro : rowOk l with
  | false => rw [writeK_bad hro] at h; simp at h
  | true =>
    by_cases hl : 100 < (keyL l).length
    · rw [writeK_long hro hl] at h; simp at h
    · rw [writeK_good hro hl] at h
      simp only [Prod.mk.injEq, and_true] at h
      exact ⟨h.symm, (rowOk_iff l).1 hro⟩

/-- The order of two keys' strings. -/
theorem key_cmp {l m : List Vl} {x y : List Nat} (hx : writeK l = (x, 0)) (hy : writeK m = (y, 0)) (fl : ∀ v ∈ l, v.fair) (fm : ∀ v ∈ m, v.fair) (hx256 : ∀ c ∈ x, c < 256) (hy256 : ∀ c ∈ y, c < 256) :
    (strN x).toList < (strN y).toList ↔ lexO l m < 0 := by
  obtain ⟨rfl, _, hl⟩ := writeK_ok hx
  obtain ⟨rfl, _, hm⟩ := writeK_ok hy
  rw [bytes_lt_iff, bytesOf_strN _ hx256, bytesOf_strN _ hy256]
  exact keyL_order l m hl hm fl fm

theorem key_eq {l m : List Vl} {x y : List Nat} (hx : writeK l = (x, 0)) (hy : writeK m = (y, 0)) (fl : ∀ v ∈ l, v.fair) (fm : ∀ v ∈ m, v.fair) :
    x = y ↔ l = m := by
  obtain ⟨rfl, hl16, hl⟩ := writeK_ok hx
  obtain ⟨rfl, hm16, hm⟩ := writeK_ok hy
  exact ⟨fun h => keyL_inj l m hl hm fl fm hl16 hm16 h, fun h => by rw [h]⟩

end Go.Proofs.Ytialpfdhdcjpaaa
