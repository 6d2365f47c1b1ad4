/- Full: a sector of one byte. -/
import Derived.Test.YtaggghfnbllbgaaDk16
import Derived.Laws.OwnMore
import Derived.Deep.OwnRows
namespace Go.Proofs.Ytaggghfnbllbgaa
set_option linter.unusedSimpArgs false
open Go.RowKit

/-- A row of m bytes of which the first i are c. -/
def fillA (m c i : Nat) : Array Value := (List.replicate i (Value.int .u8 (c : Int)) ++ List.replicate (m - i) (Value.int .u8 0)).toArray
theorem fillA_zero (m c : Nat) : madeCells #[.int .u8 0] m = fillA m c 0 := by
  apply Array.toList_inj.1
  rw [toList_madeCells_one]
  simp [fillA]
theorem fillA_get {m c i : Nat} (h : i < m) : (fillA m c i)[i]? = some (.int .u8 0) := by
  unfold fillA
  rw [List.getElem?_toArray, List.getElem?_append_right (by simp), List.length_replicate, Nat.sub_self, List.getElem?_replicate, if_pos (by omega)]
theorem fillA_set {m c i : Nat} (h : i < m) : (fillA m c i).setIfInBounds i (.int .u8 (c : Int)) = fillA m c (i + 1) := by
  unfold fillA
  rw [List.setIfInBounds_toArray]
  congr 1
  apply List.ext_getElem?
  intro j
  rw [List.getElem?_set]
  by_cases hj : i = j
  · subst hj
    rw [if_pos rfl, if_pos (by simp; omega), List.getElem?_append_left (by simp), List.getElem?_replicate, if_pos (by omega)]
  · rw [if_neg hj]
    by_cases h1 : j < i
    · rw [List.getElem?_append_left (by simpa using h1), List.getElem?_append_left (by simp; omega), List.getElem?_replicate, List.getElem?_replicate, if_pos h1, if_pos (by omega)]
    · rw [List.getElem?_append_right (by simp; omega), List.getElem?_append_right (by simp; omega), List.length_replicate, List.length_replicate, List.getElem?_replicate, List.getElem?_replicate]
      by_cases h2 : j < m
      · rw [if_pos (by omega), if_pos (by omega)]
      · rw [if_neg (by omega), if_neg (by omega)]
theorem fillA_full (m c : Nat) : fillA m c m = ((List.replicate m c).map fun (c : Nat) => Value.int .u8 (c : Int)).toArray := by
  unfold fillA
  simp

def fullLen (n : Int) : Nat := if 0 < n ∧ n < 200 then n.toNat else 128
theorem fullLen_le (n : Int) : fullLen n ≤ 199 := by unfold fullLen; split <;> omega

/-- A row of bytes that is the call's own, behind which all is as it was. -/
def RetRow (w : World) (l : List Nat) (e : Ending) (w' : World) : Prop :=
  ∃ g, e = .returned (.slice (some ⟨g, 0, none⟩) l.length l.length) ∧ w.heap.size ≤ g ∧ Below w.heap.size w w' ∧ Blk w' g 5 (l.map fun (c : Nat) => Value.int .u8 (c : Int)).toArray

theorem Blk.bs {w : World} {g : Nat} {T : TypeId} {l : List Nat} (h : Blk w g T (l.map fun (c : Nat) => Value.int .u8 (c : Int)).toArray) (hl : ∀ c ∈ l, c < 256) : Bs w.heap.size w (some ⟨g, 0, none⟩) l :=
  ⟨hl, .inr ⟨g, 0, rfl, h.lt, fun i c hi => by rw [Nat.zero_add, h.cell]; simp [hi]⟩⟩

set_option maxRecDepth 100000 in
set_option maxHeartbeats 4000000 in
theorem Full_any (c : Nat) (hc : c < 256) (n : Int) (w : World) :
    Calls Try.prog 27 #[.int .u8 (c : Int), .int .i64 n] w (RetRow w (List.replicate (fullLen n) c)) := by
  have hle := fullLen_le n
  obtain ⟨m, hm⟩ : ∃ m, fullLen n = m := ⟨_, rfl⟩
  have hmk : ∀ V : World, (Instr.makeSlice 30 (.int .i64 (m : Int)) (.int .i64 (m : Int))).run Try.prog V = .ok (.slice (some ⟨V.heap.size, 0, none⟩) m m) (V.alloc (.cells (fillA m c 0) 5)) := by
    intro V
    have := run_make_row' (P := Try.prog) 30 5 (.int .u8 0) 1 Try.underlying30 (by kernel_rfl) rfl .i64 .i64 m (by omega) (by omega) V
    rw [fillA_zero m c] at this
    simpa using this
  have hways : (decide (0 < n) = true ∧ decide (n < 200) = true ∧ n = (m : Int)) ∨ (decide (0 < n) = true ∧ decide (n < 200) = false ∧ m = 128) ∨ (decide (0 < n) = false ∧ m = 128) := by
    unfold fullLen at hm
    simp only [decide_eq_true_eq, decide_eq_false_iff_not]
    split at hm <;> omega
  have HF : Hid (∀ W : World, Blk W w.heap.size 5 (fillA m c m) → Below w.heap.size w W → RetRow w (List.replicate (fullLen n) c) (.returned (.slice (some ⟨w.heap.size, 0, none⟩) m m)) W) := fun W h1 h2 => by
    refine ⟨w.heap.size, by simp [hm], Nat.le_refl _, h2, ?_⟩
    rw [hm, ← fillA_full]; exact h1
  have hsz : (w.alloc (.cells (fillA m c 0) 5)).heap.size = w.heap.size + 1 := by simp
  rw [hm] at hle
  have HA := Lib.hid (And.intro (Blk.new w 5 (fillA m c 0)) ((Below.refl w.heap.size w).alloc (Nat.le_refl _) (.cells (fillA m c 0) 5)))
  generalize RetRow w (List.replicate (fullLen n) c) = R at *
  clear hm
  rcases hways with ⟨q1, q2, hn⟩ | ⟨q1, q2, rfl⟩ | ⟨q1, rfl⟩
  · have hmk2 : ∀ V : World, (Instr.makeSlice 30 (.int .i64 n) (.int .i64 n)).run Try.prog V = .ok (.slice (some ⟨V.heap.size, 0, none⟩) m m) (V.alloc (.cells (fillA m c 0) 5)) := by rw [hn]; exact hmk
    clear hmk hn
    go_enter Try.func27, Try.ntmps27
    go_wp2
    go_loopw [7] (fun iv wr => ∃ i : Nat, i ≤ m ∧ iv = .int .i64 i ∧ Hid (Blk wr w.heap.size 5 (fillA m c i)) ∧ Below w.heap.size w wr) (fun iv _ => m - (intOf iv).toNat)
    case atStart => exact ⟨0, by omega, rfl, HA.out.1, HA.out.2⟩
    case round =>
      obtain ⟨i, hi, rfl, HB, hb⟩ := hrel
      by_cases hlt : i < m
      · have e1 := (HB.out.cell i).trans (fillA_get hlt)
        have e2 := HB.out.frozen i
        have e3 := HB.out.lt
        have HN := HB.out.set_ i (.int .u8 (c : Int))
        rw [fillA_set hlt] at HN
        have HN := Lib.hid HN
        have HBN : Hid (Below w.heap.size w (wr.setCell ⟨w.heap.size, i, none⟩ (.int .u8 (c : Int)))) := hb.setCell (Nat.le_refl _) _
        go_wp2
        go_roundw
        case rel => exact ⟨i + 1, by omega, by go_num, HN.out, HBN.out⟩
        case measure => simp [intOf]; omega
      · obtain rfl : i = m := by omega
        go_wp2
        exact HF.out _ HB.out hb
  · replace hmk : ∀ V : World, (Instr.makeSlice 30 (.int .i64 128) (.int .i64 128)).run Try.prog V = .ok (.slice (some ⟨V.heap.size, 0, none⟩) 128 128) (V.alloc (.cells (fillA 128 c 0) 5)) := hmk
    go_enter Try.func27, Try.ntmps27
    go_wp2
    go_loopw [7] (fun iv wr => ∃ i : Nat, i ≤ 128 ∧ iv = .int .i64 i ∧ Hid (Blk wr w.heap.size 5 (fillA 128 c i)) ∧ Below w.heap.size w wr) (fun iv _ => 128 - (intOf iv).toNat)
    case atStart => exact ⟨0, by omega, rfl, HA.out.1, HA.out.2⟩
    case round =>
      obtain ⟨i, hi, rfl, HB, hb⟩ := hrel
      by_cases hlt : i < 128
      · have e1 := (HB.out.cell i).trans (fillA_get hlt)
        have e2 := HB.out.frozen i
        have e3 := HB.out.lt
        have HN := HB.out.set_ i (.int .u8 (c : Int))
        rw [fillA_set hlt] at HN
        have HN := Lib.hid HN
        have HBN : Hid (Below w.heap.size w (wr.setCell ⟨w.heap.size, i, none⟩ (.int .u8 (c : Int)))) := hb.setCell (Nat.le_refl _) _
        go_wp2
        go_roundw
        case rel => exact ⟨i + 1, by omega, by go_num, HN.out, HBN.out⟩
        case measure => simp [intOf]; omega
      · obtain rfl : i = 128 := by omega
        go_wp2
        exact HF.out _ HB.out hb
  · replace hmk : ∀ V : World, (Instr.makeSlice 30 (.int .i64 128) (.int .i64 128)).run Try.prog V = .ok (.slice (some ⟨V.heap.size, 0, none⟩) 128 128) (V.alloc (.cells (fillA 128 c 0) 5)) := hmk
    go_enter Try.func27, Try.ntmps27
    go_wp2
    go_loopw [7] (fun iv wr => ∃ i : Nat, i ≤ 128 ∧ iv = .int .i64 i ∧ Hid (Blk wr w.heap.size 5 (fillA 128 c i)) ∧ Below w.heap.size w wr) (fun iv _ => 128 - (intOf iv).toNat)
    case atStart => exact ⟨0, by omega, rfl, HA.out.1, HA.out.2⟩
    case round =>
      obtain ⟨i, hi, rfl, HB, hb⟩ := hrel
      by_cases hlt : i < 128
      · have e1 := (HB.out.cell i).trans (fillA_get hlt)
        have e2 := HB.out.frozen i
        have e3 := HB.out.lt
        have HN := HB.out.set_ i (.int .u8 (c : Int))
        rw [fillA_set hlt] at HN
        have HN := Lib.hid HN
        have HBN : Hid (Below w.heap.size w (wr.setCell ⟨w.heap.size, i, none⟩ (.int .u8 (c : Int)))) := hb.setCell (Nat.le_refl _) _
        go_wp2
        go_roundw
        case rel => exact ⟨i + 1, by omega, by go_num, HN.out, HBN.out⟩
        case measure => simp [intOf]; omega
      · obtain rfl : i = 128 := by omega
        go_wp2
        exact HF.out _ HB.out hb
end Go.Proofs.Ytaggghfnbllbgaa
