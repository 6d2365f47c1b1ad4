/- The reference's disk in memory; its methods that only read, and change. -/
import Derived.Test.YtaggghfnbllbgaaDr0
import Derived.Test.YtaggghfnbllbgaaDk16
namespace Go.Proofs.Ytaggghfnbllbgaa
set_option linter.unusedSimpArgs false
open Go.RowKit

/-- A write of the reference in memory: its bytes lie in block g. -/
structure MR where
  y : RWr
  g : Nat
  cap : Nat
def MR.cells (m : MR) : List Value := [.int .i64 (m.y.x.f : Int), .int .i64 (m.y.x.s : Int), .slice (some ⟨m.g, 0, none⟩) 128 m.cap, .bool m.y.sure]
def cellsM (l : List MR) : List Value := l.flatMap MR.cells
def rowR (x : RS) (lv : Value) : Array Value := #[.int .i64 x.quota, lv, .int .i64 (x.calls : Int), .int .i64 x.plan, .bool x.down]

structure RefAt (w : World) (D : Nat) (x : RS) (lv : Value) (M : List MR) : Prop where
  blk : Blk w D 38 (rowR x lv)
  row : w.ownsRow 0 92 4 lv M.length (cellsM M)
  list : x.L = M.map (·.y)
  bytes : ∀ m ∈ M, w.ownsRow 0 5 1 (.slice (some ⟨m.g, 0, none⟩) 128 m.cap) 128 (cellsB m.y.x.b) ∧ m.y.x.ok
  few : M.length ≤ 1000000
  calls : x.calls ≤ 1000000000
  plan : -1 ≤ x.plan ∧ x.plan ≤ 9223372036854775807
  quota : 1 ≤ x.quota ∧ x.quota ≤ 65536

def footR (D : Nat) (lv : Value) (M : List MR) : List Nat := D :: (lv.ownBlock.toList ++ M.map (·.g))

theorem RefAt.same {w w' : World} {D : Nat} {x : RS} {lv : Value} {M : List MR} (h : RefAt w D x lv M) (hk : ∀ k ∈ footR D lv M, w'.heap[k]? = w.heap[k]?) : RefAt w' D x lv M :=
  ⟨(hk D (by simp [footR])).trans h.blk, own_keep h.row (fun g hg => hk g (by simp [footR, hg])), h.list,
    fun m hm => ⟨own_keep (h.bytes m hm).1 (fun g hg => hk g (by
      have : m.g = g := by simpa [Value.ownBlock] using hg
      simp only [footR, List.mem_cons, List.mem_append, List.mem_map]
      exact .inr (.inr ⟨m, hm, this⟩))), (h.bytes m hm).2⟩, h.few, h.calls, h.plan, h.quota⟩
theorem RefAt.lt {w : World} {D : Nat} {x : RS} {lv : Value} {M : List MR} (h : RefAt w D x lv M) : ∀ k ∈ footR D lv M, k < w.heap.size := by
  intro k hk
  simp only [footR, List.mem_cons, List.mem_append, List.mem_map, Option.mem_toList] at hk
  rcases hk with rfl | hk | ⟨m, hm, rfl⟩
  · exact h.blk.lt
  · exact own_lt h.row hk
  · exact own_lt (h.bytes m hm).1 rfl
theorem RefAt.below {w w' : World} {D : Nat} {x : RS} {lv : Value} {M : List MR} (h : RefAt w D x lv M) (hb : Below w.heap.size w w') : RefAt w' D x lv M := h.same fun k hk => hb.block k (h.lt k hk)
theorem RefAt.form {w : World} {D : Nat} {x : RS} {lv : Value} {M : List MR} (h : RefAt w D x lv M) : ∃ a cap, lv = .slice a M.length cap := by
  rcases h.row.2 with ⟨h1, hn⟩ | ⟨g, cap, cur, h1, _⟩
  · exact ⟨none, 0, by rw [hn]; exact h1⟩
  · exact ⟨_, _, h1⟩
theorem RefAt.cells {w : World} {D : Nat} {x : RS} {lv : Value} {M : List MR} (h : RefAt w D x lv M) :
    w.cell? ⟨D, 0, none⟩ = some (.int .i64 x.quota) ∧ w.cell? ⟨D, 1, none⟩ = some lv ∧ w.cell? ⟨D, 2, none⟩ = some (.int .i64 (x.calls : Int)) ∧ w.cell? ⟨D, 3, none⟩ = some (.int .i64 x.plan) ∧ w.cell? ⟨D, 4, none⟩ = some (.bool x.down) :=
  ⟨h.blk.cell 0, h.blk.cell 1, h.blk.cell 2, h.blk.cell 3, h.blk.cell 4⟩

theorem cellsM_get : ∀ (l : List MR) (k : Nat) (m : MR), l[k]? = some m → ∀ j v, m.cells[j]? = some v → (cellsM l)[k * 4 + j]? = some v
  | [], _, _, h => by simp at h
  | y :: r, 0, m, h => by
    intro j v hv
    simp at h; subst h
    have hj : j < y.cells.length := (List.getElem?_eq_some_iff.1 hv).1
    show (y.cells ++ cellsM r)[0 * 4 + j]? = _
    rw [Nat.zero_mul, Nat.zero_add, List.getElem?_append_left hj]
    exact hv
  | y :: r, k + 1, m, h => by
    intro j v hv
    have ih := cellsM_get r k m (by simpa using h) j v hv
    show (y.cells ++ cellsM r)[(k + 1) * 4 + j]? = _
    have hy : y.cells.length = 4 := rfl
    rw [List.getElem?_append_right (by omega), hy, show (k + 1) * 4 + j - 4 = k * 4 + j by omega]
    exact ih
/-- Number k of the list, where it lies. -/
theorem RefAt.elem {w : World} {D : Nat} {x : RS} {lv : Value} {M : List MR} (h : RefAt w D x lv M) {k : Nat} {m : MR} (hk : M[k]? = some m) :
    ∃ g cap, lv = .slice (some ⟨g, 0, none⟩) M.length cap ∧ g < w.heap.size ∧ w.cell? ⟨g, k * 4, none⟩ = some (.int .i64 (m.y.x.f : Int)) ∧ w.cell? ⟨g, k * 4 + 1, none⟩ = some (.int .i64 (m.y.x.s : Int)) ∧
      w.cell? ⟨g, k * 4 + 2, none⟩ = some (.slice (some ⟨m.g, 0, none⟩) 128 m.cap) ∧ w.cell? ⟨g, k * 4 + 3, none⟩ = some (.bool m.y.sure) := by
  have hkl : k < M.length := (List.getElem?_eq_some_iff.1 hk).1
  obtain ⟨g, cap, hv, _, hg⟩ := h.row.form (by omega)
  have hc := h.row.cells (by rw [hv]; rfl)
  have hj : ∀ j v, m.cells[j]? = some v → w.cell? ⟨g, k * 4 + j, none⟩ = some v := fun j v hj => by
    have := hc (k * 4 + j) v (cellsM_get M k m hk j v hj)
    rw [Addr.add_mid, Nat.zero_add] at this
    exact this
  exact ⟨g, cap, hv, hg, hj 0 _ rfl, hj 1 _ rfl, hj 2 _ rfl, hj 3 _ rfl⟩

theorem lenAt_take {l : List Wr} {k : Nat} {x : Wr} (h : l[k]? = some x) (f : Nat) : lenAt (l.take (k + 1)) f = if x.f = f then max (lenAt (l.take k) f) (x.s + 1) else lenAt (l.take k) f := by
  rw [List.take_add_one, h, lenAt_append]
  show max _ (lenAt [x] f) = _
  rw [lenAt_cons]
  show max _ (max _ 0) = _
  split <;> omega
theorem lenAt_le : ∀ (l : List Wr) (f : Nat), (∀ x ∈ l, x.s < 65536) → lenAt l f ≤ 65536
  | [], f, _ => by simp [lenAt]
  | x :: l, f, h => by
    have ih := lenAt_le l f (fun y hy => h y (by simp [hy]))
    have := h x (by simp)
    rw [lenAt_cons]
    split <;> omega
theorem allW_M {x : RS} {M : List MR} (h : x.L = M.map (·.y)) : allW x.L = M.map (·.y.x) := by rw [h, allW, List.map_map]; rfl

set_option maxRecDepth 100000 in
set_option maxHeartbeats 4000000 in
theorem RLen {w : World} {D : Nat} {x : RS} {lv : Value} {M : List MR} (h : RefAt w D x lv M) (f : Nat) :
    Calls Try.prog 20 #[.pointer (some ⟨D, 0, none⟩), .int .i64 (f : Int)] w fun e w' => e = .returned (.int .i64 (lenAt (allW x.L) f : Int)) ∧ w' = w := by
  have c1 := h.cells.2.1
  obtain ⟨a, cap, hlv⟩ := h.form
  obtain ⟨n, hn⟩ : ∃ n, M.length = n := ⟨_, rfl⟩
  rw [hn] at hlv
  subst hlv
  have hfew := h.few
  rw [hn] at hfew
  have HN := Lib.hid hn
  have HA := Lib.hid (allW_M h.list)
  have HH := Lib.hid h
  have HS : Hid (∀ l : List MR, (∀ m ∈ l, m ∈ M) → lenAt (l.map (·.y.x)) f ≤ 65536) := fun l hl => lenAt_le _ _ (fun y hy => by
    obtain ⟨m, hm, rfl⟩ := List.mem_map.1 hy
    exact (h.bytes m (hl m hm)).2.2.1)
  clear h hn
  go_enter Try.func20, Try.ntmps20
  go_wp2
  go_loopw [5, 6] (fun nv iv wr => ∃ i : Nat, i ≤ n ∧ iv = .int .i64 i ∧ wr = w ∧ ∃ t : Nat, nv = .int .i64 t ∧ t ≤ 65536 ∧ Hid (t = lenAt ((M.take i).map (·.y.x)) f)) (fun _ iv _ => n - (intOf iv).toNat)
  case atStart => exact ⟨0, by omega, rfl, rfl, 0, rfl, by omega, rfl⟩
  case round =>
    obtain ⟨i, hi, rfl, rfl, t, rfl, ht, HT⟩ := hrel
    by_cases hlt : i < n
    · obtain ⟨m, hm⟩ : ∃ m, M[i]? = some m := ⟨_, List.getElem?_eq_getElem (by have := HN.out; omega)⟩
      obtain ⟨g, cap', hv, hgl, e0, e1, -, -⟩ := HH.out.elem hm
      obtain ⟨rfl, rfl⟩ : a = some ⟨g, 0, none⟩ ∧ cap = cap' := by
        injection hv with h1 h2 h3
        exact ⟨h1, h3⟩
      have hsl : m.y.x.s < 65536 := (HH.out.bytes m (List.mem_of_getElem? hm)).2.2.1
      have hx : (M.map (·.y.x))[i]? = some m.y.x := by rw [List.getElem?_map, hm]; rfl
      have hnext := lenAt_take hx f
      rw [← List.map_take, ← List.map_take, ← HT.out] at hnext
      have hle := HS.out (M.take (i + 1)) (fun y hy => List.mem_of_mem_take hy)
      by_cases hf : m.y.x.f = f
      · rw [if_pos hf] at hnext
        have q1 : ((m.y.x.f : Int) == (f : Int)) = true := by simp [hf]
        by_cases hs : t ≤ m.y.x.s
        · have q2 : decide ((t : Int) ≤ (m.y.x.s : Int)) = true := by rw [decide_eq_true_eq]; omega
          have hT2 : Hid (m.y.x.s + 1 = lenAt ((M.take (i + 1)).map (·.y.x)) f) := by rw [hnext]; show _ = max _ _; omega
          clear hnext hv hx hm hle HT
          go_wp2
          go_roundw
          case rel => exact ⟨i + 1, by omega, by go_num, by trivial, m.y.x.s + 1, by go_num, by omega, hT2.out⟩
          case measure => simp [intOf]; omega
        · have q2 : decide ((t : Int) ≤ (m.y.x.s : Int)) = false := by rw [decide_eq_false_iff_not]; omega
          have hT2 : Hid (t = lenAt ((M.take (i + 1)).map (·.y.x)) f) := by rw [hnext]; show _ = max _ _; omega
          clear hnext hv hx hm hle HT
          go_wp2
          go_roundw
          case rel => exact ⟨i + 1, by omega, by go_num, by trivial, t, rfl, by omega, hT2.out⟩
          case measure => simp [intOf]; omega
      · rw [if_neg hf] at hnext
        have q1 : ((m.y.x.f : Int) == (f : Int)) = false := by
          rw [Bool.eq_false_iff]; simp only [ne_eq, beq_iff_eq]; omega
        have hT2 : Hid (t = lenAt ((M.take (i + 1)).map (·.y.x)) f) := hnext.symm
        clear hnext hv hx hm hle HT
        go_wp2
        go_roundw
        case rel => exact ⟨i + 1, by omega, by go_num, by trivial, t, rfl, by omega, hT2.out⟩
        case measure => simp [intOf]; omega
    · obtain rfl : i = n := by omega
      go_wp2
      go_ret
      refine ⟨?_, rfl⟩
      rw [HA.out, HT.out, ← HN.out, List.take_length]
      rfl
end Go.Proofs.Ytaggghfnbllbgaa
