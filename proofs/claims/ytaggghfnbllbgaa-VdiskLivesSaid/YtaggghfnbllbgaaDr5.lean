/- The reference's disk: Write. -/
import Derived.Test.YtaggghfnbllbgaaDr4
import Derived.Deep.AppendLies
import Derived.Great.BuildSlice
namespace Go.Proofs.Ytaggghfnbllbgaa
set_option linter.unusedSimpArgs false
open Go.RowKit

def zeroM : Array Value := #[.int .i64 0, .int .i64 0, .slice none 0 0, .bool false]
theorem info_mr : (Try.prog.info? 92).map (fun i => (i.zero, i.size, i.bytes)) = some (some (.agg zeroM), 4, 48) := by kernel_rfl
theorem info_by : (Try.prog.info? 5).map (fun i => (i.zero, i.size, i.bytes)) = some (some (.int .u8 0), 1, 1) := by kernel_rfl

theorem bslice_mr (m : MR) (w : World) : (Instr.buildSlice 36 1 #[(0, .agg m.cells.toArray)]).run Try.prog w = .ok (.slice (some ⟨w.heap.size, 0, none⟩) 1 1) (w.alloc (.cells m.cells.toArray 92)) := by
  obtain ⟨ie, hie⟩ := info_of_underlying Try.underlying92
  have hs : ie.size = 4 := by
    have : (Try.prog.info? 92).map (·.size) = some 4 := by kernel_rfl
    rw [hie] at this; simpa using this
  obtain ⟨z, hz⟩ : ∃ z, ie.zero = some z := by
    have : (Try.prog.info? 92).map (·.zero) = some (some (.agg zeroM)) := by kernel_rfl
    rw [hie] at this; exact ⟨_, by simpa using this⟩
  refine run_buildSlice w _ 92 1 _ _ ie z Try.underlying36 hie hz (by rw [hs]; decide) (by rw [hs]; decide) ?_
  rw [hs]
  have := Great.fill_whole (s := 4) (by omega) [.agg m.cells.toArray] ((Array.range (1 * 4)).map (z.cells[· % z.cells.size]!)) (by intro v hv; simp only [List.mem_singleton] at hv; subst hv; simp [Value.cells, MR.cells]) (by simp)
  simpa [Value.cells] using this

theorem MR.cells_one (m : MR) : ∀ v ∈ m.cells, v.oneCell' = true := by
  intro v hv
  unfold MR.cells at hv
  simp only [List.mem_cons, List.not_mem_nil, or_false] at hv
  rcases hv with rfl | rfl | rfl | rfl <;> rfl

def RS.write (x : RS) (f s : Int) (b : List Nat) : Nat × RS :=
  if (f ≠ 0 ∧ f ≠ 1) ∨ s < 0 ∨ 65535 < s ∨ b.length ≠ 128 then (1, x) else if x.down then (51, x)
  else if (lenAt (allW x.L) f.toNat : Int) ≤ s ∧ x.quota < s + 1 + (lenAt (allW x.L) (1 - f.toNat) : Int) then (50, x)
  else match x.change with
    | (x', false) => (51, x')
    | (x', true) => (0, { x' with L := x'.L ++ [⟨⟨f.toNat, s.toNat, b⟩, false⟩] })

theorem Chg.ofGrown {w w' : World} {r : Option Nat} (h : w.grownBy w' r) : Chg r.toList w w' := ⟨h.os, h.tape, h.output, h.size, fun k hk hn => h.block k hk (fun e => hn (by rw [← e]; simp))⟩

/-- Behind both appends and the store. -/
theorem RefAt.app {w w5 w6 : World} {D : Nat} {x : RS} {lv v' : Value} {M : List MR} {m : MR} (h : RefAt w D x lv M) (hm : m.y.x.ok) (hfew : M.length < 1000000)
    (h5 : Chg [] w w5) (hg : w.heap.size ≤ m.g) (hb : w5.ownsRow 0 5 1 (.slice (some ⟨m.g, 0, none⟩) 128 m.cap) 128 (cellsB m.y.x.b)) (h6 : Chg lv.ownBlock.toList w5 w6)
    (hr : w6.ownsRow 0 92 4 v' (M.length + 1) (cellsM M ++ m.cells)) (hlies : v'.ownBlock = lv.ownBlock ∨ ∀ g, v'.ownBlock = some g → w.heap.size ≤ g) :
    RefAt (w6.setCell ⟨D, 1, none⟩ v') D { x with L := x.L ++ [m.y] } v' (M ++ [m]) ∧ Chg (D :: lv.ownBlock.toList) w (w6.setCell ⟨D, 1, none⟩ v') ∧ ∀ k ∈ footR D v' (M ++ [m]), k ∈ footR D lv M ∨ w.heap.size ≤ k := by
  have hDl : D ∉ lv.ownBlock.toList := fun hm => own_ne h.row h.blk (by decide) (by simpa using hm)
  have hc6 : Chg lv.ownBlock.toList w w6 := (h5.sub (by simp)).trans h6
  have hset : Chg [D] w6 (w6.setCell ⟨D, 1, none⟩ v') := (Chg.refl _ _).setCell (.inl (by simp)) _
  have hblk6 := h.blk.chg hc6 hDl
  have hnotl : ∀ m0 ∈ M, m0.g ∉ lv.ownBlock.toList := fun m0 hm0 hk => by
    rcases h.row.2 with ⟨h1, _⟩ | ⟨g, cap, cur, h1, _, hh, _⟩
    · rw [h1] at hk; simp [Value.ownBlock] at hk
    · have e : g = m0.g := by rw [h1] at hk; simp [Value.ownBlock] at hk; omega
      subst e
      exact own_ne (h.bytes m0 hm0).1 (show Blk w m0.g 92 cur from hh) (by decide) rfl
  have hnotD : ∀ m0 ∈ M, m0.g ≠ D := fun m0 hm0 e => own_ne (h.bytes m0 hm0).1 h.blk (by decide) (by show some m0.g = some D; rw [e])
  have hmD : m.g ≠ D := fun e => by have := h.blk.lt; omega
  have hml : m.g ∉ lv.ownBlock.toList := fun hk => by
    have := own_lt h.row (by simpa using hk)
    omega
  refine ⟨⟨?_, ?_, by simp [h.list], fun m0 hm0 => ?_, by simp; omega, h.calls, h.plan, h.quota⟩, (hc6.sub (by intro k hk; simp [hk])).trans (hset.sub (by simp)), fun k hk => ?_⟩
  · exact hblk6.set_ 1 v'
  · rw [List.length_append, cellsM_append]
    have hne : ∀ g, v'.ownBlock = some g → g ∉ [D] := fun g hg => by
      simp only [List.mem_singleton]
      rintro rfl
      exact own_ne hr hblk6 (by decide) hg
    have e : cellsM [m] = m.cells := by simp [cellsM]
    rw [e]
    exact own_chg hr hset hne
  · rcases List.mem_append.1 hm0 with hm0 | hm0
    · refine ⟨own_chg (own_chg (h.bytes m0 hm0).1 hc6 (fun k hk => ?_)) hset (fun k hk => ?_), (h.bytes m0 hm0).2⟩
      · have e : m0.g = k := by simpa [Value.ownBlock] using hk
        rw [← e]; exact hnotl m0 hm0
      · have e : m0.g = k := by simpa [Value.ownBlock] using hk
        rw [← e]; simpa using hnotD m0 hm0
    · obtain rfl := List.mem_singleton.1 hm0
      refine ⟨own_chg (own_chg hb h6 (fun k hk => ?_)) hset (fun k hk => ?_), hm⟩
      · have e : m0.g = k := by simpa [Value.ownBlock] using hk
        rw [← e]; exact hml
      · have e : m0.g = k := by simpa [Value.ownBlock] using hk
        rw [← e]; simpa using hmD
  · simp only [footR, List.mem_cons, List.mem_append, List.map_append, List.map_cons, List.map_nil, Option.mem_toList, List.not_mem_nil, or_false] at hk ⊢
    rcases hk with hk | hk | hk | hk
    · exact .inl (.inl hk)
    · rcases hlies with hl | hl
      · rw [hl] at hk; exact .inl (.inr (.inl hk))
      · exact .inr (hl k hk)
    · exact .inl (.inr (.inr hk))
    · exact .inr (by omega)
end Go.Proofs.Ytaggghfnbllbgaa
