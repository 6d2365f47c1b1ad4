/- Write. -/
import Derived.Test.YtaggghfnbllbgaaDk9
namespace Go.Proofs.Ytaggghfnbllbgaa
set_option linter.unusedSimpArgs false
open Go.RowKit

theorem exec_copy {P : Program} {o : Oper} {a : Act} {w w' : World} {d s : Operand} {dT sT : TypeId} (ho : o.op = .call { callee := .builtin .copy, args := #[d, s], argTypes := #[dT, sT] }) {vd vs v : Value} (hd : a.eval d = vd) (hs : a.eval s = vs)
    (h : (Builtin.copy_ #[dT, sT] o.type #[vd, vs]).run P w = .ok v w') : (execOp a.eval o).run P w = .ok (.value v) w' := by
  unfold execOp
  simp only [ho]
  simp [resolve, invoke, builtin, hd, hs, h, Sem.run_bind, Result.andThen]

theorem putv_any {w : World} {B Mv Md : Nat} {pv : Value} {d : DS} (h : DiskAt w B d Mv Md pv) (x : Wr) (hx : x.ok) :
    Calls Try.prog 53 #[.pointer (some ⟨B, 2, none⟩), .agg x.cells.toArray] w fun e w' => e = .returned (.tuple #[]) ∧ DiskAt w' B { d with vis := d.vis.wr x } Mv Md pv ∧ Chg [B, Mv] w w' := by
  refine (put_cells w B 2 Mv _ (rowD B d Mv Md pv) d.vis x hx h.ok.vis (.inl rfl) h.blk h.vis rfl rfl rfl).mono ?_
  rintro e w' ⟨he, hb, hM, hc⟩
  refine ⟨he, ⟨?_, hM, h.dur.chg hc ?_, own_chg h.pend hc ?_, h.apart, ⟨h.ok.quota, Cont.ok_wr h.ok.vis hx, h.ok.dur, h.ok.pend, h.ok.left⟩, h.calls, h.waits⟩, hc⟩
  · have hf : x.f = 0 ∨ x.f = 1 := by have := hx.1; omega
    have e1 : (rowD B d Mv Md pv).setIfInBounds (2 + 1 + x.f) (.int .i64 ((max (d.vis.len x.f) (x.s + 1) : Nat) : Int)) = rowD B { d with vis := d.vis.wr x } Mv Md pv := by
      rcases hf with hf | hf <;> simp [rowD, Cont.wr, Cont.put, hf]
    rw [e1] at hb
    exact hb
  · have h1 := h.apart
    have h2 := h.dur.ne_blk h.blk
    simp; omega
  · intro g hg
    have h1 := own_ne h.pend h.blk (by decide)
    have h2 := own_ne_map h.pend h.vis
    rw [hg] at h1 h2
    simp at h1 h2 ⊢
    omega
theorem putd_any {w : World} {B Mv Md : Nat} {pv : Value} {d : DS} (h : DiskAt w B d Mv Md pv) (x : Wr) (hx : x.ok) :
    Calls Try.prog 53 #[.pointer (some ⟨B, 5, none⟩), .agg x.cells.toArray] w fun e w' => e = .returned (.tuple #[]) ∧ DiskAt w' B { d with dur := d.dur.wr x } Mv Md pv ∧ Chg [B, Md] w w' := by
  refine (put_cells w B 5 Md _ (rowD B d Mv Md pv) d.dur x hx h.ok.dur (.inr rfl) h.blk h.dur rfl rfl rfl).mono ?_
  rintro e w' ⟨he, hb, hM, hc⟩
  refine ⟨he, ⟨?_, h.vis.chg hc ?_, hM, own_chg h.pend hc ?_, h.apart, ⟨h.ok.quota, h.ok.vis, Cont.ok_wr h.ok.dur hx, h.ok.pend, h.ok.left⟩, h.calls, h.waits⟩, hc⟩
  · have hf : x.f = 0 ∨ x.f = 1 := by have := hx.1; omega
    have e1 : (rowD B d Mv Md pv).setIfInBounds (5 + 1 + x.f) (.int .i64 ((max (d.dur.len x.f) (x.s + 1) : Nat) : Int)) = rowD B { d with dur := d.dur.wr x } Mv Md pv := by
      rcases hf with hf | hf <;> simp [rowD, Cont.wr, Cont.put, hf]
    rw [e1] at hb
    exact hb
  · have h1 := h.apart
    have h2 := h.vis.ne_blk h.blk
    simp; omega
  · intro g hg
    have h1 := own_ne h.pend h.blk (by decide)
    have h2 := own_ne_map h.pend h.dur
    rw [hg] at h1 h2
    simp at h1 h2 ⊢
    omega

theorem DiskAt.chg {w w' : World} {B Mv Md : Nat} {pv : Value} {d : DS} (h : DiskAt w B d Mv Md pv) {T : List Nat} (hc : Chg T w w') (hn : ∀ k ∈ footD B Mv Md pv, k ∉ T) : DiskAt w' B d Mv Md pv :=
  ⟨h.blk.chg hc (hn _ (by simp [footD])), h.vis.chg hc (hn _ (by simp [footD])), h.dur.chg hc (hn _ (by simp [footD])), own_chg h.pend hc (fun g hg => hn _ (by simp [footD, hg])), h.apart, h.ok, h.calls, h.waits⟩
theorem DiskAt.below {w w' : World} {B Mv Md : Nat} {pv : Value} {d : DS} (h : DiskAt w B d Mv Md pv) (hb : Below w.heap.size w w') : DiskAt w' B d Mv Md pv := h.chg (T := []) (Below.chg0 hb []) (by simp)

theorem cellsW_snoc (l : List Wr) (x : Wr) : cellsW (l ++ [x]) = cellsW l ++ x.cells := by simp [cellsW]

/-- Behind the append to the pending writes. -/
theorem pend_app {w w5 w6 : World} {B Mv Md : Nat} {pv v' : Value} {d : DS} {x : Wr} (h : DiskAt w B d Mv Md pv) (hx : x.ok) (hw : d.pend.length < 1000000000) (h5 : Chg [] w w5) (hown : w6.ownsRow 0 98 130 v' (d.pend.length + 1) (cellsW d.pend ++ x.cells)) (hg : w5.grownBy w6 pv.ownBlock) :
    DiskAt (w6.setCell ⟨B, 8, none⟩ v') B (d.put x |>.pend |> fun p => { d with pend := p }) Mv Md v' ∧ Chg (footD B Mv Md pv) w (w6.setCell ⟨B, 8, none⟩ v') := by
  have hpB := own_ne h.pend h.blk (by decide)
  have hpV := own_ne_map h.pend h.vis
  have hpD := own_ne_map h.pend h.dur
  have hc : Chg pv.ownBlock.toList w w6 := (h5.sub (by simp)).trans ⟨hg.os, hg.tape, hg.output, hg.size, fun k hk hn => hg.block k hk (fun e => hn (by rw [← e]; simp))⟩
  have hin : ∀ b, pv.ownBlock ≠ some b → b ∉ pv.ownBlock.toList := by
    intro b hb
    cases hq : pv.ownBlock with
    | none => simp
    | some g => rw [hq] at hb; simp at hb ⊢; exact fun e => hb e.symm
  refine ⟨?_, ?_⟩
  · have hb6 := h.blk.chg hc (hin _ hpB)
    have hv6 := h.vis.chg hc (hin _ hpV)
    have hd6 := h.dur.chg hc (hin _ hpD)
    refine ⟨?_, hv6.setCell _ _ _, hd6.setCell _ _ _, ?_, h.apart, ⟨h.ok.quota, h.ok.vis, h.ok.dur, ?_, h.ok.left⟩, h.calls, ?_⟩
    · have := hb6.set_ 8 v'
      rw [row_set_pend B d Mv Md pv v' (d.put x).pend] at this
      exact this
    · have hne := own_ne hown hb6 (by decide)
      have h2 := own_chg hown ((Chg.refl [B] w6).setCell (b := B) (o := 8) (.inl (by simp)) v') (fun g hg => by
        rw [hg] at hne; simpa using hne)
      show World.ownsRow _ 0 _ 130 v' (d.put x).pend.length (cellsW (d.put x).pend)
      unfold DS.put
      simp only
      rw [cellsW_snoc, List.length_append]
      exact h2
    · intro y hy
      rcases List.mem_append.1 hy with hy | hy
      · exact h.ok.pend y hy
      · obtain rfl := List.mem_singleton.1 hy; exact hx
    · show (d.pend ++ [x]).length ≤ _
      rw [List.length_append]; simp; omega
  · refine Chg.setCell (hc.sub ?_) (.inl (by simp [footD])) _
    intro k hk
    simp [footD] at hk ⊢
    simp [hk]
end Go.Proofs.Ytaggghfnbllbgaa
