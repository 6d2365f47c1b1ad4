/- Several texts of one proof, one behind the other. -/
import Derived.Test.YtbnddpicpomakaaDoorGPk12
import Derived.Test.YtbnddpicpomakaaDoorRows
import Derived.Lib.LaidU8
import Derived.PinnedBridge
import Derived.Stop.LaidErr
import Derived.RowKitTokens
import Derived.Stop.ErrReads
import Derived.Handed
set_option linter.unusedSimpArgs false
set_option linter.unusedVariables false

/- Go's tables of UTF-8, out of what the card lists. -/
set_option linter.unusedSimpArgs false
set_option linter.unusedVariables false
set_option maxRecDepth 100000
namespace Go.Proofs.YtbnddpicpomakaaDoor
open Go Go.Lib Go.Shelf

theorem tabs_of {P : Program} {ρ : Ren} (L : Lays.n196 P ρ) {nm3 nm4 : String} (n3 : P.globalNamed nm3 = some (ρ.g 3)) (n4 : P.globalNamed nm4 = some (ρ.g 4)) (y3 : (P.globals[ρ.g 3]?).map (·.type) = some (ρ.t 119)) (y4 : (P.globals[ρ.g 4]?).map (·.type) = some (ρ.t 139))
    (c5 : P.cellsOf (ρ.t 5) = 1) (c119 : P.cellsOf (ρ.t 119) = 256) (c138 : P.cellsOf (ρ.t 138) = 2) {w : World} (h3 : VarReads P w nm3 firstData) (h4 : VarReads P w nm4 acceptData) : Lib.Utf8Tabs (ρ.g 3) (ρ.g 4) w := by
  refine ⟨fun c hc => ?_, fun i hi => ?_⟩
  · obtain ⟨g, t, cs, fuel, p, hg, hty, hvar, hd⟩ := h3
    obtain rfl := Option.some.inj (n3.symm.trans hg)
    obtain rfl := Option.some.inj (y3.symm.trans hty)
    have hcs := cells_of_tab L.t119 L.t5 c5 c119 hd
    have := World.var?_cell hg hvar c
    rw [this, ← Array.getElem?_toList, hcs]
    simp [firstTab, hc]
  · obtain ⟨g, t, cs, fuel, p, hg, hty, hvar, hd⟩ := h4
    obtain rfl := Option.some.inj (n4.symm.trans hg)
    obtain rfl := Option.some.inj (y4.symm.trans hty)
    obtain ⟨fuel', d, q, hdi, he⟩ := array_elem L.t139 hd i hi
    simp only [List.getElem?_map, List.getElem?_range hi, Option.map_some, Option.some.injEq] at hdi
    subst hdi
    rw [c138] at he
    have hcs := ints_of_struct L.t138 (fun j f hj => by
      match j, hj with
      | 0, hj => simp at hj; subst hj; exact ⟨L.t5, rfl, c5⟩
      | 1, hj => simp at hj; subst hj; exact ⟨L.t5, rfl, c5⟩
      | j + 2, hj => simp at hj) (by rw [c138]; rfl) he
    have e0 := congrArg (·[0]?) hcs
    have e1 := congrArg (·[1]?) hcs
    simp only [List.getElem?_take, List.getElem?_drop] at e0 e1
    constructor
    · rw [World.var?_cell hg hvar (2 * i), ← Array.getElem?_toList]
      simpa [Nat.mul_comm] using e0
    · rw [World.var?_cell hg hvar (2 * i + 1), ← Array.getElem?_toList]
      simpa [Nat.mul_comm] using e1

theorem first_eq : Rows.laid_unicode_utf8_first = firstData := Pinned.utf8First_eq
theorem accept_eq : (Rows.laid_unicode_utf8_acceptRanges : DataW Unit) = acceptData := by kernel_rfl

/-- The two tables, where the listed variables read as the card has them. -/
theorem tabs_laid {l : List (String × DataW Unit)} {w : World} (h : laidMet Tryd.prog l w) {nm3 nm4 : String} (m3 : (nm3, Rows.laid_unicode_utf8_first) ∈ l) (m4 : (nm4, (Rows.laid_unicode_utf8_acceptRanges : DataW Unit)) ∈ l)
    (n3 : Tryd.prog.globalNamed nm3 = some (Tryd.laysValid_ren.g 3)) (n4 : Tryd.prog.globalNamed nm4 = some (Tryd.laysValid_ren.g 4)) : Tabs w :=
  tabs_of Tryd.laysValid n3 n4 (by kernel_rfl) (by kernel_rfl) (by kernel_rfl) (by kernel_rfl) (by kernel_rfl) (first_eq ▸ Lib.laidMet.reads h m3) (accept_eq ▸ Lib.laidMet.reads h m4)
end Go.Proofs.YtbnddpicpomakaaDoor

/- What the package's variables hold, out of what the card lists; and the wrap that hands the world's shape too. -/
set_option linter.unusedSimpArgs false
set_option linter.unusedVariables false
set_option maxRecDepth 100000
namespace Go.Proofs.YtbnddpicpomakaaDoor
set_option linter.unusedSimpArgs false
open Go Go.Lib Go.Shelf Go.RowKit Go.ChangeShapes

theorem star5 : "*" ++ "errors.errorString" = "*errors.errorString" := by decide
theorem row5 (u : TypeId) (h : Tryd.prog.typeName? 3 u = some "*errors.errorString") : u = 150 :=
  typeName_ptr_named (nm := "errors.errorString") (by rw [star5]; kernel_rfl) (by kernel_rfl) (by decide) u (by rw [star5]; exact h)

theorem pow_eq : Rows.laid_internal_strconv_uint64pow10 = tabData (H := Unit) .u64 Lib.pow10Tab := by kernel_rfl

theorem pow_reads {P : Program} {w : World} {nm : String} {t e : TypeId} {g : Nat} (hg : P.globalNamed nm = some g) (hty : (P.globals[g]?).map (·.type) = some t) (ht : P.underlying t = some (.array 20 e)) (he : P.underlying e = some (.int .u64)) (hce : P.cellsOf e = 1) (hct : P.cellsOf t = 20)
    (h : VarReads P w nm (tabData .u64 Lib.pow10Tab)) : Lib.TabIs P w nm .u64 Lib.pow10Tab := by
  obtain ⟨g', t', cs, fuel, p, hg', ht', hvar, hd⟩ := h
  obtain rfl := Option.some.inj (hg.symm.trans hg')
  obtain rfl := Option.some.inj (hty.symm.trans ht')
  unfold TabIs
  rw [hvar, ← cells_of_tab ht he hce hct hd]

theorem pre4_laid {l : List (String × DataW Unit)} {w : World} (h : laidMet Tryd.prog l w) (hsh : w.ShapedOpen Tryd.prog) {nm3 nm4 : String} (m2 : (powName, Rows.laid_internal_strconv_uint64pow10) ∈ l) (m3 : (nm3, Rows.laid_unicode_utf8_first) ∈ l) (m4 : (nm4, (Rows.laid_unicode_utf8_acceptRanges : DataW Unit)) ∈ l)
    (n3 : Tryd.prog.globalNamed nm3 = some (Tryd.laysValid_ren.g 3)) (n4 : Tryd.prog.globalNamed nm4 = some (Tryd.laysValid_ren.g 4)) : Pre4 w where
  tabs := tabs_laid h m3 m4 n3 n4
  maxlen := Tryd.laysRepl.s1_3 w hsh
  pow := pow_reads (g := (Tryd.prog.globalNamed powName).getD 0) (t := 140) (e := 113) (by kernel_rfl) (by kernel_rfl) Tryd.underlying140 Tryd.underlying113 (by kernel_rfl) (by kernel_rfl) (pow_eq ▸ Lib.laidMet.reads h m2)

theorem pre5_laid {x0 x1 x5 : String × DataW Unit} {nm3 nm4 nm5 : String} {r : List (String × DataW Unit)} {w : World} (h : laidMet Tryd.prog (x0 :: x1 :: (powName, Rows.laid_internal_strconv_uint64pow10) :: (nm4, (Rows.laid_unicode_utf8_acceptRanges : DataW Unit)) :: (nm5, Rows.laid_strconv_ErrRange) :: x5 :: (nm3, Rows.laid_unicode_utf8_first) :: r) w) (hsh : w.ShapedOpen Tryd.prog)
    (n3 : Tryd.prog.globalNamed nm3 = some (Tryd.laysValid_ren.g 3)) (n4 : Tryd.prog.globalNamed nm4 = some (Tryd.laysValid_ren.g 4)) (n5 : Tryd.prog.globalNamed nm5 = some (Tryd.laysParse_ren.g 16)) : Pre5 w where
  toPre4 := pre4_laid h hsh (List.Mem.tail _ (List.Mem.tail _ (List.Mem.head _))) (List.Mem.tail _ (List.Mem.tail _ (List.Mem.tail _ (List.Mem.tail _ (List.Mem.tail _ (List.Mem.tail _ (List.Mem.head _))))))) (List.Mem.tail _ (List.Mem.tail _ (List.Mem.tail _ (List.Mem.head _)))) n3 n4
  rng := by
    obtain ⟨a, s, hv, _⟩ := laid_sentinel h.tail.tail.tail.tail (g := Tryd.laysParse_ren.g 16) (ti := 85) (tp := 150) (te := 152) (ts := 9) n5 (by kernel_rfl) Tryd.underlying85 row5 Tryd.underlying150 Tryd.underlying152 rfl rfl Tryd.underlying9 (by kernel_rfl) (by kernel_rfl)
    exact ⟨_, by simpa using World.var?_cell n5 hv 0, .inr ⟨_, _, rfl⟩⟩

section
variable {H : Type} {enc : TypeId × Value → H}

/-- As the wrap of a row with a premise of its own; it hands the contract the world's shape too. -/
theorem handed_change_shaped {a : Assume} {C : Checked} {os : Os} {f : FuncId} {fn : Func} {s : ChangeSpec} {conds : List PathCond} {apart fresh handsOn again : Bool} {X : World → Array Value → Prop}
    (hX : ∀ (w w' : World) (args : Array Value), w.heap = w'.heap → X w args → X w' args)
    (own : ownKnob C.prog.godebug = none) (started : os.Started) (noInit : C.prog.inits.idxOf? f = none) (hfn : C.prog.funcs[f]? = some fn)
    (witness : ∃ (w : World) (tape : Tape) (i : Input), w.os = os ∧ (w.forCall tape i).Shaped C.prog ∧ i.vars = [] ∧ Input.okWide C.prog (w.forCall tape i) .any w.heap.size f i ∧
      ((s.pre enc C.prog fn conds apart (w.forCall tape i).memory i.args ∧ X (w.forCall tape i).memory i.args) ∧ sizedMet enc C.prog fn (OpenSpec.ofChange s) apart (w.forCall tape i).memory i.args) ∧ a.holds C.prog (lone (Frame.enter C.prog f i.args .normal) [] (w.forCall tape i)))
    (contract : ∀ (W : World) (base : Nat) (args : Array Value) (ds gs : List (DataW H)) (before : List MemPlace),
      (∀ (j : Nat) t v, fn.params[j]? = some t → args[j]? = some v → Value.okWide C.prog W .any base t v) →
      DataW.Whole enc C.prog fn.params.toList s.vars apart W args.toList ds gs before →
      conds.all (PathCond.test C.prog ⟨fn.params.toList, ds, s.plain.varTypes C.prog, gs⟩) = true →
      (DataW.weightsEach C.prog (fn.params.toList ++ s.plain.varTypes C.prog) (ds ++ gs)).all (· ≤ reachBytes) = true → X W args → W.ShapedOpen C.prog →
      a.holds C.prog (lone (Frame.enter C.prog f args .normal) [] W) →
      Calls C.prog f args W fun e W' => ∃ v, e = .returned v ∧ s.post enc C.prog fn apart fresh handsOn again W args v W') :
    ReturnsInHanded a C os f .any (fun w args => (s.pre enc C.prog fn conds apart w args ∧ X w args) ∧ sizedMet enc C.prog fn (OpenSpec.ofChange s) apart w args) (s.post enc C.prog fn apart fresh handsOn again) := by
  refine returnsInHanded_of_calls own started noInit witness ?_
  intro w tape i _ hsh _ hok hpre hholds
  obtain ⟨_, _, _, fn', hfn', _, _, _, _, hval⟩ := hok
  have e : fn' = fn := Option.some.inj (hfn'.symm.trans hfn)
  subst e
  obtain ⟨⟨⟨ds, gs, before, hw, hc⟩, hx⟩, hz⟩ := hpre
  have hw' := DataW.Whole.of_heap (w' := w.forCall tape i) (by rfl) hw
  refine (contract (w.forCall tape i) w.heap.size i.args ds gs before hval hw' hc (hz.weights hw) (hX _ _ _ (by rfl) hx) hsh hholds).mono fun e W' ⟨v, he, hp⟩ => ?_
  subst he
  exact ChangeSpec.post_blind hp
end
end Go.Proofs.YtbnddpicpomakaaDoor
