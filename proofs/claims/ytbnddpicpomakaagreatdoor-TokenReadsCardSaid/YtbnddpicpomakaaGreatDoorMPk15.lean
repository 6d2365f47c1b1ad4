/- Several texts of one proof, one behind the other. -/
import Derived.Test.YtbnddpicpomakaaGreatDoorMPk14
import Derived.Deep.QuietTactic
import Derived.BigQuiet
import Derived.Test.YtbnddpicpomakaaGreatDoorRows
import Derived.Lib.LaidU8
import Derived.PinnedBridge
import Derived.Stop.LaidErr
import Derived.RowKitTokens
import Derived.Stop.ErrReads
import Derived.Handed
set_option linter.unusedSimpArgs false
set_option linter.unusedVariables false

/- The walks of law 19's same, of equal rows, and of TokenReads. -/
set_option linter.unusedSimpArgs false
set_option linter.unusedVariables false
set_option maxRecDepth 100000
namespace Go.Proofs.YtbnddpicpomakaaGreatDoor
open Go.RowKit

set_option maxHeartbeats 4000000 in
theorem sameT_any (l : List Tk) (a b : Option Addr) (cap cap2 : Nat) (w : World) (h : Arr w.heap.size w a (cellsTk l)) (h2 : Arr w.heap.size w b (cellsTk l)) (hl : l.length ≤ 1000000000) (hc : l.length ≤ cap) (hcap : cap ≤ 9223372036854775807) (hc2 : l.length ≤ cap2) (hcap2 : cap2 ≤ 9223372036854775807) :
    Calls Tryz.prog 9 #[.slice a l.length cap, .slice b l.length cap2] w fun e w' => e = .returned (.bool true) ∧ Below w.heap.size w w' := by
  have HA := Lib.hid h
  have HA2 := Lib.hid h2
  obtain ⟨m, hm⟩ : ∃ m, l.length = m := ⟨_, rfl⟩
  have HM := Lib.hid hm
  rw [hm] at hl hc hc2 ⊢
  clear h h2 hm
  go_enter Tryz.func9, Tryz.ntmps9
  go_wp2
  go_loopw [5] (fun i wr => ∃ k : Nat, k ≤ m ∧ i = .int .i64 (k : Int) ∧ Hid (Below w.heap.size w wr)) (fun i _ => m - (intOf i).toNat)
  case atStart => exact ⟨0, by omega, rfl, Below.refl _ _⟩
  case round =>
    obtain ⟨k, hk, rfl, HB⟩ := hrel
    by_cases hlt : k < m
    · have hkl : k < l.length := by rw [HM.out]; exact hlt
      obtain ⟨b1, o1, hab, hbN, t0, t1, t2, t3⟩ := tkAt ((HA.out.below HB.out).mono HB.out.size) hkl
      obtain ⟨b2, o2, hab2, hbN2, u0, u1, u2, u3⟩ := tkAt ((HA2.out.below HB.out).mono HB.out.size) hkl
      generalize l[k] = x at *
      subst hab hab2
      have q0 : decide ((k : Int) < (m : Int)) = true := by simp; omega
      have qt : (x.tx.toList != x.tx.toList) = false := by simp
      have qk : (x.kd != x.kd) = false := by simp
      have qa : (x.at_ != x.at_) = false := by simp
      have qn : (x.n != x.n) = false := by simp
      clear hkl hbN hbN2
      go_wp2_with fail
      go_quiet (fail)
      go_wp2
      go_roundw
      case rel => exact ⟨k + 1, by omega, by go_num, drewN_bel HB.out _⟩
      case measure => (simp [intOf] <;> try omega)
    · have q0 : decide ((k : Int) < (m : Int)) = false := by simp; omega
      go_wp2
      go_ret
      exact ⟨rfl, HB.out⟩

theorem readV_len (s : ByteArray) : (readV19 s).1.length ≤ 1000000000 := by
  have hr : ∀ (l : List Nat) (n p : Nat), (readR l n p).1.length ≤ n := by
    intro l n
    induction n with
    | zero => intro p; exact Nat.le_refl _
    | succ n ih =>
      intro p
      rw [readR]
      split
      · simp only
        split
        · simp only [List.length_cons]; have := ih (p + (frontR (l.drop p)).2.1 + skipR [1] (l.drop (p + (frontR (l.drop p)).2.1))); omega
        · simp
      · simp
  unfold readV19
  split
  · simp
  split
  · simp
  · simp only
    split
    · have := hr (bytesU s) (s.size + 1) (skipR [1] (bytesU s))
      rw [List.length_append]; simp only [List.length_cons, List.length_nil]; omega
    · simp

set_option maxHeartbeats 8000000 in
theorem reads_walk (s : ByteArray) (w : World) (hT : Pre6 w) (hs : s.size ≤ 140737488351232) :
    Calls Tryz.prog 3 #[.string s] w fun e w' => e = .returned (.bool true) ∧ Below w.heap.size w w' := by
  have HAl := Lib.hid (fun W (hb : Below w.heap.size w W) => alive19_any W (hT.below hb))
  have HR1 := Lib.hid (fun W (hb : Below w.heap.size w W) => tkRead_any s W (hT.below hb) hs)
  have HR2 := Lib.hid (fun W => rRead_any19 s W hs)
  have HLn := Lib.hid (readV_len s)
  clear hT
  by_cases hbig : (1000 < s.size ∧ s.size ≤ 4096) ∨ 4200 < s.size
  · have hcase : (decide ((1000 : Int) < (s.size : Int)) = true ∧ decide ((s.size : Int) ≤ 4096) = true) ∨ (decide ((1000 : Int) < (s.size : Int)) = true ∧ decide ((s.size : Int) ≤ 4096) = false ∧ decide ((4200 : Int) < (s.size : Int)) = true) := by
      rcases hbig with ⟨h1, h2⟩ | h3
      · left; constructor <;> simp <;> omega
      · right; refine ⟨?_, ?_, ?_⟩ <;> simp <;> omega
    clear hbig
    rcases hcase with ⟨q1, q2⟩ | ⟨q1, q2, q3⟩
    all_goals
      go_enter Tryz.func3, Tryz.ntmps3
      go_wp2_with fail
      refine (HAl.out _ (Below.refl _ _)).mono ?_
      rintro e w1 ⟨rfl, hb1⟩
      have HB1 := Lib.hid hb1
      clear hb1
      go_wp2
      go_ret
      exact ⟨rfl, HB1.out⟩
  · obtain ⟨⟨L, p, c⟩, hV⟩ : ∃ v, readV19 s = v := ⟨_, rfl⟩
    rw [hV] at HR1 HR2 HLn
    unfold RetRd19 at HR1 HR2
    simp only at HR1 HR2 HLn
    clear hV
    have hcase : decide ((1000 : Int) < (s.size : Int)) = false ∨ (decide ((1000 : Int) < (s.size : Int)) = true ∧ decide ((s.size : Int) ≤ 4096) = false) := by
      by_cases h1 : 1000 < s.size
      · right; constructor <;> simp <;> omega
      · left; simp; omega
    have q3 : decide ((4200 : Int) < (s.size : Int)) = false := by simp; omega
    clear hbig
    have qc : (c == c) = true := by simp
    have qp : ((p : Int) == (p : Int)) = true := by simp
    rcases hcase with q1 | ⟨q1, q2⟩
    all_goals
      go_enter Tryz.func3, Tryz.ntmps3
      go_wp2_with fail
      refine (HR1.out _ (Below.refl _ _)).mono ?_
      rintro e w1 ⟨a1, c1, rfl, hc1, hm1, hA1, hb1⟩
      have HA1 := Lib.hid hA1
      have HB1 := Lib.hid hb1
      clear hA1 hb1
      have HG : Hid (Blk (w1.alloc (.cells #[.int .i64 (p : Int), .int .i64 c] 26)) w1.heap.size 26 #[.int .i64 (p : Int), .int .i64 c]) := Blk.new w1 _ _
      have hbw : Below w1.heap.size w1 (w1.alloc (.cells #[.int .i64 (p : Int), .int .i64 c] 26)) := (Below.refl _ w1).alloc (Nat.le_refl _) _
      obtain ⟨w2, hw2⟩ : ∃ w2, w1.alloc (.cells #[.int .i64 (p : Int), .int .i64 c] 26) = w2 := ⟨_, rfl⟩
      have HS2 : Hid (w1.heap.size < w2.heap.size) := by rw [← hw2]; show _ < _; simp
      rw [hw2] at HG hbw
      have HW2 := Lib.hid hbw
      clear hbw
      go_wp2_with fail
      refine (HR2.out w2).mono ?_
      rintro e w3 ⟨a3, c3, rfl, hc3, hm3, hA3, hb3⟩
      have HA3 := Lib.hid hA3
      have HG3 : Hid (Blk w3 w1.heap.size 26 #[.int .i64 (p : Int), .int .i64 c]) := (hb3.block _ HS2.out).trans HG.out
      have HB3 : Hid (Below w1.heap.size w1 w3) := HW2.out.trans (hb3.mono HW2.out.size)
      have HS3 : Hid (w1.heap.size < w3.heap.size) := Nat.lt_of_lt_of_le HS2.out hb3.size
      clear hA3 hb3
      have HG4 : Hid (Blk (w3.alloc (.cells #[.int .i64 (p : Int), .int .i64 c] 26)) w3.heap.size 26 #[.int .i64 (p : Int), .int .i64 c]) := Blk.new w3 _ _
      have hbw4 : Below w3.heap.size w3 (w3.alloc (.cells #[.int .i64 (p : Int), .int .i64 c] 26)) := (Below.refl _ w3).alloc (Nat.le_refl _) _
      obtain ⟨w4, hw4⟩ : ∃ w4, w3.alloc (.cells #[.int .i64 (p : Int), .int .i64 c] 26) = w4 := ⟨_, rfl⟩
      have HS4 : Hid (w3.heap.size < w4.heap.size) := by rw [← hw4]; show _ < _; simp
      rw [hw4] at HG4 hbw4
      have HG34 : Hid (Blk w4 w1.heap.size 26 #[.int .i64 (p : Int), .int .i64 c]) := (hbw4.block _ HS3.out).trans HG3.out
      have HA34 : Hid (Arr w4.heap.size w4 a3 (cellsTk L)) := (HA3.out.below hbw4).mono hbw4.size
      have HB4 : Hid (Below w1.heap.size w1 w4) := HB3.out.trans (hbw4.mono HB3.out.size)
      have HA14 : Hid (Arr w4.heap.size w4 a1 (cellsTk L)) := (HA1.out.below HB4.out).mono HB4.out.size
      have HBw4 : Hid (Below w.heap.size w w4) := HB1.out.trans (HB4.out.mono HB1.out.size)
      have HS14 : Hid (w1.heap.size < w4.heap.size) := Nat.lt_of_lt_of_le HS3.out (Nat.le_of_lt HS4.out)
      clear hbw4
      go_wp2_with fail
      refine (HAl.out _ HBw4.out).mono ?_
      rintro e w5 ⟨rfl, hb5⟩
      have HB5 := Lib.hid hb5
      clear hb5
      have HSm := Lib.hid (sameT_any L a1 a3 c1 c3 w5 ((HA14.out.below HB5.out).mono HB5.out.size) ((HA34.out.below HB5.out).mono HB5.out.size) HLn.out hc1 hm1 hc3 hm3)
      go_wp2_with fail
      refine HSm.out.mono ?_
      rintro e w6 ⟨rfl, hb6⟩
      have HB6 : Hid (Below w4.heap.size w4 w6) := HB5.out.trans (hb6.mono HB5.out.size)
      have hG1 : Blk w6 w1.heap.size 26 #[.int .i64 (p : Int), .int .i64 c] := (HB6.out.block _ HS14.out).trans HG34.out
      have hG2 : Blk w6 w3.heap.size 26 #[.int .i64 (p : Int), .int .i64 c] := (HB6.out.block _ HS4.out).trans HG4.out
      have r1 := run_loadVar_row w6 w1.heap.size _ 26 _ (0, 0) _ hG1 Tryz.underlying26 rfl (by rw [info_ftS]; rfl)
      have r2 := run_loadVar_row w6 w3.heap.size _ 26 _ (0, 0) _ hG2 Tryz.underlying26 rfl (by rw [info_ftS]; rfl)
      have y0 := (hG1.cell 0).trans rfl
      have y1 := (hG1.cell 1).trans rfl
      have x0 := (hG2.cell 0).trans rfl
      have x1 := (hG2.cell 1).trans rfl
      clear hb6 hG1 hG2 hw2 hw4
      go_wp2
      go_ret
      exact ⟨ret_b (by first | rfl | simp), HBw4.out.trans (HB6.out.mono HBw4.out.size)⟩
end Go.Proofs.YtbnddpicpomakaaGreatDoor

/- Go's tables of UTF-8, out of what the card lists. -/
set_option linter.unusedSimpArgs false
set_option linter.unusedVariables false
set_option maxRecDepth 100000
namespace Go.Proofs.YtbnddpicpomakaaGreatDoor
open Go Go.Lib Go.Shelf

theorem tabs_of {P : Program} {ρ : Ren} (L : Lays.n196 P ρ) {nm3 nm4 : String} (n3 : P.globalNamed nm3 = some (ρ.g 3)) (n4 : P.globalNamed nm4 = some (ρ.g 4)) (y3 : (P.globals[ρ.g 3]?).map (·.type) = some (ρ.t 119)) (y4 : (P.globals[ρ.g 4]?).map (·.type) = some (ρ.t 139))
    (c5 : P.cellsOf (ρ.t 5) = 1) (c119 : P.cellsOf (ρ.t 119) = 256) (c138 : P.cellsOf (ρ.t 138) = 2) {w : World} (h3 : VarReads P w nm3 firstData) (h4 : VarReads P w nm4 acceptData) : Lib.Utf8Tabs (ρ.g 3) (ρ.g 4) w := by
  refine ⟨fun c hc => ?_, fun i hi => ?_⟩
  · obtain ⟨g, t, cs, fuel, p, hg, hty, hvar, hd⟩ := h3
    obtain rfl := Option.some.inj (n3.symm.trans hg)
    obtain rfl := Option.some.inj (y3.symm.trans hty)
    have hcs := cells_of_tab L.t119 L.t5 c5 c119 hd
    have := World.var?_cell hg hvar c
    rw [this, ← Array.getElem?_toList, hcs]
    simp [firstTab, hc]
  · obtain ⟨g, t, cs, fuel, p, hg, hty, hvar, hd⟩ := h4
    obtain rfl := Option.some.inj (n4.symm.trans hg)
    obtain rfl := Option.some.inj (y4.symm.trans hty)
    obtain ⟨fuel', d, q, hdi, he⟩ := array_elem L.t139 hd i hi
    simp only [List.getElem?_map, List.getElem?_range hi, Option.map_some, Option.some.injEq] at hdi
    subst hdi
    rw [c138] at he
    have hcs := ints_of_struct L.t138 (fun j f hj => by
      match j, hj with
      | 0, hj => simp at hj; subst hj; exact ⟨L.t5, rfl, c5⟩
      | 1, hj => simp at hj; subst hj; exact ⟨L.t5, rfl, c5⟩
      | j + 2, hj => simp at hj) (by rw [c138]; rfl) he
    have e0 := congrArg (·[0]?) hcs
    have e1 := congrArg (·[1]?) hcs
    simp only [List.getElem?_take, List.getElem?_drop] at e0 e1
    constructor
    · rw [World.var?_cell hg hvar (2 * i), ← Array.getElem?_toList]
      simpa [Nat.mul_comm] using e0
    · rw [World.var?_cell hg hvar (2 * i + 1), ← Array.getElem?_toList]
      simpa [Nat.mul_comm] using e1

theorem first_eq : Rows.laid_unicode_utf8_first = firstData := Pinned.utf8First_eq
theorem accept_eq : (Rows.laid_unicode_utf8_acceptRanges : DataW Unit) = acceptData := by kernel_rfl

/-- The two tables, where the listed variables read as the card has them. -/
theorem tabs_laid {l : List (String × DataW Unit)} {w : World} (h : laidMet Tryz.prog l w) {nm3 nm4 : String} (m3 : (nm3, Rows.laid_unicode_utf8_first) ∈ l) (m4 : (nm4, (Rows.laid_unicode_utf8_acceptRanges : DataW Unit)) ∈ l)
    (n3 : Tryz.prog.globalNamed nm3 = some (Tryz.laysValid_ren.g 3)) (n4 : Tryz.prog.globalNamed nm4 = some (Tryz.laysValid_ren.g 4)) : Tabs w :=
  tabs_of Tryz.laysValid n3 n4 (by kernel_rfl) (by kernel_rfl) (by kernel_rfl) (by kernel_rfl) (by kernel_rfl) (first_eq ▸ Lib.laidMet.reads h m3) (accept_eq ▸ Lib.laidMet.reads h m4)
end Go.Proofs.YtbnddpicpomakaaGreatDoor

/- What the package's variables hold, out of what the card lists; and the wrap that hands the world's shape too. -/
set_option linter.unusedSimpArgs false
set_option linter.unusedVariables false
set_option maxRecDepth 100000
namespace Go.Proofs.YtbnddpicpomakaaGreatDoor
set_option linter.unusedSimpArgs false
open Go Go.Lib Go.Shelf Go.RowKit Go.ChangeShapes

theorem star5 : "*" ++ "errors.errorString" = "*errors.errorString" := by decide
theorem row5 (u : TypeId) (h : Tryz.prog.typeName? 3 u = some "*errors.errorString") : u = 168 :=
  typeName_ptr_named (nm := "errors.errorString") (by rw [star5]; kernel_rfl) (by kernel_rfl) (by decide) u (by rw [star5]; exact h)

theorem pow_eq : Rows.laid_internal_strconv_uint64pow10 = tabData (H := Unit) .u64 Lib.pow10Tab := by kernel_rfl

theorem pow_reads {P : Program} {w : World} {nm : String} {t e : TypeId} {g : Nat} (hg : P.globalNamed nm = some g) (hty : (P.globals[g]?).map (·.type) = some t) (ht : P.underlying t = some (.array 20 e)) (he : P.underlying e = some (.int .u64)) (hce : P.cellsOf e = 1) (hct : P.cellsOf t = 20)
    (h : VarReads P w nm (tabData .u64 Lib.pow10Tab)) : Lib.TabIs P w nm .u64 Lib.pow10Tab := by
  obtain ⟨g', t', cs, fuel, p, hg', ht', hvar, hd⟩ := h
  obtain rfl := Option.some.inj (hg.symm.trans hg')
  obtain rfl := Option.some.inj (hty.symm.trans ht')
  unfold TabIs
  rw [hvar, ← cells_of_tab ht he hce hct hd]

theorem pre4_laid {l : List (String × DataW Unit)} {w : World} (h : laidMet Tryz.prog l w) (hsh : w.ShapedOpen Tryz.prog) {nm3 nm4 : String} (m2 : (powName, Rows.laid_internal_strconv_uint64pow10) ∈ l) (m3 : (nm3, Rows.laid_unicode_utf8_first) ∈ l) (m4 : (nm4, (Rows.laid_unicode_utf8_acceptRanges : DataW Unit)) ∈ l)
    (n3 : Tryz.prog.globalNamed nm3 = some (Tryz.laysValid_ren.g 3)) (n4 : Tryz.prog.globalNamed nm4 = some (Tryz.laysValid_ren.g 4)) : Pre4 w where
  tabs := tabs_laid h m3 m4 n3 n4
  maxlen := Tryz.laysRepl.s1_3 w hsh
  pow := pow_reads (g := (Tryz.prog.globalNamed powName).getD 0) (t := 158) (e := 132) (by kernel_rfl) (by kernel_rfl) Tryz.underlying158 Tryz.underlying132 (by kernel_rfl) (by kernel_rfl) (pow_eq ▸ Lib.laidMet.reads h m2)

theorem pre5_laid {x0 x1 x5 : String × DataW Unit} {nm3 nm4 nm5 : String} {r : List (String × DataW Unit)} {w : World} (h : laidMet Tryz.prog (x0 :: x1 :: (powName, Rows.laid_internal_strconv_uint64pow10) :: (nm4, (Rows.laid_unicode_utf8_acceptRanges : DataW Unit)) :: (nm5, Rows.laid_strconv_ErrRange) :: x5 :: (nm3, Rows.laid_unicode_utf8_first) :: r) w) (hsh : w.ShapedOpen Tryz.prog)
    (n3 : Tryz.prog.globalNamed nm3 = some (Tryz.laysValid_ren.g 3)) (n4 : Tryz.prog.globalNamed nm4 = some (Tryz.laysValid_ren.g 4)) (n5 : Tryz.prog.globalNamed nm5 = some (Tryz.laysParse_ren.g 16)) : Pre5 w where
  toPre4 := pre4_laid h hsh (List.Mem.tail _ (List.Mem.tail _ (List.Mem.head _))) (List.Mem.tail _ (List.Mem.tail _ (List.Mem.tail _ (List.Mem.tail _ (List.Mem.tail _ (List.Mem.tail _ (List.Mem.head _))))))) (List.Mem.tail _ (List.Mem.tail _ (List.Mem.tail _ (List.Mem.head _)))) n3 n4
  rng := by
    obtain ⟨a, s, hv, _⟩ := laid_sentinel h.tail.tail.tail.tail (g := Tryz.laysParse_ren.g 16) (ti := 104) (tp := 168) (te := 170) (ts := 9) n5 (by kernel_rfl) Tryz.underlying104 row5 Tryz.underlying168 Tryz.underlying170 rfl rfl Tryz.underlying9 (by kernel_rfl) (by kernel_rfl)
    exact ⟨_, by simpa using World.var?_cell n5 hv 0, .inr ⟨_, _, rfl⟩⟩

section
variable {H : Type} {enc : TypeId × Value → H}

/-- As the wrap of a row with a premise of its own; it hands the contract the world's shape too. -/
theorem handed_change_shaped {a : Assume} {C : Checked} {os : Os} {f : FuncId} {fn : Func} {s : ChangeSpec} {conds : List PathCond} {apart fresh handsOn again : Bool} {X : World → Array Value → Prop}
    (hX : ∀ (w w' : World) (args : Array Value), w.heap = w'.heap → X w args → X w' args)
    (own : ownKnob C.prog.godebug = none) (started : os.Started) (noInit : C.prog.inits.idxOf? f = none) (hfn : C.prog.funcs[f]? = some fn)
    (witness : ∃ (w : World) (tape : Tape) (i : Input), w.os = os ∧ (w.forCall tape i).Shaped C.prog ∧ i.vars = [] ∧ Input.okWide C.prog (w.forCall tape i) .any w.heap.size f i ∧
      ((s.pre enc C.prog fn conds apart (w.forCall tape i).memory i.args ∧ X (w.forCall tape i).memory i.args) ∧ sizedMet enc C.prog fn (OpenSpec.ofChange s) apart (w.forCall tape i).memory i.args) ∧ a.holds C.prog (lone (Frame.enter C.prog f i.args .normal) [] (w.forCall tape i)))
    (contract : ∀ (W : World) (base : Nat) (args : Array Value) (ds gs : List (DataW H)) (before : List MemPlace),
      (∀ (j : Nat) t v, fn.params[j]? = some t → args[j]? = some v → Value.okWide C.prog W .any base t v) →
      DataW.Whole enc C.prog fn.params.toList s.vars apart W args.toList ds gs before →
      conds.all (PathCond.test C.prog ⟨fn.params.toList, ds, s.plain.varTypes C.prog, gs⟩) = true →
      (DataW.weightsEach C.prog (fn.params.toList ++ s.plain.varTypes C.prog) (ds ++ gs)).all (· ≤ reachBytes) = true → X W args → W.ShapedOpen C.prog →
      a.holds C.prog (lone (Frame.enter C.prog f args .normal) [] W) →
      Calls C.prog f args W fun e W' => ∃ v, e = .returned v ∧ s.post enc C.prog fn apart fresh handsOn again W args v W') :
    ReturnsInHanded a C os f .any (fun w args => (s.pre enc C.prog fn conds apart w args ∧ X w args) ∧ sizedMet enc C.prog fn (OpenSpec.ofChange s) apart w args) (s.post enc C.prog fn apart fresh handsOn again) := by
  refine returnsInHanded_of_calls own started noInit witness ?_
  intro w tape i _ hsh _ hok hpre hholds
  obtain ⟨_, _, _, fn', hfn', _, _, _, _, hval⟩ := hok
  have e : fn' = fn := Option.some.inj (hfn'.symm.trans hfn)
  subst e
  obtain ⟨⟨⟨ds, gs, before, hw, hc⟩, hx⟩, hz⟩ := hpre
  have hw' := DataW.Whole.of_heap (w' := w.forCall tape i) (by rfl) hw
  refine (contract (w.forCall tape i) w.heap.size i.args ds gs before hval hw' hc (hz.weights hw) (hX _ _ _ (by rfl) hx) hsh hholds).mono fun e W' ⟨v, he, hp⟩ => ?_
  subst he
  exact ChangeSpec.post_blind hp
end
end Go.Proofs.YtbnddpicpomakaaGreatDoor

/- The package's variables for token's laws. -/
set_option linter.unusedSimpArgs false
set_option linter.unusedVariables false
set_option maxRecDepth 100000
namespace Go.Proofs.YtbnddpicpomakaaGreatDoor
open Go Go.Lib Go.Shelf Go.RowKit Go.ChangeShapes

theorem pre6_laid {x0 x1 : String × DataW Unit} {nm3 nm4 nm5 nm6 : String} {r : List (String × DataW Unit)} {w : World} (h : laidMet Tryz.prog (x0 :: x1 :: (powName, Rows.laid_internal_strconv_uint64pow10) :: (nm4, (Rows.laid_unicode_utf8_acceptRanges : DataW Unit)) :: (nm5, Rows.laid_strconv_ErrRange) :: (nm6, Rows.laid_strconv_ErrSyntax) :: (nm3, Rows.laid_unicode_utf8_first) :: r) w) (hsh : w.ShapedOpen Tryz.prog)
    (n3 : Tryz.prog.globalNamed nm3 = some (Tryz.laysValid_ren.g 3)) (n4 : Tryz.prog.globalNamed nm4 = some (Tryz.laysValid_ren.g 4)) (n5 : Tryz.prog.globalNamed nm5 = some (Tryz.laysParse_ren.g 16)) (n6 : Tryz.prog.globalNamed nm6 = some (Tryz.laysTo_ren.g 15)) : Pre6 w where
  toPre5 := pre5_laid h hsh n3 n4 n5
  syn := by
    obtain ⟨a, s, hv, _⟩ := laid_sentinel h.tail.tail.tail.tail.tail (g := Tryz.laysTo_ren.g 15) (ti := 104) (tp := 168) (te := 170) (ts := 9) n6 (by kernel_rfl) Tryz.underlying104 row5 Tryz.underlying168 Tryz.underlying170 rfl rfl Tryz.underlying9 (by kernel_rfl) (by kernel_rfl)
    exact ⟨_, by simpa using World.var?_cell n6 hv 0, .inr ⟨_, _, rfl⟩⟩
end Go.Proofs.YtbnddpicpomakaaGreatDoor
