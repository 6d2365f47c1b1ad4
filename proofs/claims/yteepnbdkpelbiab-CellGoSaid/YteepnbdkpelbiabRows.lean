/-
  No cell of these rows narrows 'for every input' (looked for: loops, veiled, ifaces, maps, wideKeys, modest, calm, conditions, laid).
  DERIVED. THE GIVEN ROWS OF THIS SEAT. 5 by the template 'for every input the law returns true; each argument reads behind the call as it read before'; 0 by the template 'total and deterministic' (their statements: YteepnbdkpelbiabTotals.lean).
  GIVEN WITH THE SEED: the statements are not yours to turn. If you find one false, say at which input.
  Laid BY PROGRAM, IN A SANDBOX (cutbox-rows.mjs): the forced cells as the released guide's own fill.sh prints them over the translation 64e90a46ee25245a… (all of the seat's roots in one cut). By AI agents, Wed Nov 11 2026. No macro, syntax, notation, axiom, sorry.
-/
import Derived.Test.YteepnbdkpelbiabChecked
import GoSem.Claim
import GoSem.ClaimJoined
import GoSem.ClaimMapViews
import Derived.JoinedTies
import Derived.KernelRfl
namespace Go.Proofs.Yteepnbdkpelbiab
/- THE CELL 'sum', in the pinned program and in every row, IS THE sha256 OF THE DUMP (.gsa) THAT YteepnbdkpelbiabProg.lean LOADS. Nothing in Lean hashes anything: it is a label: what it is worth is what the hold of that sum in a sandbox is worth. -/
noncomputable def Try.pinned : Pinned := { name := "yteepnbdkpelbiab", sum := "64e90a46ee25245af53d4570b6dc272786f209691304a5e139f4b93601994c6e", checked := Try.checked }
namespace Rows
def none {H : Type} : Left H := { results := [], args := [] }

/-- 'hindsightlaw02.CellOrders': WHATEVER THE INPUT: true; the input reads as it did. -/
def cellOrdersSpec : ChangeSpec := { name := "cellOrders", fn := fun _ => fun
  | [d1, d2] => { results := [.lit (.bool true)], args := [d1, d2] }
  | _ => none }
def cellOrdersRow : OpenClaim := { program := "yteepnbdkpelbiab", sum := "64e90a46ee25245af53d4570b6dc272786f209691304a5e139f4b93601994c6e", func := "hindsight/hindsightlaw02.CellOrders", spec := "cellOrders", unfollowed := true, recurses := true, apart := false }
def CellOrdersSaid : Prop := cellOrdersRow.holds Try.pinned (OpenSpec.ofChange cellOrdersSpec)

/-- ITS FALSE NEIGHBOUR: 'it returns false'. Refute it at one input. -/
def cellOrdersWrong : ChangeSpec := { name := "cellOrders", fn := fun _ => fun
  | [d1, d2] => { results := [.lit (.bool false)], args := [d1, d2] }
  | _ => none }
def CellOrdersWrongFalsely : Prop := cellOrdersRow.holds Try.pinned (OpenSpec.ofChange cellOrdersWrong)

/-- 'hindsightlaw02.CellGo': WHATEVER THE INPUT: true; the input reads as it did. -/
def cellGoSpec : ChangeSpec := { name := "cellGo", fn := fun _ => fun
  | [d1, d2] => { results := [.lit (.bool true)], args := [d1, d2] }
  | _ => none }
def cellGoRow : OpenClaim := { program := "yteepnbdkpelbiab", sum := "64e90a46ee25245af53d4570b6dc272786f209691304a5e139f4b93601994c6e", func := "hindsight/hindsightlaw02.CellGo", spec := "cellGo", unfollowed := true, recurses := true, apart := false }
def CellGoSaid : Prop := cellGoRow.holds Try.pinned (OpenSpec.ofChange cellGoSpec)

/-- ITS FALSE NEIGHBOUR: 'it returns false'. Refute it at one input. -/
def cellGoWrong : ChangeSpec := { name := "cellGo", fn := fun _ => fun
  | [d1, d2] => { results := [.lit (.bool false)], args := [d1, d2] }
  | _ => none }
def CellGoWrongFalsely : Prop := cellGoRow.holds Try.pinned (OpenSpec.ofChange cellGoWrong)

/-- 'hindsightlaw02.CellTotal': WHATEVER THE INPUT: true; the input reads as it did. -/
def cellTotalSpec : ChangeSpec := { name := "cellTotal", fn := fun _ => fun
  | [d1, d2, d3] => { results := [.lit (.bool true)], args := [d1, d2, d3] }
  | _ => none }
def cellTotalRow : OpenClaim := { program := "yteepnbdkpelbiab", sum := "64e90a46ee25245af53d4570b6dc272786f209691304a5e139f4b93601994c6e", func := "hindsight/hindsightlaw02.CellTotal", spec := "cellTotal", unfollowed := true, recurses := true, apart := false }
def CellTotalSaid : Prop := cellTotalRow.holds Try.pinned (OpenSpec.ofChange cellTotalSpec)

/-- ITS FALSE NEIGHBOUR: 'it returns false'. Refute it at one input. -/
def cellTotalWrong : ChangeSpec := { name := "cellTotal", fn := fun _ => fun
  | [d1, d2, d3] => { results := [.lit (.bool false)], args := [d1, d2, d3] }
  | _ => none }
def CellTotalWrongFalsely : Prop := cellTotalRow.holds Try.pinned (OpenSpec.ofChange cellTotalWrong)

/-- 'hindsightlaw02.CellRing': WHATEVER THE INPUT: true; the input reads as it did. -/
def cellRingSpec : ChangeSpec := { name := "cellRing", fn := fun _ => fun
  | [d1, d2] => { results := [.lit (.bool true)], args := [d1, d2] }
  | _ => none }
def cellRingRow : OpenClaim := { program := "yteepnbdkpelbiab", sum := "64e90a46ee25245af53d4570b6dc272786f209691304a5e139f4b93601994c6e", func := "hindsight/hindsightlaw02.CellRing", spec := "cellRing", unfollowed := true, recurses := true, apart := false }
def CellRingSaid : Prop := cellRingRow.holds Try.pinned (OpenSpec.ofChange cellRingSpec)

/-- ITS FALSE NEIGHBOUR: 'it returns false'. Refute it at one input. -/
def cellRingWrong : ChangeSpec := { name := "cellRing", fn := fun _ => fun
  | [d1, d2] => { results := [.lit (.bool false)], args := [d1, d2] }
  | _ => none }
def CellRingWrongFalsely : Prop := cellRingRow.holds Try.pinned (OpenSpec.ofChange cellRingWrong)

/-- 'hindsightlaw02.CellNots': WHATEVER THE INPUT: true; the input reads as it did. -/
def cellNotsSpec : ChangeSpec := { name := "cellNots", fn := fun _ => fun
  | [d1, d2] => { results := [.lit (.bool true)], args := [d1, d2] }
  | _ => none }
def cellNotsRow : OpenClaim := { program := "yteepnbdkpelbiab", sum := "64e90a46ee25245af53d4570b6dc272786f209691304a5e139f4b93601994c6e", func := "hindsight/hindsightlaw02.CellNots", spec := "cellNots", unfollowed := true, recurses := true, apart := false }
def CellNotsSaid : Prop := cellNotsRow.holds Try.pinned (OpenSpec.ofChange cellNotsSpec)

/-- ITS FALSE NEIGHBOUR: 'it returns false'. Refute it at one input. -/
def cellNotsWrong : ChangeSpec := { name := "cellNots", fn := fun _ => fun
  | [d1, d2] => { results := [.lit (.bool false)], args := [d1, d2] }
  | _ => none }
def CellNotsWrongFalsely : Prop := cellNotsRow.holds Try.pinned (OpenSpec.ofChange cellNotsWrong)

/- THE SECOND FORM. 'bulk': how many values and letters a reading holds, each counted each time it is reached (what is shared counts as often as it is met; a slice's spare places count too). A statement '..UptoSaid' is the law's where the arguments, and the package variables that the reading takes, are together of bulk at most 1048576: NARROWER than '..Said'. Prove '..Said' where nothing that the law and all that it calls make is longer than what came in: it says more and counts as full. Else prove '..UptoSaid'. A law counts once. -/
mutual
def uptoBulk {H : Type} : DataW H → Nat
  | .lit (.string bytes) => bytes.length + 1
  | .lit _ => 1
  | .nil => 1
  | .ptr d => uptoBulk d + 1
  | .slice elems spare => uptoBulkAll elems + uptoBulkAll spare + 1
  | .agg parts => uptoBulkAll parts + 1
  | .iface _ d => uptoBulk d + 1
  | .map entries => uptoBulkEntries entries + 1
  | .held _ => 1
def uptoBulkAll {H : Type} : List (DataW H) → Nat
  | [] => 0
  | d :: r => uptoBulk d + uptoBulkAll r
def uptoBulkEntries {H : Type} : List (Lit × DataW H) → Nat
  | [] => 0
  | x :: r => uptoBulkEntry x + uptoBulkEntries r
def uptoBulkEntry {H : Type} : Lit × DataW H → Nat
  | (.string bytes, d) => bytes.length + uptoBulk d + 1
  | (_, d) => uptoBulk d + 1
 end
def uptoSmall : (H : Type) → List (DataW H) → Bool := fun _ ds => decide (uptoBulkAll ds ≤ 1048576)
def OpenSpec.upto (s : _root_.Go.ChangeSpec) : _root_.Go.OpenSpec := { _root_.Go.OpenSpec.ofChange s with cond := some uptoSmall }

/-- 'hindsightlaw02.CellOrders', WHERE WHAT IT READS IS OF BULK AT MOST 1048576: true; the input reads as it did. -/
def cellOrdersUptoRow : OpenClaim := { program := "yteepnbdkpelbiab", sum := "64e90a46ee25245af53d4570b6dc272786f209691304a5e139f4b93601994c6e", func := "hindsight/hindsightlaw02.CellOrders", spec := "cellOrders", unfollowed := true, recurses := true, apart := false, narrowed := true }
def CellOrdersUptoSaid : Prop := cellOrdersUptoRow.holds Try.pinned (OpenSpec.upto cellOrdersSpec)

/-- 'hindsightlaw02.CellGo', WHERE WHAT IT READS IS OF BULK AT MOST 1048576: true; the input reads as it did. -/
def cellGoUptoRow : OpenClaim := { program := "yteepnbdkpelbiab", sum := "64e90a46ee25245af53d4570b6dc272786f209691304a5e139f4b93601994c6e", func := "hindsight/hindsightlaw02.CellGo", spec := "cellGo", unfollowed := true, recurses := true, apart := false, narrowed := true }
def CellGoUptoSaid : Prop := cellGoUptoRow.holds Try.pinned (OpenSpec.upto cellGoSpec)

/-- 'hindsightlaw02.CellTotal', WHERE WHAT IT READS IS OF BULK AT MOST 1048576: true; the input reads as it did. -/
def cellTotalUptoRow : OpenClaim := { program := "yteepnbdkpelbiab", sum := "64e90a46ee25245af53d4570b6dc272786f209691304a5e139f4b93601994c6e", func := "hindsight/hindsightlaw02.CellTotal", spec := "cellTotal", unfollowed := true, recurses := true, apart := false, narrowed := true }
def CellTotalUptoSaid : Prop := cellTotalUptoRow.holds Try.pinned (OpenSpec.upto cellTotalSpec)

/-- 'hindsightlaw02.CellRing', WHERE WHAT IT READS IS OF BULK AT MOST 1048576: true; the input reads as it did. -/
def cellRingUptoRow : OpenClaim := { program := "yteepnbdkpelbiab", sum := "64e90a46ee25245af53d4570b6dc272786f209691304a5e139f4b93601994c6e", func := "hindsight/hindsightlaw02.CellRing", spec := "cellRing", unfollowed := true, recurses := true, apart := false, narrowed := true }
def CellRingUptoSaid : Prop := cellRingUptoRow.holds Try.pinned (OpenSpec.upto cellRingSpec)

/-- 'hindsightlaw02.CellNots', WHERE WHAT IT READS IS OF BULK AT MOST 1048576: true; the input reads as it did. -/
def cellNotsUptoRow : OpenClaim := { program := "yteepnbdkpelbiab", sum := "64e90a46ee25245af53d4570b6dc272786f209691304a5e139f4b93601994c6e", func := "hindsight/hindsightlaw02.CellNots", spec := "cellNots", unfollowed := true, recurses := true, apart := false, narrowed := true }
def CellNotsUptoSaid : Prop := cellNotsUptoRow.holds Try.pinned (OpenSpec.upto cellNotsSpec)

end Rows
end Go.Proofs.Yteepnbdkpelbiab
