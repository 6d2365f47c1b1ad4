/-
  NARROWER THAN 'FOR EVERY INPUT', by the rows' own cells (each row's printed sentence says how): CompileNodes: loops · CompileBack: loops · CompileSizes: loops.
  DERIVED. THE GIVEN ROWS OF THIS SEAT. 4 by the template 'for every input the law returns true; each argument reads behind the call as it read before'; 0 by the template 'total and deterministic' (their statements: YtapbhhehnbfdfaaTotals.lean).
  GIVEN WITH THE SEED: the statements are not yours to turn. If you find one false, say at which input.
  Laid BY PROGRAM, IN A SANDBOX (cutbox-rows.mjs): the forced cells as the released guide's own fill.sh prints them over the translation 48508656f034f1f0… (all of the seat's roots in one cut). By AI agents, Wed Nov 11 2026. No macro, syntax, notation, axiom, sorry.
-/
import Derived.Test.YtapbhhehnbfdfaaChecked
import GoSem.Claim
import GoSem.ClaimJoined
import GoSem.ClaimMapViews
import Derived.JoinedTies
import Derived.KernelRfl
namespace Go.Proofs.Ytapbhhehnbfdfaa
/- THE CELL 'sum', in the pinned program and in every row, IS THE sha256 OF THE DUMP (.gsa) THAT YtapbhhehnbfdfaaProg.lean LOADS. Nothing in Lean hashes anything: it is a label: what it is worth is what the hold of that sum in a sandbox is worth. -/
noncomputable def Try.pinned : Pinned := { name := "ytapbhhehnbfdfaa", sum := "48508656f034f1f0c6d48b1c87b29ab6d038f2f1dc75cfcc34a7cf748e0911a2", checked := Try.checked }
namespace Rows
def none {H : Type} : Left H := { results := [], args := [] }

/-- 'hindsightlaw26.CompileNodes': WHATEVER THE INPUT: true; the input reads as it did. -/
def compileNodesSpec : ChangeSpec := { name := "compileNodes", fn := fun _ => fun
  | [d] => { results := [.lit (.bool true)], args := [d] }
  | _ => none }
def compileNodesRow : OpenClaim := { program := "ytapbhhehnbfdfaa", sum := "48508656f034f1f0c6d48b1c87b29ab6d038f2f1dc75cfcc34a7cf748e0911a2", func := "hindsight/hindsightlaw26.CompileNodes", spec := "compileNodes", unfollowed := true, recurses := true, loops := true, plainKeys := false, apart := false }
def CompileNodesSaid : Prop := compileNodesRow.holds Try.pinned (OpenSpec.ofChange compileNodesSpec)

/-- ITS FALSE NEIGHBOUR: 'it returns false'. Refute it at one input. -/
def compileNodesWrong : ChangeSpec := { name := "compileNodes", fn := fun _ => fun
  | [d] => { results := [.lit (.bool false)], args := [d] }
  | _ => none }
def CompileNodesWrongFalsely : Prop := compileNodesRow.holds Try.pinned (OpenSpec.ofChange compileNodesWrong)

/-- 'hindsightlaw26.CompilePrograms': WHATEVER THE INPUT: true; the input reads as it did. -/
def compileProgramsSpec : ChangeSpec := { name := "compilePrograms", fn := fun _ => fun
  | [d] => { results := [.lit (.bool true)], args := [d] }
  | _ => none }
def compileProgramsRow : OpenClaim := { program := "ytapbhhehnbfdfaa", sum := "48508656f034f1f0c6d48b1c87b29ab6d038f2f1dc75cfcc34a7cf748e0911a2", func := "hindsight/hindsightlaw26.CompilePrograms", spec := "compilePrograms", unfollowed := true, recurses := true, plainKeys := false, apart := false }
def CompileProgramsSaid : Prop := compileProgramsRow.holds Try.pinned (OpenSpec.ofChange compileProgramsSpec)

/-- ITS FALSE NEIGHBOUR: 'it returns false'. Refute it at one input. -/
def compileProgramsWrong : ChangeSpec := { name := "compilePrograms", fn := fun _ => fun
  | [d] => { results := [.lit (.bool false)], args := [d] }
  | _ => none }
def CompileProgramsWrongFalsely : Prop := compileProgramsRow.holds Try.pinned (OpenSpec.ofChange compileProgramsWrong)

/-- 'hindsightlaw26.CompileBack': WHATEVER THE INPUT: true; the input reads as it did. -/
def compileBackSpec : ChangeSpec := { name := "compileBack", fn := fun _ => fun
  | [d] => { results := [.lit (.bool true)], args := [d] }
  | _ => none }
def compileBackRow : OpenClaim := { program := "ytapbhhehnbfdfaa", sum := "48508656f034f1f0c6d48b1c87b29ab6d038f2f1dc75cfcc34a7cf748e0911a2", func := "hindsight/hindsightlaw26.CompileBack", spec := "compileBack", unfollowed := true, recurses := true, loops := true, plainKeys := false, apart := false }
def CompileBackSaid : Prop := compileBackRow.holds Try.pinned (OpenSpec.ofChange compileBackSpec)

/-- ITS FALSE NEIGHBOUR: 'it returns false'. Refute it at one input. -/
def compileBackWrong : ChangeSpec := { name := "compileBack", fn := fun _ => fun
  | [d] => { results := [.lit (.bool false)], args := [d] }
  | _ => none }
def CompileBackWrongFalsely : Prop := compileBackRow.holds Try.pinned (OpenSpec.ofChange compileBackWrong)

/-- 'hindsightlaw26.CompileSizes': WHATEVER THE INPUT: true; the input reads as it did. -/
def compileSizesSpec : ChangeSpec := { name := "compileSizes", fn := fun _ => fun
  | [d] => { results := [.lit (.bool true)], args := [d] }
  | _ => none }
def compileSizesRow : OpenClaim := { program := "ytapbhhehnbfdfaa", sum := "48508656f034f1f0c6d48b1c87b29ab6d038f2f1dc75cfcc34a7cf748e0911a2", func := "hindsight/hindsightlaw26.CompileSizes", spec := "compileSizes", unfollowed := true, recurses := true, loops := true, plainKeys := false, apart := false }
def CompileSizesSaid : Prop := compileSizesRow.holds Try.pinned (OpenSpec.ofChange compileSizesSpec)

/-- ITS FALSE NEIGHBOUR: 'it returns false'. Refute it at one input. -/
def compileSizesWrong : ChangeSpec := { name := "compileSizes", fn := fun _ => fun
  | [d] => { results := [.lit (.bool false)], args := [d] }
  | _ => none }
def CompileSizesWrongFalsely : Prop := compileSizesRow.holds Try.pinned (OpenSpec.ofChange compileSizesWrong)

/- THE SECOND FORM. 'bulk': how many values and letters a reading holds, each counted each time it is reached (what is shared counts as often as it is met; a slice's spare places count too). A statement '..UptoSaid' is the law's where the arguments, and the package variables that the reading takes, are together of bulk at most 1048576: NARROWER than '..Said'. Prove '..Said' where nothing that the law and all that it calls make is longer than what came in: it says more and counts as full. Else prove '..UptoSaid'. A law counts once. -/
mutual
def uptoBulk {H : Type} : DataW H → Nat
  | .lit (.string bytes) => bytes.length + 1
  | .lit _ => 1
  | .nil => 1
  | .ptr d => uptoBulk d + 1
  | .slice elems spare => uptoBulkAll elems + uptoBulkAll spare + 1
  | .agg parts => uptoBulkAll parts + 1
  | .iface _ d => uptoBulk d + 1
  | .map entries => uptoBulkEntries entries + 1
  | .held _ => 1
def uptoBulkAll {H : Type} : List (DataW H) → Nat
  | [] => 0
  | d :: r => uptoBulk d + uptoBulkAll r
def uptoBulkEntries {H : Type} : List (Lit × DataW H) → Nat
  | [] => 0
  | x :: r => uptoBulkEntry x + uptoBulkEntries r
def uptoBulkEntry {H : Type} : Lit × DataW H → Nat
  | (.string bytes, d) => bytes.length + uptoBulk d + 1
  | (_, d) => uptoBulk d + 1
 end
def uptoSmall : (H : Type) → List (DataW H) → Bool := fun _ ds => decide (uptoBulkAll ds ≤ 1048576)
def OpenSpec.upto (s : _root_.Go.ChangeSpec) : _root_.Go.OpenSpec := { _root_.Go.OpenSpec.ofChange s with cond := some uptoSmall }

/-- 'hindsightlaw26.CompileNodes', WHERE WHAT IT READS IS OF BULK AT MOST 1048576: true; the input reads as it did. -/
def compileNodesUptoRow : OpenClaim := { program := "ytapbhhehnbfdfaa", sum := "48508656f034f1f0c6d48b1c87b29ab6d038f2f1dc75cfcc34a7cf748e0911a2", func := "hindsight/hindsightlaw26.CompileNodes", spec := "compileNodes", unfollowed := true, recurses := true, loops := true, plainKeys := false, apart := false, narrowed := true }
def CompileNodesUptoSaid : Prop := compileNodesUptoRow.holds Try.pinned (OpenSpec.upto compileNodesSpec)

/-- 'hindsightlaw26.CompilePrograms', WHERE WHAT IT READS IS OF BULK AT MOST 1048576: true; the input reads as it did. -/
def compileProgramsUptoRow : OpenClaim := { program := "ytapbhhehnbfdfaa", sum := "48508656f034f1f0c6d48b1c87b29ab6d038f2f1dc75cfcc34a7cf748e0911a2", func := "hindsight/hindsightlaw26.CompilePrograms", spec := "compilePrograms", unfollowed := true, recurses := true, plainKeys := false, apart := false, narrowed := true }
def CompileProgramsUptoSaid : Prop := compileProgramsUptoRow.holds Try.pinned (OpenSpec.upto compileProgramsSpec)

/-- 'hindsightlaw26.CompileBack', WHERE WHAT IT READS IS OF BULK AT MOST 1048576: true; the input reads as it did. -/
def compileBackUptoRow : OpenClaim := { program := "ytapbhhehnbfdfaa", sum := "48508656f034f1f0c6d48b1c87b29ab6d038f2f1dc75cfcc34a7cf748e0911a2", func := "hindsight/hindsightlaw26.CompileBack", spec := "compileBack", unfollowed := true, recurses := true, loops := true, plainKeys := false, apart := false, narrowed := true }
def CompileBackUptoSaid : Prop := compileBackUptoRow.holds Try.pinned (OpenSpec.upto compileBackSpec)

/-- 'hindsightlaw26.CompileSizes', WHERE WHAT IT READS IS OF BULK AT MOST 1048576: true; the input reads as it did. -/
def compileSizesUptoRow : OpenClaim := { program := "ytapbhhehnbfdfaa", sum := "48508656f034f1f0c6d48b1c87b29ab6d038f2f1dc75cfcc34a7cf748e0911a2", func := "hindsight/hindsightlaw26.CompileSizes", spec := "compileSizes", unfollowed := true, recurses := true, loops := true, plainKeys := false, apart := false, narrowed := true }
def CompileSizesUptoSaid : Prop := compileSizesUptoRow.holds Try.pinned (OpenSpec.upto compileSizesSpec)

end Rows
end Go.Proofs.Ytapbhhehnbfdfaa
