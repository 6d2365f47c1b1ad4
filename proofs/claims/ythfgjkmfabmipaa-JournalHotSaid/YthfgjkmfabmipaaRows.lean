/-
  No cell of these rows narrows 'for every input' (looked for: loops, veiled, ifaces, maps, wideKeys, modest, calm, conditions, laid).
  DERIVED. THE GIVEN ROWS OF THIS SEAT. 4 by the template 'for every input the law returns true; each argument reads behind the call as it read before'; 0 by the template 'total and deterministic' (their statements: YthfgjkmfabmipaaTotals.lean).
  GIVEN WITH THE SEED: the statements are not yours to turn. If you find one false, say at which input.
  Laid BY PROGRAM, IN A SANDBOX (cutbox-rows.mjs): the forced cells as the released guide's own fill.sh prints them over the translation 15dd85d8bca45db7… (all of the seat's roots in one cut). By AI agents, Wed Nov 11 2026. No macro, syntax, notation, axiom, sorry.
-/
import Derived.Test.YthfgjkmfabmipaaChecked
import GoSem.Claim
import GoSem.ClaimJoined
import GoSem.ClaimMapViews
import Derived.JoinedTies
import Derived.KernelRfl
namespace Go.Proofs.Ythfgjkmfabmipaa
/- THE CELL 'sum', in the pinned program and in every row, IS THE sha256 OF THE DUMP (.gsa) THAT YthfgjkmfabmipaaProg.lean LOADS. Nothing in Lean hashes anything: it is a label: what it is worth is what the hold of that sum in a sandbox is worth. -/
noncomputable def Try.pinned : Pinned := { name := "ythfgjkmfabmipaa", sum := "15dd85d8bca45db7aecc213f104c6b0ad11a4232c54ef34c5741ea94764c4218", checked := Try.checked }
namespace Rows
def none {H : Type} : Left H := { results := [], args := [] }

/-- 'hindsightlaw08.JournalLives': WHATEVER THE INPUT: true; the input reads as it did. -/
def journalLivesSpec : ChangeSpec := { name := "journalLives", fn := fun _ => fun
  | [d1, d2] => { results := [.lit (.bool true)], args := [d1, d2] }
  | _ => none }
def journalLivesRow : OpenClaim := { program := "ythfgjkmfabmipaa", sum := "15dd85d8bca45db7aecc213f104c6b0ad11a4232c54ef34c5741ea94764c4218", func := "hindsight/hindsightlaw08.JournalLives", spec := "journalLives", inPlace := ["maps.clone"], unfollowed := true, recurses := true, plainKeys := false, apart := false }
def JournalLivesSaid : Prop := journalLivesRow.holds Try.pinned (OpenSpec.ofChange journalLivesSpec)

/-- ITS FALSE NEIGHBOUR: 'it returns false'. Refute it at one input. -/
def journalLivesWrong : ChangeSpec := { name := "journalLives", fn := fun _ => fun
  | [d1, d2] => { results := [.lit (.bool false)], args := [d1, d2] }
  | _ => none }
def JournalLivesWrongFalsely : Prop := journalLivesRow.holds Try.pinned (OpenSpec.ofChange journalLivesWrong)

/-- 'hindsightlaw08.JournalHeads': WHATEVER THE INPUT: true; the input reads as it did. -/
def journalHeadsSpec : ChangeSpec := { name := "journalHeads", fn := fun _ => fun
  | [d1, d2, d3] => { results := [.lit (.bool true)], args := [d1, d2, d3] }
  | _ => none }
def journalHeadsRow : OpenClaim := { program := "ythfgjkmfabmipaa", sum := "15dd85d8bca45db7aecc213f104c6b0ad11a4232c54ef34c5741ea94764c4218", func := "hindsight/hindsightlaw08.JournalHeads", spec := "journalHeads", unfollowed := true, recurses := true, plainKeys := false, apart := false }
def JournalHeadsSaid : Prop := journalHeadsRow.holds Try.pinned (OpenSpec.ofChange journalHeadsSpec)

/-- ITS FALSE NEIGHBOUR: 'it returns false'. Refute it at one input. -/
def journalHeadsWrong : ChangeSpec := { name := "journalHeads", fn := fun _ => fun
  | [d1, d2, d3] => { results := [.lit (.bool false)], args := [d1, d2, d3] }
  | _ => none }
def JournalHeadsWrongFalsely : Prop := journalHeadsRow.holds Try.pinned (OpenSpec.ofChange journalHeadsWrong)

/-- 'hindsightlaw08.JournalUndoes': WHATEVER THE INPUT: true; the input reads as it did. -/
def journalUndoesSpec : ChangeSpec := { name := "journalUndoes", fn := fun _ => fun
  | [d1, d2, d3, d4, d5] => { results := [.lit (.bool true)], args := [d1, d2, d3, d4, d5] }
  | _ => none }
def journalUndoesRow : OpenClaim := { program := "ythfgjkmfabmipaa", sum := "15dd85d8bca45db7aecc213f104c6b0ad11a4232c54ef34c5741ea94764c4218", func := "hindsight/hindsightlaw08.JournalUndoes", spec := "journalUndoes", inPlace := ["maps.clone"], unfollowed := true, recurses := true, plainKeys := false, apart := false }
def JournalUndoesSaid : Prop := journalUndoesRow.holds Try.pinned (OpenSpec.ofChange journalUndoesSpec)

/-- ITS FALSE NEIGHBOUR: 'it returns false'. Refute it at one input. -/
def journalUndoesWrong : ChangeSpec := { name := "journalUndoes", fn := fun _ => fun
  | [d1, d2, d3, d4, d5] => { results := [.lit (.bool false)], args := [d1, d2, d3, d4, d5] }
  | _ => none }
def JournalUndoesWrongFalsely : Prop := journalUndoesRow.holds Try.pinned (OpenSpec.ofChange journalUndoesWrong)

/-- 'hindsightlaw08.JournalHot': WHATEVER THE INPUT: true; the input reads as it did. -/
def journalHotSpec : ChangeSpec := { name := "journalHot", fn := fun _ => fun
  | [d1, d2, d3, d4] => { results := [.lit (.bool true)], args := [d1, d2, d3, d4] }
  | _ => none }
def journalHotRow : OpenClaim := { program := "ythfgjkmfabmipaa", sum := "15dd85d8bca45db7aecc213f104c6b0ad11a4232c54ef34c5741ea94764c4218", func := "hindsight/hindsightlaw08.JournalHot", spec := "journalHot", inPlace := ["maps.clone"], unfollowed := true, recurses := true, plainKeys := false, apart := false }
def JournalHotSaid : Prop := journalHotRow.holds Try.pinned (OpenSpec.ofChange journalHotSpec)

/-- ITS FALSE NEIGHBOUR: 'it returns false'. Refute it at one input. -/
def journalHotWrong : ChangeSpec := { name := "journalHot", fn := fun _ => fun
  | [d1, d2, d3, d4] => { results := [.lit (.bool false)], args := [d1, d2, d3, d4] }
  | _ => none }
def JournalHotWrongFalsely : Prop := journalHotRow.holds Try.pinned (OpenSpec.ofChange journalHotWrong)

/- THE SECOND FORM. 'bulk': how many values and letters a reading holds, each counted each time it is reached (what is shared counts as often as it is met; a slice's spare places count too). A statement '..UptoSaid' is the law's where the arguments, and the package variables that the reading takes, are together of bulk at most 1048576: NARROWER than '..Said'. Prove '..Said' where nothing that the law and all that it calls make is longer than what came in: it says more and counts as full. Else prove '..UptoSaid'. A law counts once. -/
mutual
def uptoBulk {H : Type} : DataW H → Nat
  | .lit (.string bytes) => bytes.length + 1
  | .lit _ => 1
  | .nil => 1
  | .ptr d => uptoBulk d + 1
  | .slice elems spare => uptoBulkAll elems + uptoBulkAll spare + 1
  | .agg parts => uptoBulkAll parts + 1
  | .iface _ d => uptoBulk d + 1
  | .map entries => uptoBulkEntries entries + 1
  | .held _ => 1
def uptoBulkAll {H : Type} : List (DataW H) → Nat
  | [] => 0
  | d :: r => uptoBulk d + uptoBulkAll r
def uptoBulkEntries {H : Type} : List (Lit × DataW H) → Nat
  | [] => 0
  | x :: r => uptoBulkEntry x + uptoBulkEntries r
def uptoBulkEntry {H : Type} : Lit × DataW H → Nat
  | (.string bytes, d) => bytes.length + uptoBulk d + 1
  | (_, d) => uptoBulk d + 1
 end
def uptoSmall : (H : Type) → List (DataW H) → Bool := fun _ ds => decide (uptoBulkAll ds ≤ 1048576)
def OpenSpec.upto (s : _root_.Go.ChangeSpec) : _root_.Go.OpenSpec := { _root_.Go.OpenSpec.ofChange s with cond := some uptoSmall }

/-- 'hindsightlaw08.JournalLives', WHERE WHAT IT READS IS OF BULK AT MOST 1048576: true; the input reads as it did. -/
def journalLivesUptoRow : OpenClaim := { program := "ythfgjkmfabmipaa", sum := "15dd85d8bca45db7aecc213f104c6b0ad11a4232c54ef34c5741ea94764c4218", func := "hindsight/hindsightlaw08.JournalLives", spec := "journalLives", inPlace := ["maps.clone"], unfollowed := true, recurses := true, plainKeys := false, apart := false, narrowed := true }
def JournalLivesUptoSaid : Prop := journalLivesUptoRow.holds Try.pinned (OpenSpec.upto journalLivesSpec)

/-- 'hindsightlaw08.JournalHeads', WHERE WHAT IT READS IS OF BULK AT MOST 1048576: true; the input reads as it did. -/
def journalHeadsUptoRow : OpenClaim := { program := "ythfgjkmfabmipaa", sum := "15dd85d8bca45db7aecc213f104c6b0ad11a4232c54ef34c5741ea94764c4218", func := "hindsight/hindsightlaw08.JournalHeads", spec := "journalHeads", unfollowed := true, recurses := true, plainKeys := false, apart := false, narrowed := true }
def JournalHeadsUptoSaid : Prop := journalHeadsUptoRow.holds Try.pinned (OpenSpec.upto journalHeadsSpec)

/-- 'hindsightlaw08.JournalUndoes', WHERE WHAT IT READS IS OF BULK AT MOST 1048576: true; the input reads as it did. -/
def journalUndoesUptoRow : OpenClaim := { program := "ythfgjkmfabmipaa", sum := "15dd85d8bca45db7aecc213f104c6b0ad11a4232c54ef34c5741ea94764c4218", func := "hindsight/hindsightlaw08.JournalUndoes", spec := "journalUndoes", inPlace := ["maps.clone"], unfollowed := true, recurses := true, plainKeys := false, apart := false, narrowed := true }
def JournalUndoesUptoSaid : Prop := journalUndoesUptoRow.holds Try.pinned (OpenSpec.upto journalUndoesSpec)

/-- 'hindsightlaw08.JournalHot', WHERE WHAT IT READS IS OF BULK AT MOST 1048576: true; the input reads as it did. -/
def journalHotUptoRow : OpenClaim := { program := "ythfgjkmfabmipaa", sum := "15dd85d8bca45db7aecc213f104c6b0ad11a4232c54ef34c5741ea94764c4218", func := "hindsight/hindsightlaw08.JournalHot", spec := "journalHot", inPlace := ["maps.clone"], unfollowed := true, recurses := true, plainKeys := false, apart := false, narrowed := true }
def JournalHotUptoSaid : Prop := journalHotUptoRow.holds Try.pinned (OpenSpec.upto journalHotSpec)

end Rows
end Go.Proofs.Ythfgjkmfabmipaa
