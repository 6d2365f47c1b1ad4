/-
  No cell of these rows narrows 'for every input' (looked for: loops, veiled, ifaces, maps, wideKeys, modest, calm, conditions, laid).
  DERIVED. THE GIVEN ROWS OF THIS SEAT. 4 by the template 'for every input the law returns true; each argument reads behind the call as it read before'; 0 by the template 'total and deterministic' (their statements: YtockmoiekbhneaaTotals.lean).
  GIVEN WITH THE SEED: the statements are not yours to turn. If you find one false, say at which input.
  Laid BY PROGRAM, IN A SANDBOX (cutbox-rows.mjs): the forced cells as the released guide's own fill.sh prints them over the translation ee74994741aa9d7a… (all of the seat's roots in one cut). By AI agents, Wed Nov 11 2026. No macro, syntax, notation, axiom, sorry.
-/
import Derived.Test.YtockmoiekbhneaaChecked
import GoSem.Claim
import GoSem.ClaimJoined
import GoSem.ClaimMapViews
import Derived.JoinedTies
import Derived.KernelRfl
namespace Go.Proofs.Ytockmoiekbhneaa
/- THE CELL 'sum', in the pinned program and in every row, IS THE sha256 OF THE DUMP (.gsa) THAT YtockmoiekbhneaaProg.lean LOADS. Nothing in Lean hashes anything: it is a label: what it is worth is what the hold of that sum in a sandbox is worth. -/
noncomputable def Try.pinned : Pinned := { name := "ytockmoiekbhneaa", sum := "ee74994741aa9d7af8675723f8c8853448b9ac8f939830cf3c1416b81b1b3c86", checked := Try.checked }
namespace Rows
def none {H : Type} : Left H := { results := [], args := [] }

/-- 'hindsightlaw14.PeriodPairs': WHATEVER THE INPUT: true; the input reads as it did. -/
def periodPairsSpec : ChangeSpec := { name := "periodPairs", fn := fun _ => fun
  | [d1, d2, d3] => { results := [.lit (.bool true)], args := [d1, d2, d3] }
  | _ => none }
def periodPairsRow : OpenClaim := { program := "ytockmoiekbhneaa", sum := "ee74994741aa9d7af8675723f8c8853448b9ac8f939830cf3c1416b81b1b3c86", func := "hindsight/hindsightlaw14.PeriodPairs", spec := "periodPairs", unfollowed := true, recurses := true, apart := false }
def PeriodPairsSaid : Prop := periodPairsRow.holds Try.pinned (OpenSpec.ofChange periodPairsSpec)

/-- ITS FALSE NEIGHBOUR: 'it returns false'. Refute it at one input. -/
def periodPairsWrong : ChangeSpec := { name := "periodPairs", fn := fun _ => fun
  | [d1, d2, d3] => { results := [.lit (.bool false)], args := [d1, d2, d3] }
  | _ => none }
def PeriodPairsWrongFalsely : Prop := periodPairsRow.holds Try.pinned (OpenSpec.ofChange periodPairsWrong)

/-- 'hindsightlaw14.PeriodLists': WHATEVER THE INPUT: true; the input reads as it did. -/
def periodListsSpec : ChangeSpec := { name := "periodLists", fn := fun _ => fun
  | [d1, d2] => { results := [.lit (.bool true)], args := [d1, d2] }
  | _ => none }
def periodListsRow : OpenClaim := { program := "ytockmoiekbhneaa", sum := "ee74994741aa9d7af8675723f8c8853448b9ac8f939830cf3c1416b81b1b3c86", func := "hindsight/hindsightlaw14.PeriodLists", spec := "periodLists", unfollowed := true, recurses := true, apart := false }
def PeriodListsSaid : Prop := periodListsRow.holds Try.pinned (OpenSpec.ofChange periodListsSpec)

/-- ITS FALSE NEIGHBOUR: 'it returns false'. Refute it at one input. -/
def periodListsWrong : ChangeSpec := { name := "periodLists", fn := fun _ => fun
  | [d1, d2] => { results := [.lit (.bool false)], args := [d1, d2] }
  | _ => none }
def PeriodListsWrongFalsely : Prop := periodListsRow.holds Try.pinned (OpenSpec.ofChange periodListsWrong)

/-- 'hindsightlaw14.PeriodPoints': WHATEVER THE INPUT: true; the input reads as it did. -/
def periodPointsSpec : ChangeSpec := { name := "periodPoints", fn := fun _ => fun
  | [d1, d2, d3, d4] => { results := [.lit (.bool true)], args := [d1, d2, d3, d4] }
  | _ => none }
def periodPointsRow : OpenClaim := { program := "ytockmoiekbhneaa", sum := "ee74994741aa9d7af8675723f8c8853448b9ac8f939830cf3c1416b81b1b3c86", func := "hindsight/hindsightlaw14.PeriodPoints", spec := "periodPoints", unfollowed := true, recurses := true, apart := false }
def PeriodPointsSaid : Prop := periodPointsRow.holds Try.pinned (OpenSpec.ofChange periodPointsSpec)

/-- ITS FALSE NEIGHBOUR: 'it returns false'. Refute it at one input. -/
def periodPointsWrong : ChangeSpec := { name := "periodPoints", fn := fun _ => fun
  | [d1, d2, d3, d4] => { results := [.lit (.bool false)], args := [d1, d2, d3, d4] }
  | _ => none }
def PeriodPointsWrongFalsely : Prop := periodPointsRow.holds Try.pinned (OpenSpec.ofChange periodPointsWrong)

/-- 'hindsightlaw14.PeriodUnions': WHATEVER THE INPUT: true; the input reads as it did. -/
def periodUnionsSpec : ChangeSpec := { name := "periodUnions", fn := fun _ => fun
  | [d1, d2, d3] => { results := [.lit (.bool true)], args := [d1, d2, d3] }
  | _ => none }
def periodUnionsRow : OpenClaim := { program := "ytockmoiekbhneaa", sum := "ee74994741aa9d7af8675723f8c8853448b9ac8f939830cf3c1416b81b1b3c86", func := "hindsight/hindsightlaw14.PeriodUnions", spec := "periodUnions", unfollowed := true, recurses := true, apart := false }
def PeriodUnionsSaid : Prop := periodUnionsRow.holds Try.pinned (OpenSpec.ofChange periodUnionsSpec)

/-- ITS FALSE NEIGHBOUR: 'it returns false'. Refute it at one input. -/
def periodUnionsWrong : ChangeSpec := { name := "periodUnions", fn := fun _ => fun
  | [d1, d2, d3] => { results := [.lit (.bool false)], args := [d1, d2, d3] }
  | _ => none }
def PeriodUnionsWrongFalsely : Prop := periodUnionsRow.holds Try.pinned (OpenSpec.ofChange periodUnionsWrong)

/- THE SECOND FORM. 'bulk': how many values and letters a reading holds, each counted each time it is reached (what is shared counts as often as it is met; a slice's spare places count too). A statement '..UptoSaid' is the law's where the arguments, and the package variables that the reading takes, are together of bulk at most 1048576: NARROWER than '..Said'. Prove '..Said' where nothing that the law and all that it calls make is longer than what came in: it says more and counts as full. Else prove '..UptoSaid'. A law counts once. -/
mutual
def uptoBulk {H : Type} : DataW H → Nat
  | .lit (.string bytes) => bytes.length + 1
  | .lit _ => 1
  | .nil => 1
  | .ptr d => uptoBulk d + 1
  | .slice elems spare => uptoBulkAll elems + uptoBulkAll spare + 1
  | .agg parts => uptoBulkAll parts + 1
  | .iface _ d => uptoBulk d + 1
  | .map entries => uptoBulkEntries entries + 1
  | .held _ => 1
def uptoBulkAll {H : Type} : List (DataW H) → Nat
  | [] => 0
  | d :: r => uptoBulk d + uptoBulkAll r
def uptoBulkEntries {H : Type} : List (Lit × DataW H) → Nat
  | [] => 0
  | x :: r => uptoBulkEntry x + uptoBulkEntries r
def uptoBulkEntry {H : Type} : Lit × DataW H → Nat
  | (.string bytes, d) => bytes.length + uptoBulk d + 1
  | (_, d) => uptoBulk d + 1
 end
def uptoSmall : (H : Type) → List (DataW H) → Bool := fun _ ds => decide (uptoBulkAll ds ≤ 1048576)
def OpenSpec.upto (s : _root_.Go.ChangeSpec) : _root_.Go.OpenSpec := { _root_.Go.OpenSpec.ofChange s with cond := some uptoSmall }

/-- 'hindsightlaw14.PeriodPairs', WHERE WHAT IT READS IS OF BULK AT MOST 1048576: true; the input reads as it did. -/
def periodPairsUptoRow : OpenClaim := { program := "ytockmoiekbhneaa", sum := "ee74994741aa9d7af8675723f8c8853448b9ac8f939830cf3c1416b81b1b3c86", func := "hindsight/hindsightlaw14.PeriodPairs", spec := "periodPairs", unfollowed := true, recurses := true, apart := false, narrowed := true }
def PeriodPairsUptoSaid : Prop := periodPairsUptoRow.holds Try.pinned (OpenSpec.upto periodPairsSpec)

/-- 'hindsightlaw14.PeriodLists', WHERE WHAT IT READS IS OF BULK AT MOST 1048576: true; the input reads as it did. -/
def periodListsUptoRow : OpenClaim := { program := "ytockmoiekbhneaa", sum := "ee74994741aa9d7af8675723f8c8853448b9ac8f939830cf3c1416b81b1b3c86", func := "hindsight/hindsightlaw14.PeriodLists", spec := "periodLists", unfollowed := true, recurses := true, apart := false, narrowed := true }
def PeriodListsUptoSaid : Prop := periodListsUptoRow.holds Try.pinned (OpenSpec.upto periodListsSpec)

/-- 'hindsightlaw14.PeriodPoints', WHERE WHAT IT READS IS OF BULK AT MOST 1048576: true; the input reads as it did. -/
def periodPointsUptoRow : OpenClaim := { program := "ytockmoiekbhneaa", sum := "ee74994741aa9d7af8675723f8c8853448b9ac8f939830cf3c1416b81b1b3c86", func := "hindsight/hindsightlaw14.PeriodPoints", spec := "periodPoints", unfollowed := true, recurses := true, apart := false, narrowed := true }
def PeriodPointsUptoSaid : Prop := periodPointsUptoRow.holds Try.pinned (OpenSpec.upto periodPointsSpec)

/-- 'hindsightlaw14.PeriodUnions', WHERE WHAT IT READS IS OF BULK AT MOST 1048576: true; the input reads as it did. -/
def periodUnionsUptoRow : OpenClaim := { program := "ytockmoiekbhneaa", sum := "ee74994741aa9d7af8675723f8c8853448b9ac8f939830cf3c1416b81b1b3c86", func := "hindsight/hindsightlaw14.PeriodUnions", spec := "periodUnions", unfollowed := true, recurses := true, apart := false, narrowed := true }
def PeriodUnionsUptoSaid : Prop := periodUnionsUptoRow.holds Try.pinned (OpenSpec.upto periodUnionsSpec)

end Rows
end Go.Proofs.Ytockmoiekbhneaa
