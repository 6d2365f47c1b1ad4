/-
  DERIVED. GIVEN WITH THE SEED: THE CARDS: each row of YtfbknfdbfnklmabDoorRows.lean that lists a variable, with what it lists TIED to the program's text (the seventh form; the later family's looks); each row that meets fmt, with fmt's text TOLD by the authors' own Lean function (tested against real Go, not proved from fmt's source: count such statements apart). THE CARD IS WHAT COUNTS. Prove the row's statement (the work); the ties are given (YtfbknfdbfnklmabDoorTie.lean); close each card by the builder's one call (the guide's Derived/Test/ToyasCard.lean, 'card_holds'). Laid BY PROGRAM, IN A SANDBOX (cutbox-door.mjs). By AI agents, Wed Nov 11 2026. No macro, syntax, notation, axiom, sorry.
-/
import Derived.Test.YtfbknfdbfnklmabDoorRows
import GoSem.ClaimSeven
namespace Go.Proofs.YtfbknfdbfnklmabDoor
namespace Rows

/-- THE TIED CARD OF 'hindsightlaw06.LikeMatches'. -/
def likeMatchesCard : Claim7 := { stood := { row := likeMatchesRow, standIns := [], harness := (true, "3b89845847496186af6d757e1d891e8ea7e07259291d1c78210cf30f017b6d67"), looks := false }, kinds := [], alts := [], laidByText := true, laidKinds := [.data, .pinned], laidTests := true, laidLooks := .later }
def LikeMatchesCardSaid : Prop := Claim7.holds Tryd.pinned (.plain (OpenSpec.ofChange likeMatchesSpec)) likeMatchesCard

/-- THE TIED CARD OF 'hindsightlaw06.LikeFronts'. -/
def likeFrontsCard : Claim7 := { stood := { row := likeFrontsRow, standIns := [], harness := (true, "3b89845847496186af6d757e1d891e8ea7e07259291d1c78210cf30f017b6d67"), looks := false }, kinds := [], alts := [], laidByText := true, laidKinds := [.data, .pinned], laidTests := true, laidLooks := .later }
def LikeFrontsCardSaid : Prop := Claim7.holds Tryd.pinned (.plain (OpenSpec.ofChange likeFrontsSpec)) likeFrontsCard

/-- THE TIED CARD OF 'hindsightlaw06.LikeSelf'. -/
def likeSelfCard : Claim7 := { stood := { row := likeSelfRow, standIns := [], harness := (true, "3b89845847496186af6d757e1d891e8ea7e07259291d1c78210cf30f017b6d67"), looks := false }, kinds := [], alts := [], laidByText := true, laidKinds := [.data, .pinned], laidTests := true, laidLooks := .later }
def LikeSelfCardSaid : Prop := Claim7.holds Tryd.pinned (.plain (OpenSpec.ofChange likeSelfSpec)) likeSelfCard

/-- THE TIED CARD OF 'hindsightlaw06.LikeBegins'. -/
def likeBeginsCard : Claim7 := { stood := { row := likeBeginsRow, standIns := [], harness := (true, "3b89845847496186af6d757e1d891e8ea7e07259291d1c78210cf30f017b6d67"), looks := false }, kinds := [], alts := [], laidByText := true, laidKinds := [.data, .pinned], laidTests := true, laidLooks := .later }
def LikeBeginsCardSaid : Prop := Claim7.holds Tryd.pinned (.plain (OpenSpec.ofChange likeBeginsSpec)) likeBeginsCard

/-- THE TIED CARD OF 'hindsightlaw06.LikeJoins'. -/
def likeJoinsCard : Claim7 := { stood := { row := likeJoinsRow, standIns := [], harness := (true, "3b89845847496186af6d757e1d891e8ea7e07259291d1c78210cf30f017b6d67"), looks := false }, kinds := [], alts := [], laidByText := true, laidKinds := [.data, .pinned], laidTests := true, laidLooks := .later }
def LikeJoinsCardSaid : Prop := Claim7.holds Tryd.pinned (.plain (OpenSpec.ofChange likeJoinsSpec)) likeJoinsCard

/-- THE SECOND FORM's CARD OF 'hindsightlaw06.LikeMatches'. -/
def likeMatchesUptoCard : Claim7 := { stood := { row := likeMatchesUptoRow, standIns := [], harness := (true, "3b89845847496186af6d757e1d891e8ea7e07259291d1c78210cf30f017b6d67"), looks := false }, kinds := [], alts := [], laidByText := true, laidKinds := [.data, .pinned], laidTests := true, laidLooks := .later }
def LikeMatchesUptoCardSaid : Prop := Claim7.holds Tryd.pinned (.plain (OpenSpec.upto likeMatchesSpec)) likeMatchesUptoCard

/-- THE SECOND FORM's CARD OF 'hindsightlaw06.LikeFronts'. -/
def likeFrontsUptoCard : Claim7 := { stood := { row := likeFrontsUptoRow, standIns := [], harness := (true, "3b89845847496186af6d757e1d891e8ea7e07259291d1c78210cf30f017b6d67"), looks := false }, kinds := [], alts := [], laidByText := true, laidKinds := [.data, .pinned], laidTests := true, laidLooks := .later }
def LikeFrontsUptoCardSaid : Prop := Claim7.holds Tryd.pinned (.plain (OpenSpec.upto likeFrontsSpec)) likeFrontsUptoCard

/-- THE SECOND FORM's CARD OF 'hindsightlaw06.LikeSelf'. -/
def likeSelfUptoCard : Claim7 := { stood := { row := likeSelfUptoRow, standIns := [], harness := (true, "3b89845847496186af6d757e1d891e8ea7e07259291d1c78210cf30f017b6d67"), looks := false }, kinds := [], alts := [], laidByText := true, laidKinds := [.data, .pinned], laidTests := true, laidLooks := .later }
def LikeSelfUptoCardSaid : Prop := Claim7.holds Tryd.pinned (.plain (OpenSpec.upto likeSelfSpec)) likeSelfUptoCard

/-- THE SECOND FORM's CARD OF 'hindsightlaw06.LikeBegins'. -/
def likeBeginsUptoCard : Claim7 := { stood := { row := likeBeginsUptoRow, standIns := [], harness := (true, "3b89845847496186af6d757e1d891e8ea7e07259291d1c78210cf30f017b6d67"), looks := false }, kinds := [], alts := [], laidByText := true, laidKinds := [.data, .pinned], laidTests := true, laidLooks := .later }
def LikeBeginsUptoCardSaid : Prop := Claim7.holds Tryd.pinned (.plain (OpenSpec.upto likeBeginsSpec)) likeBeginsUptoCard

/-- THE SECOND FORM's CARD OF 'hindsightlaw06.LikeJoins'. -/
def likeJoinsUptoCard : Claim7 := { stood := { row := likeJoinsUptoRow, standIns := [], harness := (true, "3b89845847496186af6d757e1d891e8ea7e07259291d1c78210cf30f017b6d67"), looks := false }, kinds := [], alts := [], laidByText := true, laidKinds := [.data, .pinned], laidTests := true, laidLooks := .later }
def LikeJoinsUptoCardSaid : Prop := Claim7.holds Tryd.pinned (.plain (OpenSpec.upto likeJoinsSpec)) likeJoinsUptoCard
end Rows
end Go.Proofs.YtfbknfdbfnklmabDoor
