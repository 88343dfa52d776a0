/-
  DERIVED. GIVEN WITH THE SEED: THE CARDS: each row of YtpcbpikhiooafaaGreatDoorRows.lean that lists a variable, with what it lists TIED to the program's text (the seventh form; the later family's looks); each row that meets fmt, with fmt's text TOLD by the authors' own Lean function (tested against real Go, not proved from fmt's source: count such statements apart). THE CARD IS WHAT COUNTS. Prove the row's statement (the work); the ties are given (YtpcbpikhiooafaaGreatDoorTie.lean); close each card by the builder's one call (the guide's Derived/Test/ToyasCard.lean, 'card_holds'). Laid BY PROGRAM, IN A SANDBOX (cutbox-door.mjs). By AI agents, Wed Nov 11 2026. No macro, syntax, notation, axiom, sorry.
-/
import Derived.Test.YtpcbpikhiooafaaGreatDoorRows
import GoSem.ClaimSeven
namespace Go.Proofs.YtpcbpikhiooafaaGreatDoor
namespace Rows

/-- THE TIED CARD OF 'tinsellaw07.DescPlaces'. -/
def descPlacesCard : Claim7 := { stood := { row := descPlacesRow, standIns := [], harness := (true, "b86da7fb315e8ba8083a2ac887701ac5d9c445a8641938dc3b7107931847035b"), looks := true }, kinds := [], alts := [], laidByText := true, laidKinds := [.data], laidTests := true, laidLooks := .later }
def DescPlacesCardSaid : Prop := Claim7.holds Tryz.pinned (.plain (OpenSpec.ofChange descPlacesSpec)) descPlacesCard

/-- THE SECOND FORM's CARD OF 'tinsellaw07.DescPlaces'. -/
def descPlacesUptoCard : Claim7 := { stood := { row := descPlacesUptoRow, standIns := [], harness := (true, "b86da7fb315e8ba8083a2ac887701ac5d9c445a8641938dc3b7107931847035b"), looks := true }, kinds := [], alts := [], laidByText := true, laidKinds := [.data], laidTests := true, laidLooks := .later }
def DescPlacesUptoCardSaid : Prop := Claim7.holds Tryz.pinned (.plain (OpenSpec.upto descPlacesSpec)) descPlacesUptoCard
end Rows
end Go.Proofs.YtpcbpikhiooafaaGreatDoor
