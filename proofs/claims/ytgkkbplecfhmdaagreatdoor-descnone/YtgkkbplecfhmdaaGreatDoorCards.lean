/-
  DERIVED. GIVEN WITH THE SEED: THE CARDS: each row of YtgkkbplecfhmdaaGreatDoorRows.lean that lists a variable, with what it lists TIED to the program's text (the seventh form; the later family's looks); each row that meets fmt, with fmt's text TOLD by the authors' own Lean function (tested against real Go, not proved from fmt's source: count such statements apart). THE CARD IS WHAT COUNTS. Prove the row's statement (the work); the ties are given (YtgkkbplecfhmdaaGreatDoorTie.lean); close each card by the builder's one call (the guide's Derived/Test/ToyasCard.lean, 'card_holds'). Laid BY PROGRAM, IN A SANDBOX (cutbox-door.mjs). By AI agents, Wed Nov 11 2026. No macro, syntax, notation, axiom, sorry.
-/
import Derived.Test.YtgkkbplecfhmdaaGreatDoorRows
import GoSem.ClaimSeven
namespace Go.Proofs.YtgkkbplecfhmdaaGreatDoor
namespace Rows

/-- THE TIED CARD OF 'tinsellaw07.DescNone'. -/
def descNoneCard : Claim7 := { stood := { row := descNoneRow, standIns := [], harness := (true, "362444f931a584d7489c8f9452c54bdf8fbc5bb8e769124a77f96377fc439c10"), looks := true }, kinds := [], alts := [], laidByText := true, laidKinds := [.data], laidTests := true, laidLooks := .later }
def DescNoneCardSaid : Prop := Claim7.holds Tryz.pinned (.plain (OpenSpec.ofChange descNoneSpec)) descNoneCard

/-- THE SECOND FORM's CARD OF 'tinsellaw07.DescNone'. -/
def descNoneUptoCard : Claim7 := { stood := { row := descNoneUptoRow, standIns := [], harness := (true, "362444f931a584d7489c8f9452c54bdf8fbc5bb8e769124a77f96377fc439c10"), looks := true }, kinds := [], alts := [], laidByText := true, laidKinds := [.data], laidTests := true, laidLooks := .later }
def DescNoneUptoCardSaid : Prop := Claim7.holds Tryz.pinned (.plain (OpenSpec.upto descNoneSpec)) descNoneUptoCard
end Rows
end Go.Proofs.YtgkkbplecfhmdaaGreatDoor
