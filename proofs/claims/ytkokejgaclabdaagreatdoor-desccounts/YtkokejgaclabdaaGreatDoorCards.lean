/-
  DERIVED. GIVEN WITH THE SEED: THE CARDS: each row of YtkokejgaclabdaaGreatDoorRows.lean that lists a variable, with what it lists TIED to the program's text (the seventh form; the later family's looks); each row that meets fmt, with fmt's text TOLD by the authors' own Lean function (tested against real Go, not proved from fmt's source: count such statements apart). THE CARD IS WHAT COUNTS. Prove the row's statement (the work); the ties are given (YtkokejgaclabdaaGreatDoorTie.lean); close each card by the builder's one call (the guide's Derived/Test/ToyasCard.lean, 'card_holds'). Laid BY PROGRAM, IN A SANDBOX (cutbox-door.mjs). By AI agents, Wed Nov 11 2026. No macro, syntax, notation, axiom, sorry.
-/
import Derived.Test.YtkokejgaclabdaaGreatDoorRows
import GoSem.ClaimSeven
namespace Go.Proofs.YtkokejgaclabdaaGreatDoor
namespace Rows

/-- THE TIED CARD OF 'tinsellaw07.DescCounts'. -/
def descCountsCard : Claim7 := { stood := { row := descCountsRow, standIns := [], harness := (true, "8fc0b9c0ac5515f1e0ca3d790baf3fec35f4a439da2e0b9d62aacc6b7b1b01f5"), looks := true }, kinds := [], alts := [], laidByText := true, laidKinds := [.data], laidTests := true, laidLooks := .later }
def DescCountsCardSaid : Prop := Claim7.holds Tryz.pinned (.plain (OpenSpec.ofChange descCountsSpec)) descCountsCard

/-- THE SECOND FORM's CARD OF 'tinsellaw07.DescCounts'. -/
def descCountsUptoCard : Claim7 := { stood := { row := descCountsUptoRow, standIns := [], harness := (true, "8fc0b9c0ac5515f1e0ca3d790baf3fec35f4a439da2e0b9d62aacc6b7b1b01f5"), looks := true }, kinds := [], alts := [], laidByText := true, laidKinds := [.data], laidTests := true, laidLooks := .later }
def DescCountsUptoCardSaid : Prop := Claim7.holds Tryz.pinned (.plain (OpenSpec.upto descCountsSpec)) descCountsUptoCard
end Rows
end Go.Proofs.YtkokejgaclabdaaGreatDoor
