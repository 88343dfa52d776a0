/-
  DERIVED. GIVEN WITH THE SEED: THE CARDS: each row of YtceniocofdgebaaGreatDoorRows.lean that lists a variable, with what it lists TIED to the program's text (the seventh form; the later family's looks); each row that meets fmt, with fmt's text TOLD by the authors' own Lean function (tested against real Go, not proved from fmt's source: count such statements apart). THE CARD IS WHAT COUNTS. Prove the row's statement (the work); the ties are given (YtceniocofdgebaaGreatDoorTie.lean); close each card by the builder's one call (the guide's Derived/Test/ToyasCard.lean, 'card_holds'). Laid BY PROGRAM, IN A SANDBOX (cutbox-door.mjs). By AI agents, Wed Nov 11 2026. No macro, syntax, notation, axiom, sorry.
-/
import Derived.Test.YtceniocofdgebaaGreatDoorRows
import GoSem.ClaimSeven
namespace Go.Proofs.YtceniocofdgebaaGreatDoor
namespace Rows

/-- THE TIED CARD OF 'tinsellaw19.SedNone'. -/
def sedNoneCard : Claim7 := { stood := { row := sedNoneRow, standIns := [], harness := (true, "3a47b6aa84441a7ae65857a68ce076d4347416958a79d8d0b3e667b40a47bece"), looks := true }, kinds := [], alts := [], laidByText := true, laidKinds := [.data, .data, .data, .data, .pinned], laidTests := true, laidLooks := .later }
def SedNoneCardSaid : Prop := Claim7.holds Tryz.pinned (.plain (OpenSpec.ofChange sedNoneSpec)) sedNoneCard

/-- THE SECOND FORM's CARD OF 'tinsellaw19.SedNone'. -/
def sedNoneUptoCard : Claim7 := { stood := { row := sedNoneUptoRow, standIns := [], harness := (true, "3a47b6aa84441a7ae65857a68ce076d4347416958a79d8d0b3e667b40a47bece"), looks := true }, kinds := [], alts := [], laidByText := true, laidKinds := [.data, .data, .data, .data, .pinned], laidTests := true, laidLooks := .later }
def SedNoneUptoCardSaid : Prop := Claim7.holds Tryz.pinned (.plain (OpenSpec.upto sedNoneSpec)) sedNoneUptoCard
end Rows
end Go.Proofs.YtceniocofdgebaaGreatDoor
