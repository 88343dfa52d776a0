/-
  DERIVED. GIVEN WITH THE SEED: THE CARDS: each row of YtdldpehmcfbbeaaGreatDoorRows.lean that lists a variable, with what it lists TIED to the program's text (the seventh form; the later family's looks); each row that meets fmt, with fmt's text TOLD by the authors' own Lean function (tested against real Go, not proved from fmt's source: count such statements apart). THE CARD IS WHAT COUNTS. Prove the row's statement (the work); the ties are given (YtdldpehmcfbbeaaGreatDoorTie.lean); close each card by the builder's one call (the guide's Derived/Test/ToyasCard.lean, 'card_holds'). Laid BY PROGRAM, IN A SANDBOX (cutbox-door.mjs). By AI agents, Wed Nov 11 2026. No macro, syntax, notation, axiom, sorry.
-/
import Derived.Test.YtdldpehmcfbbeaaGreatDoorRows
import GoSem.ClaimSeven
namespace Go.Proofs.YtdldpehmcfbbeaaGreatDoor
namespace Rows

/-- THE TIED CARD OF 'tinsellaw10.BufNone'. -/
def bufNoneCard : Claim7 := { stood := { row := bufNoneRow, standIns := [], harness := (true, "4c146112f64c0e8418c04b5fcc794da4b34a364f13ab405afa4740216bc83488"), looks := true }, kinds := [], alts := [], laidByText := true, laidKinds := [.data, .listed, .data], laidTests := true, laidLooks := .later }
def BufNoneCardSaid : Prop := Claim7.holds Tryz.pinned (.plain (OpenSpec.ofChange bufNoneSpec)) bufNoneCard

/-- THE SECOND FORM's CARD OF 'tinsellaw10.BufNone'. -/
def bufNoneUptoCard : Claim7 := { stood := { row := bufNoneUptoRow, standIns := [], harness := (true, "4c146112f64c0e8418c04b5fcc794da4b34a364f13ab405afa4740216bc83488"), looks := true }, kinds := [], alts := [], laidByText := true, laidKinds := [.data, .listed, .data], laidTests := true, laidLooks := .later }
def BufNoneUptoCardSaid : Prop := Claim7.holds Tryz.pinned (.plain (OpenSpec.upto bufNoneSpec)) bufNoneUptoCard
end Rows
end Go.Proofs.YtdldpehmcfbbeaaGreatDoor
