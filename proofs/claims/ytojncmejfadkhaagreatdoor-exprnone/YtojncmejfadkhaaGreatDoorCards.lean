/-
  DERIVED. GIVEN WITH THE SEED: THE CARDS: each row of YtojncmejfadkhaaGreatDoorRows.lean that lists a variable, with what it lists TIED to the program's text (the seventh form; the later family's looks); each row that meets fmt, with fmt's text TOLD by the authors' own Lean function (tested against real Go, not proved from fmt's source: count such statements apart). THE CARD IS WHAT COUNTS. Prove the row's statement (the work); the ties are given (YtojncmejfadkhaaGreatDoorTie.lean); close each card by the builder's one call (the guide's Derived/Test/ToyasCard.lean, 'card_holds'). Laid BY PROGRAM, IN A SANDBOX (cutbox-door.mjs). By AI agents, Wed Nov 11 2026. No macro, syntax, notation, axiom, sorry.
-/
import Derived.Test.YtojncmejfadkhaaGreatDoorRows
import GoSem.ClaimSeven
namespace Go.Proofs.YtojncmejfadkhaaGreatDoor
namespace Rows

/-- THE TIED CARD OF 'tinsellaw18.ExprNone'. -/
def exprNoneCard : Claim7 := { stood := { row := exprNoneRow, standIns := [], harness := (true, "5d60d193fc242f5a0e3dbb60160c7985ed4b65f90892760b4b0a8bd811ccdbf3"), looks := true }, kinds := [], alts := [], laidByText := true, laidKinds := [.data, .data, .data], laidTests := true, laidLooks := .later }
def ExprNoneCardSaid : Prop := Claim7.holds Tryz.pinned (.plain (OpenSpec.ofChange exprNoneSpec)) exprNoneCard

/-- THE SECOND FORM's CARD OF 'tinsellaw18.ExprNone'. -/
def exprNoneUptoCard : Claim7 := { stood := { row := exprNoneUptoRow, standIns := [], harness := (true, "5d60d193fc242f5a0e3dbb60160c7985ed4b65f90892760b4b0a8bd811ccdbf3"), looks := true }, kinds := [], alts := [], laidByText := true, laidKinds := [.data, .data, .data], laidTests := true, laidLooks := .later }
def ExprNoneUptoCardSaid : Prop := Claim7.holds Tryz.pinned (.plain (OpenSpec.upto exprNoneSpec)) exprNoneUptoCard
end Rows
end Go.Proofs.YtojncmejfadkhaaGreatDoor
