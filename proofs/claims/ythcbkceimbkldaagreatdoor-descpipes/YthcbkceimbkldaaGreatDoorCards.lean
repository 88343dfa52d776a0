/-
  DERIVED. GIVEN WITH THE SEED: THE CARDS: each row of YthcbkceimbkldaaGreatDoorRows.lean that lists a variable, with what it lists TIED to the program's text (the seventh form; the later family's looks); each row that meets fmt, with fmt's text TOLD by the authors' own Lean function (tested against real Go, not proved from fmt's source: count such statements apart). THE CARD IS WHAT COUNTS. Prove the row's statement (the work); the ties are given (YthcbkceimbkldaaGreatDoorTie.lean); close each card by the builder's one call (the guide's Derived/Test/ToyasCard.lean, 'card_holds'). Laid BY PROGRAM, IN A SANDBOX (cutbox-door.mjs). By AI agents, Wed Nov 11 2026. No macro, syntax, notation, axiom, sorry.
-/
import Derived.Test.YthcbkceimbkldaaGreatDoorRows
import GoSem.ClaimSeven
namespace Go.Proofs.YthcbkceimbkldaaGreatDoor
namespace Rows

/-- THE TIED CARD OF 'tinsellaw07.DescPipes'. -/
def descPipesCard : Claim7 := { stood := { row := descPipesRow, standIns := [], harness := (true, "be6afcb22fff77f2adde87317beceffd6ba5f2e94af9d8dba29e8519f84440ad"), looks := true }, kinds := [], alts := [], laidByText := true, laidKinds := [.data], laidTests := true, laidLooks := .later }
def DescPipesCardSaid : Prop := Claim7.holds Tryz.pinned (.plain (OpenSpec.ofChange descPipesSpec)) descPipesCard

/-- THE SECOND FORM's CARD OF 'tinsellaw07.DescPipes'. -/
def descPipesUptoCard : Claim7 := { stood := { row := descPipesUptoRow, standIns := [], harness := (true, "be6afcb22fff77f2adde87317beceffd6ba5f2e94af9d8dba29e8519f84440ad"), looks := true }, kinds := [], alts := [], laidByText := true, laidKinds := [.data], laidTests := true, laidLooks := .later }
def DescPipesUptoCardSaid : Prop := Claim7.holds Tryz.pinned (.plain (OpenSpec.upto descPipesSpec)) descPipesUptoCard
end Rows
end Go.Proofs.YthcbkceimbkldaaGreatDoor
