/-
  DERIVED. GIVEN WITH THE SEED: THE CARDS: each row of YtncnmeidciailabDoorRows.lean that lists a variable, with what it lists TIED to the program's text (the seventh form; the later family's looks); each row that meets fmt, with fmt's text TOLD by the authors' own Lean function (tested against real Go, not proved from fmt's source: count such statements apart). THE CARD IS WHAT COUNTS. Prove the row's statement (the work); the ties are given (YtncnmeidciailabDoorTie.lean); close each card by the builder's one call (the guide's Derived/Test/ToyasCard.lean, 'card_holds'). Laid BY PROGRAM, IN A SANDBOX (cutbox-door.mjs). By AI agents, Wed Nov 11 2026. No macro, syntax, notation, axiom, sorry.
-/
import Derived.Test.YtncnmeidciailabDoorRows
import GoSem.ClaimSeven
namespace Go.Proofs.YtncnmeidciailabDoor
namespace Rows

/-- THE TIED CARD OF 'tinsellaw12.GlobStars'. -/
def globStarsCard : Claim7 := { stood := { row := globStarsRow, standIns := [], harness := (true, "13eb3f99c358303127c4183704f304b689ec5ad83858b3cba90be54cb7bbc7c4"), looks := false }, kinds := [], alts := [], laidByText := true, laidKinds := [.data], laidTests := true, laidLooks := .later }
def GlobStarsCardSaid : Prop := Claim7.holds Tryd.pinned (.plain (OpenSpec.ofChange globStarsSpec)) globStarsCard

/-- THE TIED CARD OF 'tinsellaw12.GlobTurns'. -/
def globTurnsCard : Claim7 := { stood := { row := globTurnsRow, standIns := [], harness := (true, "13eb3f99c358303127c4183704f304b689ec5ad83858b3cba90be54cb7bbc7c4"), looks := false }, kinds := [], alts := [], laidByText := true, laidKinds := [.data], laidTests := true, laidLooks := .later }
def GlobTurnsCardSaid : Prop := Claim7.holds Tryd.pinned (.plain (OpenSpec.ofChange globTurnsSpec)) globTurnsCard

/-- THE SECOND FORM's CARD OF 'tinsellaw12.GlobStars'. -/
def globStarsUptoCard : Claim7 := { stood := { row := globStarsUptoRow, standIns := [], harness := (true, "13eb3f99c358303127c4183704f304b689ec5ad83858b3cba90be54cb7bbc7c4"), looks := false }, kinds := [], alts := [], laidByText := true, laidKinds := [.data], laidTests := true, laidLooks := .later }
def GlobStarsUptoCardSaid : Prop := Claim7.holds Tryd.pinned (.plain (OpenSpec.upto globStarsSpec)) globStarsUptoCard

/-- THE SECOND FORM's CARD OF 'tinsellaw12.GlobTurns'. -/
def globTurnsUptoCard : Claim7 := { stood := { row := globTurnsUptoRow, standIns := [], harness := (true, "13eb3f99c358303127c4183704f304b689ec5ad83858b3cba90be54cb7bbc7c4"), looks := false }, kinds := [], alts := [], laidByText := true, laidKinds := [.data], laidTests := true, laidLooks := .later }
def GlobTurnsUptoCardSaid : Prop := Claim7.holds Tryd.pinned (.plain (OpenSpec.upto globTurnsSpec)) globTurnsUptoCard
end Rows
end Go.Proofs.YtncnmeidciailabDoor
