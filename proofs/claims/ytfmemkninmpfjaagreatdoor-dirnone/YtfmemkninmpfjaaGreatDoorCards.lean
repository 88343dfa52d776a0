/-
  DERIVED. GIVEN WITH THE SEED: THE CARDS: each row of YtfmemkninmpfjaaGreatDoorRows.lean that lists a variable, with what it lists TIED to the program's text (the seventh form; the later family's looks); each row that meets fmt, with fmt's text TOLD by the authors' own Lean function (tested against real Go, not proved from fmt's source: count such statements apart). THE CARD IS WHAT COUNTS. Prove the row's statement (the work); the ties are given (YtfmemkninmpfjaaGreatDoorTie.lean); close each card by the builder's one call (the guide's Derived/Test/ToyasCard.lean, 'card_holds'). Laid BY PROGRAM, IN A SANDBOX (cutbox-door.mjs). By AI agents, Wed Nov 11 2026. No macro, syntax, notation, axiom, sorry.
-/
import Derived.Test.YtfmemkninmpfjaaGreatDoorRows
import GoSem.ClaimSeven
namespace Go.Proofs.YtfmemkninmpfjaaGreatDoor
namespace Rows

/-- THE TIED CARD OF 'tinsellaw04.DirNames'. -/
def dirNamesCard : Claim7 := { stood := { row := dirNamesRow, standIns := [], harness := (true, "5c2dabfd15099ff51ad8955a5a198bc6b8ba7726976e1c73f673fce868c7db3c"), looks := false }, kinds := [], alts := [], laidByText := true, laidKinds := [.data], laidTests := true, laidLooks := .later }
def DirNamesCardSaid : Prop := Claim7.holds Tryz.pinned (.plain (OpenSpec.ofChange dirNamesSpec)) dirNamesCard

/-- THE TIED CARD OF 'tinsellaw04.DirRuns'. -/
def dirRunsCard : Claim7 := { stood := { row := dirRunsRow, standIns := [], harness := (true, "5c2dabfd15099ff51ad8955a5a198bc6b8ba7726976e1c73f673fce868c7db3c"), looks := false }, kinds := [], alts := [], laidByText := true, laidKinds := [.data], laidTests := true, laidLooks := .later }
def DirRunsCardSaid : Prop := Claim7.holds Tryz.pinned (.plain (OpenSpec.ofChange dirRunsSpec)) dirRunsCard

/-- THE TIED CARD OF 'tinsellaw04.DirWalks'. -/
def dirWalksCard : Claim7 := { stood := { row := dirWalksRow, standIns := [], harness := (true, "5c2dabfd15099ff51ad8955a5a198bc6b8ba7726976e1c73f673fce868c7db3c"), looks := false }, kinds := [], alts := [], laidByText := true, laidKinds := [.data], laidTests := true, laidLooks := .later }
def DirWalksCardSaid : Prop := Claim7.holds Tryz.pinned (.plain (OpenSpec.ofChange dirWalksSpec)) dirWalksCard

/-- THE TIED CARD OF 'tinsellaw04.DirNone'. -/
def dirNoneCard : Claim7 := { stood := { row := dirNoneRow, standIns := [], harness := (true, "5c2dabfd15099ff51ad8955a5a198bc6b8ba7726976e1c73f673fce868c7db3c"), looks := false }, kinds := [], alts := [], laidByText := true, laidKinds := [.data], laidTests := true, laidLooks := .later }
def DirNoneCardSaid : Prop := Claim7.holds Tryz.pinned (.plain (OpenSpec.ofChange dirNoneSpec)) dirNoneCard

/-- THE TIED CARD OF 'tinsellaw04.DirFinds'. -/
def dirFindsCard : Claim7 := { stood := { row := dirFindsRow, standIns := [], harness := (true, "5c2dabfd15099ff51ad8955a5a198bc6b8ba7726976e1c73f673fce868c7db3c"), looks := false }, kinds := [], alts := [], laidByText := true, laidKinds := [.data], laidTests := true, laidLooks := .later }
def DirFindsCardSaid : Prop := Claim7.holds Tryz.pinned (.plain (OpenSpec.ofChange dirFindsSpec)) dirFindsCard

/-- THE TIED CARD OF 'tinsellaw04.DirFull'. -/
def dirFullCard : Claim7 := { stood := { row := dirFullRow, standIns := [], harness := (true, "5c2dabfd15099ff51ad8955a5a198bc6b8ba7726976e1c73f673fce868c7db3c"), looks := false }, kinds := [], alts := [], laidByText := true, laidKinds := [.data], laidTests := true, laidLooks := .later }
def DirFullCardSaid : Prop := Claim7.holds Tryz.pinned (.plain (OpenSpec.ofChange dirFullSpec)) dirFullCard

/-- THE SECOND FORM's CARD OF 'tinsellaw04.DirNames'. -/
def dirNamesUptoCard : Claim7 := { stood := { row := dirNamesUptoRow, standIns := [], harness := (true, "5c2dabfd15099ff51ad8955a5a198bc6b8ba7726976e1c73f673fce868c7db3c"), looks := false }, kinds := [], alts := [], laidByText := true, laidKinds := [.data], laidTests := true, laidLooks := .later }
def DirNamesUptoCardSaid : Prop := Claim7.holds Tryz.pinned (.plain (OpenSpec.upto dirNamesSpec)) dirNamesUptoCard

/-- THE SECOND FORM's CARD OF 'tinsellaw04.DirRuns'. -/
def dirRunsUptoCard : Claim7 := { stood := { row := dirRunsUptoRow, standIns := [], harness := (true, "5c2dabfd15099ff51ad8955a5a198bc6b8ba7726976e1c73f673fce868c7db3c"), looks := false }, kinds := [], alts := [], laidByText := true, laidKinds := [.data], laidTests := true, laidLooks := .later }
def DirRunsUptoCardSaid : Prop := Claim7.holds Tryz.pinned (.plain (OpenSpec.upto dirRunsSpec)) dirRunsUptoCard

/-- THE SECOND FORM's CARD OF 'tinsellaw04.DirWalks'. -/
def dirWalksUptoCard : Claim7 := { stood := { row := dirWalksUptoRow, standIns := [], harness := (true, "5c2dabfd15099ff51ad8955a5a198bc6b8ba7726976e1c73f673fce868c7db3c"), looks := false }, kinds := [], alts := [], laidByText := true, laidKinds := [.data], laidTests := true, laidLooks := .later }
def DirWalksUptoCardSaid : Prop := Claim7.holds Tryz.pinned (.plain (OpenSpec.upto dirWalksSpec)) dirWalksUptoCard

/-- THE SECOND FORM's CARD OF 'tinsellaw04.DirNone'. -/
def dirNoneUptoCard : Claim7 := { stood := { row := dirNoneUptoRow, standIns := [], harness := (true, "5c2dabfd15099ff51ad8955a5a198bc6b8ba7726976e1c73f673fce868c7db3c"), looks := false }, kinds := [], alts := [], laidByText := true, laidKinds := [.data], laidTests := true, laidLooks := .later }
def DirNoneUptoCardSaid : Prop := Claim7.holds Tryz.pinned (.plain (OpenSpec.upto dirNoneSpec)) dirNoneUptoCard

/-- THE SECOND FORM's CARD OF 'tinsellaw04.DirFinds'. -/
def dirFindsUptoCard : Claim7 := { stood := { row := dirFindsUptoRow, standIns := [], harness := (true, "5c2dabfd15099ff51ad8955a5a198bc6b8ba7726976e1c73f673fce868c7db3c"), looks := false }, kinds := [], alts := [], laidByText := true, laidKinds := [.data], laidTests := true, laidLooks := .later }
def DirFindsUptoCardSaid : Prop := Claim7.holds Tryz.pinned (.plain (OpenSpec.upto dirFindsSpec)) dirFindsUptoCard

/-- THE SECOND FORM's CARD OF 'tinsellaw04.DirFull'. -/
def dirFullUptoCard : Claim7 := { stood := { row := dirFullUptoRow, standIns := [], harness := (true, "5c2dabfd15099ff51ad8955a5a198bc6b8ba7726976e1c73f673fce868c7db3c"), looks := false }, kinds := [], alts := [], laidByText := true, laidKinds := [.data], laidTests := true, laidLooks := .later }
def DirFullUptoCardSaid : Prop := Claim7.holds Tryz.pinned (.plain (OpenSpec.upto dirFullSpec)) dirFullUptoCard
end Rows
end Go.Proofs.YtfmemkninmpfjaaGreatDoor
