/-
  DERIVED. GIVEN WITH THE SEED: THE CARDS: each row of YtipdpifpblaldaaDoorRows.lean that lists a variable, with what it lists TIED to the program's text (the seventh form; the later family's looks); each row that meets fmt, with fmt's text TOLD by the authors' own Lean function (tested against real Go, not proved from fmt's source: count such statements apart). THE CARD IS WHAT COUNTS. Prove the row's statement (the work); the ties are given (YtipdpifpblaldaaDoorTie.lean); close each card by the builder's one call (the guide's Derived/Test/ToyasCard.lean, 'card_holds'). Laid BY PROGRAM, IN A SANDBOX (cutbox-door.mjs). By AI agents, Wed Nov 11 2026. No macro, syntax, notation, axiom, sorry.
-/
import Derived.Test.YtipdpifpblaldaaDoorRows
import GoSem.ClaimSeven
namespace Go.Proofs.YtipdpifpblaldaaDoor
namespace Rows

/-- THE TIED CARD OF 'tinsellaw01.BlocksNames'. -/
def blocksNamesCard : Claim7 := { stood := { row := blocksNamesRow, standIns := [], harness := (true, "5ab94073b6ccf0d617fafd9ab907ba2386b5376ab0eb2c1c6615e9080418f417"), looks := false }, kinds := [], alts := [], laidByText := true, laidKinds := [.data], laidTests := true, laidLooks := .later }
def BlocksNamesCardSaid : Prop := Claim7.holds Tryd.pinned (.plain (OpenSpec.ofChange blocksNamesSpec)) blocksNamesCard

/-- THE TIED CARD OF 'tinsellaw01.BlocksActs'. -/
def blocksActsCard : Claim7 := { stood := { row := blocksActsRow, standIns := [], harness := (true, "5ab94073b6ccf0d617fafd9ab907ba2386b5376ab0eb2c1c6615e9080418f417"), looks := false }, kinds := [], alts := [], laidByText := true, laidKinds := [.data], laidTests := true, laidLooks := .later }
def BlocksActsCardSaid : Prop := Claim7.holds Tryd.pinned (.plain (OpenSpec.ofChange blocksActsSpec)) blocksActsCard

/-- THE TIED CARD OF 'tinsellaw01.BlocksNone'. -/
def blocksNoneCard : Claim7 := { stood := { row := blocksNoneRow, standIns := [], harness := (true, "5ab94073b6ccf0d617fafd9ab907ba2386b5376ab0eb2c1c6615e9080418f417"), looks := false }, kinds := [], alts := [], laidByText := true, laidKinds := [.data], laidTests := true, laidLooks := .later }
def BlocksNoneCardSaid : Prop := Claim7.holds Tryd.pinned (.plain (OpenSpec.ofChange blocksNoneSpec)) blocksNoneCard

/-- THE TIED CARD OF 'tinsellaw01.BlocksBack'. -/
def blocksBackCard : Claim7 := { stood := { row := blocksBackRow, standIns := [], harness := (true, "5ab94073b6ccf0d617fafd9ab907ba2386b5376ab0eb2c1c6615e9080418f417"), looks := false }, kinds := [], alts := [], laidByText := true, laidKinds := [.data], laidTests := true, laidLooks := .later }
def BlocksBackCardSaid : Prop := Claim7.holds Tryd.pinned (.plain (OpenSpec.ofChange blocksBackSpec)) blocksBackCard

/-- THE SECOND FORM's CARD OF 'tinsellaw01.BlocksNames'. -/
def blocksNamesUptoCard : Claim7 := { stood := { row := blocksNamesUptoRow, standIns := [], harness := (true, "5ab94073b6ccf0d617fafd9ab907ba2386b5376ab0eb2c1c6615e9080418f417"), looks := false }, kinds := [], alts := [], laidByText := true, laidKinds := [.data], laidTests := true, laidLooks := .later }
def BlocksNamesUptoCardSaid : Prop := Claim7.holds Tryd.pinned (.plain (OpenSpec.upto blocksNamesSpec)) blocksNamesUptoCard

/-- THE SECOND FORM's CARD OF 'tinsellaw01.BlocksActs'. -/
def blocksActsUptoCard : Claim7 := { stood := { row := blocksActsUptoRow, standIns := [], harness := (true, "5ab94073b6ccf0d617fafd9ab907ba2386b5376ab0eb2c1c6615e9080418f417"), looks := false }, kinds := [], alts := [], laidByText := true, laidKinds := [.data], laidTests := true, laidLooks := .later }
def BlocksActsUptoCardSaid : Prop := Claim7.holds Tryd.pinned (.plain (OpenSpec.upto blocksActsSpec)) blocksActsUptoCard

/-- THE SECOND FORM's CARD OF 'tinsellaw01.BlocksNone'. -/
def blocksNoneUptoCard : Claim7 := { stood := { row := blocksNoneUptoRow, standIns := [], harness := (true, "5ab94073b6ccf0d617fafd9ab907ba2386b5376ab0eb2c1c6615e9080418f417"), looks := false }, kinds := [], alts := [], laidByText := true, laidKinds := [.data], laidTests := true, laidLooks := .later }
def BlocksNoneUptoCardSaid : Prop := Claim7.holds Tryd.pinned (.plain (OpenSpec.upto blocksNoneSpec)) blocksNoneUptoCard

/-- THE SECOND FORM's CARD OF 'tinsellaw01.BlocksBack'. -/
def blocksBackUptoCard : Claim7 := { stood := { row := blocksBackUptoRow, standIns := [], harness := (true, "5ab94073b6ccf0d617fafd9ab907ba2386b5376ab0eb2c1c6615e9080418f417"), looks := false }, kinds := [], alts := [], laidByText := true, laidKinds := [.data], laidTests := true, laidLooks := .later }
def BlocksBackUptoCardSaid : Prop := Claim7.holds Tryd.pinned (.plain (OpenSpec.upto blocksBackSpec)) blocksBackUptoCard
end Rows
end Go.Proofs.YtipdpifpblaldaaDoor
