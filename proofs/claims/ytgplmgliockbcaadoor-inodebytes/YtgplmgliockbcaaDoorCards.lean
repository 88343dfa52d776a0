/-
  DERIVED. GIVEN WITH THE SEED: THE CARDS: each row of YtgplmgliockbcaaDoorRows.lean that lists a variable, with what it lists TIED to the program's text (the seventh form; the later family's looks); each row that meets fmt, with fmt's text TOLD by the authors' own Lean function (tested against real Go, not proved from fmt's source: count such statements apart). THE CARD IS WHAT COUNTS. Prove the row's statement (the work); the ties are given (YtgplmgliockbcaaDoorTie.lean); close each card by the builder's one call (the guide's Derived/Test/ToyasCard.lean, 'card_holds'). Laid BY PROGRAM, IN A SANDBOX (cutbox-door.mjs). By AI agents, Wed Nov 11 2026. No macro, syntax, notation, axiom, sorry.
-/
import Derived.Test.YtgplmgliockbcaaDoorRows
import GoSem.ClaimSeven
namespace Go.Proofs.YtgplmgliockbcaaDoor
namespace Rows

/-- THE TIED CARD OF 'tinsellaw02.InodeNames'. -/
def inodeNamesCard : Claim7 := { stood := { row := inodeNamesRow, standIns := [], harness := (true, "0d5fcac2066be626f0b832c1085404223de3e3868952e7067b79d81e2fd8bb4b"), looks := false }, kinds := [], alts := [], laidByText := true, laidKinds := [.data], laidTests := true, laidLooks := .later }
def InodeNamesCardSaid : Prop := Claim7.holds Tryd.pinned (.plain (OpenSpec.ofChange inodeNamesSpec)) inodeNamesCard

/-- THE TIED CARD OF 'tinsellaw02.InodeNew'. -/
def inodeNewCard : Claim7 := { stood := { row := inodeNewRow, standIns := [], harness := (true, "0d5fcac2066be626f0b832c1085404223de3e3868952e7067b79d81e2fd8bb4b"), looks := false }, kinds := [], alts := [], laidByText := true, laidKinds := [.data], laidTests := true, laidLooks := .later }
def InodeNewCardSaid : Prop := Claim7.holds Tryd.pinned (.plain (OpenSpec.ofChange inodeNewSpec)) inodeNewCard

/-- THE TIED CARD OF 'tinsellaw02.InodeNone'. -/
def inodeNoneCard : Claim7 := { stood := { row := inodeNoneRow, standIns := [], harness := (true, "0d5fcac2066be626f0b832c1085404223de3e3868952e7067b79d81e2fd8bb4b"), looks := false }, kinds := [], alts := [], laidByText := true, laidKinds := [.data], laidTests := true, laidLooks := .later }
def InodeNoneCardSaid : Prop := Claim7.holds Tryd.pinned (.plain (OpenSpec.ofChange inodeNoneSpec)) inodeNoneCard

/-- THE TIED CARD OF 'tinsellaw02.InodeBytes'. -/
def inodeBytesCard : Claim7 := { stood := { row := inodeBytesRow, standIns := [], harness := (true, "0d5fcac2066be626f0b832c1085404223de3e3868952e7067b79d81e2fd8bb4b"), looks := false }, kinds := [], alts := [], laidByText := true, laidKinds := [.data], laidTests := true, laidLooks := .later }
def InodeBytesCardSaid : Prop := Claim7.holds Tryd.pinned (.plain (OpenSpec.ofChange inodeBytesSpec)) inodeBytesCard

/-- THE TIED CARD OF 'tinsellaw02.InodeShort'. -/
def inodeShortCard : Claim7 := { stood := { row := inodeShortRow, standIns := [], harness := (true, "0d5fcac2066be626f0b832c1085404223de3e3868952e7067b79d81e2fd8bb4b"), looks := false }, kinds := [], alts := [], laidByText := true, laidKinds := [.data], laidTests := true, laidLooks := .later }
def InodeShortCardSaid : Prop := Claim7.holds Tryd.pinned (.plain (OpenSpec.ofChange inodeShortSpec)) inodeShortCard

/-- THE SECOND FORM's CARD OF 'tinsellaw02.InodeNames'. -/
def inodeNamesUptoCard : Claim7 := { stood := { row := inodeNamesUptoRow, standIns := [], harness := (true, "0d5fcac2066be626f0b832c1085404223de3e3868952e7067b79d81e2fd8bb4b"), looks := false }, kinds := [], alts := [], laidByText := true, laidKinds := [.data], laidTests := true, laidLooks := .later }
def InodeNamesUptoCardSaid : Prop := Claim7.holds Tryd.pinned (.plain (OpenSpec.upto inodeNamesSpec)) inodeNamesUptoCard

/-- THE SECOND FORM's CARD OF 'tinsellaw02.InodeNew'. -/
def inodeNewUptoCard : Claim7 := { stood := { row := inodeNewUptoRow, standIns := [], harness := (true, "0d5fcac2066be626f0b832c1085404223de3e3868952e7067b79d81e2fd8bb4b"), looks := false }, kinds := [], alts := [], laidByText := true, laidKinds := [.data], laidTests := true, laidLooks := .later }
def InodeNewUptoCardSaid : Prop := Claim7.holds Tryd.pinned (.plain (OpenSpec.upto inodeNewSpec)) inodeNewUptoCard

/-- THE SECOND FORM's CARD OF 'tinsellaw02.InodeNone'. -/
def inodeNoneUptoCard : Claim7 := { stood := { row := inodeNoneUptoRow, standIns := [], harness := (true, "0d5fcac2066be626f0b832c1085404223de3e3868952e7067b79d81e2fd8bb4b"), looks := false }, kinds := [], alts := [], laidByText := true, laidKinds := [.data], laidTests := true, laidLooks := .later }
def InodeNoneUptoCardSaid : Prop := Claim7.holds Tryd.pinned (.plain (OpenSpec.upto inodeNoneSpec)) inodeNoneUptoCard

/-- THE SECOND FORM's CARD OF 'tinsellaw02.InodeBytes'. -/
def inodeBytesUptoCard : Claim7 := { stood := { row := inodeBytesUptoRow, standIns := [], harness := (true, "0d5fcac2066be626f0b832c1085404223de3e3868952e7067b79d81e2fd8bb4b"), looks := false }, kinds := [], alts := [], laidByText := true, laidKinds := [.data], laidTests := true, laidLooks := .later }
def InodeBytesUptoCardSaid : Prop := Claim7.holds Tryd.pinned (.plain (OpenSpec.upto inodeBytesSpec)) inodeBytesUptoCard

/-- THE SECOND FORM's CARD OF 'tinsellaw02.InodeShort'. -/
def inodeShortUptoCard : Claim7 := { stood := { row := inodeShortUptoRow, standIns := [], harness := (true, "0d5fcac2066be626f0b832c1085404223de3e3868952e7067b79d81e2fd8bb4b"), looks := false }, kinds := [], alts := [], laidByText := true, laidKinds := [.data], laidTests := true, laidLooks := .later }
def InodeShortUptoCardSaid : Prop := Claim7.holds Tryd.pinned (.plain (OpenSpec.upto inodeShortSpec)) inodeShortUptoCard
end Rows
end Go.Proofs.YtgplmgliockbcaaDoor
