/-
  DERIVED. GIVEN WITH THE SEED: THE CARDS: each row of YtgkjpfebjhhdkaaDoorRows.lean that lists a variable, with what it lists TIED to the program's text (the seventh form; the later family's looks); each row that meets fmt, with fmt's text TOLD by the authors' own Lean function (tested against real Go, not proved from fmt's source: count such statements apart). THE CARD IS WHAT COUNTS. Prove the row's statement (the work); the ties are given (YtgkjpfebjhhdkaaDoorTie.lean); close each card by the builder's one call (the guide's Derived/Test/ToyasCard.lean, 'card_holds'). Laid BY PROGRAM, IN A SANDBOX (cutbox-door.mjs). By AI agents, Wed Nov 11 2026. No macro, syntax, notation, axiom, sorry.
-/
import Derived.Test.YtgkjpfebjhhdkaaDoorRows
import GoSem.ClaimSeven
namespace Go.Proofs.YtgkjpfebjhhdkaaDoor
namespace Rows

/-- THE TIED CARD OF 'tinsellaw11.NumberReads'. -/
def numberReadsCard : Claim7 := { stood := { row := numberReadsRow, standIns := [], harness := (true, "507b3b648839789197b8c6610139f168ad9dcb0b9246fefb4ae9be92f9b0c843"), looks := false }, kinds := [], alts := [], laidByText := true, laidKinds := [.data, .data, .data, .data], laidTests := true, laidLooks := .later }
def NumberReadsCardSaid : Prop := Claim7.holds Tryd.pinned (.plain (OpenSpec.ofChange numberReadsSpec)) numberReadsCard

/-- THE TIED CARD OF 'tinsellaw11.NumberHuman'. -/
def numberHumanCard : Claim7 := { stood := { row := numberHumanRow, standIns := [], harness := (true, "507b3b648839789197b8c6610139f168ad9dcb0b9246fefb4ae9be92f9b0c843"), looks := false }, kinds := [], alts := [], laidByText := true, laidKinds := [.data, .data, .data, .data], laidTests := true, laidLooks := .later }
def NumberHumanCardSaid : Prop := Claim7.holds Tryd.pinned (.plain (OpenSpec.ofChange numberHumanSpec)) numberHumanCard

/-- THE TIED CARD OF 'tinsellaw11.NumberRanges'. -/
def numberRangesCard : Claim7 := { stood := { row := numberRangesRow, standIns := [], harness := (true, "507b3b648839789197b8c6610139f168ad9dcb0b9246fefb4ae9be92f9b0c843"), looks := false }, kinds := [], alts := [], laidByText := true, laidKinds := [.data, .data, .data, .data], laidTests := true, laidLooks := .later }
def NumberRangesCardSaid : Prop := Claim7.holds Tryd.pinned (.plain (OpenSpec.ofChange numberRangesSpec)) numberRangesCard

/-- THE TIED CARD OF 'tinsellaw11.NumberDates'. -/
def numberDatesCard : Claim7 := { stood := { row := numberDatesRow, standIns := [], harness := (true, "507b3b648839789197b8c6610139f168ad9dcb0b9246fefb4ae9be92f9b0c843"), looks := false }, kinds := [], alts := [], laidByText := true, laidKinds := [.data, .data, .data, .data], laidTests := true, laidLooks := .later }
def NumberDatesCardSaid : Prop := Claim7.holds Tryd.pinned (.plain (OpenSpec.ofChange numberDatesSpec)) numberDatesCard

/-- THE TIED CARD OF 'tinsellaw11.NumberBack'. -/
def numberBackCard : Claim7 := { stood := { row := numberBackRow, standIns := [], harness := (true, "507b3b648839789197b8c6610139f168ad9dcb0b9246fefb4ae9be92f9b0c843"), looks := false }, kinds := [], alts := [], laidByText := true, laidKinds := [.data, .data, .data, .data], laidTests := true, laidLooks := .later }
def NumberBackCardSaid : Prop := Claim7.holds Tryd.pinned (.plain (OpenSpec.ofChange numberBackSpec)) numberBackCard

/-- THE SECOND FORM's CARD OF 'tinsellaw11.NumberReads'. -/
def numberReadsUptoCard : Claim7 := { stood := { row := numberReadsUptoRow, standIns := [], harness := (true, "507b3b648839789197b8c6610139f168ad9dcb0b9246fefb4ae9be92f9b0c843"), looks := false }, kinds := [], alts := [], laidByText := true, laidKinds := [.data, .data, .data, .data], laidTests := true, laidLooks := .later }
def NumberReadsUptoCardSaid : Prop := Claim7.holds Tryd.pinned (.plain (OpenSpec.upto numberReadsSpec)) numberReadsUptoCard

/-- THE SECOND FORM's CARD OF 'tinsellaw11.NumberHuman'. -/
def numberHumanUptoCard : Claim7 := { stood := { row := numberHumanUptoRow, standIns := [], harness := (true, "507b3b648839789197b8c6610139f168ad9dcb0b9246fefb4ae9be92f9b0c843"), looks := false }, kinds := [], alts := [], laidByText := true, laidKinds := [.data, .data, .data, .data], laidTests := true, laidLooks := .later }
def NumberHumanUptoCardSaid : Prop := Claim7.holds Tryd.pinned (.plain (OpenSpec.upto numberHumanSpec)) numberHumanUptoCard

/-- THE SECOND FORM's CARD OF 'tinsellaw11.NumberRanges'. -/
def numberRangesUptoCard : Claim7 := { stood := { row := numberRangesUptoRow, standIns := [], harness := (true, "507b3b648839789197b8c6610139f168ad9dcb0b9246fefb4ae9be92f9b0c843"), looks := false }, kinds := [], alts := [], laidByText := true, laidKinds := [.data, .data, .data, .data], laidTests := true, laidLooks := .later }
def NumberRangesUptoCardSaid : Prop := Claim7.holds Tryd.pinned (.plain (OpenSpec.upto numberRangesSpec)) numberRangesUptoCard

/-- THE SECOND FORM's CARD OF 'tinsellaw11.NumberDates'. -/
def numberDatesUptoCard : Claim7 := { stood := { row := numberDatesUptoRow, standIns := [], harness := (true, "507b3b648839789197b8c6610139f168ad9dcb0b9246fefb4ae9be92f9b0c843"), looks := false }, kinds := [], alts := [], laidByText := true, laidKinds := [.data, .data, .data, .data], laidTests := true, laidLooks := .later }
def NumberDatesUptoCardSaid : Prop := Claim7.holds Tryd.pinned (.plain (OpenSpec.upto numberDatesSpec)) numberDatesUptoCard

/-- THE SECOND FORM's CARD OF 'tinsellaw11.NumberBack'. -/
def numberBackUptoCard : Claim7 := { stood := { row := numberBackUptoRow, standIns := [], harness := (true, "507b3b648839789197b8c6610139f168ad9dcb0b9246fefb4ae9be92f9b0c843"), looks := false }, kinds := [], alts := [], laidByText := true, laidKinds := [.data, .data, .data, .data], laidTests := true, laidLooks := .later }
def NumberBackUptoCardSaid : Prop := Claim7.holds Tryd.pinned (.plain (OpenSpec.upto numberBackSpec)) numberBackUptoCard
end Rows
end Go.Proofs.YtgkjpfebjhhdkaaDoor
