/-
  DERIVED. GIVEN WITH THE SEED: THE CARDS: each row of YtdjefinehabifaaDoorRows.lean that lists a variable, with what it lists TIED to the program's text (the seventh form; the later family's looks); each row that meets fmt, with fmt's text TOLD by the authors' own Lean function (tested against real Go, not proved from fmt's source: count such statements apart). THE CARD IS WHAT COUNTS. Prove the row's statement (the work); the ties are given (YtdjefinehabifaaDoorTie.lean); close each card by the builder's one call (the guide's Derived/Test/ToyasCard.lean, 'card_holds'). Laid BY PROGRAM, IN A SANDBOX (cutbox-door.mjs). By AI agents, Wed Nov 11 2026. No macro, syntax, notation, axiom, sorry.
-/
import Derived.Test.YtdjefinehabifaaDoorRows
import GoSem.ClaimSeven
namespace Go.Proofs.YtdjefinehabifaaDoor
namespace Rows

/-- THE TIED CARD OF 'tinsellaw16.OrderParts'. -/
def orderPartsCard : Claim7 := { stood := { row := orderPartsRow, standIns := [], harness := (true, "de1114747d0703d2104c410aa68065ac3c7218cae0d5e0c667da42d73236d920"), looks := false }, kinds := [], alts := [], laidByText := true, laidKinds := [.data, .pinned], laidTests := true, laidLooks := .later }
def OrderPartsCardSaid : Prop := Claim7.holds Tryd.pinned (.plain (OpenSpec.ofChange orderPartsSpec)) orderPartsCard

/-- THE TIED CARD OF 'tinsellaw16.OrderCompares'. -/
def orderComparesCard : Claim7 := { stood := { row := orderComparesRow, standIns := [], harness := (true, "de1114747d0703d2104c410aa68065ac3c7218cae0d5e0c667da42d73236d920"), looks := false }, kinds := [], alts := [], laidByText := true, laidKinds := [.data, .pinned], laidTests := true, laidLooks := .later }
def OrderComparesCardSaid : Prop := Claim7.holds Tryd.pinned (.plain (OpenSpec.ofChange orderComparesSpec)) orderComparesCard

/-- THE TIED CARD OF 'tinsellaw16.OrderSorts'. -/
def orderSortsCard : Claim7 := { stood := { row := orderSortsRow, standIns := [], harness := (true, "de1114747d0703d2104c410aa68065ac3c7218cae0d5e0c667da42d73236d920"), looks := false }, kinds := [], alts := [], laidByText := true, laidKinds := [.data, .pinned], laidTests := true, laidLooks := .later }
def OrderSortsCardSaid : Prop := Claim7.holds Tryd.pinned (.plain (OpenSpec.ofChange orderSortsSpec)) orderSortsCard

/-- THE TIED CARD OF 'tinsellaw16.OrderUniqs'. -/
def orderUniqsCard : Claim7 := { stood := { row := orderUniqsRow, standIns := [], harness := (true, "de1114747d0703d2104c410aa68065ac3c7218cae0d5e0c667da42d73236d920"), looks := false }, kinds := [], alts := [], laidByText := true, laidKinds := [.data, .pinned], laidTests := true, laidLooks := .later }
def OrderUniqsCardSaid : Prop := Claim7.holds Tryd.pinned (.plain (OpenSpec.ofChange orderUniqsSpec)) orderUniqsCard

/-- THE TIED CARD OF 'tinsellaw16.OrderComms'. -/
def orderCommsCard : Claim7 := { stood := { row := orderCommsRow, standIns := [], harness := (true, "de1114747d0703d2104c410aa68065ac3c7218cae0d5e0c667da42d73236d920"), looks := false }, kinds := [], alts := [], laidByText := true, laidKinds := [.data, .pinned], laidTests := true, laidLooks := .later }
def OrderCommsCardSaid : Prop := Claim7.holds Tryd.pinned (.plain (OpenSpec.ofChange orderCommsSpec)) orderCommsCard

/-- THE TIED CARD OF 'tinsellaw16.OrderStands'. -/
def orderStandsCard : Claim7 := { stood := { row := orderStandsRow, standIns := [], harness := (true, "de1114747d0703d2104c410aa68065ac3c7218cae0d5e0c667da42d73236d920"), looks := false }, kinds := [], alts := [], laidByText := true, laidKinds := [.data, .pinned], laidTests := true, laidLooks := .later }
def OrderStandsCardSaid : Prop := Claim7.holds Tryd.pinned (.plain (OpenSpec.ofChange orderStandsSpec)) orderStandsCard

/-- THE SECOND FORM's CARD OF 'tinsellaw16.OrderParts'. -/
def orderPartsUptoCard : Claim7 := { stood := { row := orderPartsUptoRow, standIns := [], harness := (true, "de1114747d0703d2104c410aa68065ac3c7218cae0d5e0c667da42d73236d920"), looks := false }, kinds := [], alts := [], laidByText := true, laidKinds := [.data, .pinned], laidTests := true, laidLooks := .later }
def OrderPartsUptoCardSaid : Prop := Claim7.holds Tryd.pinned (.plain (OpenSpec.upto orderPartsSpec)) orderPartsUptoCard

/-- THE SECOND FORM's CARD OF 'tinsellaw16.OrderCompares'. -/
def orderComparesUptoCard : Claim7 := { stood := { row := orderComparesUptoRow, standIns := [], harness := (true, "de1114747d0703d2104c410aa68065ac3c7218cae0d5e0c667da42d73236d920"), looks := false }, kinds := [], alts := [], laidByText := true, laidKinds := [.data, .pinned], laidTests := true, laidLooks := .later }
def OrderComparesUptoCardSaid : Prop := Claim7.holds Tryd.pinned (.plain (OpenSpec.upto orderComparesSpec)) orderComparesUptoCard

/-- THE SECOND FORM's CARD OF 'tinsellaw16.OrderSorts'. -/
def orderSortsUptoCard : Claim7 := { stood := { row := orderSortsUptoRow, standIns := [], harness := (true, "de1114747d0703d2104c410aa68065ac3c7218cae0d5e0c667da42d73236d920"), looks := false }, kinds := [], alts := [], laidByText := true, laidKinds := [.data, .pinned], laidTests := true, laidLooks := .later }
def OrderSortsUptoCardSaid : Prop := Claim7.holds Tryd.pinned (.plain (OpenSpec.upto orderSortsSpec)) orderSortsUptoCard

/-- THE SECOND FORM's CARD OF 'tinsellaw16.OrderUniqs'. -/
def orderUniqsUptoCard : Claim7 := { stood := { row := orderUniqsUptoRow, standIns := [], harness := (true, "de1114747d0703d2104c410aa68065ac3c7218cae0d5e0c667da42d73236d920"), looks := false }, kinds := [], alts := [], laidByText := true, laidKinds := [.data, .pinned], laidTests := true, laidLooks := .later }
def OrderUniqsUptoCardSaid : Prop := Claim7.holds Tryd.pinned (.plain (OpenSpec.upto orderUniqsSpec)) orderUniqsUptoCard

/-- THE SECOND FORM's CARD OF 'tinsellaw16.OrderComms'. -/
def orderCommsUptoCard : Claim7 := { stood := { row := orderCommsUptoRow, standIns := [], harness := (true, "de1114747d0703d2104c410aa68065ac3c7218cae0d5e0c667da42d73236d920"), looks := false }, kinds := [], alts := [], laidByText := true, laidKinds := [.data, .pinned], laidTests := true, laidLooks := .later }
def OrderCommsUptoCardSaid : Prop := Claim7.holds Tryd.pinned (.plain (OpenSpec.upto orderCommsSpec)) orderCommsUptoCard

/-- THE SECOND FORM's CARD OF 'tinsellaw16.OrderStands'. -/
def orderStandsUptoCard : Claim7 := { stood := { row := orderStandsUptoRow, standIns := [], harness := (true, "de1114747d0703d2104c410aa68065ac3c7218cae0d5e0c667da42d73236d920"), looks := false }, kinds := [], alts := [], laidByText := true, laidKinds := [.data, .pinned], laidTests := true, laidLooks := .later }
def OrderStandsUptoCardSaid : Prop := Claim7.holds Tryd.pinned (.plain (OpenSpec.upto orderStandsSpec)) orderStandsUptoCard
end Rows
end Go.Proofs.YtdjefinehabifaaDoor
