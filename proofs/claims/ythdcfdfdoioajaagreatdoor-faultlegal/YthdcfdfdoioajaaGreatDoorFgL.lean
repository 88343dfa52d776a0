/- FaultLegal, its tied card: for whatever call, error and number the statement's function answers true. Condition (the row's own): math/bits.deBruijn64tab, unicode.White_Space and strings.asciiSpace start as the program's text lays them. -/
import Derived.Test.YthdcfdfdoioajaaGreatDoorFgO
namespace Go.Proofs.YthdcfdfdoioajaaGreatDoor
open Go.ChangeShapes Go.WideShapes Go.ChangeAt Go.RowKit
open Ev
theorem faultLegal_card : Rows.FaultLegalCardSaid :=
  Claim7.holds_tied_plain_at .later [] [.data, .listed, .data] true (true, "bedcc6bfbf2c02ac4cd7c477ba3d5419c258439ba8b4db12eae3ab035b82584b") true
    faultLegal_holds (fun _ h => by cases h) (by kernel_rfl) (fun _ h => by cases h) faultLegal_row_tie rfl ⟨rfl, rfl⟩ (by kernel_rfl) rfl
    (fun f fn hf hfn => by
      obtain rfl : f = 3 := Option.some.inj ((show Tryz.prog.funcNamed "tinsel/tinsellaw08.FaultLegal" = some 3 by kernel_rfl).symm.trans hf) |>.symm
      obtain rfl : fn = Tryz.f3 := (Option.some.inj (Tryz.func3.symm.trans hfn)).symm
      exact ⟨by kernel_rfl, fun j t ht => by
        rw [Tryz.params3] at ht
        have hm : t ∈ [9, 3, 5] := by simpa using Array.mem_of_getElem? ht
        have hall : ([9, 3, 5].all fun u => !Tryz.prog.wantsStandIn u) = true := by kernel_rfl
        exact (show Tryz.prog.wantsStandIn t = false by simpa using List.all_eq_true.1 hall t hm)⟩)
    (by kernel_rfl)
#print axioms faultLegal_card
end Go.Proofs.YthdcfdfdoioajaaGreatDoor
