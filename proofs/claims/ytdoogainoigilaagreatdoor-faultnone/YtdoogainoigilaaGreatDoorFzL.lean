/- FaultNone, its tied card: for whatever call and plan the statement's function answers true. Condition (the row's own): math/bits.deBruijn64tab, unicode.White_Space and strings.asciiSpace start as the program's text lays them. -/
import Derived.Test.YtdoogainoigilaaGreatDoorFzO
namespace Go.Proofs.YtdoogainoigilaaGreatDoor
open Go.ChangeShapes Go.WideShapes Go.ChangeAt Go.RowKit
open Ev
theorem faultNone_card : Rows.FaultNoneCardSaid :=
  Claim7.holds_tied_plain_at .later [] [.data, .listed, .data] true (true, "c6b82fe4cff35117d9bec45a9d6618caf27bb8d006a8b09bc55a2b2a31c5b2cb") true
    faultNone_holds (fun _ h => by cases h) (by kernel_rfl) (fun _ h => by cases h) faultNone_row_tie rfl ⟨rfl, rfl⟩ (by kernel_rfl) rfl
    (fun f fn hf hfn => by
      obtain rfl : f = 3 := Option.some.inj ((show Tryz.prog.funcNamed "tinsel/tinsellaw08.FaultNone" = some 3 by kernel_rfl).symm.trans hf) |>.symm
      obtain rfl : fn = Tryz.f3 := (Option.some.inj (Tryz.func3.symm.trans hfn)).symm
      exact ⟨by kernel_rfl, fun j t ht => by
        rw [Tryz.params3] at ht
        have hm : t ∈ [25, 26] := by simpa using Array.mem_of_getElem? ht
        have hall : ([25, 26].all fun u => !Tryz.prog.wantsStandIn u) = true := by kernel_rfl
        exact (show Tryz.prog.wantsStandIn t = false by simpa using List.all_eq_true.1 hall t hm)⟩)
    (by kernel_rfl)
#print axioms faultNone_card
end Go.Proofs.YtdoogainoigilaaGreatDoor
