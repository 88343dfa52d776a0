/- SedNone, its tied card: for whatever bytes and bool the statement's function answers true: a program that no call made runs nothing and tells EFAULT. Condition (the row's own): the five listed tables start as the program's text lays them. -/
import Derived.Test.YtceniocofdgebaaGreatDoorSnO
namespace Go.Proofs.YtceniocofdgebaaGreatDoor
open Go.ChangeShapes Go.WideShapes Go.ChangeAt Go.RowKit
open Ev
theorem sedNone_card : Rows.SedNoneCardSaid :=
  Claim7.holds_tied_plain_at .later [] [.data, .data, .data, .data, .pinned] true (true, "3a47b6aa84441a7ae65857a68ce076d4347416958a79d8d0b3e667b40a47bece") true
    sedNone_holds (fun _ h => by cases h) (by kernel_rfl) (fun _ h => by cases h) sedNone_row_tie rfl ⟨rfl, rfl⟩ (by kernel_rfl) rfl
    (fun f fn hf hfn => by
      obtain rfl : f = 3 := Option.some.inj ((show Tryz.prog.funcNamed "tinsel/tinsellaw19.SedNone" = some 3 by kernel_rfl).symm.trans hf) |>.symm
      obtain rfl : fn = Tryz.f3 := (Option.some.inj (Tryz.func3.symm.trans hfn)).symm
      exact ⟨by kernel_rfl, fun j t ht => by
        rw [Tryz.params3] at ht
        have hm : t ∈ [22, 4] := by simpa using Array.mem_of_getElem? ht
        have hall : ([22, 4].all fun u => !Tryz.prog.wantsStandIn u) = true := by kernel_rfl
        exact (show Tryz.prog.wantsStandIn t = false by simpa using List.all_eq_true.1 hall t hm)⟩)
    (by kernel_rfl)
#print axioms sedNone_card
end Go.Proofs.YtceniocofdgebaaGreatDoor
