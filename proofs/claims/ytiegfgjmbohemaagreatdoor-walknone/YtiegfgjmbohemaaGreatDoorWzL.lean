/- WalkNone, its tied card: for whatever way and path the statement's function answers true. Condition (the row's own): math/bits.deBruijn64tab, unicode.White_Space and strings.asciiSpace start as the program's text lays them. -/
import Derived.Test.YtiegfgjmbohemaaGreatDoorWzO
namespace Go.Proofs.YtiegfgjmbohemaaGreatDoor
open Go.ChangeShapes Go.WideShapes Go.ChangeAt Go.RowKit
open Ev
theorem walkNone_card : Rows.WalkNoneCardSaid :=
  Claim7.holds_tied_plain_at .later [] [.data, .listed, .data] true (true, "ed9cf4d7542986890e79a8cd63300c48fb699b93ba32ce5eb024c69f9f14e788") true
    walkNone_holds (fun _ h => by cases h) (by kernel_rfl) (fun _ h => by cases h) walkNone_row_tie rfl ⟨rfl, rfl⟩ (by kernel_rfl) rfl
    (fun f fn hf hfn => by
      obtain rfl : f = 3 := Option.some.inj ((show Tryz.prog.funcNamed "tinsel/tinsellaw14.WalkNone" = some 3 by kernel_rfl).symm.trans hf) |>.symm
      obtain rfl : fn = Tryz.f3 := (Option.some.inj (Tryz.func3.symm.trans hfn)).symm
      exact ⟨by kernel_rfl, fun j t ht => by
        rw [Tryz.params3] at ht
        have hm : t ∈ [25, 9] := by simpa using Array.mem_of_getElem? ht
        have hall : ([25, 9].all fun u => !Tryz.prog.wantsStandIn u) = true := by kernel_rfl
        exact (show Tryz.prog.wantsStandIn t = false by simpa using List.all_eq_true.1 hall t hm)⟩)
    (by kernel_rfl)
#print axioms walkNone_card
end Go.Proofs.YtiegfgjmbohemaaGreatDoor
