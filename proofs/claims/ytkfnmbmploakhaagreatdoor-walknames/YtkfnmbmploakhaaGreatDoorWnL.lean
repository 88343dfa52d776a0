/- WalkNames, its tied card: called in whatever memory, the statement's function answers true. Condition (the row's own): math/bits.deBruijn64tab, unicode.White_Space and strings.asciiSpace start as the program's text lays them. -/
import Derived.Test.YtkfnmbmploakhaaGreatDoorWnO
namespace Go.Proofs.YtkfnmbmploakhaaGreatDoor
open Go.ChangeShapes Go.WideShapes Go.ChangeAt Go.RowKit
open Ev
theorem walkNames_card : Rows.WalkNamesCardSaid :=
  Claim7.holds_tied_plain_at .later [] [.data, .listed, .data] true (true, "8b9f4720a71c28db48dab4125d6c0a8d92bce9225781a38974757c062075ff12") true
    walkNames_holds (fun _ h => by cases h) (by kernel_rfl) (fun _ h => by cases h) walkNames_row_tie rfl ⟨rfl, rfl⟩ (by kernel_rfl) rfl
    (fun f fn hf hfn => by
      obtain rfl : f = 3 := Option.some.inj ((show Tryz.prog.funcNamed "tinsel/tinsellaw14.WalkNames" = some 3 by kernel_rfl).symm.trans hf) |>.symm
      obtain rfl : fn = Tryz.f3 := (Option.some.inj (Tryz.func3.symm.trans hfn)).symm
      exact ⟨by kernel_rfl, fun j t ht => by
        rw [Tryz.params3] at ht
        simp at ht⟩)
    (by kernel_rfl)
#print axioms walkNames_card
end Go.Proofs.YtkfnmbmploakhaaGreatDoor
