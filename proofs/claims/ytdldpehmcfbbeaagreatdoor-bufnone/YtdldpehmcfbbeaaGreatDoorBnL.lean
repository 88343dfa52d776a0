/- BufNone, its tied card: for whatever bytes and number the statement's function answers true. Condition (the row's own): math/bits.deBruijn64tab, unicode.White_Space and strings.asciiSpace start as the program's text lays them. -/
import Derived.Test.YtdldpehmcfbbeaaGreatDoorBnO
namespace Go.Proofs.YtdldpehmcfbbeaaGreatDoor
open Go.ChangeShapes Go.WideShapes Go.ChangeAt Go.RowKit
open Ev
theorem bufNone_card : Rows.BufNoneCardSaid :=
  Claim7.holds_tied_plain_at .later [] [.data, .listed, .data] true (true, "4c146112f64c0e8418c04b5fcc794da4b34a364f13ab405afa4740216bc83488") true
    bufNone_holds (fun _ h => by cases h) (by kernel_rfl) (fun _ h => by cases h) bufNone_row_tie rfl ⟨rfl, rfl⟩ (by kernel_rfl) rfl
    (fun f fn hf hfn => by
      obtain rfl : f = 3 := Option.some.inj ((show Tryz.prog.funcNamed "tinsel/tinsellaw10.BufNone" = some 3 by kernel_rfl).symm.trans hf) |>.symm
      obtain rfl : fn = Tryz.f3 := (Option.some.inj (Tryz.func3.symm.trans hfn)).symm
      exact ⟨by kernel_rfl, fun j t ht => by
        rw [Tryz.params3] at ht
        have hm : t ∈ [22, 3] := by simpa using Array.mem_of_getElem? ht
        have hall : ([22, 3].all fun u => !Tryz.prog.wantsStandIn u) = true := by kernel_rfl
        exact (show Tryz.prog.wantsStandIn t = false by simpa using List.all_eq_true.1 hall t hm)⟩)
    (by kernel_rfl)
#print axioms bufNone_card
end Go.Proofs.YtdldpehmcfbbeaaGreatDoor
