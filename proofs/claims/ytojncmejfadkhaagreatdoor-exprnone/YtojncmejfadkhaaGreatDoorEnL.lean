/- ExprNone, its tied card: for whatever words the statement's function answers true: of a gate that no call made Test answers EFAULT. Condition (the row's own): math/bits' two tables and internal/strconv.uint64pow10 start as the program's text lays them. -/
import Derived.Test.YtojncmejfadkhaaGreatDoorEnO
namespace Go.Proofs.YtojncmejfadkhaaGreatDoor
open Go.ChangeShapes Go.WideShapes Go.ChangeAt Go.RowKit
open Ev
theorem exprNone_card : Rows.ExprNoneCardSaid :=
  Claim7.holds_tied_plain_at .later [] [.data, .data, .data] true (true, "5d60d193fc242f5a0e3dbb60160c7985ed4b65f90892760b4b0a8bd811ccdbf3") true
    exprNone_holds (fun _ h => by cases h) (by kernel_rfl) (fun _ h => by cases h) exprNone_row_tie rfl ⟨rfl, rfl⟩ (by kernel_rfl) rfl
    (fun f fn hf hfn => by
      obtain rfl : f = 3 := Option.some.inj ((show Tryz.prog.funcNamed "tinsel/tinsellaw18.ExprNone" = some 3 by kernel_rfl).symm.trans hf) |>.symm
      obtain rfl : fn = Tryz.f3 := (Option.some.inj (Tryz.func3.symm.trans hfn)).symm
      exact ⟨by kernel_rfl, fun j t ht => by
        rw [Tryz.params3] at ht
        have hm : t ∈ [22] := by simpa using Array.mem_of_getElem? ht
        have hall : ([22].all fun u => !Tryz.prog.wantsStandIn u) = true := by kernel_rfl
        exact (show Tryz.prog.wantsStandIn t = false by simpa using List.all_eq_true.1 hall t hm)⟩)
    (by kernel_rfl)
#print axioms exprNone_card
end Go.Proofs.YtojncmejfadkhaaGreatDoor
