/- BufNone, its row: for whatever bytes and number the statement's function answers true. Condition (the row's own): the listed tables start as the program's text lays them. -/
import Derived.Test.YtdldpehmcfbbeaaGreatDoorBnT
import Derived.Test.YtdldpehmcfbbeaaGreatDoorBnJ
namespace Go.Proofs.YtdldpehmcfbbeaaGreatDoor
open Go.ChangeShapes Go.WideShapes Go.ChangeAt Go.RowKit
open Ev
theorem bufNone_holds : Rows.BufNoneSaid :=
  OpenClaim.holds_of_wide 3 Tryz.f3 rfl rfl rfl rfl rfl rfl rfl ⟨rfl, rfl, rfl, rfl, rfl⟩ rfl rfl rfl rfl rfl (by kernel_rfl) Tryz.func3 wn_closed
    (of_decide_eq_true (by kernel_rfl)) (by unfold Func.isWrapper; first | (rw [if_pos (by decide +kernel)]; kernel_rfl) | (rw [if_neg (by decide +kernel)]; exact ⟨rfl, rfl⟩))
    (fun os started H enc _ => none_lifted os started H enc)
end Go.Proofs.YtdldpehmcfbbeaaGreatDoor
