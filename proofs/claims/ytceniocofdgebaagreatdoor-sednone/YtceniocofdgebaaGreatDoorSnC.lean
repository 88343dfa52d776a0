/- The way on which sed.Parse gives up the text "s/a"; the loads that tell the same in a region that draws. No condition. -/
import Derived.Test.YtceniocofdgebaaGreatDoorSnX
import Derived.Test.YtceniocofdgebaaGreatDoorEvP3
namespace Go.Proofs.YtceniocofdgebaaGreatDoor
open Ev
/-- Where each function on that way gives up: its region, the operation, the visits ahead. -/
noncomputable def sites : Sites := fun f =>
  iff (Nat.beq f 9) (some (2, 1, 0)) (iff (Nat.beq f 28) (some (0, 2, 0)) (iff (Nat.beq f 29) (some (5, 0, 0)) (iff (Nat.beq f 43) (some (5, 1, 0)) (iff (Nat.beq f 57) (some (31, 2, 0))
  (iff (Nat.beq f 76) (some (2, 3, 0)) (iff (Nat.beq f 96) (some (1, 2, 0)) (iff (Nat.beq f 101) (some (5, 1, 0)) (iff (Nat.beq f 56) (some (2, 1, 0)) (iff (Nat.beq f 71) (some (0, 4, 0))
  (iff (Nat.beq f 32) (some (0, 4, 0)) none))))))))))
/-- In the reader's command the line's number is loaded beside a call that moves on. -/
noncomputable def frees : Frees := fun f r => iff (Nat.beq f 43) (iff (Nat.beq r 0) (some 8) none) none
/-- The last text that is parsed is given up. -/
noncomputable def catches : Catches := ⟨fun f => Nat.beq f 9, fun _ m => iff (Nat.ble 160 m) (some sites) none, frees⟩
end Go.Proofs.YtceniocofdgebaaGreatDoor
