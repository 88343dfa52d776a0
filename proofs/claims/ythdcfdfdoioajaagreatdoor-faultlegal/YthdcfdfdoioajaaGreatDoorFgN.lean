/- FaultLegal's example, run once and for all, Seat of FaultLegal. No condition. -/
import Derived.Test.YthdcfdfdoioajaaGreatDoorFgB
import Derived.Test.YthdcfdfdoioajaaGreatDoorFgK7
namespace Go.Proofs.YthdcfdfdoioajaaGreatDoor
open Ev
noncomputable def cl : Cl := ⟨true, h0, 9⟩
theorem awRun : callA Tryz.prog x7 5 hint 100000 7 [] h0 cl.asks = .ok := by kernel_rfl
end Go.Proofs.YthdcfdfdoioajaaGreatDoor
