/- SedNone run whole by the evaluator, at any bytes and bool, which it does not look at: it tells true. Seat of SedNone. No condition. -/
import Derived.Test.YtceniocofdgebaaGreatDoorSnC
namespace Go.Proofs.YtceniocofdgebaaGreatDoor
open Ev
theorem snRun (p q : Value) : callC Tryz.prog x0 0 hint catches 100000 3 [.opq p, .opq q] h0 saysTrue = .ok := by kernel_rfl
end Go.Proofs.YtceniocofdgebaaGreatDoor
