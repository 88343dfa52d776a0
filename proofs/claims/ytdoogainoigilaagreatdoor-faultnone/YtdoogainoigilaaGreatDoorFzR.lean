/- FaultNone run whole by the evaluator, at any call and any plan, which it does not look at: it tells true. Seat of FaultNone. No condition. -/
import Derived.Test.YtdoogainoigilaaGreatDoorFzN
namespace Go.Proofs.YtdoogainoigilaaGreatDoor
open Ev
theorem fzRun (c0 c1 c2 c3 c4 c5 c6 c7 c8 c9 p : Value) : callA Tryz.prog xA 5 hint 100000 3 [.agg [.opq c0, .opq c1, .opq c2, .opq c3, .opq c4, .opq c5, .opq c6, .opq c7, .opq c8, .opq c9], .opq p] h0 saysTrue = .ok := by kernel_rfl
end Go.Proofs.YtdoogainoigilaaGreatDoor
