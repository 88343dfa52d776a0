/- WalkNames' whole run by the evaluator: it tells true. Seat of WalkNames alone. No condition. -/
import Derived.Test.YtkfnmbmploakhaaGreatDoorWnK7
namespace Go.Proofs.YtkfnmbmploakhaaGreatDoor
open Ev
theorem fnRun : callA Tryz.prog x7 5 hint 100000 3 [] h0 saysTrue = .ok := by kernel_rfl
end Go.Proofs.YtkfnmbmploakhaaGreatDoor
