/- ExprNone run whole by the evaluator, at any words, which it does not look at: it tells true. Seat of ExprNone. No condition. -/
import Derived.Test.YtojncmejfadkhaaGreatDoorEnX
import Derived.Test.YtojncmejfadkhaaGreatDoorEvZ
namespace Go.Proofs.YtojncmejfadkhaaGreatDoor
open Ev
theorem enRun (p : Value) : callA Tryz.prog x0 0 hint 100000 3 [.opq p] h0 saysTrue = .ok := by kernel_rfl
end Go.Proofs.YtojncmejfadkhaaGreatDoor
