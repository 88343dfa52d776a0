/- The statement's example runs to true, by the evaluator. No condition. -/
import Derived.Test.YtplnojohlbbalaaUxX
import Derived.Test.YtplnojohlbbalaaEvZ
namespace Go.Proofs.Ytplnojohlbbalaa
open Go.RowKit
open Ev
theorem livesRun : callA Try.prog x0 0 hint 20000 14 [] h0 saysTrue = .ok := by kernel_rfl
theorem awakes (W : World) : Calls Try.prog 14 #[] W fun e w' => e = .returned (.bool true) ∧ Below W.heap.size W w' := true_of_run x0_ok Try.checked.mixed livesRun W
end Go.Proofs.Ytplnojohlbbalaa
