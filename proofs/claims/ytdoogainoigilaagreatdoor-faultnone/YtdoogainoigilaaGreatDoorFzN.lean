/- FaultNone's example, run once and for all, and the whole function at any call and any plan, which it does not look at. Seat of FaultNone. No condition. -/
import Derived.Test.YtdoogainoigilaaGreatDoorFzB
import Derived.Test.YtdoogainoigilaaGreatDoorFzK7
namespace Go.Proofs.YtdoogainoigilaaGreatDoor
open Ev
noncomputable def cl : Cl := ⟨true, h0, 9⟩
theorem awRun : callA Tryz.prog x7 5 hint 100000 23 [] h0 cl.asks = .ok := by kernel_rfl
noncomputable def xA : Ext := x0.close 23 cl
theorem xA_ok : XOk Tryz.prog 5 xA := XOk.close x0_ok x7_ok Tryz.checked.mixed awRun h0_tabs (by show 5 ≤ 15; omega)
end Go.Proofs.YtdoogainoigilaaGreatDoor
