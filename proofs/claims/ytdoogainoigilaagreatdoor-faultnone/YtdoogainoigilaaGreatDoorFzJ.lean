/- What the kernel reckons of FaultNone' row (its forced cells). No condition. -/
import Derived.Test.YtdoogainoigilaaGreatDoorRows
import Derived.JoinedOf
namespace Go.Proofs.YtdoogainoigilaaGreatDoor
theorem wn_closed : joinedFacts Tryz.pinned.checked.prog 3 Tryz.f3 Rows.faultNoneSpec Rows.faultNoneRow = true := by kernel_rfl
end Go.Proofs.YtdoogainoigilaaGreatDoor
