/- What the kernel reckons of SedNone's row (its forced cells). No condition. -/
import Derived.Test.YtceniocofdgebaaGreatDoorRows
import Derived.JoinedOf
namespace Go.Proofs.YtceniocofdgebaaGreatDoor
theorem wn_closed : joinedFacts Tryz.pinned.checked.prog 3 Tryz.f3 Rows.sedNoneSpec Rows.sedNoneRow = true := by kernel_rfl
end Go.Proofs.YtceniocofdgebaaGreatDoor
