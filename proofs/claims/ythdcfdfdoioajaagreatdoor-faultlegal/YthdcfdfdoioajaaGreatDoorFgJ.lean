/- What the kernel reckons of FaultLegal' row (its forced cells). No condition. -/
import Derived.Test.YthdcfdfdoioajaaGreatDoorRows
import Derived.JoinedOf
namespace Go.Proofs.YthdcfdfdoioajaaGreatDoor
theorem wn_closed : joinedFacts Tryz.pinned.checked.prog 3 Tryz.f3 Rows.faultLegalSpec Rows.faultLegalRow = true := by kernel_rfl
end Go.Proofs.YthdcfdfdoioajaaGreatDoor
