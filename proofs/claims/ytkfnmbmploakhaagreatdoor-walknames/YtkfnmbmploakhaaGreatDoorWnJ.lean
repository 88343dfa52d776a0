/- What the kernel reckons of WalkNames' row (its forced cells). No condition. -/
import Derived.Test.YtkfnmbmploakhaaGreatDoorRows
import Derived.JoinedOf
namespace Go.Proofs.YtkfnmbmploakhaaGreatDoor
theorem wn_closed : joinedFacts Tryz.pinned.checked.prog 3 Tryz.f3 Rows.walkNamesSpec Rows.walkNamesRow = true := by kernel_rfl
end Go.Proofs.YtkfnmbmploakhaaGreatDoor
