/- What the kernel reckons of the row (its forced cells): the roads. No condition. -/
import Derived.Test.YtiegfgjmbohemaaGreatDoorRows
import Derived.JoinedOf
namespace Go.Proofs.YtiegfgjmbohemaaGreatDoor
theorem jf9 : ((Rows.walkNoneRow.inPlace == (Tryz.pinned.checked.prog).inPlace 3)) = true := by kernel_rfl
theorem jf10 : ((Rows.walkNoneRow.unfollowed == (Tryz.pinned.checked.prog).unfollowed 3)) = true := by kernel_rfl
theorem jf11 : ((Rows.walkNoneRow.recurses == (Tryz.pinned.checked.prog).recurses 3)) = true := by kernel_rfl
theorem jf12 : ((Rows.walkNoneRow.named == (Tryz.pinned.checked.prog).varsNamed 3)) = true := by kernel_rfl
end Go.Proofs.YtiegfgjmbohemaaGreatDoor
