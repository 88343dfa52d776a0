/- What the kernel reckons of the row (its forced cells): the roads. No condition. -/
import Derived.Test.YtdldpehmcfbbeaaGreatDoorRows
import Derived.JoinedOf
namespace Go.Proofs.YtdldpehmcfbbeaaGreatDoor
theorem jf9 : ((Rows.bufNoneRow.inPlace == (Tryz.pinned.checked.prog).inPlace 3)) = true := by kernel_rfl
theorem jf10 : ((Rows.bufNoneRow.unfollowed == (Tryz.pinned.checked.prog).unfollowed 3)) = true := by kernel_rfl
theorem jf11 : ((Rows.bufNoneRow.recurses == (Tryz.pinned.checked.prog).recurses 3)) = true := by kernel_rfl
theorem jf12 : ((Rows.bufNoneRow.named == (Tryz.pinned.checked.prog).varsNamed 3)) = true := by kernel_rfl
end Go.Proofs.YtdldpehmcfbbeaaGreatDoor
