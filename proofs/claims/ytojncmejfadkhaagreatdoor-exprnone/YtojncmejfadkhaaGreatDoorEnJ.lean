/- What the kernel reckons of ExprNone's row (its forced cells). No condition. -/
import Derived.Test.YtojncmejfadkhaaGreatDoorRows
import Derived.JoinedOf
namespace Go.Proofs.YtojncmejfadkhaaGreatDoor
theorem wn_closed : joinedFacts Tryz.pinned.checked.prog 3 Tryz.f3 Rows.exprNoneSpec Rows.exprNoneRow = true := by kernel_rfl
end Go.Proofs.YtojncmejfadkhaaGreatDoor
