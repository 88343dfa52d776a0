/- WalkNone run whole by the evaluator: no roots, or more than are looked at. Seat of WalkNone. No condition. -/
import Derived.Test.YtiegfgjmbohemaaGreatDoorWzN
namespace Go.Proofs.YtiegfgjmbohemaaGreatDoor
open Ev
theorem wz_nils (f d sk p : Value) : callA Tryz.prog xA 5 hint 100000 3 (wzArgs (.opq f) (.opq d) .nils (.opq sk) (.opq p)) h0 saysTrue = .ok := by kernel_rfl
theorem wz_mt (f d sk p : Value) : callA Tryz.prog xA 5 hint 100000 3 (wzArgs (.opq f) (.opq d) .mt (.opq sk) (.opq p)) h0 saysTrue = .ok := by kernel_rfl
theorem wz_many (f d sk p : Value) (m c : Nat) : callA Tryz.prog xA 5 hint 100000 3 (wzArgs (.opq f) (.opq d) (.slice 5 0 (Nat.add m 41) (.k c)) (.opq sk) (.opq p)) h0 saysTrue = .ok := by kernel_rfl
end Go.Proofs.YtiegfgjmbohemaaGreatDoor
