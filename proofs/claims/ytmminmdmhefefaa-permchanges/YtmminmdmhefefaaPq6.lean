/- PermChanges' function answers true. Condition: a length that fits. -/
import Derived.Test.YtmminmdmhefefaaPq5
import Derived.Test.YtmminmdmhefefaaPmi
namespace Go.Proofs.Ytmminmdmhefefaa
open Go.RowKit
theorem vChange (w W : World) (l : List UInt8) (old umask : Int) (hl : l.length ≤ 2 ^ 59) (h : Hid (Below w.heap.size w W)) : Calls Try.prog 14 #[.string ⟨l.toArray⟩, .int .i64 old, .int .i64 umask] W fun e w' => e = .returned (.tuple #[.int .i64 (Pm.chgM l old umask), .int .i64 (Pm.chgE l old umask)]) ∧ Hid (Below w.heap.size w w') :=
  (pChange l old umask W (by omega)).mono fun _ _ ⟨he, hB⟩ => ⟨he, h.out.trans (hB.mono h.out.size)⟩
theorem vChangeR (w W : World) (l : List UInt8) (old umask : Int) (hl : l.length ≤ 2 ^ 59) (h : Hid (Below w.heap.size w W)) : Calls Try.prog 15 #[.string ⟨l.toArray⟩, .int .i64 old, .int .i64 umask] W fun e w' => e = .returned (.tuple #[.int .i64 (Pm.chgM l old umask), .int .i64 (Pm.chgE l old umask)]) ∧ Hid (Below w.heap.size w w') :=
  (rChange l old umask W hl).mono fun _ _ ⟨he, hw⟩ => ⟨he, by rw [hw]; exact h⟩
set_option maxRecDepth 100000 in
set_option maxHeartbeats 1000000 in
theorem changes_walk (l : List UInt8) (old umask : Int) (w : World) (hl : l.length ≤ 2 ^ 59) : Calls Try.prog 4 #[.string ⟨l.toArray⟩, .int .i64 old, .int .i64 umask] w fun e w' => e = .returned (.bool true) ∧ Below w.heap.size w w' := by
  have HL : Hid (Below w.heap.size w w) := Below.refl _ _
  go_enter Try.func4, Try.ntmps4
  go_wp2_with (first | (go_at_call 14; refine (vChange w _ l old umask hl (by assumption)).mono ?_; rintro e w' ⟨rfl, HN⟩) | (go_at_call 15; refine (vChangeR w _ l old umask hl (by assumption)).mono ?_; rintro e w' ⟨rfl, HN⟩) | (go_at_call 13; refine (wLives w _ (by assumption)).mono ?_; rintro e w' ⟨rfl, HN⟩))
  go_ret
  exact ⟨rfl, by assumption⟩
end Go.Proofs.Ytmminmdmhefefaa
