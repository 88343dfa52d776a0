/- A run that wants no table and tells true: the machine's call does so in whatever memory. No condition. -/
import Derived.Test.YtplnojohlbbalaaEvX
import Derived.Below
namespace Go.Proofs.Ytplnojohlbbalaa.Ev
open Go.RowKit
variable {P : Program} {X : Ext}
theorem true_of_run (hX : XOk P 0 X) (hM : P.follows .mixedOrders = true) {K : Hint} {n f m : Nat} (hr : callA P X 0 K n f [] ⟨m, .nil⟩ saysTrue = .ok) (w : World) : Calls P f #[] w fun e w' => e = .returned (.bool true) ∧ Below w.heap.size w w' := by
  obtain ⟨v, H', rd', wr', h1, h2⟩ := callA_ok hX hM hr
  have hv : v = .bool true := by
    unfold saysTrue at h1
    split at h1
    · rfl
    · cases h1
  subst hv
  refine (h2 (fun _ => none) w #[] rfl ⟨fun x o _ h => (by cases h), fun x y o o' k k' _ _ h => (by cases h), fun g hg => (by omega), fun x k h => (by cases h)⟩ (fun _ _ => rfl) (Nat.zero_le _)).mono ?_
  rintro e w' ⟨r, ρ', rfl, a1, a2⟩
  exact ⟨by rw [show r = .bool true from a1], a2.rest.1, a2.rest.2.1, a2.rest.2.2, a2.size, fun b hb => a2.same b hb fun x o k _ h => (by cases h)⟩
end Go.Proofs.Ytplnojohlbbalaa.Ev
