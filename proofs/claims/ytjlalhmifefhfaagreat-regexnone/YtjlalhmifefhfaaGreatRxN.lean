/- RegexNone: for whatever text and number the statement's function answers true and leaves them as they were (its whole run goes through the evaluator, which looks at neither). Seat of RegexNone alone. No condition. -/
import Derived.Test.YtjlalhmifefhfaaGreatRows
import Derived.Test.YtjlalhmifefhfaaGreatRxX
import Derived.ProofKit
import Derived.ChangeMaps5
namespace Go.Proofs.YtjlalhmifefhfaaGreat
open Ev
open Go.ChangeShapes Go.WideShapes Go.ChangeAt Go.RowKit
open Go.ChangeMaps (open_string shut_string)
theorem rxAll (s : List UInt8) (m : Int) : callA Tryz.prog rxX 0 hint 20000 3 [.str s, .int .i64 m] ⟨10, .nil⟩ saysTrue = .ok := by kernel_rfl
theorem rxWalk (s : List UInt8) (m : Int) (w : World) : Calls Tryz.prog 3 #[.string ⟨s.toArray⟩, .int .i64 m] w fun e w' => e = .returned (.bool true) ∧ Below w.heap.size w w' := by
  obtain ⟨v, H', rd', wr', h1, h2⟩ := callA_ok rxX_ok Tryz.checked.mixed (rxAll s m)
  have hv : v = .bool true := by
    unfold saysTrue at h1
    split at h1
    · rfl
    · cases h1
  subst hv
  refine (h2 (fun _ => none) w #[.string ⟨s.toArray⟩, .int .i64 m] ⟨_, _, rfl, rfl, _, _, rfl, rfl, rfl⟩ ⟨fun x o _ h => (by cases h), fun x y o o' k k' _ _ h => (by cases h), fun g hg => (by omega), fun x k h => (by cases h)⟩ (fun _ _ => rfl) (Nat.zero_le _)).mono ?_
  rintro e w' ⟨r, ρ', rfl, a1, a2⟩
  exact ⟨by rw [show r = .bool true from a1], a2.rest.1, a2.rest.2.1, a2.rest.2.2, a2.size, fun b hb => a2.same b hb fun x o k _ h => (by cases h)⟩
end Go.Proofs.YtjlalhmifefhfaaGreat
