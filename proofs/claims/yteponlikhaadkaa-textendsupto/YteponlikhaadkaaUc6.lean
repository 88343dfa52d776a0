/- Same. No condition. -/
import Derived.Test.YteponlikhaadkaaUc4
namespace Go.Proofs.Yteponlikhaadkaa
open Go.RowKit
attribute [local go_sem] ext_eq app_eq get_eq
set_option maxRecDepth 100000 in
theorem rSame1 {B1 B2 : Nat} {W : World} {v1 v2 : Value} {l : List UInt8} (h1 : By B1 W v1 l) (h2 : By B2 W v2 l) : Calls Try.prog 22 #[v1, v2] W fun e w' => e = .returned (.bool true) ∧ w' = W := by
  have t1 := h1.text
  have t2 := h2.text
  clear h1 h2
  go_enter Try.func22, Try.ntmps22
  go_wp2_with fail
  go_ret
  exact ⟨by simp, rfl⟩
set_option maxRecDepth 100000 in
theorem rSame {B1 B2 : Nat} {W : World} {v1 v2 : Value} {l : List UInt8} (h1 : By B1 W v1 l) (h2 : By B2 W v2 l) : Calls Try.prog 5 #[v1, v2] W fun e w' => e = .returned (.bool true) ∧ w' = W := by
  have HS := hidA (rSame1 h1 h2)
  clear h1 h2
  go_enter Try.func5, Try.ntmps5
  go_wp2_with (go_at_call 22; with_reducible refine HS.out.mono ?_; rintro e w1 ⟨rfl, hw1⟩; rw [hw1]; clear hw1 w1)
  go_ret
  exact ⟨rfl, rfl⟩
end Go.Proofs.Yteponlikhaadkaa
