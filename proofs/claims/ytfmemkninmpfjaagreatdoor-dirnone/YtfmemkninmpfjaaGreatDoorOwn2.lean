/- The walks of Owned, Is and Clock. Condition: the table lies in memory as 'Tb' says. -/
import Derived.Test.YtfmemkninmpfjaaGreatDoorOwn
namespace Go.Proofs.YtfmemkninmpfjaaGreatDoor
open Go.RowKit
section
variable {w : World} {t q b c n N : Nat} {clk : Int} {F : Nat → Nat → Int} {R : Nat → Nat → Nat} {u : Nat → Bool} {D : Nat → Nat}
theorem tis_yes (T : Tb w t q b c n N clk F R u D) (i : Nat) (hi : i < N) (hz : F i 0 ≠ 0) : Calls Tryz.prog 65 #[.pointer (some ⟨t, 0, none⟩), .int .i64 ((i : Int) + 1)] w fun e w' => e = .returned (.bool true) ∧ w' = w := by
  have HF : Hid (Calls Tryz.prog 76 #[.pointer (some ⟨t, 0, none⟩), .int .i64 ((i : Int) + 1)] w fun e w' => e = .returned (.tuple #[.pointer (some ⟨q, i * 17, none⟩), .int .i64 0]) ∧ w' = w) := find_ok T i hi hz
  clear T hz
  go_enter Tryz.func65, Tryz.ntmps65
  go_wp2_with (go_at_call 76; refine HF.out.mono ?_; rintro e w1 ⟨rfl, hw1⟩; rw [hw1]; clear hw1 w1)
  go_ret
  exact ⟨by simp, rfl⟩
theorem tis_not (T : Tb w t q b c n N clk F R u D) (i : Int) (hi : i < 1 ∨ N < i ∨ F (i - 1).toNat 0 = 0) : Calls Tryz.prog 65 #[.pointer (some ⟨t, 0, none⟩), .int .i64 i] w fun e w' => e = .returned (.bool false) ∧ w' = w := by
  have HF : Hid (Calls Tryz.prog 76 #[.pointer (some ⟨t, 0, none⟩), .int .i64 i] w fun e w' => e = .returned (.tuple #[.pointer none, .int .i64 2]) ∧ w' = w) := find_not T i hi
  clear T hi
  go_enter Tryz.func65, Tryz.ntmps65
  go_wp2_with (go_at_call 76; refine HF.out.mono ?_; rintro e w1 ⟨rfl, hw1⟩; rw [hw1]; clear hw1 w1)
  go_ret
  exact ⟨by simp, rfl⟩
end
end Go.Proofs.YtfmemkninmpfjaaGreatDoor
