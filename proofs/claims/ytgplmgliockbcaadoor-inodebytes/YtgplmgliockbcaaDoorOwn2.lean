/- The walks of Owned, Is and Clock. Condition: the table lies in memory as 'Tb' says. -/
import Derived.Test.YtgplmgliockbcaaDoorOwn
namespace Go.Proofs.YtgplmgliockbcaaDoor
open Go.RowKit
section
variable {w : World} {t q b c n N : Nat} {clk : Int} {F : Nat → Nat → Int} {R : Nat → Nat → Nat} {u : Nat → Bool} {D : Nat → Nat}
set_option maxHeartbeats 1000000 in
theorem towned (T : Tb w t q b c n N clk F R u D) (i : Nat) (hi : i < N) (hz : F i 0 ≠ 0) : Calls Tryd.prog 20 #[.pointer (some ⟨t, 0, none⟩), .int .i64 ((i : Int) + 1)] w fun e w' => ∃ v, e = .returned (.tuple #[v, .int .i64 0]) ∧ w'.ownsRow w.heap.size 3 1 v (ownL u D (R i) 8).length ((ownL u D (R i) 8).map intV) ∧ Mod (fun _ => False) w w' := by
  have HT : Hid (Tb w t q b c n N clk F R u D) := T
  have HZ : Hid (F i 0 ≠ 0) := hz
  clear T hz
  go_enter Tryd.func20, Tryd.ntmps20
  go_wp2_with (first | (go_at_call 41; refine (find_ok HT.out i hi HZ.out).mono ?_; rintro e w1 ⟨rfl, hw1⟩; rw [hw1]; clear hw1 w1) | (go_at_call 46; refine (owned_any HT.out i hi).mono ?_; rintro e w1 ⟨v, rfl, O1, M1⟩; have HO := Hid.intrG O1; have HM := Hid.intrG M1; clear O1 M1))
  go_ret2
  exact ⟨v, by simp, HO.out, HM.out⟩
theorem towned_not (T : Tb w t q b c n N clk F R u D) (i : Int) (hi : i < 1 ∨ N < i ∨ F (i - 1).toNat 0 = 0) : Calls Tryd.prog 20 #[.pointer (some ⟨t, 0, none⟩), .int .i64 i] w fun e w' => e = .returned (.tuple #[.slice none 0 0, .int .i64 2]) ∧ w' = w := by
  have HF : Hid (Calls Tryd.prog 41 #[.pointer (some ⟨t, 0, none⟩), .int .i64 i] w fun e w' => e = .returned (.tuple #[.pointer none, .int .i64 2]) ∧ w' = w) := find_not T i hi
  clear T hi
  go_enter Tryd.func20, Tryd.ntmps20
  go_wp2_with (go_at_call 41; refine HF.out.mono ?_; rintro e w1 ⟨rfl, hw1⟩; rw [hw1]; clear hw1 w1)
  go_ret2
  exact ⟨by simp, rfl⟩
theorem tis_yes (T : Tb w t q b c n N clk F R u D) (i : Nat) (hi : i < N) (hz : F i 0 ≠ 0) : Calls Tryd.prog 30 #[.pointer (some ⟨t, 0, none⟩), .int .i64 ((i : Int) + 1)] w fun e w' => e = .returned (.bool true) ∧ w' = w := by
  have HF : Hid (Calls Tryd.prog 41 #[.pointer (some ⟨t, 0, none⟩), .int .i64 ((i : Int) + 1)] w fun e w' => e = .returned (.tuple #[.pointer (some ⟨q, i * 17, none⟩), .int .i64 0]) ∧ w' = w) := find_ok T i hi hz
  clear T hz
  go_enter Tryd.func30, Tryd.ntmps30
  go_wp2_with (go_at_call 41; refine HF.out.mono ?_; rintro e w1 ⟨rfl, hw1⟩; rw [hw1]; clear hw1 w1)
  go_ret
  exact ⟨by simp, rfl⟩
theorem tis_not (T : Tb w t q b c n N clk F R u D) (i : Int) (hi : i < 1 ∨ N < i ∨ F (i - 1).toNat 0 = 0) : Calls Tryd.prog 30 #[.pointer (some ⟨t, 0, none⟩), .int .i64 i] w fun e w' => e = .returned (.bool false) ∧ w' = w := by
  have HF : Hid (Calls Tryd.prog 41 #[.pointer (some ⟨t, 0, none⟩), .int .i64 i] w fun e w' => e = .returned (.tuple #[.pointer none, .int .i64 2]) ∧ w' = w) := find_not T i hi
  clear T hi
  go_enter Tryd.func30, Tryd.ntmps30
  go_wp2_with (go_at_call 41; refine HF.out.mono ?_; rintro e w1 ⟨rfl, hw1⟩; rw [hw1]; clear hw1 w1)
  go_ret
  exact ⟨by simp, rfl⟩
end
end Go.Proofs.YtgplmgliockbcaaDoor
