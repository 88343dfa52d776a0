/- A file system that no call made: its calls of the table. Condition: its table is none, in whatever later memory. -/
import Derived.Test.YtpohjgnfndgniaaGreatDoorTn2
import Derived.Test.YtpohjgnfndgniaaGreatDoorM10
namespace Go.Proofs.YtpohjgnfndgniaaGreatDoor
open Go.RowKit
theorem nfHold (f : Value) (w : World) (H : NoF f w) (x : Int) : Calls Tryz.prog 21 #[f, .int .i64 x] w fun e w' => e = .returned (.int .i64 14) ∧ w' = w := by
  have HF := hid6 (H w (Mod.refl _ _))
  have HX := hid6 (tn_hold (.pointer none) w (tmade_nil _) (.int .i64 x))
  clear H
  go_enter Tryz.func21, Tryz.ntmps21
  go_wp2_with (first | (go_at_call 99; refine Calls.mono HF.out ?_; rintro e w9 ⟨rfl, hw9⟩; rw [hw9]; clear hw9 w9) | (go_at_call 100; refine Calls.mono HX.out ?_; rintro e w9 ⟨rfl, hw9⟩; rw [hw9]; clear hw9 w9))
  go_ret
  exact ⟨rfl, rfl⟩
theorem nfRelease (f : Value) (w : World) (H : NoF f w) (x : Int) : Calls Tryz.prog 22 #[f, .int .i64 x] w fun e w' => e = .returned (.int .i64 14) ∧ w' = w := by
  have HF := hid6 (H w (Mod.refl _ _))
  have HX := hid6 (tn_release (.pointer none) w (tmade_nil _) (.int .i64 x))
  clear H
  go_enter Tryz.func22, Tryz.ntmps22
  go_wp2_with (first | (go_at_call 99; refine Calls.mono HF.out ?_; rintro e w9 ⟨rfl, hw9⟩; rw [hw9]; clear hw9 w9) | (go_at_call 101; refine Calls.mono HX.out ?_; rintro e w9 ⟨rfl, hw9⟩; rw [hw9]; clear hw9 w9))
  go_ret
  exact ⟨rfl, rfl⟩
theorem nfOwned (f : Value) (w : World) (H : NoF f w) (x : Int) : Calls Tryz.prog 29 #[f, .int .i64 x] w fun e w' => e = .returned (.tuple #[.slice none 0 0, .int .i64 14]) ∧ w' = w := by
  have HF := hid6 (H w (Mod.refl _ _))
  have HX := hid6 (tn_owned (.pointer none) w (tmade_nil _) (.int .i64 x))
  clear H
  go_enter Tryz.func29, Tryz.ntmps29
  go_wp2_with (first | (go_at_call 99; refine Calls.mono HF.out ?_; rintro e w9 ⟨rfl, hw9⟩; rw [hw9]; clear hw9 w9) | (go_at_call 114; refine Calls.mono HX.out ?_; rintro e w9 ⟨rfl, hw9⟩; rw [hw9]; clear hw9 w9))
  go_ret2
  exact ⟨rfl, rfl⟩
theorem nfStatfs (f : Value) (w : World) (H : NoF f w) : Calls Tryz.prog 30 #[f] w fun e w' => e = .returned (.tuple #[.int .i64 0, .int .i64 0, .int .i64 0, .int .i64 0]) ∧ w' = w := by
  have HF := hid6 (H w (Mod.refl _ _))
  have HX := hid6 (tn_room (.pointer none) w (tmade_nil _) )
  clear H
  go_enter Tryz.func30, Tryz.ntmps30
  go_wp2_with (first | (go_at_call 99; refine Calls.mono HF.out ?_; rintro e w9 ⟨rfl, hw9⟩; rw [hw9]; clear hw9 w9) | (go_at_call 115; refine Calls.mono HX.out ?_; rintro e w9 ⟨rfl, hw9⟩; rw [hw9]; clear hw9 w9))
  exact ⟨rfl, _, results_tmp4 rfl _ _ _, rfl, rfl⟩
theorem nfClock (f : Value) (w : World) (H : NoF f w) (x : Int) : Calls Tryz.prog 31 #[f, .int .i64 x] w fun e w' => e = .returned (.tuple #[]) ∧ w' = w := by
  have HF := hid6 (H w (Mod.refl _ _))
  have HX := hid6 (tn_clock (.pointer none) w (tmade_nil _) (.int .i64 x))
  clear H
  go_enter Tryz.func31, Tryz.ntmps31
  go_wp2_with (first | (go_at_call 99; refine Calls.mono HF.out ?_; rintro e w9 ⟨rfl, hw9⟩; rw [hw9]; clear hw9 w9) | (go_at_call 116; refine Calls.mono HX.out ?_; rintro e w9 ⟨rfl, hw9⟩; rw [hw9]; clear hw9 w9))
  exact ⟨rfl, _, results_none rfl _ _ _, rfl, rfl⟩
theorem nfUsed (f : Value) (w : World) (H : NoF f w) : Calls Tryz.prog 32 #[f] w fun e w' => e = .returned (.slice none 0 0) ∧ w' = w := by
  have HF := hid6 (H w (Mod.refl _ _))
  have HX := hid6 (tn_blocks (.pointer none) w (tmade_nil _) )
  clear H
  go_enter Tryz.func32, Tryz.ntmps32
  go_wp2_with (first | (go_at_call 99; refine Calls.mono HF.out ?_; rintro e w9 ⟨rfl, hw9⟩; rw [hw9]; clear hw9 w9) | (go_at_call 117; refine Calls.mono HX.out ?_; rintro e w9 ⟨rfl, hw9⟩; rw [hw9]; clear hw9 w9))
  go_ret
  exact ⟨rfl, rfl⟩
theorem nfInodes (f : Value) (w : World) (H : NoF f w) : Calls Tryz.prog 33 #[f] w fun e w' => e = .returned (.slice none 0 0) ∧ w' = w := by
  have HF := hid6 (H w (Mod.refl _ _))
  have HX := hid6 (tn_used (.pointer none) w (tmade_nil _) )
  clear H
  go_enter Tryz.func33, Tryz.ntmps33
  go_wp2_with (first | (go_at_call 99; refine Calls.mono HF.out ?_; rintro e w9 ⟨rfl, hw9⟩; rw [hw9]; clear hw9 w9) | (go_at_call 118; refine Calls.mono HX.out ?_; rintro e w9 ⟨rfl, hw9⟩; rw [hw9]; clear hw9 w9))
  go_ret
  exact ⟨rfl, rfl⟩
theorem nfNow (f : Value) (w : World) (H : NoF f w) : Calls Tryz.prog 34 #[f] w fun e w' => e = .returned (.int .i64 0) ∧ w' = w := by
  have HF := hid6 (H w (Mod.refl _ _))
  have HX := hid6 (tn_now (.pointer none) w (tmade_nil _) )
  clear H
  go_enter Tryz.func34, Tryz.ntmps34
  go_wp2_with (first | (go_at_call 99; refine Calls.mono HF.out ?_; rintro e w9 ⟨rfl, hw9⟩; rw [hw9]; clear hw9 w9) | (go_at_call 119; refine Calls.mono HX.out ?_; rintro e w9 ⟨rfl, hw9⟩; rw [hw9]; clear hw9 w9))
  go_ret
  exact ⟨rfl, rfl⟩
theorem nfCopy (f : Value) (w : World) (H : NoF f w) : Calls Tryz.prog 35 #[f] w fun e w' => e = .returned (.pointer none) ∧ w' = w := by
  have HF := hid6 (H w (Mod.refl _ _))
  have HX := hid6 (tn_copy (.pointer none) w (tmade_nil _) )
  clear H
  go_enter Tryz.func35, Tryz.ntmps35
  go_wp2_with (first | (go_at_call 99; refine Calls.mono HF.out ?_; rintro e w9 ⟨rfl, hw9⟩; rw [hw9]; clear hw9 w9) | (go_at_call 120; refine Calls.mono HX.out ?_; rintro e w9 ⟨rfl, hw9⟩; rw [hw9]; clear hw9 w9))
  go_ret
  exact ⟨rfl, rfl⟩
theorem nfInfo (f : Value) (w : World) (H : NoF f w) (x : Int) : Calls Tryz.prog 26 #[f, .int .i64 x] w fun e w' => e = .returned (.tuple #[.agg #[.int .i64 0, .int .i64 0, .int .i64 0, .int .i64 0, .int .i64 0, .int .i64 0, .int .i64 0, .int .i64 0, .int .i64 0, .int .i64 0], .int .i64 14]) ∧ Mod (fun _ => False) w w' := by
  have HF : Hid (∀ o, _) := fun o => H _ ((Mod.refl (fun _ => False) w).alloc o)
  have HS : Hid (∀ W, Calls Tryz.prog 107 #[.pointer none, .int .i64 x] W _) := fun W => tn_stat (.pointer none) W (tmade_nil _) (.int .i64 x)
  unfold zeroS at HS
  have HM : Hid (∀ o o1, Mod (fun _ => False) w ((w.alloc o).alloc o1)) := fun o o1 => ((Mod.refl _ w).alloc o).alloc o1
  clear H
  go_enter Tryz.func26, Tryz.ntmps26
  go_wp2_with (first | (go_at_call 99; refine Calls.mono (HF.out _) ?_; rintro e w3 ⟨rfl, hw3⟩; rw [hw3]; clear hw3 w3))
  refine Calls.mono (HS.out _) ?_
  rintro e w1 ⟨rfl, hw1⟩
  rw [hw1]
  clear hw1 w1
  go_wp2
  refine ⟨rfl, _, by simp [results, Tryz.results26, go_sem], rfl, HM.out _ _⟩
end Go.Proofs.YtpohjgnfndgniaaGreatDoor
