/- A file system that no call made: its call Entries. Condition: its table is none, in whatever later memory. -/
import Derived.Test.YtpohjgnfndgniaaGreatDoorTn2
import Derived.Test.YtpohjgnfndgniaaGreatDoorDrk
namespace Go.Proofs.YtpohjgnfndgniaaGreatDoor
open Go.RowKit
theorem tNil (W : World) : NoTs (.pointer none) W := fun _ _ => tmade_nil _
theorem nfEntries (f : Value) (w : World) (H : NoF f w) (x : Int) : Calls Tryz.prog 27 #[f, .int .i64 x] w fun e w' => e = .returned (.tuple #[.slice none 0 0, .int .i64 14]) ∧ Mod (fun _ => False) w w' := by
  have HF := hid6 (H w (Mod.refl _ _))
  have HX := hid6 (nList (.pointer none) w (tNil w) (.int .i64 x))
  clear H
  go_enter Tryz.func27, Tryz.ntmps27
  go_wp2_with (first | (go_at_call 99; refine Calls.mono HF.out ?_; rintro e w9 ⟨rfl, hw9⟩; rw [hw9]; clear hw9 w9))
  refine Calls.mono HX.out ?_
  rintro e w1 ⟨rfl, M1⟩
  have HR := hid6 M1
  clear M1
  go_wp2
  go_ret2
  exact ⟨rfl, HR.out⟩
end Go.Proofs.YtpohjgnfndgniaaGreatDoor
