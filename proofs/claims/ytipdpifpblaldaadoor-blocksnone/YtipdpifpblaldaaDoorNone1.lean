/- The store's calls on a store that no call made (nil, or the zero one): each answers nothing, and EFAULT. Condition: 'made' answers false of it. -/
import Derived.Test.YtipdpifpblaldaaDoorWrites
namespace Go.Proofs.YtipdpifpblaldaaDoor
open Go.RowKit
/-- 'made' says no of this receiver. -/
def NotMade (r : Value) (w : World) : Prop := Calls Tryd.prog 33 #[r] w fun e w' => e = .returned (.bool false) ∧ w' = w
theorem notMade_nil (w : World) : NotMade (.pointer none) w := made_nil w
theorem notMade_zero (b : Nat) (x : Option Addr) (c : Nat) (w : World) (h : w.cell? ⟨b, 64, none⟩ = some (.slice x 0 c)) : NotMade (.pointer (some ⟨b, 0, none⟩)) w := made_no b x c w h
theorem NotMade.out {r : Value} {w : World} (h : NotMade r w) : Calls Tryd.prog 33 #[r] w fun e w' => e = .returned (.bool false) ∧ w' = w := h
set_option maxHeartbeats 400000 in
theorem none_total (r : Value) (w : World) (H : NotMade r w) : Calls Tryd.prog 14 #[r] w fun e w' => e = .returned (.int .i64 0) ∧ w' = w := by
  go_enter Tryd.func14, Tryd.ntmps14
  go_wp2_with (go_at_call 33; refine H.out.mono ?_; rintro e w' ⟨rfl, rfl⟩)
  go_ret
  exact ⟨rfl, rfl⟩
set_option maxHeartbeats 400000 in
theorem none_left (r : Value) (w : World) (H : NotMade r w) : Calls Tryd.prog 15 #[r] w fun e w' => e = .returned (.int .i64 0) ∧ w' = w := by
  go_enter Tryd.func15, Tryd.ntmps15
  go_wp2_with (go_at_call 33; refine H.out.mono ?_; rintro e w' ⟨rfl, rfl⟩)
  go_ret
  exact ⟨rfl, rfl⟩
set_option maxHeartbeats 400000 in
theorem none_used (r : Value) (w : World) (H : NotMade r w) : Calls Tryd.prog 18 #[r] w fun e w' => e = .returned (.slice none 0 0) ∧ w' = w := by
  go_enter Tryd.func18, Tryd.ntmps18
  go_wp2_with (go_at_call 33; refine H.out.mono ?_; rintro e w' ⟨rfl, rfl⟩)
  go_ret
  exact ⟨rfl, rfl⟩
set_option maxHeartbeats 400000 in
theorem none_copy (r : Value) (w : World) (H : NotMade r w) : Calls Tryd.prog 11 #[r] w fun e w' => e = .returned (.pointer none) ∧ w' = w := by
  go_enter Tryd.func11, Tryd.ntmps11
  go_wp2_with (go_at_call 33; refine H.out.mono ?_; rintro e w' ⟨rfl, rfl⟩)
  go_ret
  exact ⟨rfl, rfl⟩
set_option maxHeartbeats 400000 in
theorem none_alloc (r : Value) (w : World) (H : NotMade r w) : Calls Tryd.prog 20 #[r] w fun e w' => e = .returned (.tuple #[.int .i64 0, .int .i64 14]) ∧ w' = w := by
  go_enter Tryd.func20, Tryd.ntmps20
  go_wp2_with (go_at_call 33; refine H.out.mono ?_; rintro e w' ⟨rfl, rfl⟩)
  go_ret2
  exact ⟨rfl, rfl⟩
set_option maxHeartbeats 400000 in
theorem none_is (r : Value) (w : World) (H : NotMade r w) (i : Int) : Calls Tryd.prog 24 #[r, .int .i64 i] w fun e w' => e = .returned (.bool false) ∧ w' = w := by
  go_enter Tryd.func24, Tryd.ntmps24
  go_wp2_with (go_at_call 33; refine H.out.mono ?_; rintro e w' ⟨rfl, rfl⟩)
  go_ret
  exact ⟨rfl, rfl⟩
set_option maxHeartbeats 400000 in
theorem none_fit (r : Value) (w : World) (H : NotMade r w) (i : Int) : Calls Tryd.prog 38 #[r, .int .i64 i] w fun e w' => e = .returned (.int .i64 14) ∧ w' = w := by
  go_enter Tryd.func38, Tryd.ntmps38
  go_wp2_with (go_at_call 33; refine H.out.mono ?_; rintro e w' ⟨rfl, rfl⟩)
  go_ret
  exact ⟨rfl, rfl⟩
set_option maxHeartbeats 400000 in
theorem none_free (r : Value) (w : World) (H : NotMade r w) (i : Int) : Calls Tryd.prog 22 #[r, .int .i64 i] w fun e w' => e = .returned (.int .i64 14) ∧ w' = w := by
  go_enter Tryd.func22, Tryd.ntmps22
  go_wp2_with (go_at_call 38; refine (none_fit r w H i).mono ?_; rintro e w' ⟨rfl, rfl⟩)
  go_ret
  exact ⟨rfl, rfl⟩
set_option maxHeartbeats 400000 in
theorem none_read (r : Value) (w : World) (H : NotMade r w) (i : Int) : Calls Tryd.prog 21 #[r, .int .i64 i] w fun e w' => e = .returned (.tuple #[.slice none 0 0, .int .i64 14]) ∧ w' = w := by
  go_enter Tryd.func21, Tryd.ntmps21
  go_wp2_with (go_at_call 38; refine (none_fit r w H i).mono ?_; rintro e w' ⟨rfl, rfl⟩)
  go_ret2
  exact ⟨rfl, rfl⟩
set_option maxHeartbeats 400000 in
theorem none_write (r : Value) (w : World) (H : NotMade r w) (i t : Int) (v : Value) : Calls Tryd.prog 23 #[r, .int .i64 i, .int .i64 t, v] w fun e w' => e = .returned (.int .i64 14) ∧ w' = w := by
  go_enter Tryd.func23, Tryd.ntmps23
  go_wp2_with (go_at_call 38; refine (none_fit r w H i).mono ?_; rintro e w' ⟨rfl, rfl⟩)
  go_ret
  exact ⟨rfl, rfl⟩
end Go.Proofs.YtipdpifpblaldaaDoor
