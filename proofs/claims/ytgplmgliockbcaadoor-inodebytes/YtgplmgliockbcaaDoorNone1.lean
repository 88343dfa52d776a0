/- The table's calls on a table that no call made (nil, or the zero one): each answers nothing, and EFAULT. Condition: 'made' answers false of it. -/
import Derived.Test.YtgplmgliockbcaaDoorTab2
import Derived.Laws.ResultCell
namespace Go.Proofs.YtgplmgliockbcaaDoor
open Go.RowKit
theorem results_tmp4 {fn : Func} {a b c d : Tmp} (h : fn.results = #[.tmp a, .tmp b, .tmp c, .tmp d]) (tmps : Array Value) (P : Program) (w : World) :
    (results fn tmps).run P w = .ok (.tuple #[tmps.getD a undef, tmps.getD b undef, tmps.getD c undef, tmps.getD d undef]) w := by
  simp only [results, h]
  simp
/-- 'made' says no of this receiver. -/
def NoT (p : Value) (w : World) : Prop := Calls Tryd.prog 36 #[p] w fun e w' => e = .returned (.bool false) ∧ w' = w
theorem NoT.out {p : Value} {w : World} (h : NoT p w) : Calls Tryd.prog 36 #[p] w fun e w' => e = .returned (.bool false) ∧ w' = w := h
theorem find_none' (p v : Value) (w : World) (h : Calls Tryd.prog 36 #[p] w fun e w' => e = .returned (.bool false) ∧ w' = w) : Calls Tryd.prog 41 #[p, v] w fun e w' => e = .returned (.tuple #[.pointer none, .int .i64 14]) ∧ w' = w := by
  go_enter Tryd.func41, Tryd.ntmps41
  go_wp2_with (go_at_call 36; refine h.mono ?_; rintro e w1 ⟨rfl, hw1⟩; rw [hw1]; clear hw1 w1)
  go_ret2
  exact ⟨by simp, rfl⟩
set_option maxHeartbeats 400000 in
theorem tn_alloc (p : Value) (w : World) (H : NoT p w) (a b c : Value) : Calls Tryd.prog 16 #[p, a, b, c] w fun e w' => e = .returned (.tuple #[.int .i64 0, .int .i64 14]) ∧ w' = w := by
  go_enter Tryd.func16, Tryd.ntmps16
  go_wp2_with (first | (go_at_call 36; refine H.out.mono ?_; rintro e w1 ⟨rfl, hw1⟩; rw [hw1]; clear hw1 w1))
  go_ret2
  exact ⟨by simp, rfl⟩
set_option maxHeartbeats 400000 in
theorem tn_read (p : Value) (w : World) (H : NoT p w) (a b c : Value) : Calls Tryd.prog 17 #[p, a, b, c] w fun e w' => e = .returned (.tuple #[.slice none 0 0, .int .i64 14]) ∧ w' = w := by
  go_enter Tryd.func17, Tryd.ntmps17
  go_wp2_with (first | (go_at_call 41; refine (find_none' p _ w H.out).mono ?_; rintro e w1 ⟨rfl, hw1⟩; rw [hw1]; clear hw1 w1))
  go_ret2
  exact ⟨by simp, rfl⟩
set_option maxHeartbeats 400000 in
theorem tn_write (p : Value) (w : World) (H : NoT p w) (a b c : Value) : Calls Tryd.prog 18 #[p, a, b, c] w fun e w' => e = .returned (.tuple #[.int .i64 0, .int .i64 14]) ∧ w' = w := by
  go_enter Tryd.func18, Tryd.ntmps18
  go_wp2_with (first | (go_at_call 41; refine (find_none' p _ w H.out).mono ?_; rintro e w1 ⟨rfl, hw1⟩; rw [hw1]; clear hw1 w1))
  go_ret2
  exact ⟨by simp, rfl⟩
set_option maxHeartbeats 400000 in
theorem tn_owned (p : Value) (w : World) (H : NoT p w) (a : Value) : Calls Tryd.prog 20 #[p, a] w fun e w' => e = .returned (.tuple #[.slice none 0 0, .int .i64 14]) ∧ w' = w := by
  go_enter Tryd.func20, Tryd.ntmps20
  go_wp2_with (first | (go_at_call 41; refine (find_none' p _ w H.out).mono ?_; rintro e w1 ⟨rfl, hw1⟩; rw [hw1]; clear hw1 w1))
  go_ret2
  exact ⟨by simp, rfl⟩
set_option maxHeartbeats 400000 in
theorem tn_room (p : Value) (w : World) (H : NoT p w) : Calls Tryd.prog 21 #[p] w fun e w' => e = .returned (.tuple #[.int .i64 0, .int .i64 0, .int .i64 0, .int .i64 0]) ∧ w' = w := by
  go_enter Tryd.func21, Tryd.ntmps21
  go_wp2_with (first | (go_at_call 36; refine H.out.mono ?_; rintro e w1 ⟨rfl, hw1⟩; rw [hw1]; clear hw1 w1))
  exact bodyPost_ret (results_tmp4 rfl _ _ _) rfl ⟨rfl, rfl⟩
set_option maxHeartbeats 400000 in
theorem tn_clock (p : Value) (w : World) (H : NoT p w) (a : Value) : Calls Tryd.prog 22 #[p, a] w fun e w' => e = .returned (.tuple #[]) ∧ w' = w := by
  go_enter Tryd.func22, Tryd.ntmps22
  go_wp2_with (first | (go_at_call 36; refine H.out.mono ?_; rintro e w1 ⟨rfl, hw1⟩; rw [hw1]; clear hw1 w1))
  exact ⟨rfl, _, results_none rfl _ _ _, rfl, rfl⟩
set_option maxHeartbeats 400000 in
theorem tn_trunc (p : Value) (w : World) (H : NoT p w) (a b : Value) : Calls Tryd.prog 23 #[p, a, b] w fun e w' => e = .returned (.int .i64 14) ∧ w' = w := by
  go_enter Tryd.func23, Tryd.ntmps23
  go_wp2_with (first | (go_at_call 41; refine (find_none' p _ w H.out).mono ?_; rintro e w1 ⟨rfl, hw1⟩; rw [hw1]; clear hw1 w1))
  go_ret
  exact ⟨by simp, rfl⟩
set_option maxHeartbeats 400000 in
theorem tn_setmode (p : Value) (w : World) (H : NoT p w) (a b : Value) : Calls Tryd.prog 24 #[p, a, b] w fun e w' => e = .returned (.int .i64 14) ∧ w' = w := by
  go_enter Tryd.func24, Tryd.ntmps24
  go_wp2_with (first | (go_at_call 41; refine (find_none' p _ w H.out).mono ?_; rintro e w1 ⟨rfl, hw1⟩; rw [hw1]; clear hw1 w1))
  go_ret
  exact ⟨by simp, rfl⟩
set_option maxHeartbeats 400000 in
theorem tn_setowner (p : Value) (w : World) (H : NoT p w) (a b c : Value) : Calls Tryd.prog 25 #[p, a, b, c] w fun e w' => e = .returned (.int .i64 14) ∧ w' = w := by
  go_enter Tryd.func25, Tryd.ntmps25
  go_wp2_with (first | (go_at_call 41; refine (find_none' p _ w H.out).mono ?_; rintro e w1 ⟨rfl, hw1⟩; rw [hw1]; clear hw1 w1))
  go_ret
  exact ⟨by simp, rfl⟩
set_option maxHeartbeats 400000 in
theorem tn_settimes (p : Value) (w : World) (H : NoT p w) (a b c : Value) : Calls Tryd.prog 26 #[p, a, b, c] w fun e w' => e = .returned (.int .i64 14) ∧ w' = w := by
  go_enter Tryd.func26, Tryd.ntmps26
  go_wp2_with (first | (go_at_call 41; refine (find_none' p _ w H.out).mono ?_; rintro e w1 ⟨rfl, hw1⟩; rw [hw1]; clear hw1 w1))
  go_ret
  exact ⟨by simp, rfl⟩
set_option maxHeartbeats 400000 in
theorem tn_links (p : Value) (w : World) (H : NoT p w) (a b : Value) : Calls Tryd.prog 27 #[p, a, b] w fun e w' => e = .returned (.int .i64 14) ∧ w' = w := by
  go_enter Tryd.func27, Tryd.ntmps27
  go_wp2_with (first | (go_at_call 41; refine (find_none' p _ w H.out).mono ?_; rintro e w1 ⟨rfl, hw1⟩; rw [hw1]; clear hw1 w1))
  go_ret
  exact ⟨by simp, rfl⟩
set_option maxHeartbeats 400000 in
theorem tn_hold (p : Value) (w : World) (H : NoT p w) (a : Value) : Calls Tryd.prog 28 #[p, a] w fun e w' => e = .returned (.int .i64 14) ∧ w' = w := by
  go_enter Tryd.func28, Tryd.ntmps28
  go_wp2_with (first | (go_at_call 41; refine (find_none' p _ w H.out).mono ?_; rintro e w1 ⟨rfl, hw1⟩; rw [hw1]; clear hw1 w1))
  go_ret
  exact ⟨by simp, rfl⟩
set_option maxHeartbeats 400000 in
theorem tn_release (p : Value) (w : World) (H : NoT p w) (a : Value) : Calls Tryd.prog 29 #[p, a] w fun e w' => e = .returned (.int .i64 14) ∧ w' = w := by
  go_enter Tryd.func29, Tryd.ntmps29
  go_wp2_with (first | (go_at_call 41; refine (find_none' p _ w H.out).mono ?_; rintro e w1 ⟨rfl, hw1⟩; rw [hw1]; clear hw1 w1))
  go_ret
  exact ⟨by simp, rfl⟩
set_option maxHeartbeats 400000 in
theorem tn_is (p : Value) (w : World) (H : NoT p w) (a : Value) : Calls Tryd.prog 30 #[p, a] w fun e w' => e = .returned (.bool false) ∧ w' = w := by
  go_enter Tryd.func30, Tryd.ntmps30
  go_wp2_with (first | (go_at_call 41; refine (find_none' p _ w H.out).mono ?_; rintro e w1 ⟨rfl, hw1⟩; rw [hw1]; clear hw1 w1))
  go_ret
  exact ⟨by simp, rfl⟩
set_option maxHeartbeats 400000 in
theorem tn_used (p : Value) (w : World) (H : NoT p w) : Calls Tryd.prog 14 #[p] w fun e w' => e = .returned (.slice none 0 0) ∧ w' = w := by
  go_enter Tryd.func14, Tryd.ntmps14
  go_wp2_with (first | (go_at_call 36; refine H.out.mono ?_; rintro e w1 ⟨rfl, hw1⟩; rw [hw1]; clear hw1 w1))
  go_ret
  exact ⟨by simp, rfl⟩
set_option maxHeartbeats 400000 in
theorem tn_blocks (p : Value) (w : World) (H : NoT p w) : Calls Tryd.prog 15 #[p] w fun e w' => e = .returned (.slice none 0 0) ∧ w' = w := by
  go_enter Tryd.func15, Tryd.ntmps15
  go_wp2_with (first | (go_at_call 36; refine H.out.mono ?_; rintro e w1 ⟨rfl, hw1⟩; rw [hw1]; clear hw1 w1))
  go_ret
  exact ⟨by simp, rfl⟩
set_option maxHeartbeats 400000 in
theorem tn_now (p : Value) (w : World) (H : NoT p w) : Calls Tryd.prog 13 #[p] w fun e w' => e = .returned (.int .i64 0) ∧ w' = w := by
  go_enter Tryd.func13, Tryd.ntmps13
  go_wp2_with (first | (go_at_call 36; refine H.out.mono ?_; rintro e w1 ⟨rfl, hw1⟩; rw [hw1]; clear hw1 w1))
  go_ret
  exact ⟨by simp, rfl⟩
set_option maxHeartbeats 400000 in
theorem tn_copy (p : Value) (w : World) (H : NoT p w) : Calls Tryd.prog 31 #[p] w fun e w' => e = .returned (.pointer none) ∧ w' = w := by
  go_enter Tryd.func31, Tryd.ntmps31
  go_wp2_with (first | (go_at_call 36; refine H.out.mono ?_; rintro e w1 ⟨rfl, hw1⟩; rw [hw1]; clear hw1 w1))
  go_ret
  exact ⟨by simp, rfl⟩
abbrev zeroS : Array Value := #[.int .i64 0, .int .i64 0, .int .i64 0, .int .i64 0, .int .i64 0, .int .i64 0, .int .i64 0, .int .i64 0, .int .i64 0, .int .i64 0]
theorem zvS (w : World) : (zeroValue 51).run Tryd.prog w = .ok (.agg zeroS) w := by kernel_rfl
set_option maxHeartbeats 400000 in
theorem tn_stat (p : Value) (w : World) (H : NoT p (w.alloc (.cells zeroS 51))) (a : Value) : Calls Tryd.prog 19 #[p, a] w fun e w' => e = .returned (.tuple #[.agg zeroS, .int .i64 14]) ∧ w' = w.alloc (.cells zeroS 51) := by
  have HF : Hid (Calls Tryd.prog 41 #[p, a] (w.alloc (.cells zeroS 51)) fun e w' => e = .returned (.tuple #[.pointer none, .int .i64 14]) ∧ w' = w.alloc (.cells zeroS 51)) := find_none' p a _ H
  clear H
  go_enter Tryd.func19, Tryd.ntmps19
  go_wp2_with (first | (go_at_call 41; refine HF.out.mono ?_; rintro e w1 ⟨rfl, hw1⟩; rw [hw1]; clear hw1 w1))

  refine bodyPost_ret (v := .tuple #[.agg zeroS, .int .i64 14]) ?_ rfl ⟨rfl, rfl⟩
  rw [results_cell_tmp (fn := Tryd.f19) (p := 4) (ty := 51) (u := 5) rfl]
  simp [go_sem, zeroS]
end Go.Proofs.YtgplmgliockbcaaDoor
