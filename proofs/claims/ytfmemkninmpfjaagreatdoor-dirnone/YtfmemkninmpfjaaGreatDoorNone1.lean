/- The table's calls on a table that no call made (nil, or the zero one): each answers nothing, and EFAULT. Condition: 'made' answers false of it. -/
import Derived.Test.YtfmemkninmpfjaaGreatDoorTab2
import Derived.Laws.ResultCell
namespace Go.Proofs.YtfmemkninmpfjaaGreatDoor
open Go.RowKit
theorem results_tmp4 {fn : Func} {a b c d : Tmp} (h : fn.results = #[.tmp a, .tmp b, .tmp c, .tmp d]) (tmps : Array Value) (P : Program) (w : World) :
    (results fn tmps).run P w = .ok (.tuple #[tmps.getD a undef, tmps.getD b undef, tmps.getD c undef, tmps.getD d undef]) w := by
  simp only [results, h]
  simp
/-- 'made' says no of this receiver. -/
def NoT (p : Value) (w : World) : Prop := Calls Tryz.prog 72 #[p] w fun e w' => e = .returned (.bool false) ∧ w' = w
theorem NoT.out {p : Value} {w : World} (h : NoT p w) : Calls Tryz.prog 72 #[p] w fun e w' => e = .returned (.bool false) ∧ w' = w := h
theorem find_none' (p v : Value) (w : World) (h : Calls Tryz.prog 72 #[p] w fun e w' => e = .returned (.bool false) ∧ w' = w) : Calls Tryz.prog 76 #[p, v] w fun e w' => e = .returned (.tuple #[.pointer none, .int .i64 14]) ∧ w' = w := by
  go_enter Tryz.func76, Tryz.ntmps76
  go_wp2_with (go_at_call 72; refine h.mono ?_; rintro e w1 ⟨rfl, hw1⟩; rw [hw1]; clear hw1 w1)
  go_ret2
  exact ⟨by simp, rfl⟩
set_option maxHeartbeats 400000 in
theorem tn_alloc (p : Value) (w : World) (H : NoT p w) (a b c : Value) : Calls Tryz.prog 29 #[p, a, b, c] w fun e w' => e = .returned (.tuple #[.int .i64 0, .int .i64 14]) ∧ w' = w := by
  go_enter Tryz.func29, Tryz.ntmps29
  go_wp2_with (first | (go_at_call 72; refine H.out.mono ?_; rintro e w1 ⟨rfl, hw1⟩; rw [hw1]; clear hw1 w1))
  go_ret2
  exact ⟨by simp, rfl⟩
set_option maxHeartbeats 400000 in
theorem tn_read (p : Value) (w : World) (H : NoT p w) (a b c : Value) : Calls Tryz.prog 94 #[p, a, b, c] w fun e w' => e = .returned (.tuple #[.slice none 0 0, .int .i64 14]) ∧ w' = w := by
  go_enter Tryz.func94, Tryz.ntmps94
  go_wp2_with (first | (go_at_call 76; refine (find_none' p _ w H.out).mono ?_; rintro e w1 ⟨rfl, hw1⟩; rw [hw1]; clear hw1 w1))
  go_ret2
  exact ⟨by simp, rfl⟩
set_option maxHeartbeats 400000 in
theorem tn_write (p : Value) (w : World) (H : NoT p w) (a b c : Value) : Calls Tryz.prog 37 #[p, a, b, c] w fun e w' => e = .returned (.tuple #[.int .i64 0, .int .i64 14]) ∧ w' = w := by
  go_enter Tryz.func37, Tryz.ntmps37
  go_wp2_with (first | (go_at_call 76; refine (find_none' p _ w H.out).mono ?_; rintro e w1 ⟨rfl, hw1⟩; rw [hw1]; clear hw1 w1))
  go_ret2
  exact ⟨by simp, rfl⟩
set_option maxHeartbeats 400000 in
theorem tn_links (p : Value) (w : World) (H : NoT p w) (a b : Value) : Calls Tryz.prog 31 #[p, a, b] w fun e w' => e = .returned (.int .i64 14) ∧ w' = w := by
  go_enter Tryz.func31, Tryz.ntmps31
  go_wp2_with (first | (go_at_call 76; refine (find_none' p _ w H.out).mono ?_; rintro e w1 ⟨rfl, hw1⟩; rw [hw1]; clear hw1 w1))
  go_ret
  exact ⟨by simp, rfl⟩
set_option maxHeartbeats 400000 in
theorem tn_is (p : Value) (w : World) (H : NoT p w) (a : Value) : Calls Tryz.prog 65 #[p, a] w fun e w' => e = .returned (.bool false) ∧ w' = w := by
  go_enter Tryz.func65, Tryz.ntmps65
  go_wp2_with (first | (go_at_call 76; refine (find_none' p _ w H.out).mono ?_; rintro e w1 ⟨rfl, hw1⟩; rw [hw1]; clear hw1 w1))
  go_ret
  exact ⟨by simp, rfl⟩
set_option maxHeartbeats 400000 in
theorem tn_used (p : Value) (w : World) (H : NoT p w) : Calls Tryz.prog 47 #[p] w fun e w' => e = .returned (.slice none 0 0) ∧ w' = w := by
  go_enter Tryz.func47, Tryz.ntmps47
  go_wp2_with (first | (go_at_call 72; refine H.out.mono ?_; rintro e w1 ⟨rfl, hw1⟩; rw [hw1]; clear hw1 w1))
  go_ret
  exact ⟨by simp, rfl⟩
set_option maxHeartbeats 400000 in
theorem tn_blocks (p : Value) (w : World) (H : NoT p w) : Calls Tryz.prog 48 #[p] w fun e w' => e = .returned (.slice none 0 0) ∧ w' = w := by
  go_enter Tryz.func48, Tryz.ntmps48
  go_wp2_with (first | (go_at_call 72; refine H.out.mono ?_; rintro e w1 ⟨rfl, hw1⟩; rw [hw1]; clear hw1 w1))
  go_ret
  exact ⟨by simp, rfl⟩
abbrev zeroS : Array Value := #[.int .i64 0, .int .i64 0, .int .i64 0, .int .i64 0, .int .i64 0, .int .i64 0, .int .i64 0, .int .i64 0, .int .i64 0, .int .i64 0]
theorem zvS (w : World) : (zeroValue 91).run Tryz.prog w = .ok (.agg zeroS) w := by kernel_rfl
set_option maxHeartbeats 400000 in
theorem tn_stat (p : Value) (w : World) (H : NoT p (w.alloc (.cells zeroS 91))) (a : Value) : Calls Tryz.prog 44 #[p, a] w fun e w' => e = .returned (.tuple #[.agg zeroS, .int .i64 14]) ∧ w' = w.alloc (.cells zeroS 91) := by
  have HF : Hid (Calls Tryz.prog 76 #[p, a] (w.alloc (.cells zeroS 91)) fun e w' => e = .returned (.tuple #[.pointer none, .int .i64 14]) ∧ w' = w.alloc (.cells zeroS 91)) := find_none' p a _ H
  clear H
  go_enter Tryz.func44, Tryz.ntmps44
  go_wp2_with (first | (go_at_call 76; refine HF.out.mono ?_; rintro e w1 ⟨rfl, hw1⟩; rw [hw1]; clear hw1 w1))

  refine bodyPost_ret (v := .tuple #[.agg zeroS, .int .i64 14]) ?_ rfl ⟨rfl, rfl⟩
  rw [results_cell_tmp (fn := Tryz.f44) (p := 4) (ty := 91) (u := 5) rfl]
  simp [go_sem, zeroS]
end Go.Proofs.YtfmemkninmpfjaaGreatDoor
