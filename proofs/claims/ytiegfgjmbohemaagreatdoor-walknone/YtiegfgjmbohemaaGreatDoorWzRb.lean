/- WalkNone run whole by the evaluator: with 1 to 10 roots. Seat of WalkNone. No condition. -/
import Derived.Test.YtiegfgjmbohemaaGreatDoorWzN
namespace Go.Proofs.YtiegfgjmbohemaaGreatDoor
open Ev
theorem wz_1 (f d sk p : Value) (s : Nat → Value) (c : Nat) : callA Tryz.prog xA 5 hint 100000 3 (wzArgs (.opq f) (.opq d) (.slice 5 0 1 (.k (Nat.succ c))) (.opq sk) (.opq p)) (hN s 1) says5 = .ok := by kernel_rfl
theorem wz_2 (f d sk p : Value) (s : Nat → Value) (c : Nat) : callA Tryz.prog xA 5 hint 100000 3 (wzArgs (.opq f) (.opq d) (.slice 5 0 2 (.k (Nat.succ c))) (.opq sk) (.opq p)) (hN s 2) says5 = .ok := by kernel_rfl
theorem wz_3 (f d sk p : Value) (s : Nat → Value) (c : Nat) : callA Tryz.prog xA 5 hint 100000 3 (wzArgs (.opq f) (.opq d) (.slice 5 0 3 (.k (Nat.succ c))) (.opq sk) (.opq p)) (hN s 3) says5 = .ok := by kernel_rfl
theorem wz_4 (f d sk p : Value) (s : Nat → Value) (c : Nat) : callA Tryz.prog xA 5 hint 100000 3 (wzArgs (.opq f) (.opq d) (.slice 5 0 4 (.k (Nat.succ c))) (.opq sk) (.opq p)) (hN s 4) says5 = .ok := by kernel_rfl
theorem wz_5 (f d sk p : Value) (s : Nat → Value) (c : Nat) : callA Tryz.prog xA 5 hint 100000 3 (wzArgs (.opq f) (.opq d) (.slice 5 0 5 (.k (Nat.succ c))) (.opq sk) (.opq p)) (hN s 5) says5 = .ok := by kernel_rfl
theorem wz_6 (f d sk p : Value) (s : Nat → Value) (c : Nat) : callA Tryz.prog xA 5 hint 100000 3 (wzArgs (.opq f) (.opq d) (.slice 5 0 6 (.k (Nat.succ c))) (.opq sk) (.opq p)) (hN s 6) says5 = .ok := by kernel_rfl
theorem wz_7 (f d sk p : Value) (s : Nat → Value) (c : Nat) : callA Tryz.prog xA 5 hint 100000 3 (wzArgs (.opq f) (.opq d) (.slice 5 0 7 (.k (Nat.succ c))) (.opq sk) (.opq p)) (hN s 7) says5 = .ok := by kernel_rfl
theorem wz_8 (f d sk p : Value) (s : Nat → Value) (c : Nat) : callA Tryz.prog xA 5 hint 100000 3 (wzArgs (.opq f) (.opq d) (.slice 5 0 8 (.k (Nat.succ c))) (.opq sk) (.opq p)) (hN s 8) says5 = .ok := by kernel_rfl
theorem wz_9 (f d sk p : Value) (s : Nat → Value) (c : Nat) : callA Tryz.prog xA 5 hint 100000 3 (wzArgs (.opq f) (.opq d) (.slice 5 0 9 (.k (Nat.succ c))) (.opq sk) (.opq p)) (hN s 9) says5 = .ok := by kernel_rfl
theorem wz_10 (f d sk p : Value) (s : Nat → Value) (c : Nat) : callA Tryz.prog xA 5 hint 100000 3 (wzArgs (.opq f) (.opq d) (.slice 5 0 10 (.k (Nat.succ c))) (.opq sk) (.opq p)) (hN s 10) says5 = .ok := by kernel_rfl
end Go.Proofs.YtiegfgjmbohemaaGreatDoor
