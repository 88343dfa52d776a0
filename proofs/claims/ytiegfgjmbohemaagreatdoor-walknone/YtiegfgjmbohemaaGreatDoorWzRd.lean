/- WalkNone run whole by the evaluator: with 21 to 30 roots. Seat of WalkNone. No condition. -/
import Derived.Test.YtiegfgjmbohemaaGreatDoorWzN
namespace Go.Proofs.YtiegfgjmbohemaaGreatDoor
open Ev
theorem wz_21 (f d sk p : Value) (s : Nat → Value) (c : Nat) : callA Tryz.prog xA 5 hint 100000 3 (wzArgs (.opq f) (.opq d) (.slice 5 0 21 (.k (Nat.succ c))) (.opq sk) (.opq p)) (hN s 21) says5 = .ok := by kernel_rfl
theorem wz_22 (f d sk p : Value) (s : Nat → Value) (c : Nat) : callA Tryz.prog xA 5 hint 100000 3 (wzArgs (.opq f) (.opq d) (.slice 5 0 22 (.k (Nat.succ c))) (.opq sk) (.opq p)) (hN s 22) says5 = .ok := by kernel_rfl
theorem wz_23 (f d sk p : Value) (s : Nat → Value) (c : Nat) : callA Tryz.prog xA 5 hint 100000 3 (wzArgs (.opq f) (.opq d) (.slice 5 0 23 (.k (Nat.succ c))) (.opq sk) (.opq p)) (hN s 23) says5 = .ok := by kernel_rfl
theorem wz_24 (f d sk p : Value) (s : Nat → Value) (c : Nat) : callA Tryz.prog xA 5 hint 100000 3 (wzArgs (.opq f) (.opq d) (.slice 5 0 24 (.k (Nat.succ c))) (.opq sk) (.opq p)) (hN s 24) says5 = .ok := by kernel_rfl
theorem wz_25 (f d sk p : Value) (s : Nat → Value) (c : Nat) : callA Tryz.prog xA 5 hint 100000 3 (wzArgs (.opq f) (.opq d) (.slice 5 0 25 (.k (Nat.succ c))) (.opq sk) (.opq p)) (hN s 25) says5 = .ok := by kernel_rfl
theorem wz_26 (f d sk p : Value) (s : Nat → Value) (c : Nat) : callA Tryz.prog xA 5 hint 100000 3 (wzArgs (.opq f) (.opq d) (.slice 5 0 26 (.k (Nat.succ c))) (.opq sk) (.opq p)) (hN s 26) says5 = .ok := by kernel_rfl
theorem wz_27 (f d sk p : Value) (s : Nat → Value) (c : Nat) : callA Tryz.prog xA 5 hint 100000 3 (wzArgs (.opq f) (.opq d) (.slice 5 0 27 (.k (Nat.succ c))) (.opq sk) (.opq p)) (hN s 27) says5 = .ok := by kernel_rfl
theorem wz_28 (f d sk p : Value) (s : Nat → Value) (c : Nat) : callA Tryz.prog xA 5 hint 100000 3 (wzArgs (.opq f) (.opq d) (.slice 5 0 28 (.k (Nat.succ c))) (.opq sk) (.opq p)) (hN s 28) says5 = .ok := by kernel_rfl
theorem wz_29 (f d sk p : Value) (s : Nat → Value) (c : Nat) : callA Tryz.prog xA 5 hint 100000 3 (wzArgs (.opq f) (.opq d) (.slice 5 0 29 (.k (Nat.succ c))) (.opq sk) (.opq p)) (hN s 29) says5 = .ok := by kernel_rfl
theorem wz_30 (f d sk p : Value) (s : Nat → Value) (c : Nat) : callA Tryz.prog xA 5 hint 100000 3 (wzArgs (.opq f) (.opq d) (.slice 5 0 30 (.k (Nat.succ c))) (.opq sk) (.opq p)) (hN s 30) says5 = .ok := by kernel_rfl
end Go.Proofs.YtiegfgjmbohemaaGreatDoor
