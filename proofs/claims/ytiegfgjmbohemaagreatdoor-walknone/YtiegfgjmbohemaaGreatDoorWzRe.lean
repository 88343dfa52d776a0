/- WalkNone run whole by the evaluator: with 31 to 40 roots. Seat of WalkNone. No condition. -/
import Derived.Test.YtiegfgjmbohemaaGreatDoorWzN
namespace Go.Proofs.YtiegfgjmbohemaaGreatDoor
open Ev
theorem wz_31 (f d sk p : Value) (s : Nat → Value) (c : Nat) : callA Tryz.prog xA 5 hint 100000 3 (wzArgs (.opq f) (.opq d) (.slice 5 0 31 (.k (Nat.succ c))) (.opq sk) (.opq p)) (hN s 31) says5 = .ok := by kernel_rfl
theorem wz_32 (f d sk p : Value) (s : Nat → Value) (c : Nat) : callA Tryz.prog xA 5 hint 100000 3 (wzArgs (.opq f) (.opq d) (.slice 5 0 32 (.k (Nat.succ c))) (.opq sk) (.opq p)) (hN s 32) says5 = .ok := by kernel_rfl
theorem wz_33 (f d sk p : Value) (s : Nat → Value) (c : Nat) : callA Tryz.prog xA 5 hint 100000 3 (wzArgs (.opq f) (.opq d) (.slice 5 0 33 (.k (Nat.succ c))) (.opq sk) (.opq p)) (hN s 33) says5 = .ok := by kernel_rfl
theorem wz_34 (f d sk p : Value) (s : Nat → Value) (c : Nat) : callA Tryz.prog xA 5 hint 100000 3 (wzArgs (.opq f) (.opq d) (.slice 5 0 34 (.k (Nat.succ c))) (.opq sk) (.opq p)) (hN s 34) says5 = .ok := by kernel_rfl
theorem wz_35 (f d sk p : Value) (s : Nat → Value) (c : Nat) : callA Tryz.prog xA 5 hint 100000 3 (wzArgs (.opq f) (.opq d) (.slice 5 0 35 (.k (Nat.succ c))) (.opq sk) (.opq p)) (hN s 35) says5 = .ok := by kernel_rfl
theorem wz_36 (f d sk p : Value) (s : Nat → Value) (c : Nat) : callA Tryz.prog xA 5 hint 100000 3 (wzArgs (.opq f) (.opq d) (.slice 5 0 36 (.k (Nat.succ c))) (.opq sk) (.opq p)) (hN s 36) says5 = .ok := by kernel_rfl
theorem wz_37 (f d sk p : Value) (s : Nat → Value) (c : Nat) : callA Tryz.prog xA 5 hint 100000 3 (wzArgs (.opq f) (.opq d) (.slice 5 0 37 (.k (Nat.succ c))) (.opq sk) (.opq p)) (hN s 37) says5 = .ok := by kernel_rfl
theorem wz_38 (f d sk p : Value) (s : Nat → Value) (c : Nat) : callA Tryz.prog xA 5 hint 100000 3 (wzArgs (.opq f) (.opq d) (.slice 5 0 38 (.k (Nat.succ c))) (.opq sk) (.opq p)) (hN s 38) says5 = .ok := by kernel_rfl
theorem wz_39 (f d sk p : Value) (s : Nat → Value) (c : Nat) : callA Tryz.prog xA 5 hint 100000 3 (wzArgs (.opq f) (.opq d) (.slice 5 0 39 (.k (Nat.succ c))) (.opq sk) (.opq p)) (hN s 39) says5 = .ok := by kernel_rfl
theorem wz_40 (f d sk p : Value) (s : Nat → Value) (c : Nat) : callA Tryz.prog xA 5 hint 100000 3 (wzArgs (.opq f) (.opq d) (.slice 5 0 40 (.k (Nat.succ c))) (.opq sk) (.opq p)) (hN s 40) says5 = .ok := by kernel_rfl
end Go.Proofs.YtiegfgjmbohemaaGreatDoor
