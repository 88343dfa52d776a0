/- WalkNone run whole by the evaluator: with 11 to 20 roots. Seat of WalkNone. No condition. -/
import Derived.Test.YtiegfgjmbohemaaGreatDoorWzN
namespace Go.Proofs.YtiegfgjmbohemaaGreatDoor
open Ev
theorem wz_11 (f d sk p : Value) (s : Nat → Value) (c : Nat) : callA Tryz.prog xA 5 hint 100000 3 (wzArgs (.opq f) (.opq d) (.slice 5 0 11 (.k (Nat.succ c))) (.opq sk) (.opq p)) (hN s 11) says5 = .ok := by kernel_rfl
theorem wz_12 (f d sk p : Value) (s : Nat → Value) (c : Nat) : callA Tryz.prog xA 5 hint 100000 3 (wzArgs (.opq f) (.opq d) (.slice 5 0 12 (.k (Nat.succ c))) (.opq sk) (.opq p)) (hN s 12) says5 = .ok := by kernel_rfl
theorem wz_13 (f d sk p : Value) (s : Nat → Value) (c : Nat) : callA Tryz.prog xA 5 hint 100000 3 (wzArgs (.opq f) (.opq d) (.slice 5 0 13 (.k (Nat.succ c))) (.opq sk) (.opq p)) (hN s 13) says5 = .ok := by kernel_rfl
theorem wz_14 (f d sk p : Value) (s : Nat → Value) (c : Nat) : callA Tryz.prog xA 5 hint 100000 3 (wzArgs (.opq f) (.opq d) (.slice 5 0 14 (.k (Nat.succ c))) (.opq sk) (.opq p)) (hN s 14) says5 = .ok := by kernel_rfl
theorem wz_15 (f d sk p : Value) (s : Nat → Value) (c : Nat) : callA Tryz.prog xA 5 hint 100000 3 (wzArgs (.opq f) (.opq d) (.slice 5 0 15 (.k (Nat.succ c))) (.opq sk) (.opq p)) (hN s 15) says5 = .ok := by kernel_rfl
theorem wz_16 (f d sk p : Value) (s : Nat → Value) (c : Nat) : callA Tryz.prog xA 5 hint 100000 3 (wzArgs (.opq f) (.opq d) (.slice 5 0 16 (.k (Nat.succ c))) (.opq sk) (.opq p)) (hN s 16) says5 = .ok := by kernel_rfl
theorem wz_17 (f d sk p : Value) (s : Nat → Value) (c : Nat) : callA Tryz.prog xA 5 hint 100000 3 (wzArgs (.opq f) (.opq d) (.slice 5 0 17 (.k (Nat.succ c))) (.opq sk) (.opq p)) (hN s 17) says5 = .ok := by kernel_rfl
theorem wz_18 (f d sk p : Value) (s : Nat → Value) (c : Nat) : callA Tryz.prog xA 5 hint 100000 3 (wzArgs (.opq f) (.opq d) (.slice 5 0 18 (.k (Nat.succ c))) (.opq sk) (.opq p)) (hN s 18) says5 = .ok := by kernel_rfl
theorem wz_19 (f d sk p : Value) (s : Nat → Value) (c : Nat) : callA Tryz.prog xA 5 hint 100000 3 (wzArgs (.opq f) (.opq d) (.slice 5 0 19 (.k (Nat.succ c))) (.opq sk) (.opq p)) (hN s 19) says5 = .ok := by kernel_rfl
theorem wz_20 (f d sk p : Value) (s : Nat → Value) (c : Nat) : callA Tryz.prog xA 5 hint 100000 3 (wzArgs (.opq f) (.opq d) (.slice 5 0 20 (.k (Nat.succ c))) (.opq sk) (.opq p)) (hN s 20) says5 = .ok := by kernel_rfl
end Go.Proofs.YtiegfgjmbohemaaGreatDoor
