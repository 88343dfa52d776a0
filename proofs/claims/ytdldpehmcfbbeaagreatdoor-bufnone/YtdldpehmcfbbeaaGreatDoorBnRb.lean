/- BufNone run whole by the evaluator, at one to 63 bytes, which it does not look at: of strings.asciiSpace' block. Seat of BufNone. No condition. -/
import Derived.Test.YtdldpehmcfbbeaaGreatDoorBnN
namespace Go.Proofs.YtdldpehmcfbbeaaGreatDoor
open Ev
theorem bb1 (fd : Value) : runB 1 1 256 h0 fd = .ok := by kernel_rfl
theorem bb2 (fd : Value) : runB 1 2 256 h0 fd = .ok := by kernel_rfl
theorem bb3 (fd : Value) : runB 1 3 256 h0 fd = .ok := by kernel_rfl
theorem bb4 (fd : Value) : runB 1 4 256 h0 fd = .ok := by kernel_rfl
theorem bb5 (fd : Value) : runB 1 5 256 h0 fd = .ok := by kernel_rfl
theorem bb6 (fd : Value) : runB 1 6 256 h0 fd = .ok := by kernel_rfl
theorem bb7 (fd : Value) : runB 1 7 256 h0 fd = .ok := by kernel_rfl
theorem bb8 (fd : Value) : runB 1 8 256 h0 fd = .ok := by kernel_rfl
theorem bb9 (fd : Value) : runB 1 9 256 h0 fd = .ok := by kernel_rfl
theorem bb10 (fd : Value) : runB 1 10 256 h0 fd = .ok := by kernel_rfl
theorem bb11 (fd : Value) : runB 1 11 256 h0 fd = .ok := by kernel_rfl
theorem bb12 (fd : Value) : runB 1 12 256 h0 fd = .ok := by kernel_rfl
theorem bb13 (fd : Value) : runB 1 13 256 h0 fd = .ok := by kernel_rfl
theorem bb14 (fd : Value) : runB 1 14 256 h0 fd = .ok := by kernel_rfl
theorem bb15 (fd : Value) : runB 1 15 256 h0 fd = .ok := by kernel_rfl
theorem bb16 (fd : Value) : runB 1 16 256 h0 fd = .ok := by kernel_rfl
theorem bb17 (fd : Value) : runB 1 17 256 h0 fd = .ok := by kernel_rfl
theorem bb18 (fd : Value) : runB 1 18 256 h0 fd = .ok := by kernel_rfl
theorem bb19 (fd : Value) : runB 1 19 256 h0 fd = .ok := by kernel_rfl
theorem bb20 (fd : Value) : runB 1 20 256 h0 fd = .ok := by kernel_rfl
theorem bb21 (fd : Value) : runB 1 21 256 h0 fd = .ok := by kernel_rfl
theorem bb22 (fd : Value) : runB 1 22 256 h0 fd = .ok := by kernel_rfl
theorem bb23 (fd : Value) : runB 1 23 256 h0 fd = .ok := by kernel_rfl
theorem bb24 (fd : Value) : runB 1 24 256 h0 fd = .ok := by kernel_rfl
theorem bb25 (fd : Value) : runB 1 25 256 h0 fd = .ok := by kernel_rfl
theorem bb26 (fd : Value) : runB 1 26 256 h0 fd = .ok := by kernel_rfl
theorem bb27 (fd : Value) : runB 1 27 256 h0 fd = .ok := by kernel_rfl
theorem bb28 (fd : Value) : runB 1 28 256 h0 fd = .ok := by kernel_rfl
theorem bb29 (fd : Value) : runB 1 29 256 h0 fd = .ok := by kernel_rfl
theorem bb30 (fd : Value) : runB 1 30 256 h0 fd = .ok := by kernel_rfl
theorem bb31 (fd : Value) : runB 1 31 256 h0 fd = .ok := by kernel_rfl
theorem bb32 (fd : Value) : runB 1 32 256 h0 fd = .ok := by kernel_rfl
theorem bb33 (fd : Value) : runB 1 33 256 h0 fd = .ok := by kernel_rfl
theorem bb34 (fd : Value) : runB 1 34 256 h0 fd = .ok := by kernel_rfl
theorem bb35 (fd : Value) : runB 1 35 256 h0 fd = .ok := by kernel_rfl
theorem bb36 (fd : Value) : runB 1 36 256 h0 fd = .ok := by kernel_rfl
theorem bb37 (fd : Value) : runB 1 37 256 h0 fd = .ok := by kernel_rfl
theorem bb38 (fd : Value) : runB 1 38 256 h0 fd = .ok := by kernel_rfl
theorem bb39 (fd : Value) : runB 1 39 256 h0 fd = .ok := by kernel_rfl
theorem bb40 (fd : Value) : runB 1 40 256 h0 fd = .ok := by kernel_rfl
theorem bb41 (fd : Value) : runB 1 41 256 h0 fd = .ok := by kernel_rfl
theorem bb42 (fd : Value) : runB 1 42 256 h0 fd = .ok := by kernel_rfl
theorem bb43 (fd : Value) : runB 1 43 256 h0 fd = .ok := by kernel_rfl
theorem bb44 (fd : Value) : runB 1 44 256 h0 fd = .ok := by kernel_rfl
theorem bb45 (fd : Value) : runB 1 45 256 h0 fd = .ok := by kernel_rfl
theorem bb46 (fd : Value) : runB 1 46 256 h0 fd = .ok := by kernel_rfl
theorem bb47 (fd : Value) : runB 1 47 256 h0 fd = .ok := by kernel_rfl
theorem bb48 (fd : Value) : runB 1 48 256 h0 fd = .ok := by kernel_rfl
theorem bb49 (fd : Value) : runB 1 49 256 h0 fd = .ok := by kernel_rfl
theorem bb50 (fd : Value) : runB 1 50 256 h0 fd = .ok := by kernel_rfl
theorem bb51 (fd : Value) : runB 1 51 256 h0 fd = .ok := by kernel_rfl
theorem bb52 (fd : Value) : runB 1 52 256 h0 fd = .ok := by kernel_rfl
theorem bb53 (fd : Value) : runB 1 53 256 h0 fd = .ok := by kernel_rfl
theorem bb54 (fd : Value) : runB 1 54 256 h0 fd = .ok := by kernel_rfl
theorem bb55 (fd : Value) : runB 1 55 256 h0 fd = .ok := by kernel_rfl
theorem bb56 (fd : Value) : runB 1 56 256 h0 fd = .ok := by kernel_rfl
theorem bb57 (fd : Value) : runB 1 57 256 h0 fd = .ok := by kernel_rfl
theorem bb58 (fd : Value) : runB 1 58 256 h0 fd = .ok := by kernel_rfl
theorem bb59 (fd : Value) : runB 1 59 256 h0 fd = .ok := by kernel_rfl
theorem bb60 (fd : Value) : runB 1 60 256 h0 fd = .ok := by kernel_rfl
theorem bb61 (fd : Value) : runB 1 61 256 h0 fd = .ok := by kernel_rfl
theorem bb62 (fd : Value) : runB 1 62 256 h0 fd = .ok := by kernel_rfl
theorem bb63 (fd : Value) : runB 1 63 256 h0 fd = .ok := by kernel_rfl
theorem bb_all (n : Nat) (h1 : 1 ≤ n) (h2 : n ≤ 63) (fd : Value) : runB 1 n 256 h0 fd = .ok := by
  obtain rfl | rfl | rfl | rfl | rfl | rfl | rfl | rfl | rfl | rfl | rfl | rfl | rfl | rfl | rfl | rfl | rfl | rfl | rfl | rfl | rfl | rfl | rfl | rfl | rfl | rfl | rfl | rfl | rfl | rfl | rfl | rfl | rfl | rfl | rfl | rfl | rfl | rfl | rfl | rfl | rfl | rfl | rfl | rfl | rfl | rfl | rfl | rfl | rfl | rfl | rfl | rfl | rfl | rfl | rfl | rfl | rfl | rfl | rfl | rfl | rfl | rfl | rfl := (by omega : n = 1 ∨ n = 2 ∨ n = 3 ∨ n = 4 ∨ n = 5 ∨ n = 6 ∨ n = 7 ∨ n = 8 ∨ n = 9 ∨ n = 10 ∨ n = 11 ∨ n = 12 ∨ n = 13 ∨ n = 14 ∨ n = 15 ∨ n = 16 ∨ n = 17 ∨ n = 18 ∨ n = 19 ∨ n = 20 ∨ n = 21 ∨ n = 22 ∨ n = 23 ∨ n = 24 ∨ n = 25 ∨ n = 26 ∨ n = 27 ∨ n = 28 ∨ n = 29 ∨ n = 30 ∨ n = 31 ∨ n = 32 ∨ n = 33 ∨ n = 34 ∨ n = 35 ∨ n = 36 ∨ n = 37 ∨ n = 38 ∨ n = 39 ∨ n = 40 ∨ n = 41 ∨ n = 42 ∨ n = 43 ∨ n = 44 ∨ n = 45 ∨ n = 46 ∨ n = 47 ∨ n = 48 ∨ n = 49 ∨ n = 50 ∨ n = 51 ∨ n = 52 ∨ n = 53 ∨ n = 54 ∨ n = 55 ∨ n = 56 ∨ n = 57 ∨ n = 58 ∨ n = 59 ∨ n = 60 ∨ n = 61 ∨ n = 62 ∨ n = 63)
  · exact bb1 fd
  · exact bb2 fd
  · exact bb3 fd
  · exact bb4 fd
  · exact bb5 fd
  · exact bb6 fd
  · exact bb7 fd
  · exact bb8 fd
  · exact bb9 fd
  · exact bb10 fd
  · exact bb11 fd
  · exact bb12 fd
  · exact bb13 fd
  · exact bb14 fd
  · exact bb15 fd
  · exact bb16 fd
  · exact bb17 fd
  · exact bb18 fd
  · exact bb19 fd
  · exact bb20 fd
  · exact bb21 fd
  · exact bb22 fd
  · exact bb23 fd
  · exact bb24 fd
  · exact bb25 fd
  · exact bb26 fd
  · exact bb27 fd
  · exact bb28 fd
  · exact bb29 fd
  · exact bb30 fd
  · exact bb31 fd
  · exact bb32 fd
  · exact bb33 fd
  · exact bb34 fd
  · exact bb35 fd
  · exact bb36 fd
  · exact bb37 fd
  · exact bb38 fd
  · exact bb39 fd
  · exact bb40 fd
  · exact bb41 fd
  · exact bb42 fd
  · exact bb43 fd
  · exact bb44 fd
  · exact bb45 fd
  · exact bb46 fd
  · exact bb47 fd
  · exact bb48 fd
  · exact bb49 fd
  · exact bb50 fd
  · exact bb51 fd
  · exact bb52 fd
  · exact bb53 fd
  · exact bb54 fd
  · exact bb55 fd
  · exact bb56 fd
  · exact bb57 fd
  · exact bb58 fd
  · exact bb59 fd
  · exact bb60 fd
  · exact bb61 fd
  · exact bb62 fd
  · exact bb63 fd
theorem bb_big (m : Nat) (fd : Value) : runB 1 (Nat.add m 64) 256 h0 fd = .ok := by kernel_rfl
end Go.Proofs.YtdldpehmcfbbeaaGreatDoor
