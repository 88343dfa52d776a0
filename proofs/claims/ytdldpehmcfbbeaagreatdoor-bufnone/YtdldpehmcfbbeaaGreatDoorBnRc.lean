/- BufNone run whole by the evaluator, at one to 63 bytes, which it does not look at: of math/bits.deBruijn64tab's block. Seat of BufNone. No condition. -/
import Derived.Test.YtdldpehmcfbbeaaGreatDoorBnN
namespace Go.Proofs.YtdldpehmcfbbeaaGreatDoor
open Ev
theorem bc1 (fd : Value) : runB 3 1 64 h0 fd = .ok := by kernel_rfl
theorem bc2 (fd : Value) : runB 3 2 64 h0 fd = .ok := by kernel_rfl
theorem bc3 (fd : Value) : runB 3 3 64 h0 fd = .ok := by kernel_rfl
theorem bc4 (fd : Value) : runB 3 4 64 h0 fd = .ok := by kernel_rfl
theorem bc5 (fd : Value) : runB 3 5 64 h0 fd = .ok := by kernel_rfl
theorem bc6 (fd : Value) : runB 3 6 64 h0 fd = .ok := by kernel_rfl
theorem bc7 (fd : Value) : runB 3 7 64 h0 fd = .ok := by kernel_rfl
theorem bc8 (fd : Value) : runB 3 8 64 h0 fd = .ok := by kernel_rfl
theorem bc9 (fd : Value) : runB 3 9 64 h0 fd = .ok := by kernel_rfl
theorem bc10 (fd : Value) : runB 3 10 64 h0 fd = .ok := by kernel_rfl
theorem bc11 (fd : Value) : runB 3 11 64 h0 fd = .ok := by kernel_rfl
theorem bc12 (fd : Value) : runB 3 12 64 h0 fd = .ok := by kernel_rfl
theorem bc13 (fd : Value) : runB 3 13 64 h0 fd = .ok := by kernel_rfl
theorem bc14 (fd : Value) : runB 3 14 64 h0 fd = .ok := by kernel_rfl
theorem bc15 (fd : Value) : runB 3 15 64 h0 fd = .ok := by kernel_rfl
theorem bc16 (fd : Value) : runB 3 16 64 h0 fd = .ok := by kernel_rfl
theorem bc17 (fd : Value) : runB 3 17 64 h0 fd = .ok := by kernel_rfl
theorem bc18 (fd : Value) : runB 3 18 64 h0 fd = .ok := by kernel_rfl
theorem bc19 (fd : Value) : runB 3 19 64 h0 fd = .ok := by kernel_rfl
theorem bc20 (fd : Value) : runB 3 20 64 h0 fd = .ok := by kernel_rfl
theorem bc21 (fd : Value) : runB 3 21 64 h0 fd = .ok := by kernel_rfl
theorem bc22 (fd : Value) : runB 3 22 64 h0 fd = .ok := by kernel_rfl
theorem bc23 (fd : Value) : runB 3 23 64 h0 fd = .ok := by kernel_rfl
theorem bc24 (fd : Value) : runB 3 24 64 h0 fd = .ok := by kernel_rfl
theorem bc25 (fd : Value) : runB 3 25 64 h0 fd = .ok := by kernel_rfl
theorem bc26 (fd : Value) : runB 3 26 64 h0 fd = .ok := by kernel_rfl
theorem bc27 (fd : Value) : runB 3 27 64 h0 fd = .ok := by kernel_rfl
theorem bc28 (fd : Value) : runB 3 28 64 h0 fd = .ok := by kernel_rfl
theorem bc29 (fd : Value) : runB 3 29 64 h0 fd = .ok := by kernel_rfl
theorem bc30 (fd : Value) : runB 3 30 64 h0 fd = .ok := by kernel_rfl
theorem bc31 (fd : Value) : runB 3 31 64 h0 fd = .ok := by kernel_rfl
theorem bc32 (fd : Value) : runB 3 32 64 h0 fd = .ok := by kernel_rfl
theorem bc33 (fd : Value) : runB 3 33 64 h0 fd = .ok := by kernel_rfl
theorem bc34 (fd : Value) : runB 3 34 64 h0 fd = .ok := by kernel_rfl
theorem bc35 (fd : Value) : runB 3 35 64 h0 fd = .ok := by kernel_rfl
theorem bc36 (fd : Value) : runB 3 36 64 h0 fd = .ok := by kernel_rfl
theorem bc37 (fd : Value) : runB 3 37 64 h0 fd = .ok := by kernel_rfl
theorem bc38 (fd : Value) : runB 3 38 64 h0 fd = .ok := by kernel_rfl
theorem bc39 (fd : Value) : runB 3 39 64 h0 fd = .ok := by kernel_rfl
theorem bc40 (fd : Value) : runB 3 40 64 h0 fd = .ok := by kernel_rfl
theorem bc41 (fd : Value) : runB 3 41 64 h0 fd = .ok := by kernel_rfl
theorem bc42 (fd : Value) : runB 3 42 64 h0 fd = .ok := by kernel_rfl
theorem bc43 (fd : Value) : runB 3 43 64 h0 fd = .ok := by kernel_rfl
theorem bc44 (fd : Value) : runB 3 44 64 h0 fd = .ok := by kernel_rfl
theorem bc45 (fd : Value) : runB 3 45 64 h0 fd = .ok := by kernel_rfl
theorem bc46 (fd : Value) : runB 3 46 64 h0 fd = .ok := by kernel_rfl
theorem bc47 (fd : Value) : runB 3 47 64 h0 fd = .ok := by kernel_rfl
theorem bc48 (fd : Value) : runB 3 48 64 h0 fd = .ok := by kernel_rfl
theorem bc49 (fd : Value) : runB 3 49 64 h0 fd = .ok := by kernel_rfl
theorem bc50 (fd : Value) : runB 3 50 64 h0 fd = .ok := by kernel_rfl
theorem bc51 (fd : Value) : runB 3 51 64 h0 fd = .ok := by kernel_rfl
theorem bc52 (fd : Value) : runB 3 52 64 h0 fd = .ok := by kernel_rfl
theorem bc53 (fd : Value) : runB 3 53 64 h0 fd = .ok := by kernel_rfl
theorem bc54 (fd : Value) : runB 3 54 64 h0 fd = .ok := by kernel_rfl
theorem bc55 (fd : Value) : runB 3 55 64 h0 fd = .ok := by kernel_rfl
theorem bc56 (fd : Value) : runB 3 56 64 h0 fd = .ok := by kernel_rfl
theorem bc57 (fd : Value) : runB 3 57 64 h0 fd = .ok := by kernel_rfl
theorem bc58 (fd : Value) : runB 3 58 64 h0 fd = .ok := by kernel_rfl
theorem bc59 (fd : Value) : runB 3 59 64 h0 fd = .ok := by kernel_rfl
theorem bc60 (fd : Value) : runB 3 60 64 h0 fd = .ok := by kernel_rfl
theorem bc61 (fd : Value) : runB 3 61 64 h0 fd = .ok := by kernel_rfl
theorem bc62 (fd : Value) : runB 3 62 64 h0 fd = .ok := by kernel_rfl
theorem bc63 (fd : Value) : runB 3 63 64 h0 fd = .ok := by kernel_rfl
theorem bc_all (n : Nat) (h1 : 1 ≤ n) (h2 : n ≤ 63) (fd : Value) : runB 3 n 64 h0 fd = .ok := by
  obtain rfl | rfl | rfl | rfl | rfl | rfl | rfl | rfl | rfl | rfl | rfl | rfl | rfl | rfl | rfl | rfl | rfl | rfl | rfl | rfl | rfl | rfl | rfl | rfl | rfl | rfl | rfl | rfl | rfl | rfl | rfl | rfl | rfl | rfl | rfl | rfl | rfl | rfl | rfl | rfl | rfl | rfl | rfl | rfl | rfl | rfl | rfl | rfl | rfl | rfl | rfl | rfl | rfl | rfl | rfl | rfl | rfl | rfl | rfl | rfl | rfl | rfl | rfl := (by omega : n = 1 ∨ n = 2 ∨ n = 3 ∨ n = 4 ∨ n = 5 ∨ n = 6 ∨ n = 7 ∨ n = 8 ∨ n = 9 ∨ n = 10 ∨ n = 11 ∨ n = 12 ∨ n = 13 ∨ n = 14 ∨ n = 15 ∨ n = 16 ∨ n = 17 ∨ n = 18 ∨ n = 19 ∨ n = 20 ∨ n = 21 ∨ n = 22 ∨ n = 23 ∨ n = 24 ∨ n = 25 ∨ n = 26 ∨ n = 27 ∨ n = 28 ∨ n = 29 ∨ n = 30 ∨ n = 31 ∨ n = 32 ∨ n = 33 ∨ n = 34 ∨ n = 35 ∨ n = 36 ∨ n = 37 ∨ n = 38 ∨ n = 39 ∨ n = 40 ∨ n = 41 ∨ n = 42 ∨ n = 43 ∨ n = 44 ∨ n = 45 ∨ n = 46 ∨ n = 47 ∨ n = 48 ∨ n = 49 ∨ n = 50 ∨ n = 51 ∨ n = 52 ∨ n = 53 ∨ n = 54 ∨ n = 55 ∨ n = 56 ∨ n = 57 ∨ n = 58 ∨ n = 59 ∨ n = 60 ∨ n = 61 ∨ n = 62 ∨ n = 63)
  · exact bc1 fd
  · exact bc2 fd
  · exact bc3 fd
  · exact bc4 fd
  · exact bc5 fd
  · exact bc6 fd
  · exact bc7 fd
  · exact bc8 fd
  · exact bc9 fd
  · exact bc10 fd
  · exact bc11 fd
  · exact bc12 fd
  · exact bc13 fd
  · exact bc14 fd
  · exact bc15 fd
  · exact bc16 fd
  · exact bc17 fd
  · exact bc18 fd
  · exact bc19 fd
  · exact bc20 fd
  · exact bc21 fd
  · exact bc22 fd
  · exact bc23 fd
  · exact bc24 fd
  · exact bc25 fd
  · exact bc26 fd
  · exact bc27 fd
  · exact bc28 fd
  · exact bc29 fd
  · exact bc30 fd
  · exact bc31 fd
  · exact bc32 fd
  · exact bc33 fd
  · exact bc34 fd
  · exact bc35 fd
  · exact bc36 fd
  · exact bc37 fd
  · exact bc38 fd
  · exact bc39 fd
  · exact bc40 fd
  · exact bc41 fd
  · exact bc42 fd
  · exact bc43 fd
  · exact bc44 fd
  · exact bc45 fd
  · exact bc46 fd
  · exact bc47 fd
  · exact bc48 fd
  · exact bc49 fd
  · exact bc50 fd
  · exact bc51 fd
  · exact bc52 fd
  · exact bc53 fd
  · exact bc54 fd
  · exact bc55 fd
  · exact bc56 fd
  · exact bc57 fd
  · exact bc58 fd
  · exact bc59 fd
  · exact bc60 fd
  · exact bc61 fd
  · exact bc62 fd
  · exact bc63 fd
theorem bc_big (m : Nat) (fd : Value) : runB 3 (Nat.add m 64) 64 h0 fd = .ok := by kernel_rfl
end Go.Proofs.YtdldpehmcfbbeaaGreatDoor
