/- BufNone run whole by the evaluator, at one to 63 bytes, which it does not look at: of a block of their own. Seat of BufNone. No condition. -/
import Derived.Test.YtdldpehmcfbbeaaGreatDoorBnN
namespace Go.Proofs.YtdldpehmcfbbeaaGreatDoor
open Ev
theorem ba1 (fd : Value) : runB 5 1 1 hA fd = .ok := by kernel_rfl
theorem ba2 (fd : Value) : runB 5 2 2 hA fd = .ok := by kernel_rfl
theorem ba3 (fd : Value) : runB 5 3 3 hA fd = .ok := by kernel_rfl
theorem ba4 (fd : Value) : runB 5 4 4 hA fd = .ok := by kernel_rfl
theorem ba5 (fd : Value) : runB 5 5 5 hA fd = .ok := by kernel_rfl
theorem ba6 (fd : Value) : runB 5 6 6 hA fd = .ok := by kernel_rfl
theorem ba7 (fd : Value) : runB 5 7 7 hA fd = .ok := by kernel_rfl
theorem ba8 (fd : Value) : runB 5 8 8 hA fd = .ok := by kernel_rfl
theorem ba9 (fd : Value) : runB 5 9 9 hA fd = .ok := by kernel_rfl
theorem ba10 (fd : Value) : runB 5 10 10 hA fd = .ok := by kernel_rfl
theorem ba11 (fd : Value) : runB 5 11 11 hA fd = .ok := by kernel_rfl
theorem ba12 (fd : Value) : runB 5 12 12 hA fd = .ok := by kernel_rfl
theorem ba13 (fd : Value) : runB 5 13 13 hA fd = .ok := by kernel_rfl
theorem ba14 (fd : Value) : runB 5 14 14 hA fd = .ok := by kernel_rfl
theorem ba15 (fd : Value) : runB 5 15 15 hA fd = .ok := by kernel_rfl
theorem ba16 (fd : Value) : runB 5 16 16 hA fd = .ok := by kernel_rfl
theorem ba17 (fd : Value) : runB 5 17 17 hA fd = .ok := by kernel_rfl
theorem ba18 (fd : Value) : runB 5 18 18 hA fd = .ok := by kernel_rfl
theorem ba19 (fd : Value) : runB 5 19 19 hA fd = .ok := by kernel_rfl
theorem ba20 (fd : Value) : runB 5 20 20 hA fd = .ok := by kernel_rfl
theorem ba21 (fd : Value) : runB 5 21 21 hA fd = .ok := by kernel_rfl
theorem ba22 (fd : Value) : runB 5 22 22 hA fd = .ok := by kernel_rfl
theorem ba23 (fd : Value) : runB 5 23 23 hA fd = .ok := by kernel_rfl
theorem ba24 (fd : Value) : runB 5 24 24 hA fd = .ok := by kernel_rfl
theorem ba25 (fd : Value) : runB 5 25 25 hA fd = .ok := by kernel_rfl
theorem ba26 (fd : Value) : runB 5 26 26 hA fd = .ok := by kernel_rfl
theorem ba27 (fd : Value) : runB 5 27 27 hA fd = .ok := by kernel_rfl
theorem ba28 (fd : Value) : runB 5 28 28 hA fd = .ok := by kernel_rfl
theorem ba29 (fd : Value) : runB 5 29 29 hA fd = .ok := by kernel_rfl
theorem ba30 (fd : Value) : runB 5 30 30 hA fd = .ok := by kernel_rfl
theorem ba31 (fd : Value) : runB 5 31 31 hA fd = .ok := by kernel_rfl
theorem ba32 (fd : Value) : runB 5 32 32 hA fd = .ok := by kernel_rfl
theorem ba33 (fd : Value) : runB 5 33 33 hA fd = .ok := by kernel_rfl
theorem ba34 (fd : Value) : runB 5 34 34 hA fd = .ok := by kernel_rfl
theorem ba35 (fd : Value) : runB 5 35 35 hA fd = .ok := by kernel_rfl
theorem ba36 (fd : Value) : runB 5 36 36 hA fd = .ok := by kernel_rfl
theorem ba37 (fd : Value) : runB 5 37 37 hA fd = .ok := by kernel_rfl
theorem ba38 (fd : Value) : runB 5 38 38 hA fd = .ok := by kernel_rfl
theorem ba39 (fd : Value) : runB 5 39 39 hA fd = .ok := by kernel_rfl
theorem ba40 (fd : Value) : runB 5 40 40 hA fd = .ok := by kernel_rfl
theorem ba41 (fd : Value) : runB 5 41 41 hA fd = .ok := by kernel_rfl
theorem ba42 (fd : Value) : runB 5 42 42 hA fd = .ok := by kernel_rfl
theorem ba43 (fd : Value) : runB 5 43 43 hA fd = .ok := by kernel_rfl
theorem ba44 (fd : Value) : runB 5 44 44 hA fd = .ok := by kernel_rfl
theorem ba45 (fd : Value) : runB 5 45 45 hA fd = .ok := by kernel_rfl
theorem ba46 (fd : Value) : runB 5 46 46 hA fd = .ok := by kernel_rfl
theorem ba47 (fd : Value) : runB 5 47 47 hA fd = .ok := by kernel_rfl
theorem ba48 (fd : Value) : runB 5 48 48 hA fd = .ok := by kernel_rfl
theorem ba49 (fd : Value) : runB 5 49 49 hA fd = .ok := by kernel_rfl
theorem ba50 (fd : Value) : runB 5 50 50 hA fd = .ok := by kernel_rfl
theorem ba51 (fd : Value) : runB 5 51 51 hA fd = .ok := by kernel_rfl
theorem ba52 (fd : Value) : runB 5 52 52 hA fd = .ok := by kernel_rfl
theorem ba53 (fd : Value) : runB 5 53 53 hA fd = .ok := by kernel_rfl
theorem ba54 (fd : Value) : runB 5 54 54 hA fd = .ok := by kernel_rfl
theorem ba55 (fd : Value) : runB 5 55 55 hA fd = .ok := by kernel_rfl
theorem ba56 (fd : Value) : runB 5 56 56 hA fd = .ok := by kernel_rfl
theorem ba57 (fd : Value) : runB 5 57 57 hA fd = .ok := by kernel_rfl
theorem ba58 (fd : Value) : runB 5 58 58 hA fd = .ok := by kernel_rfl
theorem ba59 (fd : Value) : runB 5 59 59 hA fd = .ok := by kernel_rfl
theorem ba60 (fd : Value) : runB 5 60 60 hA fd = .ok := by kernel_rfl
theorem ba61 (fd : Value) : runB 5 61 61 hA fd = .ok := by kernel_rfl
theorem ba62 (fd : Value) : runB 5 62 62 hA fd = .ok := by kernel_rfl
theorem ba63 (fd : Value) : runB 5 63 63 hA fd = .ok := by kernel_rfl
theorem ba_all (n : Nat) (h1 : 1 ≤ n) (h2 : n ≤ 63) (fd : Value) : runB 5 n n hA fd = .ok := by
  obtain rfl | rfl | rfl | rfl | rfl | rfl | rfl | rfl | rfl | rfl | rfl | rfl | rfl | rfl | rfl | rfl | rfl | rfl | rfl | rfl | rfl | rfl | rfl | rfl | rfl | rfl | rfl | rfl | rfl | rfl | rfl | rfl | rfl | rfl | rfl | rfl | rfl | rfl | rfl | rfl | rfl | rfl | rfl | rfl | rfl | rfl | rfl | rfl | rfl | rfl | rfl | rfl | rfl | rfl | rfl | rfl | rfl | rfl | rfl | rfl | rfl | rfl | rfl := (by omega : n = 1 ∨ n = 2 ∨ n = 3 ∨ n = 4 ∨ n = 5 ∨ n = 6 ∨ n = 7 ∨ n = 8 ∨ n = 9 ∨ n = 10 ∨ n = 11 ∨ n = 12 ∨ n = 13 ∨ n = 14 ∨ n = 15 ∨ n = 16 ∨ n = 17 ∨ n = 18 ∨ n = 19 ∨ n = 20 ∨ n = 21 ∨ n = 22 ∨ n = 23 ∨ n = 24 ∨ n = 25 ∨ n = 26 ∨ n = 27 ∨ n = 28 ∨ n = 29 ∨ n = 30 ∨ n = 31 ∨ n = 32 ∨ n = 33 ∨ n = 34 ∨ n = 35 ∨ n = 36 ∨ n = 37 ∨ n = 38 ∨ n = 39 ∨ n = 40 ∨ n = 41 ∨ n = 42 ∨ n = 43 ∨ n = 44 ∨ n = 45 ∨ n = 46 ∨ n = 47 ∨ n = 48 ∨ n = 49 ∨ n = 50 ∨ n = 51 ∨ n = 52 ∨ n = 53 ∨ n = 54 ∨ n = 55 ∨ n = 56 ∨ n = 57 ∨ n = 58 ∨ n = 59 ∨ n = 60 ∨ n = 61 ∨ n = 62 ∨ n = 63)
  · exact ba1 fd
  · exact ba2 fd
  · exact ba3 fd
  · exact ba4 fd
  · exact ba5 fd
  · exact ba6 fd
  · exact ba7 fd
  · exact ba8 fd
  · exact ba9 fd
  · exact ba10 fd
  · exact ba11 fd
  · exact ba12 fd
  · exact ba13 fd
  · exact ba14 fd
  · exact ba15 fd
  · exact ba16 fd
  · exact ba17 fd
  · exact ba18 fd
  · exact ba19 fd
  · exact ba20 fd
  · exact ba21 fd
  · exact ba22 fd
  · exact ba23 fd
  · exact ba24 fd
  · exact ba25 fd
  · exact ba26 fd
  · exact ba27 fd
  · exact ba28 fd
  · exact ba29 fd
  · exact ba30 fd
  · exact ba31 fd
  · exact ba32 fd
  · exact ba33 fd
  · exact ba34 fd
  · exact ba35 fd
  · exact ba36 fd
  · exact ba37 fd
  · exact ba38 fd
  · exact ba39 fd
  · exact ba40 fd
  · exact ba41 fd
  · exact ba42 fd
  · exact ba43 fd
  · exact ba44 fd
  · exact ba45 fd
  · exact ba46 fd
  · exact ba47 fd
  · exact ba48 fd
  · exact ba49 fd
  · exact ba50 fd
  · exact ba51 fd
  · exact ba52 fd
  · exact ba53 fd
  · exact ba54 fd
  · exact ba55 fd
  · exact ba56 fd
  · exact ba57 fd
  · exact ba58 fd
  · exact ba59 fd
  · exact ba60 fd
  · exact ba61 fd
  · exact ba62 fd
  · exact ba63 fd
theorem ba_big (m : Nat) (fd : Value) : runB 5 (Nat.add m 64) (Nat.add m 64) hA fd = .ok := by kernel_rfl
theorem b_nil (fd : Value) : callA Tryz.prog xA 5 hint 100000 3 [.nils, .opq fd] h0 saysTrue = .ok := by kernel_rfl
theorem b_mt (fd : Value) : callA Tryz.prog xA 5 hint 100000 3 [.mt, .opq fd] h0 saysTrue = .ok := by kernel_rfl
end Go.Proofs.YtdldpehmcfbbeaaGreatDoor
