/- The plain answer's Parse. Condition: a length that fits. -/
import Derived.Test.YtmminmdmhefefaaPn4
import Derived.Deep.RegionHeld
namespace Go.Proofs.Ytmminmdmhefefaa
open Go.RowKit
theorem ret_i2 {a b c d : Int} (h : c = a) (k : d = b) : Ending.returned (.tuple #[.int .i64 a, .int .i64 b]) = .returned (.tuple #[.int .i64 c, .int .i64 d]) := by rw [h, k]
attribute [local go_sem] get_eq ext_eq
set_option maxRecDepth 100000 in
set_option maxHeartbeats 1000000 in
theorem rParse_no (l : List UInt8) (w : World) (h10 : ¬ l.length = 10) : Calls Try.prog 8 #[.string ⟨l.toArray⟩] w fun e w' => e = .returned (.tuple #[.int .i64 (Pm.parR l), .int .i64 (Pm.parE l)]) ∧ Below w.heap.size w w' := by
  have HK : Hid (Pm.parR l = 0 ∧ Pm.parE l = 22) := Pm.not_ok l (by simp [Pm.parOk, h10])
  have hlen : ((l.length : Int) == 10) = false := by simp; omega
  have hi0 : ∀ w, (Instr.index 48 (.agg #[.int .i64 16384, .int .i64 40960, .int .i64 4096, .int .i64 32768]) (.int .i64 0)).run Try.prog w = .ok (.int .i64 16384) w := fun _ => by kernel_rfl
  have hi1 : ∀ w, (Instr.index 48 (.agg #[.int .i64 16384, .int .i64 40960, .int .i64 4096, .int .i64 32768]) (.int .i64 1)).run Try.prog w = .ok (.int .i64 40960) w := fun _ => by kernel_rfl
  have hi2 : ∀ w, (Instr.index 48 (.agg #[.int .i64 16384, .int .i64 40960, .int .i64 4096, .int .i64 32768]) (.int .i64 2)).run Try.prog w = .ok (.int .i64 4096) w := fun _ => by kernel_rfl
  have hi3 : ∀ w, (Instr.index 48 (.agg #[.int .i64 16384, .int .i64 40960, .int .i64 4096, .int .i64 32768]) (.int .i64 3)).run Try.prog w = .ok (.int .i64 32768) w := fun _ => by kernel_rfl
  go_enter Try.func8, Try.ntmps8
  go_wp2_with fail
  go_loopw [11] (fun t w' => ∃ k : Nat, k ≤ 4 ∧ t = .int .i64 k ∧ Dr w w') (fun t _ => 4 - (intOf t).toNat)
  case atStart => exact ⟨0, by omega, rfl, Dr.refl w⟩
  case round =>
    obtain ⟨k, hk, rfl, hD⟩ := hrel
    have HD : Hid (Dr w wr) := hD
    clear hD
    obtain rfl | rfl | rfl | rfl | rfl : k = 0 ∨ k = 1 ∨ k = 2 ∨ k = 3 ∨ k = 4 := by omega
    · go_wp2_with fail
      first | (go_region_held (fun _ => True) (trivial) (fail)) | fail
      all_goals go_wp2_with fail
      all_goals exact ⟨⟨1, by omega, rfl, HD.out.trans (Dr.drew _)⟩, by decide⟩
    · go_wp2_with fail
      first | (go_region_held (fun _ => True) (trivial) (fail)) | fail
      all_goals go_wp2_with fail
      all_goals exact ⟨⟨2, by omega, rfl, HD.out.trans (Dr.drew _)⟩, by decide⟩
    · go_wp2_with fail
      first | (go_region_held (fun _ => True) (trivial) (fail)) | fail
      all_goals go_wp2_with fail
      all_goals exact ⟨⟨3, by omega, rfl, HD.out.trans (Dr.drew _)⟩, by decide⟩
    · go_wp2_with fail
      first | (go_region_held (fun _ => True) (trivial) (fail)) | fail
      all_goals go_wp2_with fail
      all_goals exact ⟨⟨4, by omega, rfl, HD.out.trans (Dr.drew _)⟩, by decide⟩
    · go_wp2_with fail
      go_ret2
      exact ⟨ret_i2 HK.out.1 HK.out.2, HD.out.below _⟩
end Go.Proofs.Ytmminmdmhefefaa
