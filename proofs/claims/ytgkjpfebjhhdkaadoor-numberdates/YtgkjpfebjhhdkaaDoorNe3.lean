/- Dates: the plain answer's two, second, Stamp. No condition. -/
import Derived.Test.YtgkjpfebjhhdkaaDoorNe2
import Derived.Test.YtgkjpfebjhhdkaaDoorNh5
import Derived.Test.YtgkjpfebjhhdkaaDoorNd4
import Derived.Test.YtgkjpfebjhhdkaaDoorNl0
namespace Go.Proofs.YtgkjpfebjhhdkaaDoor
open Go.RowKit
attribute [local go_sem] ext_eq app_eq get_eq
set_option maxRecDepth 100000 in
set_option maxHeartbeats 1000000 in
theorem rTwo (n : Int) (h0 : 0 ≤ n) (h1 : n < 100) (w : World) : Calls Tryd.prog 61 #[.int .i64 n] w fun e w' => e = .returned (.string ⟨(Na.two n).toArray⟩) ∧ Below w.heap.size w w' := by
  have hqd : n.tdiv 10 = n / 10 := Int.tdiv_eq_ediv_of_nonneg h0
  have hqm : n.tmod 10 = n % 10 := Int.tmod_eq_emod_of_nonneg h0
  have HT1 := hidA (fun w => rText (n / 10) (by omega) (by omega) w)
  have HT2 := hidA (fun w => rText (n % 10) (by omega) (by omega) w)
  have e1 : Lib.decDigits (n / 10).toNat = [UInt8.ofNat (48 + n.toNat / 10)] := by rw [dd_one _ (by omega), show (n / 10).toNat = n.toNat / 10 by omega]
  have e2 : Lib.decDigits (n % 10).toNat = [UInt8.ofNat (48 + n.toNat % 10)] := by rw [dd_one _ (by omega), show (n % 10).toNat = n.toNat % 10 by omega]
  rw [e1] at HT1
  rw [e2] at HT2
  have r1 : 0 ≤ n / 10 ∧ n / 10 < 10 := by omega
  have r2 : 0 ≤ n % 10 ∧ n % 10 < 10 := by omega
  have w1 : IntKind.i64.wrap (n / 10) = n / 10 := by rw [IntKind.wrap_i64]; omega
  have w2 : IntKind.i64.wrap (n % 10) = n % 10 := by rw [IntKind.wrap_i64]; omega
  have u1 : IntKind.u64.wrap (n / 10) = n / 10 := by rw [IntKind.wrap_u64]; omega
  have u2 : IntKind.u64.wrap (n % 10) = n % 10 := by rw [IntKind.wrap_u64]; omega
  have HE : Hid (Na.two n = [UInt8.ofNat (48 + n.toNat / 10), UInt8.ofNat (48 + n.toNat % 10)]) := rfl
  generalize UInt8.ofNat (48 + n.toNat / 10) = c1 at *
  generalize UInt8.ofNat (48 + n.toNat % 10) = c2 at *
  generalize n / 10 = q at *
  generalize n % 10 = r at *
  clear e1 e2
  go_enter Tryd.func61, Tryd.ntmps61
  go_wp2_with (first | (go_at_call 41; first | (with_reducible refine (HT1.out _).mono ?_; rintro e w1 ⟨rfl, b1⟩) | (with_reducible refine (HT2.out _).mono ?_; rintro e w2 ⟨rfl, b2⟩)) | go_quiet (fail))
  go_ret
  exact ⟨by rw [HE.out]; simp, bl2 b1 b2⟩
/-- The days ahead of month j + 1, walked. -/
theorem mb_succ (y : Int) (j : Nat) : Na.mb y (j + 1) = Na.mb y j + (Na.mb y (j + 1) - Na.mb y j) := by omega
set_option maxRecDepth 100000 in
set_option maxHeartbeats 2000000 in
theorem rSecond (y : Int) (j : Nat) (d h mi s : Int) (h0 : 0 ≤ y) (h1 : y ≤ 9999) (hj : j < 12) (hd : 0 ≤ d ∧ d ≤ 99) (hh : 0 ≤ h ∧ h ≤ 99) (hm : 0 ≤ mi ∧ mi ≤ 99) (hs : 0 ≤ s ∧ s ≤ 99) (w : World) :
    Calls Tryd.prog 58 #[mV y ((j : Int) + 1) d h mi s] w fun e w' => e = .returned (.int .i64 (Na.secP y j d h mi s)) ∧ Below w.heap.size w w' := by
  unfold mV
  have HB := hidA (fun w => rBegin y h0 (by omega) w)
  have HD := hidA (fun k hk w => rDays y h0 k hk w)
  have ry := Na.yb_rng h0 (show y ≤ 10001 by omega)
  have HM := hidA (fun k (hk : k < 13) => Na.mb_rng y hk)
  have HZ := hidA (Na.mb_zero y)
  go_enter Tryd.func58, Tryd.ntmps58
  go_wp2_with (first | (go_at_call 75; refine (HB.out _).mono ?_; rintro e w1 ⟨rfl, h1⟩; rw [h1]; clear h1 w1))
  have HS : Hid (Na.secP y j d h mi s = (Na.yb y - 719528 + Na.mb y j + (d - 1)) * 86400 + h * 3600 + mi * 60 + s) := by unfold Hid Na.secP; omega
  go_loopw [3, 4] (fun dv mv W => ∃ (k : Nat) (M : Int), k ≤ j ∧ 0 ≤ M ∧ M ≤ 366 ∧ dv = .int .i64 (Na.yb y - 719528 + M) ∧ mv = .int .i64 ((k : Int) + 1) ∧ Hid (Na.mb y k = M) ∧ W = w.alloc (.cells #[.int .i64 y, .int .i64 ((j : Int) + 1), .int .i64 d, .int .i64 h, .int .i64 mi, .int .i64 s] 82)) (fun _ mv _ => j + 1 - (intOf mv).toNat)
  case atStart => exact ⟨0, 0, Nat.zero_le _, by decide, by decide, by simp, rfl, HZ.out, rfl⟩
  case round =>
    obtain ⟨k, M, hk, hM0, hM1, rfl, rfl, HMk, rfl⟩ := hrel
    by_cases hlt : k < j
    · have HDk := hidA (fun w => HD.out k (by omega) w)
      rw [HMk.out] at HDk
      obtain ⟨g0, g1⟩ := HM.out (k + 1) (by omega)
      obtain ⟨M', hM'⟩ : ∃ M', Na.mb y (k + 1) = M' := ⟨_, rfl⟩
      rw [hM'] at HDk g0 g1
      have HMn := hidA hM'
      clear hM' HB HD HM HZ HS HMk
      generalize Na.yb y = Y at *
      have f1 : (k : Int) + 1 < (j : Int) + 1 := by omega
      have f2 : IntKind.i64.wrap (Y - 719528 + M + (M' - M)) = Y - 719528 + M' := by rw [IntKind.wrap_i64]; omega
      have f3 : IntKind.i64.wrap ((k : Int) + 1 + 1) = (k : Int) + 1 + 1 := by rw [IntKind.wrap_i64]; omega
      have f4 : (k : Int) < j := by omega
      go_wp2_with (go_at_call 57; refine (HDk.out _).mono ?_; rintro e w2 ⟨rfl, h2⟩; rw [h2]; clear h2 w2)
      exact ⟨⟨k + 1, M', by omega, g0, g1, rfl, by go_num, HMn, by first | rfl | trivial⟩, by simp [intOf]; omega⟩
    · obtain rfl : k = j := by omega
      rw [HMk.out] at HS
      clear HB HD HM HZ HMk
      generalize Na.yb y = Y at *
      have f1 : ¬ (k : Int) + 1 < (k : Int) + 1 := by omega
      have f2 : IntKind.i64.wrap (d - 1) = d - 1 := by rw [IntKind.wrap_i64]; omega
      have f3 : IntKind.i64.wrap (Y - 719528 + M + (d - 1)) = Y - 719528 + M + (d - 1) := by rw [IntKind.wrap_i64]; omega
      have f4 : IntKind.i64.wrap ((Y - 719528 + M + (d - 1)) * 86400) = (Y - 719528 + M + (d - 1)) * 86400 := by rw [IntKind.wrap_i64]; omega
      have f5 : IntKind.i64.wrap (h * 3600) = h * 3600 := by rw [IntKind.wrap_i64]; omega
      have f6 : IntKind.i64.wrap (mi * 60) = mi * 60 := by rw [IntKind.wrap_i64]; omega
      have f7 : IntKind.i64.wrap ((Y - 719528 + M + (d - 1)) * 86400 + h * 3600) = (Y - 719528 + M + (d - 1)) * 86400 + h * 3600 := by rw [IntKind.wrap_i64]; omega
      have f8 : IntKind.i64.wrap ((Y - 719528 + M + (d - 1)) * 86400 + h * 3600 + mi * 60) = (Y - 719528 + M + (d - 1)) * 86400 + h * 3600 + mi * 60 := by rw [IntKind.wrap_i64]; omega
      have f9 : IntKind.i64.wrap ((Y - 719528 + M + (d - 1)) * 86400 + h * 3600 + mi * 60 + s) = (Y - 719528 + M + (d - 1)) * 86400 + h * 3600 + mi * 60 + s := by rw [IntKind.wrap_i64]; omega
      go_wp2
      go_ret
      exact ⟨by rw [HS.out]; rfl, (Below.refl w.heap.size w).alloc (Nat.le_refl _) _⟩
end Go.Proofs.YtgkjpfebjhhdkaaDoor
