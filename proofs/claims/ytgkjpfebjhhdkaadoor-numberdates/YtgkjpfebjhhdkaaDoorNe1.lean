/- Dates: the plain answer's leap, days, year, begin. No condition. -/
import Derived.Test.YtgkjpfebjhhdkaaDoorNd3
namespace Go.Proofs.YtgkjpfebjhhdkaaDoor
open Go.RowKit
theorem leap_alt (y : Int) : Na.leapB y = (decide (y % 4 = 0) && (decide (y % 100 ≠ 0) || decide (y % 400 = 0))) := by
  unfold Na.leapB
  by_cases h4 : y % 4 = 0
  · simp [h4]
  · have : ¬ y % 400 = 0 := by omega
    simp [h4, this]
set_option maxHeartbeats 1000000 in
theorem rLeap (y : Int) (h0 : 0 ≤ y) (w : World) : Calls Tryd.prog 76 #[.int .i64 y] w fun e w' => e = .returned (.bool (Na.leapB y)) ∧ w' = w := by
  have e4 : y.tmod 4 = y % 4 := Int.tmod_eq_emod_of_nonneg h0
  have e100 : y.tmod 100 = y % 100 := Int.tmod_eq_emod_of_nonneg h0
  have e400 : y.tmod 400 = y % 400 := Int.tmod_eq_emod_of_nonneg h0
  have HE := hidA (leap_alt y)
  have r4 : 0 ≤ y % 4 ∧ y % 4 < 4 := by omega
  have r100 : 0 ≤ y % 100 ∧ y % 100 < 100 := by omega
  have r400 : 0 ≤ y % 400 ∧ y % 400 < 400 := by omega
  generalize y % 4 = a at *
  generalize y % 100 = b at *
  generalize y % 400 = c at *
  by_cases ha : a = 0 <;> by_cases hb : b = 0 <;> by_cases hc : c = 0
  all_goals
    have ka : (a == 0) = decide (a = 0) := rfl
    have kb : (b != 0) = !decide (b = 0) := rfl
    have kc : (c == 0) = decide (c = 0) := rfl
    simp only [ha, hb, hc, decide_true, decide_false, Bool.not_true, Bool.not_false, ne_eq, not_true_eq_false, not_false_eq_true, Bool.and_true, Bool.and_false, Bool.or_true, Bool.or_false] at ka kb kc HE
    go_enter Tryd.func76, Tryd.ntmps76
    go_wp2
    go_ret
    exact ⟨by rw [HE.out]; rfl, rfl⟩
theorem mb_L (y : Int) (L : Nat) (h : Na.leapN y = L) (j : Nat) : Na.mb y j = Na.daTab.getD (L * 13 + j) 0 := by unfold Na.mb; rw [h]
set_option maxHeartbeats 2000000 in
theorem rDays (y : Int) (h0 : 0 ≤ y) (j : Nat) (hj : j < 12) (w : World) : Calls Tryd.prog 57 #[.int .i64 y, .int .i64 ((j : Int) + 1)] w fun e w' => e = .returned (.int .i64 (Na.mb y (j + 1) - Na.mb y j)) ∧ w' = w := by
  have HL := hidA (rLeap y h0 w)
  obtain rfl | rfl | rfl | rfl | rfl | rfl | rfl | rfl | rfl | rfl | rfl | rfl : j = 0 ∨ j = 1 ∨ j = 2 ∨ j = 3 ∨ j = 4 ∨ j = 5 ∨ j = 6 ∨ j = 7 ∨ j = 8 ∨ j = 9 ∨ j = 10 ∨ j = 11 := by omega
  all_goals
    cases hb : Na.leapB y
    · have hN : Na.leapN y = 0 := by unfold Na.leapN; rw [hb]; rfl
      rw [hb] at HL
      rw [mb_L y 0 hN, mb_L y 0 hN]
      clear hb hN
      go_enter Tryd.func57, Tryd.ntmps57
      go_wp2_with (go_at_call 76; refine HL.out.mono ?_; rintro e w1 ⟨rfl, rfl⟩)
      go_ret
      exact ⟨rfl, rfl⟩
    · have hN : Na.leapN y = 1 := by unfold Na.leapN; rw [hb]; rfl
      rw [hb] at HL
      rw [mb_L y 1 hN, mb_L y 1 hN]
      clear hb hN
      go_enter Tryd.func57, Tryd.ntmps57
      go_wp2_with (go_at_call 76; refine HL.out.mono ?_; rintro e w1 ⟨rfl, rfl⟩)
      go_ret
      exact ⟨rfl, rfl⟩
set_option maxHeartbeats 1000000 in
theorem rYear (y : Int) (h0 : 0 ≤ y) (w : World) : Calls Tryd.prog 87 #[.int .i64 y] w fun e w' => e = .returned (.int .i64 (Na.yb (y + 1) - Na.yb y)) ∧ w' = w := by
  have HL := hidA (rLeap y h0 w)
  rw [Na.yb_step y]
  cases hb : Na.leapB y
  · have hN : Na.leapN y = 0 := by unfold Na.leapN; rw [hb]; rfl
    rw [hb] at HL
    rw [mb_L y 0 hN]
    clear hb hN
    go_enter Tryd.func87, Tryd.ntmps87
    go_wp2_with (go_at_call 76; refine HL.out.mono ?_; rintro e w1 ⟨rfl, rfl⟩)
    go_ret
    exact ⟨rfl, rfl⟩
  · have hN : Na.leapN y = 1 := by unfold Na.leapN; rw [hb]; rfl
    rw [hb] at HL
    rw [mb_L y 1 hN]
    clear hb hN
    go_enter Tryd.func87, Tryd.ntmps87
    go_wp2_with (go_at_call 76; refine HL.out.mono ?_; rintro e w1 ⟨rfl, rfl⟩)
    go_ret
    exact ⟨rfl, rfl⟩
theorem yb70 : Na.yb 1970 = 719528 := by decide +kernel
theorem yb_mono {a b : Int} (h : a ≤ b) : Na.yb a ≤ Na.yb b := by unfold Na.yb; omega
set_option maxRecDepth 100000 in
set_option maxHeartbeats 2000000 in
theorem rBegin (y : Int) (h0 : 0 ≤ y) (h1 : y ≤ 10000) (w : World) : Calls Tryd.prog 75 #[.int .i64 y] w fun e w' => e = .returned (.int .i64 (Na.yb y - 719528)) ∧ w' = w := by
  have HY := hidA (fun k (hk : 0 ≤ k) => rYear k hk w)
  have HR := hidA (fun k (h0 : 0 ≤ k) (h1 : k ≤ 10001) => Na.yb_rng h0 h1)
  go_enter Tryd.func75, Tryd.ntmps75
  go_wp2_with fail
  go_loopw [3, 4] (fun d k w' => ∃ K Y : Int, d = .int .i64 (Y - 719528) ∧ k = .int .i64 K ∧ 1970 ≤ K ∧ K ≤ 10000 ∧ (K = 1970 ∨ K ≤ y) ∧ 0 ≤ Y ∧ Y ≤ 4000000 ∧ w' = w ∧ Hid (Na.yb K = Y)) (fun _ k _ => (10001 - intOf k).toNat)
  case atStart => exact ⟨1970, 719528, rfl, rfl, by decide, by decide, .inl rfl, by decide, by decide, rfl, yb70⟩
  case round =>
    obtain ⟨K, Y, rfl, rfl, k0, k1, k2, y0, y1, hwr, HK⟩ := hrel
    rw [hwr]
    clear hwr
    by_cases hc : K < y
    · have HYk := hidA (HY.out K (by omega))
      obtain ⟨r0, r1⟩ := HR.out (K + 1) (by omega) (by omega)
      rw [HK.out] at HYk
      have HK2 : Hid (Na.yb (K + 1) = Na.yb (K + 1)) := rfl
      obtain ⟨Y2, hY2⟩ : ∃ Y2, Na.yb (K + 1) = Y2 := ⟨_, rfl⟩
      rw [hY2] at HYk r0 r1
      have HY2 : Hid (Na.yb (K + 1) = Y2) := hY2
      have hs : Y - 719528 + (Y2 - Y) = Y2 - 719528 := by omega
      have hw : IntKind.i64.wrap (Y - 719528 + (Y2 - Y)) = Y2 - 719528 := by rw [IntKind.wrap_i64]; omega
      clear HK HK2 hY2
      go_wp2_with (go_at_call 87; refine HYk.out.mono ?_; rintro e w1 ⟨rfl, hw1⟩; rw [hw1]; clear hw1 w1)
      refine ⟨⟨K + 1, Y2, by first | rfl | (simp; omega), rfl, by omega, by omega, .inr (by omega), by omega, by omega, by first | rfl | trivial, HY2⟩, by simp [intOf]; omega⟩
    · have HI : Hid ((y ≤ 1969 → Na.yb (1969 + 1) = Y ∧ y - 1 ≤ 1969) ∧ (1970 ≤ y → (1969 : Int) = 1969 ∧ Na.yb y = Y)) := by
        refine ⟨fun h => ⟨?_, by omega⟩, fun h => ⟨rfl, ?_⟩⟩
        · have : K = 1970 := by omega
          rw [← HK.out, this]; rfl
        · have : K = y := by omega
          rw [← HK.out, this]
      clear HK
      go_wp2_with fail
      go_loopw [3, 5] (fun d k w' => ∃ K Y : Int, d = .int .i64 (Y - 719528) ∧ k = .int .i64 K ∧ K ≤ 1969 ∧ -1 ≤ K ∧ 0 ≤ Y ∧ Y ≤ 4000000 ∧ w' = w ∧ Hid ((y ≤ 1969 → Na.yb (K + 1) = Y ∧ y - 1 ≤ K) ∧ (1970 ≤ y → K = 1969 ∧ Na.yb y = Y))) (fun _ k _ => (intOf k + 2).toNat)
      case atStart => exact ⟨1969, Y, rfl, rfl, by decide, by decide, y0, y1, by first | rfl | trivial, by first | exact HI | (show _ ∧ _; simpa using HI.out)⟩
      case round =>
        clear HI
        obtain ⟨K, Y, rfl, rfl, k0, k1, y0, y1, hwr, HK⟩ := hrel
        rw [hwr]
        clear hwr
        by_cases hc : y ≤ K
        · obtain ⟨hK, hK2⟩ := HK.out.1 (by omega)
          have HYk := hidA (HY.out K (by omega))
          obtain ⟨r0, r1⟩ := HR.out K (by omega) (by omega)
          rw [hK] at HYk
          obtain ⟨Y2, hY2⟩ : ∃ Y2, Na.yb K = Y2 := ⟨_, rfl⟩
          rw [hY2] at HYk r0 r1
          have HY2 : Hid ((y ≤ 1969 → Na.yb (K - 1 + 1) = Y2 ∧ y - 1 ≤ K - 1) ∧ (1970 ≤ y → K - 1 = 1969 ∧ Na.yb y = Y2)) := by
            refine ⟨fun _ => ⟨?_, by omega⟩, fun h => by omega⟩
            rw [show K - 1 + 1 = K by omega]; exact hY2
          have hw : IntKind.i64.wrap (Y - 719528 - (Y - Y2)) = Y2 - 719528 := by rw [IntKind.wrap_i64]; omega
          have hwk : IntKind.i64.wrap (K - 1) = K - 1 := by rw [IntKind.wrap_i64]; omega
          clear HK hK hY2
          go_wp2_with (go_at_call 87; refine HYk.out.mono ?_; rintro e w1 ⟨rfl, hw1⟩; rw [hw1]; clear hw1 w1)
          refine ⟨⟨K - 1, Y2, by first | rfl | (simp; omega), rfl, by omega, by omega, by omega, by omega, by first | rfl | trivial, HY2⟩, by simp [intOf]; omega⟩
        · have HE : Hid (Na.yb y = Y) := by
            show _ = _
            by_cases h : y ≤ 1969
            · obtain ⟨a, b⟩ := HK.out.1 h
              have : K + 1 = y := by omega
              rw [← this]; exact a
            · exact (HK.out.2 (by omega)).2
          clear HK
          go_wp2_with fail
          go_ret
          exact ⟨by rw [HE.out]; rfl, rfl⟩
end Go.Proofs.YtgkjpfebjhhdkaaDoor
