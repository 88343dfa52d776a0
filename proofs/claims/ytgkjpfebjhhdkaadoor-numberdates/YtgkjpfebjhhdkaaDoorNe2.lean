/- Dates: the plain answer's Civil. No condition. -/
import Derived.Test.YtgkjpfebjhhdkaaDoorNe1
namespace Go.Proofs.YtgkjpfebjhhdkaaDoor
open Go.RowKit
theorem mb12 (y : Int) : Na.mb y 12 = Na.yb (y + 1) - Na.yb y := (Na.yb_step y).symm
theorem tdiv_neg {t d r : Int} (ht : t < 0) (h : t = 86400 * d + r) (h0 : 0 < r) (h1 : r < 86400) : t.tdiv 86400 = d + 1 ∧ t.tmod 86400 = r - 86400 := by
  have e : t = 86400 * (d + 1) + (r - 86400) := by omega
  have hm := Int.mul_tdiv_add_tmod t 86400
  have h2 := Int.tmod_lt_of_pos (-t) (show (0 : Int) < 86400 by decide)
  have h3 : (-t).tmod 86400 = -(t.tmod 86400) := Int.neg_tmod _ _
  have h4 : 0 ≤ (-t).tmod 86400 := Int.tmod_nonneg _ (by omega)
  omega
theorem tdiv_neg0 {t d : Int} (ht : t < 0) (h : t = 86400 * d) : t.tdiv 86400 = d ∧ t.tmod 86400 = 0 := by
  have hm := Int.mul_tdiv_add_tmod t 86400
  have h2 := Int.tmod_lt_of_pos (-t) (show (0 : Int) < 86400 by decide)
  have h3 : (-t).tmod 86400 = -(t.tmod 86400) := Int.neg_tmod _ _
  have h4 : 0 ≤ (-t).tmod 86400 := Int.tmod_nonneg _ (by omega)
  omega
theorem tdiv_rng {d k : Int} (hd : d < 0) (h2 : -719528 ≤ d) (hk : k = 365 ∨ k = 366) : -1972 ≤ d.tdiv k ∧ d.tdiv k ≤ 0 := by
  have hm := Int.mul_tdiv_add_tmod d k
  have h2 := Int.tmod_lt_of_pos (-d) (show (0 : Int) < k by omega)
  have h3 : (-d).tmod k = -(d.tmod k) := Int.neg_tmod _ _
  have h4 : 0 ≤ (-d).tmod k := Int.tmod_nonneg _ (by omega)
  rcases hk with rfl | rfl <;> omega
theorem Mo.startA (w : World) : Mo w w.heap.size (w.alloc (.cells #[.int .i64 0, .int .i64 0, .int .i64 0, .int .i64 0, .int .i64 0, .int .i64 0] 82)) := by
  refine ⟨(Below.refl _ _).alloc (Nat.le_refl _) _, ?_, ?_, ?_, ?_, ?_, ?_, fun o => ?_⟩
  all_goals first | (rw [World.cell?_alloc_at _ _ _ _ rfl]; rfl) | (rw [World.frozen?_alloc_at _ _ _ _ rfl])
theorem yz : Na.yb 0 = 0 := by decide +kernel
theorem y10 : Na.yb 10000 = 3652425 := by decide +kernel
set_option maxRecDepth 100000 in
set_option maxHeartbeats 16000000 in
theorem rCivil (t : Int) (h0 : -9223372036854775808 ≤ t) (h1 : t ≤ 9223372036854775807) (w : World) : Calls Tryd.prog 56 #[.int .i64 t] w fun e w' => OutM t e ∧ Below w.heap.size w w' := by
  obtain ⟨W, hW⟩ : ∃ W, w.alloc (.cells #[.int .i64 0, .int .i64 0, .int .i64 0, .int .i64 0, .int .i64 0, .int .i64 0] 82) = W := ⟨_, rfl⟩
  have HM2 : Hid (Mo w w.heap.size W) := by rw [← hW]; exact Mo.startA w
  obtain ⟨_, c0, c1, c2, c3, c4, c5, fz⟩ := HM2.out
  have HBg := hidA (fun (y : Int) (h0 : 0 ≤ y) (h1 : y ≤ 10000) => rBegin y h0 h1 W)
  have HBz := hidA (HBg.out 0 (by decide) (by decide))
  have HBt := hidA (HBg.out 10000 (by decide) (by decide))
  rw [yz] at HBz
  rw [y10] at HBt
  have e0 : (0 : Int) - 719528 = -719528 := by decide
  have e10 : (3652425 : Int) - 719528 = 2932897 := by decide
  rw [e0] at HBz
  rw [e10] at HBt
  have HRn := hidA (fun (y : Int) (h0 : 0 ≤ y) (h1 : y ≤ 10001) => Na.yb_rng h0 h1)
  by_cases hb : t < -62167219200 ∨ 253402300800 ≤ t
  · have HE : Hid (∀ e, e = .returned (.tuple #[mV 0 0 0 0 0 0, .bool false]) → OutM t e) := fun e he => by unfold OutM; rw [if_pos hb]; exact he
    clear HBg HRn
    by_cases h2 : t < -62167219200
    · go_enter Tryd.func56, Tryd.ntmps56
      go_wp2_with (go_at_call 75; first | (with_reducible refine HBz.out.mono ?_; rintro e w1 ⟨rfl, hw1⟩; rw [hw1]; clear hw1 w1) | (with_reducible refine HBt.out.mono ?_; rintro e w1 ⟨rfl, hw1⟩; rw [hw1]; clear hw1 w1))
      (try simp only [Exit.inBlock, Exit.then])
      refine bodyPost_ret (by simp [results, Tryd.results56, go_sem, c0, c1, c2, c3, c4, c5]; rfl) rfl ?_
      exact ⟨HE.out _ rfl, HM2.out.fin _ _ _ _ _ _⟩
    · have h3 : 253402300800 ≤ t := by omega
      go_enter Tryd.func56, Tryd.ntmps56
      go_wp2_with (go_at_call 75; first | (with_reducible refine HBz.out.mono ?_; rintro e w1 ⟨rfl, hw1⟩; rw [hw1]; clear hw1 w1) | (with_reducible refine HBt.out.mono ?_; rintro e w1 ⟨rfl, hw1⟩; rw [hw1]; clear hw1 w1))
      (try simp only [Exit.inBlock, Exit.then])
      refine bodyPost_ret (by simp [results, Tryd.results56, go_sem, c0, c1, c2, c3, c4, c5]; rfl) rfl ?_
      exact ⟨HE.out _ rfl, HM2.out.fin _ _ _ _ _ _⟩
  · obtain ⟨dy, hdy⟩ : ∃ dy, t / 86400 = dy := ⟨_, rfl⟩
    obtain ⟨R, hR⟩ : ∃ R, t % 86400 = R := ⟨_, rfl⟩
    have hD : (t + 62167219200) / 86400 = dy + 719528 := by omega
    have hR2 : (t + 62167219200) % 86400 = R := by omega
    have HF : Hid (∀ e (y : Int) (j : Nat), Na.Cv (dy + 719528) y j → e = .returned (.tuple #[mV y ((j : Int) + 1) (dy + 719528 - Na.yb y - Na.mb y j + 1) (R / 3600) (R / 60 % 60) (R % 60), .bool true]) → OutM t e) := fun e y j hc he => by
      unfold OutM; rw [if_neg hb, hD, hR2]; exact ⟨y, j, hc, he⟩
    clear hD hR2
    have g1 : ¬ t < -62167219200 := by omega
    have g2 : ¬ 253402300800 ≤ t := by omega
    have g3 : decide (t < -62167219200) = false := by simpa using g1
    have g4 : decide (253402300800 ≤ t) = false := by simpa using g2
    have d0 : -719528 ≤ dy := by omega
    have d1 : dy < 2932897 := by omega
    have R0 : 0 ≤ R := by omega
    have R1 : R < 86400 := by omega
    have q4 : R.tdiv 3600 = R / 3600 := Int.tdiv_eq_ediv_of_nonneg R0
    have q5 : R.tdiv 60 = R / 60 := Int.tdiv_eq_ediv_of_nonneg R0
    have q6 : (R / 60).tmod 60 = R / 60 % 60 := Int.tmod_eq_emod_of_nonneg (by omega)
    have q7 : R.tmod 60 = R % 60 := Int.tmod_eq_emod_of_nonneg R0
    by_cases ht : 0 ≤ t
    · have dn : 0 ≤ dy := by omega
      have a1 : t.tdiv 86400 = dy := (Int.tdiv_eq_ediv_of_nonneg ht).trans hdy
      have a2 : t.tmod 86400 = R := (Int.tmod_eq_emod_of_nonneg ht).trans hR
      have a3 : dy.tdiv 366 = dy / 366 := Int.tdiv_eq_ediv_of_nonneg dn
      clear hb
      go_enter Tryd.func56, Tryd.ntmps56
      go_wp2_with (go_at_call 75; first | (with_reducible refine HBz.out.mono ?_; rintro e w1 ⟨rfl, hw1⟩; rw [hw1]; clear hw1 w1) | (with_reducible refine HBt.out.mono ?_; rintro e w1 ⟨rfl, hw1⟩; rw [hw1]; clear hw1 w1))
      go_loopw [6] (fun yv w' => ∃ y : Int, yv = .int .i64 y ∧ 0 ≤ y ∧ y ≤ 9999 ∧ w' = W) (fun yv _ => (10000 - intOf yv).toNat)
      case atStart => exact ⟨_, rfl, by omega, by omega, by first | rfl | trivial⟩
      case round =>
        obtain ⟨y, rfl, y0, y1, hwr⟩ := hrel
        rw [hwr]
        clear hwr
        have after : ∀ y : Int, 0 ≤ y → y ≤ 9999 → dy + 719528 < Na.yb (y + 1) → True := fun _ _ _ _ => trivial
        clear after
        have HBs := fun (h : y < 9999) => HBg.out (y + 1) (by omega) (by omega)
        obtain ⟨Y1, hY1⟩ : ∃ Y1, Na.yb (y + 1) = Y1 := ⟨_, rfl⟩
        obtain ⟨g0, g1⟩ := HRn.out (y + 1) (by omega) (by omega)
        rw [hY1] at HBs g0 g1
        have HY1 : Hid (Na.yb (y + 1) = Y1) := hY1
        clear hY1
        have hwy : IntKind.i64.wrap (y + 1) = y + 1 := by rw [IntKind.wrap_i64]; omega
        by_cases h9 : y < 9999
        · have HB1 := hidA (HBs h9)
          clear HBs
          by_cases hc : Y1 - 719528 ≤ dy
          · go_wp2_with (go_at_call 75; refine HB1.out.mono ?_; rintro e w1 ⟨rfl, hw1⟩; rw [hw1]; clear hw1 w1)
            exact ⟨⟨y + 1, rfl, by omega, by omega, by first | rfl | trivial⟩, by simp [intOf]; omega⟩
          · have HU : Hid (dy + 719528 < Na.yb (y + 1)) := by show _ < _; rw [HY1.out]; omega
            clear HY1
            go_wp2_with (go_at_call 75; refine HB1.out.mono ?_; rintro e w1 ⟨rfl, hw1⟩; rw [hw1]; clear hw1 w1)
            go_loopw [6] (fun yv w' => ∃ y : Int, yv = .int .i64 y ∧ 0 ≤ y ∧ y ≤ 9999 ∧ w' = W ∧ Hid (dy + 719528 < Na.yb (y + 1))) (fun yv _ => (intOf yv).toNat)
            case atStart => exact ⟨_, rfl, by omega, by omega, by first | rfl | trivial, HU⟩
            case round =>
              clear HU
              obtain ⟨y, rfl, y0, y1, hwr, HU⟩ := hrel
              rw [hwr]
              clear hwr
              have HB0 := hidA (HBg.out y (by omega) (by omega))
              obtain ⟨g0, g1⟩ := HRn.out y (by omega) (by omega)
              obtain ⟨Y0, hY0⟩ : ∃ Y0, Na.yb y = Y0 := ⟨_, rfl⟩
              rw [hY0] at HB0 g0 g1
              have HY0 : Hid (Na.yb y = Y0) := hY0
              clear hY0
              by_cases hc : dy < Y0 - 719528
              · have hyp : 1 ≤ y := by
                  by_cases e : y = 0
                  · have := HY0.out; rw [e, yz] at this; omega
                  · omega
                have HU2 : Hid (dy + 719528 < Na.yb (y - 1 + 1)) := by show _ < _; rw [show y - 1 + 1 = y by omega, HY0.out]; omega
                have hwy : IntKind.i64.wrap (y - 1) = y - 1 := by rw [IntKind.wrap_i64]; omega
                clear HU HY0
                go_wp2_with (go_at_call 75; refine HB0.out.mono ?_; rintro e w2 ⟨rfl, hw2⟩; rw [hw2]; clear hw2 w2)
                exact ⟨⟨y - 1, rfl, by omega, by omega, by first | rfl | trivial, HU2⟩, by simp [intOf]; omega⟩
              · have HDn := hidA (fun (j : Nat) (hj : j < 12) => rDays y y0 j hj W)
                have HMr := hidA (fun (j : Nat) (hj : j < 13) => Na.mb_rng y hj)
                have h12 : Hid (dy + 719528 - Y0 < Na.mb y 12) := by show _ < _; rw [mb12, HY0.out]; have := HU.out; omega
                have hz := hidA (Na.mb_zero y)
                have HF2 : Hid (∀ e (j : Nat), j < 12 → Na.mb y j ≤ dy + 719528 - Y0 → dy + 719528 - Y0 < Na.mb y (j + 1) → e = .returned (.tuple #[mV y ((j : Int) + 1) (dy + 719528 - Y0 - Na.mb y j + 1) (R / 3600) (R / 60 % 60) (R % 60), .bool true]) → OutM t e) := fun e j h1 h2 h3 he =>
                  HF.out e y j ⟨y0, y1, by rw [HY0.out]; omega, HU.out, h1, by rw [HY0.out]; exact h2, by rw [HY0.out]; exact h3⟩ (by rw [HY0.out]; exact he)
                have hdd : IntKind.i64.wrap (dy - (Y0 - 719528)) = dy + 719528 - Y0 := by rw [IntKind.wrap_i64]; omega
                have hdd2 : dy - (Y0 - 719528) = dy + 719528 - Y0 := by omega
                clear HU HY0 HF
                obtain ⟨E, hE⟩ : ∃ E, dy + 719528 - Y0 = E := ⟨_, rfl⟩
                rw [hE] at h12 HF2 hdd hdd2
                have hE0 : 0 ≤ E := by omega
                have hE1 : E ≤ 4000000 := by omega
                clear hE
                go_wp2_with (go_at_call 75; refine HB0.out.mono ?_; rintro e w2 ⟨rfl, hw2⟩; rw [hw2]; clear hw2 w2)
                go_loopw [7, 8] (fun dv mv w' => ∃ (j : Nat) (M : Int), dv = .int .i64 (E - M) ∧ mv = .int .i64 ((j : Int) + 1) ∧ j < 12 ∧ 0 ≤ M ∧ M ≤ E ∧ w' = W ∧ Hid (Na.mb y j = M)) (fun _ mv _ => (13 - intOf mv).toNat)
                case atStart => exact ⟨0, 0, by simp, rfl, by decide, by decide, by omega, by first | rfl | trivial, hz⟩
                case round =>
                  obtain ⟨j, M, rfl, rfl, hj, M0, M1, hwr, HM⟩ := hrel
                  rw [hwr]
                  clear hwr
                  have HD1 := hidA (HDn.out j hj)
                  obtain ⟨N0, N1⟩ := HMr.out (j + 1) (by omega)
                  obtain ⟨N, hN⟩ : ∃ N, Na.mb y (j + 1) = N := ⟨_, rfl⟩
                  rw [hN] at N0 N1
                  rw [HM.out, hN] at HD1
                  by_cases hc2 : N - M ≤ E - M
                  · have hj2 : j + 1 < 12 := by
                      by_cases e : j + 1 = 12
                      · have := h12.out; rw [← e, hN] at this; omega
                      · omega
                    have HN : Hid (Na.mb y (j + 1) = N) := hN
                    have hw5 : IntKind.i64.wrap (E - M - (N - M)) = E - N := by rw [IntKind.wrap_i64]; omega
                    have hw6 : IntKind.i64.wrap ((j : Int) + 1 + 1) = (j : Int) + 1 + 1 := by rw [IntKind.wrap_i64]; omega
                    have hw7 : E - M - (N - M) = E - N := by omega
                    clear HM hN
                    go_wp2_with (go_at_call 57; refine HD1.out.mono ?_; rintro e w3 ⟨rfl, hw3⟩; rw [hw3]; clear hw3 w3)
                    exact ⟨⟨j + 1, N, rfl, by first | rfl | simp, hj2, N0, by omega, by first | rfl | trivial, HN⟩, by simp [intOf]; omega⟩
                  · have HFF := hidA (fun e => HF2.out e j hj (by rw [HM.out]; omega) (by rw [hN]; omega))
                    rw [HM.out] at HFF
                    clear HM hN HF2
                    go_wp2_with (go_at_call 57; refine HD1.out.mono ?_; rintro e w3 ⟨rfl, hw3⟩; rw [hw3]; clear hw3 w3)
                    (try simp only [Exit.inBlock, Exit.then])
                    refine bodyPost_ret (by simp [results, Tryd.results56, go_sem, c0, c1, c2, c3, c4, c5]; rfl) rfl ?_
                    exact ⟨HFF.out _ rfl, HM2.out.fin _ _ _ _ _ _⟩
        · have HU : Hid (dy + 719528 < Na.yb (y + 1)) := by
            show _ < _
            have : y = 9999 := by omega
            rw [this, show (9999 : Int) + 1 = 10000 from rfl, y10]; omega
          clear HY1 HBs
          go_wp2_with fail
          go_loopw [6] (fun yv w' => ∃ y : Int, yv = .int .i64 y ∧ 0 ≤ y ∧ y ≤ 9999 ∧ w' = W ∧ Hid (dy + 719528 < Na.yb (y + 1))) (fun yv _ => (intOf yv).toNat)
          case atStart => exact ⟨_, rfl, by omega, by omega, by first | rfl | trivial, HU⟩
          case round =>
            clear HU
            obtain ⟨y, rfl, y0, y1, hwr, HU⟩ := hrel
            rw [hwr]
            clear hwr
            have HB0 := hidA (HBg.out y (by omega) (by omega))
            obtain ⟨g0, g1⟩ := HRn.out y (by omega) (by omega)
            obtain ⟨Y0, hY0⟩ : ∃ Y0, Na.yb y = Y0 := ⟨_, rfl⟩
            rw [hY0] at HB0 g0 g1
            have HY0 : Hid (Na.yb y = Y0) := hY0
            clear hY0
            by_cases hc : dy < Y0 - 719528
            · have hyp : 1 ≤ y := by
                by_cases e : y = 0
                · have := HY0.out; rw [e, yz] at this; omega
                · omega
              have HU2 : Hid (dy + 719528 < Na.yb (y - 1 + 1)) := by show _ < _; rw [show y - 1 + 1 = y by omega, HY0.out]; omega
              have hwy : IntKind.i64.wrap (y - 1) = y - 1 := by rw [IntKind.wrap_i64]; omega
              clear HU HY0
              go_wp2_with (go_at_call 75; refine HB0.out.mono ?_; rintro e w2 ⟨rfl, hw2⟩; rw [hw2]; clear hw2 w2)
              exact ⟨⟨y - 1, rfl, by omega, by omega, by first | rfl | trivial, HU2⟩, by simp [intOf]; omega⟩
            · have HDn := hidA (fun (j : Nat) (hj : j < 12) => rDays y y0 j hj W)
              have HMr := hidA (fun (j : Nat) (hj : j < 13) => Na.mb_rng y hj)
              have h12 : Hid (dy + 719528 - Y0 < Na.mb y 12) := by show _ < _; rw [mb12, HY0.out]; have := HU.out; omega
              have hz := hidA (Na.mb_zero y)
              have HF2 : Hid (∀ e (j : Nat), j < 12 → Na.mb y j ≤ dy + 719528 - Y0 → dy + 719528 - Y0 < Na.mb y (j + 1) → e = .returned (.tuple #[mV y ((j : Int) + 1) (dy + 719528 - Y0 - Na.mb y j + 1) (R / 3600) (R / 60 % 60) (R % 60), .bool true]) → OutM t e) := fun e j h1 h2 h3 he =>
                HF.out e y j ⟨y0, y1, by rw [HY0.out]; omega, HU.out, h1, by rw [HY0.out]; exact h2, by rw [HY0.out]; exact h3⟩ (by rw [HY0.out]; exact he)
              have hdd : IntKind.i64.wrap (dy - (Y0 - 719528)) = dy + 719528 - Y0 := by rw [IntKind.wrap_i64]; omega
              have hdd2 : dy - (Y0 - 719528) = dy + 719528 - Y0 := by omega
              clear HU HY0 HF
              obtain ⟨E, hE⟩ : ∃ E, dy + 719528 - Y0 = E := ⟨_, rfl⟩
              rw [hE] at h12 HF2 hdd hdd2
              have hE0 : 0 ≤ E := by omega
              have hE1 : E ≤ 4000000 := by omega
              clear hE
              go_wp2_with (go_at_call 75; refine HB0.out.mono ?_; rintro e w2 ⟨rfl, hw2⟩; rw [hw2]; clear hw2 w2)
              go_loopw [7, 8] (fun dv mv w' => ∃ (j : Nat) (M : Int), dv = .int .i64 (E - M) ∧ mv = .int .i64 ((j : Int) + 1) ∧ j < 12 ∧ 0 ≤ M ∧ M ≤ E ∧ w' = W ∧ Hid (Na.mb y j = M)) (fun _ mv _ => (13 - intOf mv).toNat)
              case atStart => exact ⟨0, 0, by simp, rfl, by decide, by decide, by omega, by first | rfl | trivial, hz⟩
              case round =>
                obtain ⟨j, M, rfl, rfl, hj, M0, M1, hwr, HM⟩ := hrel
                rw [hwr]
                clear hwr
                have HD1 := hidA (HDn.out j hj)
                obtain ⟨N0, N1⟩ := HMr.out (j + 1) (by omega)
                obtain ⟨N, hN⟩ : ∃ N, Na.mb y (j + 1) = N := ⟨_, rfl⟩
                rw [hN] at N0 N1
                rw [HM.out, hN] at HD1
                by_cases hc2 : N - M ≤ E - M
                · have hj2 : j + 1 < 12 := by
                    by_cases e : j + 1 = 12
                    · have := h12.out; rw [← e, hN] at this; omega
                    · omega
                  have HN : Hid (Na.mb y (j + 1) = N) := hN
                  have hw5 : IntKind.i64.wrap (E - M - (N - M)) = E - N := by rw [IntKind.wrap_i64]; omega
                  have hw6 : IntKind.i64.wrap ((j : Int) + 1 + 1) = (j : Int) + 1 + 1 := by rw [IntKind.wrap_i64]; omega
                  have hw7 : E - M - (N - M) = E - N := by omega
                  clear HM hN
                  go_wp2_with (go_at_call 57; refine HD1.out.mono ?_; rintro e w3 ⟨rfl, hw3⟩; rw [hw3]; clear hw3 w3)
                  exact ⟨⟨j + 1, N, rfl, by first | rfl | simp, hj2, N0, by omega, by first | rfl | trivial, HN⟩, by simp [intOf]; omega⟩
                · have HFF := hidA (fun e => HF2.out e j hj (by rw [HM.out]; omega) (by rw [hN]; omega))
                  rw [HM.out] at HFF
                  clear HM hN HF2
                  go_wp2_with (go_at_call 57; refine HD1.out.mono ?_; rintro e w3 ⟨rfl, hw3⟩; rw [hw3]; clear hw3 w3)
                  (try simp only [Exit.inBlock, Exit.then])
                  refine bodyPost_ret (by simp [results, Tryd.results56, go_sem, c0, c1, c2, c3, c4, c5]; rfl) rfl ?_
                  exact ⟨HFF.out _ rfl, HM2.out.fin _ _ _ _ _ _⟩
    · have dn : dy < 0 := by omega
      by_cases hRz : R = 0
      · have ab := tdiv_neg0 (t := t) (d := dy) (by omega) (by omega)
        obtain ⟨a1, a20⟩ := ab
        have a2 : t.tmod 86400 = R := a20.trans hRz.symm
        clear hRz a20
        obtain ⟨p, hp⟩ : ∃ p, dy.tdiv 366 = p := ⟨_, rfl⟩
        obtain ⟨q, hq⟩ : ∃ q, dy.tdiv 365 = q := ⟨_, rfl⟩
        have hp1 := tdiv_rng dn d0 (k := 366) (.inr rfl)
        have hq1 := tdiv_rng dn d0 (k := 365) (.inl rfl)
        rw [hp] at hp1
        rw [hq] at hq1
        obtain ⟨p0, p1⟩ := hp1
        obtain ⟨q0, q1⟩ := hq1
        clear hb
        by_cases hyn : 1970 + q - 1 < 0
        · have hyw : IntKind.i64.wrap (1970 + q - 1) = 1970 + q - 1 := by rw [IntKind.wrap_i64]; omega
          go_enter Tryd.func56, Tryd.ntmps56
          go_wp2_with (go_at_call 75; first | (with_reducible refine HBz.out.mono ?_; rintro e w1 ⟨rfl, hw1⟩; rw [hw1]; clear hw1 w1) | (with_reducible refine HBt.out.mono ?_; rintro e w1 ⟨rfl, hw1⟩; rw [hw1]; clear hw1 w1))
          go_loopw [6] (fun yv w' => ∃ y : Int, yv = .int .i64 y ∧ 0 ≤ y ∧ y ≤ 9999 ∧ w' = W) (fun yv _ => (10000 - intOf yv).toNat)
          case atStart => exact ⟨_, rfl, by omega, by omega, by first | rfl | trivial⟩
          case round =>
            obtain ⟨y, rfl, y0, y1, hwr⟩ := hrel
            rw [hwr]
            clear hwr
            have after : ∀ y : Int, 0 ≤ y → y ≤ 9999 → dy + 719528 < Na.yb (y + 1) → True := fun _ _ _ _ => trivial
            clear after
            have HBs := fun (h : y < 9999) => HBg.out (y + 1) (by omega) (by omega)
            obtain ⟨Y1, hY1⟩ : ∃ Y1, Na.yb (y + 1) = Y1 := ⟨_, rfl⟩
            obtain ⟨g0, g1⟩ := HRn.out (y + 1) (by omega) (by omega)
            rw [hY1] at HBs g0 g1
            have HY1 : Hid (Na.yb (y + 1) = Y1) := hY1
            clear hY1
            have hwy : IntKind.i64.wrap (y + 1) = y + 1 := by rw [IntKind.wrap_i64]; omega
            by_cases h9 : y < 9999
            · have HB1 := hidA (HBs h9)
              clear HBs
              by_cases hc : Y1 - 719528 ≤ dy
              · go_wp2_with (go_at_call 75; refine HB1.out.mono ?_; rintro e w1 ⟨rfl, hw1⟩; rw [hw1]; clear hw1 w1)
                exact ⟨⟨y + 1, rfl, by omega, by omega, by first | rfl | trivial⟩, by simp [intOf]; omega⟩
              · have HU : Hid (dy + 719528 < Na.yb (y + 1)) := by show _ < _; rw [HY1.out]; omega
                clear HY1
                go_wp2_with (go_at_call 75; refine HB1.out.mono ?_; rintro e w1 ⟨rfl, hw1⟩; rw [hw1]; clear hw1 w1)
                go_loopw [6] (fun yv w' => ∃ y : Int, yv = .int .i64 y ∧ 0 ≤ y ∧ y ≤ 9999 ∧ w' = W ∧ Hid (dy + 719528 < Na.yb (y + 1))) (fun yv _ => (intOf yv).toNat)
                case atStart => exact ⟨_, rfl, by omega, by omega, by first | rfl | trivial, HU⟩
                case round =>
                  clear HU
                  obtain ⟨y, rfl, y0, y1, hwr, HU⟩ := hrel
                  rw [hwr]
                  clear hwr
                  have HB0 := hidA (HBg.out y (by omega) (by omega))
                  obtain ⟨g0, g1⟩ := HRn.out y (by omega) (by omega)
                  obtain ⟨Y0, hY0⟩ : ∃ Y0, Na.yb y = Y0 := ⟨_, rfl⟩
                  rw [hY0] at HB0 g0 g1
                  have HY0 : Hid (Na.yb y = Y0) := hY0
                  clear hY0
                  by_cases hc : dy < Y0 - 719528
                  · have hyp : 1 ≤ y := by
                      by_cases e : y = 0
                      · have := HY0.out; rw [e, yz] at this; omega
                      · omega
                    have HU2 : Hid (dy + 719528 < Na.yb (y - 1 + 1)) := by show _ < _; rw [show y - 1 + 1 = y by omega, HY0.out]; omega
                    have hwy : IntKind.i64.wrap (y - 1) = y - 1 := by rw [IntKind.wrap_i64]; omega
                    clear HU HY0
                    go_wp2_with (go_at_call 75; refine HB0.out.mono ?_; rintro e w2 ⟨rfl, hw2⟩; rw [hw2]; clear hw2 w2)
                    exact ⟨⟨y - 1, rfl, by omega, by omega, by first | rfl | trivial, HU2⟩, by simp [intOf]; omega⟩
                  · have HDn := hidA (fun (j : Nat) (hj : j < 12) => rDays y y0 j hj W)
                    have HMr := hidA (fun (j : Nat) (hj : j < 13) => Na.mb_rng y hj)
                    have h12 : Hid (dy + 719528 - Y0 < Na.mb y 12) := by show _ < _; rw [mb12, HY0.out]; have := HU.out; omega
                    have hz := hidA (Na.mb_zero y)
                    have HF2 : Hid (∀ e (j : Nat), j < 12 → Na.mb y j ≤ dy + 719528 - Y0 → dy + 719528 - Y0 < Na.mb y (j + 1) → e = .returned (.tuple #[mV y ((j : Int) + 1) (dy + 719528 - Y0 - Na.mb y j + 1) (R / 3600) (R / 60 % 60) (R % 60), .bool true]) → OutM t e) := fun e j h1 h2 h3 he =>
                      HF.out e y j ⟨y0, y1, by rw [HY0.out]; omega, HU.out, h1, by rw [HY0.out]; exact h2, by rw [HY0.out]; exact h3⟩ (by rw [HY0.out]; exact he)
                    have hdd : IntKind.i64.wrap (dy - (Y0 - 719528)) = dy + 719528 - Y0 := by rw [IntKind.wrap_i64]; omega
                    have hdd2 : dy - (Y0 - 719528) = dy + 719528 - Y0 := by omega
                    clear HU HY0 HF
                    obtain ⟨E, hE⟩ : ∃ E, dy + 719528 - Y0 = E := ⟨_, rfl⟩
                    rw [hE] at h12 HF2 hdd hdd2
                    have hE0 : 0 ≤ E := by omega
                    have hE1 : E ≤ 4000000 := by omega
                    clear hE
                    go_wp2_with (go_at_call 75; refine HB0.out.mono ?_; rintro e w2 ⟨rfl, hw2⟩; rw [hw2]; clear hw2 w2)
                    go_loopw [7, 8] (fun dv mv w' => ∃ (j : Nat) (M : Int), dv = .int .i64 (E - M) ∧ mv = .int .i64 ((j : Int) + 1) ∧ j < 12 ∧ 0 ≤ M ∧ M ≤ E ∧ w' = W ∧ Hid (Na.mb y j = M)) (fun _ mv _ => (13 - intOf mv).toNat)
                    case atStart => exact ⟨0, 0, by simp, rfl, by decide, by decide, by omega, by first | rfl | trivial, hz⟩
                    case round =>
                      obtain ⟨j, M, rfl, rfl, hj, M0, M1, hwr, HM⟩ := hrel
                      rw [hwr]
                      clear hwr
                      have HD1 := hidA (HDn.out j hj)
                      obtain ⟨N0, N1⟩ := HMr.out (j + 1) (by omega)
                      obtain ⟨N, hN⟩ : ∃ N, Na.mb y (j + 1) = N := ⟨_, rfl⟩
                      rw [hN] at N0 N1
                      rw [HM.out, hN] at HD1
                      by_cases hc2 : N - M ≤ E - M
                      · have hj2 : j + 1 < 12 := by
                          by_cases e : j + 1 = 12
                          · have := h12.out; rw [← e, hN] at this; omega
                          · omega
                        have HN : Hid (Na.mb y (j + 1) = N) := hN
                        have hw5 : IntKind.i64.wrap (E - M - (N - M)) = E - N := by rw [IntKind.wrap_i64]; omega
                        have hw6 : IntKind.i64.wrap ((j : Int) + 1 + 1) = (j : Int) + 1 + 1 := by rw [IntKind.wrap_i64]; omega
                        have hw7 : E - M - (N - M) = E - N := by omega
                        clear HM hN
                        go_wp2_with (go_at_call 57; refine HD1.out.mono ?_; rintro e w3 ⟨rfl, hw3⟩; rw [hw3]; clear hw3 w3)
                        exact ⟨⟨j + 1, N, rfl, by first | rfl | simp, hj2, N0, by omega, by first | rfl | trivial, HN⟩, by simp [intOf]; omega⟩
                      · have HFF := hidA (fun e => HF2.out e j hj (by rw [HM.out]; omega) (by rw [hN]; omega))
                        rw [HM.out] at HFF
                        clear HM hN HF2
                        go_wp2_with (go_at_call 57; refine HD1.out.mono ?_; rintro e w3 ⟨rfl, hw3⟩; rw [hw3]; clear hw3 w3)
                        (try simp only [Exit.inBlock, Exit.then])
                        refine bodyPost_ret (by simp [results, Tryd.results56, go_sem, c0, c1, c2, c3, c4, c5]; rfl) rfl ?_
                        exact ⟨HFF.out _ rfl, HM2.out.fin _ _ _ _ _ _⟩
            · have HU : Hid (dy + 719528 < Na.yb (y + 1)) := by
                show _ < _
                have : y = 9999 := by omega
                rw [this, show (9999 : Int) + 1 = 10000 from rfl, y10]; omega
              clear HY1 HBs
              go_wp2_with fail
              go_loopw [6] (fun yv w' => ∃ y : Int, yv = .int .i64 y ∧ 0 ≤ y ∧ y ≤ 9999 ∧ w' = W ∧ Hid (dy + 719528 < Na.yb (y + 1))) (fun yv _ => (intOf yv).toNat)
              case atStart => exact ⟨_, rfl, by omega, by omega, by first | rfl | trivial, HU⟩
              case round =>
                clear HU
                obtain ⟨y, rfl, y0, y1, hwr, HU⟩ := hrel
                rw [hwr]
                clear hwr
                have HB0 := hidA (HBg.out y (by omega) (by omega))
                obtain ⟨g0, g1⟩ := HRn.out y (by omega) (by omega)
                obtain ⟨Y0, hY0⟩ : ∃ Y0, Na.yb y = Y0 := ⟨_, rfl⟩
                rw [hY0] at HB0 g0 g1
                have HY0 : Hid (Na.yb y = Y0) := hY0
                clear hY0
                by_cases hc : dy < Y0 - 719528
                · have hyp : 1 ≤ y := by
                    by_cases e : y = 0
                    · have := HY0.out; rw [e, yz] at this; omega
                    · omega
                  have HU2 : Hid (dy + 719528 < Na.yb (y - 1 + 1)) := by show _ < _; rw [show y - 1 + 1 = y by omega, HY0.out]; omega
                  have hwy : IntKind.i64.wrap (y - 1) = y - 1 := by rw [IntKind.wrap_i64]; omega
                  clear HU HY0
                  go_wp2_with (go_at_call 75; refine HB0.out.mono ?_; rintro e w2 ⟨rfl, hw2⟩; rw [hw2]; clear hw2 w2)
                  exact ⟨⟨y - 1, rfl, by omega, by omega, by first | rfl | trivial, HU2⟩, by simp [intOf]; omega⟩
                · have HDn := hidA (fun (j : Nat) (hj : j < 12) => rDays y y0 j hj W)
                  have HMr := hidA (fun (j : Nat) (hj : j < 13) => Na.mb_rng y hj)
                  have h12 : Hid (dy + 719528 - Y0 < Na.mb y 12) := by show _ < _; rw [mb12, HY0.out]; have := HU.out; omega
                  have hz := hidA (Na.mb_zero y)
                  have HF2 : Hid (∀ e (j : Nat), j < 12 → Na.mb y j ≤ dy + 719528 - Y0 → dy + 719528 - Y0 < Na.mb y (j + 1) → e = .returned (.tuple #[mV y ((j : Int) + 1) (dy + 719528 - Y0 - Na.mb y j + 1) (R / 3600) (R / 60 % 60) (R % 60), .bool true]) → OutM t e) := fun e j h1 h2 h3 he =>
                    HF.out e y j ⟨y0, y1, by rw [HY0.out]; omega, HU.out, h1, by rw [HY0.out]; exact h2, by rw [HY0.out]; exact h3⟩ (by rw [HY0.out]; exact he)
                  have hdd : IntKind.i64.wrap (dy - (Y0 - 719528)) = dy + 719528 - Y0 := by rw [IntKind.wrap_i64]; omega
                  have hdd2 : dy - (Y0 - 719528) = dy + 719528 - Y0 := by omega
                  clear HU HY0 HF
                  obtain ⟨E, hE⟩ : ∃ E, dy + 719528 - Y0 = E := ⟨_, rfl⟩
                  rw [hE] at h12 HF2 hdd hdd2
                  have hE0 : 0 ≤ E := by omega
                  have hE1 : E ≤ 4000000 := by omega
                  clear hE
                  go_wp2_with (go_at_call 75; refine HB0.out.mono ?_; rintro e w2 ⟨rfl, hw2⟩; rw [hw2]; clear hw2 w2)
                  go_loopw [7, 8] (fun dv mv w' => ∃ (j : Nat) (M : Int), dv = .int .i64 (E - M) ∧ mv = .int .i64 ((j : Int) + 1) ∧ j < 12 ∧ 0 ≤ M ∧ M ≤ E ∧ w' = W ∧ Hid (Na.mb y j = M)) (fun _ mv _ => (13 - intOf mv).toNat)
                  case atStart => exact ⟨0, 0, by simp, rfl, by decide, by decide, by omega, by first | rfl | trivial, hz⟩
                  case round =>
                    obtain ⟨j, M, rfl, rfl, hj, M0, M1, hwr, HM⟩ := hrel
                    rw [hwr]
                    clear hwr
                    have HD1 := hidA (HDn.out j hj)
                    obtain ⟨N0, N1⟩ := HMr.out (j + 1) (by omega)
                    obtain ⟨N, hN⟩ : ∃ N, Na.mb y (j + 1) = N := ⟨_, rfl⟩
                    rw [hN] at N0 N1
                    rw [HM.out, hN] at HD1
                    by_cases hc2 : N - M ≤ E - M
                    · have hj2 : j + 1 < 12 := by
                        by_cases e : j + 1 = 12
                        · have := h12.out; rw [← e, hN] at this; omega
                        · omega
                      have HN : Hid (Na.mb y (j + 1) = N) := hN
                      have hw5 : IntKind.i64.wrap (E - M - (N - M)) = E - N := by rw [IntKind.wrap_i64]; omega
                      have hw6 : IntKind.i64.wrap ((j : Int) + 1 + 1) = (j : Int) + 1 + 1 := by rw [IntKind.wrap_i64]; omega
                      have hw7 : E - M - (N - M) = E - N := by omega
                      clear HM hN
                      go_wp2_with (go_at_call 57; refine HD1.out.mono ?_; rintro e w3 ⟨rfl, hw3⟩; rw [hw3]; clear hw3 w3)
                      exact ⟨⟨j + 1, N, rfl, by first | rfl | simp, hj2, N0, by omega, by first | rfl | trivial, HN⟩, by simp [intOf]; omega⟩
                    · have HFF := hidA (fun e => HF2.out e j hj (by rw [HM.out]; omega) (by rw [hN]; omega))
                      rw [HM.out] at HFF
                      clear HM hN HF2
                      go_wp2_with (go_at_call 57; refine HD1.out.mono ?_; rintro e w3 ⟨rfl, hw3⟩; rw [hw3]; clear hw3 w3)
                      (try simp only [Exit.inBlock, Exit.then])
                      refine bodyPost_ret (by simp [results, Tryd.results56, go_sem, c0, c1, c2, c3, c4, c5]; rfl) rfl ?_
                      exact ⟨HFF.out _ rfl, HM2.out.fin _ _ _ _ _ _⟩
        · have hyw : IntKind.i64.wrap (1970 + q - 1) = 1970 + q - 1 := by rw [IntKind.wrap_i64]; omega
          go_enter Tryd.func56, Tryd.ntmps56
          go_wp2_with (go_at_call 75; first | (with_reducible refine HBz.out.mono ?_; rintro e w1 ⟨rfl, hw1⟩; rw [hw1]; clear hw1 w1) | (with_reducible refine HBt.out.mono ?_; rintro e w1 ⟨rfl, hw1⟩; rw [hw1]; clear hw1 w1))
          go_loopw [6] (fun yv w' => ∃ y : Int, yv = .int .i64 y ∧ 0 ≤ y ∧ y ≤ 9999 ∧ w' = W) (fun yv _ => (10000 - intOf yv).toNat)
          case atStart => exact ⟨_, rfl, by omega, by omega, by first | rfl | trivial⟩
          case round =>
            obtain ⟨y, rfl, y0, y1, hwr⟩ := hrel
            rw [hwr]
            clear hwr
            have after : ∀ y : Int, 0 ≤ y → y ≤ 9999 → dy + 719528 < Na.yb (y + 1) → True := fun _ _ _ _ => trivial
            clear after
            have HBs := fun (h : y < 9999) => HBg.out (y + 1) (by omega) (by omega)
            obtain ⟨Y1, hY1⟩ : ∃ Y1, Na.yb (y + 1) = Y1 := ⟨_, rfl⟩
            obtain ⟨g0, g1⟩ := HRn.out (y + 1) (by omega) (by omega)
            rw [hY1] at HBs g0 g1
            have HY1 : Hid (Na.yb (y + 1) = Y1) := hY1
            clear hY1
            have hwy : IntKind.i64.wrap (y + 1) = y + 1 := by rw [IntKind.wrap_i64]; omega
            by_cases h9 : y < 9999
            · have HB1 := hidA (HBs h9)
              clear HBs
              by_cases hc : Y1 - 719528 ≤ dy
              · go_wp2_with (go_at_call 75; refine HB1.out.mono ?_; rintro e w1 ⟨rfl, hw1⟩; rw [hw1]; clear hw1 w1)
                exact ⟨⟨y + 1, rfl, by omega, by omega, by first | rfl | trivial⟩, by simp [intOf]; omega⟩
              · have HU : Hid (dy + 719528 < Na.yb (y + 1)) := by show _ < _; rw [HY1.out]; omega
                clear HY1
                go_wp2_with (go_at_call 75; refine HB1.out.mono ?_; rintro e w1 ⟨rfl, hw1⟩; rw [hw1]; clear hw1 w1)
                go_loopw [6] (fun yv w' => ∃ y : Int, yv = .int .i64 y ∧ 0 ≤ y ∧ y ≤ 9999 ∧ w' = W ∧ Hid (dy + 719528 < Na.yb (y + 1))) (fun yv _ => (intOf yv).toNat)
                case atStart => exact ⟨_, rfl, by omega, by omega, by first | rfl | trivial, HU⟩
                case round =>
                  clear HU
                  obtain ⟨y, rfl, y0, y1, hwr, HU⟩ := hrel
                  rw [hwr]
                  clear hwr
                  have HB0 := hidA (HBg.out y (by omega) (by omega))
                  obtain ⟨g0, g1⟩ := HRn.out y (by omega) (by omega)
                  obtain ⟨Y0, hY0⟩ : ∃ Y0, Na.yb y = Y0 := ⟨_, rfl⟩
                  rw [hY0] at HB0 g0 g1
                  have HY0 : Hid (Na.yb y = Y0) := hY0
                  clear hY0
                  by_cases hc : dy < Y0 - 719528
                  · have hyp : 1 ≤ y := by
                      by_cases e : y = 0
                      · have := HY0.out; rw [e, yz] at this; omega
                      · omega
                    have HU2 : Hid (dy + 719528 < Na.yb (y - 1 + 1)) := by show _ < _; rw [show y - 1 + 1 = y by omega, HY0.out]; omega
                    have hwy : IntKind.i64.wrap (y - 1) = y - 1 := by rw [IntKind.wrap_i64]; omega
                    clear HU HY0
                    go_wp2_with (go_at_call 75; refine HB0.out.mono ?_; rintro e w2 ⟨rfl, hw2⟩; rw [hw2]; clear hw2 w2)
                    exact ⟨⟨y - 1, rfl, by omega, by omega, by first | rfl | trivial, HU2⟩, by simp [intOf]; omega⟩
                  · have HDn := hidA (fun (j : Nat) (hj : j < 12) => rDays y y0 j hj W)
                    have HMr := hidA (fun (j : Nat) (hj : j < 13) => Na.mb_rng y hj)
                    have h12 : Hid (dy + 719528 - Y0 < Na.mb y 12) := by show _ < _; rw [mb12, HY0.out]; have := HU.out; omega
                    have hz := hidA (Na.mb_zero y)
                    have HF2 : Hid (∀ e (j : Nat), j < 12 → Na.mb y j ≤ dy + 719528 - Y0 → dy + 719528 - Y0 < Na.mb y (j + 1) → e = .returned (.tuple #[mV y ((j : Int) + 1) (dy + 719528 - Y0 - Na.mb y j + 1) (R / 3600) (R / 60 % 60) (R % 60), .bool true]) → OutM t e) := fun e j h1 h2 h3 he =>
                      HF.out e y j ⟨y0, y1, by rw [HY0.out]; omega, HU.out, h1, by rw [HY0.out]; exact h2, by rw [HY0.out]; exact h3⟩ (by rw [HY0.out]; exact he)
                    have hdd : IntKind.i64.wrap (dy - (Y0 - 719528)) = dy + 719528 - Y0 := by rw [IntKind.wrap_i64]; omega
                    have hdd2 : dy - (Y0 - 719528) = dy + 719528 - Y0 := by omega
                    clear HU HY0 HF
                    obtain ⟨E, hE⟩ : ∃ E, dy + 719528 - Y0 = E := ⟨_, rfl⟩
                    rw [hE] at h12 HF2 hdd hdd2
                    have hE0 : 0 ≤ E := by omega
                    have hE1 : E ≤ 4000000 := by omega
                    clear hE
                    go_wp2_with (go_at_call 75; refine HB0.out.mono ?_; rintro e w2 ⟨rfl, hw2⟩; rw [hw2]; clear hw2 w2)
                    go_loopw [7, 8] (fun dv mv w' => ∃ (j : Nat) (M : Int), dv = .int .i64 (E - M) ∧ mv = .int .i64 ((j : Int) + 1) ∧ j < 12 ∧ 0 ≤ M ∧ M ≤ E ∧ w' = W ∧ Hid (Na.mb y j = M)) (fun _ mv _ => (13 - intOf mv).toNat)
                    case atStart => exact ⟨0, 0, by simp, rfl, by decide, by decide, by omega, by first | rfl | trivial, hz⟩
                    case round =>
                      obtain ⟨j, M, rfl, rfl, hj, M0, M1, hwr, HM⟩ := hrel
                      rw [hwr]
                      clear hwr
                      have HD1 := hidA (HDn.out j hj)
                      obtain ⟨N0, N1⟩ := HMr.out (j + 1) (by omega)
                      obtain ⟨N, hN⟩ : ∃ N, Na.mb y (j + 1) = N := ⟨_, rfl⟩
                      rw [hN] at N0 N1
                      rw [HM.out, hN] at HD1
                      by_cases hc2 : N - M ≤ E - M
                      · have hj2 : j + 1 < 12 := by
                          by_cases e : j + 1 = 12
                          · have := h12.out; rw [← e, hN] at this; omega
                          · omega
                        have HN : Hid (Na.mb y (j + 1) = N) := hN
                        have hw5 : IntKind.i64.wrap (E - M - (N - M)) = E - N := by rw [IntKind.wrap_i64]; omega
                        have hw6 : IntKind.i64.wrap ((j : Int) + 1 + 1) = (j : Int) + 1 + 1 := by rw [IntKind.wrap_i64]; omega
                        have hw7 : E - M - (N - M) = E - N := by omega
                        clear HM hN
                        go_wp2_with (go_at_call 57; refine HD1.out.mono ?_; rintro e w3 ⟨rfl, hw3⟩; rw [hw3]; clear hw3 w3)
                        exact ⟨⟨j + 1, N, rfl, by first | rfl | simp, hj2, N0, by omega, by first | rfl | trivial, HN⟩, by simp [intOf]; omega⟩
                      · have HFF := hidA (fun e => HF2.out e j hj (by rw [HM.out]; omega) (by rw [hN]; omega))
                        rw [HM.out] at HFF
                        clear HM hN HF2
                        go_wp2_with (go_at_call 57; refine HD1.out.mono ?_; rintro e w3 ⟨rfl, hw3⟩; rw [hw3]; clear hw3 w3)
                        (try simp only [Exit.inBlock, Exit.then])
                        refine bodyPost_ret (by simp [results, Tryd.results56, go_sem, c0, c1, c2, c3, c4, c5]; rfl) rfl ?_
                        exact ⟨HFF.out _ rfl, HM2.out.fin _ _ _ _ _ _⟩
            · have HU : Hid (dy + 719528 < Na.yb (y + 1)) := by
                show _ < _
                have : y = 9999 := by omega
                rw [this, show (9999 : Int) + 1 = 10000 from rfl, y10]; omega
              clear HY1 HBs
              go_wp2_with fail
              go_loopw [6] (fun yv w' => ∃ y : Int, yv = .int .i64 y ∧ 0 ≤ y ∧ y ≤ 9999 ∧ w' = W ∧ Hid (dy + 719528 < Na.yb (y + 1))) (fun yv _ => (intOf yv).toNat)
              case atStart => exact ⟨_, rfl, by omega, by omega, by first | rfl | trivial, HU⟩
              case round =>
                clear HU
                obtain ⟨y, rfl, y0, y1, hwr, HU⟩ := hrel
                rw [hwr]
                clear hwr
                have HB0 := hidA (HBg.out y (by omega) (by omega))
                obtain ⟨g0, g1⟩ := HRn.out y (by omega) (by omega)
                obtain ⟨Y0, hY0⟩ : ∃ Y0, Na.yb y = Y0 := ⟨_, rfl⟩
                rw [hY0] at HB0 g0 g1
                have HY0 : Hid (Na.yb y = Y0) := hY0
                clear hY0
                by_cases hc : dy < Y0 - 719528
                · have hyp : 1 ≤ y := by
                    by_cases e : y = 0
                    · have := HY0.out; rw [e, yz] at this; omega
                    · omega
                  have HU2 : Hid (dy + 719528 < Na.yb (y - 1 + 1)) := by show _ < _; rw [show y - 1 + 1 = y by omega, HY0.out]; omega
                  have hwy : IntKind.i64.wrap (y - 1) = y - 1 := by rw [IntKind.wrap_i64]; omega
                  clear HU HY0
                  go_wp2_with (go_at_call 75; refine HB0.out.mono ?_; rintro e w2 ⟨rfl, hw2⟩; rw [hw2]; clear hw2 w2)
                  exact ⟨⟨y - 1, rfl, by omega, by omega, by first | rfl | trivial, HU2⟩, by simp [intOf]; omega⟩
                · have HDn := hidA (fun (j : Nat) (hj : j < 12) => rDays y y0 j hj W)
                  have HMr := hidA (fun (j : Nat) (hj : j < 13) => Na.mb_rng y hj)
                  have h12 : Hid (dy + 719528 - Y0 < Na.mb y 12) := by show _ < _; rw [mb12, HY0.out]; have := HU.out; omega
                  have hz := hidA (Na.mb_zero y)
                  have HF2 : Hid (∀ e (j : Nat), j < 12 → Na.mb y j ≤ dy + 719528 - Y0 → dy + 719528 - Y0 < Na.mb y (j + 1) → e = .returned (.tuple #[mV y ((j : Int) + 1) (dy + 719528 - Y0 - Na.mb y j + 1) (R / 3600) (R / 60 % 60) (R % 60), .bool true]) → OutM t e) := fun e j h1 h2 h3 he =>
                    HF.out e y j ⟨y0, y1, by rw [HY0.out]; omega, HU.out, h1, by rw [HY0.out]; exact h2, by rw [HY0.out]; exact h3⟩ (by rw [HY0.out]; exact he)
                  have hdd : IntKind.i64.wrap (dy - (Y0 - 719528)) = dy + 719528 - Y0 := by rw [IntKind.wrap_i64]; omega
                  have hdd2 : dy - (Y0 - 719528) = dy + 719528 - Y0 := by omega
                  clear HU HY0 HF
                  obtain ⟨E, hE⟩ : ∃ E, dy + 719528 - Y0 = E := ⟨_, rfl⟩
                  rw [hE] at h12 HF2 hdd hdd2
                  have hE0 : 0 ≤ E := by omega
                  have hE1 : E ≤ 4000000 := by omega
                  clear hE
                  go_wp2_with (go_at_call 75; refine HB0.out.mono ?_; rintro e w2 ⟨rfl, hw2⟩; rw [hw2]; clear hw2 w2)
                  go_loopw [7, 8] (fun dv mv w' => ∃ (j : Nat) (M : Int), dv = .int .i64 (E - M) ∧ mv = .int .i64 ((j : Int) + 1) ∧ j < 12 ∧ 0 ≤ M ∧ M ≤ E ∧ w' = W ∧ Hid (Na.mb y j = M)) (fun _ mv _ => (13 - intOf mv).toNat)
                  case atStart => exact ⟨0, 0, by simp, rfl, by decide, by decide, by omega, by first | rfl | trivial, hz⟩
                  case round =>
                    obtain ⟨j, M, rfl, rfl, hj, M0, M1, hwr, HM⟩ := hrel
                    rw [hwr]
                    clear hwr
                    have HD1 := hidA (HDn.out j hj)
                    obtain ⟨N0, N1⟩ := HMr.out (j + 1) (by omega)
                    obtain ⟨N, hN⟩ : ∃ N, Na.mb y (j + 1) = N := ⟨_, rfl⟩
                    rw [hN] at N0 N1
                    rw [HM.out, hN] at HD1
                    by_cases hc2 : N - M ≤ E - M
                    · have hj2 : j + 1 < 12 := by
                        by_cases e : j + 1 = 12
                        · have := h12.out; rw [← e, hN] at this; omega
                        · omega
                      have HN : Hid (Na.mb y (j + 1) = N) := hN
                      have hw5 : IntKind.i64.wrap (E - M - (N - M)) = E - N := by rw [IntKind.wrap_i64]; omega
                      have hw6 : IntKind.i64.wrap ((j : Int) + 1 + 1) = (j : Int) + 1 + 1 := by rw [IntKind.wrap_i64]; omega
                      have hw7 : E - M - (N - M) = E - N := by omega
                      clear HM hN
                      go_wp2_with (go_at_call 57; refine HD1.out.mono ?_; rintro e w3 ⟨rfl, hw3⟩; rw [hw3]; clear hw3 w3)
                      exact ⟨⟨j + 1, N, rfl, by first | rfl | simp, hj2, N0, by omega, by first | rfl | trivial, HN⟩, by simp [intOf]; omega⟩
                    · have HFF := hidA (fun e => HF2.out e j hj (by rw [HM.out]; omega) (by rw [hN]; omega))
                      rw [HM.out] at HFF
                      clear HM hN HF2
                      go_wp2_with (go_at_call 57; refine HD1.out.mono ?_; rintro e w3 ⟨rfl, hw3⟩; rw [hw3]; clear hw3 w3)
                      (try simp only [Exit.inBlock, Exit.then])
                      refine bodyPost_ret (by simp [results, Tryd.results56, go_sem, c0, c1, c2, c3, c4, c5]; rfl) rfl ?_
                      exact ⟨HFF.out _ rfl, HM2.out.fin _ _ _ _ _ _⟩
      · have ab := tdiv_neg (t := t) (d := dy) (r := R) (by omega) (by omega) (by omega) R1
        obtain ⟨a1, a2⟩ := ab
        have hw8 : IntKind.i64.wrap (dy + 1 - 1) = dy := by rw [IntKind.wrap_i64]; omega
        have hw9 : IntKind.i64.wrap (R - 86400 + 86400) = R := by rw [IntKind.wrap_i64]; omega
        have hR9 : R - 86400 < 0 := by omega
        obtain ⟨p, hp⟩ : ∃ p, dy.tdiv 366 = p := ⟨_, rfl⟩
        obtain ⟨q, hq⟩ : ∃ q, dy.tdiv 365 = q := ⟨_, rfl⟩
        have hp1 := tdiv_rng dn d0 (k := 366) (.inr rfl)
        have hq1 := tdiv_rng dn d0 (k := 365) (.inl rfl)
        rw [hp] at hp1
        rw [hq] at hq1
        obtain ⟨p0, p1⟩ := hp1
        obtain ⟨q0, q1⟩ := hq1
        clear hb
        by_cases hyn : 1970 + q - 1 < 0
        · have hyw : IntKind.i64.wrap (1970 + q - 1) = 1970 + q - 1 := by rw [IntKind.wrap_i64]; omega
          go_enter Tryd.func56, Tryd.ntmps56
          go_wp2_with (go_at_call 75; first | (with_reducible refine HBz.out.mono ?_; rintro e w1 ⟨rfl, hw1⟩; rw [hw1]; clear hw1 w1) | (with_reducible refine HBt.out.mono ?_; rintro e w1 ⟨rfl, hw1⟩; rw [hw1]; clear hw1 w1))
          go_loopw [6] (fun yv w' => ∃ y : Int, yv = .int .i64 y ∧ 0 ≤ y ∧ y ≤ 9999 ∧ w' = W) (fun yv _ => (10000 - intOf yv).toNat)
          case atStart => exact ⟨_, rfl, by omega, by omega, by first | rfl | trivial⟩
          case round =>
            obtain ⟨y, rfl, y0, y1, hwr⟩ := hrel
            rw [hwr]
            clear hwr
            have after : ∀ y : Int, 0 ≤ y → y ≤ 9999 → dy + 719528 < Na.yb (y + 1) → True := fun _ _ _ _ => trivial
            clear after
            have HBs := fun (h : y < 9999) => HBg.out (y + 1) (by omega) (by omega)
            obtain ⟨Y1, hY1⟩ : ∃ Y1, Na.yb (y + 1) = Y1 := ⟨_, rfl⟩
            obtain ⟨g0, g1⟩ := HRn.out (y + 1) (by omega) (by omega)
            rw [hY1] at HBs g0 g1
            have HY1 : Hid (Na.yb (y + 1) = Y1) := hY1
            clear hY1
            have hwy : IntKind.i64.wrap (y + 1) = y + 1 := by rw [IntKind.wrap_i64]; omega
            by_cases h9 : y < 9999
            · have HB1 := hidA (HBs h9)
              clear HBs
              by_cases hc : Y1 - 719528 ≤ dy
              · go_wp2_with (go_at_call 75; refine HB1.out.mono ?_; rintro e w1 ⟨rfl, hw1⟩; rw [hw1]; clear hw1 w1)
                exact ⟨⟨y + 1, rfl, by omega, by omega, by first | rfl | trivial⟩, by simp [intOf]; omega⟩
              · have HU : Hid (dy + 719528 < Na.yb (y + 1)) := by show _ < _; rw [HY1.out]; omega
                clear HY1
                go_wp2_with (go_at_call 75; refine HB1.out.mono ?_; rintro e w1 ⟨rfl, hw1⟩; rw [hw1]; clear hw1 w1)
                go_loopw [6] (fun yv w' => ∃ y : Int, yv = .int .i64 y ∧ 0 ≤ y ∧ y ≤ 9999 ∧ w' = W ∧ Hid (dy + 719528 < Na.yb (y + 1))) (fun yv _ => (intOf yv).toNat)
                case atStart => exact ⟨_, rfl, by omega, by omega, by first | rfl | trivial, HU⟩
                case round =>
                  clear HU
                  obtain ⟨y, rfl, y0, y1, hwr, HU⟩ := hrel
                  rw [hwr]
                  clear hwr
                  have HB0 := hidA (HBg.out y (by omega) (by omega))
                  obtain ⟨g0, g1⟩ := HRn.out y (by omega) (by omega)
                  obtain ⟨Y0, hY0⟩ : ∃ Y0, Na.yb y = Y0 := ⟨_, rfl⟩
                  rw [hY0] at HB0 g0 g1
                  have HY0 : Hid (Na.yb y = Y0) := hY0
                  clear hY0
                  by_cases hc : dy < Y0 - 719528
                  · have hyp : 1 ≤ y := by
                      by_cases e : y = 0
                      · have := HY0.out; rw [e, yz] at this; omega
                      · omega
                    have HU2 : Hid (dy + 719528 < Na.yb (y - 1 + 1)) := by show _ < _; rw [show y - 1 + 1 = y by omega, HY0.out]; omega
                    have hwy : IntKind.i64.wrap (y - 1) = y - 1 := by rw [IntKind.wrap_i64]; omega
                    clear HU HY0
                    go_wp2_with (go_at_call 75; refine HB0.out.mono ?_; rintro e w2 ⟨rfl, hw2⟩; rw [hw2]; clear hw2 w2)
                    exact ⟨⟨y - 1, rfl, by omega, by omega, by first | rfl | trivial, HU2⟩, by simp [intOf]; omega⟩
                  · have HDn := hidA (fun (j : Nat) (hj : j < 12) => rDays y y0 j hj W)
                    have HMr := hidA (fun (j : Nat) (hj : j < 13) => Na.mb_rng y hj)
                    have h12 : Hid (dy + 719528 - Y0 < Na.mb y 12) := by show _ < _; rw [mb12, HY0.out]; have := HU.out; omega
                    have hz := hidA (Na.mb_zero y)
                    have HF2 : Hid (∀ e (j : Nat), j < 12 → Na.mb y j ≤ dy + 719528 - Y0 → dy + 719528 - Y0 < Na.mb y (j + 1) → e = .returned (.tuple #[mV y ((j : Int) + 1) (dy + 719528 - Y0 - Na.mb y j + 1) (R / 3600) (R / 60 % 60) (R % 60), .bool true]) → OutM t e) := fun e j h1 h2 h3 he =>
                      HF.out e y j ⟨y0, y1, by rw [HY0.out]; omega, HU.out, h1, by rw [HY0.out]; exact h2, by rw [HY0.out]; exact h3⟩ (by rw [HY0.out]; exact he)
                    have hdd : IntKind.i64.wrap (dy - (Y0 - 719528)) = dy + 719528 - Y0 := by rw [IntKind.wrap_i64]; omega
                    have hdd2 : dy - (Y0 - 719528) = dy + 719528 - Y0 := by omega
                    clear HU HY0 HF
                    obtain ⟨E, hE⟩ : ∃ E, dy + 719528 - Y0 = E := ⟨_, rfl⟩
                    rw [hE] at h12 HF2 hdd hdd2
                    have hE0 : 0 ≤ E := by omega
                    have hE1 : E ≤ 4000000 := by omega
                    clear hE
                    go_wp2_with (go_at_call 75; refine HB0.out.mono ?_; rintro e w2 ⟨rfl, hw2⟩; rw [hw2]; clear hw2 w2)
                    go_loopw [7, 8] (fun dv mv w' => ∃ (j : Nat) (M : Int), dv = .int .i64 (E - M) ∧ mv = .int .i64 ((j : Int) + 1) ∧ j < 12 ∧ 0 ≤ M ∧ M ≤ E ∧ w' = W ∧ Hid (Na.mb y j = M)) (fun _ mv _ => (13 - intOf mv).toNat)
                    case atStart => exact ⟨0, 0, by simp, rfl, by decide, by decide, by omega, by first | rfl | trivial, hz⟩
                    case round =>
                      obtain ⟨j, M, rfl, rfl, hj, M0, M1, hwr, HM⟩ := hrel
                      rw [hwr]
                      clear hwr
                      have HD1 := hidA (HDn.out j hj)
                      obtain ⟨N0, N1⟩ := HMr.out (j + 1) (by omega)
                      obtain ⟨N, hN⟩ : ∃ N, Na.mb y (j + 1) = N := ⟨_, rfl⟩
                      rw [hN] at N0 N1
                      rw [HM.out, hN] at HD1
                      by_cases hc2 : N - M ≤ E - M
                      · have hj2 : j + 1 < 12 := by
                          by_cases e : j + 1 = 12
                          · have := h12.out; rw [← e, hN] at this; omega
                          · omega
                        have HN : Hid (Na.mb y (j + 1) = N) := hN
                        have hw5 : IntKind.i64.wrap (E - M - (N - M)) = E - N := by rw [IntKind.wrap_i64]; omega
                        have hw6 : IntKind.i64.wrap ((j : Int) + 1 + 1) = (j : Int) + 1 + 1 := by rw [IntKind.wrap_i64]; omega
                        have hw7 : E - M - (N - M) = E - N := by omega
                        clear HM hN
                        go_wp2_with (go_at_call 57; refine HD1.out.mono ?_; rintro e w3 ⟨rfl, hw3⟩; rw [hw3]; clear hw3 w3)
                        exact ⟨⟨j + 1, N, rfl, by first | rfl | simp, hj2, N0, by omega, by first | rfl | trivial, HN⟩, by simp [intOf]; omega⟩
                      · have HFF := hidA (fun e => HF2.out e j hj (by rw [HM.out]; omega) (by rw [hN]; omega))
                        rw [HM.out] at HFF
                        clear HM hN HF2
                        go_wp2_with (go_at_call 57; refine HD1.out.mono ?_; rintro e w3 ⟨rfl, hw3⟩; rw [hw3]; clear hw3 w3)
                        (try simp only [Exit.inBlock, Exit.then])
                        refine bodyPost_ret (by simp [results, Tryd.results56, go_sem, c0, c1, c2, c3, c4, c5]; rfl) rfl ?_
                        exact ⟨HFF.out _ rfl, HM2.out.fin _ _ _ _ _ _⟩
            · have HU : Hid (dy + 719528 < Na.yb (y + 1)) := by
                show _ < _
                have : y = 9999 := by omega
                rw [this, show (9999 : Int) + 1 = 10000 from rfl, y10]; omega
              clear HY1 HBs
              go_wp2_with fail
              go_loopw [6] (fun yv w' => ∃ y : Int, yv = .int .i64 y ∧ 0 ≤ y ∧ y ≤ 9999 ∧ w' = W ∧ Hid (dy + 719528 < Na.yb (y + 1))) (fun yv _ => (intOf yv).toNat)
              case atStart => exact ⟨_, rfl, by omega, by omega, by first | rfl | trivial, HU⟩
              case round =>
                clear HU
                obtain ⟨y, rfl, y0, y1, hwr, HU⟩ := hrel
                rw [hwr]
                clear hwr
                have HB0 := hidA (HBg.out y (by omega) (by omega))
                obtain ⟨g0, g1⟩ := HRn.out y (by omega) (by omega)
                obtain ⟨Y0, hY0⟩ : ∃ Y0, Na.yb y = Y0 := ⟨_, rfl⟩
                rw [hY0] at HB0 g0 g1
                have HY0 : Hid (Na.yb y = Y0) := hY0
                clear hY0
                by_cases hc : dy < Y0 - 719528
                · have hyp : 1 ≤ y := by
                    by_cases e : y = 0
                    · have := HY0.out; rw [e, yz] at this; omega
                    · omega
                  have HU2 : Hid (dy + 719528 < Na.yb (y - 1 + 1)) := by show _ < _; rw [show y - 1 + 1 = y by omega, HY0.out]; omega
                  have hwy : IntKind.i64.wrap (y - 1) = y - 1 := by rw [IntKind.wrap_i64]; omega
                  clear HU HY0
                  go_wp2_with (go_at_call 75; refine HB0.out.mono ?_; rintro e w2 ⟨rfl, hw2⟩; rw [hw2]; clear hw2 w2)
                  exact ⟨⟨y - 1, rfl, by omega, by omega, by first | rfl | trivial, HU2⟩, by simp [intOf]; omega⟩
                · have HDn := hidA (fun (j : Nat) (hj : j < 12) => rDays y y0 j hj W)
                  have HMr := hidA (fun (j : Nat) (hj : j < 13) => Na.mb_rng y hj)
                  have h12 : Hid (dy + 719528 - Y0 < Na.mb y 12) := by show _ < _; rw [mb12, HY0.out]; have := HU.out; omega
                  have hz := hidA (Na.mb_zero y)
                  have HF2 : Hid (∀ e (j : Nat), j < 12 → Na.mb y j ≤ dy + 719528 - Y0 → dy + 719528 - Y0 < Na.mb y (j + 1) → e = .returned (.tuple #[mV y ((j : Int) + 1) (dy + 719528 - Y0 - Na.mb y j + 1) (R / 3600) (R / 60 % 60) (R % 60), .bool true]) → OutM t e) := fun e j h1 h2 h3 he =>
                    HF.out e y j ⟨y0, y1, by rw [HY0.out]; omega, HU.out, h1, by rw [HY0.out]; exact h2, by rw [HY0.out]; exact h3⟩ (by rw [HY0.out]; exact he)
                  have hdd : IntKind.i64.wrap (dy - (Y0 - 719528)) = dy + 719528 - Y0 := by rw [IntKind.wrap_i64]; omega
                  have hdd2 : dy - (Y0 - 719528) = dy + 719528 - Y0 := by omega
                  clear HU HY0 HF
                  obtain ⟨E, hE⟩ : ∃ E, dy + 719528 - Y0 = E := ⟨_, rfl⟩
                  rw [hE] at h12 HF2 hdd hdd2
                  have hE0 : 0 ≤ E := by omega
                  have hE1 : E ≤ 4000000 := by omega
                  clear hE
                  go_wp2_with (go_at_call 75; refine HB0.out.mono ?_; rintro e w2 ⟨rfl, hw2⟩; rw [hw2]; clear hw2 w2)
                  go_loopw [7, 8] (fun dv mv w' => ∃ (j : Nat) (M : Int), dv = .int .i64 (E - M) ∧ mv = .int .i64 ((j : Int) + 1) ∧ j < 12 ∧ 0 ≤ M ∧ M ≤ E ∧ w' = W ∧ Hid (Na.mb y j = M)) (fun _ mv _ => (13 - intOf mv).toNat)
                  case atStart => exact ⟨0, 0, by simp, rfl, by decide, by decide, by omega, by first | rfl | trivial, hz⟩
                  case round =>
                    obtain ⟨j, M, rfl, rfl, hj, M0, M1, hwr, HM⟩ := hrel
                    rw [hwr]
                    clear hwr
                    have HD1 := hidA (HDn.out j hj)
                    obtain ⟨N0, N1⟩ := HMr.out (j + 1) (by omega)
                    obtain ⟨N, hN⟩ : ∃ N, Na.mb y (j + 1) = N := ⟨_, rfl⟩
                    rw [hN] at N0 N1
                    rw [HM.out, hN] at HD1
                    by_cases hc2 : N - M ≤ E - M
                    · have hj2 : j + 1 < 12 := by
                        by_cases e : j + 1 = 12
                        · have := h12.out; rw [← e, hN] at this; omega
                        · omega
                      have HN : Hid (Na.mb y (j + 1) = N) := hN
                      have hw5 : IntKind.i64.wrap (E - M - (N - M)) = E - N := by rw [IntKind.wrap_i64]; omega
                      have hw6 : IntKind.i64.wrap ((j : Int) + 1 + 1) = (j : Int) + 1 + 1 := by rw [IntKind.wrap_i64]; omega
                      have hw7 : E - M - (N - M) = E - N := by omega
                      clear HM hN
                      go_wp2_with (go_at_call 57; refine HD1.out.mono ?_; rintro e w3 ⟨rfl, hw3⟩; rw [hw3]; clear hw3 w3)
                      exact ⟨⟨j + 1, N, rfl, by first | rfl | simp, hj2, N0, by omega, by first | rfl | trivial, HN⟩, by simp [intOf]; omega⟩
                    · have HFF := hidA (fun e => HF2.out e j hj (by rw [HM.out]; omega) (by rw [hN]; omega))
                      rw [HM.out] at HFF
                      clear HM hN HF2
                      go_wp2_with (go_at_call 57; refine HD1.out.mono ?_; rintro e w3 ⟨rfl, hw3⟩; rw [hw3]; clear hw3 w3)
                      (try simp only [Exit.inBlock, Exit.then])
                      refine bodyPost_ret (by simp [results, Tryd.results56, go_sem, c0, c1, c2, c3, c4, c5]; rfl) rfl ?_
                      exact ⟨HFF.out _ rfl, HM2.out.fin _ _ _ _ _ _⟩
        · have hyw : IntKind.i64.wrap (1970 + q - 1) = 1970 + q - 1 := by rw [IntKind.wrap_i64]; omega
          go_enter Tryd.func56, Tryd.ntmps56
          go_wp2_with (go_at_call 75; first | (with_reducible refine HBz.out.mono ?_; rintro e w1 ⟨rfl, hw1⟩; rw [hw1]; clear hw1 w1) | (with_reducible refine HBt.out.mono ?_; rintro e w1 ⟨rfl, hw1⟩; rw [hw1]; clear hw1 w1))
          go_loopw [6] (fun yv w' => ∃ y : Int, yv = .int .i64 y ∧ 0 ≤ y ∧ y ≤ 9999 ∧ w' = W) (fun yv _ => (10000 - intOf yv).toNat)
          case atStart => exact ⟨_, rfl, by omega, by omega, by first | rfl | trivial⟩
          case round =>
            obtain ⟨y, rfl, y0, y1, hwr⟩ := hrel
            rw [hwr]
            clear hwr
            have after : ∀ y : Int, 0 ≤ y → y ≤ 9999 → dy + 719528 < Na.yb (y + 1) → True := fun _ _ _ _ => trivial
            clear after
            have HBs := fun (h : y < 9999) => HBg.out (y + 1) (by omega) (by omega)
            obtain ⟨Y1, hY1⟩ : ∃ Y1, Na.yb (y + 1) = Y1 := ⟨_, rfl⟩
            obtain ⟨g0, g1⟩ := HRn.out (y + 1) (by omega) (by omega)
            rw [hY1] at HBs g0 g1
            have HY1 : Hid (Na.yb (y + 1) = Y1) := hY1
            clear hY1
            have hwy : IntKind.i64.wrap (y + 1) = y + 1 := by rw [IntKind.wrap_i64]; omega
            by_cases h9 : y < 9999
            · have HB1 := hidA (HBs h9)
              clear HBs
              by_cases hc : Y1 - 719528 ≤ dy
              · go_wp2_with (go_at_call 75; refine HB1.out.mono ?_; rintro e w1 ⟨rfl, hw1⟩; rw [hw1]; clear hw1 w1)
                exact ⟨⟨y + 1, rfl, by omega, by omega, by first | rfl | trivial⟩, by simp [intOf]; omega⟩
              · have HU : Hid (dy + 719528 < Na.yb (y + 1)) := by show _ < _; rw [HY1.out]; omega
                clear HY1
                go_wp2_with (go_at_call 75; refine HB1.out.mono ?_; rintro e w1 ⟨rfl, hw1⟩; rw [hw1]; clear hw1 w1)
                go_loopw [6] (fun yv w' => ∃ y : Int, yv = .int .i64 y ∧ 0 ≤ y ∧ y ≤ 9999 ∧ w' = W ∧ Hid (dy + 719528 < Na.yb (y + 1))) (fun yv _ => (intOf yv).toNat)
                case atStart => exact ⟨_, rfl, by omega, by omega, by first | rfl | trivial, HU⟩
                case round =>
                  clear HU
                  obtain ⟨y, rfl, y0, y1, hwr, HU⟩ := hrel
                  rw [hwr]
                  clear hwr
                  have HB0 := hidA (HBg.out y (by omega) (by omega))
                  obtain ⟨g0, g1⟩ := HRn.out y (by omega) (by omega)
                  obtain ⟨Y0, hY0⟩ : ∃ Y0, Na.yb y = Y0 := ⟨_, rfl⟩
                  rw [hY0] at HB0 g0 g1
                  have HY0 : Hid (Na.yb y = Y0) := hY0
                  clear hY0
                  by_cases hc : dy < Y0 - 719528
                  · have hyp : 1 ≤ y := by
                      by_cases e : y = 0
                      · have := HY0.out; rw [e, yz] at this; omega
                      · omega
                    have HU2 : Hid (dy + 719528 < Na.yb (y - 1 + 1)) := by show _ < _; rw [show y - 1 + 1 = y by omega, HY0.out]; omega
                    have hwy : IntKind.i64.wrap (y - 1) = y - 1 := by rw [IntKind.wrap_i64]; omega
                    clear HU HY0
                    go_wp2_with (go_at_call 75; refine HB0.out.mono ?_; rintro e w2 ⟨rfl, hw2⟩; rw [hw2]; clear hw2 w2)
                    exact ⟨⟨y - 1, rfl, by omega, by omega, by first | rfl | trivial, HU2⟩, by simp [intOf]; omega⟩
                  · have HDn := hidA (fun (j : Nat) (hj : j < 12) => rDays y y0 j hj W)
                    have HMr := hidA (fun (j : Nat) (hj : j < 13) => Na.mb_rng y hj)
                    have h12 : Hid (dy + 719528 - Y0 < Na.mb y 12) := by show _ < _; rw [mb12, HY0.out]; have := HU.out; omega
                    have hz := hidA (Na.mb_zero y)
                    have HF2 : Hid (∀ e (j : Nat), j < 12 → Na.mb y j ≤ dy + 719528 - Y0 → dy + 719528 - Y0 < Na.mb y (j + 1) → e = .returned (.tuple #[mV y ((j : Int) + 1) (dy + 719528 - Y0 - Na.mb y j + 1) (R / 3600) (R / 60 % 60) (R % 60), .bool true]) → OutM t e) := fun e j h1 h2 h3 he =>
                      HF.out e y j ⟨y0, y1, by rw [HY0.out]; omega, HU.out, h1, by rw [HY0.out]; exact h2, by rw [HY0.out]; exact h3⟩ (by rw [HY0.out]; exact he)
                    have hdd : IntKind.i64.wrap (dy - (Y0 - 719528)) = dy + 719528 - Y0 := by rw [IntKind.wrap_i64]; omega
                    have hdd2 : dy - (Y0 - 719528) = dy + 719528 - Y0 := by omega
                    clear HU HY0 HF
                    obtain ⟨E, hE⟩ : ∃ E, dy + 719528 - Y0 = E := ⟨_, rfl⟩
                    rw [hE] at h12 HF2 hdd hdd2
                    have hE0 : 0 ≤ E := by omega
                    have hE1 : E ≤ 4000000 := by omega
                    clear hE
                    go_wp2_with (go_at_call 75; refine HB0.out.mono ?_; rintro e w2 ⟨rfl, hw2⟩; rw [hw2]; clear hw2 w2)
                    go_loopw [7, 8] (fun dv mv w' => ∃ (j : Nat) (M : Int), dv = .int .i64 (E - M) ∧ mv = .int .i64 ((j : Int) + 1) ∧ j < 12 ∧ 0 ≤ M ∧ M ≤ E ∧ w' = W ∧ Hid (Na.mb y j = M)) (fun _ mv _ => (13 - intOf mv).toNat)
                    case atStart => exact ⟨0, 0, by simp, rfl, by decide, by decide, by omega, by first | rfl | trivial, hz⟩
                    case round =>
                      obtain ⟨j, M, rfl, rfl, hj, M0, M1, hwr, HM⟩ := hrel
                      rw [hwr]
                      clear hwr
                      have HD1 := hidA (HDn.out j hj)
                      obtain ⟨N0, N1⟩ := HMr.out (j + 1) (by omega)
                      obtain ⟨N, hN⟩ : ∃ N, Na.mb y (j + 1) = N := ⟨_, rfl⟩
                      rw [hN] at N0 N1
                      rw [HM.out, hN] at HD1
                      by_cases hc2 : N - M ≤ E - M
                      · have hj2 : j + 1 < 12 := by
                          by_cases e : j + 1 = 12
                          · have := h12.out; rw [← e, hN] at this; omega
                          · omega
                        have HN : Hid (Na.mb y (j + 1) = N) := hN
                        have hw5 : IntKind.i64.wrap (E - M - (N - M)) = E - N := by rw [IntKind.wrap_i64]; omega
                        have hw6 : IntKind.i64.wrap ((j : Int) + 1 + 1) = (j : Int) + 1 + 1 := by rw [IntKind.wrap_i64]; omega
                        have hw7 : E - M - (N - M) = E - N := by omega
                        clear HM hN
                        go_wp2_with (go_at_call 57; refine HD1.out.mono ?_; rintro e w3 ⟨rfl, hw3⟩; rw [hw3]; clear hw3 w3)
                        exact ⟨⟨j + 1, N, rfl, by first | rfl | simp, hj2, N0, by omega, by first | rfl | trivial, HN⟩, by simp [intOf]; omega⟩
                      · have HFF := hidA (fun e => HF2.out e j hj (by rw [HM.out]; omega) (by rw [hN]; omega))
                        rw [HM.out] at HFF
                        clear HM hN HF2
                        go_wp2_with (go_at_call 57; refine HD1.out.mono ?_; rintro e w3 ⟨rfl, hw3⟩; rw [hw3]; clear hw3 w3)
                        (try simp only [Exit.inBlock, Exit.then])
                        refine bodyPost_ret (by simp [results, Tryd.results56, go_sem, c0, c1, c2, c3, c4, c5]; rfl) rfl ?_
                        exact ⟨HFF.out _ rfl, HM2.out.fin _ _ _ _ _ _⟩
            · have HU : Hid (dy + 719528 < Na.yb (y + 1)) := by
                show _ < _
                have : y = 9999 := by omega
                rw [this, show (9999 : Int) + 1 = 10000 from rfl, y10]; omega
              clear HY1 HBs
              go_wp2_with fail
              go_loopw [6] (fun yv w' => ∃ y : Int, yv = .int .i64 y ∧ 0 ≤ y ∧ y ≤ 9999 ∧ w' = W ∧ Hid (dy + 719528 < Na.yb (y + 1))) (fun yv _ => (intOf yv).toNat)
              case atStart => exact ⟨_, rfl, by omega, by omega, by first | rfl | trivial, HU⟩
              case round =>
                clear HU
                obtain ⟨y, rfl, y0, y1, hwr, HU⟩ := hrel
                rw [hwr]
                clear hwr
                have HB0 := hidA (HBg.out y (by omega) (by omega))
                obtain ⟨g0, g1⟩ := HRn.out y (by omega) (by omega)
                obtain ⟨Y0, hY0⟩ : ∃ Y0, Na.yb y = Y0 := ⟨_, rfl⟩
                rw [hY0] at HB0 g0 g1
                have HY0 : Hid (Na.yb y = Y0) := hY0
                clear hY0
                by_cases hc : dy < Y0 - 719528
                · have hyp : 1 ≤ y := by
                    by_cases e : y = 0
                    · have := HY0.out; rw [e, yz] at this; omega
                    · omega
                  have HU2 : Hid (dy + 719528 < Na.yb (y - 1 + 1)) := by show _ < _; rw [show y - 1 + 1 = y by omega, HY0.out]; omega
                  have hwy : IntKind.i64.wrap (y - 1) = y - 1 := by rw [IntKind.wrap_i64]; omega
                  clear HU HY0
                  go_wp2_with (go_at_call 75; refine HB0.out.mono ?_; rintro e w2 ⟨rfl, hw2⟩; rw [hw2]; clear hw2 w2)
                  exact ⟨⟨y - 1, rfl, by omega, by omega, by first | rfl | trivial, HU2⟩, by simp [intOf]; omega⟩
                · have HDn := hidA (fun (j : Nat) (hj : j < 12) => rDays y y0 j hj W)
                  have HMr := hidA (fun (j : Nat) (hj : j < 13) => Na.mb_rng y hj)
                  have h12 : Hid (dy + 719528 - Y0 < Na.mb y 12) := by show _ < _; rw [mb12, HY0.out]; have := HU.out; omega
                  have hz := hidA (Na.mb_zero y)
                  have HF2 : Hid (∀ e (j : Nat), j < 12 → Na.mb y j ≤ dy + 719528 - Y0 → dy + 719528 - Y0 < Na.mb y (j + 1) → e = .returned (.tuple #[mV y ((j : Int) + 1) (dy + 719528 - Y0 - Na.mb y j + 1) (R / 3600) (R / 60 % 60) (R % 60), .bool true]) → OutM t e) := fun e j h1 h2 h3 he =>
                    HF.out e y j ⟨y0, y1, by rw [HY0.out]; omega, HU.out, h1, by rw [HY0.out]; exact h2, by rw [HY0.out]; exact h3⟩ (by rw [HY0.out]; exact he)
                  have hdd : IntKind.i64.wrap (dy - (Y0 - 719528)) = dy + 719528 - Y0 := by rw [IntKind.wrap_i64]; omega
                  have hdd2 : dy - (Y0 - 719528) = dy + 719528 - Y0 := by omega
                  clear HU HY0 HF
                  obtain ⟨E, hE⟩ : ∃ E, dy + 719528 - Y0 = E := ⟨_, rfl⟩
                  rw [hE] at h12 HF2 hdd hdd2
                  have hE0 : 0 ≤ E := by omega
                  have hE1 : E ≤ 4000000 := by omega
                  clear hE
                  go_wp2_with (go_at_call 75; refine HB0.out.mono ?_; rintro e w2 ⟨rfl, hw2⟩; rw [hw2]; clear hw2 w2)
                  go_loopw [7, 8] (fun dv mv w' => ∃ (j : Nat) (M : Int), dv = .int .i64 (E - M) ∧ mv = .int .i64 ((j : Int) + 1) ∧ j < 12 ∧ 0 ≤ M ∧ M ≤ E ∧ w' = W ∧ Hid (Na.mb y j = M)) (fun _ mv _ => (13 - intOf mv).toNat)
                  case atStart => exact ⟨0, 0, by simp, rfl, by decide, by decide, by omega, by first | rfl | trivial, hz⟩
                  case round =>
                    obtain ⟨j, M, rfl, rfl, hj, M0, M1, hwr, HM⟩ := hrel
                    rw [hwr]
                    clear hwr
                    have HD1 := hidA (HDn.out j hj)
                    obtain ⟨N0, N1⟩ := HMr.out (j + 1) (by omega)
                    obtain ⟨N, hN⟩ : ∃ N, Na.mb y (j + 1) = N := ⟨_, rfl⟩
                    rw [hN] at N0 N1
                    rw [HM.out, hN] at HD1
                    by_cases hc2 : N - M ≤ E - M
                    · have hj2 : j + 1 < 12 := by
                        by_cases e : j + 1 = 12
                        · have := h12.out; rw [← e, hN] at this; omega
                        · omega
                      have HN : Hid (Na.mb y (j + 1) = N) := hN
                      have hw5 : IntKind.i64.wrap (E - M - (N - M)) = E - N := by rw [IntKind.wrap_i64]; omega
                      have hw6 : IntKind.i64.wrap ((j : Int) + 1 + 1) = (j : Int) + 1 + 1 := by rw [IntKind.wrap_i64]; omega
                      have hw7 : E - M - (N - M) = E - N := by omega
                      clear HM hN
                      go_wp2_with (go_at_call 57; refine HD1.out.mono ?_; rintro e w3 ⟨rfl, hw3⟩; rw [hw3]; clear hw3 w3)
                      exact ⟨⟨j + 1, N, rfl, by first | rfl | simp, hj2, N0, by omega, by first | rfl | trivial, HN⟩, by simp [intOf]; omega⟩
                    · have HFF := hidA (fun e => HF2.out e j hj (by rw [HM.out]; omega) (by rw [hN]; omega))
                      rw [HM.out] at HFF
                      clear HM hN HF2
                      go_wp2_with (go_at_call 57; refine HD1.out.mono ?_; rintro e w3 ⟨rfl, hw3⟩; rw [hw3]; clear hw3 w3)
                      (try simp only [Exit.inBlock, Exit.then])
                      refine bodyPost_ret (by simp [results, Tryd.results56, go_sem, c0, c1, c2, c3, c4, c5]; rfl) rfl ?_
                      exact ⟨HFF.out _ rfl, HM2.out.fin _ _ _ _ _ _⟩
end Go.Proofs.YtgkjpfebjhhdkaaDoor
