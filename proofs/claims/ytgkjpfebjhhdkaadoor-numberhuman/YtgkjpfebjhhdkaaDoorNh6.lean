/- The plain answer's unitOf and Human. No condition. -/
import Derived.Test.YtgkjpfebjhhdkaaDoorNh4
import Derived.Test.YtgkjpfebjhhdkaaDoorNh5
namespace Go.Proofs.YtgkjpfebjhhdkaaDoor
open Go.RowKit
attribute [local go_sem] ext_eq app_eq get_eq
namespace Na
theorem ceil_eq {m u : Int} (hu : 1024 ≤ u) : (10 * m + u - 1) / u = wu (m * 10) u := by
  have h1 := Int.mul_ediv_add_emod (m * 10) u
  have h2 : 0 ≤ (m * 10) % u := Int.emod_nonneg _ (by omega)
  have h3 : (m * 10) % u < u := Int.emod_lt_of_pos _ (by omega)
  unfold wu
  generalize (m * 10) / u = k at *
  generalize (m * 10) % u = r at *
  rw [show 10 * m + u - 1 = (r + u - 1) + u * k by omega, Int.add_mul_ediv_left _ _ (by omega)]
  split
  · rename_i h
    rw [h, Int.ediv_eq_zero_of_lt (by omega) (by omega)]; omega
  · have : (r + u - 1) / u = 1 := by
      rw [show r + u - 1 = (r - 1) + u * 1 by omega, Int.add_mul_ediv_left _ _ (by omega), Int.ediv_eq_zero_of_lt (by omega) (by omega)]; omega
    rw [this]; omega
theorem short_a {s u q m t : Int} {i : Nat} (hs : ¬ s < 1024) (hi : uI s = i) (hu : uV i = u) (hU : 1024 ≤ u) (hq : s / u = q) (hm : s % u = m) (ht : (10 * m + u - 1) / u = t) (h0 : 0 ≤ q) (h10 : q < 10) :
    0 ≤ t ∧ t ≤ 10 ∧ (t = 10 → q + 1 < 10 → shortP s = Lib.decDigits (q + 1).toNat ++ [46] ++ Lib.decDigits 0 ++ [uN i]) ∧ (t = 10 → ¬ q + 1 < 10 → shortP s = Lib.decDigits (q + 1).toNat ++ [uN i]) ∧ (t ≠ 10 → shortP s = Lib.decDigits q.toNat ++ [46] ++ Lib.decDigits t.toNat ++ [uN i]) := by
  have hm0 : 0 ≤ m := by rw [← hm]; exact Int.emod_nonneg _ (by omega)
  have hm1 : m < u := by rw [← hm]; exact Int.emod_lt_of_pos _ (by omega)
  have htu : tu s u = q * 10 + t := by unfold tu; rw [hq, hm, ← ceil_eq hU, ht]
  have hE := ceil_eq (m := m) hU
  rw [ht] at hE
  have ht0 : 0 ≤ t := by rw [hE]; exact (wu_rng (by omega) hU).1
  have ht1 : t ≤ 10 := by
    rw [← ht]
    have : (10 * m + u - 1) / u < 11 := Int.ediv_lt_of_lt_mul (by omega) (by omega)
    omega
  have hmt : t = 10 → m ≠ 0 := by
    intro h hz
    rw [← ht, hz, Int.ediv_eq_zero_of_lt (by omega) (by omega)] at h
    omega
  have hP : shortP s = if tu s u < 100 then Lib.decDigits (tu s u / 10).toNat ++ [46] ++ Lib.decDigits (tu s u % 10).toNat ++ [uN i] else Lib.decDigits (wu s u).toNat ++ [uN i] := by
    unfold shortP; rw [if_neg hs, hi, hu]
  rw [htu] at hP
  refine ⟨ht0, ht1, fun h1 h2 => ?_, fun h1 h2 => ?_, fun h1 => ?_⟩
  · rw [hP, if_pos (by omega), show (q * 10 + t) / 10 = q + 1 by omega, show (q * 10 + t) % 10 = 0 by omega]; rfl
  · rw [hP, if_neg (by omega)]
    have : wu s u = q + 1 := by unfold wu; rw [hm, if_neg (hmt h1), hq]
    rw [this]
  · rw [hP, if_pos (by omega), show (q * 10 + t) / 10 = q by omega, show (q * 10 + t) % 10 = t by omega]
theorem short_b {s u q : Int} {i : Nat} (hs : ¬ s < 1024) (hi : uI s = i) (hu : uV i = u) (hU : 1024 ≤ u) (hq : s / u = q) (h10 : ¬ q < 10) : shortP s = Lib.decDigits (wu s u).toNat ++ [uN i] := by
  unfold shortP
  rw [if_neg hs, hi, hu, if_neg]
  have hm0 : 0 ≤ s % u := Int.emod_nonneg _ (by omega)
  have := (wu_rng (s := s % u * 10) (u := u) (by omega) hU).1
  unfold tu; rw [hq]; omega
end Na
set_option maxHeartbeats 1000000 in
theorem rUnitOf (i : Nat) (h1 : 1 ≤ i) (h6 : i ≤ 6) (w : World) : Calls Tryd.prog 42 #[.int .i64 i] w fun e w' => e = .returned (.string ⟨#[Na.uN i]⟩) ∧ w' = w := by
  obtain rfl | rfl | rfl | rfl | rfl | rfl : i = 1 ∨ i = 2 ∨ i = 3 ∨ i = 4 ∨ i = 5 ∨ i = 6 := by omega
  all_goals
    go_enter Tryd.func42, Tryd.ntmps42
    go_wp2
    go_ret
    exact ⟨rfl, rfl⟩
set_option maxRecDepth 100000 in
set_option maxHeartbeats 16000000 in
theorem rHumanN (n : Int) (g0 : -9223372036854775808 ≤ n) (g1 : n ≤ 9223372036854775807) (hn : n < 0) (w : World) : Calls Tryd.prog 18 #[.int .i64 n] w fun e w' => e = .returned (.string ⟨(Na.humanP n).toArray⟩) ∧ Below w.heap.size w w' := by
  obtain ⟨s, hsd⟩ : ∃ s, -n = s := ⟨_, rfl⟩
  have h0 : 0 ≤ s := by omega
  have h1 : s < 18446744073709551616 := by omega
  have hsn : n < 0 := hn
  have hw1 : IntKind.i64.wrap (n + 1) = n + 1 := by rw [IntKind.wrap_i64]; omega
  have hw2 : IntKind.i64.wrap (-(n + 1)) = -(n + 1) := by rw [IntKind.wrap_i64]; omega
  have hw3 : IntKind.u64.wrap (-(n + 1)) = -(n + 1) := by rw [IntKind.wrap_u64]; omega
  have hw4 : IntKind.u64.wrap (-(n + 1) + 1) = s := by rw [IntKind.wrap_u64]; omega
  have HH : Hid (Na.humanP n = 45 :: Na.shortP s) := by show _ = _; unfold Na.humanP; rw [if_pos hn, hsd]
  have HB := hidA (fun m => bl_drew w m)
  clear hn
  by_cases hs : s < 1024
  · have HE : Hid (Na.shortP s = Lib.decDigits s.toNat) := if_pos hs
    have HT1 := hidA (fun w => rText s h0 h1 w)
    have hl1 := dd_len s.toNat (by omega)
    generalize Lib.decDigits s.toNat = D1 at *
    clear hsd
    go_enter Tryd.func18, Tryd.ntmps18
    go_wp2_with (go_at_call 41; refine (HT1.out _).mono ?_; rintro e w1 ⟨rfl, b1⟩)
    go_ret
    exact ⟨by rw [HH.out, HE.out]; simp [Array.getD], b1⟩
  clear hsd
  go_enter Tryd.func18, Tryd.ntmps18
  go_wp2_with fail
  go_loopw [5] (fun a w' => ∃ (i k : Nat), a = .int .i64 i ∧ w' = w.drewN k ∧ 1 ≤ i ∧ i ≤ 6 ∧ Hid (noU s (i - 1))) (fun a _ => 7 - (intOf a).toNat)
  case atStart => exact ⟨1, 0, rfl, rfl, by decide, by decide, trivial⟩
  case round =>
    obtain ⟨i, k, rfl, rfl, hi1, hi6, HN⟩ := hrel
    obtain rfl | rfl | rfl | rfl | rfl | rfl : i = 1 ∨ i = 2 ∨ i = 3 ∨ i = 4 ∨ i = 5 ∨ i = 6 := by omega
    · have HN2 : Hid (True) := HN
      have HU := hidA (fun w => rUnitOf 1 (by decide) (by decide) w)
      have HWU : Hid (Na.wu s 1024 = if s % 1024 = 0 then s / 1024 else s / 1024 + 1) := rfl
      clear HN
      obtain ⟨q, hq⟩ : ∃ q, s / 1024 = q := ⟨_, rfl⟩
      obtain ⟨m, hm⟩ : ∃ m, s % 1024 = m := ⟨_, rfl⟩
      have hqd : s.tdiv 1024 = q := (Int.tdiv_eq_ediv_of_nonneg h0).trans hq
      have hqm : s.tmod 1024 = m := (Int.tmod_eq_emod_of_nonneg h0).trans hm
      have hq0 : 0 ≤ q := by omega
      have hq1 : q < 18014398509481984 := by omega
      have hm0 : 0 ≤ m := by omega
      have hm1 : m < 1024 := by omega
      rw [hq, hm] at HWU
      by_cases h10 : q < 10
      · have HI : Hid (Na.uI s = 1) := by
          have hq : Na.wu s 1024 < 1024 := by rw [HWU.out]; split <;> omega
          show _ = _
          unfold Na.uI
          simp [hq]
        obtain ⟨t, ht⟩ : ∃ t, (10 * m + 1024 - 1) / 1024 = t := ⟨_, rfl⟩
        obtain ⟨ht0, ht1, a1, a2, a3⟩ := Na.short_a (by omega) HI.out rfl (by decide) hq hm ht hq0 h10
        have htd : (10 * m + 1024 - 1).tdiv 1024 = t := (Int.tdiv_eq_ediv_of_nonneg (by omega)).trans ht
        clear HI HWU hq hm ht HN2
        by_cases ht10 : t = 10
        · have ht10' : (t == 10) = true := by simpa using ht10
          by_cases hq9 : q + 1 < 10
          · have HE := hidA (a1 ht10 hq9)
            clear a1 a2 a3
            have HT1 := hidA (fun w => rText (q + 1) (by omega) (by omega) w)
            have HT2 := hidA (fun w => rText 0 (by decide) (by decide) w)
            have hl1 := dd_len (q + 1).toNat (by omega)
            have e0 : (0 : Int).toNat = 0 := rfl
            rw [e0] at HT2
            have hl2 := dd_len 0 (by decide)
            generalize Lib.decDigits (q + 1).toNat = D1 at *
            generalize Lib.decDigits 0 = D2 at *
            clear ht10
            go_wp2_with (first | (go_at_call 41; first | (with_reducible refine (HT1.out _).mono ?_; rintro e w1 ⟨rfl, b1⟩) | (with_reducible refine (HT2.out _).mono ?_; rintro e w2 ⟨rfl, b2⟩)) | (go_at_call 42; refine (HU.out _).mono ?_; rintro e w3 ⟨rfl, rfl⟩) | go_quiet (fail))
            go_ret
            exact ⟨by rw [HH.out, HE.out]; simp [Array.getD], bl2 (bl2 (HB.out _) b1) b2⟩
          · have HE := hidA (a2 ht10 hq9)
            clear a1 a2 a3
            have HT1 := hidA (fun w => rText (q + 1) (by omega) (by omega) w)
            have hl1 := dd_len (q + 1).toNat (by omega)
            generalize Lib.decDigits (q + 1).toNat = D1 at *
            clear ht10
            go_wp2_with (first | (go_at_call 41; first | (with_reducible refine (HT1.out _).mono ?_; rintro e w1 ⟨rfl, b1⟩) | (with_reducible refine (HT2.out _).mono ?_; rintro e w2 ⟨rfl, b2⟩)) | (go_at_call 42; refine (HU.out _).mono ?_; rintro e w3 ⟨rfl, rfl⟩) | go_quiet (fail))
            go_ret
            exact ⟨by rw [HH.out, HE.out]; simp [Array.getD], bl2 (HB.out _) b1⟩
        · have ht10' : (t == 10) = false := by simpa using ht10
          have HE := hidA (a3 ht10)
          clear a1 a2 a3
          have HT1 := hidA (fun w => rText q (by omega) (by omega) w)
          have HT2 := hidA (fun w => rText t (by omega) (by omega) w)
          have hl1 := dd_len q.toNat (by omega)
          have hl2 := dd_len t.toNat (by omega)
          generalize Lib.decDigits q.toNat = D1 at *
          generalize Lib.decDigits t.toNat = D2 at *
          clear ht10
          go_wp2_with (first | (go_at_call 41; first | (with_reducible refine (HT1.out _).mono ?_; rintro e w1 ⟨rfl, b1⟩) | (with_reducible refine (HT2.out _).mono ?_; rintro e w2 ⟨rfl, b2⟩)) | (go_at_call 42; refine (HU.out _).mono ?_; rintro e w3 ⟨rfl, rfl⟩) | go_quiet (fail))
          go_ret
          exact ⟨by rw [HH.out, HE.out]; simp [Array.getD], bl2 (bl2 (HB.out _) b1) b2⟩
      · have HV : Hid (∀ v, Na.wu s 1024 = v → v < 1024 → Na.shortP s = Lib.decDigits v.toNat ++ [Na.uN 1]) := by
          intro v hv hlt
          rw [← hv]
          refine Na.short_b (i := 1) (by omega) ?_ rfl (by decide) hq h10
          have hq : Na.wu s 1024 < 1024 := by rw [hv]; exact hlt
          unfold Na.uI
          simp [hq]
        by_cases hz : m = 0
        · rw [if_pos hz] at HWU
          have hz' : ¬ 0 < m := by omega
          by_cases hlt : q < 1024
          · have HE := hidA (HV.out q HWU.out hlt)
            have HT1 := hidA (fun w => rText q (by omega) (by omega) w)
            have hl1 := dd_len q.toNat (by omega)
            generalize Lib.decDigits q.toNat = D1 at *
            clear HV HWU hz hq hm HN2
            go_wp2_with (first | (go_at_call 41; first | (with_reducible refine (HT1.out _).mono ?_; rintro e w1 ⟨rfl, b1⟩) | (with_reducible refine (HT2.out _).mono ?_; rintro e w2 ⟨rfl, b2⟩)) | (go_at_call 42; refine (HU.out _).mono ?_; rintro e w3 ⟨rfl, rfl⟩) | go_quiet (fail))
            go_ret
            exact ⟨by rw [HH.out, HE.out]; simp [Array.getD], bl2 (HB.out _) b1⟩
          · have HN3 : Hid (noU s 1) := by
              have h3 : ¬ Na.wu s 1024 < 1024 := by rw [HWU.out]; omega
              show noU s 1
              exact h3
            clear HV HWU hz hq hm HN2
            go_wp2_with (go_quiet (fail))
            exact ⟨⟨2, _, rfl, rfl, by decide, by decide, HN3⟩, by simp [intOf]⟩
        · rw [if_neg hz] at HWU
          have hz' : 0 < m := by omega
          by_cases hlt : q + 1 < 1024
          · have HE := hidA (HV.out (q + 1) HWU.out hlt)
            have HT1 := hidA (fun w => rText (q + 1) (by omega) (by omega) w)
            have hl1 := dd_len (q + 1).toNat (by omega)
            generalize Lib.decDigits (q + 1).toNat = D1 at *
            clear HV HWU hz hq hm HN2
            go_wp2_with (first | (go_at_call 41; first | (with_reducible refine (HT1.out _).mono ?_; rintro e w1 ⟨rfl, b1⟩) | (with_reducible refine (HT2.out _).mono ?_; rintro e w2 ⟨rfl, b2⟩)) | (go_at_call 42; refine (HU.out _).mono ?_; rintro e w3 ⟨rfl, rfl⟩) | go_quiet (fail))
            go_ret
            exact ⟨by rw [HH.out, HE.out]; simp [Array.getD], bl2 (HB.out _) b1⟩
          · have HN3 : Hid (noU s 1) := by
              have h3 : ¬ Na.wu s 1024 < 1024 := by rw [HWU.out]; omega
              show noU s 1
              exact h3
            clear HV HWU hz hq hm HN2
            go_wp2_with (go_quiet (fail))
            exact ⟨⟨2, _, rfl, rfl, by decide, by decide, HN3⟩, by simp [intOf]⟩
    · have HN2 : Hid (¬ Na.wu s 1024 < 1024) := HN
      have HU := hidA (fun w => rUnitOf 2 (by decide) (by decide) w)
      have HWU : Hid (Na.wu s 1048576 = if s % 1048576 = 0 then s / 1048576 else s / 1048576 + 1) := rfl
      clear HN
      obtain ⟨q, hq⟩ : ∃ q, s / 1048576 = q := ⟨_, rfl⟩
      obtain ⟨m, hm⟩ : ∃ m, s % 1048576 = m := ⟨_, rfl⟩
      have hqd : s.tdiv 1048576 = q := (Int.tdiv_eq_ediv_of_nonneg h0).trans hq
      have hqm : s.tmod 1048576 = m := (Int.tmod_eq_emod_of_nonneg h0).trans hm
      have hq0 : 0 ≤ q := by omega
      have hq1 : q < 17592186044416 := by omega
      have hm0 : 0 ≤ m := by omega
      have hm1 : m < 1048576 := by omega
      rw [hq, hm] at HWU
      by_cases h10 : q < 10
      · have HI : Hid (Na.uI s = 2) := by
          have hq : Na.wu s 1048576 < 1024 := by rw [HWU.out]; split <;> omega
          have h2 := HN2.out; show _ = _
          unfold Na.uI
          simp [h2, hq]
        obtain ⟨t, ht⟩ : ∃ t, (10 * m + 1048576 - 1) / 1048576 = t := ⟨_, rfl⟩
        obtain ⟨ht0, ht1, a1, a2, a3⟩ := Na.short_a (by omega) HI.out rfl (by decide) hq hm ht hq0 h10
        have htd : (10 * m + 1048576 - 1).tdiv 1048576 = t := (Int.tdiv_eq_ediv_of_nonneg (by omega)).trans ht
        clear HI HWU hq hm ht HN2
        by_cases ht10 : t = 10
        · have ht10' : (t == 10) = true := by simpa using ht10
          by_cases hq9 : q + 1 < 10
          · have HE := hidA (a1 ht10 hq9)
            clear a1 a2 a3
            have HT1 := hidA (fun w => rText (q + 1) (by omega) (by omega) w)
            have HT2 := hidA (fun w => rText 0 (by decide) (by decide) w)
            have hl1 := dd_len (q + 1).toNat (by omega)
            have e0 : (0 : Int).toNat = 0 := rfl
            rw [e0] at HT2
            have hl2 := dd_len 0 (by decide)
            generalize Lib.decDigits (q + 1).toNat = D1 at *
            generalize Lib.decDigits 0 = D2 at *
            clear ht10
            go_wp2_with (first | (go_at_call 41; first | (with_reducible refine (HT1.out _).mono ?_; rintro e w1 ⟨rfl, b1⟩) | (with_reducible refine (HT2.out _).mono ?_; rintro e w2 ⟨rfl, b2⟩)) | (go_at_call 42; refine (HU.out _).mono ?_; rintro e w3 ⟨rfl, rfl⟩) | go_quiet (fail))
            go_ret
            exact ⟨by rw [HH.out, HE.out]; simp [Array.getD], bl2 (bl2 (HB.out _) b1) b2⟩
          · have HE := hidA (a2 ht10 hq9)
            clear a1 a2 a3
            have HT1 := hidA (fun w => rText (q + 1) (by omega) (by omega) w)
            have hl1 := dd_len (q + 1).toNat (by omega)
            generalize Lib.decDigits (q + 1).toNat = D1 at *
            clear ht10
            go_wp2_with (first | (go_at_call 41; first | (with_reducible refine (HT1.out _).mono ?_; rintro e w1 ⟨rfl, b1⟩) | (with_reducible refine (HT2.out _).mono ?_; rintro e w2 ⟨rfl, b2⟩)) | (go_at_call 42; refine (HU.out _).mono ?_; rintro e w3 ⟨rfl, rfl⟩) | go_quiet (fail))
            go_ret
            exact ⟨by rw [HH.out, HE.out]; simp [Array.getD], bl2 (HB.out _) b1⟩
        · have ht10' : (t == 10) = false := by simpa using ht10
          have HE := hidA (a3 ht10)
          clear a1 a2 a3
          have HT1 := hidA (fun w => rText q (by omega) (by omega) w)
          have HT2 := hidA (fun w => rText t (by omega) (by omega) w)
          have hl1 := dd_len q.toNat (by omega)
          have hl2 := dd_len t.toNat (by omega)
          generalize Lib.decDigits q.toNat = D1 at *
          generalize Lib.decDigits t.toNat = D2 at *
          clear ht10
          go_wp2_with (first | (go_at_call 41; first | (with_reducible refine (HT1.out _).mono ?_; rintro e w1 ⟨rfl, b1⟩) | (with_reducible refine (HT2.out _).mono ?_; rintro e w2 ⟨rfl, b2⟩)) | (go_at_call 42; refine (HU.out _).mono ?_; rintro e w3 ⟨rfl, rfl⟩) | go_quiet (fail))
          go_ret
          exact ⟨by rw [HH.out, HE.out]; simp [Array.getD], bl2 (bl2 (HB.out _) b1) b2⟩
      · have HV : Hid (∀ v, Na.wu s 1048576 = v → v < 1024 → Na.shortP s = Lib.decDigits v.toNat ++ [Na.uN 2]) := by
          intro v hv hlt
          rw [← hv]
          refine Na.short_b (i := 2) (by omega) ?_ rfl (by decide) hq h10
          have hq : Na.wu s 1048576 < 1024 := by rw [hv]; exact hlt
          have h2 := HN2.out; unfold Na.uI
          simp [h2, hq]
        by_cases hz : m = 0
        · rw [if_pos hz] at HWU
          have hz' : ¬ 0 < m := by omega
          by_cases hlt : q < 1024
          · have HE := hidA (HV.out q HWU.out hlt)
            have HT1 := hidA (fun w => rText q (by omega) (by omega) w)
            have hl1 := dd_len q.toNat (by omega)
            generalize Lib.decDigits q.toNat = D1 at *
            clear HV HWU hz hq hm HN2
            go_wp2_with (first | (go_at_call 41; first | (with_reducible refine (HT1.out _).mono ?_; rintro e w1 ⟨rfl, b1⟩) | (with_reducible refine (HT2.out _).mono ?_; rintro e w2 ⟨rfl, b2⟩)) | (go_at_call 42; refine (HU.out _).mono ?_; rintro e w3 ⟨rfl, rfl⟩) | go_quiet (fail))
            go_ret
            exact ⟨by rw [HH.out, HE.out]; simp [Array.getD], bl2 (HB.out _) b1⟩
          · have HN3 : Hid (noU s 2) := by
              have h3 : ¬ Na.wu s 1048576 < 1024 := by rw [HWU.out]; omega
              have h2 := HN2.out; show noU s 2
              exact ⟨h2, h3⟩
            clear HV HWU hz hq hm HN2
            go_wp2_with (go_quiet (fail))
            exact ⟨⟨3, _, rfl, rfl, by decide, by decide, HN3⟩, by simp [intOf]⟩
        · rw [if_neg hz] at HWU
          have hz' : 0 < m := by omega
          by_cases hlt : q + 1 < 1024
          · have HE := hidA (HV.out (q + 1) HWU.out hlt)
            have HT1 := hidA (fun w => rText (q + 1) (by omega) (by omega) w)
            have hl1 := dd_len (q + 1).toNat (by omega)
            generalize Lib.decDigits (q + 1).toNat = D1 at *
            clear HV HWU hz hq hm HN2
            go_wp2_with (first | (go_at_call 41; first | (with_reducible refine (HT1.out _).mono ?_; rintro e w1 ⟨rfl, b1⟩) | (with_reducible refine (HT2.out _).mono ?_; rintro e w2 ⟨rfl, b2⟩)) | (go_at_call 42; refine (HU.out _).mono ?_; rintro e w3 ⟨rfl, rfl⟩) | go_quiet (fail))
            go_ret
            exact ⟨by rw [HH.out, HE.out]; simp [Array.getD], bl2 (HB.out _) b1⟩
          · have HN3 : Hid (noU s 2) := by
              have h3 : ¬ Na.wu s 1048576 < 1024 := by rw [HWU.out]; omega
              have h2 := HN2.out; show noU s 2
              exact ⟨h2, h3⟩
            clear HV HWU hz hq hm HN2
            go_wp2_with (go_quiet (fail))
            exact ⟨⟨3, _, rfl, rfl, by decide, by decide, HN3⟩, by simp [intOf]⟩
    · have HN2 : Hid (¬ Na.wu s 1024 < 1024 ∧ ¬ Na.wu s 1048576 < 1024) := HN
      have HU := hidA (fun w => rUnitOf 3 (by decide) (by decide) w)
      have HWU : Hid (Na.wu s 1073741824 = if s % 1073741824 = 0 then s / 1073741824 else s / 1073741824 + 1) := rfl
      clear HN
      obtain ⟨q, hq⟩ : ∃ q, s / 1073741824 = q := ⟨_, rfl⟩
      obtain ⟨m, hm⟩ : ∃ m, s % 1073741824 = m := ⟨_, rfl⟩
      have hqd : s.tdiv 1073741824 = q := (Int.tdiv_eq_ediv_of_nonneg h0).trans hq
      have hqm : s.tmod 1073741824 = m := (Int.tmod_eq_emod_of_nonneg h0).trans hm
      have hq0 : 0 ≤ q := by omega
      have hq1 : q < 17179869184 := by omega
      have hm0 : 0 ≤ m := by omega
      have hm1 : m < 1073741824 := by omega
      rw [hq, hm] at HWU
      by_cases h10 : q < 10
      · have HI : Hid (Na.uI s = 3) := by
          have hq : Na.wu s 1073741824 < 1024 := by rw [HWU.out]; split <;> omega
          have h2 := HN2.out; show _ = _
          unfold Na.uI
          simp [h2, hq]
        obtain ⟨t, ht⟩ : ∃ t, (10 * m + 1073741824 - 1) / 1073741824 = t := ⟨_, rfl⟩
        obtain ⟨ht0, ht1, a1, a2, a3⟩ := Na.short_a (by omega) HI.out rfl (by decide) hq hm ht hq0 h10
        have htd : (10 * m + 1073741824 - 1).tdiv 1073741824 = t := (Int.tdiv_eq_ediv_of_nonneg (by omega)).trans ht
        clear HI HWU hq hm ht HN2
        by_cases ht10 : t = 10
        · have ht10' : (t == 10) = true := by simpa using ht10
          by_cases hq9 : q + 1 < 10
          · have HE := hidA (a1 ht10 hq9)
            clear a1 a2 a3
            have HT1 := hidA (fun w => rText (q + 1) (by omega) (by omega) w)
            have HT2 := hidA (fun w => rText 0 (by decide) (by decide) w)
            have hl1 := dd_len (q + 1).toNat (by omega)
            have e0 : (0 : Int).toNat = 0 := rfl
            rw [e0] at HT2
            have hl2 := dd_len 0 (by decide)
            generalize Lib.decDigits (q + 1).toNat = D1 at *
            generalize Lib.decDigits 0 = D2 at *
            clear ht10
            go_wp2_with (first | (go_at_call 41; first | (with_reducible refine (HT1.out _).mono ?_; rintro e w1 ⟨rfl, b1⟩) | (with_reducible refine (HT2.out _).mono ?_; rintro e w2 ⟨rfl, b2⟩)) | (go_at_call 42; refine (HU.out _).mono ?_; rintro e w3 ⟨rfl, rfl⟩) | go_quiet (fail))
            go_ret
            exact ⟨by rw [HH.out, HE.out]; simp [Array.getD], bl2 (bl2 (HB.out _) b1) b2⟩
          · have HE := hidA (a2 ht10 hq9)
            clear a1 a2 a3
            have HT1 := hidA (fun w => rText (q + 1) (by omega) (by omega) w)
            have hl1 := dd_len (q + 1).toNat (by omega)
            generalize Lib.decDigits (q + 1).toNat = D1 at *
            clear ht10
            go_wp2_with (first | (go_at_call 41; first | (with_reducible refine (HT1.out _).mono ?_; rintro e w1 ⟨rfl, b1⟩) | (with_reducible refine (HT2.out _).mono ?_; rintro e w2 ⟨rfl, b2⟩)) | (go_at_call 42; refine (HU.out _).mono ?_; rintro e w3 ⟨rfl, rfl⟩) | go_quiet (fail))
            go_ret
            exact ⟨by rw [HH.out, HE.out]; simp [Array.getD], bl2 (HB.out _) b1⟩
        · have ht10' : (t == 10) = false := by simpa using ht10
          have HE := hidA (a3 ht10)
          clear a1 a2 a3
          have HT1 := hidA (fun w => rText q (by omega) (by omega) w)
          have HT2 := hidA (fun w => rText t (by omega) (by omega) w)
          have hl1 := dd_len q.toNat (by omega)
          have hl2 := dd_len t.toNat (by omega)
          generalize Lib.decDigits q.toNat = D1 at *
          generalize Lib.decDigits t.toNat = D2 at *
          clear ht10
          go_wp2_with (first | (go_at_call 41; first | (with_reducible refine (HT1.out _).mono ?_; rintro e w1 ⟨rfl, b1⟩) | (with_reducible refine (HT2.out _).mono ?_; rintro e w2 ⟨rfl, b2⟩)) | (go_at_call 42; refine (HU.out _).mono ?_; rintro e w3 ⟨rfl, rfl⟩) | go_quiet (fail))
          go_ret
          exact ⟨by rw [HH.out, HE.out]; simp [Array.getD], bl2 (bl2 (HB.out _) b1) b2⟩
      · have HV : Hid (∀ v, Na.wu s 1073741824 = v → v < 1024 → Na.shortP s = Lib.decDigits v.toNat ++ [Na.uN 3]) := by
          intro v hv hlt
          rw [← hv]
          refine Na.short_b (i := 3) (by omega) ?_ rfl (by decide) hq h10
          have hq : Na.wu s 1073741824 < 1024 := by rw [hv]; exact hlt
          have h2 := HN2.out; unfold Na.uI
          simp [h2, hq]
        by_cases hz : m = 0
        · rw [if_pos hz] at HWU
          have hz' : ¬ 0 < m := by omega
          by_cases hlt : q < 1024
          · have HE := hidA (HV.out q HWU.out hlt)
            have HT1 := hidA (fun w => rText q (by omega) (by omega) w)
            have hl1 := dd_len q.toNat (by omega)
            generalize Lib.decDigits q.toNat = D1 at *
            clear HV HWU hz hq hm HN2
            go_wp2_with (first | (go_at_call 41; first | (with_reducible refine (HT1.out _).mono ?_; rintro e w1 ⟨rfl, b1⟩) | (with_reducible refine (HT2.out _).mono ?_; rintro e w2 ⟨rfl, b2⟩)) | (go_at_call 42; refine (HU.out _).mono ?_; rintro e w3 ⟨rfl, rfl⟩) | go_quiet (fail))
            go_ret
            exact ⟨by rw [HH.out, HE.out]; simp [Array.getD], bl2 (HB.out _) b1⟩
          · have HN3 : Hid (noU s 3) := by
              have h3 : ¬ Na.wu s 1073741824 < 1024 := by rw [HWU.out]; omega
              have h2 := HN2.out; show noU s 3
              exact ⟨h2.1, h2.2, h3⟩
            clear HV HWU hz hq hm HN2
            go_wp2_with (go_quiet (fail))
            exact ⟨⟨4, _, rfl, rfl, by decide, by decide, HN3⟩, by simp [intOf]⟩
        · rw [if_neg hz] at HWU
          have hz' : 0 < m := by omega
          by_cases hlt : q + 1 < 1024
          · have HE := hidA (HV.out (q + 1) HWU.out hlt)
            have HT1 := hidA (fun w => rText (q + 1) (by omega) (by omega) w)
            have hl1 := dd_len (q + 1).toNat (by omega)
            generalize Lib.decDigits (q + 1).toNat = D1 at *
            clear HV HWU hz hq hm HN2
            go_wp2_with (first | (go_at_call 41; first | (with_reducible refine (HT1.out _).mono ?_; rintro e w1 ⟨rfl, b1⟩) | (with_reducible refine (HT2.out _).mono ?_; rintro e w2 ⟨rfl, b2⟩)) | (go_at_call 42; refine (HU.out _).mono ?_; rintro e w3 ⟨rfl, rfl⟩) | go_quiet (fail))
            go_ret
            exact ⟨by rw [HH.out, HE.out]; simp [Array.getD], bl2 (HB.out _) b1⟩
          · have HN3 : Hid (noU s 3) := by
              have h3 : ¬ Na.wu s 1073741824 < 1024 := by rw [HWU.out]; omega
              have h2 := HN2.out; show noU s 3
              exact ⟨h2.1, h2.2, h3⟩
            clear HV HWU hz hq hm HN2
            go_wp2_with (go_quiet (fail))
            exact ⟨⟨4, _, rfl, rfl, by decide, by decide, HN3⟩, by simp [intOf]⟩
    · have HN2 : Hid (¬ Na.wu s 1024 < 1024 ∧ ¬ Na.wu s 1048576 < 1024 ∧ ¬ Na.wu s 1073741824 < 1024) := HN
      have HU := hidA (fun w => rUnitOf 4 (by decide) (by decide) w)
      have HWU : Hid (Na.wu s 1099511627776 = if s % 1099511627776 = 0 then s / 1099511627776 else s / 1099511627776 + 1) := rfl
      clear HN
      obtain ⟨q, hq⟩ : ∃ q, s / 1099511627776 = q := ⟨_, rfl⟩
      obtain ⟨m, hm⟩ : ∃ m, s % 1099511627776 = m := ⟨_, rfl⟩
      have hqd : s.tdiv 1099511627776 = q := (Int.tdiv_eq_ediv_of_nonneg h0).trans hq
      have hqm : s.tmod 1099511627776 = m := (Int.tmod_eq_emod_of_nonneg h0).trans hm
      have hq0 : 0 ≤ q := by omega
      have hq1 : q < 16777216 := by omega
      have hm0 : 0 ≤ m := by omega
      have hm1 : m < 1099511627776 := by omega
      rw [hq, hm] at HWU
      by_cases h10 : q < 10
      · have HI : Hid (Na.uI s = 4) := by
          have hq : Na.wu s 1099511627776 < 1024 := by rw [HWU.out]; split <;> omega
          have h2 := HN2.out; show _ = _
          unfold Na.uI
          simp [h2, hq]
        obtain ⟨t, ht⟩ : ∃ t, (10 * m + 1099511627776 - 1) / 1099511627776 = t := ⟨_, rfl⟩
        obtain ⟨ht0, ht1, a1, a2, a3⟩ := Na.short_a (by omega) HI.out rfl (by decide) hq hm ht hq0 h10
        have htd : (10 * m + 1099511627776 - 1).tdiv 1099511627776 = t := (Int.tdiv_eq_ediv_of_nonneg (by omega)).trans ht
        clear HI HWU hq hm ht HN2
        by_cases ht10 : t = 10
        · have ht10' : (t == 10) = true := by simpa using ht10
          by_cases hq9 : q + 1 < 10
          · have HE := hidA (a1 ht10 hq9)
            clear a1 a2 a3
            have HT1 := hidA (fun w => rText (q + 1) (by omega) (by omega) w)
            have HT2 := hidA (fun w => rText 0 (by decide) (by decide) w)
            have hl1 := dd_len (q + 1).toNat (by omega)
            have e0 : (0 : Int).toNat = 0 := rfl
            rw [e0] at HT2
            have hl2 := dd_len 0 (by decide)
            generalize Lib.decDigits (q + 1).toNat = D1 at *
            generalize Lib.decDigits 0 = D2 at *
            clear ht10
            go_wp2_with (first | (go_at_call 41; first | (with_reducible refine (HT1.out _).mono ?_; rintro e w1 ⟨rfl, b1⟩) | (with_reducible refine (HT2.out _).mono ?_; rintro e w2 ⟨rfl, b2⟩)) | (go_at_call 42; refine (HU.out _).mono ?_; rintro e w3 ⟨rfl, rfl⟩) | go_quiet (fail))
            go_ret
            exact ⟨by rw [HH.out, HE.out]; simp [Array.getD], bl2 (bl2 (HB.out _) b1) b2⟩
          · have HE := hidA (a2 ht10 hq9)
            clear a1 a2 a3
            have HT1 := hidA (fun w => rText (q + 1) (by omega) (by omega) w)
            have hl1 := dd_len (q + 1).toNat (by omega)
            generalize Lib.decDigits (q + 1).toNat = D1 at *
            clear ht10
            go_wp2_with (first | (go_at_call 41; first | (with_reducible refine (HT1.out _).mono ?_; rintro e w1 ⟨rfl, b1⟩) | (with_reducible refine (HT2.out _).mono ?_; rintro e w2 ⟨rfl, b2⟩)) | (go_at_call 42; refine (HU.out _).mono ?_; rintro e w3 ⟨rfl, rfl⟩) | go_quiet (fail))
            go_ret
            exact ⟨by rw [HH.out, HE.out]; simp [Array.getD], bl2 (HB.out _) b1⟩
        · have ht10' : (t == 10) = false := by simpa using ht10
          have HE := hidA (a3 ht10)
          clear a1 a2 a3
          have HT1 := hidA (fun w => rText q (by omega) (by omega) w)
          have HT2 := hidA (fun w => rText t (by omega) (by omega) w)
          have hl1 := dd_len q.toNat (by omega)
          have hl2 := dd_len t.toNat (by omega)
          generalize Lib.decDigits q.toNat = D1 at *
          generalize Lib.decDigits t.toNat = D2 at *
          clear ht10
          go_wp2_with (first | (go_at_call 41; first | (with_reducible refine (HT1.out _).mono ?_; rintro e w1 ⟨rfl, b1⟩) | (with_reducible refine (HT2.out _).mono ?_; rintro e w2 ⟨rfl, b2⟩)) | (go_at_call 42; refine (HU.out _).mono ?_; rintro e w3 ⟨rfl, rfl⟩) | go_quiet (fail))
          go_ret
          exact ⟨by rw [HH.out, HE.out]; simp [Array.getD], bl2 (bl2 (HB.out _) b1) b2⟩
      · have HV : Hid (∀ v, Na.wu s 1099511627776 = v → v < 1024 → Na.shortP s = Lib.decDigits v.toNat ++ [Na.uN 4]) := by
          intro v hv hlt
          rw [← hv]
          refine Na.short_b (i := 4) (by omega) ?_ rfl (by decide) hq h10
          have hq : Na.wu s 1099511627776 < 1024 := by rw [hv]; exact hlt
          have h2 := HN2.out; unfold Na.uI
          simp [h2, hq]
        by_cases hz : m = 0
        · rw [if_pos hz] at HWU
          have hz' : ¬ 0 < m := by omega
          by_cases hlt : q < 1024
          · have HE := hidA (HV.out q HWU.out hlt)
            have HT1 := hidA (fun w => rText q (by omega) (by omega) w)
            have hl1 := dd_len q.toNat (by omega)
            generalize Lib.decDigits q.toNat = D1 at *
            clear HV HWU hz hq hm HN2
            go_wp2_with (first | (go_at_call 41; first | (with_reducible refine (HT1.out _).mono ?_; rintro e w1 ⟨rfl, b1⟩) | (with_reducible refine (HT2.out _).mono ?_; rintro e w2 ⟨rfl, b2⟩)) | (go_at_call 42; refine (HU.out _).mono ?_; rintro e w3 ⟨rfl, rfl⟩) | go_quiet (fail))
            go_ret
            exact ⟨by rw [HH.out, HE.out]; simp [Array.getD], bl2 (HB.out _) b1⟩
          · have HN3 : Hid (noU s 4) := by
              have h3 : ¬ Na.wu s 1099511627776 < 1024 := by rw [HWU.out]; omega
              have h2 := HN2.out; show noU s 4
              exact ⟨h2.1, h2.2.1, h2.2.2, h3⟩
            clear HV HWU hz hq hm HN2
            go_wp2_with (go_quiet (fail))
            exact ⟨⟨5, _, rfl, rfl, by decide, by decide, HN3⟩, by simp [intOf]⟩
        · rw [if_neg hz] at HWU
          have hz' : 0 < m := by omega
          by_cases hlt : q + 1 < 1024
          · have HE := hidA (HV.out (q + 1) HWU.out hlt)
            have HT1 := hidA (fun w => rText (q + 1) (by omega) (by omega) w)
            have hl1 := dd_len (q + 1).toNat (by omega)
            generalize Lib.decDigits (q + 1).toNat = D1 at *
            clear HV HWU hz hq hm HN2
            go_wp2_with (first | (go_at_call 41; first | (with_reducible refine (HT1.out _).mono ?_; rintro e w1 ⟨rfl, b1⟩) | (with_reducible refine (HT2.out _).mono ?_; rintro e w2 ⟨rfl, b2⟩)) | (go_at_call 42; refine (HU.out _).mono ?_; rintro e w3 ⟨rfl, rfl⟩) | go_quiet (fail))
            go_ret
            exact ⟨by rw [HH.out, HE.out]; simp [Array.getD], bl2 (HB.out _) b1⟩
          · have HN3 : Hid (noU s 4) := by
              have h3 : ¬ Na.wu s 1099511627776 < 1024 := by rw [HWU.out]; omega
              have h2 := HN2.out; show noU s 4
              exact ⟨h2.1, h2.2.1, h2.2.2, h3⟩
            clear HV HWU hz hq hm HN2
            go_wp2_with (go_quiet (fail))
            exact ⟨⟨5, _, rfl, rfl, by decide, by decide, HN3⟩, by simp [intOf]⟩
    · have HN2 : Hid (¬ Na.wu s 1024 < 1024 ∧ ¬ Na.wu s 1048576 < 1024 ∧ ¬ Na.wu s 1073741824 < 1024 ∧ ¬ Na.wu s 1099511627776 < 1024) := HN
      have HU := hidA (fun w => rUnitOf 5 (by decide) (by decide) w)
      have HWU : Hid (Na.wu s 1125899906842624 = if s % 1125899906842624 = 0 then s / 1125899906842624 else s / 1125899906842624 + 1) := rfl
      clear HN
      obtain ⟨q, hq⟩ : ∃ q, s / 1125899906842624 = q := ⟨_, rfl⟩
      obtain ⟨m, hm⟩ : ∃ m, s % 1125899906842624 = m := ⟨_, rfl⟩
      have hqd : s.tdiv 1125899906842624 = q := (Int.tdiv_eq_ediv_of_nonneg h0).trans hq
      have hqm : s.tmod 1125899906842624 = m := (Int.tmod_eq_emod_of_nonneg h0).trans hm
      have hq0 : 0 ≤ q := by omega
      have hq1 : q < 16384 := by omega
      have hm0 : 0 ≤ m := by omega
      have hm1 : m < 1125899906842624 := by omega
      rw [hq, hm] at HWU
      by_cases h10 : q < 10
      · have HI : Hid (Na.uI s = 5) := by
          have hq : Na.wu s 1125899906842624 < 1024 := by rw [HWU.out]; split <;> omega
          have h2 := HN2.out; show _ = _
          unfold Na.uI
          simp [h2, hq]
        obtain ⟨t, ht⟩ : ∃ t, (10 * m + 1125899906842624 - 1) / 1125899906842624 = t := ⟨_, rfl⟩
        obtain ⟨ht0, ht1, a1, a2, a3⟩ := Na.short_a (by omega) HI.out rfl (by decide) hq hm ht hq0 h10
        have htd : (10 * m + 1125899906842624 - 1).tdiv 1125899906842624 = t := (Int.tdiv_eq_ediv_of_nonneg (by omega)).trans ht
        clear HI HWU hq hm ht HN2
        by_cases ht10 : t = 10
        · have ht10' : (t == 10) = true := by simpa using ht10
          by_cases hq9 : q + 1 < 10
          · have HE := hidA (a1 ht10 hq9)
            clear a1 a2 a3
            have HT1 := hidA (fun w => rText (q + 1) (by omega) (by omega) w)
            have HT2 := hidA (fun w => rText 0 (by decide) (by decide) w)
            have hl1 := dd_len (q + 1).toNat (by omega)
            have e0 : (0 : Int).toNat = 0 := rfl
            rw [e0] at HT2
            have hl2 := dd_len 0 (by decide)
            generalize Lib.decDigits (q + 1).toNat = D1 at *
            generalize Lib.decDigits 0 = D2 at *
            clear ht10
            go_wp2_with (first | (go_at_call 41; first | (with_reducible refine (HT1.out _).mono ?_; rintro e w1 ⟨rfl, b1⟩) | (with_reducible refine (HT2.out _).mono ?_; rintro e w2 ⟨rfl, b2⟩)) | (go_at_call 42; refine (HU.out _).mono ?_; rintro e w3 ⟨rfl, rfl⟩) | go_quiet (fail))
            go_ret
            exact ⟨by rw [HH.out, HE.out]; simp [Array.getD], bl2 (bl2 (HB.out _) b1) b2⟩
          · have HE := hidA (a2 ht10 hq9)
            clear a1 a2 a3
            have HT1 := hidA (fun w => rText (q + 1) (by omega) (by omega) w)
            have hl1 := dd_len (q + 1).toNat (by omega)
            generalize Lib.decDigits (q + 1).toNat = D1 at *
            clear ht10
            go_wp2_with (first | (go_at_call 41; first | (with_reducible refine (HT1.out _).mono ?_; rintro e w1 ⟨rfl, b1⟩) | (with_reducible refine (HT2.out _).mono ?_; rintro e w2 ⟨rfl, b2⟩)) | (go_at_call 42; refine (HU.out _).mono ?_; rintro e w3 ⟨rfl, rfl⟩) | go_quiet (fail))
            go_ret
            exact ⟨by rw [HH.out, HE.out]; simp [Array.getD], bl2 (HB.out _) b1⟩
        · have ht10' : (t == 10) = false := by simpa using ht10
          have HE := hidA (a3 ht10)
          clear a1 a2 a3
          have HT1 := hidA (fun w => rText q (by omega) (by omega) w)
          have HT2 := hidA (fun w => rText t (by omega) (by omega) w)
          have hl1 := dd_len q.toNat (by omega)
          have hl2 := dd_len t.toNat (by omega)
          generalize Lib.decDigits q.toNat = D1 at *
          generalize Lib.decDigits t.toNat = D2 at *
          clear ht10
          go_wp2_with (first | (go_at_call 41; first | (with_reducible refine (HT1.out _).mono ?_; rintro e w1 ⟨rfl, b1⟩) | (with_reducible refine (HT2.out _).mono ?_; rintro e w2 ⟨rfl, b2⟩)) | (go_at_call 42; refine (HU.out _).mono ?_; rintro e w3 ⟨rfl, rfl⟩) | go_quiet (fail))
          go_ret
          exact ⟨by rw [HH.out, HE.out]; simp [Array.getD], bl2 (bl2 (HB.out _) b1) b2⟩
      · have HV : Hid (∀ v, Na.wu s 1125899906842624 = v → v < 1024 → Na.shortP s = Lib.decDigits v.toNat ++ [Na.uN 5]) := by
          intro v hv hlt
          rw [← hv]
          refine Na.short_b (i := 5) (by omega) ?_ rfl (by decide) hq h10
          have hq : Na.wu s 1125899906842624 < 1024 := by rw [hv]; exact hlt
          have h2 := HN2.out; unfold Na.uI
          simp [h2, hq]
        by_cases hz : m = 0
        · rw [if_pos hz] at HWU
          have hz' : ¬ 0 < m := by omega
          by_cases hlt : q < 1024
          · have HE := hidA (HV.out q HWU.out hlt)
            have HT1 := hidA (fun w => rText q (by omega) (by omega) w)
            have hl1 := dd_len q.toNat (by omega)
            generalize Lib.decDigits q.toNat = D1 at *
            clear HV HWU hz hq hm HN2
            go_wp2_with (first | (go_at_call 41; first | (with_reducible refine (HT1.out _).mono ?_; rintro e w1 ⟨rfl, b1⟩) | (with_reducible refine (HT2.out _).mono ?_; rintro e w2 ⟨rfl, b2⟩)) | (go_at_call 42; refine (HU.out _).mono ?_; rintro e w3 ⟨rfl, rfl⟩) | go_quiet (fail))
            go_ret
            exact ⟨by rw [HH.out, HE.out]; simp [Array.getD], bl2 (HB.out _) b1⟩
          · have HN3 : Hid (noU s 5) := by
              have h3 : ¬ Na.wu s 1125899906842624 < 1024 := by rw [HWU.out]; omega
              have h2 := HN2.out; show noU s 5
              exact ⟨h2.1, h2.2.1, h2.2.2.1, h2.2.2.2, h3⟩
            clear HV HWU hz hq hm HN2
            go_wp2_with (go_quiet (fail))
            exact ⟨⟨6, _, rfl, rfl, by decide, by decide, HN3⟩, by simp [intOf]⟩
        · rw [if_neg hz] at HWU
          have hz' : 0 < m := by omega
          by_cases hlt : q + 1 < 1024
          · have HE := hidA (HV.out (q + 1) HWU.out hlt)
            have HT1 := hidA (fun w => rText (q + 1) (by omega) (by omega) w)
            have hl1 := dd_len (q + 1).toNat (by omega)
            generalize Lib.decDigits (q + 1).toNat = D1 at *
            clear HV HWU hz hq hm HN2
            go_wp2_with (first | (go_at_call 41; first | (with_reducible refine (HT1.out _).mono ?_; rintro e w1 ⟨rfl, b1⟩) | (with_reducible refine (HT2.out _).mono ?_; rintro e w2 ⟨rfl, b2⟩)) | (go_at_call 42; refine (HU.out _).mono ?_; rintro e w3 ⟨rfl, rfl⟩) | go_quiet (fail))
            go_ret
            exact ⟨by rw [HH.out, HE.out]; simp [Array.getD], bl2 (HB.out _) b1⟩
          · have HN3 : Hid (noU s 5) := by
              have h3 : ¬ Na.wu s 1125899906842624 < 1024 := by rw [HWU.out]; omega
              have h2 := HN2.out; show noU s 5
              exact ⟨h2.1, h2.2.1, h2.2.2.1, h2.2.2.2, h3⟩
            clear HV HWU hz hq hm HN2
            go_wp2_with (go_quiet (fail))
            exact ⟨⟨6, _, rfl, rfl, by decide, by decide, HN3⟩, by simp [intOf]⟩
    · have HN2 : Hid (¬ Na.wu s 1024 < 1024 ∧ ¬ Na.wu s 1048576 < 1024 ∧ ¬ Na.wu s 1073741824 < 1024 ∧ ¬ Na.wu s 1099511627776 < 1024 ∧ ¬ Na.wu s 1125899906842624 < 1024) := HN
      have HU := hidA (fun w => rUnitOf 6 (by decide) (by decide) w)
      have HWU : Hid (Na.wu s 1152921504606846976 = if s % 1152921504606846976 = 0 then s / 1152921504606846976 else s / 1152921504606846976 + 1) := rfl
      clear HN
      obtain ⟨q, hq⟩ : ∃ q, s / 1152921504606846976 = q := ⟨_, rfl⟩
      obtain ⟨m, hm⟩ : ∃ m, s % 1152921504606846976 = m := ⟨_, rfl⟩
      have hqd : s.tdiv 1152921504606846976 = q := (Int.tdiv_eq_ediv_of_nonneg h0).trans hq
      have hqm : s.tmod 1152921504606846976 = m := (Int.tmod_eq_emod_of_nonneg h0).trans hm
      have hq0 : 0 ≤ q := by omega
      have hq1 : q < 16 := by omega
      have hm0 : 0 ≤ m := by omega
      have hm1 : m < 1152921504606846976 := by omega
      rw [hq, hm] at HWU
      by_cases h10 : q < 10
      · have HI : Hid (Na.uI s = 6) := by
          have hq : Na.wu s 1152921504606846976 < 1024 := by rw [HWU.out]; split <;> omega
          have h2 := HN2.out; show _ = _
          unfold Na.uI
          simp [h2]
        obtain ⟨t, ht⟩ : ∃ t, (10 * m + 1152921504606846976 - 1) / 1152921504606846976 = t := ⟨_, rfl⟩
        obtain ⟨ht0, ht1, a1, a2, a3⟩ := Na.short_a (by omega) HI.out rfl (by decide) hq hm ht hq0 h10
        have htd : (10 * m + 1152921504606846976 - 1).tdiv 1152921504606846976 = t := (Int.tdiv_eq_ediv_of_nonneg (by omega)).trans ht
        clear HI HWU hq hm ht HN2
        by_cases ht10 : t = 10
        · have ht10' : (t == 10) = true := by simpa using ht10
          by_cases hq9 : q + 1 < 10
          · have HE := hidA (a1 ht10 hq9)
            clear a1 a2 a3
            have HT1 := hidA (fun w => rText (q + 1) (by omega) (by omega) w)
            have HT2 := hidA (fun w => rText 0 (by decide) (by decide) w)
            have hl1 := dd_len (q + 1).toNat (by omega)
            have e0 : (0 : Int).toNat = 0 := rfl
            rw [e0] at HT2
            have hl2 := dd_len 0 (by decide)
            generalize Lib.decDigits (q + 1).toNat = D1 at *
            generalize Lib.decDigits 0 = D2 at *
            clear ht10
            go_wp2_with (first | (go_at_call 41; first | (with_reducible refine (HT1.out _).mono ?_; rintro e w1 ⟨rfl, b1⟩) | (with_reducible refine (HT2.out _).mono ?_; rintro e w2 ⟨rfl, b2⟩)) | (go_at_call 42; refine (HU.out _).mono ?_; rintro e w3 ⟨rfl, rfl⟩) | go_quiet (fail))
            go_ret
            exact ⟨by rw [HH.out, HE.out]; simp [Array.getD], bl2 (bl2 (HB.out _) b1) b2⟩
          · have HE := hidA (a2 ht10 hq9)
            clear a1 a2 a3
            have HT1 := hidA (fun w => rText (q + 1) (by omega) (by omega) w)
            have hl1 := dd_len (q + 1).toNat (by omega)
            generalize Lib.decDigits (q + 1).toNat = D1 at *
            clear ht10
            go_wp2_with (first | (go_at_call 41; first | (with_reducible refine (HT1.out _).mono ?_; rintro e w1 ⟨rfl, b1⟩) | (with_reducible refine (HT2.out _).mono ?_; rintro e w2 ⟨rfl, b2⟩)) | (go_at_call 42; refine (HU.out _).mono ?_; rintro e w3 ⟨rfl, rfl⟩) | go_quiet (fail))
            go_ret
            exact ⟨by rw [HH.out, HE.out]; simp [Array.getD], bl2 (HB.out _) b1⟩
        · have ht10' : (t == 10) = false := by simpa using ht10
          have HE := hidA (a3 ht10)
          clear a1 a2 a3
          have HT1 := hidA (fun w => rText q (by omega) (by omega) w)
          have HT2 := hidA (fun w => rText t (by omega) (by omega) w)
          have hl1 := dd_len q.toNat (by omega)
          have hl2 := dd_len t.toNat (by omega)
          generalize Lib.decDigits q.toNat = D1 at *
          generalize Lib.decDigits t.toNat = D2 at *
          clear ht10
          go_wp2_with (first | (go_at_call 41; first | (with_reducible refine (HT1.out _).mono ?_; rintro e w1 ⟨rfl, b1⟩) | (with_reducible refine (HT2.out _).mono ?_; rintro e w2 ⟨rfl, b2⟩)) | (go_at_call 42; refine (HU.out _).mono ?_; rintro e w3 ⟨rfl, rfl⟩) | go_quiet (fail))
          go_ret
          exact ⟨by rw [HH.out, HE.out]; simp [Array.getD], bl2 (bl2 (HB.out _) b1) b2⟩
      · have HV : Hid (∀ v, Na.wu s 1152921504606846976 = v → v < 1024 → Na.shortP s = Lib.decDigits v.toNat ++ [Na.uN 6]) := by
          intro v hv hlt
          rw [← hv]
          refine Na.short_b (i := 6) (by omega) ?_ rfl (by decide) hq h10
          have hq : Na.wu s 1152921504606846976 < 1024 := by rw [hv]; exact hlt
          have h2 := HN2.out; unfold Na.uI
          simp [h2]
        by_cases hz : m = 0
        · rw [if_pos hz] at HWU
          have hz' : ¬ 0 < m := by omega
          by_cases hlt : q < 1024
          · have HE := hidA (HV.out q HWU.out hlt)
            have HT1 := hidA (fun w => rText q (by omega) (by omega) w)
            have hl1 := dd_len q.toNat (by omega)
            generalize Lib.decDigits q.toNat = D1 at *
            clear HV HWU hz hq hm HN2
            go_wp2_with (first | (go_at_call 41; first | (with_reducible refine (HT1.out _).mono ?_; rintro e w1 ⟨rfl, b1⟩) | (with_reducible refine (HT2.out _).mono ?_; rintro e w2 ⟨rfl, b2⟩)) | (go_at_call 42; refine (HU.out _).mono ?_; rintro e w3 ⟨rfl, rfl⟩) | go_quiet (fail))
            go_ret
            exact ⟨by rw [HH.out, HE.out]; simp [Array.getD], bl2 (HB.out _) b1⟩
          · omega
        · rw [if_neg hz] at HWU
          have hz' : 0 < m := by omega
          by_cases hlt : q + 1 < 1024
          · have HE := hidA (HV.out (q + 1) HWU.out hlt)
            have HT1 := hidA (fun w => rText (q + 1) (by omega) (by omega) w)
            have hl1 := dd_len (q + 1).toNat (by omega)
            generalize Lib.decDigits (q + 1).toNat = D1 at *
            clear HV HWU hz hq hm HN2
            go_wp2_with (first | (go_at_call 41; first | (with_reducible refine (HT1.out _).mono ?_; rintro e w1 ⟨rfl, b1⟩) | (with_reducible refine (HT2.out _).mono ?_; rintro e w2 ⟨rfl, b2⟩)) | (go_at_call 42; refine (HU.out _).mono ?_; rintro e w3 ⟨rfl, rfl⟩) | go_quiet (fail))
            go_ret
            exact ⟨by rw [HH.out, HE.out]; simp [Array.getD], bl2 (HB.out _) b1⟩
          · omega
set_option maxRecDepth 100000 in
set_option maxHeartbeats 16000000 in
theorem rHumanP (n : Int) (g0 : -9223372036854775808 ≤ n) (g1 : n ≤ 9223372036854775807) (hn : ¬ n < 0) (w : World) : Calls Tryd.prog 18 #[.int .i64 n] w fun e w' => e = .returned (.string ⟨(Na.humanP n).toArray⟩) ∧ Below w.heap.size w w' := by
  obtain ⟨s, hsd⟩ : ∃ s, n = s := ⟨_, rfl⟩
  have h0 : 0 ≤ s := by omega
  have h1 : s < 18446744073709551616 := by omega
  have hsn : ¬ n < 0 := hn
  have hw1 : IntKind.u64.wrap n = s := by rw [IntKind.wrap_u64]; omega
  have HH : Hid (Na.humanP n = Na.shortP s) := by show _ = _; unfold Na.humanP; rw [if_neg hn, hsd]
  have HB := hidA (fun m => bl_drew w m)
  clear hn
  by_cases hs : s < 1024
  · have HE : Hid (Na.shortP s = Lib.decDigits s.toNat) := if_pos hs
    have HT1 := hidA (fun w => rText s h0 h1 w)
    have hl1 := dd_len s.toNat (by omega)
    generalize Lib.decDigits s.toNat = D1 at *
    clear hsd
    go_enter Tryd.func18, Tryd.ntmps18
    go_wp2_with (go_at_call 41; refine (HT1.out _).mono ?_; rintro e w1 ⟨rfl, b1⟩)
    go_ret
    exact ⟨by rw [HH.out, HE.out]; simp [Array.getD], b1⟩
  clear hsd
  go_enter Tryd.func18, Tryd.ntmps18
  go_wp2_with fail
  go_loopw [5] (fun a w' => ∃ (i k : Nat), a = .int .i64 i ∧ w' = w.drewN k ∧ 1 ≤ i ∧ i ≤ 6 ∧ Hid (noU s (i - 1))) (fun a _ => 7 - (intOf a).toNat)
  case atStart => exact ⟨1, 0, rfl, rfl, by decide, by decide, trivial⟩
  case round =>
    obtain ⟨i, k, rfl, rfl, hi1, hi6, HN⟩ := hrel
    obtain rfl | rfl | rfl | rfl | rfl | rfl : i = 1 ∨ i = 2 ∨ i = 3 ∨ i = 4 ∨ i = 5 ∨ i = 6 := by omega
    · have HN2 : Hid (True) := HN
      have HU := hidA (fun w => rUnitOf 1 (by decide) (by decide) w)
      have HWU : Hid (Na.wu s 1024 = if s % 1024 = 0 then s / 1024 else s / 1024 + 1) := rfl
      clear HN
      obtain ⟨q, hq⟩ : ∃ q, s / 1024 = q := ⟨_, rfl⟩
      obtain ⟨m, hm⟩ : ∃ m, s % 1024 = m := ⟨_, rfl⟩
      have hqd : s.tdiv 1024 = q := (Int.tdiv_eq_ediv_of_nonneg h0).trans hq
      have hqm : s.tmod 1024 = m := (Int.tmod_eq_emod_of_nonneg h0).trans hm
      have hq0 : 0 ≤ q := by omega
      have hq1 : q < 18014398509481984 := by omega
      have hm0 : 0 ≤ m := by omega
      have hm1 : m < 1024 := by omega
      rw [hq, hm] at HWU
      by_cases h10 : q < 10
      · have HI : Hid (Na.uI s = 1) := by
          have hq : Na.wu s 1024 < 1024 := by rw [HWU.out]; split <;> omega
          show _ = _
          unfold Na.uI
          simp [hq]
        obtain ⟨t, ht⟩ : ∃ t, (10 * m + 1024 - 1) / 1024 = t := ⟨_, rfl⟩
        obtain ⟨ht0, ht1, a1, a2, a3⟩ := Na.short_a (by omega) HI.out rfl (by decide) hq hm ht hq0 h10
        have htd : (10 * m + 1024 - 1).tdiv 1024 = t := (Int.tdiv_eq_ediv_of_nonneg (by omega)).trans ht
        clear HI HWU hq hm ht HN2
        by_cases ht10 : t = 10
        · have ht10' : (t == 10) = true := by simpa using ht10
          by_cases hq9 : q + 1 < 10
          · have HE := hidA (a1 ht10 hq9)
            clear a1 a2 a3
            have HT1 := hidA (fun w => rText (q + 1) (by omega) (by omega) w)
            have HT2 := hidA (fun w => rText 0 (by decide) (by decide) w)
            have hl1 := dd_len (q + 1).toNat (by omega)
            have e0 : (0 : Int).toNat = 0 := rfl
            rw [e0] at HT2
            have hl2 := dd_len 0 (by decide)
            generalize Lib.decDigits (q + 1).toNat = D1 at *
            generalize Lib.decDigits 0 = D2 at *
            clear ht10
            go_wp2_with (first | (go_at_call 41; first | (with_reducible refine (HT1.out _).mono ?_; rintro e w1 ⟨rfl, b1⟩) | (with_reducible refine (HT2.out _).mono ?_; rintro e w2 ⟨rfl, b2⟩)) | (go_at_call 42; refine (HU.out _).mono ?_; rintro e w3 ⟨rfl, rfl⟩) | go_quiet (fail))
            go_ret
            exact ⟨by rw [HH.out, HE.out]; simp [Array.getD], bl2 (bl2 (HB.out _) b1) b2⟩
          · have HE := hidA (a2 ht10 hq9)
            clear a1 a2 a3
            have HT1 := hidA (fun w => rText (q + 1) (by omega) (by omega) w)
            have hl1 := dd_len (q + 1).toNat (by omega)
            generalize Lib.decDigits (q + 1).toNat = D1 at *
            clear ht10
            go_wp2_with (first | (go_at_call 41; first | (with_reducible refine (HT1.out _).mono ?_; rintro e w1 ⟨rfl, b1⟩) | (with_reducible refine (HT2.out _).mono ?_; rintro e w2 ⟨rfl, b2⟩)) | (go_at_call 42; refine (HU.out _).mono ?_; rintro e w3 ⟨rfl, rfl⟩) | go_quiet (fail))
            go_ret
            exact ⟨by rw [HH.out, HE.out]; simp [Array.getD], bl2 (HB.out _) b1⟩
        · have ht10' : (t == 10) = false := by simpa using ht10
          have HE := hidA (a3 ht10)
          clear a1 a2 a3
          have HT1 := hidA (fun w => rText q (by omega) (by omega) w)
          have HT2 := hidA (fun w => rText t (by omega) (by omega) w)
          have hl1 := dd_len q.toNat (by omega)
          have hl2 := dd_len t.toNat (by omega)
          generalize Lib.decDigits q.toNat = D1 at *
          generalize Lib.decDigits t.toNat = D2 at *
          clear ht10
          go_wp2_with (first | (go_at_call 41; first | (with_reducible refine (HT1.out _).mono ?_; rintro e w1 ⟨rfl, b1⟩) | (with_reducible refine (HT2.out _).mono ?_; rintro e w2 ⟨rfl, b2⟩)) | (go_at_call 42; refine (HU.out _).mono ?_; rintro e w3 ⟨rfl, rfl⟩) | go_quiet (fail))
          go_ret
          exact ⟨by rw [HH.out, HE.out]; simp [Array.getD], bl2 (bl2 (HB.out _) b1) b2⟩
      · have HV : Hid (∀ v, Na.wu s 1024 = v → v < 1024 → Na.shortP s = Lib.decDigits v.toNat ++ [Na.uN 1]) := by
          intro v hv hlt
          rw [← hv]
          refine Na.short_b (i := 1) (by omega) ?_ rfl (by decide) hq h10
          have hq : Na.wu s 1024 < 1024 := by rw [hv]; exact hlt
          unfold Na.uI
          simp [hq]
        by_cases hz : m = 0
        · rw [if_pos hz] at HWU
          have hz' : ¬ 0 < m := by omega
          by_cases hlt : q < 1024
          · have HE := hidA (HV.out q HWU.out hlt)
            have HT1 := hidA (fun w => rText q (by omega) (by omega) w)
            have hl1 := dd_len q.toNat (by omega)
            generalize Lib.decDigits q.toNat = D1 at *
            clear HV HWU hz hq hm HN2
            go_wp2_with (first | (go_at_call 41; first | (with_reducible refine (HT1.out _).mono ?_; rintro e w1 ⟨rfl, b1⟩) | (with_reducible refine (HT2.out _).mono ?_; rintro e w2 ⟨rfl, b2⟩)) | (go_at_call 42; refine (HU.out _).mono ?_; rintro e w3 ⟨rfl, rfl⟩) | go_quiet (fail))
            go_ret
            exact ⟨by rw [HH.out, HE.out]; simp [Array.getD], bl2 (HB.out _) b1⟩
          · have HN3 : Hid (noU s 1) := by
              have h3 : ¬ Na.wu s 1024 < 1024 := by rw [HWU.out]; omega
              show noU s 1
              exact h3
            clear HV HWU hz hq hm HN2
            go_wp2_with (go_quiet (fail))
            exact ⟨⟨2, _, rfl, rfl, by decide, by decide, HN3⟩, by simp [intOf]⟩
        · rw [if_neg hz] at HWU
          have hz' : 0 < m := by omega
          by_cases hlt : q + 1 < 1024
          · have HE := hidA (HV.out (q + 1) HWU.out hlt)
            have HT1 := hidA (fun w => rText (q + 1) (by omega) (by omega) w)
            have hl1 := dd_len (q + 1).toNat (by omega)
            generalize Lib.decDigits (q + 1).toNat = D1 at *
            clear HV HWU hz hq hm HN2
            go_wp2_with (first | (go_at_call 41; first | (with_reducible refine (HT1.out _).mono ?_; rintro e w1 ⟨rfl, b1⟩) | (with_reducible refine (HT2.out _).mono ?_; rintro e w2 ⟨rfl, b2⟩)) | (go_at_call 42; refine (HU.out _).mono ?_; rintro e w3 ⟨rfl, rfl⟩) | go_quiet (fail))
            go_ret
            exact ⟨by rw [HH.out, HE.out]; simp [Array.getD], bl2 (HB.out _) b1⟩
          · have HN3 : Hid (noU s 1) := by
              have h3 : ¬ Na.wu s 1024 < 1024 := by rw [HWU.out]; omega
              show noU s 1
              exact h3
            clear HV HWU hz hq hm HN2
            go_wp2_with (go_quiet (fail))
            exact ⟨⟨2, _, rfl, rfl, by decide, by decide, HN3⟩, by simp [intOf]⟩
    · have HN2 : Hid (¬ Na.wu s 1024 < 1024) := HN
      have HU := hidA (fun w => rUnitOf 2 (by decide) (by decide) w)
      have HWU : Hid (Na.wu s 1048576 = if s % 1048576 = 0 then s / 1048576 else s / 1048576 + 1) := rfl
      clear HN
      obtain ⟨q, hq⟩ : ∃ q, s / 1048576 = q := ⟨_, rfl⟩
      obtain ⟨m, hm⟩ : ∃ m, s % 1048576 = m := ⟨_, rfl⟩
      have hqd : s.tdiv 1048576 = q := (Int.tdiv_eq_ediv_of_nonneg h0).trans hq
      have hqm : s.tmod 1048576 = m := (Int.tmod_eq_emod_of_nonneg h0).trans hm
      have hq0 : 0 ≤ q := by omega
      have hq1 : q < 17592186044416 := by omega
      have hm0 : 0 ≤ m := by omega
      have hm1 : m < 1048576 := by omega
      rw [hq, hm] at HWU
      by_cases h10 : q < 10
      · have HI : Hid (Na.uI s = 2) := by
          have hq : Na.wu s 1048576 < 1024 := by rw [HWU.out]; split <;> omega
          have h2 := HN2.out; show _ = _
          unfold Na.uI
          simp [h2, hq]
        obtain ⟨t, ht⟩ : ∃ t, (10 * m + 1048576 - 1) / 1048576 = t := ⟨_, rfl⟩
        obtain ⟨ht0, ht1, a1, a2, a3⟩ := Na.short_a (by omega) HI.out rfl (by decide) hq hm ht hq0 h10
        have htd : (10 * m + 1048576 - 1).tdiv 1048576 = t := (Int.tdiv_eq_ediv_of_nonneg (by omega)).trans ht
        clear HI HWU hq hm ht HN2
        by_cases ht10 : t = 10
        · have ht10' : (t == 10) = true := by simpa using ht10
          by_cases hq9 : q + 1 < 10
          · have HE := hidA (a1 ht10 hq9)
            clear a1 a2 a3
            have HT1 := hidA (fun w => rText (q + 1) (by omega) (by omega) w)
            have HT2 := hidA (fun w => rText 0 (by decide) (by decide) w)
            have hl1 := dd_len (q + 1).toNat (by omega)
            have e0 : (0 : Int).toNat = 0 := rfl
            rw [e0] at HT2
            have hl2 := dd_len 0 (by decide)
            generalize Lib.decDigits (q + 1).toNat = D1 at *
            generalize Lib.decDigits 0 = D2 at *
            clear ht10
            go_wp2_with (first | (go_at_call 41; first | (with_reducible refine (HT1.out _).mono ?_; rintro e w1 ⟨rfl, b1⟩) | (with_reducible refine (HT2.out _).mono ?_; rintro e w2 ⟨rfl, b2⟩)) | (go_at_call 42; refine (HU.out _).mono ?_; rintro e w3 ⟨rfl, rfl⟩) | go_quiet (fail))
            go_ret
            exact ⟨by rw [HH.out, HE.out]; simp [Array.getD], bl2 (bl2 (HB.out _) b1) b2⟩
          · have HE := hidA (a2 ht10 hq9)
            clear a1 a2 a3
            have HT1 := hidA (fun w => rText (q + 1) (by omega) (by omega) w)
            have hl1 := dd_len (q + 1).toNat (by omega)
            generalize Lib.decDigits (q + 1).toNat = D1 at *
            clear ht10
            go_wp2_with (first | (go_at_call 41; first | (with_reducible refine (HT1.out _).mono ?_; rintro e w1 ⟨rfl, b1⟩) | (with_reducible refine (HT2.out _).mono ?_; rintro e w2 ⟨rfl, b2⟩)) | (go_at_call 42; refine (HU.out _).mono ?_; rintro e w3 ⟨rfl, rfl⟩) | go_quiet (fail))
            go_ret
            exact ⟨by rw [HH.out, HE.out]; simp [Array.getD], bl2 (HB.out _) b1⟩
        · have ht10' : (t == 10) = false := by simpa using ht10
          have HE := hidA (a3 ht10)
          clear a1 a2 a3
          have HT1 := hidA (fun w => rText q (by omega) (by omega) w)
          have HT2 := hidA (fun w => rText t (by omega) (by omega) w)
          have hl1 := dd_len q.toNat (by omega)
          have hl2 := dd_len t.toNat (by omega)
          generalize Lib.decDigits q.toNat = D1 at *
          generalize Lib.decDigits t.toNat = D2 at *
          clear ht10
          go_wp2_with (first | (go_at_call 41; first | (with_reducible refine (HT1.out _).mono ?_; rintro e w1 ⟨rfl, b1⟩) | (with_reducible refine (HT2.out _).mono ?_; rintro e w2 ⟨rfl, b2⟩)) | (go_at_call 42; refine (HU.out _).mono ?_; rintro e w3 ⟨rfl, rfl⟩) | go_quiet (fail))
          go_ret
          exact ⟨by rw [HH.out, HE.out]; simp [Array.getD], bl2 (bl2 (HB.out _) b1) b2⟩
      · have HV : Hid (∀ v, Na.wu s 1048576 = v → v < 1024 → Na.shortP s = Lib.decDigits v.toNat ++ [Na.uN 2]) := by
          intro v hv hlt
          rw [← hv]
          refine Na.short_b (i := 2) (by omega) ?_ rfl (by decide) hq h10
          have hq : Na.wu s 1048576 < 1024 := by rw [hv]; exact hlt
          have h2 := HN2.out; unfold Na.uI
          simp [h2, hq]
        by_cases hz : m = 0
        · rw [if_pos hz] at HWU
          have hz' : ¬ 0 < m := by omega
          by_cases hlt : q < 1024
          · have HE := hidA (HV.out q HWU.out hlt)
            have HT1 := hidA (fun w => rText q (by omega) (by omega) w)
            have hl1 := dd_len q.toNat (by omega)
            generalize Lib.decDigits q.toNat = D1 at *
            clear HV HWU hz hq hm HN2
            go_wp2_with (first | (go_at_call 41; first | (with_reducible refine (HT1.out _).mono ?_; rintro e w1 ⟨rfl, b1⟩) | (with_reducible refine (HT2.out _).mono ?_; rintro e w2 ⟨rfl, b2⟩)) | (go_at_call 42; refine (HU.out _).mono ?_; rintro e w3 ⟨rfl, rfl⟩) | go_quiet (fail))
            go_ret
            exact ⟨by rw [HH.out, HE.out]; simp [Array.getD], bl2 (HB.out _) b1⟩
          · have HN3 : Hid (noU s 2) := by
              have h3 : ¬ Na.wu s 1048576 < 1024 := by rw [HWU.out]; omega
              have h2 := HN2.out; show noU s 2
              exact ⟨h2, h3⟩
            clear HV HWU hz hq hm HN2
            go_wp2_with (go_quiet (fail))
            exact ⟨⟨3, _, rfl, rfl, by decide, by decide, HN3⟩, by simp [intOf]⟩
        · rw [if_neg hz] at HWU
          have hz' : 0 < m := by omega
          by_cases hlt : q + 1 < 1024
          · have HE := hidA (HV.out (q + 1) HWU.out hlt)
            have HT1 := hidA (fun w => rText (q + 1) (by omega) (by omega) w)
            have hl1 := dd_len (q + 1).toNat (by omega)
            generalize Lib.decDigits (q + 1).toNat = D1 at *
            clear HV HWU hz hq hm HN2
            go_wp2_with (first | (go_at_call 41; first | (with_reducible refine (HT1.out _).mono ?_; rintro e w1 ⟨rfl, b1⟩) | (with_reducible refine (HT2.out _).mono ?_; rintro e w2 ⟨rfl, b2⟩)) | (go_at_call 42; refine (HU.out _).mono ?_; rintro e w3 ⟨rfl, rfl⟩) | go_quiet (fail))
            go_ret
            exact ⟨by rw [HH.out, HE.out]; simp [Array.getD], bl2 (HB.out _) b1⟩
          · have HN3 : Hid (noU s 2) := by
              have h3 : ¬ Na.wu s 1048576 < 1024 := by rw [HWU.out]; omega
              have h2 := HN2.out; show noU s 2
              exact ⟨h2, h3⟩
            clear HV HWU hz hq hm HN2
            go_wp2_with (go_quiet (fail))
            exact ⟨⟨3, _, rfl, rfl, by decide, by decide, HN3⟩, by simp [intOf]⟩
    · have HN2 : Hid (¬ Na.wu s 1024 < 1024 ∧ ¬ Na.wu s 1048576 < 1024) := HN
      have HU := hidA (fun w => rUnitOf 3 (by decide) (by decide) w)
      have HWU : Hid (Na.wu s 1073741824 = if s % 1073741824 = 0 then s / 1073741824 else s / 1073741824 + 1) := rfl
      clear HN
      obtain ⟨q, hq⟩ : ∃ q, s / 1073741824 = q := ⟨_, rfl⟩
      obtain ⟨m, hm⟩ : ∃ m, s % 1073741824 = m := ⟨_, rfl⟩
      have hqd : s.tdiv 1073741824 = q := (Int.tdiv_eq_ediv_of_nonneg h0).trans hq
      have hqm : s.tmod 1073741824 = m := (Int.tmod_eq_emod_of_nonneg h0).trans hm
      have hq0 : 0 ≤ q := by omega
      have hq1 : q < 17179869184 := by omega
      have hm0 : 0 ≤ m := by omega
      have hm1 : m < 1073741824 := by omega
      rw [hq, hm] at HWU
      by_cases h10 : q < 10
      · have HI : Hid (Na.uI s = 3) := by
          have hq : Na.wu s 1073741824 < 1024 := by rw [HWU.out]; split <;> omega
          have h2 := HN2.out; show _ = _
          unfold Na.uI
          simp [h2, hq]
        obtain ⟨t, ht⟩ : ∃ t, (10 * m + 1073741824 - 1) / 1073741824 = t := ⟨_, rfl⟩
        obtain ⟨ht0, ht1, a1, a2, a3⟩ := Na.short_a (by omega) HI.out rfl (by decide) hq hm ht hq0 h10
        have htd : (10 * m + 1073741824 - 1).tdiv 1073741824 = t := (Int.tdiv_eq_ediv_of_nonneg (by omega)).trans ht
        clear HI HWU hq hm ht HN2
        by_cases ht10 : t = 10
        · have ht10' : (t == 10) = true := by simpa using ht10
          by_cases hq9 : q + 1 < 10
          · have HE := hidA (a1 ht10 hq9)
            clear a1 a2 a3
            have HT1 := hidA (fun w => rText (q + 1) (by omega) (by omega) w)
            have HT2 := hidA (fun w => rText 0 (by decide) (by decide) w)
            have hl1 := dd_len (q + 1).toNat (by omega)
            have e0 : (0 : Int).toNat = 0 := rfl
            rw [e0] at HT2
            have hl2 := dd_len 0 (by decide)
            generalize Lib.decDigits (q + 1).toNat = D1 at *
            generalize Lib.decDigits 0 = D2 at *
            clear ht10
            go_wp2_with (first | (go_at_call 41; first | (with_reducible refine (HT1.out _).mono ?_; rintro e w1 ⟨rfl, b1⟩) | (with_reducible refine (HT2.out _).mono ?_; rintro e w2 ⟨rfl, b2⟩)) | (go_at_call 42; refine (HU.out _).mono ?_; rintro e w3 ⟨rfl, rfl⟩) | go_quiet (fail))
            go_ret
            exact ⟨by rw [HH.out, HE.out]; simp [Array.getD], bl2 (bl2 (HB.out _) b1) b2⟩
          · have HE := hidA (a2 ht10 hq9)
            clear a1 a2 a3
            have HT1 := hidA (fun w => rText (q + 1) (by omega) (by omega) w)
            have hl1 := dd_len (q + 1).toNat (by omega)
            generalize Lib.decDigits (q + 1).toNat = D1 at *
            clear ht10
            go_wp2_with (first | (go_at_call 41; first | (with_reducible refine (HT1.out _).mono ?_; rintro e w1 ⟨rfl, b1⟩) | (with_reducible refine (HT2.out _).mono ?_; rintro e w2 ⟨rfl, b2⟩)) | (go_at_call 42; refine (HU.out _).mono ?_; rintro e w3 ⟨rfl, rfl⟩) | go_quiet (fail))
            go_ret
            exact ⟨by rw [HH.out, HE.out]; simp [Array.getD], bl2 (HB.out _) b1⟩
        · have ht10' : (t == 10) = false := by simpa using ht10
          have HE := hidA (a3 ht10)
          clear a1 a2 a3
          have HT1 := hidA (fun w => rText q (by omega) (by omega) w)
          have HT2 := hidA (fun w => rText t (by omega) (by omega) w)
          have hl1 := dd_len q.toNat (by omega)
          have hl2 := dd_len t.toNat (by omega)
          generalize Lib.decDigits q.toNat = D1 at *
          generalize Lib.decDigits t.toNat = D2 at *
          clear ht10
          go_wp2_with (first | (go_at_call 41; first | (with_reducible refine (HT1.out _).mono ?_; rintro e w1 ⟨rfl, b1⟩) | (with_reducible refine (HT2.out _).mono ?_; rintro e w2 ⟨rfl, b2⟩)) | (go_at_call 42; refine (HU.out _).mono ?_; rintro e w3 ⟨rfl, rfl⟩) | go_quiet (fail))
          go_ret
          exact ⟨by rw [HH.out, HE.out]; simp [Array.getD], bl2 (bl2 (HB.out _) b1) b2⟩
      · have HV : Hid (∀ v, Na.wu s 1073741824 = v → v < 1024 → Na.shortP s = Lib.decDigits v.toNat ++ [Na.uN 3]) := by
          intro v hv hlt
          rw [← hv]
          refine Na.short_b (i := 3) (by omega) ?_ rfl (by decide) hq h10
          have hq : Na.wu s 1073741824 < 1024 := by rw [hv]; exact hlt
          have h2 := HN2.out; unfold Na.uI
          simp [h2, hq]
        by_cases hz : m = 0
        · rw [if_pos hz] at HWU
          have hz' : ¬ 0 < m := by omega
          by_cases hlt : q < 1024
          · have HE := hidA (HV.out q HWU.out hlt)
            have HT1 := hidA (fun w => rText q (by omega) (by omega) w)
            have hl1 := dd_len q.toNat (by omega)
            generalize Lib.decDigits q.toNat = D1 at *
            clear HV HWU hz hq hm HN2
            go_wp2_with (first | (go_at_call 41; first | (with_reducible refine (HT1.out _).mono ?_; rintro e w1 ⟨rfl, b1⟩) | (with_reducible refine (HT2.out _).mono ?_; rintro e w2 ⟨rfl, b2⟩)) | (go_at_call 42; refine (HU.out _).mono ?_; rintro e w3 ⟨rfl, rfl⟩) | go_quiet (fail))
            go_ret
            exact ⟨by rw [HH.out, HE.out]; simp [Array.getD], bl2 (HB.out _) b1⟩
          · have HN3 : Hid (noU s 3) := by
              have h3 : ¬ Na.wu s 1073741824 < 1024 := by rw [HWU.out]; omega
              have h2 := HN2.out; show noU s 3
              exact ⟨h2.1, h2.2, h3⟩
            clear HV HWU hz hq hm HN2
            go_wp2_with (go_quiet (fail))
            exact ⟨⟨4, _, rfl, rfl, by decide, by decide, HN3⟩, by simp [intOf]⟩
        · rw [if_neg hz] at HWU
          have hz' : 0 < m := by omega
          by_cases hlt : q + 1 < 1024
          · have HE := hidA (HV.out (q + 1) HWU.out hlt)
            have HT1 := hidA (fun w => rText (q + 1) (by omega) (by omega) w)
            have hl1 := dd_len (q + 1).toNat (by omega)
            generalize Lib.decDigits (q + 1).toNat = D1 at *
            clear HV HWU hz hq hm HN2
            go_wp2_with (first | (go_at_call 41; first | (with_reducible refine (HT1.out _).mono ?_; rintro e w1 ⟨rfl, b1⟩) | (with_reducible refine (HT2.out _).mono ?_; rintro e w2 ⟨rfl, b2⟩)) | (go_at_call 42; refine (HU.out _).mono ?_; rintro e w3 ⟨rfl, rfl⟩) | go_quiet (fail))
            go_ret
            exact ⟨by rw [HH.out, HE.out]; simp [Array.getD], bl2 (HB.out _) b1⟩
          · have HN3 : Hid (noU s 3) := by
              have h3 : ¬ Na.wu s 1073741824 < 1024 := by rw [HWU.out]; omega
              have h2 := HN2.out; show noU s 3
              exact ⟨h2.1, h2.2, h3⟩
            clear HV HWU hz hq hm HN2
            go_wp2_with (go_quiet (fail))
            exact ⟨⟨4, _, rfl, rfl, by decide, by decide, HN3⟩, by simp [intOf]⟩
    · have HN2 : Hid (¬ Na.wu s 1024 < 1024 ∧ ¬ Na.wu s 1048576 < 1024 ∧ ¬ Na.wu s 1073741824 < 1024) := HN
      have HU := hidA (fun w => rUnitOf 4 (by decide) (by decide) w)
      have HWU : Hid (Na.wu s 1099511627776 = if s % 1099511627776 = 0 then s / 1099511627776 else s / 1099511627776 + 1) := rfl
      clear HN
      obtain ⟨q, hq⟩ : ∃ q, s / 1099511627776 = q := ⟨_, rfl⟩
      obtain ⟨m, hm⟩ : ∃ m, s % 1099511627776 = m := ⟨_, rfl⟩
      have hqd : s.tdiv 1099511627776 = q := (Int.tdiv_eq_ediv_of_nonneg h0).trans hq
      have hqm : s.tmod 1099511627776 = m := (Int.tmod_eq_emod_of_nonneg h0).trans hm
      have hq0 : 0 ≤ q := by omega
      have hq1 : q < 16777216 := by omega
      have hm0 : 0 ≤ m := by omega
      have hm1 : m < 1099511627776 := by omega
      rw [hq, hm] at HWU
      by_cases h10 : q < 10
      · have HI : Hid (Na.uI s = 4) := by
          have hq : Na.wu s 1099511627776 < 1024 := by rw [HWU.out]; split <;> omega
          have h2 := HN2.out; show _ = _
          unfold Na.uI
          simp [h2, hq]
        obtain ⟨t, ht⟩ : ∃ t, (10 * m + 1099511627776 - 1) / 1099511627776 = t := ⟨_, rfl⟩
        obtain ⟨ht0, ht1, a1, a2, a3⟩ := Na.short_a (by omega) HI.out rfl (by decide) hq hm ht hq0 h10
        have htd : (10 * m + 1099511627776 - 1).tdiv 1099511627776 = t := (Int.tdiv_eq_ediv_of_nonneg (by omega)).trans ht
        clear HI HWU hq hm ht HN2
        by_cases ht10 : t = 10
        · have ht10' : (t == 10) = true := by simpa using ht10
          by_cases hq9 : q + 1 < 10
          · have HE := hidA (a1 ht10 hq9)
            clear a1 a2 a3
            have HT1 := hidA (fun w => rText (q + 1) (by omega) (by omega) w)
            have HT2 := hidA (fun w => rText 0 (by decide) (by decide) w)
            have hl1 := dd_len (q + 1).toNat (by omega)
            have e0 : (0 : Int).toNat = 0 := rfl
            rw [e0] at HT2
            have hl2 := dd_len 0 (by decide)
            generalize Lib.decDigits (q + 1).toNat = D1 at *
            generalize Lib.decDigits 0 = D2 at *
            clear ht10
            go_wp2_with (first | (go_at_call 41; first | (with_reducible refine (HT1.out _).mono ?_; rintro e w1 ⟨rfl, b1⟩) | (with_reducible refine (HT2.out _).mono ?_; rintro e w2 ⟨rfl, b2⟩)) | (go_at_call 42; refine (HU.out _).mono ?_; rintro e w3 ⟨rfl, rfl⟩) | go_quiet (fail))
            go_ret
            exact ⟨by rw [HH.out, HE.out]; simp [Array.getD], bl2 (bl2 (HB.out _) b1) b2⟩
          · have HE := hidA (a2 ht10 hq9)
            clear a1 a2 a3
            have HT1 := hidA (fun w => rText (q + 1) (by omega) (by omega) w)
            have hl1 := dd_len (q + 1).toNat (by omega)
            generalize Lib.decDigits (q + 1).toNat = D1 at *
            clear ht10
            go_wp2_with (first | (go_at_call 41; first | (with_reducible refine (HT1.out _).mono ?_; rintro e w1 ⟨rfl, b1⟩) | (with_reducible refine (HT2.out _).mono ?_; rintro e w2 ⟨rfl, b2⟩)) | (go_at_call 42; refine (HU.out _).mono ?_; rintro e w3 ⟨rfl, rfl⟩) | go_quiet (fail))
            go_ret
            exact ⟨by rw [HH.out, HE.out]; simp [Array.getD], bl2 (HB.out _) b1⟩
        · have ht10' : (t == 10) = false := by simpa using ht10
          have HE := hidA (a3 ht10)
          clear a1 a2 a3
          have HT1 := hidA (fun w => rText q (by omega) (by omega) w)
          have HT2 := hidA (fun w => rText t (by omega) (by omega) w)
          have hl1 := dd_len q.toNat (by omega)
          have hl2 := dd_len t.toNat (by omega)
          generalize Lib.decDigits q.toNat = D1 at *
          generalize Lib.decDigits t.toNat = D2 at *
          clear ht10
          go_wp2_with (first | (go_at_call 41; first | (with_reducible refine (HT1.out _).mono ?_; rintro e w1 ⟨rfl, b1⟩) | (with_reducible refine (HT2.out _).mono ?_; rintro e w2 ⟨rfl, b2⟩)) | (go_at_call 42; refine (HU.out _).mono ?_; rintro e w3 ⟨rfl, rfl⟩) | go_quiet (fail))
          go_ret
          exact ⟨by rw [HH.out, HE.out]; simp [Array.getD], bl2 (bl2 (HB.out _) b1) b2⟩
      · have HV : Hid (∀ v, Na.wu s 1099511627776 = v → v < 1024 → Na.shortP s = Lib.decDigits v.toNat ++ [Na.uN 4]) := by
          intro v hv hlt
          rw [← hv]
          refine Na.short_b (i := 4) (by omega) ?_ rfl (by decide) hq h10
          have hq : Na.wu s 1099511627776 < 1024 := by rw [hv]; exact hlt
          have h2 := HN2.out; unfold Na.uI
          simp [h2, hq]
        by_cases hz : m = 0
        · rw [if_pos hz] at HWU
          have hz' : ¬ 0 < m := by omega
          by_cases hlt : q < 1024
          · have HE := hidA (HV.out q HWU.out hlt)
            have HT1 := hidA (fun w => rText q (by omega) (by omega) w)
            have hl1 := dd_len q.toNat (by omega)
            generalize Lib.decDigits q.toNat = D1 at *
            clear HV HWU hz hq hm HN2
            go_wp2_with (first | (go_at_call 41; first | (with_reducible refine (HT1.out _).mono ?_; rintro e w1 ⟨rfl, b1⟩) | (with_reducible refine (HT2.out _).mono ?_; rintro e w2 ⟨rfl, b2⟩)) | (go_at_call 42; refine (HU.out _).mono ?_; rintro e w3 ⟨rfl, rfl⟩) | go_quiet (fail))
            go_ret
            exact ⟨by rw [HH.out, HE.out]; simp [Array.getD], bl2 (HB.out _) b1⟩
          · have HN3 : Hid (noU s 4) := by
              have h3 : ¬ Na.wu s 1099511627776 < 1024 := by rw [HWU.out]; omega
              have h2 := HN2.out; show noU s 4
              exact ⟨h2.1, h2.2.1, h2.2.2, h3⟩
            clear HV HWU hz hq hm HN2
            go_wp2_with (go_quiet (fail))
            exact ⟨⟨5, _, rfl, rfl, by decide, by decide, HN3⟩, by simp [intOf]⟩
        · rw [if_neg hz] at HWU
          have hz' : 0 < m := by omega
          by_cases hlt : q + 1 < 1024
          · have HE := hidA (HV.out (q + 1) HWU.out hlt)
            have HT1 := hidA (fun w => rText (q + 1) (by omega) (by omega) w)
            have hl1 := dd_len (q + 1).toNat (by omega)
            generalize Lib.decDigits (q + 1).toNat = D1 at *
            clear HV HWU hz hq hm HN2
            go_wp2_with (first | (go_at_call 41; first | (with_reducible refine (HT1.out _).mono ?_; rintro e w1 ⟨rfl, b1⟩) | (with_reducible refine (HT2.out _).mono ?_; rintro e w2 ⟨rfl, b2⟩)) | (go_at_call 42; refine (HU.out _).mono ?_; rintro e w3 ⟨rfl, rfl⟩) | go_quiet (fail))
            go_ret
            exact ⟨by rw [HH.out, HE.out]; simp [Array.getD], bl2 (HB.out _) b1⟩
          · have HN3 : Hid (noU s 4) := by
              have h3 : ¬ Na.wu s 1099511627776 < 1024 := by rw [HWU.out]; omega
              have h2 := HN2.out; show noU s 4
              exact ⟨h2.1, h2.2.1, h2.2.2, h3⟩
            clear HV HWU hz hq hm HN2
            go_wp2_with (go_quiet (fail))
            exact ⟨⟨5, _, rfl, rfl, by decide, by decide, HN3⟩, by simp [intOf]⟩
    · have HN2 : Hid (¬ Na.wu s 1024 < 1024 ∧ ¬ Na.wu s 1048576 < 1024 ∧ ¬ Na.wu s 1073741824 < 1024 ∧ ¬ Na.wu s 1099511627776 < 1024) := HN
      have HU := hidA (fun w => rUnitOf 5 (by decide) (by decide) w)
      have HWU : Hid (Na.wu s 1125899906842624 = if s % 1125899906842624 = 0 then s / 1125899906842624 else s / 1125899906842624 + 1) := rfl
      clear HN
      obtain ⟨q, hq⟩ : ∃ q, s / 1125899906842624 = q := ⟨_, rfl⟩
      obtain ⟨m, hm⟩ : ∃ m, s % 1125899906842624 = m := ⟨_, rfl⟩
      have hqd : s.tdiv 1125899906842624 = q := (Int.tdiv_eq_ediv_of_nonneg h0).trans hq
      have hqm : s.tmod 1125899906842624 = m := (Int.tmod_eq_emod_of_nonneg h0).trans hm
      have hq0 : 0 ≤ q := by omega
      have hq1 : q < 16384 := by omega
      have hm0 : 0 ≤ m := by omega
      have hm1 : m < 1125899906842624 := by omega
      rw [hq, hm] at HWU
      by_cases h10 : q < 10
      · have HI : Hid (Na.uI s = 5) := by
          have hq : Na.wu s 1125899906842624 < 1024 := by rw [HWU.out]; split <;> omega
          have h2 := HN2.out; show _ = _
          unfold Na.uI
          simp [h2, hq]
        obtain ⟨t, ht⟩ : ∃ t, (10 * m + 1125899906842624 - 1) / 1125899906842624 = t := ⟨_, rfl⟩
        obtain ⟨ht0, ht1, a1, a2, a3⟩ := Na.short_a (by omega) HI.out rfl (by decide) hq hm ht hq0 h10
        have htd : (10 * m + 1125899906842624 - 1).tdiv 1125899906842624 = t := (Int.tdiv_eq_ediv_of_nonneg (by omega)).trans ht
        clear HI HWU hq hm ht HN2
        by_cases ht10 : t = 10
        · have ht10' : (t == 10) = true := by simpa using ht10
          by_cases hq9 : q + 1 < 10
          · have HE := hidA (a1 ht10 hq9)
            clear a1 a2 a3
            have HT1 := hidA (fun w => rText (q + 1) (by omega) (by omega) w)
            have HT2 := hidA (fun w => rText 0 (by decide) (by decide) w)
            have hl1 := dd_len (q + 1).toNat (by omega)
            have e0 : (0 : Int).toNat = 0 := rfl
            rw [e0] at HT2
            have hl2 := dd_len 0 (by decide)
            generalize Lib.decDigits (q + 1).toNat = D1 at *
            generalize Lib.decDigits 0 = D2 at *
            clear ht10
            go_wp2_with (first | (go_at_call 41; first | (with_reducible refine (HT1.out _).mono ?_; rintro e w1 ⟨rfl, b1⟩) | (with_reducible refine (HT2.out _).mono ?_; rintro e w2 ⟨rfl, b2⟩)) | (go_at_call 42; refine (HU.out _).mono ?_; rintro e w3 ⟨rfl, rfl⟩) | go_quiet (fail))
            go_ret
            exact ⟨by rw [HH.out, HE.out]; simp [Array.getD], bl2 (bl2 (HB.out _) b1) b2⟩
          · have HE := hidA (a2 ht10 hq9)
            clear a1 a2 a3
            have HT1 := hidA (fun w => rText (q + 1) (by omega) (by omega) w)
            have hl1 := dd_len (q + 1).toNat (by omega)
            generalize Lib.decDigits (q + 1).toNat = D1 at *
            clear ht10
            go_wp2_with (first | (go_at_call 41; first | (with_reducible refine (HT1.out _).mono ?_; rintro e w1 ⟨rfl, b1⟩) | (with_reducible refine (HT2.out _).mono ?_; rintro e w2 ⟨rfl, b2⟩)) | (go_at_call 42; refine (HU.out _).mono ?_; rintro e w3 ⟨rfl, rfl⟩) | go_quiet (fail))
            go_ret
            exact ⟨by rw [HH.out, HE.out]; simp [Array.getD], bl2 (HB.out _) b1⟩
        · have ht10' : (t == 10) = false := by simpa using ht10
          have HE := hidA (a3 ht10)
          clear a1 a2 a3
          have HT1 := hidA (fun w => rText q (by omega) (by omega) w)
          have HT2 := hidA (fun w => rText t (by omega) (by omega) w)
          have hl1 := dd_len q.toNat (by omega)
          have hl2 := dd_len t.toNat (by omega)
          generalize Lib.decDigits q.toNat = D1 at *
          generalize Lib.decDigits t.toNat = D2 at *
          clear ht10
          go_wp2_with (first | (go_at_call 41; first | (with_reducible refine (HT1.out _).mono ?_; rintro e w1 ⟨rfl, b1⟩) | (with_reducible refine (HT2.out _).mono ?_; rintro e w2 ⟨rfl, b2⟩)) | (go_at_call 42; refine (HU.out _).mono ?_; rintro e w3 ⟨rfl, rfl⟩) | go_quiet (fail))
          go_ret
          exact ⟨by rw [HH.out, HE.out]; simp [Array.getD], bl2 (bl2 (HB.out _) b1) b2⟩
      · have HV : Hid (∀ v, Na.wu s 1125899906842624 = v → v < 1024 → Na.shortP s = Lib.decDigits v.toNat ++ [Na.uN 5]) := by
          intro v hv hlt
          rw [← hv]
          refine Na.short_b (i := 5) (by omega) ?_ rfl (by decide) hq h10
          have hq : Na.wu s 1125899906842624 < 1024 := by rw [hv]; exact hlt
          have h2 := HN2.out; unfold Na.uI
          simp [h2, hq]
        by_cases hz : m = 0
        · rw [if_pos hz] at HWU
          have hz' : ¬ 0 < m := by omega
          by_cases hlt : q < 1024
          · have HE := hidA (HV.out q HWU.out hlt)
            have HT1 := hidA (fun w => rText q (by omega) (by omega) w)
            have hl1 := dd_len q.toNat (by omega)
            generalize Lib.decDigits q.toNat = D1 at *
            clear HV HWU hz hq hm HN2
            go_wp2_with (first | (go_at_call 41; first | (with_reducible refine (HT1.out _).mono ?_; rintro e w1 ⟨rfl, b1⟩) | (with_reducible refine (HT2.out _).mono ?_; rintro e w2 ⟨rfl, b2⟩)) | (go_at_call 42; refine (HU.out _).mono ?_; rintro e w3 ⟨rfl, rfl⟩) | go_quiet (fail))
            go_ret
            exact ⟨by rw [HH.out, HE.out]; simp [Array.getD], bl2 (HB.out _) b1⟩
          · have HN3 : Hid (noU s 5) := by
              have h3 : ¬ Na.wu s 1125899906842624 < 1024 := by rw [HWU.out]; omega
              have h2 := HN2.out; show noU s 5
              exact ⟨h2.1, h2.2.1, h2.2.2.1, h2.2.2.2, h3⟩
            clear HV HWU hz hq hm HN2
            go_wp2_with (go_quiet (fail))
            exact ⟨⟨6, _, rfl, rfl, by decide, by decide, HN3⟩, by simp [intOf]⟩
        · rw [if_neg hz] at HWU
          have hz' : 0 < m := by omega
          by_cases hlt : q + 1 < 1024
          · have HE := hidA (HV.out (q + 1) HWU.out hlt)
            have HT1 := hidA (fun w => rText (q + 1) (by omega) (by omega) w)
            have hl1 := dd_len (q + 1).toNat (by omega)
            generalize Lib.decDigits (q + 1).toNat = D1 at *
            clear HV HWU hz hq hm HN2
            go_wp2_with (first | (go_at_call 41; first | (with_reducible refine (HT1.out _).mono ?_; rintro e w1 ⟨rfl, b1⟩) | (with_reducible refine (HT2.out _).mono ?_; rintro e w2 ⟨rfl, b2⟩)) | (go_at_call 42; refine (HU.out _).mono ?_; rintro e w3 ⟨rfl, rfl⟩) | go_quiet (fail))
            go_ret
            exact ⟨by rw [HH.out, HE.out]; simp [Array.getD], bl2 (HB.out _) b1⟩
          · have HN3 : Hid (noU s 5) := by
              have h3 : ¬ Na.wu s 1125899906842624 < 1024 := by rw [HWU.out]; omega
              have h2 := HN2.out; show noU s 5
              exact ⟨h2.1, h2.2.1, h2.2.2.1, h2.2.2.2, h3⟩
            clear HV HWU hz hq hm HN2
            go_wp2_with (go_quiet (fail))
            exact ⟨⟨6, _, rfl, rfl, by decide, by decide, HN3⟩, by simp [intOf]⟩
    · have HN2 : Hid (¬ Na.wu s 1024 < 1024 ∧ ¬ Na.wu s 1048576 < 1024 ∧ ¬ Na.wu s 1073741824 < 1024 ∧ ¬ Na.wu s 1099511627776 < 1024 ∧ ¬ Na.wu s 1125899906842624 < 1024) := HN
      have HU := hidA (fun w => rUnitOf 6 (by decide) (by decide) w)
      have HWU : Hid (Na.wu s 1152921504606846976 = if s % 1152921504606846976 = 0 then s / 1152921504606846976 else s / 1152921504606846976 + 1) := rfl
      clear HN
      obtain ⟨q, hq⟩ : ∃ q, s / 1152921504606846976 = q := ⟨_, rfl⟩
      obtain ⟨m, hm⟩ : ∃ m, s % 1152921504606846976 = m := ⟨_, rfl⟩
      have hqd : s.tdiv 1152921504606846976 = q := (Int.tdiv_eq_ediv_of_nonneg h0).trans hq
      have hqm : s.tmod 1152921504606846976 = m := (Int.tmod_eq_emod_of_nonneg h0).trans hm
      have hq0 : 0 ≤ q := by omega
      have hq1 : q < 16 := by omega
      have hm0 : 0 ≤ m := by omega
      have hm1 : m < 1152921504606846976 := by omega
      rw [hq, hm] at HWU
      by_cases h10 : q < 10
      · have HI : Hid (Na.uI s = 6) := by
          have hq : Na.wu s 1152921504606846976 < 1024 := by rw [HWU.out]; split <;> omega
          have h2 := HN2.out; show _ = _
          unfold Na.uI
          simp [h2]
        obtain ⟨t, ht⟩ : ∃ t, (10 * m + 1152921504606846976 - 1) / 1152921504606846976 = t := ⟨_, rfl⟩
        obtain ⟨ht0, ht1, a1, a2, a3⟩ := Na.short_a (by omega) HI.out rfl (by decide) hq hm ht hq0 h10
        have htd : (10 * m + 1152921504606846976 - 1).tdiv 1152921504606846976 = t := (Int.tdiv_eq_ediv_of_nonneg (by omega)).trans ht
        clear HI HWU hq hm ht HN2
        by_cases ht10 : t = 10
        · have ht10' : (t == 10) = true := by simpa using ht10
          by_cases hq9 : q + 1 < 10
          · have HE := hidA (a1 ht10 hq9)
            clear a1 a2 a3
            have HT1 := hidA (fun w => rText (q + 1) (by omega) (by omega) w)
            have HT2 := hidA (fun w => rText 0 (by decide) (by decide) w)
            have hl1 := dd_len (q + 1).toNat (by omega)
            have e0 : (0 : Int).toNat = 0 := rfl
            rw [e0] at HT2
            have hl2 := dd_len 0 (by decide)
            generalize Lib.decDigits (q + 1).toNat = D1 at *
            generalize Lib.decDigits 0 = D2 at *
            clear ht10
            go_wp2_with (first | (go_at_call 41; first | (with_reducible refine (HT1.out _).mono ?_; rintro e w1 ⟨rfl, b1⟩) | (with_reducible refine (HT2.out _).mono ?_; rintro e w2 ⟨rfl, b2⟩)) | (go_at_call 42; refine (HU.out _).mono ?_; rintro e w3 ⟨rfl, rfl⟩) | go_quiet (fail))
            go_ret
            exact ⟨by rw [HH.out, HE.out]; simp [Array.getD], bl2 (bl2 (HB.out _) b1) b2⟩
          · have HE := hidA (a2 ht10 hq9)
            clear a1 a2 a3
            have HT1 := hidA (fun w => rText (q + 1) (by omega) (by omega) w)
            have hl1 := dd_len (q + 1).toNat (by omega)
            generalize Lib.decDigits (q + 1).toNat = D1 at *
            clear ht10
            go_wp2_with (first | (go_at_call 41; first | (with_reducible refine (HT1.out _).mono ?_; rintro e w1 ⟨rfl, b1⟩) | (with_reducible refine (HT2.out _).mono ?_; rintro e w2 ⟨rfl, b2⟩)) | (go_at_call 42; refine (HU.out _).mono ?_; rintro e w3 ⟨rfl, rfl⟩) | go_quiet (fail))
            go_ret
            exact ⟨by rw [HH.out, HE.out]; simp [Array.getD], bl2 (HB.out _) b1⟩
        · have ht10' : (t == 10) = false := by simpa using ht10
          have HE := hidA (a3 ht10)
          clear a1 a2 a3
          have HT1 := hidA (fun w => rText q (by omega) (by omega) w)
          have HT2 := hidA (fun w => rText t (by omega) (by omega) w)
          have hl1 := dd_len q.toNat (by omega)
          have hl2 := dd_len t.toNat (by omega)
          generalize Lib.decDigits q.toNat = D1 at *
          generalize Lib.decDigits t.toNat = D2 at *
          clear ht10
          go_wp2_with (first | (go_at_call 41; first | (with_reducible refine (HT1.out _).mono ?_; rintro e w1 ⟨rfl, b1⟩) | (with_reducible refine (HT2.out _).mono ?_; rintro e w2 ⟨rfl, b2⟩)) | (go_at_call 42; refine (HU.out _).mono ?_; rintro e w3 ⟨rfl, rfl⟩) | go_quiet (fail))
          go_ret
          exact ⟨by rw [HH.out, HE.out]; simp [Array.getD], bl2 (bl2 (HB.out _) b1) b2⟩
      · have HV : Hid (∀ v, Na.wu s 1152921504606846976 = v → v < 1024 → Na.shortP s = Lib.decDigits v.toNat ++ [Na.uN 6]) := by
          intro v hv hlt
          rw [← hv]
          refine Na.short_b (i := 6) (by omega) ?_ rfl (by decide) hq h10
          have hq : Na.wu s 1152921504606846976 < 1024 := by rw [hv]; exact hlt
          have h2 := HN2.out; unfold Na.uI
          simp [h2]
        by_cases hz : m = 0
        · rw [if_pos hz] at HWU
          have hz' : ¬ 0 < m := by omega
          by_cases hlt : q < 1024
          · have HE := hidA (HV.out q HWU.out hlt)
            have HT1 := hidA (fun w => rText q (by omega) (by omega) w)
            have hl1 := dd_len q.toNat (by omega)
            generalize Lib.decDigits q.toNat = D1 at *
            clear HV HWU hz hq hm HN2
            go_wp2_with (first | (go_at_call 41; first | (with_reducible refine (HT1.out _).mono ?_; rintro e w1 ⟨rfl, b1⟩) | (with_reducible refine (HT2.out _).mono ?_; rintro e w2 ⟨rfl, b2⟩)) | (go_at_call 42; refine (HU.out _).mono ?_; rintro e w3 ⟨rfl, rfl⟩) | go_quiet (fail))
            go_ret
            exact ⟨by rw [HH.out, HE.out]; simp [Array.getD], bl2 (HB.out _) b1⟩
          · omega
        · rw [if_neg hz] at HWU
          have hz' : 0 < m := by omega
          by_cases hlt : q + 1 < 1024
          · have HE := hidA (HV.out (q + 1) HWU.out hlt)
            have HT1 := hidA (fun w => rText (q + 1) (by omega) (by omega) w)
            have hl1 := dd_len (q + 1).toNat (by omega)
            generalize Lib.decDigits (q + 1).toNat = D1 at *
            clear HV HWU hz hq hm HN2
            go_wp2_with (first | (go_at_call 41; first | (with_reducible refine (HT1.out _).mono ?_; rintro e w1 ⟨rfl, b1⟩) | (with_reducible refine (HT2.out _).mono ?_; rintro e w2 ⟨rfl, b2⟩)) | (go_at_call 42; refine (HU.out _).mono ?_; rintro e w3 ⟨rfl, rfl⟩) | go_quiet (fail))
            go_ret
            exact ⟨by rw [HH.out, HE.out]; simp [Array.getD], bl2 (HB.out _) b1⟩
          · omega
theorem rHuman (n : Int) (g0 : -9223372036854775808 ≤ n) (g1 : n ≤ 9223372036854775807) (w : World) : Calls Tryd.prog 18 #[.int .i64 n] w fun e w' => e = .returned (.string ⟨(Na.humanP n).toArray⟩) ∧ Below w.heap.size w w' := by
  by_cases hn : n < 0
  · exact rHumanN n g0 g1 hn w
  · exact rHumanP n g0 g1 hn w
end Go.Proofs.YtgkjpfebjhhdkaaDoor
