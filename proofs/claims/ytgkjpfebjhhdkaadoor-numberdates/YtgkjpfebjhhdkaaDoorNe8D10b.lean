/- Dates: the plain answer's Date, of a text of digits of a fitting length (gen_ne8.py). No condition. -/
import Derived.Test.YtgkjpfebjhhdkaaDoorNe6
import Derived.Test.YtgkjpfebjhhdkaaDoorNe2
import Derived.Test.YtgkjpfebjhhdkaaDoorNe7
namespace Go.Proofs.YtgkjpfebjhhdkaaDoor
open Go.RowKit
attribute [local go_sem] ext_eq app_eq get_eq
set_option maxRecDepth 100000 in
set_option maxHeartbeats 16000000 in
theorem rDateD10b (c0 c1 c2 c3 c4 c5 c6 c7 c8 c9 a b : UInt8) (now : Int) (hd : [c0, c1, c2, c3, c4, c5, c6, c7, c8, c9].all (Na.dig 10) = true) (da : Na.dig 10 a = true) (db : Na.dig 10 b = true) (h69 : ¬ Na.tw [c0, c1] < 69) (w : World) :
    Calls Tryd.prog 27 #[.string ⟨#[c0, c1, c2, c3, c4, c5, c6, c7, c8, c9, 46, a, b]⟩, .int .i64 now] w fun e w' => (∃ v, DtR [c0, c1, c2, c3, c4, c5, c6, c7, c8, c9, 46, a, b] now v ∧ e = .returned (.tuple #[.int .i64 v.1, .int .i64 v.2])) ∧ Below w.heap.size w w' := by
  have HG := hidA (fun W => rDigits 10 (by decide) [c0, c1, c2, c3, c4, c5, c6, c7, c8, c9] W (by simp))
  have hpl : Na.pl 10 [c0, c1, c2, c3, c4, c5, c6, c7, c8, c9] = true := by unfold Na.pl; rw [hd]; rfl
  rw [hpl] at HG
  have HQ := hidA (fun W => rDigits 10 (by decide) [a, b] W (by simp))
  have hpq : Na.pl 10 [a, b] = true := by unfold Na.pl; simp [da, db]
  rw [hpq] at HQ
  have HVS := hidA (fun W => rVal2 a b da db W)
  have HR : Hid (∀ v : Int × Int, v = (if Na.exB (1900 + Na.tw [c0, c1]) (Na.tw [c2, c3]) (Na.tw [c4, c5]) (Na.tw [c6, c7]) (Na.tw [c8, c9]) (Na.tw [a, b]) then (Na.secP (1900 + Na.tw [c0, c1]) ((Na.tw [c2, c3]).toNat - 1) (Na.tw [c4, c5]) (Na.tw [c6, c7]) (Na.tw [c8, c9]) (Na.tw [a, b]), 0) else (0, 22)) → DtR [c0, c1, c2, c3, c4, c5, c6, c7, c8, c9, 46, a, b] now v) := fun v hv => by
    have h := dtr_dot (A := [c0, c1, c2, c3, c4, c5, c6, c7, c8, c9]) (q := [a, b]) (now := now) (v := v) rfl (by rw [if_pos hpq]; exact (by unfold Core; rw [if_pos hpl]; exact ⟨some (1900 + Na.tw [c0, c1]), (congrArg some (if_neg h69)).symm, hv⟩))
    exact h
  simp only [List.all_cons, List.all_nil, Bool.and_true, Bool.and_eq_true] at hd
  obtain ⟨d0, d1, d2, d3, d4, d5, d6, d7, d8, d9⟩ := hd
  have HY := hidA (fun W => rVal2 c0 c1 d0 d1 W)
  have HV1 := hidA (fun W => rVal2 c2 c3 d2 d3 W)
  have rg1 := Na.tw_rng (l := [c2, c3]) (by simp [d2, d3])
  have HV2 := hidA (fun W => rVal2 c4 c5 d4 d5 W)
  have rg2 := Na.tw_rng (l := [c4, c5]) (by simp [d4, d5])
  have HV3 := hidA (fun W => rVal2 c6 c7 d6 d7 W)
  have rg3 := Na.tw_rng (l := [c6, c7]) (by simp [d6, d7])
  have HV4 := hidA (fun W => rVal2 c8 c9 d8 d9 W)
  have rg4 := Na.tw_rng (l := [c8, c9]) (by simp [d8, d9])
  have rg5 := Na.tw_rng (l := [a, b]) (by simp [da, db])
  have rga := Na.tw_rng (l := [c0, c1]) (by simp [d0, d1])
  generalize Na.tw [c2, c3] = m at *
  generalize Na.tw [c4, c5] = d at *
  generalize Na.tw [c6, c7] = h at *
  generalize Na.tw [c8, c9] = mi at *
  generalize Na.tw [a, b] = sc at *
  generalize Na.tw [c0, c1] = x0 at *
  have HYr : Hid ((0 : Int) ≤ (1900 + x0) ∧ (1900 + x0) ≤ 9999) := ⟨by omega, by omega⟩
  have hw : IntKind.i64.wrap (x0 + 1900) = 1900 + x0 := by rw [IntKind.wrap_i64]; omega
  have h69' : 69 ≤ x0 := by omega
  obtain ⟨Y, hY⟩ : ∃ Y, (1900 + x0) = Y := ⟨_, rfl⟩
  rw [hY] at HR HYr hw
  clear hY
  clear hpl hpq
  clear d0 d1 d2 d3 d4 d5 d6 d7 d8 d9
  go_enter Tryd.func27, Tryd.ntmps27
  go_wp2_with (first | (go_at_call 37; with_reducible refine (HG.out _).mono ?_; rintro e w1 ⟨rfl, h1⟩; rw [h1]; clear h1 w1) | (go_at_call 37; with_reducible refine (HQ.out _).mono ?_; rintro e w1 ⟨rfl, h1⟩; rw [h1]; clear h1 w1) | (go_at_call 38; with_reducible refine (HVS.out _).mono ?_; rintro e w2 ⟨rfl, h2⟩; rw [h2]; clear h2 w2) | (go_at_call 38; with_reducible refine (HY.out _).mono ?_; rintro e w2 ⟨rfl, h2⟩; rw [h2]; clear h2 w2) | go_quiet (fail))
  go_loopw [12] (fun i W => (i = .int .i64 0 ∧ W = w.alloc (.cells #[.int .i64 Y, .int .i64 0, .int .i64 0, .int .i64 0, .int .i64 0, .int .i64 0] 82)) ∨ (i = .int .i64 1 ∧ W = w.alloc (.cells #[.int .i64 Y, .int .i64 m, .int .i64 0, .int .i64 0, .int .i64 0, .int .i64 0] 82)) ∨ (i = .int .i64 2 ∧ W = w.alloc (.cells #[.int .i64 Y, .int .i64 m, .int .i64 d, .int .i64 0, .int .i64 0, .int .i64 0] 82)) ∨ (i = .int .i64 3 ∧ W = w.alloc (.cells #[.int .i64 Y, .int .i64 m, .int .i64 d, .int .i64 h, .int .i64 0, .int .i64 0] 82)) ∨ (i = .int .i64 4 ∧ W = w.alloc (.cells #[.int .i64 Y, .int .i64 m, .int .i64 d, .int .i64 h, .int .i64 mi, .int .i64 0] 82))) (fun i _ => 4 - (intOf i).toNat)
  case atStart => exact .inl ⟨rfl, rfl⟩
  case round =>
    rcases hrel with ⟨rfl, rfl⟩ | ⟨rfl, rfl⟩ | ⟨rfl, rfl⟩ | ⟨rfl, rfl⟩ | ⟨rfl, rfl⟩
    · go_wp2_with (first | (go_at_call 38; with_reducible refine (HV1.out _).mono ?_; rintro e w2 ⟨rfl, h2⟩; rw [h2]; clear h2 w2) | go_quiet (fail))
      exact ⟨.inr (.inl ⟨rfl, by first | rfl | trivial⟩), by simp [intOf]⟩
    · go_wp2_with (first | (go_at_call 38; with_reducible refine (HV2.out _).mono ?_; rintro e w2 ⟨rfl, h2⟩; rw [h2]; clear h2 w2) | go_quiet (fail))
      exact ⟨.inr (.inr (.inl ⟨rfl, by first | rfl | trivial⟩)), by simp [intOf]⟩
    · go_wp2_with (first | (go_at_call 38; with_reducible refine (HV3.out _).mono ?_; rintro e w2 ⟨rfl, h2⟩; rw [h2]; clear h2 w2) | go_quiet (fail))
      exact ⟨.inr (.inr (.inr (.inl ⟨rfl, by first | rfl | trivial⟩))), by simp [intOf]⟩
    · go_wp2_with (first | (go_at_call 38; with_reducible refine (HV4.out _).mono ?_; rintro e w2 ⟨rfl, h2⟩; rw [h2]; clear h2 w2) | go_quiet (fail))
      exact ⟨.inr (.inr (.inr (.inr (⟨rfl, by first | rfl | trivial⟩)))), by simp [intOf]⟩
    · have HF : Hid (Na.exB Y m d h mi sc = false → DtR [c0, c1, c2, c3, c4, c5, c6, c7, c8, c9, 46, a, b] now (0, 22)) := fun h => HR.out _ (by rw [h]; rfl)
      have HTr : Hid (Na.exB Y m d h mi sc = true → DtR [c0, c1, c2, c3, c4, c5, c6, c7, c8, c9, 46, a, b] now (Na.secP Y (m.toNat - 1) d h mi sc, 0)) := fun h => HR.out _ (by rw [h]; rfl)
      have HBl : Hid (∀ o n, Below w.heap.size w ((w.alloc o).drewN n)) := fun o n => bl2 ((Below.refl w.heap.size w).alloc (Nat.le_refl _) o) (bl_drew _ n)
      by_cases h1 : m < 1
      · skip
        have HE := hidA (HF.out (by unfold Na.exB; simp [h1]))
        clear HF HTr HR
        have g0 : decide (m < 1) = true := by simp; omega
        go_wp2_with fail
        obtain ⟨W5, hW5⟩ : ∃ W5, W5 = w.alloc (.cells #[.int .i64 Y, .int .i64 m, .int .i64 d, .int .i64 h, .int .i64 mi, .int .i64 sc] 82) := ⟨_, rfl⟩
        have hS : W5.cell? ⟨w.heap.size, 0, none⟩ = some (.int .i64 Y) ∧ W5.cell? ⟨w.heap.size, 1, none⟩ = some (.int .i64 m) ∧ W5.cell? ⟨w.heap.size, 2, none⟩ = some (.int .i64 d) ∧ W5.cell? ⟨w.heap.size, 3, none⟩ = some (.int .i64 h) ∧ W5.cell? ⟨w.heap.size, 4, none⟩ = some (.int .i64 mi) ∧ W5.cell? ⟨w.heap.size, 5, none⟩ = some (.int .i64 sc) := by subst hW5; exact ⟨by show (w.alloc _).cell? _ = _; rw [World.cell?_alloc_at _ _ _ _ rfl]; rfl, by show (w.alloc _).cell? _ = _; rw [World.cell?_alloc_at _ _ _ _ rfl]; rfl, by show (w.alloc _).cell? _ = _; rw [World.cell?_alloc_at _ _ _ _ rfl]; rfl, by show (w.alloc _).cell? _ = _; rw [World.cell?_alloc_at _ _ _ _ rfl]; rfl, by show (w.alloc _).cell? _ = _; rw [World.cell?_alloc_at _ _ _ _ rfl]; rfl, by show (w.alloc _).cell? _ = _; rw [World.cell?_alloc_at _ _ _ _ rfl]; rfl⟩
        have HB5 : Hid (∀ n, BlW w (W5.drewN n)) := by subst hW5; exact fun n => HBl.out _ n
        rw [← hW5]
        clear hW5 HBl
        generalize w.heap.size = B at *
        obtain ⟨s0, s1, s2, s3, s4, s5⟩ := hS
        go_quiet (fail)
        all_goals
          go_wp2
          go_ret2
          exact ⟨⟨(0, 22), HE.out, rfl⟩, by first | exact HB5.out 1 | exact HB5.out 0 | exact HB5.out _⟩
      · by_cases h2 : 12 < m
        · skip
          have HE := hidA (HF.out (by unfold Na.exB; simp [h2]))
          clear HF HTr HR
          have g0 : decide (m < 1) = false := by simp; omega
          have g1 : decide (12 < m) = true := by simp; omega
          go_wp2_with fail
          obtain ⟨W5, hW5⟩ : ∃ W5, W5 = w.alloc (.cells #[.int .i64 Y, .int .i64 m, .int .i64 d, .int .i64 h, .int .i64 mi, .int .i64 sc] 82) := ⟨_, rfl⟩
          have hS : W5.cell? ⟨w.heap.size, 0, none⟩ = some (.int .i64 Y) ∧ W5.cell? ⟨w.heap.size, 1, none⟩ = some (.int .i64 m) ∧ W5.cell? ⟨w.heap.size, 2, none⟩ = some (.int .i64 d) ∧ W5.cell? ⟨w.heap.size, 3, none⟩ = some (.int .i64 h) ∧ W5.cell? ⟨w.heap.size, 4, none⟩ = some (.int .i64 mi) ∧ W5.cell? ⟨w.heap.size, 5, none⟩ = some (.int .i64 sc) := by subst hW5; exact ⟨by show (w.alloc _).cell? _ = _; rw [World.cell?_alloc_at _ _ _ _ rfl]; rfl, by show (w.alloc _).cell? _ = _; rw [World.cell?_alloc_at _ _ _ _ rfl]; rfl, by show (w.alloc _).cell? _ = _; rw [World.cell?_alloc_at _ _ _ _ rfl]; rfl, by show (w.alloc _).cell? _ = _; rw [World.cell?_alloc_at _ _ _ _ rfl]; rfl, by show (w.alloc _).cell? _ = _; rw [World.cell?_alloc_at _ _ _ _ rfl]; rfl, by show (w.alloc _).cell? _ = _; rw [World.cell?_alloc_at _ _ _ _ rfl]; rfl⟩
          have HB5 : Hid (∀ n, BlW w (W5.drewN n)) := by subst hW5; exact fun n => HBl.out _ n
          rw [← hW5]
          clear hW5 HBl
          generalize w.heap.size = B at *
          obtain ⟨s0, s1, s2, s3, s4, s5⟩ := hS
          go_quiet (fail)
          all_goals
            go_wp2
            go_ret2
            exact ⟨⟨(0, 22), HE.out, rfl⟩, by first | exact HB5.out 1 | exact HB5.out 0 | exact HB5.out _⟩
        · by_cases h3 : d < 1
          · skip
            have HE := hidA (HF.out (by unfold Na.exB; simp [h3]))
            clear HF HTr HR
            have g0 : decide (m < 1) = false := by simp; omega
            have g1 : decide (12 < m) = false := by simp; omega
            have g2 : decide (d < 1) = true := by simp; omega
            go_wp2_with fail
            obtain ⟨W5, hW5⟩ : ∃ W5, W5 = w.alloc (.cells #[.int .i64 Y, .int .i64 m, .int .i64 d, .int .i64 h, .int .i64 mi, .int .i64 sc] 82) := ⟨_, rfl⟩
            have hS : W5.cell? ⟨w.heap.size, 0, none⟩ = some (.int .i64 Y) ∧ W5.cell? ⟨w.heap.size, 1, none⟩ = some (.int .i64 m) ∧ W5.cell? ⟨w.heap.size, 2, none⟩ = some (.int .i64 d) ∧ W5.cell? ⟨w.heap.size, 3, none⟩ = some (.int .i64 h) ∧ W5.cell? ⟨w.heap.size, 4, none⟩ = some (.int .i64 mi) ∧ W5.cell? ⟨w.heap.size, 5, none⟩ = some (.int .i64 sc) := by subst hW5; exact ⟨by show (w.alloc _).cell? _ = _; rw [World.cell?_alloc_at _ _ _ _ rfl]; rfl, by show (w.alloc _).cell? _ = _; rw [World.cell?_alloc_at _ _ _ _ rfl]; rfl, by show (w.alloc _).cell? _ = _; rw [World.cell?_alloc_at _ _ _ _ rfl]; rfl, by show (w.alloc _).cell? _ = _; rw [World.cell?_alloc_at _ _ _ _ rfl]; rfl, by show (w.alloc _).cell? _ = _; rw [World.cell?_alloc_at _ _ _ _ rfl]; rfl, by show (w.alloc _).cell? _ = _; rw [World.cell?_alloc_at _ _ _ _ rfl]; rfl⟩
            have HB5 : Hid (∀ n, BlW w (W5.drewN n)) := by subst hW5; exact fun n => HBl.out _ n
            rw [← hW5]
            clear hW5 HBl
            generalize w.heap.size = B at *
            obtain ⟨s0, s1, s2, s3, s4, s5⟩ := hS
            go_quiet (fail)
            all_goals
              go_wp2
              go_ret2
              exact ⟨⟨(0, 22), HE.out, rfl⟩, by first | exact HB5.out 1 | exact HB5.out 0 | exact HB5.out _⟩
          · obtain ⟨j, rfl⟩ : ∃ j : Nat, m = (j : Int) + 1 := ⟨(m - 1).toNat, by omega⟩
            have hj : j < 12 := by omega
            have hj1 : ((j : Int) + 1).toNat = j + 1 := by omega
            have HDy := hidA (fun W => rDays Y HYr.out.1 j hj W)
            obtain ⟨N, hN⟩ : ∃ N, Na.mb Y (j + 1) - Na.mb Y j = N := ⟨_, rfl⟩
            rw [hN] at HDy
            have HN := hidA hN
            clear hN
            by_cases h4 : N < d
            · skip
              have HE := hidA (HF.out (by unfold Na.exB; rw [hj1, Nat.add_sub_cancel, HN.out]; simp; omega))
              clear HF HTr HR
              have g0 : decide ((j : Int) + 1 < 1) = false := by simp; omega
              have g1 : decide (12 < (j : Int) + 1) = false := by simp; omega
              have g2 : decide (d < 1) = false := by simp; omega
              have g3 : decide (N < d) = true := by simp; omega
              go_wp2_with fail
              obtain ⟨W5, hW5⟩ : ∃ W5, W5 = w.alloc (.cells #[.int .i64 Y, .int .i64 ((j : Int) + 1), .int .i64 d, .int .i64 h, .int .i64 mi, .int .i64 sc] 82) := ⟨_, rfl⟩
              have hS : W5.cell? ⟨w.heap.size, 0, none⟩ = some (.int .i64 Y) ∧ W5.cell? ⟨w.heap.size, 1, none⟩ = some (.int .i64 ((j : Int) + 1)) ∧ W5.cell? ⟨w.heap.size, 2, none⟩ = some (.int .i64 d) ∧ W5.cell? ⟨w.heap.size, 3, none⟩ = some (.int .i64 h) ∧ W5.cell? ⟨w.heap.size, 4, none⟩ = some (.int .i64 mi) ∧ W5.cell? ⟨w.heap.size, 5, none⟩ = some (.int .i64 sc) := by subst hW5; exact ⟨by show (w.alloc _).cell? _ = _; rw [World.cell?_alloc_at _ _ _ _ rfl]; rfl, by show (w.alloc _).cell? _ = _; rw [World.cell?_alloc_at _ _ _ _ rfl]; rfl, by show (w.alloc _).cell? _ = _; rw [World.cell?_alloc_at _ _ _ _ rfl]; rfl, by show (w.alloc _).cell? _ = _; rw [World.cell?_alloc_at _ _ _ _ rfl]; rfl, by show (w.alloc _).cell? _ = _; rw [World.cell?_alloc_at _ _ _ _ rfl]; rfl, by show (w.alloc _).cell? _ = _; rw [World.cell?_alloc_at _ _ _ _ rfl]; rfl⟩
              have HB5 : Hid (∀ n, BlW w (W5.drewN n)) := by subst hW5; exact fun n => HBl.out _ n
              rw [← hW5]
              clear hW5 HBl
              generalize w.heap.size = B at *
              obtain ⟨s0, s1, s2, s3, s4, s5⟩ := hS
              go_quiet ((go_at_call 57; exact Calls.quiet_of_same (HDy.out _)))
              all_goals
                go_wp2
                go_ret2
                exact ⟨⟨(0, 22), HE.out, rfl⟩, by first | exact HB5.out 1 | exact HB5.out 0 | exact HB5.out _⟩
            · by_cases h5 : 23 < h
              · skip
                have HE := hidA (HF.out (by unfold Na.exB; simp; omega))
                clear HF HTr HR
                have g0 : decide ((j : Int) + 1 < 1) = false := by simp; omega
                have g1 : decide (12 < (j : Int) + 1) = false := by simp; omega
                have g2 : decide (d < 1) = false := by simp; omega
                have g3 : decide (N < d) = false := by simp; omega
                have g4 : decide (23 < h) = true := by simp; omega
                go_wp2_with fail
                obtain ⟨W5, hW5⟩ : ∃ W5, W5 = w.alloc (.cells #[.int .i64 Y, .int .i64 ((j : Int) + 1), .int .i64 d, .int .i64 h, .int .i64 mi, .int .i64 sc] 82) := ⟨_, rfl⟩
                have hS : W5.cell? ⟨w.heap.size, 0, none⟩ = some (.int .i64 Y) ∧ W5.cell? ⟨w.heap.size, 1, none⟩ = some (.int .i64 ((j : Int) + 1)) ∧ W5.cell? ⟨w.heap.size, 2, none⟩ = some (.int .i64 d) ∧ W5.cell? ⟨w.heap.size, 3, none⟩ = some (.int .i64 h) ∧ W5.cell? ⟨w.heap.size, 4, none⟩ = some (.int .i64 mi) ∧ W5.cell? ⟨w.heap.size, 5, none⟩ = some (.int .i64 sc) := by subst hW5; exact ⟨by show (w.alloc _).cell? _ = _; rw [World.cell?_alloc_at _ _ _ _ rfl]; rfl, by show (w.alloc _).cell? _ = _; rw [World.cell?_alloc_at _ _ _ _ rfl]; rfl, by show (w.alloc _).cell? _ = _; rw [World.cell?_alloc_at _ _ _ _ rfl]; rfl, by show (w.alloc _).cell? _ = _; rw [World.cell?_alloc_at _ _ _ _ rfl]; rfl, by show (w.alloc _).cell? _ = _; rw [World.cell?_alloc_at _ _ _ _ rfl]; rfl, by show (w.alloc _).cell? _ = _; rw [World.cell?_alloc_at _ _ _ _ rfl]; rfl⟩
                have HB5 : Hid (∀ n, BlW w (W5.drewN n)) := by subst hW5; exact fun n => HBl.out _ n
                rw [← hW5]
                clear hW5 HBl
                generalize w.heap.size = B at *
                obtain ⟨s0, s1, s2, s3, s4, s5⟩ := hS
                go_quiet ((go_at_call 57; exact Calls.quiet_of_same (HDy.out _)))
                all_goals
                  go_wp2
                  go_ret2
                  exact ⟨⟨(0, 22), HE.out, rfl⟩, by first | exact HB5.out 1 | exact HB5.out 0 | exact HB5.out _⟩
              · by_cases h6 : 59 < mi
                · skip
                  have HE := hidA (HF.out (by unfold Na.exB; simp; omega))
                  clear HF HTr HR
                  have g0 : decide ((j : Int) + 1 < 1) = false := by simp; omega
                  have g1 : decide (12 < (j : Int) + 1) = false := by simp; omega
                  have g2 : decide (d < 1) = false := by simp; omega
                  have g3 : decide (N < d) = false := by simp; omega
                  have g4 : decide (23 < h) = false := by simp; omega
                  have g5 : decide (59 < mi) = true := by simp; omega
                  go_wp2_with fail
                  obtain ⟨W5, hW5⟩ : ∃ W5, W5 = w.alloc (.cells #[.int .i64 Y, .int .i64 ((j : Int) + 1), .int .i64 d, .int .i64 h, .int .i64 mi, .int .i64 sc] 82) := ⟨_, rfl⟩
                  have hS : W5.cell? ⟨w.heap.size, 0, none⟩ = some (.int .i64 Y) ∧ W5.cell? ⟨w.heap.size, 1, none⟩ = some (.int .i64 ((j : Int) + 1)) ∧ W5.cell? ⟨w.heap.size, 2, none⟩ = some (.int .i64 d) ∧ W5.cell? ⟨w.heap.size, 3, none⟩ = some (.int .i64 h) ∧ W5.cell? ⟨w.heap.size, 4, none⟩ = some (.int .i64 mi) ∧ W5.cell? ⟨w.heap.size, 5, none⟩ = some (.int .i64 sc) := by subst hW5; exact ⟨by show (w.alloc _).cell? _ = _; rw [World.cell?_alloc_at _ _ _ _ rfl]; rfl, by show (w.alloc _).cell? _ = _; rw [World.cell?_alloc_at _ _ _ _ rfl]; rfl, by show (w.alloc _).cell? _ = _; rw [World.cell?_alloc_at _ _ _ _ rfl]; rfl, by show (w.alloc _).cell? _ = _; rw [World.cell?_alloc_at _ _ _ _ rfl]; rfl, by show (w.alloc _).cell? _ = _; rw [World.cell?_alloc_at _ _ _ _ rfl]; rfl, by show (w.alloc _).cell? _ = _; rw [World.cell?_alloc_at _ _ _ _ rfl]; rfl⟩
                  have HB5 : Hid (∀ n, BlW w (W5.drewN n)) := by subst hW5; exact fun n => HBl.out _ n
                  rw [← hW5]
                  clear hW5 HBl
                  generalize w.heap.size = B at *
                  obtain ⟨s0, s1, s2, s3, s4, s5⟩ := hS
                  go_quiet ((go_at_call 57; exact Calls.quiet_of_same (HDy.out _)))
                  all_goals
                    go_wp2
                    go_ret2
                    exact ⟨⟨(0, 22), HE.out, rfl⟩, by first | exact HB5.out 1 | exact HB5.out 0 | exact HB5.out _⟩
                · by_cases h7 : 59 < sc
                  · skip
                    have HE := hidA (HF.out (by unfold Na.exB; simp; omega))
                    clear HF HTr HR
                    have g0 : decide ((j : Int) + 1 < 1) = false := by simp; omega
                    have g1 : decide (12 < (j : Int) + 1) = false := by simp; omega
                    have g2 : decide (d < 1) = false := by simp; omega
                    have g3 : decide (N < d) = false := by simp; omega
                    have g4 : decide (23 < h) = false := by simp; omega
                    have g5 : decide (59 < mi) = false := by simp; omega
                    have g6 : decide (59 < sc) = true := by simp; omega
                    go_wp2_with fail
                    obtain ⟨W5, hW5⟩ : ∃ W5, W5 = w.alloc (.cells #[.int .i64 Y, .int .i64 ((j : Int) + 1), .int .i64 d, .int .i64 h, .int .i64 mi, .int .i64 sc] 82) := ⟨_, rfl⟩
                    have hS : W5.cell? ⟨w.heap.size, 0, none⟩ = some (.int .i64 Y) ∧ W5.cell? ⟨w.heap.size, 1, none⟩ = some (.int .i64 ((j : Int) + 1)) ∧ W5.cell? ⟨w.heap.size, 2, none⟩ = some (.int .i64 d) ∧ W5.cell? ⟨w.heap.size, 3, none⟩ = some (.int .i64 h) ∧ W5.cell? ⟨w.heap.size, 4, none⟩ = some (.int .i64 mi) ∧ W5.cell? ⟨w.heap.size, 5, none⟩ = some (.int .i64 sc) := by subst hW5; exact ⟨by show (w.alloc _).cell? _ = _; rw [World.cell?_alloc_at _ _ _ _ rfl]; rfl, by show (w.alloc _).cell? _ = _; rw [World.cell?_alloc_at _ _ _ _ rfl]; rfl, by show (w.alloc _).cell? _ = _; rw [World.cell?_alloc_at _ _ _ _ rfl]; rfl, by show (w.alloc _).cell? _ = _; rw [World.cell?_alloc_at _ _ _ _ rfl]; rfl, by show (w.alloc _).cell? _ = _; rw [World.cell?_alloc_at _ _ _ _ rfl]; rfl, by show (w.alloc _).cell? _ = _; rw [World.cell?_alloc_at _ _ _ _ rfl]; rfl⟩
                    have HB5 : Hid (∀ n, BlW w (W5.drewN n)) := by subst hW5; exact fun n => HBl.out _ n
                    rw [← hW5]
                    clear hW5 HBl
                    generalize w.heap.size = B at *
                    obtain ⟨s0, s1, s2, s3, s4, s5⟩ := hS
                    go_quiet ((go_at_call 57; exact Calls.quiet_of_same (HDy.out _)))
                    all_goals
                      go_wp2
                      go_ret2
                      exact ⟨⟨(0, 22), HE.out, rfl⟩, by first | exact HB5.out 1 | exact HB5.out 0 | exact HB5.out _⟩
                  · skip
                    have HE := hidA (HTr.out (by unfold Na.exB; rw [hj1, Nat.add_sub_cancel, HN.out]; simp; omega))
                    rw [hj1, Nat.add_sub_cancel] at HE
                    have HSc := hidA (fun W => rSecond Y j d h mi sc HYr.out.1 HYr.out.2 hj ⟨by omega, by omega⟩ ⟨by omega, by omega⟩ ⟨by omega, by omega⟩ ⟨by omega, by omega⟩ W)
                    unfold mV at HSc
                    generalize Na.secP Y j d h mi sc = R at *
                    clear HF HTr HR
                    have g0 : decide ((j : Int) + 1 < 1) = false := by simp; omega
                    have g1 : decide (12 < (j : Int) + 1) = false := by simp; omega
                    have g2 : decide (d < 1) = false := by simp; omega
                    have g3 : decide (N < d) = false := by simp; omega
                    have g4 : decide (23 < h) = false := by simp; omega
                    have g5 : decide (59 < mi) = false := by simp; omega
                    have g6 : decide (59 < sc) = false := by simp; omega
                    go_wp2_with fail
                    obtain ⟨W5, hW5⟩ : ∃ W5, W5 = w.alloc (.cells #[.int .i64 Y, .int .i64 ((j : Int) + 1), .int .i64 d, .int .i64 h, .int .i64 mi, .int .i64 sc] 82) := ⟨_, rfl⟩
                    have hS : W5.drew.cell? ⟨w.heap.size, 0, none⟩ = some (.int .i64 Y) ∧ W5.drew.cell? ⟨w.heap.size, 1, none⟩ = some (.int .i64 ((j : Int) + 1)) ∧ W5.drew.cell? ⟨w.heap.size, 2, none⟩ = some (.int .i64 d) ∧ W5.drew.cell? ⟨w.heap.size, 3, none⟩ = some (.int .i64 h) ∧ W5.drew.cell? ⟨w.heap.size, 4, none⟩ = some (.int .i64 mi) ∧ W5.drew.cell? ⟨w.heap.size, 5, none⟩ = some (.int .i64 sc) := by subst hW5; exact ⟨by show (w.alloc _).cell? _ = _; rw [World.cell?_alloc_at _ _ _ _ rfl]; rfl, by show (w.alloc _).cell? _ = _; rw [World.cell?_alloc_at _ _ _ _ rfl]; rfl, by show (w.alloc _).cell? _ = _; rw [World.cell?_alloc_at _ _ _ _ rfl]; rfl, by show (w.alloc _).cell? _ = _; rw [World.cell?_alloc_at _ _ _ _ rfl]; rfl, by show (w.alloc _).cell? _ = _; rw [World.cell?_alloc_at _ _ _ _ rfl]; rfl, by show (w.alloc _).cell? _ = _; rw [World.cell?_alloc_at _ _ _ _ rfl]; rfl⟩
                    have HB5 : Hid (∀ n, BlW w (W5.drewN n)) := by subst hW5; exact fun n => HBl.out _ n
                    rw [← hW5]
                    clear hW5 HBl
                    generalize w.heap.size = B at *
                    go_region_held3 (fun W' => W'.cell? ⟨B, 0, none⟩ = some (.int .i64 Y) ∧ W'.cell? ⟨B, 1, none⟩ = some (.int .i64 ((j : Int) + 1)) ∧ W'.cell? ⟨B, 2, none⟩ = some (.int .i64 d) ∧ W'.cell? ⟨B, 3, none⟩ = some (.int .i64 h) ∧ W'.cell? ⟨B, 4, none⟩ = some (.int .i64 mi) ∧ W'.cell? ⟨B, 5, none⟩ = some (.int .i64 sc)) (first | with_reducible exact hS) (first | (go_at_call 57; refine (HDy.out _).mono ?_; rintro e w3 ⟨rfl, h3⟩; rw [h3]; clear h3 w3) | fail)
                    all_goals
                      go_wp2_with (first | (go_at_call 58; refine (HSc.out _).mono ?_; rintro e w4 ⟨rfl, b4⟩) | go_quiet (fail))
                      go_ret2
                      exact ⟨⟨(R, 0), HE.out, rfl⟩, (HB5.out 1).on b4⟩
end Go.Proofs.YtgkjpfebjhhdkaaDoor
