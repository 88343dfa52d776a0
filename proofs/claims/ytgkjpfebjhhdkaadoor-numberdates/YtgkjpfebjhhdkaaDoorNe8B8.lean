/- Dates: the plain answer's Date, of a text of digits of a fitting length (gen_ne8.py). No condition. -/
import Derived.Test.YtgkjpfebjhhdkaaDoorNe6
import Derived.Test.YtgkjpfebjhhdkaaDoorNe2
import Derived.Test.YtgkjpfebjhhdkaaDoorNe7
namespace Go.Proofs.YtgkjpfebjhhdkaaDoor
open Go.RowKit
attribute [local go_sem] ext_eq app_eq get_eq
set_option maxRecDepth 100000 in
set_option maxHeartbeats 16000000 in
theorem rDateB8 (c0 c1 c2 c3 c4 c5 c6 c7 : UInt8) (now : Int) (hd : [c0, c1, c2, c3, c4, c5, c6, c7].all (Na.dig 10) = true) (n0 : -9223372036854775808 ≤ now) (n1 : now ≤ 9223372036854775807) (hn : ¬ (now < -62167219200 ∨ 253402300800 ≤ now)) (w : World) :
    Calls Tryd.prog 27 #[.string ⟨#[c0, c1, c2, c3, c4, c5, c6, c7]⟩, .int .i64 now] w fun e w' => (∃ v, DtR [c0, c1, c2, c3, c4, c5, c6, c7] now v ∧ e = .returned (.tuple #[.int .i64 v.1, .int .i64 v.2])) ∧ Below w.heap.size w w' := by
  have HG := hidA (fun W => rDigits 10 (by decide) [c0, c1, c2, c3, c4, c5, c6, c7] W (by simp))
  have hpl : Na.pl 10 [c0, c1, c2, c3, c4, c5, c6, c7] = true := by unfold Na.pl; rw [hd]; rfl
  rw [hpl] at HG
  have HR0 : Hid (∀ Y : Int, Yn now (some Y) → ∀ v : Int × Int, v = (if Na.exB Y (Na.tw [c0, c1]) (Na.tw [c2, c3]) (Na.tw [c4, c5]) (Na.tw [c6, c7]) 0 then (Na.secP Y ((Na.tw [c0, c1]).toNat - 1) (Na.tw [c2, c3]) (Na.tw [c4, c5]) (Na.tw [c6, c7]) 0, 0) else (0, 22)) → DtR [c0, c1, c2, c3, c4, c5, c6, c7] now v) := fun Y hYn v hv => by
    refine dtr_plain ?_ (by unfold Core; rw [if_pos hpl]; exact ⟨some Y, hYn, hv⟩)
    rintro ⟨-, h⟩
    have h2 : c5 = 46 := by simpa using h
    have := List.all_eq_true.1 hd c5 (by simp)
    rw [h2] at this
    exact absurd this (by decide)
  simp only [List.all_cons, List.all_nil, Bool.and_true, Bool.and_eq_true] at hd
  obtain ⟨d0, d1, d2, d3, d4, d5, d6, d7⟩ := hd
  have n9 : c5 ≠ 46 := fun e => by rw [e] at d5; exact absurd d5 (by decide)
  have n9' := byte_no c5 46 46 rfl n9
  have HV1 := hidA (fun W => rVal2 c0 c1 d0 d1 W)
  have rg1 := Na.tw_rng (l := [c0, c1]) (by simp [d0, d1])
  have HV2 := hidA (fun W => rVal2 c2 c3 d2 d3 W)
  have rg2 := Na.tw_rng (l := [c2, c3]) (by simp [d2, d3])
  have HV3 := hidA (fun W => rVal2 c4 c5 d4 d5 W)
  have rg3 := Na.tw_rng (l := [c4, c5]) (by simp [d4, d5])
  have HV4 := hidA (fun W => rVal2 c6 c7 d6 d7 W)
  have rg4 := Na.tw_rng (l := [c6, c7]) (by simp [d6, d7])
  generalize Na.tw [c0, c1] = m at *
  generalize Na.tw [c2, c3] = d at *
  generalize Na.tw [c4, c5] = h at *
  generalize Na.tw [c6, c7] = mi at *
  clear hpl n9
  clear d0 d1 d2 d3 d4 d5 d6 d7
  have HM2 : Hid (Calls Tryd.prog 56 #[.int .i64 now] w fun e w' => (∃ Y m1 d1 h1 i1 s1 : Int, Hid (0 ≤ Y ∧ Y ≤ 9999) ∧ e = .returned (.tuple #[.agg #[.int .i64 Y, .int .i64 m1, .int .i64 d1, .int .i64 h1, .int .i64 i1, .int .i64 s1], .bool true]) ∧ Hid (Yn now (some Y))) ∧ Below w.heap.size w w') := (rCivil now n0 n1 w).mono fun e w' hx => by
    refine ⟨?_, hx.2⟩
    have ho := hx.1
    unfold OutM at ho
    rw [if_neg hn] at ho
    obtain ⟨y, j, hc, he⟩ := ho
    exact ⟨y, _, _, _, _, _, ⟨hc.y0, hc.y1⟩, he, by show Yn now (some y); unfold Yn; rw [if_neg hn]; exact ⟨y, j, hc, rfl⟩⟩
  clear n0 n1 hn
  go_enter Tryd.func27, Tryd.ntmps27
  go_wp2_with (first | (go_at_call 37; with_reducible refine (HG.out _).mono ?_; rintro e w1 ⟨rfl, h1⟩; rw [h1]; clear h1 w1) | go_quiet (fail))
  go_at_call 56
  refine HM2.out.mono ?_
  rintro e w1 ⟨⟨Y, m1, d1, h1, i1, s1, HYr, rfl, HYn⟩, b1⟩
  have HBA := hidA (b1.alloc b1.size (.cells #[.int .i64 Y, .int .i64 m1, .int .i64 d1, .int .i64 h1, .int .i64 i1, .int .i64 s1] 82))
  have HR := hidA (HR0.out Y HYn.out)
  clear HR0 HM2 HYn b1
  go_wp2_with (first | go_quiet (fail))
  obtain ⟨V, hV⟩ : ∃ V, V = w1.alloc (.cells #[.int .i64 Y, .int .i64 m1, .int .i64 d1, .int .i64 h1, .int .i64 i1, .int .i64 s1] 82) := ⟨_, rfl⟩
  have hsz : w1.heap.size + 1 = V.heap.size := by rw [hV]; exact (Array.size_push _).symm
  rw [← hV, hsz]
  rw [← hV] at HBA
  clear hV hsz
  go_loopw [12] (fun i W => (i = .int .i64 0 ∧ W = V.alloc (.cells #[.int .i64 Y, .int .i64 0, .int .i64 0, .int .i64 0, .int .i64 0, .int .i64 0] 82)) ∨ (i = .int .i64 1 ∧ W = V.alloc (.cells #[.int .i64 Y, .int .i64 m, .int .i64 0, .int .i64 0, .int .i64 0, .int .i64 0] 82)) ∨ (i = .int .i64 2 ∧ W = V.alloc (.cells #[.int .i64 Y, .int .i64 m, .int .i64 d, .int .i64 0, .int .i64 0, .int .i64 0] 82)) ∨ (i = .int .i64 3 ∧ W = V.alloc (.cells #[.int .i64 Y, .int .i64 m, .int .i64 d, .int .i64 h, .int .i64 0, .int .i64 0] 82)) ∨ (i = .int .i64 4 ∧ W = V.alloc (.cells #[.int .i64 Y, .int .i64 m, .int .i64 d, .int .i64 h, .int .i64 mi, .int .i64 0] 82))) (fun i _ => 4 - (intOf i).toNat)
  case atStart => exact .inl ⟨rfl, rfl⟩
  case round =>
    rcases hrel with ⟨rfl, rfl⟩ | ⟨rfl, rfl⟩ | ⟨rfl, rfl⟩ | ⟨rfl, rfl⟩ | ⟨rfl, rfl⟩
    · go_wp2_with (first | (go_at_call 38; with_reducible refine (HV1.out _).mono ?_; rintro e w2 ⟨rfl, h2⟩; rw [h2]; clear h2 w2) | go_quiet (fail))
      exact ⟨.inr (.inl ⟨rfl, by first | rfl | trivial⟩), by simp [intOf]⟩
    · go_wp2_with (first | (go_at_call 38; with_reducible refine (HV2.out _).mono ?_; rintro e w2 ⟨rfl, h2⟩; rw [h2]; clear h2 w2) | go_quiet (fail))
      exact ⟨.inr (.inr (.inl ⟨rfl, by first | rfl | trivial⟩)), by simp [intOf]⟩
    · go_wp2_with (first | (go_at_call 38; with_reducible refine (HV3.out _).mono ?_; rintro e w2 ⟨rfl, h2⟩; rw [h2]; clear h2 w2) | go_quiet (fail))
      exact ⟨.inr (.inr (.inr (.inl ⟨rfl, by first | rfl | trivial⟩))), by simp [intOf]⟩
    · go_wp2_with (first | (go_at_call 38; with_reducible refine (HV4.out _).mono ?_; rintro e w2 ⟨rfl, h2⟩; rw [h2]; clear h2 w2) | go_quiet (fail))
      exact ⟨.inr (.inr (.inr (.inr (⟨rfl, by first | rfl | trivial⟩)))), by simp [intOf]⟩
    · have HF : Hid (Na.exB Y m d h mi 0 = false → DtR [c0, c1, c2, c3, c4, c5, c6, c7] now (0, 22)) := fun h => HR.out _ (by rw [h]; rfl)
      have HTr : Hid (Na.exB Y m d h mi 0 = true → DtR [c0, c1, c2, c3, c4, c5, c6, c7] now (Na.secP Y (m.toNat - 1) d h mi 0, 0)) := fun h => HR.out _ (by rw [h]; rfl)
      have HBl : Hid (∀ o n, Below w.heap.size w ((V.alloc o).drewN n)) := fun o n => bl2 (HBA.out.alloc HBA.out.size o) (bl_drew _ n)
      by_cases h1 : m < 1
      · skip
        have HE := hidA (HF.out (by unfold Na.exB; simp [h1]))
        clear HF HTr HR
        have g0 : decide (m < 1) = true := by simp; omega
        go_wp2_with fail
        obtain ⟨W5, hW5⟩ : ∃ W5, W5 = V.alloc (.cells #[.int .i64 Y, .int .i64 m, .int .i64 d, .int .i64 h, .int .i64 mi, .int .i64 0] 82) := ⟨_, rfl⟩
        have hS : W5.cell? ⟨V.heap.size, 0, none⟩ = some (.int .i64 Y) ∧ W5.cell? ⟨V.heap.size, 1, none⟩ = some (.int .i64 m) ∧ W5.cell? ⟨V.heap.size, 2, none⟩ = some (.int .i64 d) ∧ W5.cell? ⟨V.heap.size, 3, none⟩ = some (.int .i64 h) ∧ W5.cell? ⟨V.heap.size, 4, none⟩ = some (.int .i64 mi) ∧ W5.cell? ⟨V.heap.size, 5, none⟩ = some (.int .i64 0) := by subst hW5; exact ⟨by show (World.alloc _ _).cell? _ = _; rw [World.cell?_alloc_at _ _ _ _ (by first | rfl | simp [World.alloc])]; rfl, by show (World.alloc _ _).cell? _ = _; rw [World.cell?_alloc_at _ _ _ _ (by first | rfl | simp [World.alloc])]; rfl, by show (World.alloc _ _).cell? _ = _; rw [World.cell?_alloc_at _ _ _ _ (by first | rfl | simp [World.alloc])]; rfl, by show (World.alloc _ _).cell? _ = _; rw [World.cell?_alloc_at _ _ _ _ (by first | rfl | simp [World.alloc])]; rfl, by show (World.alloc _ _).cell? _ = _; rw [World.cell?_alloc_at _ _ _ _ (by first | rfl | simp [World.alloc])]; rfl, by show (World.alloc _ _).cell? _ = _; rw [World.cell?_alloc_at _ _ _ _ (by first | rfl | simp [World.alloc])]; rfl⟩
        have HB5 : Hid (∀ n, BlW w (W5.drewN n)) := by subst hW5; exact fun n => HBl.out _ n
        rw [← hW5]
        clear hW5 HBl
        generalize V.heap.size = B at *
        obtain ⟨s0, s1, s2, s3, s4, s5⟩ := hS
        go_quiet (fail)
        all_goals
          go_wp2
          go_ret2
          exact ⟨⟨(0, 22), HE.out, rfl⟩, by first | exact HB5.out 1 | exact HB5.out 0 | exact HB5.out _⟩
      · by_cases h2 : 12 < m
        · skip
          have HE := hidA (HF.out (by unfold Na.exB; simp [h2]))
          clear HF HTr HR
          have g0 : decide (m < 1) = false := by simp; omega
          have g1 : decide (12 < m) = true := by simp; omega
          go_wp2_with fail
          obtain ⟨W5, hW5⟩ : ∃ W5, W5 = V.alloc (.cells #[.int .i64 Y, .int .i64 m, .int .i64 d, .int .i64 h, .int .i64 mi, .int .i64 0] 82) := ⟨_, rfl⟩
          have hS : W5.cell? ⟨V.heap.size, 0, none⟩ = some (.int .i64 Y) ∧ W5.cell? ⟨V.heap.size, 1, none⟩ = some (.int .i64 m) ∧ W5.cell? ⟨V.heap.size, 2, none⟩ = some (.int .i64 d) ∧ W5.cell? ⟨V.heap.size, 3, none⟩ = some (.int .i64 h) ∧ W5.cell? ⟨V.heap.size, 4, none⟩ = some (.int .i64 mi) ∧ W5.cell? ⟨V.heap.size, 5, none⟩ = some (.int .i64 0) := by subst hW5; exact ⟨by show (World.alloc _ _).cell? _ = _; rw [World.cell?_alloc_at _ _ _ _ (by first | rfl | simp [World.alloc])]; rfl, by show (World.alloc _ _).cell? _ = _; rw [World.cell?_alloc_at _ _ _ _ (by first | rfl | simp [World.alloc])]; rfl, by show (World.alloc _ _).cell? _ = _; rw [World.cell?_alloc_at _ _ _ _ (by first | rfl | simp [World.alloc])]; rfl, by show (World.alloc _ _).cell? _ = _; rw [World.cell?_alloc_at _ _ _ _ (by first | rfl | simp [World.alloc])]; rfl, by show (World.alloc _ _).cell? _ = _; rw [World.cell?_alloc_at _ _ _ _ (by first | rfl | simp [World.alloc])]; rfl, by show (World.alloc _ _).cell? _ = _; rw [World.cell?_alloc_at _ _ _ _ (by first | rfl | simp [World.alloc])]; rfl⟩
          have HB5 : Hid (∀ n, BlW w (W5.drewN n)) := by subst hW5; exact fun n => HBl.out _ n
          rw [← hW5]
          clear hW5 HBl
          generalize V.heap.size = B at *
          obtain ⟨s0, s1, s2, s3, s4, s5⟩ := hS
          go_quiet (fail)
          all_goals
            go_wp2
            go_ret2
            exact ⟨⟨(0, 22), HE.out, rfl⟩, by first | exact HB5.out 1 | exact HB5.out 0 | exact HB5.out _⟩
        · by_cases h3 : d < 1
          · skip
            have HE := hidA (HF.out (by unfold Na.exB; simp [h3]))
            clear HF HTr HR
            have g0 : decide (m < 1) = false := by simp; omega
            have g1 : decide (12 < m) = false := by simp; omega
            have g2 : decide (d < 1) = true := by simp; omega
            go_wp2_with fail
            obtain ⟨W5, hW5⟩ : ∃ W5, W5 = V.alloc (.cells #[.int .i64 Y, .int .i64 m, .int .i64 d, .int .i64 h, .int .i64 mi, .int .i64 0] 82) := ⟨_, rfl⟩
            have hS : W5.cell? ⟨V.heap.size, 0, none⟩ = some (.int .i64 Y) ∧ W5.cell? ⟨V.heap.size, 1, none⟩ = some (.int .i64 m) ∧ W5.cell? ⟨V.heap.size, 2, none⟩ = some (.int .i64 d) ∧ W5.cell? ⟨V.heap.size, 3, none⟩ = some (.int .i64 h) ∧ W5.cell? ⟨V.heap.size, 4, none⟩ = some (.int .i64 mi) ∧ W5.cell? ⟨V.heap.size, 5, none⟩ = some (.int .i64 0) := by subst hW5; exact ⟨by show (World.alloc _ _).cell? _ = _; rw [World.cell?_alloc_at _ _ _ _ (by first | rfl | simp [World.alloc])]; rfl, by show (World.alloc _ _).cell? _ = _; rw [World.cell?_alloc_at _ _ _ _ (by first | rfl | simp [World.alloc])]; rfl, by show (World.alloc _ _).cell? _ = _; rw [World.cell?_alloc_at _ _ _ _ (by first | rfl | simp [World.alloc])]; rfl, by show (World.alloc _ _).cell? _ = _; rw [World.cell?_alloc_at _ _ _ _ (by first | rfl | simp [World.alloc])]; rfl, by show (World.alloc _ _).cell? _ = _; rw [World.cell?_alloc_at _ _ _ _ (by first | rfl | simp [World.alloc])]; rfl, by show (World.alloc _ _).cell? _ = _; rw [World.cell?_alloc_at _ _ _ _ (by first | rfl | simp [World.alloc])]; rfl⟩
            have HB5 : Hid (∀ n, BlW w (W5.drewN n)) := by subst hW5; exact fun n => HBl.out _ n
            rw [← hW5]
            clear hW5 HBl
            generalize V.heap.size = B at *
            obtain ⟨s0, s1, s2, s3, s4, s5⟩ := hS
            go_quiet (fail)
            all_goals
              go_wp2
              go_ret2
              exact ⟨⟨(0, 22), HE.out, rfl⟩, by first | exact HB5.out 1 | exact HB5.out 0 | exact HB5.out _⟩
          · obtain ⟨j, rfl⟩ : ∃ j : Nat, m = (j : Int) + 1 := ⟨(m - 1).toNat, by omega⟩
            have hj : j < 12 := by omega
            have hj1 : ((j : Int) + 1).toNat = j + 1 := by omega
            have HDy := hidA (fun W => rDays Y HYr.out.1 j hj W)
            obtain ⟨N, hN⟩ : ∃ N, Na.mb Y (j + 1) - Na.mb Y j = N := ⟨_, rfl⟩
            rw [hN] at HDy
            have HN := hidA hN
            clear hN
            by_cases h4 : N < d
            · skip
              have HE := hidA (HF.out (by unfold Na.exB; rw [hj1, Nat.add_sub_cancel, HN.out]; simp; omega))
              clear HF HTr HR
              have g0 : decide ((j : Int) + 1 < 1) = false := by simp; omega
              have g1 : decide (12 < (j : Int) + 1) = false := by simp; omega
              have g2 : decide (d < 1) = false := by simp; omega
              have g3 : decide (N < d) = true := by simp; omega
              go_wp2_with fail
              obtain ⟨W5, hW5⟩ : ∃ W5, W5 = V.alloc (.cells #[.int .i64 Y, .int .i64 ((j : Int) + 1), .int .i64 d, .int .i64 h, .int .i64 mi, .int .i64 0] 82) := ⟨_, rfl⟩
              have hS : W5.cell? ⟨V.heap.size, 0, none⟩ = some (.int .i64 Y) ∧ W5.cell? ⟨V.heap.size, 1, none⟩ = some (.int .i64 ((j : Int) + 1)) ∧ W5.cell? ⟨V.heap.size, 2, none⟩ = some (.int .i64 d) ∧ W5.cell? ⟨V.heap.size, 3, none⟩ = some (.int .i64 h) ∧ W5.cell? ⟨V.heap.size, 4, none⟩ = some (.int .i64 mi) ∧ W5.cell? ⟨V.heap.size, 5, none⟩ = some (.int .i64 0) := by subst hW5; exact ⟨by show (World.alloc _ _).cell? _ = _; rw [World.cell?_alloc_at _ _ _ _ (by first | rfl | simp [World.alloc])]; rfl, by show (World.alloc _ _).cell? _ = _; rw [World.cell?_alloc_at _ _ _ _ (by first | rfl | simp [World.alloc])]; rfl, by show (World.alloc _ _).cell? _ = _; rw [World.cell?_alloc_at _ _ _ _ (by first | rfl | simp [World.alloc])]; rfl, by show (World.alloc _ _).cell? _ = _; rw [World.cell?_alloc_at _ _ _ _ (by first | rfl | simp [World.alloc])]; rfl, by show (World.alloc _ _).cell? _ = _; rw [World.cell?_alloc_at _ _ _ _ (by first | rfl | simp [World.alloc])]; rfl, by show (World.alloc _ _).cell? _ = _; rw [World.cell?_alloc_at _ _ _ _ (by first | rfl | simp [World.alloc])]; rfl⟩
              have HB5 : Hid (∀ n, BlW w (W5.drewN n)) := by subst hW5; exact fun n => HBl.out _ n
              rw [← hW5]
              clear hW5 HBl
              generalize V.heap.size = B at *
              obtain ⟨s0, s1, s2, s3, s4, s5⟩ := hS
              go_quiet ((go_at_call 57; exact Calls.quiet_of_same (HDy.out _)))
              all_goals
                go_wp2
                go_ret2
                exact ⟨⟨(0, 22), HE.out, rfl⟩, by first | exact HB5.out 1 | exact HB5.out 0 | exact HB5.out _⟩
            · by_cases h5 : 23 < h
              · skip
                have HE := hidA (HF.out (by unfold Na.exB; simp; omega))
                clear HF HTr HR
                have g0 : decide ((j : Int) + 1 < 1) = false := by simp; omega
                have g1 : decide (12 < (j : Int) + 1) = false := by simp; omega
                have g2 : decide (d < 1) = false := by simp; omega
                have g3 : decide (N < d) = false := by simp; omega
                have g4 : decide (23 < h) = true := by simp; omega
                go_wp2_with fail
                obtain ⟨W5, hW5⟩ : ∃ W5, W5 = V.alloc (.cells #[.int .i64 Y, .int .i64 ((j : Int) + 1), .int .i64 d, .int .i64 h, .int .i64 mi, .int .i64 0] 82) := ⟨_, rfl⟩
                have hS : W5.cell? ⟨V.heap.size, 0, none⟩ = some (.int .i64 Y) ∧ W5.cell? ⟨V.heap.size, 1, none⟩ = some (.int .i64 ((j : Int) + 1)) ∧ W5.cell? ⟨V.heap.size, 2, none⟩ = some (.int .i64 d) ∧ W5.cell? ⟨V.heap.size, 3, none⟩ = some (.int .i64 h) ∧ W5.cell? ⟨V.heap.size, 4, none⟩ = some (.int .i64 mi) ∧ W5.cell? ⟨V.heap.size, 5, none⟩ = some (.int .i64 0) := by subst hW5; exact ⟨by show (World.alloc _ _).cell? _ = _; rw [World.cell?_alloc_at _ _ _ _ (by first | rfl | simp [World.alloc])]; rfl, by show (World.alloc _ _).cell? _ = _; rw [World.cell?_alloc_at _ _ _ _ (by first | rfl | simp [World.alloc])]; rfl, by show (World.alloc _ _).cell? _ = _; rw [World.cell?_alloc_at _ _ _ _ (by first | rfl | simp [World.alloc])]; rfl, by show (World.alloc _ _).cell? _ = _; rw [World.cell?_alloc_at _ _ _ _ (by first | rfl | simp [World.alloc])]; rfl, by show (World.alloc _ _).cell? _ = _; rw [World.cell?_alloc_at _ _ _ _ (by first | rfl | simp [World.alloc])]; rfl, by show (World.alloc _ _).cell? _ = _; rw [World.cell?_alloc_at _ _ _ _ (by first | rfl | simp [World.alloc])]; rfl⟩
                have HB5 : Hid (∀ n, BlW w (W5.drewN n)) := by subst hW5; exact fun n => HBl.out _ n
                rw [← hW5]
                clear hW5 HBl
                generalize V.heap.size = B at *
                obtain ⟨s0, s1, s2, s3, s4, s5⟩ := hS
                go_quiet ((go_at_call 57; exact Calls.quiet_of_same (HDy.out _)))
                all_goals
                  go_wp2
                  go_ret2
                  exact ⟨⟨(0, 22), HE.out, rfl⟩, by first | exact HB5.out 1 | exact HB5.out 0 | exact HB5.out _⟩
              · by_cases h6 : 59 < mi
                · skip
                  have HE := hidA (HF.out (by unfold Na.exB; simp; omega))
                  clear HF HTr HR
                  have g0 : decide ((j : Int) + 1 < 1) = false := by simp; omega
                  have g1 : decide (12 < (j : Int) + 1) = false := by simp; omega
                  have g2 : decide (d < 1) = false := by simp; omega
                  have g3 : decide (N < d) = false := by simp; omega
                  have g4 : decide (23 < h) = false := by simp; omega
                  have g5 : decide (59 < mi) = true := by simp; omega
                  go_wp2_with fail
                  obtain ⟨W5, hW5⟩ : ∃ W5, W5 = V.alloc (.cells #[.int .i64 Y, .int .i64 ((j : Int) + 1), .int .i64 d, .int .i64 h, .int .i64 mi, .int .i64 0] 82) := ⟨_, rfl⟩
                  have hS : W5.cell? ⟨V.heap.size, 0, none⟩ = some (.int .i64 Y) ∧ W5.cell? ⟨V.heap.size, 1, none⟩ = some (.int .i64 ((j : Int) + 1)) ∧ W5.cell? ⟨V.heap.size, 2, none⟩ = some (.int .i64 d) ∧ W5.cell? ⟨V.heap.size, 3, none⟩ = some (.int .i64 h) ∧ W5.cell? ⟨V.heap.size, 4, none⟩ = some (.int .i64 mi) ∧ W5.cell? ⟨V.heap.size, 5, none⟩ = some (.int .i64 0) := by subst hW5; exact ⟨by show (World.alloc _ _).cell? _ = _; rw [World.cell?_alloc_at _ _ _ _ (by first | rfl | simp [World.alloc])]; rfl, by show (World.alloc _ _).cell? _ = _; rw [World.cell?_alloc_at _ _ _ _ (by first | rfl | simp [World.alloc])]; rfl, by show (World.alloc _ _).cell? _ = _; rw [World.cell?_alloc_at _ _ _ _ (by first | rfl | simp [World.alloc])]; rfl, by show (World.alloc _ _).cell? _ = _; rw [World.cell?_alloc_at _ _ _ _ (by first | rfl | simp [World.alloc])]; rfl, by show (World.alloc _ _).cell? _ = _; rw [World.cell?_alloc_at _ _ _ _ (by first | rfl | simp [World.alloc])]; rfl, by show (World.alloc _ _).cell? _ = _; rw [World.cell?_alloc_at _ _ _ _ (by first | rfl | simp [World.alloc])]; rfl⟩
                  have HB5 : Hid (∀ n, BlW w (W5.drewN n)) := by subst hW5; exact fun n => HBl.out _ n
                  rw [← hW5]
                  clear hW5 HBl
                  generalize V.heap.size = B at *
                  obtain ⟨s0, s1, s2, s3, s4, s5⟩ := hS
                  go_quiet ((go_at_call 57; exact Calls.quiet_of_same (HDy.out _)))
                  all_goals
                    go_wp2
                    go_ret2
                    exact ⟨⟨(0, 22), HE.out, rfl⟩, by first | exact HB5.out 1 | exact HB5.out 0 | exact HB5.out _⟩
                · skip
                  have HE := hidA (HTr.out (by unfold Na.exB; rw [hj1, Nat.add_sub_cancel, HN.out]; simp; omega))
                  rw [hj1, Nat.add_sub_cancel] at HE
                  have HSc := hidA (fun W => rSecond Y j d h mi 0 HYr.out.1 HYr.out.2 hj ⟨by omega, by omega⟩ ⟨by omega, by omega⟩ ⟨by omega, by omega⟩ ⟨by omega, by omega⟩ W)
                  unfold mV at HSc
                  generalize Na.secP Y j d h mi 0 = R at *
                  clear HF HTr HR
                  have g0 : decide ((j : Int) + 1 < 1) = false := by simp; omega
                  have g1 : decide (12 < (j : Int) + 1) = false := by simp; omega
                  have g2 : decide (d < 1) = false := by simp; omega
                  have g3 : decide (N < d) = false := by simp; omega
                  have g4 : decide (23 < h) = false := by simp; omega
                  have g5 : decide (59 < mi) = false := by simp; omega
                  go_wp2_with fail
                  obtain ⟨W5, hW5⟩ : ∃ W5, W5 = V.alloc (.cells #[.int .i64 Y, .int .i64 ((j : Int) + 1), .int .i64 d, .int .i64 h, .int .i64 mi, .int .i64 0] 82) := ⟨_, rfl⟩
                  have hS : W5.drew.cell? ⟨V.heap.size, 0, none⟩ = some (.int .i64 Y) ∧ W5.drew.cell? ⟨V.heap.size, 1, none⟩ = some (.int .i64 ((j : Int) + 1)) ∧ W5.drew.cell? ⟨V.heap.size, 2, none⟩ = some (.int .i64 d) ∧ W5.drew.cell? ⟨V.heap.size, 3, none⟩ = some (.int .i64 h) ∧ W5.drew.cell? ⟨V.heap.size, 4, none⟩ = some (.int .i64 mi) ∧ W5.drew.cell? ⟨V.heap.size, 5, none⟩ = some (.int .i64 0) := by subst hW5; exact ⟨by show (World.alloc _ _).cell? _ = _; rw [World.cell?_alloc_at _ _ _ _ (by first | rfl | simp [World.alloc])]; rfl, by show (World.alloc _ _).cell? _ = _; rw [World.cell?_alloc_at _ _ _ _ (by first | rfl | simp [World.alloc])]; rfl, by show (World.alloc _ _).cell? _ = _; rw [World.cell?_alloc_at _ _ _ _ (by first | rfl | simp [World.alloc])]; rfl, by show (World.alloc _ _).cell? _ = _; rw [World.cell?_alloc_at _ _ _ _ (by first | rfl | simp [World.alloc])]; rfl, by show (World.alloc _ _).cell? _ = _; rw [World.cell?_alloc_at _ _ _ _ (by first | rfl | simp [World.alloc])]; rfl, by show (World.alloc _ _).cell? _ = _; rw [World.cell?_alloc_at _ _ _ _ (by first | rfl | simp [World.alloc])]; rfl⟩
                  have HB5 : Hid (∀ n, BlW w (W5.drewN n)) := by subst hW5; exact fun n => HBl.out _ n
                  rw [← hW5]
                  clear hW5 HBl
                  generalize V.heap.size = B at *
                  go_region_held3 (fun W' => W'.cell? ⟨B, 0, none⟩ = some (.int .i64 Y) ∧ W'.cell? ⟨B, 1, none⟩ = some (.int .i64 ((j : Int) + 1)) ∧ W'.cell? ⟨B, 2, none⟩ = some (.int .i64 d) ∧ W'.cell? ⟨B, 3, none⟩ = some (.int .i64 h) ∧ W'.cell? ⟨B, 4, none⟩ = some (.int .i64 mi) ∧ W'.cell? ⟨B, 5, none⟩ = some (.int .i64 0)) (first | with_reducible exact hS) (first | (go_at_call 57; refine (HDy.out _).mono ?_; rintro e w3 ⟨rfl, h3⟩; rw [h3]; clear h3 w3) | fail)
                  all_goals
                    go_wp2_with (first | (go_at_call 58; refine (HSc.out _).mono ?_; rintro e w4 ⟨rfl, b4⟩) | go_quiet (fail))
                    go_ret2
                    exact ⟨⟨(R, 0), HE.out, rfl⟩, (HB5.out 1).on b4⟩
end Go.Proofs.YtgkjpfebjhhdkaaDoor
