/- Dates: momentOf. Condition: the table of days reads as its text lays it. -/
import Derived.Test.YtgkjpfebjhhdkaaDoorNd2
namespace Go.Proofs.YtgkjpfebjhhdkaaDoor
open Go.RowKit
namespace Na
/-- The day D (counted from the first one of the year 0) lies in month j + 1 of the year y. -/
structure Cv (D y : Int) (j : Nat) : Prop where
  y0 : 0 ≤ y
  y1 : y ≤ 9999
  lo : yb y ≤ D
  hi : D < yb (y + 1)
  j1 : j < 12
  ml : mb y j ≤ D - yb y
  mh : D - yb y < mb y (j + 1)
theorem yb_step (y : Int) : yb (y + 1) - yb y = mb y 12 := by
  unfold yb mb leapN leapB
  by_cases h : (y % 4 = 0 ∧ y % 100 ≠ 0) ∨ y % 400 = 0
  · rw [if_pos (by simpa using h)]
    show _ = (366 : Int)
    omega
  · rw [if_neg (by simpa using h)]
    show _ = (365 : Int)
    omega
theorem mb_zero (y : Int) : mb y 0 = 0 := by
  unfold mb
  have := leapN_le y
  obtain h | h : leapN y = 0 ∨ leapN y = 1 := by omega
  · rw [h]; rfl
  · rw [h]; rfl
theorem yb_366 {D : Int} (h : 0 ≤ D) : yb (D / 366) ≤ D := by unfold yb; omega
theorem yb_10000 {y D : Int} (h : yb y ≤ D) (h2 : D < 3652425) : y ≤ 9999 := by unfold yb at h; omega
end Na
/-- momentOf's result's cells, in block B. -/
structure Mo (w : World) (B : Nat) (W : World) : Prop where
  bel : Below B w W
  c0 : W.cell? ⟨B, 0, none⟩ = some (.int .i64 0)
  c1 : W.cell? ⟨B, 1, none⟩ = some (.int .i64 0)
  c2 : W.cell? ⟨B, 2, none⟩ = some (.int .i64 0)
  c3 : W.cell? ⟨B, 3, none⟩ = some (.int .i64 0)
  c4 : W.cell? ⟨B, 4, none⟩ = some (.int .i64 0)
  c5 : W.cell? ⟨B, 5, none⟩ = some (.int .i64 0)
  fz : ∀ o, W.frozen? ⟨B, o, none⟩ = false
theorem Mo.start (w : World) : Mo w w.heap.size (w.alloc (.cells #[.int .i64 0, .int .i64 0, .int .i64 0, .int .i64 0, .int .i64 0, .int .i64 0] 80)) := by
  refine ⟨(Below.refl _ _).alloc (Nat.le_refl _) _, ?_, ?_, ?_, ?_, ?_, ?_, fun o => ?_⟩
  all_goals first | (rw [World.cell?_alloc_at _ _ _ _ rfl]; rfl) | (rw [World.frozen?_alloc_at _ _ _ _ rfl])
theorem Mo.grow {w W W' : World} {B : Nat} (h : Mo w B W) (hB : Below W.heap.size W W') : Mo w B W' := by
  have hlt : B < W.heap.size := World.block_lt_of_cell? _ _ h.c0
  have e0 : W'.heap[B]? = W.heap[B]? := hB.block _ hlt
  exact ⟨h.bel.trans (hB.mono (by omega)), (World.cell?_of_block (a := ⟨B, 0, none⟩) e0).trans h.c0, (World.cell?_of_block (a := ⟨B, 1, none⟩) e0).trans h.c1, (World.cell?_of_block (a := ⟨B, 2, none⟩) e0).trans h.c2, (World.cell?_of_block (a := ⟨B, 3, none⟩) e0).trans h.c3, (World.cell?_of_block (a := ⟨B, 4, none⟩) e0).trans h.c4, (World.cell?_of_block (a := ⟨B, 5, none⟩) e0).trans h.c5,
    fun o => (World.frozen?_of_block (a := ⟨B, o, none⟩) e0).trans (h.fz o)⟩
theorem Mo.fin {w W : World} {B : Nat} (h : Mo w B W) (v0 v1 v2 v3 v4 v5 : Value) : Below B w ((((((W.setCell ⟨B, 0, none⟩ v0).setCell ⟨B, 1, none⟩ v1).setCell ⟨B, 2, none⟩ v2).setCell ⟨B, 3, none⟩ v3).setCell ⟨B, 4, none⟩ v4).setCell ⟨B, 5, none⟩ v5) :=
  (((((h.bel.setCell (Nat.le_refl _) _).setCell (Nat.le_refl _) _).setCell (Nat.le_refl _) _).setCell (Nat.le_refl _) _).setCell (Nat.le_refl _) _).setCell (Nat.le_refl _) _
def OutM (t : Int) (e : Ending) : Prop :=
  if t < -62167219200 ∨ 253402300800 ≤ t then e = .returned (.tuple #[mV 0 0 0 0 0 0, .bool false])
  else ∃ (y : Int) (j : Nat), Na.Cv ((t + 62167219200) / 86400) y j ∧ e = .returned (.tuple #[mV y ((j : Int) + 1) ((t + 62167219200) / 86400 - Na.yb y - Na.mb y j + 1) ((t + 62167219200) % 86400 / 3600) ((t + 62167219200) % 86400 / 60 % 60) ((t + 62167219200) % 86400 % 60), .bool true])
theorem sec_first : Na.secP 0 0 1 0 0 0 = -62167219200 := by decide +kernel
theorem sec_behind : Na.secP 10000 0 1 0 0 0 = 253402300800 := by decide +kernel
set_option maxRecDepth 100000 in
set_option maxHeartbeats 4000000 in
theorem nMomentOf (t : Int) (h0 : -9223372036854775808 ≤ t) (h1 : t ≤ 9223372036854775807) (w : World) (ht : DT w) : Calls Tryd.prog 59 #[.int .i64 t] w fun e w' => OutM t e ∧ Below w.heap.size w w' := by
  have HS1 := hidA (fun w ht => nSeconds 0 0 1 0 0 0 (by decide) (by decide) (by decide) (by decide) (by decide) (by decide) (by decide) w ht)
  have HS2 := hidA (fun w ht => nSeconds 10000 0 1 0 0 0 (by decide) (by decide) (by decide) (by decide) (by decide) (by decide) (by decide) w ht)
  simp only [sec_first, sec_behind, mV, Int.natCast_zero, Int.zero_add] at HS1 HS2
  have HT := hidA (fun w' b => ht.on (w' := w') b)
  have HM0 := hidA (Mo.start w)
  clear ht
  by_cases hb : t < -62167219200 ∨ 253402300800 ≤ t
  · have HE : Hid (∀ e, e = .returned (.tuple #[mV 0 0 0 0 0 0, .bool false]) → OutM t e) := fun e he => by unfold OutM; rw [if_pos hb]; exact he
    by_cases h2 : t < -62167219200
    · go_enter Tryd.func59, Tryd.ntmps59
      go_wp2_with (go_at_call 55; first | (with_reducible refine (HS1.out _ (HT.out _ HM0.out.bel)).mono ?_; rintro e w1 ⟨rfl, b1⟩; have HM1 := hidA (HM0.out.grow b1); clear b1) | (with_reducible refine (HS2.out _ (HT.out _ HM1.out.bel)).mono ?_; rintro e w2 ⟨rfl, b2⟩; have HM2 := hidA (HM1.out.grow b2); obtain ⟨_, c0, c1, c2, c3, c4, c5, fz⟩ := HM2.out; clear b2))
      (try simp only [Exit.inBlock, Exit.then])
      refine bodyPost_ret (by simp [results, Tryd.results59, go_sem, c0, c1, c2, c3, c4, c5]; rfl) rfl ?_
      exact ⟨HE.out _ rfl, HM2.out.fin _ _ _ _ _ _⟩
    · have h3 : 253402300800 ≤ t := by omega
      go_enter Tryd.func59, Tryd.ntmps59
      go_wp2_with (go_at_call 55; first | (with_reducible refine (HS1.out _ (HT.out _ HM0.out.bel)).mono ?_; rintro e w1 ⟨rfl, b1⟩; have HM1 := hidA (HM0.out.grow b1); clear b1) | (with_reducible refine (HS2.out _ (HT.out _ HM1.out.bel)).mono ?_; rintro e w2 ⟨rfl, b2⟩; have HM2 := hidA (HM1.out.grow b2); obtain ⟨_, c0, c1, c2, c3, c4, c5, fz⟩ := HM2.out; clear b2))
      (try simp only [Exit.inBlock, Exit.then])
      refine bodyPost_ret (by simp [results, Tryd.results59, go_sem, c0, c1, c2, c3, c4, c5]; rfl) rfl ?_
      exact ⟨HE.out _ rfl, HM2.out.fin _ _ _ _ _ _⟩
  · obtain ⟨D, hD⟩ : ∃ D, (t + 62167219200) / 86400 = D := ⟨_, rfl⟩
    obtain ⟨R, hR⟩ : ∃ R, (t + 62167219200) % 86400 = R := ⟨_, rfl⟩
    have HE : Hid (∀ e (y : Int) (j : Nat), Na.Cv D y j → e = .returned (.tuple #[mV y ((j : Int) + 1) (D - Na.yb y - Na.mb y j + 1) (R / 3600) (R / 60 % 60) (R % 60), .bool true]) → OutM t e) := fun e y j hc he => by
      unfold OutM; rw [if_neg hb, hD, hR]; exact ⟨y, j, hc, he⟩
    have g1 : ¬ t < -62167219200 := by omega
    have g2 : ¬ 253402300800 ≤ t := by omega
    have hD0 : 0 ≤ D := by omega
    have hD1 : D < 3652425 := by omega
    have hR0 : 0 ≤ R := by omega
    have hR1 : R < 86400 := by omega
    have e3 : D.tdiv 366 = D / 366 := Int.tdiv_eq_ediv_of_nonneg hD0
    have e4 : R.tdiv 3600 = R / 3600 := Int.tdiv_eq_ediv_of_nonneg hR0
    have e5 : R.tdiv 60 = R / 60 := Int.tdiv_eq_ediv_of_nonneg hR0
    have e6 : (R / 60).tmod 60 = R / 60 % 60 := Int.tmod_eq_emod_of_nonneg (by omega)
    have e7 : R.tmod 60 = R % 60 := Int.tmod_eq_emod_of_nonneg hR0
    have hy0 : 0 ≤ D / 366 := by omega
    have hyb := hidA (Na.yb_366 hD0)
    have g3 : decide (t < -62167219200) = false := by simpa using g1
    have g4 : decide (253402300800 ≤ t) = false := by simpa using g2
    have HD := hidA hD
    have HRR := hidA hR
    clear hb hD hR
    go_enter Tryd.func59, Tryd.ntmps59
    go_wp2_with (go_at_call 55; first | (with_reducible refine (HS1.out _ (HT.out _ HM0.out.bel)).mono ?_; rintro e w1 ⟨rfl, b1⟩; have HM1 := hidA (HM0.out.grow b1); clear b1) | (with_reducible refine (HS2.out _ (HT.out _ HM1.out.bel)).mono ?_; rintro e w2 ⟨rfl, b2⟩; have HM2 := hidA (HM1.out.grow b2); clear b2))
    simp only [HD.out, HRR.out]
    clear HD HRR
    have HY := hidA (fun (y : Int) (h0 : 0 ≤ y) (h1 : y ≤ 10000) (w : World) => nYearBegin y h0 (by omega) w)
    have HMB := hidA (fun (y : Int) (h0 : 0 ≤ y) (j : Nat) (hj : j < 13) => nMonthBegin y h0 j hj w2 (HT.out _ HM2.out.bel))
    clear HS1 HS2 HM0 HM1 HT
    go_loopw [8] (fun yv w' => ∃ (y : Int), yv = .int .i64 y ∧ 0 ≤ y ∧ y ≤ 9999 ∧ w' = w2 ∧ Hid (Na.yb y ≤ D)) (fun yv _ => (10000 - intOf yv).toNat)
    case atStart => exact ⟨D / 366, rfl, hy0, Na.yb_10000 hyb.out hD1, rfl, hyb⟩
    case round =>
      obtain ⟨y, rfl, y0, y1, hwr, HL⟩ := hrel
      rw [hwr]
      clear hwr
      have HYs := hidA (HY.out (y + 1) (by omega) (by omega))
      have hw1 : IntKind.i64.wrap (y + 1) = y + 1 := by rw [IntKind.wrap_i64]; omega
      obtain ⟨Y1, hY1⟩ : ∃ Y1, Na.yb (y + 1) = Y1 := ⟨_, rfl⟩
      rw [hY1] at HYs
      by_cases hc : Y1 ≤ D
      · have HL2 : Hid (Na.yb (y + 1) ≤ D) := by show _ ≤ _; rw [hY1]; exact hc
        have hy9 := Na.yb_10000 HL2.out hD1
        clear HL hY1
        go_wp2_with (go_at_call 74; refine (HYs.out _).mono ?_; rintro e w3 ⟨rfl, hw3⟩; rw [hw3]; clear hw3 w3)
        exact ⟨⟨y + 1, rfl, by omega, hy9, trivial, HL2⟩, by simp [intOf]; omega⟩
      · have HYt := hidA (HY.out y (by omega) (by omega))
        obtain ⟨Y, hY⟩ : ∃ Y, Na.yb y = Y := ⟨_, rfl⟩
        have HL3 : Hid (Y ≤ D) := by show _ ≤ _; rw [← hY]; exact HL.out
        have hL3 : Y ≤ D := HL3.out
        have hst := Na.yb_step y
        rw [hY1, hY] at hst
        have hm12 := Na.mb_rng y (show 12 < 13 by decide)
        obtain ⟨yr0, yr1⟩ := Na.yb_rng y0 (show y ≤ 10001 by omega)
        rw [hY] at HYt yr0 yr1
        have HCv : Hid (∀ j : Nat, j < 12 → Na.mb y j ≤ D - Y → D - Y < Na.mb y (j + 1) → Na.Cv D y j) := fun j h1 h2 h3 => ⟨y0, y1, by rw [hY]; exact hL3, by rw [hY1]; omega, h1, by rw [hY]; exact h2, by rw [hY]; exact h3⟩
        have HE2 : Hid (∀ e (j : Nat), Na.Cv D y j → e = .returned (.tuple #[mV y ((j : Int) + 1) (D - Y - Na.mb y j + 1) (R / 3600) (R / 60 % 60) (R % 60), .bool true]) → OutM t e) := fun e j hc he => HE.out e y j hc (by rw [hY]; exact he)
        clear HL HL3 hY hY1 HE HY
        have HMs := hidA (fun j hj => HMB.out y y0 j hj)
        obtain ⟨_, c0, c1, c2, c3, c4, c5, fz⟩ := HM2.out
        have hz := hidA (Na.mb_zero y)
        have hDY : 0 ≤ D - Y ∧ D - Y < Na.mb y 12 := by omega
        obtain ⟨dy0, dy1⟩ := hDY
        have HR12 := hidA (fun (j : Nat) (hj : j < 13) => Na.mb_rng y hj)
        have H12 : Hid (D - Y < Na.mb y 12) := dy1
        clear hst hm12 dy1
        go_wp2_with (go_at_call 74; first | (with_reducible refine (HYs.out _).mono ?_; rintro e w3 ⟨rfl, hw3⟩; rw [hw3]; clear hw3 w3) | (with_reducible refine (HYt.out _).mono ?_; rintro e w4 ⟨rfl, hw4⟩; rw [hw4]; clear hw4 w4))
        go_loopw [9] (fun mv w' => ∃ (j : Nat), mv = .int .i64 ((j : Int) + 1) ∧ j < 12 ∧ w' = w2 ∧ Hid (Na.mb y j ≤ D - Y)) (fun mv _ => (12 - intOf mv).toNat)
        case atStart => exact ⟨0, rfl, by decide, rfl, by show _ ≤ _; rw [hz.out]; exact dy0⟩
        case round =>
          obtain ⟨j, rfl, hj, hwr, HL⟩ := hrel
          rw [hwr]
          clear hwr
          have HB1 := hidA (HMs.out (j + 1) (by omega))
          have hw2 : IntKind.i64.wrap ((j : Int) + 1 + 1) = (j : Int) + 1 + 1 := by rw [IntKind.wrap_i64]; omega
          have hcast : ((j + 1 : Nat) : Int) = (j : Int) + 1 := by omega
          rw [hcast] at HB1
          obtain ⟨M1, hM1⟩ : ∃ M1, Na.mb y (j + 1) = M1 := ⟨_, rfl⟩
          obtain ⟨r1a, r1b⟩ := HR12.out (j + 1) (by omega)
          rw [hM1] at HB1 r1a r1b
          by_cases hc2 : M1 ≤ D - Y
          · have HL2 : Hid (Na.mb y (j + 1) ≤ D - Y) := by show _ ≤ _; rw [hM1]; exact hc2
            have hj2 : j + 1 < 12 := by
              by_cases e : j + 1 = 12
              · have := H12.out; rw [← e, hM1] at this; omega
              · omega
            clear HL hM1
            go_wp2_with (go_at_call 73; refine HB1.out.mono ?_; rintro e w5 ⟨rfl, hw5⟩; rw [hw5]; clear hw5 w5)
            exact ⟨⟨j + 1, by rw [hcast], hj2, trivial, HL2⟩, by simp [intOf]; omega⟩
          · have HB0 := hidA (HMs.out j (by omega))
            have HC2 := hidA (HCv.out j hj HL.out (by rw [hM1]; omega))
            obtain ⟨r0a, r0b⟩ := HR12.out j (by omega)
            have hL := HL.out
            have HE3 := hidA (fun e => HE2.out e j HC2.out)
            generalize Na.mb y j = M0 at *
            clear HL hM1 HE2 HCv HC2
            go_wp2_with (go_at_call 73; first | (with_reducible refine HB1.out.mono ?_; rintro e w5 ⟨rfl, hw5⟩; rw [hw5]; clear hw5 w5) | (with_reducible refine HB0.out.mono ?_; rintro e w6 ⟨rfl, hw6⟩; rw [hw6]; clear hw6 w6))
            (try simp only [Exit.inBlock, Exit.then])
            refine bodyPost_ret (by simp [results, Tryd.results59, go_sem, c0, c1, c2, c3, c4, c5]; rfl) rfl ?_
            exact ⟨HE3.out _ rfl, HM2.out.fin _ _ _ _ _ _⟩
end Go.Proofs.YtgkjpfebjhhdkaaDoor
