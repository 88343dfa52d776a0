/- Dates: the plain answer's Stamp. No condition. -/
import Derived.Test.YtgkjpfebjhhdkaaDoorNe3
namespace Go.Proofs.YtgkjpfebjhhdkaaDoor
open Go.RowKit
attribute [local go_sem] ext_eq app_eq get_eq
set_option maxRecDepth 100000 in
set_option maxHeartbeats 8000000 in
theorem rStamp (t : Int) (h0 : -9223372036854775808 ≤ t) (h1 : t ≤ 9223372036854775807) (w : World) : Calls Tryd.prog 29 #[.int .i64 t] w fun e w' => OutS t e ∧ Below w.heap.size w w' := by
  have HM := hidA (rCivil t h0 h1 w)
  by_cases hb : t < -62167219200 ∨ 253402300800 ≤ t
  · have HM2 : Hid (Calls Tryd.prog 56 #[.int .i64 t] w fun e w' => e = .returned (.tuple #[mV 0 0 0 0 0 0, .bool false]) ∧ Below w.heap.size w w') := HM.out.mono fun e w' h => ⟨by have := h.1; unfold OutM at this; rw [if_pos hb] at this; exact this, h.2⟩
    have HE : Hid (∀ e, e = .returned (.string ⟨#[63]⟩) → OutS t e) := fun e he => by unfold OutS; rw [if_pos hb]; exact he
    unfold mV at HM2
    clear HM hb
    go_enter Tryd.func29, Tryd.ntmps29
    go_wp2_with (go_at_call 56; refine HM2.out.mono ?_; rintro e w1 ⟨rfl, b1⟩; have B1 := hidA b1; have B2 := hidA (fun o => b1.alloc b1.size o); clear b1)
    go_ret
    exact ⟨HE.out _ rfl, by first | exact B2.out _ | exact (bl2 (B2.out _) (bl_drew _ 1)) | exact B1.out⟩
  · have HM2 : Hid (Calls Tryd.prog 56 #[.int .i64 t] w fun e w' => (∃ y m d h mi s : Int, (0 ≤ y ∧ y ≤ 9999) ∧ (0 ≤ m ∧ m < 100) ∧ (0 ≤ d ∧ d < 100) ∧ (0 ≤ h ∧ h < 100) ∧ (0 ≤ mi ∧ mi < 100) ∧ (0 ≤ s ∧ s < 100) ∧ e = .returned (.tuple #[.agg #[.int .i64 y, .int .i64 m, .int .i64 d, .int .i64 h, .int .i64 mi, .int .i64 s], .bool true]) ∧ Hid (OutS t (.returned (.string ⟨(Na.stampT y m d h mi s).toArray⟩)))) ∧ Below w.heap.size w w') := HM.out.mono fun e w' hx => by
      refine ⟨?_, hx.2⟩
      have ho := hx.1
      unfold OutM at ho
      rw [if_neg hb] at ho
      obtain ⟨y, j, hc, he⟩ := ho
      obtain ⟨g0, g1⟩ := day_rng hc
      have y0 := hc.y0
      have y1 := hc.y1
      have j1 := hc.j1
      exact ⟨y, (j : Int) + 1, (t + 62167219200) / 86400 - Na.yb y - Na.mb y j + 1, (t + 62167219200) % 86400 / 3600, (t + 62167219200) % 86400 / 60 % 60, (t + 62167219200) % 86400 % 60, ⟨by omega, by omega⟩, ⟨by omega, by omega⟩, ⟨by omega, by omega⟩, ⟨by omega, by omega⟩, ⟨by omega, by omega⟩, ⟨by omega, by omega⟩, he, by unfold OutS; rw [if_neg hb]; exact ⟨y, j, hc, rfl⟩⟩
    have H2 := hidA rTwo
    clear HM hb
    go_enter Tryd.func29, Tryd.ntmps29
    go_wp2_with fail
    go_at_call 56
    refine HM2.out.mono ?_
    rintro e w1 ⟨⟨y, m, d, h, mi, s, ry, rm, rd, rh, ri, rs, rfl, HO⟩, b1⟩
    have hS : (w1.alloc (.cells #[.int .i64 y, .int .i64 m, .int .i64 d, .int .i64 h, .int .i64 mi, .int .i64 s] 82)).drew.cell? ⟨w1.heap.size, 0, none⟩ = some (.int .i64 y) ∧ (w1.alloc (.cells #[.int .i64 y, .int .i64 m, .int .i64 d, .int .i64 h, .int .i64 mi, .int .i64 s] 82)).drew.cell? ⟨w1.heap.size, 1, none⟩ = some (.int .i64 m) ∧ (w1.alloc (.cells #[.int .i64 y, .int .i64 m, .int .i64 d, .int .i64 h, .int .i64 mi, .int .i64 s] 82)).drew.cell? ⟨w1.heap.size, 2, none⟩ = some (.int .i64 d) ∧ (w1.alloc (.cells #[.int .i64 y, .int .i64 m, .int .i64 d, .int .i64 h, .int .i64 mi, .int .i64 s] 82)).drew.cell? ⟨w1.heap.size, 3, none⟩ = some (.int .i64 h) ∧ (w1.alloc (.cells #[.int .i64 y, .int .i64 m, .int .i64 d, .int .i64 h, .int .i64 mi, .int .i64 s] 82)).drew.cell? ⟨w1.heap.size, 4, none⟩ = some (.int .i64 mi) ∧ (w1.alloc (.cells #[.int .i64 y, .int .i64 m, .int .i64 d, .int .i64 h, .int .i64 mi, .int .i64 s] 82)).drew.cell? ⟨w1.heap.size, 5, none⟩ = some (.int .i64 s) ∧ Hid (Below w.heap.size w (w1.alloc (.cells #[.int .i64 y, .int .i64 m, .int .i64 d, .int .i64 h, .int .i64 mi, .int .i64 s] 82)).drew) := ⟨by show (w1.alloc _).cell? _ = _; rw [World.cell?_alloc_at _ _ _ _ rfl]; rfl, by show (w1.alloc _).cell? _ = _; rw [World.cell?_alloc_at _ _ _ _ rfl]; rfl, by show (w1.alloc _).cell? _ = _; rw [World.cell?_alloc_at _ _ _ _ rfl]; rfl, by show (w1.alloc _).cell? _ = _; rw [World.cell?_alloc_at _ _ _ _ rfl]; rfl, by show (w1.alloc _).cell? _ = _; rw [World.cell?_alloc_at _ _ _ _ rfl]; rfl, by show (w1.alloc _).cell? _ = _; rw [World.cell?_alloc_at _ _ _ _ rfl]; rfl, bl2 (b1.alloc b1.size _) (bl_drew _ 1)⟩
    have hq : y.tdiv 100 = y / 100 := Int.tdiv_eq_ediv_of_nonneg ry.1
    have hr : y.tmod 100 = y % 100 := Int.tmod_eq_emod_of_nonneg ry.1
    have wq : IntKind.i64.wrap (y / 100) = y / 100 := by rw [IntKind.wrap_i64]; omega
    have wr : IntKind.i64.wrap (y % 100) = y % 100 := by rw [IntKind.wrap_i64]; omega
    have HT : Hid (∀ (n : Int), 0 ≤ n ∧ n < 100 → ∀ W, (W.cell? ⟨w1.heap.size, 0, none⟩ = some (.int .i64 y) ∧ W.cell? ⟨w1.heap.size, 1, none⟩ = some (.int .i64 m) ∧ W.cell? ⟨w1.heap.size, 2, none⟩ = some (.int .i64 d) ∧ W.cell? ⟨w1.heap.size, 3, none⟩ = some (.int .i64 h) ∧ W.cell? ⟨w1.heap.size, 4, none⟩ = some (.int .i64 mi) ∧ W.cell? ⟨w1.heap.size, 5, none⟩ = some (.int .i64 s) ∧ Hid (Below w.heap.size w W)) → Calls Tryd.prog 61 #[.int .i64 n] W fun e W' => e = .returned (.string ⟨(Na.two n).toArray⟩) ∧ (W'.cell? ⟨w1.heap.size, 0, none⟩ = some (.int .i64 y) ∧ W'.cell? ⟨w1.heap.size, 1, none⟩ = some (.int .i64 m) ∧ W'.cell? ⟨w1.heap.size, 2, none⟩ = some (.int .i64 d) ∧ W'.cell? ⟨w1.heap.size, 3, none⟩ = some (.int .i64 h) ∧ W'.cell? ⟨w1.heap.size, 4, none⟩ = some (.int .i64 mi) ∧ W'.cell? ⟨w1.heap.size, 5, none⟩ = some (.int .i64 s) ∧ Hid (Below w.heap.size w W'))) := fun n hn W ⟨a0, a1, a2, a3, a4, a5, b⟩ => (H2.out n hn.1 hn.2 W).mono fun e W' ⟨he, bb⟩ =>
      ⟨he, (bb.cell (p := ⟨w1.heap.size, 0, none⟩) (block_lt_of_cell a0)).trans a0, (bb.cell (p := ⟨w1.heap.size, 1, none⟩) (block_lt_of_cell a1)).trans a1, (bb.cell (p := ⟨w1.heap.size, 2, none⟩) (block_lt_of_cell a2)).trans a2, (bb.cell (p := ⟨w1.heap.size, 3, none⟩) (block_lt_of_cell a3)).trans a3, (bb.cell (p := ⟨w1.heap.size, 4, none⟩) (block_lt_of_cell a4)).trans a4, (bb.cell (p := ⟨w1.heap.size, 5, none⟩) (block_lt_of_cell a5)).trans a5, bl2 b.out bb⟩
    have HT0 := hidA (HT.out (y / 100) (by omega))
    have hl0 : (Na.two (y / 100)).length = 2 := rfl
    have HT1 := hidA (HT.out (y % 100) (by omega))
    have hl1 : (Na.two (y % 100)).length = 2 := rfl
    have HT2 := hidA (HT.out m (by omega))
    have hl2 : (Na.two m).length = 2 := rfl
    have HT3 := hidA (HT.out d (by omega))
    have hl3 : (Na.two d).length = 2 := rfl
    have HT4 := hidA (HT.out h (by omega))
    have hl4 : (Na.two h).length = 2 := rfl
    have HT5 := hidA (HT.out mi (by omega))
    have hl5 : (Na.two mi).length = 2 := rfl
    have HT6 := hidA (HT.out s (by omega))
    have hl6 : (Na.two s).length = 2 := rfl
    have HX : Hid (Na.stampT y m d h mi s = Na.two (y / 100) ++ Na.two (y % 100) ++ [45] ++ Na.two m ++ [45] ++ Na.two d ++ [32] ++ Na.two h ++ [58] ++ Na.two mi ++ [58] ++ Na.two s) := rfl
    generalize Na.two (y / 100) = T0 at *
    generalize Na.two (y % 100) = T1 at *
    generalize Na.two m = T2 at *
    generalize Na.two d = T3 at *
    generalize Na.two h = T4 at *
    generalize Na.two mi = T5 at *
    generalize Na.two s = T6 at *
    clear H2 HT HM2 b1
    go_wp2_with fail
    go_region_held3 (fun W' => W'.cell? ⟨w1.heap.size, 0, none⟩ = some (.int .i64 y) ∧ W'.cell? ⟨w1.heap.size, 1, none⟩ = some (.int .i64 m) ∧ W'.cell? ⟨w1.heap.size, 2, none⟩ = some (.int .i64 d) ∧ W'.cell? ⟨w1.heap.size, 3, none⟩ = some (.int .i64 h) ∧ W'.cell? ⟨w1.heap.size, 4, none⟩ = some (.int .i64 mi) ∧ W'.cell? ⟨w1.heap.size, 5, none⟩ = some (.int .i64 s) ∧ Hid (Below w.heap.size w W')) (first | with_reducible exact hS) (first | (go_at_call 61; first | (with_reducible refine Calls.mono (HT0.out _ hS) ?_; rintro e v0 ⟨rfl, hS⟩) | (with_reducible refine Calls.mono (HT1.out _ hS) ?_; rintro e v1 ⟨rfl, hS⟩) | (with_reducible refine Calls.mono (HT2.out _ hS) ?_; rintro e v2 ⟨rfl, hS⟩) | (with_reducible refine Calls.mono (HT3.out _ hS) ?_; rintro e v3 ⟨rfl, hS⟩) | (with_reducible refine Calls.mono (HT4.out _ hS) ?_; rintro e v4 ⟨rfl, hS⟩) | (with_reducible refine Calls.mono (HT5.out _ hS) ?_; rintro e v5 ⟨rfl, hS⟩) | (with_reducible refine Calls.mono (HT6.out _ hS) ?_; rintro e v6 ⟨rfl, hS⟩)) | fail)
    all_goals
      go_wp2
      go_ret
      exact ⟨by rw [HX.out] at HO; simpa using HO.out, hS.2.2.2.2.2.2.out⟩
end Go.Proofs.YtgkjpfebjhhdkaaDoor
