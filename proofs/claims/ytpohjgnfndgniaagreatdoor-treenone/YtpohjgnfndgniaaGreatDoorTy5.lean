/- The task's call unstuck, where the caller is root. Conditions: the task lies in memory as 'TkAt' says; what stat tells. -/
import Derived.Test.YtpohjgnfndgniaaGreatDoorM19
import Derived.Deep.RegionHeld3
namespace Go.Proofs.YtpohjgnfndgniaaGreatDoor
open Go.RowKit
theorem root6 (d6 u f2 d2 : Int) (h : (u == 0) = true) : (bits .and .i64 d6 512 == 0 || u == 0 || u == f2 || u == d2) = true := by simp [h]
set_option maxRecDepth 100000 in
set_option maxHeartbeats 4000000 in
theorem tUnstuck {w : World} {k t : Nat} {u g : Int} {ga : Option Addr} {gc : Nat} {um cw : Int} (h : TkAt w k t u g ga gc um cw) (hu : (u == 0) = true) (d i : Int) (an : List UInt8) (fd fi : Nat → Int) (hSd : StA w k d fd) (hSi : StA w k i fi) :
    Calls Tryz.prog 149 #[.pointer (some ⟨k, 0, none⟩), .agg #[.int .i64 d, .string ⟨an.toArray⟩, .int .i64 i, .bool false]] w fun x w' => x = .returned (.tuple #[]) ∧ Mod (fun _ => False) w w' := by
  have HR : Hid (∀ (d0 d1 d2 d3 d4 d5 d6 d7 d8 d9 f0 f1 f2 f3 f4 f5 f6 f7 f8 f9 : Int) (W : World), Calls Tryz.prog 198 #[.agg #[.int .i64 d0, .int .i64 d1, .int .i64 d2, .int .i64 d3, .int .i64 d4, .int .i64 d5, .int .i64 d6, .int .i64 d7, .int .i64 d8, .int .i64 d9], .agg #[.int .i64 f0, .int .i64 f1, .int .i64 f2, .int .i64 f3, .int .i64 f4, .int .i64 f5, .int .i64 f6, .int .i64 f7, .int .i64 f8, .int .i64 f9], .agg #[.int .i64 u, .int .i64 g, .slice ga 0 gc, .int .i64 um, .int .i64 cw]] W fun e w' => e = .returned (.bool true) ∧ Mod (fun _ => False) W w') := fun d0 d1 d2 d3 d4 d5 d6 d7 d8 d9 f0 f1 f2 f3 f4 f5 f6 f7 f8 f9 W => by
    refine (pRemove d0 d1 d2 d3 d4 d5 d6 d7 d8 d9 f0 f1 f2 f3 f4 f5 f6 f7 f8 f9 u g ga 0 gc um cw W).mono ?_
    rintro e w' ⟨rfl, hB⟩
    exact ⟨by rw [root6 _ _ _ _ hu], mod_below hB⟩
  have HSd := hid6 hSd
  have HSi := hid6 hSi
  unfold StA at HSd HSi
  have hS : (w.alloc (.cells #[.int .i64 d, .string ⟨an.toArray⟩, .int .i64 i, .bool false] 87)).drew.cell? ⟨k, 1, none⟩ = some (.int .i64 u) ∧ (w.alloc (.cells #[.int .i64 d, .string ⟨an.toArray⟩, .int .i64 i, .bool false] 87)).drew.cell? ⟨k, 2, none⟩ = some (.int .i64 g) ∧ (w.alloc (.cells #[.int .i64 d, .string ⟨an.toArray⟩, .int .i64 i, .bool false] 87)).drew.cell? ⟨k, 3, none⟩ = some (.slice ga 0 gc) ∧ (w.alloc (.cells #[.int .i64 d, .string ⟨an.toArray⟩, .int .i64 i, .bool false] 87)).drew.cell? ⟨k, 4, none⟩ = some (.int .i64 um) ∧ (w.alloc (.cells #[.int .i64 d, .string ⟨an.toArray⟩, .int .i64 i, .bool false] 87)).drew.cell? ⟨k, 5, none⟩ = some (.int .i64 cw) ∧ (w.alloc (.cells #[.int .i64 d, .string ⟨an.toArray⟩, .int .i64 i, .bool false] 87)).drew.cell? ⟨w.heap.size, 0, none⟩ = some (.int .i64 d) ∧ (w.alloc (.cells #[.int .i64 d, .string ⟨an.toArray⟩, .int .i64 i, .bool false] 87)).drew.cell? ⟨w.heap.size, 2, none⟩ = some (.int .i64 i) ∧ Hid (Mod (fun _ => False) w (w.alloc (.cells #[.int .i64 d, .string ⟨an.toArray⟩, .int .i64 i, .bool false] 87)).drew) := by
    have h2 := h.new ((Mod.refl (fun _ => False) w).alloc (.cells #[.int .i64 d, .string ⟨an.toArray⟩, .int .i64 i, .bool false] 87))
    exact ⟨h2.c1, h2.c2, h2.c3, h2.c4, h2.c5, by show (w.alloc _).cell? _ = _; rw [World.cell?_alloc_at _ _ _ _ rfl]; rfl, by show (w.alloc _).cell? _ = _; rw [World.cell?_alloc_at _ _ _ _ rfl]; rfl, ((Mod.refl (fun _ => False) w).alloc _).drewN 1⟩
  clear hSd hSi h hu
  go_enter Tryz.func149, Tryz.ntmps149
  go_wp2_with fail
  generalize (w.alloc (.cells #[.int .i64 d, .string ⟨an.toArray⟩, .int .i64 i, .bool false] 87)) = W0 at *
  generalize w.heap.size = B at *
  have HK : Hid (∀ W W' : World, Mod (fun _ => False) W W' → (W.cell? ⟨k, 1, none⟩ = some (.int .i64 u) ∧ W.cell? ⟨k, 2, none⟩ = some (.int .i64 g) ∧ W.cell? ⟨k, 3, none⟩ = some (.slice ga 0 gc) ∧ W.cell? ⟨k, 4, none⟩ = some (.int .i64 um) ∧ W.cell? ⟨k, 5, none⟩ = some (.int .i64 cw) ∧ W.cell? ⟨B, 0, none⟩ = some (.int .i64 d) ∧ W.cell? ⟨B, 2, none⟩ = some (.int .i64 i) ∧ Hid (Mod (fun _ => False) w W)) → (W'.cell? ⟨k, 1, none⟩ = some (.int .i64 u) ∧ W'.cell? ⟨k, 2, none⟩ = some (.int .i64 g) ∧ W'.cell? ⟨k, 3, none⟩ = some (.slice ga 0 gc) ∧ W'.cell? ⟨k, 4, none⟩ = some (.int .i64 um) ∧ W'.cell? ⟨k, 5, none⟩ = some (.int .i64 cw) ∧ W'.cell? ⟨B, 0, none⟩ = some (.int .i64 d) ∧ W'.cell? ⟨B, 2, none⟩ = some (.int .i64 i) ∧ Hid (Mod (fun _ => False) w W'))) := fun W W' hM ⟨ak1, ak2, ak3, ak4, ak5, aB0, aB2, m⟩ =>
    ⟨(hM.cell (p := ⟨k, 1, none⟩) (block_lt_of_cell ak1) (fun e => e)).trans ak1, (hM.cell (p := ⟨k, 2, none⟩) (block_lt_of_cell ak2) (fun e => e)).trans ak2, (hM.cell (p := ⟨k, 3, none⟩) (block_lt_of_cell ak3) (fun e => e)).trans ak3, (hM.cell (p := ⟨k, 4, none⟩) (block_lt_of_cell ak4) (fun e => e)).trans ak4, (hM.cell (p := ⟨k, 5, none⟩) (block_lt_of_cell ak5) (fun e => e)).trans ak5, (hM.cell (p := ⟨B, 0, none⟩) (block_lt_of_cell aB0) (fun e => e)).trans aB0, (hM.cell (p := ⟨B, 2, none⟩) (block_lt_of_cell aB2) (fun e => e)).trans aB2, hid6 (m.out.trans hM)⟩
  go_region_held3 (fun W' => W'.cell? ⟨k, 1, none⟩ = some (.int .i64 u) ∧ W'.cell? ⟨k, 2, none⟩ = some (.int .i64 g) ∧ W'.cell? ⟨k, 3, none⟩ = some (.slice ga 0 gc) ∧ W'.cell? ⟨k, 4, none⟩ = some (.int .i64 um) ∧ W'.cell? ⟨k, 5, none⟩ = some (.int .i64 cw) ∧ W'.cell? ⟨B, 0, none⟩ = some (.int .i64 d) ∧ W'.cell? ⟨B, 2, none⟩ = some (.int .i64 i) ∧ Hid (Mod (fun _ => False) w W')) (first | with_reducible exact hS)
    (first | (go_at_call 56; with_reducible refine Calls.mono (HSd.out _ hS.2.2.2.2.2.2.2.out) ?_; rintro e w1 ⟨⟨bl, rfl⟩, M1⟩; have hS := HK.out _ _ M1 hS; clear M1) | (go_at_call 56; with_reducible refine Calls.mono (HSi.out _ hS.2.2.2.2.2.2.2.out) ?_; rintro e w2 ⟨⟨bl2, rfl⟩, M2⟩; have hS := HK.out _ _ M2 hS; clear M2) | (go_at_call 198; refine Calls.mono (HR.out _ _ _ _ _ _ _ _ _ _ _ _ _ _ _ _ _ _ _ _ _) ?_; rintro e w3 ⟨rfl, M3⟩; have hS := HK.out _ _ M3 hS; clear M3) | (go_at_call 45; refine (refuse_no _ _).mono ?_; rintro e w9 ⟨rfl, hw9⟩; rw [hw9]; clear hw9 w9))
  all_goals
    go_wp2
    exact ⟨rfl, _, results_none rfl _ _ _, rfl, hS.2.2.2.2.2.2.2.out⟩
end Go.Proofs.YtpohjgnfndgniaaGreatDoor
