/- The walks of owned and Owned. Condition: the table lies in memory as 'Tb' says. -/
import Derived.Test.YtgplmgliockbcaaDoorGath
import Derived.Deep.RegionWith
import Derived.Test.YtgplmgliockbcaaDoorTab3
namespace Go.Proofs.YtgplmgliockbcaaDoor
open Go.RowKit
/-- The blocks of an inode's first j roots. -/
def ownL (u : Nat → Bool) (D : Nat → Nat) (R : Nat → Nat) : Nat → List Nat
  | 0 => []
  | j + 1 => ownL u D R j ++ gth (lwOf j) u D (R j)
theorem ownL_len (u : Nat → Bool) (D : Nat → Nat) (R : Nat → Nat) : ∀ j, (ownL u D R j).length ≤ j * 289
  | 0 => by simp [ownL]
  | j + 1 => by
    have h1 := ownL_len u D R j
    have h2 := gth_len (lwOf j) u D (R j)
    have h3 : 17 ^ lwOf j ≤ 17 ^ 2 := Nat.pow_le_pow_right (by omega) (by unfold lwOf; split; omega; split <;> omega)
    rw [ownL, List.length_append]
    omega
section
variable {w : World} {t q b c n N : Nat} {clk : Int} {F : Nat → Nat → Int} {R : Nat → Nat → Nat} {u : Nat → Bool} {D : Nat → Nat}
theorem gatherAt (T : Tb w t q b c n N clk F R u D) (i j B : Nat) (v : Value) (xs : List Nat) (hB : B ≤ w.heap.size) (hO : w.ownsRow B 3 1 v xs.length (xs.map intV)) (hl : xs.length ≤ 900000) (hbB : b < B) (hcB : c < B) (htB : t < B) :
    Calls Tryd.prog 66 #[.pointer (some ⟨t, 0, none⟩), v, .int .i64 (R i j : Nat), .int .i64 (plOf j : Nat)] w (GPost B w (xs ++ gth (lwOf j) u D (R i j))) := by
  by_cases h1 : j < 6
  · have e1 : plOf j = 1 := by simp [plOf, h1]
    have e2 : lwOf j = 0 := by simp [lwOf, h1]
    rw [e1, e2]; exact gather0 t B _ v xs (T.rl _ _) hB hO (by omega) u D
  · by_cases h2 : j = 6
    · have e1 : plOf j = 16 := by simp [plOf, h2]
      have e2 : lwOf j = 1 := by simp [lwOf, h2]
      rw [e1, e2]; exact gather1 T.S t B _ v xs (T.rl _ _) hB hO (by omega) T.c0 hbB hcB htB
    · have e1 : plOf j = 256 := by simp [plOf, h1, h2]
      have e2 : lwOf j = 2 := by simp [lwOf, h1, h2]
      rw [e1, e2]; exact gather2 T.S t B _ v xs (T.rl _ _) hB hO (by omega) T.c0 hbB hcB htB
theorem mod_of_belowB {w w1 wx : World} (h : Mod (fun _ => False) w w1) (k : Below w1.heap.size w1 wx) : Mod (fun _ => False) w wx :=
  h.trans ⟨k.os, k.tape, k.output, k.size, fun i hi _ => k.block i hi⟩
set_option maxRecDepth 8000 in
set_option maxHeartbeats 4000000 in
theorem owned_any (T : Tb w t q b c n N clk F R u D) (i : Nat) (hi : i < N) :
    Calls Tryd.prog 46 #[.pointer (some ⟨t, 0, none⟩), .pointer (some ⟨q, i * 17, none⟩)] w fun e w' => ∃ v, e = .returned v ∧ w'.ownsRow w.heap.size 3 1 v (ownL u D (R i) 8).length ((ownL u D (R i) 8).map intV) ∧ Mod (fun _ => False) w w' := by
  have HT : Hid (Tb w t q b c n N clk F R u D) := T
  have HL : Hid (b < w.heap.size ∧ c < w.heap.size ∧ t < w.heap.size ∧ q < w.heap.size) := ⟨T.S.lt_b, T.S.lt_c, T.lt_t, T.lt_q⟩
  clear T
  go_enter Tryd.func46, Tryd.ntmps46
  go_wp2_with (go_at_call 65; refine (roots_any w q (i * 17)).mono ?_; rintro e w1 ⟨v, rfl, O1, M1⟩; obtain ⟨g, cap, rfl, hg, hcell, hcap⟩ := owns_cells (n := 7) O1; have HC : Hid (∀ j, j < 8 → w1.cell? ⟨g, j * 2, none⟩ = some (.pointer (some ⟨q, i * 17 + 9 + j, none⟩)) ∧ w1.cell? ⟨g, j * 2 + 1, none⟩ = some (.int .i64 (plOf j : Nat))) := fun j hj => ⟨hcell _ _ (rootsL_at q (i * 17) 8 j hj).1, hcell _ _ (rootsL_at q (i * 17) 8 j hj).2⟩; have HM1 : Hid (Mod (fun _ => False) w w1) := M1; clear O1 M1 hcell hg)
  have hgl : g < w1.heap.size := block_lt_of_cell (HC.out 0 (by omega)).1
  have HW1 : Hid (w.heap.size ≤ w1.heap.size) := HM1.out.size
  go_loopw [5, 11] (fun vv x wx => ∃ j : Nat, j ≤ 8 ∧ x = .int .i64 j ∧ Hid (wx.ownsRow w1.heap.size 3 1 vv (ownL u D (R i) j).length ((ownL u D (R i) j).map intV)) ∧ Hid (Below w1.heap.size w1 wx)) (fun _ x _ => 8 - (intOf x).toNat)
  case atStart => exact ⟨0, by omega, rfl, World.ownsRow_nil _ _ _ _, Below.refl _ _⟩
  case round =>
    obtain ⟨j, hj, rfl, HO, HB⟩ := hrel
    by_cases hlt : j < 8
    · have hc0 := (HB.out.cell (p := ⟨g, j * 2, none⟩) hgl).trans (HC.out j hlt).1
      have hc1 := (HB.out.cell (p := ⟨g, j * 2 + 1, none⟩) hgl).trans (HC.out j hlt).2
      have HTj : Hid (Tb (wr.alloc (.cells #[.pointer (some ⟨q, i * 17 + 9 + j, none⟩), .int .i64 (plOf j : Nat)] 110)).drew t q b c n N clk F R u D) := (HT.out.new (mod_of_belowB HM1.out HB.out)).new (((Mod.refl _ wr).alloc _).drewN 1)
      have HBj : Hid (w1.heap.size ≤ (wr.alloc (.cells #[.pointer (some ⟨q, i * 17 + 9 + j, none⟩), .int .i64 (plOf j : Nat)] 110)).drew.heap.size) := by have := HB.out.size; show _ ≤ (wr.alloc _).heap.size; simp; omega
      have HOj : Hid ((wr.alloc (.cells #[.pointer (some ⟨q, i * 17 + 9 + j, none⟩), .int .i64 (plOf j : Nat)] 110)).drew.ownsRow w1.heap.size 3 1 u5 (ownL u D (R i) j).length ((ownL u D (R i) j).map intV)) := owns_mod HO.out (((Mod.refl _ wr).alloc _).drewN 1)
      have hll := ownL_len u D (R i) j
      have HLL : Hid ((ownL u D (R i) j).length ≤ 900000) := by show _ ≤ _; omega
      have HS : Hid ((wr.alloc (.cells #[.pointer (some ⟨q, i * 17 + 9 + j, none⟩), .int .i64 (plOf j : Nat)] 110)).drew.cell? ⟨wr.heap.size, 0, none⟩ = some (.pointer (some ⟨q, i * 17 + 9 + j, none⟩)) ∧ (wr.alloc (.cells #[.pointer (some ⟨q, i * 17 + 9 + j, none⟩), .int .i64 (plOf j : Nat)] 110)).drew.cell? ⟨wr.heap.size, 1, none⟩ = some (.int .i64 (plOf j : Nat)) ∧ (wr.alloc (.cells #[.pointer (some ⟨q, i * 17 + 9 + j, none⟩), .int .i64 (plOf j : Nat)] 110)).drew.cell? ⟨q, i * 17 + 9 + j, none⟩ = some (.int .i64 (R i j : Nat))) := by
        refine ⟨?_, ?_, HTj.out.cr i j hi hlt⟩
        · show (wr.alloc _).cell? _ = _
          rw [World.cell?_alloc_at _ _ _ _ rfl]; rfl
        · show (wr.alloc _).cell? _ = _
          rw [World.cell?_alloc_at _ _ _ _ rfl]; rfl
      clear hll
      go_wp2_with fail
      have hql : q < wr.heap.size := by have := HL.out.2.2.2; have := HW1.out; have := HB.out.size; omega
      have hq9 : wr.cell? ⟨q, i * 17 + 9 + j, none⟩ = some (.int .i64 (R i j : Nat)) := (HT.out.new (mod_of_belowB HM1.out HB.out)).cr i j hi hlt
      go_region_with (first | (go_at_call 66; refine (gatherAt HTj.out i j w1.heap.size u5 (ownL u D (R i) j) HBj.out HOj.out HLL.out (Nat.lt_of_lt_of_le HL.out.1 HW1.out) (Nat.lt_of_lt_of_le HL.out.2.1 HW1.out) (Nat.lt_of_lt_of_le HL.out.2.2.1 HW1.out)).mono ?_; rintro e w4 ⟨v4, rfl, O4, B4⟩; have HO4 : Hid (w4.ownsRow w1.heap.size 3 1 v4 (ownL u D (R i) (j + 1)).length ((ownL u D (R i) (j + 1)).map intV)) := O4; have HB4 : Hid (Below w1.heap.size w1 w4) := HB.out.trans ((((Mod.refl (fun _ => False) wr).alloc _).drewN 1).belowB HB.out.size |>.trans B4); clear O4 B4))
      all_goals go_wp2
      all_goals exact ⟨⟨j + 1, by omega, by go_num, HO4, HB4⟩, by simp [intOf]; omega⟩
    · obtain rfl : j = 8 := by omega
      go_wp2
      go_ret
      exact ⟨_, by simp, ⟨HO.out.1, HO.out.2.imp id (fun ⟨g', c', cur, h1, h2, h3⟩ => ⟨g', c', cur, h1, Nat.le_trans HW1.out h2, h3⟩)⟩, mod_of_belowB HM1.out HB.out⟩
end
end Go.Proofs.YtgplmgliockbcaaDoor
