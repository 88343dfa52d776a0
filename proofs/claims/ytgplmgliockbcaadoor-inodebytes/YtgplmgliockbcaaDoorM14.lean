/- Several texts of this claim, one behind the other, in their order. -/
import Derived.Test.YtgplmgliockbcaaDoorGath
import Derived.Deep.RegionWith
import Derived.Test.YtgplmgliockbcaaDoorTab3
import Derived.Deep.RegionHeld
/- The walks of owned and Owned. Condition: the table lies in memory as 'Tb' says. -/
namespace Go.Proofs.YtgplmgliockbcaaDoor
open Go.RowKit
/-- The blocks of an inode's first j roots. -/
def ownL (u : Nat → Bool) (D : Nat → Nat) (R : Nat → Nat) : Nat → List Nat
  | 0 => []
  | j + 1 => ownL u D R j ++ gth (lwOf j) u D (R j)
theorem ownL_len (u : Nat → Bool) (D : Nat → Nat) (R : Nat → Nat) : ∀ j, (ownL u D R j).length ≤ j * 289
  | 0 => by simp [ownL]
  | j + 1 => by
    have h1 := ownL_len u D R j
    have h2 := gth_len (lwOf j) u D (R j)
    have h3 : 17 ^ lwOf j ≤ 17 ^ 2 := Nat.pow_le_pow_right (by omega) (by unfold lwOf; split; omega; split <;> omega)
    rw [ownL, List.length_append]
    omega
section
variable {w : World} {t q b c n N : Nat} {clk : Int} {F : Nat → Nat → Int} {R : Nat → Nat → Nat} {u : Nat → Bool} {D : Nat → Nat}
theorem gatherAt (T : Tb w t q b c n N clk F R u D) (i j B : Nat) (v : Value) (xs : List Nat) (hB : B ≤ w.heap.size) (hO : w.ownsRow B 3 1 v xs.length (xs.map intV)) (hl : xs.length ≤ 900000) (hbB : b < B) (hcB : c < B) (htB : t < B) :
    Calls Tryd.prog 66 #[.pointer (some ⟨t, 0, none⟩), v, .int .i64 (R i j : Nat), .int .i64 (plOf j : Nat)] w (GPost B w (xs ++ gth (lwOf j) u D (R i j))) := by
  by_cases h1 : j < 6
  · have e1 : plOf j = 1 := by simp [plOf, h1]
    have e2 : lwOf j = 0 := by simp [lwOf, h1]
    rw [e1, e2]; exact gather0 t B _ v xs (T.rl _ _) hB hO (by omega) u D
  · by_cases h2 : j = 6
    · have e1 : plOf j = 16 := by simp [plOf, h2]
      have e2 : lwOf j = 1 := by simp [lwOf, h2]
      rw [e1, e2]; exact gather1 T.S t B _ v xs (T.rl _ _) hB hO (by omega) T.c0 hbB hcB htB
    · have e1 : plOf j = 256 := by simp [plOf, h1, h2]
      have e2 : lwOf j = 2 := by simp [lwOf, h1, h2]
      rw [e1, e2]; exact gather2 T.S t B _ v xs (T.rl _ _) hB hO (by omega) T.c0 hbB hcB htB
theorem mod_of_belowB {w w1 wx : World} (h : Mod (fun _ => False) w w1) (k : Below w1.heap.size w1 wx) : Mod (fun _ => False) w wx :=
  h.trans ⟨k.os, k.tape, k.output, k.size, fun i hi _ => k.block i hi⟩
set_option maxRecDepth 8000 in
set_option maxHeartbeats 4000000 in
theorem owned_any (T : Tb w t q b c n N clk F R u D) (i : Nat) (hi : i < N) :
    Calls Tryd.prog 46 #[.pointer (some ⟨t, 0, none⟩), .pointer (some ⟨q, i * 17, none⟩)] w fun e w' => ∃ v, e = .returned v ∧ w'.ownsRow w.heap.size 3 1 v (ownL u D (R i) 8).length ((ownL u D (R i) 8).map intV) ∧ Mod (fun _ => False) w w' := by
  have HT : Hid (Tb w t q b c n N clk F R u D) := T
  have HL : Hid (b < w.heap.size ∧ c < w.heap.size ∧ t < w.heap.size ∧ q < w.heap.size) := ⟨T.S.lt_b, T.S.lt_c, T.lt_t, T.lt_q⟩
  clear T
  go_enter Tryd.func46, Tryd.ntmps46
  go_wp2_with (go_at_call 65; refine (roots_any w q (i * 17)).mono ?_; rintro e w1 ⟨v, rfl, O1, M1⟩; obtain ⟨g, cap, rfl, hg, hcell, hcap⟩ := owns_cells (n := 7) O1; have HC : Hid (∀ j, j < 8 → w1.cell? ⟨g, j * 2, none⟩ = some (.pointer (some ⟨q, i * 17 + 9 + j, none⟩)) ∧ w1.cell? ⟨g, j * 2 + 1, none⟩ = some (.int .i64 (plOf j : Nat))) := fun j hj => ⟨hcell _ _ (rootsL_at q (i * 17) 8 j hj).1, hcell _ _ (rootsL_at q (i * 17) 8 j hj).2⟩; have HM1 : Hid (Mod (fun _ => False) w w1) := M1; clear O1 M1 hcell hg)
  have hgl : g < w1.heap.size := block_lt_of_cell (HC.out 0 (by omega)).1
  have HW1 : Hid (w.heap.size ≤ w1.heap.size) := HM1.out.size
  go_loopw [5, 11] (fun vv x wx => ∃ j : Nat, j ≤ 8 ∧ x = .int .i64 j ∧ Hid (wx.ownsRow w1.heap.size 3 1 vv (ownL u D (R i) j).length ((ownL u D (R i) j).map intV)) ∧ Hid (Below w1.heap.size w1 wx)) (fun _ x _ => 8 - (intOf x).toNat)
  case atStart => exact ⟨0, by omega, rfl, World.ownsRow_nil _ _ _ _, Below.refl _ _⟩
  case round =>
    obtain ⟨j, hj, rfl, HO, HB⟩ := hrel
    by_cases hlt : j < 8
    · have hc0 := (HB.out.cell (p := ⟨g, j * 2, none⟩) hgl).trans (HC.out j hlt).1
      have hc1 := (HB.out.cell (p := ⟨g, j * 2 + 1, none⟩) hgl).trans (HC.out j hlt).2
      have HTj : Hid (Tb (wr.alloc (.cells #[.pointer (some ⟨q, i * 17 + 9 + j, none⟩), .int .i64 (plOf j : Nat)] 110)).drew t q b c n N clk F R u D) := (HT.out.new (mod_of_belowB HM1.out HB.out)).new (((Mod.refl _ wr).alloc _).drewN 1)
      have HBj : Hid (w1.heap.size ≤ (wr.alloc (.cells #[.pointer (some ⟨q, i * 17 + 9 + j, none⟩), .int .i64 (plOf j : Nat)] 110)).drew.heap.size) := by have := HB.out.size; show _ ≤ (wr.alloc _).heap.size; simp; omega
      have HOj : Hid ((wr.alloc (.cells #[.pointer (some ⟨q, i * 17 + 9 + j, none⟩), .int .i64 (plOf j : Nat)] 110)).drew.ownsRow w1.heap.size 3 1 u5 (ownL u D (R i) j).length ((ownL u D (R i) j).map intV)) := owns_mod HO.out (((Mod.refl _ wr).alloc _).drewN 1)
      have hll := ownL_len u D (R i) j
      have HLL : Hid ((ownL u D (R i) j).length ≤ 900000) := by show _ ≤ _; omega
      have HS : Hid ((wr.alloc (.cells #[.pointer (some ⟨q, i * 17 + 9 + j, none⟩), .int .i64 (plOf j : Nat)] 110)).drew.cell? ⟨wr.heap.size, 0, none⟩ = some (.pointer (some ⟨q, i * 17 + 9 + j, none⟩)) ∧ (wr.alloc (.cells #[.pointer (some ⟨q, i * 17 + 9 + j, none⟩), .int .i64 (plOf j : Nat)] 110)).drew.cell? ⟨wr.heap.size, 1, none⟩ = some (.int .i64 (plOf j : Nat)) ∧ (wr.alloc (.cells #[.pointer (some ⟨q, i * 17 + 9 + j, none⟩), .int .i64 (plOf j : Nat)] 110)).drew.cell? ⟨q, i * 17 + 9 + j, none⟩ = some (.int .i64 (R i j : Nat))) := by
        refine ⟨?_, ?_, HTj.out.cr i j hi hlt⟩
        · show (wr.alloc _).cell? _ = _
          rw [World.cell?_alloc_at _ _ _ _ rfl]; rfl
        · show (wr.alloc _).cell? _ = _
          rw [World.cell?_alloc_at _ _ _ _ rfl]; rfl
      clear hll
      go_wp2_with fail
      have hql : q < wr.heap.size := by have := HL.out.2.2.2; have := HW1.out; have := HB.out.size; omega
      have hq9 : wr.cell? ⟨q, i * 17 + 9 + j, none⟩ = some (.int .i64 (R i j : Nat)) := (HT.out.new (mod_of_belowB HM1.out HB.out)).cr i j hi hlt
      go_region_with (first | (go_at_call 66; refine (gatherAt HTj.out i j w1.heap.size u5 (ownL u D (R i) j) HBj.out HOj.out HLL.out (Nat.lt_of_lt_of_le HL.out.1 HW1.out) (Nat.lt_of_lt_of_le HL.out.2.1 HW1.out) (Nat.lt_of_lt_of_le HL.out.2.2.1 HW1.out)).mono ?_; rintro e w4 ⟨v4, rfl, O4, B4⟩; have HO4 : Hid (w4.ownsRow w1.heap.size 3 1 v4 (ownL u D (R i) (j + 1)).length ((ownL u D (R i) (j + 1)).map intV)) := O4; have HB4 : Hid (Below w1.heap.size w1 w4) := HB.out.trans ((((Mod.refl (fun _ => False) wr).alloc _).drewN 1).belowB HB.out.size |>.trans B4); clear O4 B4))
      all_goals go_wp2
      all_goals exact ⟨⟨j + 1, by omega, by go_num, HO4, HB4⟩, by simp [intOf]; omega⟩
    · obtain rfl : j = 8 := by omega
      go_wp2
      go_ret
      exact ⟨_, by simp, ⟨HO.out.1, HO.out.2.imp id (fun ⟨g', c', cur, h1, h2, h3⟩ => ⟨g', c', cur, h1, Nat.le_trans HW1.out h2, h3⟩)⟩, mod_of_belowB HM1.out HB.out⟩
end
end Go.Proofs.YtgplmgliockbcaaDoor
/- The walks of Owned, Is and Clock. Condition: the table lies in memory as 'Tb' says. -/
namespace Go.Proofs.YtgplmgliockbcaaDoor
open Go.RowKit
section
variable {w : World} {t q b c n N : Nat} {clk : Int} {F : Nat → Nat → Int} {R : Nat → Nat → Nat} {u : Nat → Bool} {D : Nat → Nat}
set_option maxHeartbeats 1000000 in
theorem towned (T : Tb w t q b c n N clk F R u D) (i : Nat) (hi : i < N) (hz : F i 0 ≠ 0) : Calls Tryd.prog 20 #[.pointer (some ⟨t, 0, none⟩), .int .i64 ((i : Int) + 1)] w fun e w' => ∃ v, e = .returned (.tuple #[v, .int .i64 0]) ∧ w'.ownsRow w.heap.size 3 1 v (ownL u D (R i) 8).length ((ownL u D (R i) 8).map intV) ∧ Mod (fun _ => False) w w' := by
  have HT : Hid (Tb w t q b c n N clk F R u D) := T
  have HZ : Hid (F i 0 ≠ 0) := hz
  clear T hz
  go_enter Tryd.func20, Tryd.ntmps20
  go_wp2_with (first | (go_at_call 41; refine (find_ok HT.out i hi HZ.out).mono ?_; rintro e w1 ⟨rfl, hw1⟩; rw [hw1]; clear hw1 w1) | (go_at_call 46; refine (owned_any HT.out i hi).mono ?_; rintro e w1 ⟨v, rfl, O1, M1⟩; have HO := Hid.intrG O1; have HM := Hid.intrG M1; clear O1 M1))
  go_ret2
  exact ⟨v, by simp, HO.out, HM.out⟩
theorem towned_not (T : Tb w t q b c n N clk F R u D) (i : Int) (hi : i < 1 ∨ N < i ∨ F (i - 1).toNat 0 = 0) : Calls Tryd.prog 20 #[.pointer (some ⟨t, 0, none⟩), .int .i64 i] w fun e w' => e = .returned (.tuple #[.slice none 0 0, .int .i64 2]) ∧ w' = w := by
  have HF : Hid (Calls Tryd.prog 41 #[.pointer (some ⟨t, 0, none⟩), .int .i64 i] w fun e w' => e = .returned (.tuple #[.pointer none, .int .i64 2]) ∧ w' = w) := find_not T i hi
  clear T hi
  go_enter Tryd.func20, Tryd.ntmps20
  go_wp2_with (go_at_call 41; refine HF.out.mono ?_; rintro e w1 ⟨rfl, hw1⟩; rw [hw1]; clear hw1 w1)
  go_ret2
  exact ⟨by simp, rfl⟩
theorem tis_yes (T : Tb w t q b c n N clk F R u D) (i : Nat) (hi : i < N) (hz : F i 0 ≠ 0) : Calls Tryd.prog 30 #[.pointer (some ⟨t, 0, none⟩), .int .i64 ((i : Int) + 1)] w fun e w' => e = .returned (.bool true) ∧ w' = w := by
  have HF : Hid (Calls Tryd.prog 41 #[.pointer (some ⟨t, 0, none⟩), .int .i64 ((i : Int) + 1)] w fun e w' => e = .returned (.tuple #[.pointer (some ⟨q, i * 17, none⟩), .int .i64 0]) ∧ w' = w) := find_ok T i hi hz
  clear T hz
  go_enter Tryd.func30, Tryd.ntmps30
  go_wp2_with (go_at_call 41; refine HF.out.mono ?_; rintro e w1 ⟨rfl, hw1⟩; rw [hw1]; clear hw1 w1)
  go_ret
  exact ⟨by simp, rfl⟩
theorem tis_not (T : Tb w t q b c n N clk F R u D) (i : Int) (hi : i < 1 ∨ N < i ∨ F (i - 1).toNat 0 = 0) : Calls Tryd.prog 30 #[.pointer (some ⟨t, 0, none⟩), .int .i64 i] w fun e w' => e = .returned (.bool false) ∧ w' = w := by
  have HF : Hid (Calls Tryd.prog 41 #[.pointer (some ⟨t, 0, none⟩), .int .i64 i] w fun e w' => e = .returned (.tuple #[.pointer none, .int .i64 2]) ∧ w' = w) := find_not T i hi
  clear T hi
  go_enter Tryd.func30, Tryd.ntmps30
  go_wp2_with (go_at_call 41; refine HF.out.mono ?_; rintro e w1 ⟨rfl, hw1⟩; rw [hw1]; clear hw1 w1)
  go_ret
  exact ⟨by simp, rfl⟩
end
end Go.Proofs.YtgplmgliockbcaaDoor
/- What Stat tells, at layer 2's own seat (Dr8's walk; written by gen_statb.py). -/
namespace Go.Proofs.YtgplmgliockbcaaDoor
open Go.RowKit
theorem below_setCells {n : Nat} {a w : World} (h : Below n a w) {b : Nat} (hb : n ≤ b) (L : List Value) : ∀ o, Below n a (w.setCells b o L) := by
  induction L generalizing w with
  | nil => intro o; exact h
  | cons v r ih => intro o; exact ih (h.setCell (p := ⟨b, o, none⟩) hb v) (o + 1)
theorem setCells_other (b k : Nat) : ∀ (L : List Value) {o : Nat} {w : World}, k ≠ b → (w.setCells b o L).heap[k]? = w.heap[k]?
  | [], _, _, _ => rfl
  | v :: r, o, w, h => (setCells_other b k r (o := o + 1) (w := w.setCell ⟨b, o, none⟩ v) h).trans (heap_setCell_other _ _ _ _ h)
def statW (F : Nat → Nat → Int) (bl i : Nat) : List Value := [.int .i64 ((i : Int) + 1), .int .i64 (F i 3), .int .i64 (F i 1), .int .i64 (F i 2), .int .i64 (F i 5), .int .i64 (bl : Nat), .int .i64 (F i 0), .int .i64 (F i 6), .int .i64 (F i 7), .int .i64 (F i 8)]
def StatOf (F : Nat → Nat → Int) (t i : Nat) (w : World) : Prop := Calls Tryd.prog 19 #[.pointer (some ⟨t, 0, none⟩), .int .i64 ((i : Int) + 1)] w fun e w' => (∃ bl : Nat, e = .returned (.tuple #[.agg (statW F bl i).toArray, .int .i64 0])) ∧ Mod (fun _ => False) w w'
theorem infSt : (Tryd.prog.info? 51).map (·.size) = some 10 := by kernel_rfl
def SeeN (F : Nat → Nat → Int) (q i : Nat) (W : World) : Prop :=
  W.cell? ⟨q, i * 17 + 3, none⟩ = some (.int .i64 (F i 3)) ∧ W.cell? ⟨q, i * 17 + 1, none⟩ = some (.int .i64 (F i 1)) ∧ W.cell? ⟨q, i * 17 + 2, none⟩ = some (.int .i64 (F i 2)) ∧ W.cell? ⟨q, i * 17 + 5, none⟩ = some (.int .i64 (F i 5)) ∧
    W.cell? ⟨q, i * 17, none⟩ = some (.int .i64 (F i 0)) ∧ W.cell? ⟨q, i * 17 + 6, none⟩ = some (.int .i64 (F i 6)) ∧ W.cell? ⟨q, i * 17 + 7, none⟩ = some (.int .i64 (F i 7)) ∧ W.cell? ⟨q, i * 17 + 8, none⟩ = some (.int .i64 (F i 8))
theorem ret_stat {W : World} {B : Nat} {L : List Value} (h : W.rangeAt B 0 L) (hl : L.length = 10) (tmps : Array Value) (h4 : tmps[4]?.getD undef = .pointer (some ⟨B, 0, none⟩)) (h5 : tmps[5]?.getD undef = .int .i64 0) :
    (results Tryd.f19 tmps).run Tryd.prog W = .ok (.tuple #[.agg L.toArray, .int .i64 0]) W := by
  have h2 := run_loadVar_mid (P := Tryd.prog) W B 0 51 L _ h Tryd.underlying51 rfl (by rw [hl]; exact infSt)
  unfold results
  rw [Tryd.results19]
  simp [h4, h5, asAddr, Result.andThen, h2]
theorem row_slice {w : World} {B e n : Nat} {v : Value} {xs : List Value} (h : w.ownsRow B e 1 v n xs) : ∃ a c, v = .slice a n c := by
  rcases h.2 with ⟨rfl, rfl⟩ | ⟨g, cap, cur, rfl, _⟩
  · exact ⟨_, _, rfl⟩
  · exact ⟨_, _, rfl⟩
section
variable {w : World} {t q b c n N : Nat} {clk : Int} {F : Nat → Nat → Int} {R : Nat → Nat → Nat} {u : Nat → Bool} {D : Nat → Nat}
theorem Tb.see (T : Tb w t q b c n N clk F R u D) {i : Nat} (hi : i < N) : SeeN F q i w :=
  ⟨T.cf i 3 hi (by omega), T.cf i 1 hi (by omega), T.cf i 2 hi (by omega), T.cf i 5 hi (by omega), T.cf i 0 hi (by omega), T.cf i 6 hi (by omega), T.cf i 7 hi (by omega), T.cf i 8 hi (by omega)⟩
set_option maxRecDepth 100000 in
set_option maxHeartbeats 4000000 in
theorem tstat (T : Tb w t q b c n N clk F R u D) (i : Nat) (hi : i < N) (hz : F i 0 ≠ 0) : StatOf F t i w := by
  have HT : Hid (Tb w t q b c n N clk F R u D) := T
  have HZ : Hid (F i 0 ≠ 0) := hz
  have HM0 : Hid (∀ o, Mod (fun _ => False) w ((w.alloc o).drewN 1)) := fun o => ((Mod.refl _ w).alloc o).drewN 1
  have HLt : Hid (w.heap.size < ((w.alloc (.cells #[.int .i64 0, .int .i64 0, .int .i64 0, .int .i64 0, .int .i64 0, .int .i64 0, .int .i64 0, .int .i64 0, .int .i64 0, .int .i64 0] 51)).drewN 1).heap.size) := by show w.heap.size < (w.alloc _).heap.size; simp
  have HK0 : Hid (∀ j, j < 10 → ((w.alloc (.cells #[.int .i64 0, .int .i64 0, .int .i64 0, .int .i64 0, .int .i64 0, .int .i64 0, .int .i64 0, .int .i64 0, .int .i64 0, .int .i64 0] 51)).drewN 1).cell? ⟨w.heap.size, j, none⟩ = some (.int .i64 0)) := fun j hj => by
    show (w.alloc _).cell? _ = _
    rw [World.cell?_alloc_at _ _ _ _ rfl]
    obtain rfl | rfl | rfl | rfl | rfl | rfl | rfl | rfl | rfl | rfl : j = 0 ∨ j = 1 ∨ j = 2 ∨ j = 3 ∨ j = 4 ∨ j = 5 ∨ j = 6 ∨ j = 7 ∨ j = 8 ∨ j = 9 := by omega
    all_goals rfl
  have HKf : Hid (∀ o, ((w.alloc (.cells #[.int .i64 0, .int .i64 0, .int .i64 0, .int .i64 0, .int .i64 0, .int .i64 0, .int .i64 0, .int .i64 0, .int .i64 0, .int .i64 0] 51)).drewN 1).frozen? ⟨w.heap.size, o, none⟩ = false) := fun o => World.frozen?_alloc_at _ _ _ _ rfl
  have hqw := T.lt_q
  have hcq : ∀ (W : World) (o x : Nat) (v : Value), (W.setCell ⟨w.heap.size, o, none⟩ v).cell? ⟨q, x, none⟩ = W.cell? ⟨q, x, none⟩ := fun W o x v => setCell_out _ _ _ _ _ (fun e => by have h1 : q = w.heap.size := e; omega)
  clear T hz
  unfold StatOf
  go_enter Tryd.func19, Tryd.ntmps19
  go_wp2_with (go_at_call 41; refine (find_ok (HT.out.new ((Mod.refl _ w).alloc _)) i hi HZ.out).mono ?_; rintro e w1 ⟨rfl, hw1⟩; rw [hw1]; clear hw1 w1)
  have hS0 : SeeN F q i ((w.alloc (.cells #[.int .i64 0, .int .i64 0, .int .i64 0, .int .i64 0, .int .i64 0, .int .i64 0, .int .i64 0, .int .i64 0, .int .i64 0, .int .i64 0] 51)).drew) := (HT.out.new (HM0.out _)).see hi
  unfold SeeN at hS0
  go_region_held (fun W' => W'.cell? ⟨q, i * 17 + 3, none⟩ = some (.int .i64 (F i 3)) ∧ W'.cell? ⟨q, i * 17 + 1, none⟩ = some (.int .i64 (F i 1)) ∧ W'.cell? ⟨q, i * 17 + 2, none⟩ = some (.int .i64 (F i 2)) ∧ W'.cell? ⟨q, i * 17 + 5, none⟩ = some (.int .i64 (F i 5)) ∧ W'.cell? ⟨q, i * 17, none⟩ = some (.int .i64 (F i 0)) ∧ W'.cell? ⟨q, i * 17 + 6, none⟩ = some (.int .i64 (F i 6)) ∧ W'.cell? ⟨q, i * 17 + 7, none⟩ = some (.int .i64 (F i 7)) ∧ W'.cell? ⟨q, i * 17 + 8, none⟩ = some (.int .i64 (F i 8))) (first | with_reducible exact hS1 | with_reducible exact hS0 | (simp only [hcq]; with_reducible exact hS1))
    (first | (go_at_call 46; refine (owned_any (HT.out.new (HM0.out _)) i hi).mono ?_; rintro e w1 ⟨v, rfl, hv, HM1⟩; have hS1 := (HT.out.new ((HM0.out _).trans HM1)).see hi; unfold SeeN at hS1; obtain ⟨a1, c1, rfl⟩ := row_slice hv; clear hv; have k0 : w1.cell? ⟨w.heap.size, 0, none⟩ = some (.int .i64 0) := (HM1.cell (p := ⟨w.heap.size, 0, none⟩) HLt.out (fun h => h)).trans (HK0.out 0 (by omega)); have k1 : w1.cell? ⟨w.heap.size, 1, none⟩ = some (.int .i64 0) := (HM1.cell (p := ⟨w.heap.size, 1, none⟩) HLt.out (fun h => h)).trans (HK0.out 1 (by omega)); have k2 : w1.cell? ⟨w.heap.size, 2, none⟩ = some (.int .i64 0) := (HM1.cell (p := ⟨w.heap.size, 2, none⟩) HLt.out (fun h => h)).trans (HK0.out 2 (by omega)); have k3 : w1.cell? ⟨w.heap.size, 3, none⟩ = some (.int .i64 0) := (HM1.cell (p := ⟨w.heap.size, 3, none⟩) HLt.out (fun h => h)).trans (HK0.out 3 (by omega)); have k4 : w1.cell? ⟨w.heap.size, 4, none⟩ = some (.int .i64 0) := (HM1.cell (p := ⟨w.heap.size, 4, none⟩) HLt.out (fun h => h)).trans (HK0.out 4 (by omega)); have k5 : w1.cell? ⟨w.heap.size, 5, none⟩ = some (.int .i64 0) := (HM1.cell (p := ⟨w.heap.size, 5, none⟩) HLt.out (fun h => h)).trans (HK0.out 5 (by omega)); have k6 : w1.cell? ⟨w.heap.size, 6, none⟩ = some (.int .i64 0) := (HM1.cell (p := ⟨w.heap.size, 6, none⟩) HLt.out (fun h => h)).trans (HK0.out 6 (by omega)); have k7 : w1.cell? ⟨w.heap.size, 7, none⟩ = some (.int .i64 0) := (HM1.cell (p := ⟨w.heap.size, 7, none⟩) HLt.out (fun h => h)).trans (HK0.out 7 (by omega)); have k8 : w1.cell? ⟨w.heap.size, 8, none⟩ = some (.int .i64 0) := (HM1.cell (p := ⟨w.heap.size, 8, none⟩) HLt.out (fun h => h)).trans (HK0.out 8 (by omega)); have k9 : w1.cell? ⟨w.heap.size, 9, none⟩ = some (.int .i64 0) := (HM1.cell (p := ⟨w.heap.size, 9, none⟩) HLt.out (fun h => h)).trans (HK0.out 9 (by omega)); have kf : ∀ o, w1.frozen? ⟨w.heap.size, o, none⟩ = false := (fun o => (HM1.frozen (p := ⟨w.heap.size, o, none⟩) HLt.out (fun h => h)).trans (HKf.out o)); have HM2 : Hid (Mod (fun _ => False) w w1) := (HM0.out _).trans HM1; have HK1 : Hid (∀ j, j < 10 → w1.cell? ⟨w.heap.size, j, none⟩ = some (.int .i64 0)) := (fun j hj => (HM1.cell (p := ⟨w.heap.size, j, none⟩) HLt.out (fun h => h)).trans (HK0.out j hj)); clear HM1))
  have HTh : Hid (w1.there w.heap.size 0 10) := fun j hj => ⟨by rw [Nat.zero_add, HK1.out j hj]; rfl, kf _⟩
  have HRg : Hid ((w1.setCells w.heap.size 0 (statW F (ownL u D (R i) 8).length i)).rangeAt w.heap.size 0 (statW F (ownL u D (R i) 8).length i)) := World.rangeAt_setCells_same _ _ _ _ HTh.out
  have HFin : Hid (Mod (fun _ => False) w (w1.setCells w.heap.size 0 (statW F (ownL u D (R i) 8).length i))) := ⟨(below_setCells (Below.refl w.heap.size w1) (Nat.le_refl _) _ 0).os.trans HM2.out.os, (below_setCells (Below.refl w.heap.size w1) (Nat.le_refl _) _ 0).tape.trans HM2.out.tape, (below_setCells (Below.refl w.heap.size w1) (Nat.le_refl _) _ 0).output.trans HM2.out.output, by rw [size_setCells]; exact HM2.out.size, fun k hk hn => by rw [setCells_other _ _ _ (by omega)]; exact HM2.out.block k hk hn⟩
  clear hS0 hS1 kf hcq k0 k1 k2 k3 k4 k5 k6 k7 k8 k9
  go_wp2
  exact bodyPost_ret (ret_stat HRg.out rfl _ rfl rfl) rfl ⟨⟨_, rfl⟩, HFin.out⟩
end
end Go.Proofs.YtgplmgliockbcaaDoor
