/- Layer 4's example, as the statements ask it: 'awake' answers true in whatever memory. Condition: the library's table is as its initialiser lays it. -/
import Derived.Test.YtfmemkninmpfjaaGreatDoorDri
import Derived.Test.YtfmemkninmpfjaaGreatDoorDrc
import Derived.Test.YtfmemkninmpfjaaGreatDoorDr8
namespace Go.Proofs.YtfmemkninmpfjaaGreatDoor
open Go.RowKit
def w40 : WS := ⟨0, fun _ => false, fun _ => 0, fun _ => 0⟩
def s41 : WS := wrun 4 0 (sBytes [nslot [46] 1, nslot [46, 46] 1]) 64 w40
def s42 : WS := wrun 4 64 (sBytes [nslot [97] 3]) 32 ⟨0, s41.u, s41.D, s41.R⟩
def F41 : Nat → Nat → Int := upd2 (upd2 (upd2 (Fk 3) 0 5 64) 0 7 0) 0 8 0
def F42 : Nat → Nat → Int := upd2 (upd2 (upd2 F41 0 5 96) 0 7 0) 0 8 0
theorem done1 : s41.done = 64 := by decide +kernel
theorem done2 : s42.done = 32 := by decide +kernel
theorem none1 : (tks (rd s41.u s41.D s41.R) 64).find? (has (rd s41.u s41.D s41.R) [97]) = none := by decide +kernel
theorem room1 : roomR (rd s41.u s41.D s41.R) 64 = 2 := by decide +kernel
theorem some2 : (tks (rd s42.u s42.D s42.R) 96).find? (has (rd s42.u s42.D s42.R) [97]) = some 2 := by decide +kernel
theorem ans2 : le4 (slotD (rd s42.u s42.D s42.R) 2) 0 = 3 := by decide +kernel
theorem F41_eq : F41 = if s41.done = 0 then Fk 3 else upd2 (upd2 (upd2 (Fk 3) 0 5 (max (Fk 3 0 5) ((0 : Int) + s41.done))) 0 7 0) 0 8 0 := by
  rw [done1, if_neg (by decide), show max (Fk 3 0 5) ((0 : Int) + (64 : Nat)) = 64 by decide]
  rfl
theorem F42_eq : F42 = if s42.done = 0 then F41 else upd2 (upd2 (upd2 F41 0 5 (max (F41 0 5) (((2 * 32 : Nat) : Int) + s42.done))) 0 7 0) 0 8 0 := by
  rw [done2, if_neg (by decide), show max (F41 0 5) (((2 * 32 : Nat) : Int) + (32 : Nat)) = 96 by decide]
  rfl
set_option maxRecDepth 8000 in
set_option maxHeartbeats 4000000 in
theorem awake4 (w : World) (hT : TabIs w) : Calls Tryz.prog 10 #[] w fun e w' => e = .returned (.bool true) ∧ Mod (fun _ => False) w w' := by
  have HT := hidM hT
  clear hT
  go_enter Tryz.func10, Tryz.ntmps10
  go_wp2_with fail
  refine (made4 w HT.out).mono ?_
  rintro e w1 ⟨pb, t, q, b, c, rfl, hp, T1, M1, ⟨hb, hc, hq⟩, pb1, pc1, pq1⟩
  have HT1 := hidM T1
  have HM1 := hidM M1
  have HQ := hidM (show w.heap.size ≤ b ∧ w.heap.size ≤ c ∧ w.heap.size ≤ q ∧ b < pb ∧ c < pb ∧ q < pb from ⟨hb, hc, hq, pb1, pc1, pq1⟩)
  have HP := hidM (block_lt_of_cell hp)
  clear T1 M1 hb hc hq pb1 pc1 pq1
  go_wp2_with fail
  refine (dInit HT1.out 0 0 (by omega) (by omega) (by decide) (by decide) (by decide) (fun W hM => tstat (HT1.out.new hM) 0 (by omega) (by decide)) (by decide +kernel) (by omega) s41 rfl 0 (by rw [done1]; rfl) F41 F41_eq).mono ?_
  rintro e w2 ⟨rfl, M2, T2⟩
  have HT2 : Hid (Tb w2 t q b c 4 6 0 F41 (setN (fun _ _ => 0) 0 s41.R) s41.u s41.D) := T2
  have hp2 : w2.cell? ⟨pb, 0, none⟩ = some (.pointer (some ⟨t, 0, none⟩)) := (M2.cell (p := ⟨pb, 0, none⟩) HP.out (by have := HQ.out; show ¬ (pb = b ∨ pb = c ∨ pb = q); omega)).trans hp
  have HM2 := hidM (Mod.new4 HM1.out M2 (fun k h => by have := HQ.out; omega))
  have HP2 := hidM (block_lt_of_cell hp2)
  clear T2 M2 hp HP
  go_wp2_with fail
  refine (dAdd HT2.out 0 2 64 [97] (by omega) (by omega) (by decide) (by decide) (by decide) (by omega) (fun W hM => tstat (HT2.out.new hM) 0 (by omega) (by decide)) (by decide +kernel) (by omega) (by decide) (by decide) (by decide +kernel) none1 2 room1.symm (by decide) s42 rfl 0 (by rw [done2]; rfl) F42 F42_eq).mono ?_
  rintro e w3 ⟨rfl, M3, T3⟩
  have HT3 : Hid (Tb w3 t q b c 4 6 0 F42 (setN (setN (fun _ _ => 0) 0 s41.R) 0 s42.R) s42.u s42.D) := T3
  have hp3 : w3.cell? ⟨pb, 0, none⟩ = some (.pointer (some ⟨t, 0, none⟩)) := (M3.cell (p := ⟨pb, 0, none⟩) HP2.out (by have := HQ.out; show ¬ (pb = b ∨ pb = c ∨ pb = q); omega)).trans hp2
  have HM3 := hidM (Mod.new4 HM2.out M3 (fun k h => by have := HQ.out; omega))
  clear T3 M3 hp2 HP2
  go_wp2_with fail
  refine (dFind HT3.out 0 96 2 [97] (by omega) (by decide) (by decide) (by omega) (fun W hM => tstat (HT3.out.new hM) 0 (by omega) (by decide)) (by decide +kernel) (by decide) (by decide) (by decide +kernel) some2).mono ?_
  rintro e w4 ⟨rfl, M4⟩
  have HM4 := hidM (HM3.out.trans M4)
  have ha : ((le4 (slotD (rd s42.u s42.D (setN (setN (fun _ _ => 0) 0 s41.R) 0 s42.R 0)) 2) 0 : Nat) : Int) = 3 := by
    show ((le4 (slotD (rd s42.u s42.D s42.R) 2) 0 : Nat) : Int) = 3
    rw [ans2]; rfl
  rw [ha]
  clear ha M4 hp3 HT1 HT2 HT3
  go_wp2_with (go_at_call 9; refine (num4 _ _).mono ?_; rintro e w' ⟨rfl, hw'⟩; rw [hw']; clear hw' w')
  go_ret
  exact ⟨rfl, HM4.out⟩
end Go.Proofs.YtfmemkninmpfjaaGreatDoor
