/- Layer 4's calls of a table that no call made. -/
import Derived.Test.YtpohjgnfndgniaaGreatDoorM10
import Derived.Test.YtpohjgnfndgniaaGreatDoorM18
namespace Go.Proofs.YtpohjgnfndgniaaGreatDoor
open Go.RowKit
/-- No call made the table p, in whatever memory comes. -/
def NoTs (p : Value) (w : World) : Prop := ∀ W, Mod (fun _ => False) w W → NoT p W
theorem NoTs.to {p : Value} {w w' : World} (h : NoTs p w) (hM : Mod (fun _ => False) w w') : NoTs p w' := fun W hW => h W (hM.trans hW)
theorem hidN {p : Prop} (h : p) : Hid p := h
theorem nStat (p : Value) (w : World) (H : NoTs p w) (a : Value) : Calls Tryz.prog 107 #[p, a] w fun e w' => e = .returned (.tuple #[.agg zeroS, .int .i64 14]) ∧ Mod (fun _ => False) w w' :=
  (tn_stat p w (H _ ((Mod.refl _ w).alloc _)) a).mono fun _ _ ⟨he, hw⟩ => ⟨he, by rw [hw]; exact (Mod.refl _ w).alloc _⟩
def zSL : List Value := [.int .i64 0, .int .i64 0, .int .i64 0, .int .i64 0, .int .i64 0, .int .i64 0, .int .i64 0, .int .i64 0, .int .i64 0, .int .i64 0]
theorem ret_look14 {W : World} {B : Nat} {L : List Value} (h : W.rangeAt B 0 L) (hl : L.length = 10) (tmps : Array Value) (h4 : tmps[4]?.getD undef = .pointer (some ⟨B, 0, none⟩)) (h5 : tmps[5]?.getD undef = .int .i64 14) :
    (results Tryz.f142 tmps).run Tryz.prog W = .ok (.tuple #[.agg L.toArray, .int .i64 14]) W := by
  have h2 := run_loadVar_mid (P := Tryz.prog) W B 0 38 L _ h Tryz.underlying38 rfl (by rw [hl]; exact infSt)
  unfold results
  rw [Tryz.results142]
  simp [h4, h5, asAddr, Result.andThen, h2]
set_option maxRecDepth 100000 in
set_option maxHeartbeats 1000000 in
theorem nLook (p : Value) (w : World) (H : NoTs p w) (a : Value) : Calls Tryz.prog 142 #[p, a] w fun e w' => e = .returned (.tuple #[.agg zSL.toArray, .int .i64 14]) ∧ Mod (fun _ => False) w w' := by
  have HN := hidN H
  clear H
  go_enter Tryz.func142, Tryz.ntmps142
  go_wp2_with fail
  refine (nStat p _ (HN.out.to ((Mod.refl _ w).alloc _)) a).mono ?_
  rintro e w1 ⟨rfl, HM⟩
  have hws : w.heap.size < w1.heap.size := by have := HM.size; simp at this; omega
  have HTh : Hid ((w1.alloc (.cells zSL.toArray 38)).there w.heap.size 0 zSL.toArray.size) := fun j hj => by
    have h0 := there_new w 38 #[.int .i64 0, .int .i64 0, .int .i64 0, .int .i64 0, .int .i64 0, .int .i64 0, .int .i64 0, .int .i64 0, .int .i64 0, .int .i64 0] (n := 10) rfl j hj
    rw [World.cell?_alloc_past _ _ _ hws, World.frozen?_alloc_past _ _ _ hws, HM.cell (p := ⟨w.heap.size, 0 + j, none⟩) (by simp) (fun h => h), HM.frozen (p := ⟨w.heap.size, 0 + j, none⟩) (by simp) (fun h => h)]
    exact h0
  obtain ⟨wE, hwE⟩ : ∃ wE, Hid ((w1.alloc (.cells zSL.toArray 38)).setCells w.heap.size 0 zSL = wE) := ⟨_, rfl⟩
  have HRng : Hid (wE.rangeAt w.heap.size 0 zSL) := by
    show World.rangeAt _ _ _ _
    rw [← hwE.out]; exact World.rangeAt_setCells_same _ _ _ _ (by have := HTh.out; simpa using this)
  have HFin : Hid (Mod (fun _ => False) w wE) := by
    rw [← hwE.out]
    exact mod_new_cells (HM.alloc _) (Nat.le_refl _) _ _
  have HOne : Hid (zSL.toArray.all (·.oneCell') = true) := by
    show _ = _
    refine all_oneCell_toArray (fun v hv => ?_)
    simp only [zSL, List.mem_cons, List.not_mem_nil, or_false] at hv
    rcases hv with rfl | rfl | rfl | rfl | rfl | rfl | rfl | rfl | rfl | rfl <;> rfl
  clear HM
  unfold zSL at *
  go_wp2_with (refine wpList_store_mid rfl 38 _ _ rfl w.heap.size 0 _ rfl rfl HTh.out infSt HOne.out ?_; rw [hwE.out])
  exact bodyPost_ret (ret_look14 HRng.out rfl _ rfl rfl) rfl ⟨rfl, HFin.out⟩
set_option maxRecDepth 100000 in
set_option maxHeartbeats 1000000 in
theorem nRead (p : Value) (w : World) (H : NoTs p w) (a : Value) : Calls Tryz.prog 166 #[p, a] w fun e w' => e = .returned (.tuple #[.slice none 0 0, .int .i64 14]) ∧ Mod (fun _ => False) w w' := by
  have HN := hidN H
  clear H
  go_enter Tryz.func166, Tryz.ntmps166
  go_wp2_with fail
  refine (nLook p _ (HN.out.to (Mod.refl _ w)) a).mono ?_
  rintro e w1 ⟨rfl, HM1⟩
  have HM := hidN (HM1.alloc _ : Mod (fun _ => False) w (w1.alloc (.cells zSL.toArray 38)))
  clear HM1
  unfold zSL at *
  go_wp2
  go_ret2
  exact ⟨rfl, HM.out⟩
set_option maxRecDepth 100000 in
set_option maxHeartbeats 1000000 in
theorem nReadFor (p : Value) (w : World) (H : NoTs p w) (a b : Value) : Calls Tryz.prog 146 #[p, a, b] w fun e w' => e = .returned (.tuple #[.slice none 0 0, .int .i64 14]) ∧ Mod (fun _ => False) w w' := by
  have HN := hidN H
  clear H
  go_enter Tryz.func146, Tryz.ntmps146
  go_wp2_with fail
  refine (nRead p _ (HN.out.to (Mod.refl _ w)) a).mono ?_
  rintro e w1 ⟨rfl, HM1⟩
  have HM := hidN (HM1 : Mod (fun _ => False) w w1)
  clear HM1
  go_wp2
  go_ret2
  exact ⟨rfl, HM.out⟩
set_option maxRecDepth 100000 in
set_option maxHeartbeats 1000000 in
theorem nFind (p : Value) (w : World) (H : NoTs p w) (a b : Value) : Calls Tryz.prog 165 #[p, a, b] w fun e w' => e = .returned (.tuple #[.int .i64 0, .int .i64 14]) ∧ Mod (fun _ => False) w w' := by
  have HN := hidN H
  clear H
  go_enter Tryz.func165, Tryz.ntmps165
  go_wp2_with fail
  refine (nReadFor p _ (HN.out.to (Mod.refl _ w)) a b).mono ?_
  rintro e w1 ⟨rfl, HM1⟩
  have HM := hidN (HM1 : Mod (fun _ => False) w w1)
  clear HM1
  go_wp2
  go_ret2
  exact ⟨rfl, HM.out⟩
set_option maxRecDepth 100000 in
set_option maxHeartbeats 1000000 in
theorem nAdd (p : Value) (w : World) (H : NoTs p w) (a b c : Value) : Calls Tryz.prog 70 #[p, a, b, c] w fun e w' => e = .returned (.int .i64 14) ∧ Mod (fun _ => False) w w' := by
  have HN := hidN H
  clear H
  go_enter Tryz.func70, Tryz.ntmps70
  go_wp2_with fail
  refine (nReadFor p _ (HN.out.to (Mod.refl _ w)) a b).mono ?_
  rintro e w1 ⟨rfl, HM1⟩
  have HM := hidN (HM1 : Mod (fun _ => False) w w1)
  clear HM1
  go_wp2
  go_ret
  exact ⟨rfl, HM.out⟩
set_option maxRecDepth 100000 in
set_option maxHeartbeats 1000000 in
theorem nPut (p : Value) (w : World) (H : NoTs p w) (a b c : Value) : Calls Tryz.prog 157 #[p, a, b, c] w fun e w' => e = .returned (.int .i64 14) ∧ Mod (fun _ => False) w w' := by
  have HN := hidN H
  clear H
  go_enter Tryz.func157, Tryz.ntmps157
  go_wp2_with fail
  refine (nReadFor p _ (HN.out.to (Mod.refl _ w)) a b).mono ?_
  rintro e w1 ⟨rfl, HM1⟩
  have HM := hidN (HM1 : Mod (fun _ => False) w w1)
  clear HM1
  go_wp2
  go_ret
  exact ⟨rfl, HM.out⟩
set_option maxRecDepth 100000 in
set_option maxHeartbeats 1000000 in
theorem nRemove (p : Value) (w : World) (H : NoTs p w) (a b : Value) : Calls Tryz.prog 75 #[p, a, b] w fun e w' => e = .returned (.int .i64 14) ∧ Mod (fun _ => False) w w' := by
  have HN := hidN H
  clear H
  go_enter Tryz.func75, Tryz.ntmps75
  go_wp2_with fail
  refine (nReadFor p _ (HN.out.to (Mod.refl _ w)) a b).mono ?_
  rintro e w1 ⟨rfl, HM1⟩
  have HM := hidN (HM1 : Mod (fun _ => False) w w1)
  clear HM1
  go_wp2
  go_ret
  exact ⟨rfl, HM.out⟩
set_option maxRecDepth 100000 in
set_option maxHeartbeats 1000000 in
theorem nInit (p : Value) (w : World) (H : NoTs p w) (a b : Value) : Calls Tryz.prog 69 #[p, a, b] w fun e w' => e = .returned (.int .i64 14) ∧ Mod (fun _ => False) w w' := by
  have HN := hidN H
  clear H
  go_enter Tryz.func69, Tryz.ntmps69
  go_wp2_with fail
  refine (nLook p _ (HN.out.to (Mod.refl _ w)) a).mono ?_
  rintro e w1 ⟨rfl, HM1⟩
  have HM := hidN (HM1.alloc _ : Mod (fun _ => False) w (w1.alloc (.cells zSL.toArray 38)))
  clear HM1
  unfold zSL at *
  go_wp2
  go_ret
  exact ⟨rfl, HM.out⟩
set_option maxRecDepth 100000 in
set_option maxHeartbeats 1000000 in
theorem nList (p : Value) (w : World) (H : NoTs p w) (a : Value) : Calls Tryz.prog 108 #[p, a] w fun e w' => e = .returned (.tuple #[.slice none 0 0, .int .i64 14]) ∧ Mod (fun _ => False) w w' := by
  have HN := hidN H
  clear H
  go_enter Tryz.func108, Tryz.ntmps108
  go_wp2_with fail
  refine (nLook p _ (HN.out.to (Mod.refl _ w)) a).mono ?_
  rintro e w1 ⟨rfl, HM1⟩
  have HM := hidN (HM1.alloc _ : Mod (fun _ => False) w (w1.alloc (.cells zSL.toArray 38)))
  clear HM1
  unfold zSL at *
  go_wp2
  go_ret2
  exact ⟨rfl, HM.out⟩
end Go.Proofs.YtpohjgnfndgniaaGreatDoor
