/- Open of a directory for reading: the flags, openable, and the work of Open where the file is there. Conditions: the task lies in memory as 'TkAt' says (no groups); what follow, stat and Hold do. -/
import Derived.Test.YtkokejgaclabdaaGreatDoorM20
import Derived.Test.YtkokejgaclabdaaGreatDoorM18
import Derived.Test.YtkokejgaclabdaaGreatDoorM19
import Derived.Deep.RegionHeld3
namespace Go.Proofs.YtkokejgaclabdaaGreatDoor
open Go.RowKit
theorem b1a : bits .and .i64 1 (-256) = 0 := by decide +kernel
theorem b1b : bits .and .i64 1 3 = 1 := by decide +kernel
theorem b1c : bits .and .i64 1 36 = 0 := by decide +kernel
theorem b1d : bits .and .i64 1 72 = 0 := by decide +kernel
theorem b1e : bits .and .i64 1 128 = 0 := by decide +kernel
theorem b1f : bits .and .i64 1 24 = 0 := by decide +kernel
theorem b1g : bits .and .i64 1 10 = 0 := by decide +kernel
theorem b1h : bits .and .i64 1 1 = 1 := by decide +kernel
theorem b1i : bits .and .i64 1 2 = 0 := by decide +kernel
theorem b1j : bits .or .i64 0 4 = 4 := by decide +kernel
theorem fFit1 (w : World) : Calls Tryz.prog 48 #[.int .i64 1] w fun e w' => e = .returned (.bool true) ∧ w' = w := by
  have h1 := b1a; have h2 := b1b; have h3 := b1c; have h4 := b1d
  go_enter Tryz.func48, Tryz.ntmps48
  go_wp2
  go_ret
  exact ⟨rfl, rfl⟩
theorem fEnd1 (w : World) : Calls Tryz.prog 50 #[.int .i64 1] w fun e w' => e = .returned (.int .i64 0) ∧ w' = w := by
  have h1 := b1e; have h2 := b1f
  go_enter Tryz.func50, Tryz.ntmps50
  go_wp2
  go_ret
  exact ⟨rfl, rfl⟩
theorem fHas1 (x : Int) (w : World) (hx : (bits .and .i64 1 x == x) = false) : Calls Tryz.prog 51 #[.int .i64 1, .int .i64 x] w fun e w' => e = .returned (.bool false) ∧ w' = w := by
  have HX := hid6 hx
  clear hx
  go_enter Tryz.func51, Tryz.ntmps51
  go_wp2
  go_ret
  exact ⟨congrArg (fun z => Ending.returned (.bool z)) HX.out, rfl⟩
theorem fSome1 (w : World) : Calls Tryz.prog 70 #[.int .i64 1, .int .i64 10] w fun e w' => e = .returned (.bool false) ∧ w' = w := by
  have h1 := b1g
  go_enter Tryz.func70, Tryz.ntmps70
  go_wp2
  go_ret
  exact ⟨rfl, rfl⟩
theorem fWant1 (w : World) : Calls Tryz.prog 83 #[.int .i64 1] w fun e w' => e = .returned (.int .i64 4) ∧ w' = w := by
  have h1 := b1h; have h2 := b1i; have h3 := b1j
  go_enter Tryz.func83, Tryz.ntmps83
  go_wp2
  go_ret
  exact ⟨rfl, rfl⟩
set_option maxRecDepth 100000 in
set_option maxHeartbeats 2000000 in
theorem tOpenable1 {w : World} {k t : Nat} {u g : Int} {ga : Option Addr} {gc : Nat} {um cw : Int} (h : TkAt w k t u g ga gc um cw) (s0 s1 s2 s3 s4 s5 s6 s7 s8 s9 : Int) (hd : bits .and .i64 s6 61440 = 16384) (hacc : accB s6 s2 u (memB g [] s3) 4 = true) :
    Calls Tryz.prog 54 #[.pointer (some ⟨k, 0, none⟩), .agg #[.int .i64 s0, .int .i64 s1, .int .i64 s2, .int .i64 s3, .int .i64 s4, .int .i64 s5, .int .i64 s6, .int .i64 s7, .int .i64 s8, .int .i64 s9], .int .i64 1] w fun x w' => x = .returned (.tuple #[]) ∧ Mod (fun _ => False) w w' := by
  have HK : Hid (∀ W, _) := fun W => tKind s0 s1 s2 s3 s4 s5 s6 s7 s8 s9 W
  have HD : Hid (∀ W, _) := fun W => tIsDir s0 s1 s2 s3 s4 s5 s6 s7 s8 s9 W
  have HY : Hid (∀ W (hM : Mod (fun _ => False) w W), _) := fun W hM => tMay (h.new hM) s0 s1 s2 s3 s4 s5 s6 s7 s8 s9 4
  unfold sA at HK HD HY
  rw [hacc] at HY
  rw [hd] at HK HD
  have HM0 := hid6 (show Mod (fun _ => False) w (w.alloc (.cells #[.int .i64 s0, .int .i64 s1, .int .i64 s2, .int .i64 s3, .int .i64 s4, .int .i64 s5, .int .i64 s6, .int .i64 s7, .int .i64 s8, .int .i64 s9] 54)) from (Mod.refl _ w).alloc _)
  have HC0 : Hid (∀ W, Mod (fun _ => False) (w.alloc (.cells #[.int .i64 s0, .int .i64 s1, .int .i64 s2, .int .i64 s3, .int .i64 s4, .int .i64 s5, .int .i64 s6, .int .i64 s7, .int .i64 s8, .int .i64 s9] 54)) W → W.cell? ⟨w.heap.size, 0, none⟩ = some (.int .i64 s0) ∧ W.cell? ⟨w.heap.size, 1, none⟩ = some (.int .i64 s1) ∧ W.cell? ⟨w.heap.size, 2, none⟩ = some (.int .i64 s2) ∧ W.cell? ⟨w.heap.size, 3, none⟩ = some (.int .i64 s3) ∧ W.cell? ⟨w.heap.size, 4, none⟩ = some (.int .i64 s4) ∧ W.cell? ⟨w.heap.size, 5, none⟩ = some (.int .i64 s5) ∧ W.cell? ⟨w.heap.size, 6, none⟩ = some (.int .i64 s6) ∧ W.cell? ⟨w.heap.size, 7, none⟩ = some (.int .i64 s7) ∧ W.cell? ⟨w.heap.size, 8, none⟩ = some (.int .i64 s8) ∧ W.cell? ⟨w.heap.size, 9, none⟩ = some (.int .i64 s9)) := fun W hM => by
    have k : ∀ j, W.cell? ⟨w.heap.size, j, none⟩ = (w.alloc (.cells #[.int .i64 s0, .int .i64 s1, .int .i64 s2, .int .i64 s3, .int .i64 s4, .int .i64 s5, .int .i64 s6, .int .i64 s7, .int .i64 s8, .int .i64 s9] 54)).cell? ⟨w.heap.size, j, none⟩ := fun j => hM.cell (p := ⟨w.heap.size, j, none⟩) (by simp) (fun e => e)
    refine ⟨?_, ?_, ?_, ?_, ?_, ?_, ?_, ?_, ?_, ?_⟩ <;> (rw [k, World.cell?_alloc_at _ _ _ _ rfl]; rfl)
  clear hd hacc h
  go_enter Tryz.func54, Tryz.ntmps54
  go_wp2_with (first | (go_at_call 47; refine (refuse_no _ _).mono ?_; rintro e w9 ⟨rfl, hw9⟩; rw [hw9]; clear hw9 w9) | (go_at_call 51; first | (refine (fHas1 24 _ (by decide +kernel)).mono ?_; rintro e w9 ⟨rfl, hw9⟩; rw [hw9]; clear hw9 w9) | (refine (fHas1 64 _ (by decide +kernel)).mono ?_; rintro e w9 ⟨rfl, hw9⟩; rw [hw9]; clear hw9 w9)))
  refine Calls.mono (HK.out _) ?_
  rintro e w1 ⟨rfl, M1⟩
  have HM1 := hid6 M1
  clear M1
  obtain ⟨e0, e1, e2, e3, e4, e5, e6, e7, e8, e9⟩ := HC0.out w1 HM1.out
  go_wp2_with (first | (go_at_call 47; refine (refuse_no _ _).mono ?_; rintro e w9 ⟨rfl, hw9⟩; rw [hw9]; clear hw9 w9) | (go_at_call 51; first | (refine (fHas1 24 _ (by decide +kernel)).mono ?_; rintro e w9 ⟨rfl, hw9⟩; rw [hw9]; clear hw9 w9) | (refine (fHas1 64 _ (by decide +kernel)).mono ?_; rintro e w9 ⟨rfl, hw9⟩; rw [hw9]; clear hw9 w9)))
  refine Calls.mono (HD.out _) ?_
  rintro e w2 ⟨rfl, M2⟩
  have HM2 := hid6 (HM1.out.trans M2)
  clear M2 e0 e1 e2 e3 e4 e5 e6 e7 e8 e9 HM1
  have hS0 := HC0.out w2.drew (HM2.out.drewN 1)
  have HMw := hid6 (HM0.out.trans HM2.out)
  go_upto_region 5 with (first | (go_at_call 47; refine (refuse_no _ _).mono ?_; rintro e w9 ⟨rfl, hw9⟩; rw [hw9]; clear hw9 w9) | (go_at_call 51; first | (refine (fHas1 24 _ (by decide +kernel)).mono ?_; rintro e w9 ⟨rfl, hw9⟩; rw [hw9]; clear hw9 w9) | (refine (fHas1 64 _ (by decide +kernel)).mono ?_; rintro e w9 ⟨rfl, hw9⟩; rw [hw9]; clear hw9 w9)) | (go_at_call 70; refine (fSome1 _).mono ?_; rintro e w9 ⟨rfl, hw9⟩; rw [hw9]; clear hw9 w9))
  go_region_held3 (fun W' => W'.cell? ⟨w.heap.size, 0, none⟩ = some (.int .i64 s0) ∧ W'.cell? ⟨w.heap.size, 1, none⟩ = some (.int .i64 s1) ∧ W'.cell? ⟨w.heap.size, 2, none⟩ = some (.int .i64 s2) ∧ W'.cell? ⟨w.heap.size, 3, none⟩ = some (.int .i64 s3) ∧ W'.cell? ⟨w.heap.size, 4, none⟩ = some (.int .i64 s4) ∧ W'.cell? ⟨w.heap.size, 5, none⟩ = some (.int .i64 s5) ∧ W'.cell? ⟨w.heap.size, 6, none⟩ = some (.int .i64 s6) ∧ W'.cell? ⟨w.heap.size, 7, none⟩ = some (.int .i64 s7) ∧ W'.cell? ⟨w.heap.size, 8, none⟩ = some (.int .i64 s8) ∧ W'.cell? ⟨w.heap.size, 9, none⟩ = some (.int .i64 s9)) (first | with_reducible exact hS1 | with_reducible exact hS0 | go_keep)
    (first
      | (go_at_call 83; refine (fWant1 _).mono ?_; rintro e w9 ⟨rfl, hw9⟩; rw [hw9]; clear hw9 w9)
      | (go_at_call 82; refine Calls.mono (HY.out w2.drew (HMw.out.drewN 1)) ?_; rintro e w3 ⟨rfl, M3⟩; have HM3 := hid6 ((HMw.out.drewN 1).trans M3); have hS1 := HC0.out _ ((HM2.out.drewN 1).trans M3); clear M3)
      | (go_at_call 47; refine (refuse_no _ _).mono ?_; rintro e w9 ⟨rfl, hw9⟩; rw [hw9]; clear hw9 w9))
  all_goals
    go_wp2
    exact ⟨rfl, _, results_none rfl _ _ _, rfl, HM3.out⟩
section
variable {w : World} {t q b c n N : Nat} {clk : Int} {F : Nat → Nat → Int} {R : Nat → Nat → Nat} {u : Nat → Bool} {D : Nat → Nat}
set_option maxRecDepth 100000 in
set_option maxHeartbeats 4000000 in
theorem tOpenOld {k b1 b2 b3 : Nat} {cu cg : Int} {ga : Option Addr} {gc : Nat} {um cw : Int} (hk : TkAt w k t cu cg ga gc um cw) (l : List UInt8) (r : Int) (f : Nat → Int) (hr : (r == 0) = false) (c1 : w.cell? ⟨b1, 0, none⟩ = some (.int .i64 1)) (c2 : w.cell? ⟨b2, 0, none⟩ = some (.string ⟨l.toArray⟩))
    (hF : ∀ W, Mod (fun _ => False) w W → Calls Tryz.prog 49 #[.pointer (some ⟨k, 0, none⟩), .string ⟨l.toArray⟩, .int .i64 0] W fun e w' => e = .returned (.agg #[.int .i64 0, .string ⟨#[]⟩, .int .i64 r, .bool false]) ∧ Mod (fun _ => False) W w')
    (hS : StA w k r f) (hd : bits .and .i64 (f 0) 61440 = 16384) (hacc : accB (f 0) (f 1) cu (memB cg [] (f 2)) 4 = true) (Q : World → Prop)
    (hH : ∀ W, Mod (fun _ => False) w W → Calls Tryz.prog 43 #[.pointer (some ⟨t, 0, none⟩), .int .i64 r] W fun e w' => e = .returned (.int .i64 0) ∧ (Mod (fun x => x = q) W w' ∧ Q w')) :
    Calls Tryz.prog 46 #[.pointer (some ⟨k, 0, none⟩), .pointer (some ⟨b1, 0, none⟩), .pointer (some ⟨b2, 0, none⟩), .pointer (some ⟨b3, 0, none⟩)] w fun e w' => e = .returned (.int .i64 r) ∧ Mod (fun x => x = q) w w' ∧ Q w' := by
  have HF := hid6 hF
  have HH := hid6 hH
  have HS := hid6 hS
  have HKt := hid6 hk
  have HO : Hid (∀ W (hM : Mod (fun _ => False) w W) s0 s1 s4 s5 s7 s8 s9, _) := fun W hM s0 s1 s4 s5 s7 s8 s9 => tOpenable1 (hk.new hM) s0 s1 (f 1) (f 2) s4 s5 (f 0) s7 s8 s9 hd hacc
  have hb2 := block_lt_of_cell c2
  clear hF hH hS hk hd hacc
  go_enter Tryz.func46, Tryz.ntmps46
  go_upto_region 3 with (first | (go_at_call 48; refine (fFit1 _).mono ?_; rintro e w3 ⟨rfl, hw3⟩; rw [hw3]; clear hw3 w3) | (go_at_call 47; refine (refuse_no _ _).mono ?_; rintro e w9 ⟨rfl, hw9⟩; rw [hw9]; clear hw9 w9))
  go_cut [7] (fun v7 wc => ∃ B7 : Nat, v7 = .pointer (some ⟨B7, 0, none⟩) ∧ wc.cell? ⟨B7, 0, none⟩ = some (.int .i64 0) ∧ wc.cell? ⟨B7, 1, none⟩ = some (.string ⟨#[]⟩) ∧ wc.cell? ⟨B7, 2, none⟩ = some (.int .i64 r) ∧ wc.cell? ⟨B7, 3, none⟩ = some (.bool false) ∧ Hid (Mod (fun _ => False) w wc))
  case first =>
    go_region_held (fun W' => W'.cell? ⟨b2, 0, none⟩ = some (.string ⟨l.toArray⟩)) (first | with_reducible exact hS1 | go_keep | (simp only [hco, hsz, Nat.le_refl]; with_reducible exact hS1))
      (first | (go_at_call 50; refine (fEnd1 _).mono ?_; rintro e w3 ⟨rfl, hw3⟩; rw [hw3]; clear hw3 w3) | (go_at_call 49; refine (HF.out _ (by first | exact (Mod.refl _ _).drewN 1 | exact ((Mod.refl _ _).drewN 1).alloc _)).mono ?_; rintro e w1 ⟨rfl, M1⟩; have hcl := (fun (p : Addr) (hp : p.block < _) => M1.cell (p := p) hp (fun e => e)); have hfz := (fun (p : Addr) (hp : p.block < _) => M1.frozen (p := p) hp (fun e => e)); have HM1 := hid6 M1; have hsz : w.heap.size ≤ w1.heap.size := (by have := M1.size; simp at this; omega); have hS1 : w1.cell? ⟨b2, 0, none⟩ = some (.string ⟨l.toArray⟩) := ((M1.cell (p := ⟨b2, 0, none⟩) (by first | exact hb2 | (simp; omega)) (fun e => e)).trans (by first | assumption | go_keep)); have hco := (fun (W : World) (B o : Nat) (v : Value) (hB : w.heap.size ≤ B) => setCell_out W B o v ⟨b2, 0, none⟩ (fun e => by have h1 : b2 = B := e; omega)); clear M1))
    all_goals
      go_wp2_with fail
      go_meet
      first
        | exact ⟨w1.heap.size, rfl, by rw [World.cell?_alloc_at _ _ _ _ rfl]; rfl, by rw [World.cell?_alloc_at _ _ _ _ rfl]; rfl, by rw [World.cell?_alloc_at _ _ _ _ rfl]; rfl, by rw [World.cell?_alloc_at _ _ _ _ rfl]; rfl, (((Mod.refl _ _).drewN 1).trans HM1.out).alloc _⟩
        | exact ⟨w.heap.size, rfl, by simp [go_sem, hcl], by simp [go_sem, hcl], by simp [go_sem, hcl], by simp [go_sem, hcl], Mod.new6 ((((Mod.refl _ _).drewN 1).alloc _).trans HM1.out) (w4_mod w1 w.heap.size _ _ _ _) (fun x e => by rw [e]; exact Nat.le_refl _)⟩
  case rest =>
    obtain ⟨B7, rfl, g0, g1, g2, g3, HM⟩ := hcut
    have hB7 := block_lt_of_cell g0
    go_wp2_with (first | (go_at_call 47; refine (refuse_no _ _).mono ?_; rintro e w9 ⟨rfl, hw9⟩; rw [hw9]; clear hw9 w9))
    refine Calls.mono (HS.out _ HM.out) ?_
    rintro e w2 ⟨⟨bl, rfl⟩, M2⟩
    have HM2 := hid6 (HM.out.trans M2)
    have g2' := (M2.cell (p := ⟨B7, 2, none⟩) hB7 (fun e => e)).trans g2
    clear M2
    go_wp2_with fail
    refine Calls.mono (HO.out _ HM2.out _ _ _ _ _ _ _) ?_
    rintro e w3 ⟨rfl, M3⟩
    have HM3 := hid6 (HM2.out.trans M3)
    have g2'' := (M3.cell (p := ⟨B7, 2, none⟩) (block_lt_of_cell g2') (fun e => e)).trans g2'
    have k3 := (HKt.out.new HM3.out).c0
    clear M3
    go_wp2_with (first | (go_at_call 51; refine (fHas1 32 _ (by decide +kernel)).mono ?_; rintro e w9 ⟨rfl, hw9⟩; rw [hw9]; clear hw9 w9))
    refine Calls.mono (tHold k3 r (fun w' => Mod (fun x => x = q) w3 w' ∧ Q w') (HH.out _ HM3.out)) ?_
    rintro e w6 ⟨rfl, M6, q6⟩
    have HM6 := hid6 (And.intro ((HM3.out.mono (t := fun x => x = q) (fun _ _ e => e.elim)).trans M6) q6)
    clear M6 q6
    go_wp2
    go_ret
    exact ⟨rfl, HM6.out⟩
end
end Go.Proofs.YtkokejgaclabdaaGreatDoor
