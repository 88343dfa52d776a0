/- Several texts of this claim, one behind the other, in their order. -/
import Derived.Test.YtgkkbplecfhmdaaGreatDoorM26
import Derived.Test.YtgkkbplecfhmdaaGreatDoorM3
import Derived.Deep.DeepCutAuto
/- The process' Open of a new file, and Pipe. Conditions: the process lies in memory; what the file system's Open does; a descriptor is free. -/
namespace Go.Proofs.YtgkkbplecfhmdaaGreatDoor
open Go.RowKit
theorem b10h : bits .and .i64 10 3 = 2 := by decide +kernel
theorem b10i : bits .andNot .i64 10 255 = 0 := by decide +kernel
section
variable {w : World} {P fb : Nat} {u g : Int} {ga : Option Addr} {gc : Nat} {um cw : Int} {d : Nat → Option Addr}
/-- One more descriptor leads to a new description. -/
theorem low_end {w5 W : World} {D : Nat} {v : Value} (h : PAt w5 P fb u g ga gc um cw d) (j : Nat) (hj : j < 16) (hW : Mod (fun _ => False) w5 W) (hD : W.cell? ⟨D, 0, none⟩ = some v) (h1 : W.cell? ⟨D, 1, none⟩ = some (.int .i64 0)) (hf : ∀ o, W.frozen? ⟨D, o, none⟩ = false) (hDl : w5.heap.size ≤ D) :
    PAt ((W.setCell ⟨P, 6 + j, none⟩ (.pointer (some ⟨D, 0, none⟩))).setCell ⟨D, 1, none⟩ (.int .i64 1)) P fb u g ga gc um cw (fun i => if i = j then some ⟨D, 0, none⟩ else d i) ∧ DAt ((W.setCell ⟨P, 6 + j, none⟩ (.pointer (some ⟨D, 0, none⟩))).setCell ⟨D, 1, none⟩ (.int .i64 1)) D v 1 ∧ Mod (fun x => x = P) w5 ((W.setCell ⟨P, 6 + j, none⟩ (.pointer (some ⟨D, 0, none⟩))).setCell ⟨D, 1, none⟩ (.int .i64 1)) ∧ Mod (fun x => x = P ∨ x = D) W ((W.setCell ⟨P, 6 + j, none⟩ (.pointer (some ⟨D, 0, none⟩))).setCell ⟨D, 1, none⟩ (.int .i64 1)) := by
  have hP := h.lt
  have hne : D ≠ P := by omega
  have m1 : Mod (fun x => x = P) W (W.setCell ⟨P, 6 + j, none⟩ (.pointer (some ⟨D, 0, none⟩))) := (Mod.refl _ _).setCell _ _ rfl
  have m2 : Mod (fun x => x = D) (W.setCell ⟨P, 6 + j, none⟩ (.pointer (some ⟨D, 0, none⟩))) ((W.setCell ⟨P, 6 + j, none⟩ (.pointer (some ⟨D, 0, none⟩))).setCell ⟨D, 1, none⟩ (.int .i64 1)) := (Mod.refl _ _).setCell _ _ rfl
  refine ⟨((h.new hW).set j hj _).mod m2 (fun e => hne e.symm), ⟨?_, ?_, fun o => ?_⟩, Mod.andNew (((hW.mono (fun _ _ e => e.elim))).trans m1) m2 hDl, (m1.mono (fun _ _ e => .inl e)).trans (m2.mono (fun _ _ e => .inr e))⟩
  · rw [setCell_out _ _ _ _ _ (fun _ e => by cases e), setCell_out _ _ _ _ _ (fun e => absurd e hne)]; exact hD
  · exact World.cell?_setCell_same _ _ _ (by rw [setCell_out _ _ _ _ _ (fun e => absurd e hne)]; exact h1)
  · have := hf o; simp [go_sem, this]
set_option maxRecDepth 100000 in
set_option maxHeartbeats 2000000 in
theorem pOpen (h : PAt w P fb u g ga gc um cw d) (j : Nat) (hj : j < 16) (h0 : d j = none) (h1 : ∀ i, i < j → ∃ B : Nat, d i = some ⟨B, 0, none⟩) (hr : fdN d + 1 ≤ 16) (l : List UInt8) (m r : Int) (S : Nat → Prop) (hSP : ¬ S P) (Q : World → Prop)
    (hO : ∀ W, Mod (fun _ => False) w W → Calls Tryz.prog 23 #[.pointer (some ⟨fb, 0, none⟩), .agg #[.int .i64 u, .int .i64 g, .slice ga 0 gc, .int .i64 um, .int .i64 cw], .string ⟨l.toArray⟩, .int .i64 10, .int .i64 m] W fun e w' => e = .returned (.tuple #[.int .i64 r, .int .i64 0]) ∧ Mod S W w' ∧ Q w') :
    Calls Tryz.prog 4 #[.pointer (some ⟨P, 0, none⟩), .string ⟨l.toArray⟩, .int .i64 10, .int .i64 m] w fun e w' => e = .returned (.tuple #[.int .i64 j, .int .i64 0]) ∧ ∃ w5 B D, Mod S w w5 ∧ Q w5 ∧ Mod (fun x => x = P) w5 w' ∧ w5.heap.size ≤ B ∧ w5.heap.size ≤ D ∧ B ≠ D ∧ PAt w' P fb u g ga gc um cw (fun i => if i = j then some ⟨D, 0, none⟩ else d i) ∧ DAt w' D (.iface 67 (.pointer (some ⟨B, 0, none⟩))) 1 ∧ FlAt w' B fb r 10 0 := by
  have HF := hid6 (pMade h)
  have HR := hid6 (pRoom h 1 (by omega) (by omega))
  have HH := hid6 h
  have HO := hid6 hO
  have H1 := hid6 h1
  have hb1 := b10h
  have hb2 := b10i
  have hPl := h.lt
  clear h hO h1
  go_enter Tryz.func4, Tryz.ntmps4
  go_wp2_with (first | (go_at_call 21; refine Calls.mono HF.out ?_; rintro e w3 ⟨rfl, hw3⟩; rw [hw3]; clear hw3 w3))
  refine Calls.mono HR.out ?_
  rintro e w1 ⟨rfl, M1⟩
  have HM1 := hid6 M1
  have HH1 := hid6 (HH.out.new M1)
  have hPl1 := HH1.out.lt
  obtain ⟨c0, c1, c2, c3, c4, c5, -, -⟩ := HH1.out
  clear M1
  have HSt : Hid (∀ w', Mod S (w1.drewN 1) w' → w'.cell? ⟨P, 0, none⟩ = some (.pointer (some ⟨fb, 0, none⟩)) ∧ w'.cell? ⟨P, 1, none⟩ = some (.int .i64 u) ∧ w'.cell? ⟨P, 2, none⟩ = some (.int .i64 g) ∧ w'.cell? ⟨P, 3, none⟩ = some (.slice ga 0 gc) ∧ w'.cell? ⟨P, 4, none⟩ = some (.int .i64 um) ∧ w'.cell? ⟨P, 5, none⟩ = some (.int .i64 cw)) := fun w' hM => ⟨(hM.cell (p := ⟨P, 0, none⟩) hPl1 hSP).trans c0, (hM.cell (p := ⟨P, 1, none⟩) hPl1 hSP).trans c1, (hM.cell (p := ⟨P, 2, none⟩) hPl1 hSP).trans c2, (hM.cell (p := ⟨P, 3, none⟩) hPl1 hSP).trans c3, (hM.cell (p := ⟨P, 4, none⟩) hPl1 hSP).trans c4, (hM.cell (p := ⟨P, 5, none⟩) hPl1 hSP).trans c5⟩
  go_upto_region 9 with fail
  go_cut [11, 12] (fun v11 v12 wc => v11 = .int .i64 r ∧ v12 = .int .i64 0 ∧ Hid (Mod S w wc ∧ Q wc) ∧ Hid (PAt wc P fb u g ga gc um cw d))
  case first =>
    go_region_held (fun W' => W'.cell? ⟨P, 0, none⟩ = some (.pointer (some ⟨fb, 0, none⟩)) ∧ W'.cell? ⟨P, 1, none⟩ = some (.int .i64 u) ∧ W'.cell? ⟨P, 2, none⟩ = some (.int .i64 g) ∧ W'.cell? ⟨P, 3, none⟩ = some (.slice ga 0 gc) ∧ W'.cell? ⟨P, 4, none⟩ = some (.int .i64 um) ∧ W'.cell? ⟨P, 5, none⟩ = some (.int .i64 cw)) (first | with_reducible exact hS1 | go_keep)
      (first | (go_at_call 23; refine (HO.out _ (HM1.out.drewN 1)).mono ?_; rintro e w3 ⟨rfl, M3, q3⟩; have hS1 := HSt.out _ M3; have HRq := hid6 (And.intro (((HM1.out.mono (t := S) (fun _ _ e => e.elim)).drewN 1).trans M3) q3); have HP3 := hid6 ((HH1.out.new ((Mod.refl (fun _ => False) _).drewN 1)).mod M3 hSP); clear M3 q3))
    all_goals
      go_wp2_with fail
      go_meet
      exact ⟨rfl, rfl, HRq, HP3⟩
  case rest =>
    obtain ⟨rfl, rfl, HRq, HP3⟩ := hcut
    have d0 := HP3.out.c0
    have hPc := HP3.out.lt
    clear c0 c1 c2 c3 c4 c5
    go_wp2_with fail
    have M5 : Mod (fun _ => False) wc ((wc.alloc (.cells #[.pointer (some ⟨fb, 0, none⟩), .int .i64 r, .int .i64 10, .int .i64 0, .bool false, .slice none 0 0] 70)).alloc (.cells #[.iface 67 (.pointer (some ⟨wc.heap.size, 0, none⟩)), .int .i64 0] 74)) := ((Mod.refl _ _).alloc _).alloc _
    have k0 : ((wc.alloc (.cells #[.pointer (some ⟨fb, 0, none⟩), .int .i64 r, .int .i64 10, .int .i64 0, .bool false, .slice none 0 0] 70)).alloc (.cells #[.iface 67 (.pointer (some ⟨wc.heap.size, 0, none⟩)), .int .i64 0] 74)).cell? ⟨wc.heap.size + 1, 0, none⟩ = some (.iface 67 (.pointer (some ⟨wc.heap.size, 0, none⟩))) := by simp [go_sem]
    have k1 : ((wc.alloc (.cells #[.pointer (some ⟨fb, 0, none⟩), .int .i64 r, .int .i64 10, .int .i64 0, .bool false, .slice none 0 0] 70)).alloc (.cells #[.iface 67 (.pointer (some ⟨wc.heap.size, 0, none⟩)), .int .i64 0] 74)).cell? ⟨wc.heap.size + 1, 1, none⟩ = some (.int .i64 0) := by simp [go_sem]
    have kf : ∀ o, ((wc.alloc (.cells #[.pointer (some ⟨fb, 0, none⟩), .int .i64 r, .int .i64 10, .int .i64 0, .bool false, .slice none 0 0] 70)).alloc (.cells #[.iface 67 (.pointer (some ⟨wc.heap.size, 0, none⟩)), .int .i64 0] 74)).frozen? ⟨wc.heap.size + 1, o, none⟩ = false := fun o => by simp [go_sem]
    have kF : FlAt ((wc.alloc (.cells #[.pointer (some ⟨fb, 0, none⟩), .int .i64 r, .int .i64 10, .int .i64 0, .bool false, .slice none 0 0] 70)).alloc (.cells #[.iface 67 (.pointer (some ⟨wc.heap.size, 0, none⟩)), .int .i64 0] 74)) wc.heap.size fb r 10 0 := ⟨by simp [go_sem], by simp [go_sem], by simp [go_sem], by simp [go_sem], by simp [go_sem], by simp [go_sem], fun o => by simp [go_sem]⟩
    have HE := hid6 (low_end HP3.out j hj M5 k0 k1 kf (by omega))
    have HLo := hid6 (pLowest (HP3.out.new M5) j (wc.heap.size + 1) hj h0 H1.out (by omega) k1 kf)
    have HKF := hid6 kF
    clear k0 k1 kf kF M5
    refine Calls.mono HLo.out ?_
    rintro e w7 ⟨rfl, hw7⟩
    have HFin := hid6 (show Mod (fun x => x = P) wc w7 ∧ PAt w7 P fb u g ga gc um cw (fun i => if i = j then some ⟨wc.heap.size + 1, 0, none⟩ else d i) ∧ DAt w7 (wc.heap.size + 1) (.iface 67 (.pointer (some ⟨wc.heap.size, 0, none⟩))) 1 ∧ FlAt w7 wc.heap.size fb r 10 0 from by
      rw [hw7]
      exact ⟨HE.out.2.2.1, HE.out.1, HE.out.2.1, HKF.out.mod HE.out.2.2.2 (fun e => by rcases e with e | e <;> omega)⟩)
    clear hw7 HE HLo HKF
    go_wp2
    go_ret2
    exact ⟨rfl, wc, wc.heap.size, wc.heap.size + 1, HRq.out.1, HRq.out.2, HFin.out.1, Nat.le_refl _, by omega, by omega, HFin.out.2.1, HFin.out.2.2.1, HFin.out.2.2.2⟩
set_option maxRecDepth 100000 in
set_option maxHeartbeats 2000000 in
theorem pPipe (h : PAt w P fb u g ga gc um cw d) (j i2 : Nat) (hj : j < i2) (hj2 : i2 < 16) (h0 : d j = none) (h1 : ∀ i, i < j → ∃ B : Nat, d i = some ⟨B, 0, none⟩) (h2 : d i2 = none) (h3 : ∀ i, i < i2 → i ≠ j → ∃ B : Nat, d i = some ⟨B, 0, none⟩) (hr : fdN d + 2 ≤ 16) :
    Calls Tryz.prog 7 #[.pointer (some ⟨P, 0, none⟩)] w fun e w' => e = .returned (.tuple #[.int .i64 j, .int .i64 i2, .int .i64 0]) ∧ Mod (fun x => x = P) w w' := by
  have HR := hid6 (pRoom h 2 (by omega) (by omega))
  have HH := hid6 h
  have H1 := hid6 h1
  have H3 := hid6 h3
  clear h h1 h3
  go_enter Tryz.func7, Tryz.ntmps7
  go_wp2_with fail
  refine Calls.mono HR.out ?_
  rintro e w1 ⟨rfl, M1⟩
  have HM1 := hid6 M1
  have HH1 := hid6 (HH.out.new M1)
  have hPl := HH1.out.lt
  clear M1 HH HR
  go_wp2_with fail
  have M5 : Mod (fun _ => False) w1 ((w1.alloc (.cells #[.slice none 0 0, .bool true, .bool true] 81)).alloc (.cells #[.iface 83 (.agg #[.pointer (some ⟨w1.heap.size, 0, none⟩)]), .int .i64 0] 74)) := ((Mod.refl _ _).alloc _).alloc _
  have k0 : ((w1.alloc (.cells #[.slice none 0 0, .bool true, .bool true] 81)).alloc (.cells #[.iface 83 (.agg #[.pointer (some ⟨w1.heap.size, 0, none⟩)]), .int .i64 0] 74)).cell? ⟨w1.heap.size + 1, 0, none⟩ = some (.iface 83 (.agg #[.pointer (some ⟨w1.heap.size, 0, none⟩)])) := by simp [go_sem]
  have k1 : ((w1.alloc (.cells #[.slice none 0 0, .bool true, .bool true] 81)).alloc (.cells #[.iface 83 (.agg #[.pointer (some ⟨w1.heap.size, 0, none⟩)]), .int .i64 0] 74)).cell? ⟨w1.heap.size + 1, 1, none⟩ = some (.int .i64 0) := by simp [go_sem]
  have kf : ∀ o, ((w1.alloc (.cells #[.slice none 0 0, .bool true, .bool true] 81)).alloc (.cells #[.iface 83 (.agg #[.pointer (some ⟨w1.heap.size, 0, none⟩)]), .int .i64 0] 74)).frozen? ⟨w1.heap.size + 1, o, none⟩ = false := fun o => by simp [go_sem]
  have HE := hid6 (low_end HH1.out j (by omega) M5 k0 k1 kf (by omega))
  have HLo := hid6 (pLowest (HH1.out.new M5) j (w1.heap.size + 1) (by omega) h0 H1.out (by omega) k1 kf)
  clear k0 k1 kf M5
  refine Calls.mono HLo.out ?_
  rintro e w7 ⟨rfl, hw7⟩
  have HF7 := hid6 (show Mod (fun x => x = P) w1 w7 ∧ PAt w7 P fb u g ga gc um cw (fun i => if i = j then some ⟨w1.heap.size + 1, 0, none⟩ else d i) from by
    rw [hw7]
    exact ⟨HE.out.2.2.1, HE.out.1⟩)
  clear hw7 HE HLo HH1
  go_wp2_with fail
  have hPl7 := HF7.out.2.lt
  have M8 : Mod (fun _ => False) w7 (w7.alloc (.cells #[.iface 84 (.agg #[.pointer (some ⟨w1.heap.size, 0, none⟩)]), .int .i64 0] 74)) := (Mod.refl _ _).alloc _
  have k0 : (w7.alloc (.cells #[.iface 84 (.agg #[.pointer (some ⟨w1.heap.size, 0, none⟩)]), .int .i64 0] 74)).cell? ⟨w7.heap.size, 0, none⟩ = some (.iface 84 (.agg #[.pointer (some ⟨w1.heap.size, 0, none⟩)])) := by simp [go_sem]
  have k1 : (w7.alloc (.cells #[.iface 84 (.agg #[.pointer (some ⟨w1.heap.size, 0, none⟩)]), .int .i64 0] 74)).cell? ⟨w7.heap.size, 1, none⟩ = some (.int .i64 0) := by simp [go_sem]
  have kf : ∀ o, (w7.alloc (.cells #[.iface 84 (.agg #[.pointer (some ⟨w1.heap.size, 0, none⟩)]), .int .i64 0] 74)).frozen? ⟨w7.heap.size, o, none⟩ = false := fun o => by simp [go_sem]
  have HE := hid6 (low_end HF7.out.2 i2 hj2 M8 k0 k1 kf (Nat.le_refl _))
  have HLo := hid6 (pLowest (HF7.out.2.new M8) i2 w7.heap.size hj2 (by rw [if_neg (by omega)]; exact h2) (fun i hi => by
    by_cases e : i = j
    · exact ⟨w1.heap.size + 1, by rw [if_pos e]⟩
    · rw [if_neg e]; exact H3.out i hi e) (by omega) k1 kf)
  clear k0 k1 kf M8
  refine Calls.mono HLo.out ?_
  rintro e w9 ⟨rfl, hw9⟩
  have HF9 := hid6 (show Mod (fun x => x = P) w w9 from by
    rw [hw9]
    exact ((HM1.out.mono (fun _ _ e => e.elim)).trans HF7.out.1).trans HE.out.2.2.1)
  clear hw9 HE HLo
  go_wp2
  go_ret3
  exact ⟨rfl, HF9.out⟩
end
end Go.Proofs.YtgkkbplecfhmdaaGreatDoor
/- The work of WriteAt, of a regular file. Conditions: what stat and Write tell. -/
namespace Go.Proofs.YtgkkbplecfhmdaaGreatDoor
open Go.RowKit
set_option maxRecDepth 100000 in
theorem tPlain (s0 s1 s2 s3 s4 s5 s6 s7 s8 s9 : Int) (w : World) (hr : bits .and .i64 s6 61440 = 32768) : Calls Tryz.prog 249 #[.agg #[.int .i64 s0, .int .i64 s1, .int .i64 s2, .int .i64 s3, .int .i64 s4, .int .i64 s5, .int .i64 s6, .int .i64 s7, .int .i64 s8, .int .i64 s9]] w fun e w' => e = .returned (.tuple #[]) ∧ Mod (fun _ => False) w w' := by
  have HM0 : Hid (∀ o, Mod (fun _ => False) w (w.alloc o)) := fun o => (Mod.refl _ w).alloc o
  have HI : Hid (∀ W, _) := fun W => tIsDir s0 s1 s2 s3 s4 s5 s6 s7 s8 s9 W
  have HK : Hid (∀ W, _) := fun W => tKind s0 s1 s2 s3 s4 s5 s6 s7 s8 s9 W
  unfold sA at HI HK
  rw [hr] at HI HK
  clear hr
  go_enter Tryz.func249, Tryz.ntmps249
  go_wp2_with fail
  refine Calls.mono (HI.out _) ?_
  rintro e w1 ⟨rfl, M1⟩
  have HM1 := hid6 ((HM0.out _).trans M1)
  have hcl := fun (p : Addr) (hp : p.block < _) => M1.cell (p := p) hp (fun e => e)
  clear M1
  have e0 : w1.cell? ⟨w.heap.size, 0, none⟩ = some (.int .i64 s0) := by rw [hcl _ (by simp)]; simp [go_sem]
  have e1 : w1.cell? ⟨w.heap.size, 1, none⟩ = some (.int .i64 s1) := by rw [hcl _ (by simp)]; simp [go_sem]
  have e2 : w1.cell? ⟨w.heap.size, 2, none⟩ = some (.int .i64 s2) := by rw [hcl _ (by simp)]; simp [go_sem]
  have e3 : w1.cell? ⟨w.heap.size, 3, none⟩ = some (.int .i64 s3) := by rw [hcl _ (by simp)]; simp [go_sem]
  have e4 : w1.cell? ⟨w.heap.size, 4, none⟩ = some (.int .i64 s4) := by rw [hcl _ (by simp)]; simp [go_sem]
  have e5 : w1.cell? ⟨w.heap.size, 5, none⟩ = some (.int .i64 s5) := by rw [hcl _ (by simp)]; simp [go_sem]
  have e6 : w1.cell? ⟨w.heap.size, 6, none⟩ = some (.int .i64 s6) := by rw [hcl _ (by simp)]; simp [go_sem]
  have e7 : w1.cell? ⟨w.heap.size, 7, none⟩ = some (.int .i64 s7) := by rw [hcl _ (by simp)]; simp [go_sem]
  have e8 : w1.cell? ⟨w.heap.size, 8, none⟩ = some (.int .i64 s8) := by rw [hcl _ (by simp)]; simp [go_sem]
  have e9 : w1.cell? ⟨w.heap.size, 9, none⟩ = some (.int .i64 s9) := by rw [hcl _ (by simp)]; simp [go_sem]
  clear hcl
  go_wp2_with (first | (go_at_call 43; refine (refuse_no _ _).mono ?_; rintro e w3 ⟨rfl, hw3⟩; rw [hw3]; clear hw3 w3))
  refine Calls.mono (HK.out _) ?_
  rintro e w2 ⟨rfl, M2⟩
  have HM2 := hid6 (HM1.out.trans M2)
  clear M2
  go_wp2_with (first | (go_at_call 43; refine (refuse_no _ _).mono ?_; rintro e w3 ⟨rfl, hw3⟩; rw [hw3]; clear hw3 w3))
  exact ⟨rfl, _, results_none rfl _ _ _, rfl, HM2.out⟩
set_option maxRecDepth 100000 in
set_option maxHeartbeats 2000000 in
theorem tWriteWork {w : World} {k t b1 b2 b3 : Nat} (c0 : w.cell? ⟨k, 0, none⟩ = some (.pointer (some ⟨t, 0, none⟩))) (i off r : Int) (a : Option Addr) (n c : Nat) (c1 : w.cell? ⟨b1, 0, none⟩ = some (.int .i64 i)) (c2 : w.cell? ⟨b2, 0, none⟩ = some (.int .i64 off)) (c3 : w.cell? ⟨b3, 0, none⟩ = some (.slice a n c))
    (f : Nat → Int) (hS : StA w k i f) (hr : bits .and .i64 (f 0) 61440 = 32768) (S : Nat → Prop) (hn : ¬ S k ∧ ¬ S b1 ∧ ¬ S b2 ∧ ¬ S b3) (Q : World → Prop)
    (hW : ∀ W, Mod (fun _ => False) w W → Calls Tryz.prog 162 #[.pointer (some ⟨t, 0, none⟩), .int .i64 i, .int .i64 off, .slice a n c] W fun e w' => e = .returned (.tuple #[.int .i64 r, .int .i64 0]) ∧ Mod S W w' ∧ Q w') :
    Calls Tryz.prog 250 #[.pointer (some ⟨k, 0, none⟩), .pointer (some ⟨b1, 0, none⟩), .pointer (some ⟨b2, 0, none⟩), .pointer (some ⟨b3, 0, none⟩)] w fun e w' => e = .returned (.int .i64 r) ∧ Mod S w w' ∧ Q w' := by
  have HS := hid6 hS
  have HW := hid6 hW
  have HP : Hid (∀ s0 s1 s2 s3 s4 s5 s7 s8 s9 W, _) := fun s0 s1 s2 s3 s4 s5 s7 s8 s9 W => tPlain s0 s1 s2 s3 s4 s5 (f 0) s7 s8 s9 W hr
  have HFn : Hid (∀ (W w' : World), Mod (fun _ => False) w W → Mod S W w' → Mod S w w') := fun W w' h1 h2 => (h1.mono (fun _ _ e => e.elim)).trans h2
  have hk := block_lt_of_cell c0
  have h1 := block_lt_of_cell c1
  have h2 := block_lt_of_cell c2
  have h3 := block_lt_of_cell c3
  clear hS hW hr
  go_enter Tryz.func250, Tryz.ntmps250
  go_wp2_with fail
  refine (HS.out _ (Mod.refl _ _)).mono ?_
  rintro e w1 ⟨⟨bl, rfl⟩, M1⟩
  have HM1 := hid6 M1
  clear M1
  go_wp2_with fail
  refine Calls.mono (HP.out _ _ _ _ _ _ _ _ _ _) ?_
  rintro e w2 ⟨rfl, M2⟩
  have HM2 := hid6 (HM1.out.trans M2)
  clear M2
  have d0 := (HM2.out.cell (p := ⟨k, 0, none⟩) hk (fun e => e)).trans c0
  have d1 := (HM2.out.cell (p := ⟨b1, 0, none⟩) h1 (fun e => e)).trans c1
  have d2 := (HM2.out.cell (p := ⟨b2, 0, none⟩) h2 (fun e => e)).trans c2
  have d3 := (HM2.out.cell (p := ⟨b3, 0, none⟩) h3 (fun e => e)).trans c3
  clear c0 c1 c2 c3 hk h1 h2 h3
  have HSt : Hid (∀ w', Mod S (w2.drewN 1) w' → w'.cell? ⟨k, 0, none⟩ = some (.pointer (some ⟨t, 0, none⟩)) ∧ w'.cell? ⟨b1, 0, none⟩ = some (.int .i64 i) ∧ w'.cell? ⟨b2, 0, none⟩ = some (.int .i64 off) ∧ w'.cell? ⟨b3, 0, none⟩ = some (.slice a n c)) := fun w' hM => ⟨(hM.cell (p := ⟨k, 0, none⟩) (block_lt_of_cell d0) hn.1).trans d0, (hM.cell (p := ⟨b1, 0, none⟩) (block_lt_of_cell d1) hn.2.1).trans d1, (hM.cell (p := ⟨b2, 0, none⟩) (block_lt_of_cell d2) hn.2.2.1).trans d2, (hM.cell (p := ⟨b3, 0, none⟩) (block_lt_of_cell d3) hn.2.2.2).trans d3⟩
  go_upto_region 2 with fail
  go_cut [6, 7] (fun v6 v7 wc => v6 = .int .i64 r ∧ v7 = .int .i64 0 ∧ Hid (Mod S w wc ∧ Q wc))
  case first =>
    refine wp_only6 ?_
    go_region_held (fun W' => W'.cell? ⟨k, 0, none⟩ = some (.pointer (some ⟨t, 0, none⟩)) ∧ W'.cell? ⟨b1, 0, none⟩ = some (.int .i64 i) ∧ W'.cell? ⟨b2, 0, none⟩ = some (.int .i64 off) ∧ W'.cell? ⟨b3, 0, none⟩ = some (.slice a n c)) (first | with_reducible exact hS1 | go_keep)
      (first | (go_at_call 162; refine (HW.out _ (HM2.out.drewN 1)).mono ?_; rintro e w3 ⟨rfl, M3, q3⟩; have hS1 := HSt.out _ M3; have HR := hid6 (And.intro (HFn.out _ _ (HM2.out.drewN 1) M3) q3); clear M3 q3))
    all_goals simp only [OnlyN6]
    all_goals
      go_wp2_with fail
      go_meet
      exact ⟨rfl, rfl, HR⟩
  case rest =>
    obtain ⟨rfl, rfl, HR⟩ := hcut
    go_wp2_with (first | (go_at_call 52; refine (must_no _).mono ?_; rintro e w3 ⟨rfl, hw3⟩; rw [hw3]; clear hw3 w3))
    go_ret
    exact ⟨rfl, HR.out⟩
end Go.Proofs.YtgkkbplecfhmdaaGreatDoor
