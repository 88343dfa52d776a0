/- Several texts of this claim, one behind the other, in their order. -/
import Derived.Test.YtpcbpikhiooafaaGreatDoorM24
import Derived.Deep.RegionHeld3
import Derived.Deep.DeepCutAuto
import Derived.Test.YtpcbpikhiooafaaGreatDoorM22
/- A file that is open to be read and written: read, stat, the places that Seek counts from; the process' Read and Seek of it. Conditions: the process, the description and the file lie in memory; what ReadAt and Info tell. -/
namespace Go.Proofs.YtpcbpikhiooafaaGreatDoor
open Go.RowKit
theorem b11_1 : (bits .and .i64 11 1 != 0) = true := by decide +kernel
set_option maxRecDepth 100000 in
set_option maxHeartbeats 2000000 in
theorem fRead11 {w : World} {B fb : Nat} {ino pl : Int} (h : FlAt w B fb ino 11 pl) (n : Int) (R : Option Addr → Nat → Nat → World → Prop) (hb : ∀ ra rl rc w', R ra rl rc w' → -9223372036854775808 ≤ pl + (rl : Int) ∧ pl + (rl : Int) ≤ 9223372036854775807)
    (hW : ∀ W, Mod (fun _ => False) w W → Calls Tryz.prog 186 #[.pointer (some ⟨fb, 0, none⟩), .int .i64 ino, .int .i64 pl, .int .i64 n] W fun e w' => ∃ ra rl rc, e = .returned (.tuple #[.slice ra rl rc, .int .i64 0]) ∧ Mod (fun _ => False) W w' ∧ R ra rl rc w') :
    Calls Tryz.prog 183 #[.pointer (some ⟨B, 0, none⟩), .int .i64 n] w fun e w' => ∃ ra rl rc, e = .returned (.tuple #[.slice ra rl rc, .int .i64 0]) ∧ ∃ w5, Mod (fun _ => False) w w5 ∧ R ra rl rc w5 ∧ w' = w5.setCell ⟨B, 3, none⟩ (.int .i64 (pl + (rl : Int))) := by
  have HW := hid6 hW
  have HB := hid6 hb
  have H1 := hid6 (fHas h 1 true b11_1)
  have hBl := h.lt
  have HSt : Hid (∀ w', Mod (fun _ => False) w.drew w' → (w'.cell? ⟨B, 0, none⟩ = some (.pointer (some ⟨fb, 0, none⟩)) ∧ w'.cell? ⟨B, 1, none⟩ = some (.int .i64 ino) ∧ w'.cell? ⟨B, 3, none⟩ = some (.int .i64 pl)) ∧ ∀ o, w'.frozen? ⟨B, o, none⟩ = false) := fun w' hM => ⟨⟨(hM.cell (p := ⟨B, 0, none⟩) hBl (fun e => e)).trans h.c0, (hM.cell (p := ⟨B, 1, none⟩) hBl (fun e => e)).trans h.c1, (hM.cell (p := ⟨B, 3, none⟩) hBl (fun e => e)).trans h.c3⟩, fun o => (hM.frozen (p := ⟨B, o, none⟩) hBl (fun e => e)).trans (h.fr o)⟩
  obtain ⟨c0, c1, -, c3, -, -, -⟩ := h
  clear hW hb
  go_enter Tryz.func183, Tryz.ntmps183
  go_upto_region 3 with (first | (go_at_call 185; refine Calls.mono H1.out ?_; rintro e w3 ⟨rfl, hw3⟩; rw [hw3]; clear hw3 w3))
  go_cut [6, 7] (fun v6 v7 wc => ∃ ra rl rc, v6 = .slice ra rl rc ∧ v7 = .int .i64 0 ∧ wc.cell? ⟨B, 3, none⟩ = some (.int .i64 pl) ∧ (∀ o, wc.frozen? ⟨B, o, none⟩ = false) ∧ Hid (Mod (fun _ => False) w wc ∧ R ra rl rc wc))
  case first =>
    go_region_held3 (fun W' => W'.cell? ⟨B, 0, none⟩ = some (.pointer (some ⟨fb, 0, none⟩)) ∧ W'.cell? ⟨B, 1, none⟩ = some (.int .i64 ino) ∧ W'.cell? ⟨B, 3, none⟩ = some (.int .i64 pl)) (first | with_reducible exact hS1.1 | go_keep)
      (first | (go_at_call 186; refine Calls.mono (HW.out w.drew ((Mod.refl _ _).drewN 1)) ?_; rintro e w3 ⟨ra, rl, rc, rfl, M3, q3⟩; have hS1 := HSt.out _ M3; have HR := hid6 (And.intro (((Mod.refl (fun _ => False) w).drewN 1).trans M3) q3); clear M3 q3))
    all_goals
      go_wp2_with fail
      go_meet
      exact ⟨ra, rl, rc, rfl, rfl, hS1.1.2.2, hS1.2, HR⟩
  case rest =>
    obtain ⟨ra, rl, rc, rfl, rfl, g3, gf, HR⟩ := hcut
    have hb := HB.out ra rl rc wc HR.out.2
    have hw : IntKind.i64.wrap (pl + (rl : Int)) = pl + (rl : Int) := by rw [IntKind.wrap_i64]; omega
    clear hb
    go_wp2
    go_ret2
    exact ⟨ra, rl, rc, rfl, wc, HR.out.1, HR.out.2, rfl⟩
section
variable {w : World} {P fb : Nat} {u g : Int} {ga : Option Addr} {gc : Nat} {um cw : Int} {d : Nat → Option Addr}
set_option maxRecDepth 100000 in
set_option maxHeartbeats 2000000 in
theorem pReadF (h : PAt w P fb u g ga gc um cw d) (j D B : Nat) (hj : j < 16) (hd : d j = some ⟨D, 0, none⟩) (cn n : Int) (hD : DAt w D (.iface 66 (.pointer (some ⟨B, 0, none⟩))) cn) (R : Option Addr → Nat → Nat → World → Prop)
    (hR : Calls Tryz.prog 183 #[.pointer (some ⟨B, 0, none⟩), .int .i64 n] w fun e w' => ∃ a l c, e = .returned (.tuple #[.slice a l c, .int .i64 0]) ∧ R a l c w') :
    Calls Tryz.prog 10 #[.pointer (some ⟨P, 0, none⟩), .int .i64 j, .int .i64 n] w fun e w' => ∃ a l c, e = .returned (.tuple #[.slice a l c, .int .i64 0]) ∧ R a l c w' := by
  have HL := hid6 (pLead h j D hj hd)
  have c0 := hD.c0
  have HR := hid6 hR
  clear h hD hd hR
  go_enter Tryz.func10, Tryz.ntmps10
  go_wp2_with (first | (go_at_call 25; refine Calls.mono HL.out ?_; rintro e w3 ⟨rfl, hw3⟩; rw [hw3]; clear hw3 w3))
  refine Calls.mono HR.out ?_
  rintro e w1 ⟨a, l, c, rfl, r1⟩
  have HK := hid6 r1
  clear r1
  go_wp2
  go_ret2
  exact ⟨a, l, c, rfl, HK.out⟩
theorem fFromSet {B : Nat} (w : World) : Calls Tryz.prog 27 #[.pointer (some ⟨B, 0, none⟩), .int .i64 0] w fun e w' => e = .returned (.tuple #[.int .i64 0, .int .i64 0]) ∧ w' = w := by
  go_enter Tryz.func27, Tryz.ntmps27
  go_wp2
  go_ret2
  exact ⟨rfl, rfl⟩
/-- What stat tells of an open file. -/
def FsA (w : World) (B : Nat) (sz : Int) : Prop := Calls Tryz.prog 62 #[.pointer (some ⟨B, 0, none⟩)] w fun e w' => (∃ s0 s1 s2 s3 s5 s6 s7 s8 s9 : Int, e = .returned (.tuple #[.agg #[.int .i64 s0, .int .i64 s1, .int .i64 s2, .int .i64 s3, .int .i64 sz, .int .i64 s5, .int .i64 s6, .int .i64 s7, .int .i64 s8, .int .i64 s9], .int .i64 0])) ∧ Mod (fun _ => False) w w'
set_option maxRecDepth 100000 in
theorem fFromEnd {B : Nat} {w : World} {sz : Int} (hS : FsA w B sz) : Calls Tryz.prog 27 #[.pointer (some ⟨B, 0, none⟩), .int .i64 2] w fun e w' => e = .returned (.tuple #[.int .i64 sz, .int .i64 0]) ∧ Mod (fun _ => False) w w' := by
  have HS := hid6 hS
  unfold FsA at HS
  clear hS
  go_enter Tryz.func27, Tryz.ntmps27
  go_wp2_with fail
  refine Calls.mono HS.out ?_
  rintro e w1 ⟨⟨s0, s1, s2, s3, s5, s6, s7, s8, s9, rfl⟩, M1⟩
  have HM : Hid (∀ o, Mod (fun _ => False) w (w1.alloc o)) := fun o => M1.alloc o
  clear M1
  go_wp2
  go_ret2
  exact ⟨rfl, HM.out _⟩
set_option maxRecDepth 100000 in
set_option maxHeartbeats 2000000 in
theorem pSeekF (h : PAt w P fb u g ga gc um cw d) (j D B : Nat) (hj : j < 16) (hd : d j = some ⟨D, 0, none⟩) (cn ino fl pl off wh fr : Int) (hD : DAt w D (.iface 66 (.pointer (some ⟨B, 0, none⟩))) cn) (hF : FlAt w B fb ino fl pl)
    (hC : Calls Tryz.prog 27 #[.pointer (some ⟨B, 0, none⟩), .int .i64 wh] w fun e w' => e = .returned (.tuple #[.int .i64 fr, .int .i64 0]) ∧ Mod (fun _ => False) w w') (h0 : 0 ≤ fr ∧ fr ≤ 4611686018427387904) (h1 : 0 ≤ fr + off ∧ fr + off ≤ 4611686018427387904) :
    Calls Tryz.prog 8 #[.pointer (some ⟨P, 0, none⟩), .int .i64 j, .int .i64 off, .int .i64 wh] w fun e w' => e = .returned (.tuple #[.int .i64 (fr + off), .int .i64 0]) ∧ Mod (fun x => x = B) w w' ∧ FlAt w' B fb ino fl (fr + off) := by
  have HA := hid6 (pAsFile h j D B hj hd cn 29 hD)
  have HC := hid6 hC
  have hw : IntKind.i64.wrap (fr + off) = fr + off := by rw [IntKind.wrap_i64]; omega
  have hw1 : IntKind.i64.wrap (-fr) = -fr := by rw [IntKind.wrap_i64]; omega
  have hw2 : IntKind.i64.wrap (4611686018427387904 - fr) = 4611686018427387904 - fr := by rw [IntKind.wrap_i64]; omega
  have t1 : decide (off < -fr) = false := decide_eq_false (by omega)
  have t2 : decide (4611686018427387904 - fr < off) = false := decide_eq_false (by omega)
  have HF := hid6 hF
  clear h hD hd hF hC
  go_enter Tryz.func8, Tryz.ntmps8
  go_wp2_with (first | (go_at_call 26; refine Calls.mono HA.out ?_; rintro e w3 ⟨rfl, hw3⟩; rw [hw3]; clear hw3 w3))
  refine Calls.mono HC.out ?_
  rintro e w1 ⟨rfl, M1⟩
  have HF1 := hid6 (HF.out.mod M1 (fun e => e))
  have HM1 := hid6 M1
  obtain ⟨c0, c1, c2, c3, c4, c5, fr'⟩ := HF1.out
  clear M1 HF HC
  go_wp2
  go_ret2
  have hm : Mod (fun x => x = B) w (((w1.setCell ⟨B, 3, none⟩ (.int .i64 (fr + off))).setCell ⟨B, 4, none⟩ (.bool false)).setCell ⟨B, 5, none⟩ (.slice none 0 0)) := ((((HM1.out.mono (t := fun x => x = B) (fun _ _ e => e.elim))).setCell ⟨B, 3, none⟩ _ rfl).setCell ⟨B, 4, none⟩ _ rfl).setCell ⟨B, 5, none⟩ _ rfl
  exact ⟨rfl, hm, ⟨by simp [go_sem, c0], by simp [go_sem, c1], by simp [go_sem, c2], by simp [go_sem, c3], by simp [go_sem, c4], by simp [go_sem, c5], fun o => by simp [go_sem, fr']⟩⟩
end
end Go.Proofs.YtpcbpikhiooafaaGreatDoor
/- What stat tells of a file that is open. Conditions: the file lies in memory; what Info tells. -/
namespace Go.Proofs.YtpcbpikhiooafaaGreatDoor
open Go.RowKit
theorem ret_fstat {W : World} {B : Nat} {L : List Value} (h : W.rangeAt B 0 L) (hl : L.length = 10) (tmps : Array Value) (h4 : tmps[2]?.getD undef = .pointer (some ⟨B, 0, none⟩)) (h5 : tmps[3]?.getD undef = .int .i64 0) :
    (results Tryz.f62 tmps).run Tryz.prog W = .ok (.tuple #[.agg L.toArray, .int .i64 0]) W := by
  have h2 := run_loadVar_mid (P := Tryz.prog) W B 0 54 L _ h Tryz.underlying54 rfl (by rw [hl]; exact infSt)
  unfold results
  rw [Tryz.results62]
  simp [h4, h5, asAddr, h2]
set_option maxRecDepth 100000 in
set_option maxHeartbeats 2000000 in
theorem fStat {w : World} {B fb : Nat} {fl pl : Int} (F : Nat → Nat → Int) (i : Nat) (h : FlAt w B fb ((i : Int) + 1) fl pl)
    (hI : ∀ W, Mod (fun _ => False) w W → Calls Tryz.prog 17 #[.pointer (some ⟨fb, 0, none⟩), .int .i64 ((i : Int) + 1)] W fun e w' => (∃ bl : Nat, e = .returned (.tuple #[.agg (statW F bl i).toArray, .int .i64 0])) ∧ Mod (fun _ => False) W w') : FsA w B (F i 5) := by
  have HI := hid6 hI
  have hBl := h.lt
  have HM0 := hid6 (show Mod (fun _ => False) w (w.alloc (.cells #[.int .i64 0, .int .i64 0, .int .i64 0, .int .i64 0, .int .i64 0, .int .i64 0, .int .i64 0, .int .i64 0, .int .i64 0, .int .i64 0] 54)).drew from ((Mod.refl _ w).alloc _).drewN 1)
  have HSt : Hid (∀ w', Mod (fun _ => False) (w.alloc (.cells #[.int .i64 0, .int .i64 0, .int .i64 0, .int .i64 0, .int .i64 0, .int .i64 0, .int .i64 0, .int .i64 0, .int .i64 0, .int .i64 0] 54)).drew w' → w'.cell? ⟨B, 0, none⟩ = some (.pointer (some ⟨fb, 0, none⟩)) ∧ w'.cell? ⟨B, 1, none⟩ = some (.int .i64 ((i : Int) + 1))) := fun w' hM => ⟨((HM0.out.trans hM).cell (p := ⟨B, 0, none⟩) hBl (fun e => e)).trans h.c0, ((HM0.out.trans hM).cell (p := ⟨B, 1, none⟩) hBl (fun e => e)).trans h.c1⟩
  have HZ : Hid (∀ w', Mod (fun _ => False) (w.alloc (.cells #[.int .i64 0, .int .i64 0, .int .i64 0, .int .i64 0, .int .i64 0, .int .i64 0, .int .i64 0, .int .i64 0, .int .i64 0, .int .i64 0] 54)).drew w' → (w'.cell? ⟨w.heap.size, 0, none⟩ = some (.int .i64 0) ∧ w'.cell? ⟨w.heap.size, 1, none⟩ = some (.int .i64 0) ∧ w'.cell? ⟨w.heap.size, 2, none⟩ = some (.int .i64 0) ∧ w'.cell? ⟨w.heap.size, 3, none⟩ = some (.int .i64 0) ∧ w'.cell? ⟨w.heap.size, 4, none⟩ = some (.int .i64 0) ∧ w'.cell? ⟨w.heap.size, 5, none⟩ = some (.int .i64 0) ∧ w'.cell? ⟨w.heap.size, 6, none⟩ = some (.int .i64 0) ∧ w'.cell? ⟨w.heap.size, 7, none⟩ = some (.int .i64 0) ∧ w'.cell? ⟨w.heap.size, 8, none⟩ = some (.int .i64 0) ∧ w'.cell? ⟨w.heap.size, 9, none⟩ = some (.int .i64 0)) ∧ ∀ o, w'.frozen? ⟨w.heap.size, o, none⟩ = false) := fun w' hM => by
    have k : ∀ j, w'.cell? ⟨w.heap.size, j, none⟩ = (w.alloc (.cells #[.int .i64 0, .int .i64 0, .int .i64 0, .int .i64 0, .int .i64 0, .int .i64 0, .int .i64 0, .int .i64 0, .int .i64 0, .int .i64 0] 54)).cell? ⟨w.heap.size, j, none⟩ := fun j => hM.cell (p := ⟨w.heap.size, j, none⟩) (by show _ < (w.alloc (.cells #[.int .i64 0, .int .i64 0, .int .i64 0, .int .i64 0, .int .i64 0, .int .i64 0, .int .i64 0, .int .i64 0, .int .i64 0, .int .i64 0] 54)).heap.size; simp) (fun e => e)
    have kf : ∀ o, w'.frozen? ⟨w.heap.size, o, none⟩ = (w.alloc (.cells #[.int .i64 0, .int .i64 0, .int .i64 0, .int .i64 0, .int .i64 0, .int .i64 0, .int .i64 0, .int .i64 0, .int .i64 0, .int .i64 0] 54)).frozen? ⟨w.heap.size, o, none⟩ := fun o => hM.frozen (p := ⟨w.heap.size, o, none⟩) (by show _ < (w.alloc (.cells #[.int .i64 0, .int .i64 0, .int .i64 0, .int .i64 0, .int .i64 0, .int .i64 0, .int .i64 0, .int .i64 0, .int .i64 0, .int .i64 0] 54)).heap.size; simp) (fun e => e)
    refine ⟨⟨?_, ?_, ?_, ?_, ?_, ?_, ?_, ?_, ?_, ?_⟩, fun o => (kf o).trans (World.frozen?_alloc_at _ _ _ _ rfl)⟩ <;> (rw [k, World.cell?_alloc_at _ _ _ _ rfl]; rfl)
  have hS0 := HSt.out _ (Mod.refl _ _)
  unfold FsA
  clear hI h
  go_enter Tryz.func62, Tryz.ntmps62
  go_wp2_with fail
  go_region_held3 (fun W' => W'.cell? ⟨B, 0, none⟩ = some (.pointer (some ⟨fb, 0, none⟩)) ∧ W'.cell? ⟨B, 1, none⟩ = some (.int .i64 ((i : Int) + 1))) (first | with_reducible exact hS1 | with_reducible exact hS0 | (simp only [hco0, hco1]; with_reducible exact hS1) | go_keep)
    (first | (go_at_call 17; refine Calls.mono (HI.out _ HM0.out) ?_; rintro e w3 ⟨⟨bl, rfl⟩, M3⟩; have hS1 := HSt.out _ M3; have hb9 : ¬ B = w.heap.size := (by omega); have hco0 := (fun (W : World) (o : Nat) (v : Value) => setCell_out W w.heap.size o v ⟨B, 0, none⟩ (fun e => absurd e hb9)); have hco1 := (fun (W : World) (o : Nat) (v : Value) => setCell_out W w.heap.size o v ⟨B, 1, none⟩ (fun e => absurd e hb9)); obtain ⟨⟨z0, z1, z2, z3, z4, z5, z6, z7, z8, z9⟩, zf⟩ := HZ.out _ M3; have HM3 := hid6 (HM0.out.trans M3); clear M3; unfold statW))
  all_goals
    go_wp2
    refine bodyPost_ret (ret_fstat (B := w.heap.size) (L := [.int .i64 ((i : Int) + 1), .int .i64 (F i 3), .int .i64 (F i 1), .int .i64 (F i 2), .int .i64 (F i 5), .int .i64 (bl : Nat), .int .i64 (F i 0), .int .i64 (F i 6), .int .i64 (F i 7), .int .i64 (F i 8)]) (fun j v hv => ?_) rfl _ rfl rfl) rfl ⟨⟨_, _, _, _, _, _, _, _, _, rfl⟩, HM3.out.new6 (((((((((((Mod.refl (fun x => x = w.heap.size) w3).setCell _ _ rfl).setCell _ _ rfl).setCell _ _ rfl).setCell _ _ rfl).setCell _ _ rfl).setCell _ _ rfl).setCell _ _ rfl).setCell _ _ rfl).setCell _ _ rfl).setCell _ _ rfl) (fun x e => by have e1 : x = w.heap.size := e; omega)⟩
    have hj : j < 10 := by have := (List.getElem?_eq_some_iff.1 hv).1; simpa using this
    obtain rfl | rfl | rfl | rfl | rfl | rfl | rfl | rfl | rfl | rfl : j = 0 ∨ j = 1 ∨ j = 2 ∨ j = 3 ∨ j = 4 ∨ j = 5 ∨ j = 6 ∨ j = 7 ∨ j = 8 ∨ j = 9 := by omega
    all_goals
      simp at hv
      subst hv
      simp [go_sem, z0, z1, z2, z3, z4, z5, z6, z7, z8, z9]
end Go.Proofs.YtpcbpikhiooafaaGreatDoor
