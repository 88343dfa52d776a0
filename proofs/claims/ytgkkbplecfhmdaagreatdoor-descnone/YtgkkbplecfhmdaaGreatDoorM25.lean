/- Several texts of this claim, one behind the other, in their order. -/
import Derived.Test.YtgkkbplecfhmdaaGreatDoorM23
import Derived.Test.YtgkkbplecfhmdaaGreatDoorM3
import Derived.Test.YtgkkbplecfhmdaaGreatDoorM24
import Derived.Test.YtgkkbplecfhmdaaGreatDoorM9
import Derived.Test.YtgkkbplecfhmdaaGreatDoorM4
/- The file system's New: the root alone. Condition: the library's table is as its initialiser lays it. -/
namespace Go.Proofs.YtgkkbplecfhmdaaGreatDoor
open Go.RowKit
/-- The root's bytes, its inode, its refs, behind New. -/
def rB : List Nat := sBytes [nslot [46] 1, nslot [46, 46] 1]
def rD : Nat → Nat := over (fun _ => 0) 0 rB
def rF1 : Nat → Nat → Int := setN (fun _ _ => 0) 0 (freshF 16877 0 0 0)
def rF2 : Nat → Nat → Int := upd2 (upd2 (upd2 rF1 0 5 64) 0 7 0) 0 8 0
def rF : Nat → Nat → Int := upd2 (upd2 rF2 0 3 2) 0 8 0
def rR : Nat → Nat → Nat := setN (setN (fun _ _ => 0) 0 (fun _ => 0)) 0 (upd (fun _ => 0) 0 1)
theorem uK0 : (fun _ => false : Nat → Bool) = uK 0 := by funext j; simp [uK]
theorem rB_len : rB.length = 64 := by decide +kernel
theorem r_st (n : Nat) (hn : 1 ≤ n) : (⟨64, uK 1, rD, upd (fun _ => 0) 0 1⟩ : WS) = wrun n 0 (sBytes [nslot [46] (0 + 1), nslot [46, 46] (0 + 1)]) 64 ⟨0, uK 0, fun _ => 0, setN (fun _ _ => 0) 0 (fun _ => 0) 0⟩ := by
  have h := wrun_new n 0 rB 63 0 (fun _ => 0) (setN (fun _ _ => 0) 0 (fun _ => 0) 0) (by decide) (by rw [rB_len]; decide) (by rw [rB_len]; decide) rfl (by omega)
  rw [rB_len] at h
  exact h.symm
/-- The file system lies in memory: its blocks. -/
structure FsIn (w W : World) (fb t q b c : Nat) : Prop where
  f : FsAt W fb t
  lt : q < fb ∧ b < fb ∧ c < fb ∧ t < fb
  le : w.heap.size ≤ t ∧ w.heap.size ≤ q ∧ w.heap.size ≤ b ∧ w.heap.size ≤ c
  M : Mod (fun _ => False) w W
set_option maxRecDepth 8000 in
set_option maxHeartbeats 2000000 in
theorem treeNew (n N : Nat) (w : World) (hn : 1 ≤ n) (hn2 : n ≤ 4096) (hN : 1 ≤ N) (hN2 : N ≤ 4096) (hT : TabIs w) : Calls Tryz.prog 39 #[.int .i64 n, .int .i64 N] w fun e w' => ∃ fb t q b c, e = .returned (.tuple #[.pointer (some ⟨fb, 0, none⟩), .int .i64 0]) ∧ FsIn w w' fb t q b c ∧ Tb w' t q b c n N 0 rF rR (uK 1) rD := by
  have HT := hid6 hT
  clear hT
  go_enter Tryz.func39, Tryz.ntmps39
  go_wp2_with fail
  refine (tnew_ok n N w hn hn2 hN hN2 HT.out).mono ?_
  rintro e w1 ⟨t, q, b, c, rfl, T1, M1, ht, hq, hb, hc⟩
  rw [uK0] at T1
  have HT1 := hid6 T1
  have HM1 := hid6 M1
  have HQ := hid6 (show w.heap.size ≤ t ∧ w.heap.size ≤ q ∧ w.heap.size ≤ b ∧ w.heap.size ≤ c from ⟨ht, hq, hb, hc⟩)
  clear T1 M1 ht hq hb hc
  go_wp2_with fail
  refine (talloc_ok HT1.out 16877 0 0 0 (by decide +kernel) (by omega) (by omega) (by omega) rfl (fun j hj => by omega)).mono ?_
  rintro e w2 ⟨rfl, T2, M2⟩
  have HT2 : Hid (Tb w2 t q b c n N 0 rF1 (setN (fun _ _ => 0) 0 (fun _ => 0)) (uK 0) (fun _ => 0)) := T2
  have HM2 := hid6 (HM1.out.new6 M2 (fun k e => by rw [e]; exact HQ.out.2.1))
  clear T2 M2
  go_wp2_with fail
  refine (dInit HT2.out 0 0 (by omega) (by omega) (by decide) (by decide) (by decide) (fun W hM => tstat (HT2.out.new hM) 0 (by omega) (by decide)) (by decide +kernel) hN2 ⟨64, uK 1, rD, upd (fun _ => 0) 0 1⟩ (r_st n hn) 0 rfl rF2 rfl).mono ?_
  rintro e w3 ⟨rfl, M3, T3⟩
  have HT3 : Hid (Tb w3 t q b c n N 0 rF2 rR (uK 1) rD) := T3
  have HM3 := hid6 (HM2.out.new6 M3 (fun k e => by obtain ⟨a1, a2, a3, a4⟩ := HQ.out; rcases e with e | e | e <;> omega))
  clear T3 M3
  go_wp2_with fail
  refine (tlinks_keep HT3.out 0 2 (by omega) (by decide) (by decide) (by decide) (by decide) (.inl (by decide))).mono ?_
  rintro e w4 ⟨rfl, T4, M4⟩
  have HT4 : Hid (Tb w4 t q b c n N 0 rF rR (uK 1) rD) := T4
  have HM4 := hid6 (HM3.out.new6 M4 (fun k e => by rw [e]; exact HQ.out.2.1))
  clear T4 M4
  go_wp2
  go_ret2
  have t1 := HT4.out.lt_t; have t2 := HT4.out.lt_q; have t3 := HT4.out.S.lt_b; have t4 := HT4.out.S.lt_c
  exact ⟨w4.heap.size, t, q, b, c, rfl, ⟨by unfold FsAt; rw [World.cell?_alloc_at _ _ _ _ rfl]; rfl, ⟨t2, t3, t4, t1⟩, HQ.out, HM4.out.alloc _⟩, HT4.out.new ((Mod.refl _ _).alloc _)⟩
end Go.Proofs.YtgkkbplecfhmdaaGreatDoor
/- The walks of SetMode, SetTimes, SetOwner and Hold. Condition: the table lies in memory as 'Tb' says. -/
namespace Go.Proofs.YtgkkbplecfhmdaaGreatDoor
open Go.RowKit
section
variable {w : World} {t q b c n N : Nat} {clk : Int} {F : Nat → Nat → Int} {R : Nat → Nat → Nat} {u : Nat → Bool} {D : Nat → Nat}
set_option maxRecDepth 8000 in
set_option maxHeartbeats 2000000 in
theorem thold (T : Tb w t q b c n N clk F R u D) (i : Nat)  (hi : i < N) (hz : F i 0 ≠ 0) (hh : -1000000000 ≤ F i 4 ∧ F i 4 ≤ 9223372036854775806) : Calls Tryz.prog 87 #[.pointer (some ⟨t, 0, none⟩), .int .i64 ((i : Int) + 1)] w fun e w' => e = .returned (.int .i64 0) ∧ Tb w' t q b c n N clk (upd2 F i 4 (F i 4 + 1)) R u D ∧ Mod (fun k => k = q) w w' := by
  have HT : Hid (Tb w t q b c n N clk F R u D) := T
  have HZ : Hid (F i 0 ≠ 0) := hz
  have h2 := T.c2
  have htq := T.tq
  have hlq := T.lt_q
  have hlt := T.lt_t
  have k4 := T.cf i 4 hi (by omega)
  have f4 := T.fq (i * 17 + 4)
  clear T hz
  go_enter Tryz.func87, Tryz.ntmps87
  go_wp2_with (go_at_call 102; refine (find_ok HT.out i hi HZ.out).mono ?_; rintro e w1 ⟨rfl, hw1⟩; rw [hw1]; clear hw1 w1)
  all_goals try go_region
  all_goals try go_wp2
  all_goals try go_region
  all_goals try go_wp2
  all_goals go_ret
  all_goals first | exact ⟨by simp, (HT.out.setF i 4 (by omega) (F i 4 + 1) (by omega)), (Mod.refl (fun k => k = q) w).setCell _ _ rfl⟩ | exact ⟨by simp, (HT.out.setF i 4 (by omega) (F i 4 + 1) (by omega)).drewN _, ((Mod.refl (fun k => k = q) w).setCell _ _ rfl).drewN _⟩
end
end Go.Proofs.YtgkkbplecfhmdaaGreatDoor
/- New of a process by nobody in particular. Conditions: the file system lies in memory; its root is there. -/
namespace Go.Proofs.YtgkkbplecfhmdaaGreatDoor
open Go.RowKit
theorem bin27 (W : World) : (binOp .eql 27 (.slice none 0 0) (.slice none 0 0)).run Tryz.prog W = .ok (.bool true) W := by kernel_rfl
theorem sClone0 (w : World) : Calls Tryz.prog 35 #[.slice none 0 0] w fun e w' => e = .returned (.slice none 0 0) ∧ w' = w := by
  have hb := bin27
  go_enter Tryz.func35, Tryz.ntmps35
  go_wp2
  go_ret
  exact ⟨rfl, rfl⟩
theorem sIndexF0 (v : Value) (w : World) : Calls Tryz.prog 136 #[.slice none 0 0, v] w fun e w' => e = .returned (.int .i64 (-1)) ∧ w' = w := by
  go_enter Tryz.func136, Tryz.ntmps136
  go_wp2_with fail
  go_loopg [8] 0 (fun gh i wr => w = wr ∧ gh = 0 ∧ i = .int .i64 0)
  case atStart => exact ⟨rfl, rfl, rfl⟩
  case round =>
    obtain ⟨rfl, rfl, rfl⟩ := hrel
    go_wp2_with fail
    go_ret
    exact ⟨rfl, rfl⟩
theorem sContF0 (v : Fn) (f c : Array Value) (w : World) : Calls Tryz.prog 86 #[.slice none 0 0, .func v f c] w fun e w' => e = .returned (.bool false) ∧ w' = w := by
  go_enter Tryz.func86, Tryz.ntmps86
  go_wp2_with (first | (go_at_call 136; refine (sIndexF0 _ _).mono ?_; rintro e w3 ⟨rfl, hw3⟩; rw [hw3]; clear hw3 w3))
  go_ret
  exact ⟨rfl, rfl⟩
theorem b511 : bits .andNot .i64 0 511 = 0 := by decide +kernel
set_option maxRecDepth 100000 in
theorem pFit0 (w : World) : Calls Tryz.prog 37 #[.agg #[.int .i64 0, .int .i64 0, .slice none 0 0, .int .i64 0, .int .i64 1]] w fun e w' => e = .returned (.bool true) ∧ Mod (fun _ => False) w w' := by
  have HM0 : Hid (∀ o, Mod (fun _ => False) w (w.alloc o)) := fun o => (Mod.refl _ w).alloc o
  have h511 := b511
  go_enter Tryz.func37, Tryz.ntmps37
  go_wp2_with (first | (go_at_call 86; refine (sContF0 _ _ _ _).mono ?_; rintro e w3 ⟨rfl, hw3⟩; rw [hw3]; clear hw3 w3) | (go_at_call 85; go_in))
  go_ret
  exact ⟨rfl, HM0.out _⟩
/-- Who somebody is lies in memory. -/
structure CrAt (w : World) (B : Nat) : Prop where
  c0 : w.cell? ⟨B, 0, none⟩ = some (.int .i64 0)
  c1 : w.cell? ⟨B, 1, none⟩ = some (.int .i64 0)
  c2 : w.cell? ⟨B, 2, none⟩ = some (.slice none 0 0)
  c3 : w.cell? ⟨B, 3, none⟩ = some (.int .i64 0)
  c4 : w.cell? ⟨B, 4, none⟩ = some (.int .i64 1)
  fr : ∀ o, w.frozen? ⟨B, o, none⟩ = false
theorem CrAt.lt {w : World} {B : Nat} (h : CrAt w B) : B < w.heap.size := block_lt_of_cell h.c0
theorem CrAt.mod {w w' : World} {B : Nat} (h : CrAt w B) {s : Nat → Prop} (hM : Mod s w w') (hs : ¬ s B) : CrAt w' B where
  c0 := (hM.cell (p := ⟨B, 0, none⟩) h.lt hs).trans h.c0
  c1 := (hM.cell (p := ⟨B, 1, none⟩) h.lt hs).trans h.c1
  c2 := (hM.cell (p := ⟨B, 2, none⟩) h.lt hs).trans h.c2
  c3 := (hM.cell (p := ⟨B, 3, none⟩) h.lt hs).trans h.c3
  c4 := (hM.cell (p := ⟨B, 4, none⟩) h.lt hs).trans h.c4
  fr := fun o => (hM.frozen (p := ⟨B, o, none⟩) h.lt hs).trans (h.fr o)
theorem pAt_box (W : World) (fb : Nat) (T : TypeId) : PAt (W.alloc (.cells #[.pointer (some ⟨fb, 0, none⟩), .int .i64 0, .int .i64 0, .slice none 0 0, .int .i64 0, .int .i64 1, .pointer none, .pointer none, .pointer none, .pointer none, .pointer none, .pointer none, .pointer none, .pointer none, .pointer none, .pointer none, .pointer none, .pointer none, .pointer none, .pointer none, .pointer none, .pointer none] T)) W.heap.size fb 0 0 none 0 0 1 (fun _ => none) where
  c0 := by rw [World.cell?_alloc_at _ _ _ _ rfl]; rfl
  c1 := by rw [World.cell?_alloc_at _ _ _ _ rfl]; rfl
  c2 := by rw [World.cell?_alloc_at _ _ _ _ rfl]; rfl
  c3 := by rw [World.cell?_alloc_at _ _ _ _ rfl]; rfl
  c4 := by rw [World.cell?_alloc_at _ _ _ _ rfl]; rfl
  c5 := by rw [World.cell?_alloc_at _ _ _ _ rfl]; rfl
  fd := fun j hj => by
    rw [World.cell?_alloc_at _ _ _ _ rfl]
    obtain rfl | rfl | rfl | rfl | rfl | rfl | rfl | rfl | rfl | rfl | rfl | rfl | rfl | rfl | rfl | rfl : j = 0 ∨ j = 1 ∨ j = 2 ∨ j = 3 ∨ j = 4 ∨ j = 5 ∨ j = 6 ∨ j = 7 ∨ j = 8 ∨ j = 9 ∨ j = 10 ∨ j = 11 ∨ j = 12 ∨ j = 13 ∨ j = 14 ∨ j = 15 := by omega
    all_goals rfl
  fr := fun o => World.frozen?_alloc_at _ _ _ _ rfl
set_option maxRecDepth 100000 in
set_option maxHeartbeats 2000000 in
theorem pNew {w : World} {fb t q b c n N : Nat} {clk : Int} {F : Nat → Nat → Int} {R : Nat → Nat → Nat} {u : Nat → Bool} {D : Nat → Nat} (T : Tb w t q b c n N clk F R u D) (hf : FsAt w fb t) (hfb : fb ≠ q) (h0 : F 0 0 ≠ 0) (hm : bits .and .i64 (F 0 0) 61440 = 16384) (hh : -1000000000 ≤ F 0 4 ∧ F 0 4 ≤ 9223372036854775806) (hN : 0 < N) :
    Calls Tryz.prog 19 #[.pointer (some ⟨fb, 0, none⟩), .agg #[.int .i64 0, .int .i64 0, .slice none 0 0, .int .i64 0, .int .i64 0]] w fun e w' => ∃ P, e = .returned (.tuple #[.pointer (some ⟨P, 0, none⟩), .int .i64 0]) ∧ w.heap.size ≤ P ∧ PAt w' P fb 0 0 none 0 0 1 (fun _ => none) ∧ FsAt w' fb t ∧ Tb w' t q b c n N clk (upd2 F 0 4 (F 0 4 + 1)) R u D ∧ Mod (fun x => x = q) w w' := by
  have HI : Hid (∀ W, Mod (fun _ => False) w W → _) := fun W hM => fsInfo (w := W) (fb := fb) (t := t) ((hM.cell (p := ⟨fb, 0, none⟩) (block_lt_of_cell hf) (fun e => e)).trans hf) F 0 (fun W' hM' => tstat (T.new (hM.trans hM')) 0 hN h0)
  have HH : Hid (∀ W, Mod (fun _ => False) w W → _) := fun W hM => fsHold (w := W) (fb := fb) (t := t) ((hM.cell (p := ⟨fb, 0, none⟩) (block_lt_of_cell hf) (fun e => e)).trans hf) ((0 : Nat) + 1 : Int) (fun w' => Tb w' t q b c n N clk (upd2 F 0 4 (F 0 4 + 1)) R u D ∧ Mod (fun x => x = q) W w') (thold (T.new hM) 0 hN h0 hh)
  have HF := hid6 hf
  have hq := T.lt_q
  have HLt := hid6 (show t < w.heap.size ∧ b < w.heap.size ∧ c < w.heap.size ∧ 1 < w.heap.size from ⟨T.lt_t, T.S.lt_b, T.S.lt_c, T.S.tab.lt⟩)
  have hm' : (bits .and .i64 (F 0 0) 61440 != 16384) = false := by rw [hm]; rfl
  have HM0 : Hid (∀ o, Mod (fun _ => False) w (w.alloc o)) := fun o => (Mod.refl _ w).alloc o
  have HC0 : Hid (CrAt (w.alloc (.cells #[.int .i64 0, .int .i64 0, .slice none 0 0, .int .i64 0, .int .i64 1] 29)) w.heap.size) := ⟨by rw [World.cell?_alloc_at _ _ _ _ rfl]; rfl, by rw [World.cell?_alloc_at _ _ _ _ rfl]; rfl, by rw [World.cell?_alloc_at _ _ _ _ rfl]; rfl, by rw [World.cell?_alloc_at _ _ _ _ rfl]; rfl, by rw [World.cell?_alloc_at _ _ _ _ rfl]; rfl, fun o => World.frozen?_alloc_at _ _ _ _ rfl⟩
  clear T hf hm hh h0
  unfold statW at HI
  go_enter Tryz.func19, Tryz.ntmps19
  go_wp2_with fail
  refine Calls.mono (HI.out _ (HM0.out _)) ?_
  rintro e w1 ⟨⟨bl, rfl⟩, M1⟩
  have HC1 := hid6 (HC0.out.mod M1 (fun e => e))
  have HM1 := hid6 (fun o => ((HM0.out _).trans M1).alloc o)
  have hB1 := HC1.out.lt
  obtain ⟨e0, e1, e2, e3, e4, ef⟩ := HC1.out
  clear M1 HI HC0
  go_wp2_with fail
  refine Calls.mono (pFit0 _) ?_
  rintro e w2 ⟨rfl, M2⟩
  have HM2 := hid6 ((HM1.out _).trans M2)
  have HC2 := hid6 ((HC1.out.mod ((Mod.refl (fun _ => False) _).alloc _) (fun e => e)).mod M2 (fun e => e))
  clear M2 HM1 HC1 e0 e1 e2 e3 e4 ef hB1
  obtain ⟨e0, e1, e2, e3, e4, ef⟩ := HC2.out
  go_wp2_with fail
  refine Calls.mono (HH.out _ HM2.out) ?_
  rintro e w3 ⟨rfl, T3, M3⟩
  have HM3 := hid6 ((HM2.out.mono (t := fun x => x = q) (fun _ _ e => e.elim)).trans M3)
  have HC3 := hid6 (HC2.out.mod M3 (by show ¬ w.heap.size = q; omega))
  have HT3 := hid6 T3
  clear M3 T3 HM2 HC2 HH e0 e1 e2 e3 e4 ef
  have hB3 := HC3.out.lt
  obtain ⟨e0, e1, e2, e3, e4, ef⟩ := HC3.out
  go_wp2_with (first | (go_at_call 35; refine (sClone0 _).mono ?_; rintro e w4 ⟨rfl, hw4⟩; rw [hw4]; clear hw4 w4))
  go_ret2
  have hz : (w3.setCell ⟨w.heap.size, 2, none⟩ (.slice none 0 0)).heap.size = w3.heap.size := by simp [World.setCell]
  have hp := pAt_box (w3.setCell ⟨w.heap.size, 2, none⟩ (.slice none 0 0)) fb 33
  rw [hz] at hp
  have ms : Mod (fun x => x = w.heap.size) w3 (w3.setCell ⟨w.heap.size, 2, none⟩ (.slice none 0 0)) := (Mod.refl _ _).setCell _ _ rfl
  have hMf := (Mod.andNew HM3.out ms (Nat.le_refl _)).alloc (.cells #[.pointer (some ⟨fb, 0, none⟩), .int .i64 0, .int .i64 0, .slice none 0 0, .int .i64 0, .int .i64 1, .pointer none, .pointer none, .pointer none, .pointer none, .pointer none, .pointer none, .pointer none, .pointer none, .pointer none, .pointer none, .pointer none, .pointer none, .pointer none, .pointer none, .pointer none, .pointer none] 33)
  obtain ⟨l1, l2, l3, l4⟩ := HLt.out
  exact ⟨w3.heap.size, rfl, HM3.out.size, hp, (hMf.cell (p := ⟨fb, 0, none⟩) (block_lt_of_cell HF.out) hfb).trans HF.out, (HT3.out.mod ms (by omega) (by omega) (by omega) (by omega) (by omega)).new ((Mod.refl _ _).alloc _), hMf⟩
end Go.Proofs.YtgkkbplecfhmdaaGreatDoor
/- A process that no call made: its calls. Condition: the process is nil, or lies in memory as a zero one. -/
namespace Go.Proofs.YtgkkbplecfhmdaaGreatDoor
open Go.RowKit
/-- Nil, or zero. -/
def NoP (p : Option Addr) (w : World) : Prop := p = none ∨ ∃ Z, p = some ⟨Z, 0, none⟩ ∧ w.cell? ⟨Z, 0, none⟩ = some (.pointer none) ∧ w.cell? ⟨Z, 1, none⟩ = some (.int .i64 0) ∧ w.cell? ⟨Z, 2, none⟩ = some (.int .i64 0) ∧ w.cell? ⟨Z, 3, none⟩ = some (.slice none 0 0) ∧ w.cell? ⟨Z, 4, none⟩ = some (.int .i64 0) ∧ w.cell? ⟨Z, 5, none⟩ = some (.int .i64 0)
theorem NoP.new {p : Option Addr} {w w' : World} (h : NoP p w) (hM : Mod (fun _ => False) w w') : NoP p w' := by
  rcases h with h | ⟨Z, h, c0, c1, c2, c3, c4, c5⟩
  · exact .inl h
  · have hl : Z < w.heap.size := block_lt_of_cell c0
    exact .inr ⟨Z, h, (hM.cell (p := ⟨Z, 0, none⟩) hl (fun e => e)).trans c0, (hM.cell (p := ⟨Z, 1, none⟩) hl (fun e => e)).trans c1, (hM.cell (p := ⟨Z, 2, none⟩) hl (fun e => e)).trans c2, (hM.cell (p := ⟨Z, 3, none⟩) hl (fun e => e)).trans c3, (hM.cell (p := ⟨Z, 4, none⟩) hl (fun e => e)).trans c4, (hM.cell (p := ⟨Z, 5, none⟩) hl (fun e => e)).trans c5⟩
def crZ : Value := .agg #[.int .i64 0, .int .i64 0, .slice none 0 0, .int .i64 0, .int .i64 0]
section
variable {p : Option Addr} {w : World}
theorem nFS (h : NoP p w) : Calls Tryz.prog 15 #[.pointer p] w fun e w' => e = .returned (.pointer none) ∧ w' = w := by
  rcases h with rfl | ⟨Z, rfl, c0, c1, c2, c3, c4, c5⟩
  all_goals
    go_enter Tryz.func15, Tryz.ntmps15
    go_wp2
    go_ret
    exact ⟨rfl, rfl⟩
theorem nMade (h : NoP p w) : Calls Tryz.prog 21 #[.pointer p] w fun e w' => e = .returned (.bool false) ∧ w' = w := by
  have HF := hid6 (nFS h)
  clear h
  go_enter Tryz.func21, Tryz.ntmps21
  go_wp2_with (first | (go_at_call 15; refine Calls.mono HF.out ?_; rintro e w3 ⟨rfl, hw3⟩; rw [hw3]; clear hw3 w3))
  go_ret
  exact ⟨rfl, rfl⟩
theorem nCred (h : NoP p w) : Calls Tryz.prog 27 #[.pointer p] w fun e w' => e = .returned crZ ∧ Mod (fun _ => False) w w' := by
  have HM : Hid (∀ o, Mod (fun _ => False) w (w.alloc o)) := fun o => (Mod.refl _ w).alloc o
  unfold crZ
  rcases h with rfl | ⟨Z, rfl, c0, c1, c2, c3, c4, c5⟩
  · go_enter Tryz.func27, Tryz.ntmps27
    go_wp2
    refine ⟨rfl, _, by simp [results, Tryz.results27, go_sem], rfl, HM.out _⟩
  · have hl : Z < w.heap.size := block_lt_of_cell c0
    go_enter Tryz.func27, Tryz.ntmps27
    go_wp2
    refine ⟨rfl, _, by simp [results, Tryz.results27, go_sem], rfl, HM.out _⟩
theorem nFds (h : NoP p w) : Calls Tryz.prog 16 #[.pointer p] w fun e w' => e = .returned (.slice none 0 0) ∧ w' = w := by
  have HF := hid6 (nMade h)
  clear h
  go_enter Tryz.func16, Tryz.ntmps16
  go_wp2_with (first | (go_at_call 21; refine Calls.mono HF.out ?_; rintro e w3 ⟨rfl, hw3⟩; rw [hw3]; clear hw3 w3))
  go_ret
  exact ⟨rfl, rfl⟩
theorem nRoom (h : NoP p w) (n : Int) : Calls Tryz.prog 22 #[.pointer p, .int .i64 n] w fun e w' => e = .returned (.int .i64 14) ∧ w' = w := by
  have HF := hid6 (nMade h)
  clear h
  go_enter Tryz.func22, Tryz.ntmps22
  go_wp2_with (first | (go_at_call 21; refine Calls.mono HF.out ?_; rintro e w3 ⟨rfl, hw3⟩; rw [hw3]; clear hw3 w3))
  go_ret
  exact ⟨rfl, rfl⟩
theorem nLead (h : NoP p w) (i : Int) : Calls Tryz.prog 25 #[.pointer p, .int .i64 i] w fun e w' => e = .returned (.tuple #[.pointer none, .int .i64 14]) ∧ w' = w := by
  have HF := hid6 (nMade h)
  clear h
  go_enter Tryz.func25, Tryz.ntmps25
  go_wp2_with (first | (go_at_call 21; refine Calls.mono HF.out ?_; rintro e w3 ⟨rfl, hw3⟩; rw [hw3]; clear hw3 w3))
  go_ret2
  exact ⟨rfl, rfl⟩
theorem nOpen (h : NoP p w) (l : ByteArray) (i m : Int) : Calls Tryz.prog 4 #[.pointer p, .string l, .int .i64 i, .int .i64 m] w fun e w' => e = .returned (.tuple #[.int .i64 0, .int .i64 14]) ∧ w' = w := by
  have HF := hid6 (nMade h)
  clear h
  go_enter Tryz.func4, Tryz.ntmps4
  go_wp2_with (first | (go_at_call 21; refine Calls.mono HF.out ?_; rintro e w3 ⟨rfl, hw3⟩; rw [hw3]; clear hw3 w3))
  go_ret2
  exact ⟨rfl, rfl⟩
theorem nRead (h : NoP p w) (i m : Int) : Calls Tryz.prog 5 #[.pointer p, .int .i64 i, .int .i64 m] w fun e w' => e = .returned (.tuple #[.slice none 0 0, .int .i64 14]) ∧ w' = w := by
  have HF := hid6 (nLead h i)
  clear h
  go_enter Tryz.func5, Tryz.ntmps5
  go_wp2_with (first | (go_at_call 25; refine Calls.mono HF.out ?_; rintro e w3 ⟨rfl, hw3⟩; rw [hw3]; clear hw3 w3))
  go_ret2
  exact ⟨rfl, rfl⟩
theorem nWrite (h : NoP p w) (i : Int) (a : Option Addr) (n c : Nat) : Calls Tryz.prog 6 #[.pointer p, .int .i64 i, .slice a n c] w fun e w' => e = .returned (.tuple #[.int .i64 0, .int .i64 14]) ∧ w' = w := by
  have HF := hid6 (nLead h i)
  clear h
  go_enter Tryz.func6, Tryz.ntmps6
  go_wp2_with (first | (go_at_call 25; refine Calls.mono HF.out ?_; rintro e w3 ⟨rfl, hw3⟩; rw [hw3]; clear hw3 w3))
  go_ret2
  exact ⟨rfl, rfl⟩
theorem nClose (h : NoP p w) (i : Int) : Calls Tryz.prog 13 #[.pointer p, .int .i64 i] w fun e w' => e = .returned (.int .i64 14) ∧ w' = w := by
  have HF := hid6 (nLead h i)
  clear h
  go_enter Tryz.func13, Tryz.ntmps13
  go_wp2_with (first | (go_at_call 25; refine Calls.mono HF.out ?_; rintro e w3 ⟨rfl, hw3⟩; rw [hw3]; clear hw3 w3))
  go_ret
  exact ⟨rfl, rfl⟩
theorem nPipe (h : NoP p w) : Calls Tryz.prog 7 #[.pointer p] w fun e w' => e = .returned (.tuple #[.int .i64 0, .int .i64 0, .int .i64 14]) ∧ w' = w := by
  have HF := hid6 (nRoom h 2)
  clear h
  go_enter Tryz.func7, Tryz.ntmps7
  go_wp2_with (first | (go_at_call 22; refine Calls.mono HF.out ?_; rintro e w3 ⟨rfl, hw3⟩; rw [hw3]; clear hw3 w3))
  go_ret3
  exact ⟨rfl, rfl⟩
theorem nAsFile (h : NoP p w) (i m : Int) : Calls Tryz.prog 29 #[.pointer p, .int .i64 i, .int .i64 m] w fun e w' => e = .returned (.tuple #[.pointer none, .int .i64 14]) ∧ w' = w := by
  have HF := hid6 (nLead h i)
  clear h
  go_enter Tryz.func29, Tryz.ntmps29
  go_wp2_with (first | (go_at_call 25; refine Calls.mono HF.out ?_; rintro e w3 ⟨rfl, hw3⟩; rw [hw3]; clear hw3 w3))
  go_ret2
  exact ⟨rfl, rfl⟩
theorem nCloseAll (h : NoP p w) : Calls Tryz.prog 11 #[.pointer p] w fun e w' => e = .returned (.tuple #[]) ∧ w' = w := by
  have HF := hid6 (nFds h)
  clear h
  go_enter Tryz.func11, Tryz.ntmps11
  go_wp2_with (first | (go_at_call 16; refine Calls.mono HF.out ?_; rintro e w3 ⟨rfl, hw3⟩; rw [hw3]; clear hw3 w3))
  go_loopg [7] 0 (fun gh i wr => w = wr ∧ gh = 0 ∧ i = .int .i64 0)
  case atStart => exact ⟨rfl, rfl, rfl⟩
  case round =>
    obtain ⟨rfl, rfl, rfl⟩ := hrel
    go_wp2_with fail
    exact ⟨rfl, _, results_none rfl _ _ _, rfl, rfl⟩
set_option maxRecDepth 100000 in
theorem nReaddir (h : NoP p w) (i : Int) : Calls Tryz.prog 10 #[.pointer p, .int .i64 i] w fun e w' => e = .returned (.tuple #[.agg #[.string ⟨#[]⟩, .int .i64 0, .int .i64 0], .bool false, .int .i64 14]) ∧ Mod (fun _ => False) w w' := by
  have HF : Hid (∀ o, _) := fun o => nAsFile (h.new ((Mod.refl _ w).alloc o)) i 20
  have HM : Hid (∀ o, Mod (fun _ => False) w (w.alloc o)) := fun o => (Mod.refl _ w).alloc o
  clear h
  go_enter Tryz.func10, Tryz.ntmps10
  go_wp2_with (first | (go_at_call 29; refine Calls.mono (HF.out _) ?_; rintro e w3 ⟨rfl, hw3⟩; rw [hw3]; clear hw3 w3))
  refine ⟨rfl, _, by simp [results, Tryz.results10, go_sem], rfl, HM.out _⟩
end
end Go.Proofs.YtgkkbplecfhmdaaGreatDoor
