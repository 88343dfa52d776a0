/- New of a process by nobody in particular. Conditions: the file system lies in memory; its root is there. -/
import Derived.Test.YtpcbpikhiooafaaGreatDoorM23
import Derived.Test.YtpcbpikhiooafaaGreatDoorM22
import Derived.Test.YtpcbpikhiooafaaGreatDoorTu6
import Derived.Test.YtpcbpikhiooafaaGreatDoorM10
namespace Go.Proofs.YtpcbpikhiooafaaGreatDoor
open Go.RowKit
theorem bin27 (W : World) : (binOp .eql 31 (.slice none 0 0) (.slice none 0 0)).run Tryz.prog W = .ok (.bool true) W := by kernel_rfl
theorem sClone0 (w : World) : Calls Tryz.prog 20 #[.slice none 0 0] w fun e w' => e = .returned (.slice none 0 0) ∧ w' = w := by
  have hb := bin27
  go_enter Tryz.func20, Tryz.ntmps20
  go_wp2
  go_ret
  exact ⟨rfl, rfl⟩
theorem sIndexF0 (v : Value) (w : World) : Calls Tryz.prog 67 #[.slice none 0 0, v] w fun e w' => e = .returned (.int .i64 (-1)) ∧ w' = w := by
  go_enter Tryz.func67, Tryz.ntmps67
  go_wp2_with fail
  go_loopg [8] 0 (fun gh i wr => w = wr ∧ gh = 0 ∧ i = .int .i64 0)
  case atStart => exact ⟨rfl, rfl, rfl⟩
  case round =>
    obtain ⟨rfl, rfl, rfl⟩ := hrel
    go_wp2_with fail
    go_ret
    exact ⟨rfl, rfl⟩
theorem sContF0 (v : Fn) (f c : Array Value) (w : World) : Calls Tryz.prog 42 #[.slice none 0 0, .func v f c] w fun e w' => e = .returned (.bool false) ∧ w' = w := by
  go_enter Tryz.func42, Tryz.ntmps42
  go_wp2_with (first | (go_at_call 67; refine (sIndexF0 _ _).mono ?_; rintro e w3 ⟨rfl, hw3⟩; rw [hw3]; clear hw3 w3))
  go_ret
  exact ⟨rfl, rfl⟩
theorem b511 : bits .andNot .i64 0 511 = 0 := by decide +kernel
set_option maxRecDepth 100000 in
theorem pFit0 (w : World) : Calls Tryz.prog 18 #[.agg #[.int .i64 0, .int .i64 0, .slice none 0 0, .int .i64 0, .int .i64 1]] w fun e w' => e = .returned (.bool true) ∧ Mod (fun _ => False) w w' := by
  have HM0 : Hid (∀ o, Mod (fun _ => False) w (w.alloc o)) := fun o => (Mod.refl _ w).alloc o
  have h511 := b511
  go_enter Tryz.func18, Tryz.ntmps18
  go_wp2_with (first | (go_at_call 42; refine (sContF0 _ _ _ _).mono ?_; rintro e w3 ⟨rfl, hw3⟩; rw [hw3]; clear hw3 w3) | (go_at_call 41; go_in))
  go_ret
  exact ⟨rfl, HM0.out _⟩
/-- Who somebody is lies in memory. -/
structure CrAt (w : World) (B : Nat) : Prop where
  c0 : w.cell? ⟨B, 0, none⟩ = some (.int .i64 0)
  c1 : w.cell? ⟨B, 1, none⟩ = some (.int .i64 0)
  c2 : w.cell? ⟨B, 2, none⟩ = some (.slice none 0 0)
  c3 : w.cell? ⟨B, 3, none⟩ = some (.int .i64 0)
  c4 : w.cell? ⟨B, 4, none⟩ = some (.int .i64 1)
  fr : ∀ o, w.frozen? ⟨B, o, none⟩ = false
theorem CrAt.lt {w : World} {B : Nat} (h : CrAt w B) : B < w.heap.size := block_lt_of_cell h.c0
theorem CrAt.mod {w w' : World} {B : Nat} (h : CrAt w B) {s : Nat → Prop} (hM : Mod s w w') (hs : ¬ s B) : CrAt w' B where
  c0 := (hM.cell (p := ⟨B, 0, none⟩) h.lt hs).trans h.c0
  c1 := (hM.cell (p := ⟨B, 1, none⟩) h.lt hs).trans h.c1
  c2 := (hM.cell (p := ⟨B, 2, none⟩) h.lt hs).trans h.c2
  c3 := (hM.cell (p := ⟨B, 3, none⟩) h.lt hs).trans h.c3
  c4 := (hM.cell (p := ⟨B, 4, none⟩) h.lt hs).trans h.c4
  fr := fun o => (hM.frozen (p := ⟨B, o, none⟩) h.lt hs).trans (h.fr o)
theorem pAt_box (W : World) (fb : Nat) (T : TypeId) : PAt (W.alloc (.cells #[.pointer (some ⟨fb, 0, none⟩), .int .i64 0, .int .i64 0, .slice none 0 0, .int .i64 0, .int .i64 1, .pointer none, .pointer none, .pointer none, .pointer none, .pointer none, .pointer none, .pointer none, .pointer none, .pointer none, .pointer none, .pointer none, .pointer none, .pointer none, .pointer none, .pointer none, .pointer none] T)) W.heap.size fb 0 0 none 0 0 1 (fun _ => none) where
  c0 := by rw [World.cell?_alloc_at _ _ _ _ rfl]; rfl
  c1 := by rw [World.cell?_alloc_at _ _ _ _ rfl]; rfl
  c2 := by rw [World.cell?_alloc_at _ _ _ _ rfl]; rfl
  c3 := by rw [World.cell?_alloc_at _ _ _ _ rfl]; rfl
  c4 := by rw [World.cell?_alloc_at _ _ _ _ rfl]; rfl
  c5 := by rw [World.cell?_alloc_at _ _ _ _ rfl]; rfl
  fd := fun j hj => by
    rw [World.cell?_alloc_at _ _ _ _ rfl]
    obtain rfl | rfl | rfl | rfl | rfl | rfl | rfl | rfl | rfl | rfl | rfl | rfl | rfl | rfl | rfl | rfl : j = 0 ∨ j = 1 ∨ j = 2 ∨ j = 3 ∨ j = 4 ∨ j = 5 ∨ j = 6 ∨ j = 7 ∨ j = 8 ∨ j = 9 ∨ j = 10 ∨ j = 11 ∨ j = 12 ∨ j = 13 ∨ j = 14 ∨ j = 15 := by omega
    all_goals rfl
  fr := fun o => World.frozen?_alloc_at _ _ _ _ rfl
set_option maxRecDepth 100000 in
set_option maxHeartbeats 2000000 in
theorem pNew {w : World} {fb t q b c n N : Nat} {clk : Int} {F : Nat → Nat → Int} {R : Nat → Nat → Nat} {u : Nat → Bool} {D : Nat → Nat} (T : Tb w t q b c n N clk F R u D) (hf : FsAt w fb t) (hfb : fb ≠ q) (h0 : F 0 0 ≠ 0) (hm : bits .and .i64 (F 0 0) 61440 = 16384) (hh : -1000000000 ≤ F 0 4 ∧ F 0 4 ≤ 9223372036854775806) (hN : 0 < N) :
    Calls Tryz.prog 5 #[.pointer (some ⟨fb, 0, none⟩), .agg #[.int .i64 0, .int .i64 0, .slice none 0 0, .int .i64 0, .int .i64 0]] w fun e w' => ∃ P, e = .returned (.tuple #[.pointer (some ⟨P, 0, none⟩), .int .i64 0]) ∧ w.heap.size ≤ P ∧ PAt w' P fb 0 0 none 0 0 1 (fun _ => none) ∧ FsAt w' fb t ∧ Tb w' t q b c n N clk (upd2 F 0 4 (F 0 4 + 1)) R u D ∧ Mod (fun x => x = q) w w' := by
  have HI : Hid (∀ W, Mod (fun _ => False) w W → _) := fun W hM => fsInfo (w := W) (fb := fb) (t := t) ((hM.cell (p := ⟨fb, 0, none⟩) (block_lt_of_cell hf) (fun e => e)).trans hf) F 0 (fun W' hM' => tstat (T.new (hM.trans hM')) 0 hN h0)
  have HH : Hid (∀ W, Mod (fun _ => False) w W → _) := fun W hM => fsHold (w := W) (fb := fb) (t := t) ((hM.cell (p := ⟨fb, 0, none⟩) (block_lt_of_cell hf) (fun e => e)).trans hf) ((0 : Nat) + 1 : Int) (fun w' => Tb w' t q b c n N clk (upd2 F 0 4 (F 0 4 + 1)) R u D ∧ Mod (fun x => x = q) W w') (thold (T.new hM) 0 hN h0 hh)
  have HF := hid6 hf
  have hq := T.lt_q
  have HLt := hid6 (show t < w.heap.size ∧ b < w.heap.size ∧ c < w.heap.size ∧ 1 < w.heap.size from ⟨T.lt_t, T.S.lt_b, T.S.lt_c, T.S.tab.lt⟩)
  have hm' : (bits .and .i64 (F 0 0) 61440 != 16384) = false := by rw [hm]; rfl
  have HM0 : Hid (∀ o, Mod (fun _ => False) w (w.alloc o)) := fun o => (Mod.refl _ w).alloc o
  have HC0 : Hid (CrAt (w.alloc (.cells #[.int .i64 0, .int .i64 0, .slice none 0 0, .int .i64 0, .int .i64 1] 33)) w.heap.size) := ⟨by rw [World.cell?_alloc_at _ _ _ _ rfl]; rfl, by rw [World.cell?_alloc_at _ _ _ _ rfl]; rfl, by rw [World.cell?_alloc_at _ _ _ _ rfl]; rfl, by rw [World.cell?_alloc_at _ _ _ _ rfl]; rfl, by rw [World.cell?_alloc_at _ _ _ _ rfl]; rfl, fun o => World.frozen?_alloc_at _ _ _ _ rfl⟩
  clear T hf hm hh h0
  unfold statW at HI
  go_enter Tryz.func5, Tryz.ntmps5
  go_wp2_with fail
  refine Calls.mono (HI.out _ (HM0.out _)) ?_
  rintro e w1 ⟨⟨bl, rfl⟩, M1⟩
  have HC1 := hid6 (HC0.out.mod M1 (fun e => e))
  have HM1 := hid6 (fun o => ((HM0.out _).trans M1).alloc o)
  have hB1 := HC1.out.lt
  obtain ⟨e0, e1, e2, e3, e4, ef⟩ := HC1.out
  clear M1 HI HC0
  go_wp2_with fail
  refine Calls.mono (pFit0 _) ?_
  rintro e w2 ⟨rfl, M2⟩
  have HM2 := hid6 ((HM1.out _).trans M2)
  have HC2 := hid6 ((HC1.out.mod ((Mod.refl (fun _ => False) _).alloc _) (fun e => e)).mod M2 (fun e => e))
  clear M2 HM1 HC1 e0 e1 e2 e3 e4 ef hB1
  obtain ⟨e0, e1, e2, e3, e4, ef⟩ := HC2.out
  go_wp2_with fail
  refine Calls.mono (HH.out _ HM2.out) ?_
  rintro e w3 ⟨rfl, T3, M3⟩
  have HM3 := hid6 ((HM2.out.mono (t := fun x => x = q) (fun _ _ e => e.elim)).trans M3)
  have HC3 := hid6 (HC2.out.mod M3 (by show ¬ w.heap.size = q; omega))
  have HT3 := hid6 T3
  clear M3 T3 HM2 HC2 HH e0 e1 e2 e3 e4 ef
  have hB3 := HC3.out.lt
  obtain ⟨e0, e1, e2, e3, e4, ef⟩ := HC3.out
  go_wp2_with (first | (go_at_call 20; refine (sClone0 _).mono ?_; rintro e w4 ⟨rfl, hw4⟩; rw [hw4]; clear hw4 w4))
  go_ret2
  have hz : (w3.setCell ⟨w.heap.size, 2, none⟩ (.slice none 0 0)).heap.size = w3.heap.size := by simp [World.setCell]
  have hp := pAt_box (w3.setCell ⟨w.heap.size, 2, none⟩ (.slice none 0 0)) fb 63
  rw [hz] at hp
  have ms : Mod (fun x => x = w.heap.size) w3 (w3.setCell ⟨w.heap.size, 2, none⟩ (.slice none 0 0)) := (Mod.refl _ _).setCell _ _ rfl
  have hMf := (Mod.andNew HM3.out ms (Nat.le_refl _)).alloc (.cells #[.pointer (some ⟨fb, 0, none⟩), .int .i64 0, .int .i64 0, .slice none 0 0, .int .i64 0, .int .i64 1, .pointer none, .pointer none, .pointer none, .pointer none, .pointer none, .pointer none, .pointer none, .pointer none, .pointer none, .pointer none, .pointer none, .pointer none, .pointer none, .pointer none, .pointer none, .pointer none] 63)
  obtain ⟨l1, l2, l3, l4⟩ := HLt.out
  exact ⟨w3.heap.size, rfl, HM3.out.size, hp, (hMf.cell (p := ⟨fb, 0, none⟩) (block_lt_of_cell HF.out) hfb).trans HF.out, (HT3.out.mod ms (by omega) (by omega) (by omega) (by omega) (by omega)).new ((Mod.refl _ _).alloc _), hMf⟩
end Go.Proofs.YtpcbpikhiooafaaGreatDoor
