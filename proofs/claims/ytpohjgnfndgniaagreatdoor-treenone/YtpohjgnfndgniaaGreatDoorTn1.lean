/- A file system that no call made, nil or zero: its calls. Condition: its table is none, in whatever later memory. -/
import Derived.Test.YtpohjgnfndgniaaGreatDoorM22
namespace Go.Proofs.YtpohjgnfndgniaaGreatDoor
open Go.RowKit
/-- A file system that has no table, now and later. -/
def NoF (f : Value) (w : World) : Prop := ∀ W, Mod (fun _ => False) w W → Calls Tryz.prog 99 #[f] W fun e w' => e = .returned (.pointer none) ∧ w' = W
theorem NoF.new {f : Value} {w w' : World} (h : NoF f w) (hM : Mod (fun _ => False) w w') : NoF f w' := fun W hW => h W (hM.trans hW)
theorem noF_nil (w : World) : NoF (.pointer none) w := fun W _ => by
  go_enter Tryz.func99, Tryz.ntmps99
  go_wp2
  go_ret
  exact ⟨rfl, rfl⟩
theorem noF_zero (w : World) (Z : Nat) (h : w.cell? ⟨Z, 0, none⟩ = some (.pointer none)) : NoF (.pointer (some ⟨Z, 0, none⟩)) w := fun W hM => tTable Z none W ((hM.cell (p := ⟨Z, 0, none⟩) (block_lt_of_cell h) (fun e => e)).trans h)
theorem results2c {P : Program} {fn : Func} {p q : Tmp} {ty : TypeId} (h : fn.results = #[.tmp p, .cell q ty]) (tmps : Array Value) (w : World) (b : Addr) (u v : Value) (ha : tmps.getD p undef = u) (hb : tmps.getD q undef = .pointer (some b)) (hl : (loadVar ty b).run P w = .ok v w) : (results fn tmps).run P w = .ok (.tuple #[u, v]) w := by
  unfold results
  rw [h]
  simp [Array.getD_eq_getD_getElem?] at ha hb
  simp [ha, hb, asAddr, Result.andThen, hl]
set_option maxRecDepth 100000 in
set_option maxHeartbeats 2000000 in
theorem askNInt (f : Value) (w : World) (H : NoF f w) (u g : Int) (ga : Option Addr) (gn gc : Nat) (um cw : Int) (wf : Fn) (wa wc : Array Value) : Calls Tryz.prog 37 #[f, .agg #[.int .i64 u, .int .i64 g, .slice ga gn gc, .int .i64 um, .int .i64 cw], .func wf wa wc] w fun e w' => e = .returned (.tuple #[.int .i64 0, .int .i64 14]) ∧ Mod (fun _ => False) w w' := by
  have HF : Hid (∀ o o1, _) := fun o o1 => H _ (((Mod.refl (fun _ => False) w).alloc o).alloc o1)
  have HM : Hid (∀ o o1, Mod (fun _ => False) w ((w.alloc o).alloc o1)) := fun o o1 => ((Mod.refl _ w).alloc o).alloc o1
  clear H
  go_enter_defers Tryz.func37, Tryz.ntmps37
  go_wp2_with (first | (go_at_call 99; refine Calls.mono (HF.out _ _) ?_; rintro e w9 ⟨rfl, hw9⟩; rw [hw9]; clear hw9 w9))
  simp [bodyPostD, Leaves, results, Tryz.results37, go_sem]
  exact HM.out _ _
set_option maxRecDepth 100000 in
set_option maxHeartbeats 2000000 in
theorem askNStr (f : Value) (w : World) (H : NoF f w) (u g : Int) (ga : Option Addr) (gn gc : Nat) (um cw : Int) (wf : Fn) (wa wc : Array Value) : Calls Tryz.prog 43 #[f, .agg #[.int .i64 u, .int .i64 g, .slice ga gn gc, .int .i64 um, .int .i64 cw], .func wf wa wc] w fun e w' => e = .returned (.tuple #[.string ⟨#[]⟩, .int .i64 14]) ∧ Mod (fun _ => False) w w' := by
  have HF : Hid (∀ o o1, _) := fun o o1 => H _ (((Mod.refl (fun _ => False) w).alloc o).alloc o1)
  have HM : Hid (∀ o o1, Mod (fun _ => False) w ((w.alloc o).alloc o1)) := fun o o1 => ((Mod.refl _ w).alloc o).alloc o1
  clear H
  go_enter_defers Tryz.func43, Tryz.ntmps43
  go_wp2_with (first | (go_at_call 99; refine Calls.mono (HF.out _ _) ?_; rintro e w9 ⟨rfl, hw9⟩; rw [hw9]; clear hw9 w9))
  simp [bodyPostD, Leaves, results, Tryz.results43, go_sem]
  exact HM.out _ _
set_option maxRecDepth 100000 in
set_option maxHeartbeats 2000000 in
theorem askNBytes (f : Value) (w : World) (H : NoF f w) (u g : Int) (ga : Option Addr) (gn gc : Nat) (um cw : Int) (wf : Fn) (wa wc : Array Value) : Calls Tryz.prog 103 #[f, .agg #[.int .i64 u, .int .i64 g, .slice ga gn gc, .int .i64 um, .int .i64 cw], .func wf wa wc] w fun e w' => e = .returned (.tuple #[.slice none 0 0, .int .i64 14]) ∧ Mod (fun _ => False) w w' := by
  have HF : Hid (∀ o o1, _) := fun o o1 => H _ (((Mod.refl (fun _ => False) w).alloc o).alloc o1)
  have HM : Hid (∀ o o1, Mod (fun _ => False) w ((w.alloc o).alloc o1)) := fun o o1 => ((Mod.refl _ w).alloc o).alloc o1
  clear H
  go_enter_defers Tryz.func103, Tryz.ntmps103
  go_wp2_with (first | (go_at_call 99; refine Calls.mono (HF.out _ _) ?_; rintro e w9 ⟨rfl, hw9⟩; rw [hw9]; clear hw9 w9))
  simp [bodyPostD, Leaves, results, Tryz.results103, go_sem]
  exact HM.out _ _
set_option maxRecDepth 100000 in
set_option maxHeartbeats 2000000 in
theorem askNBool (f : Value) (w : World) (H : NoF f w) (u g : Int) (ga : Option Addr) (gn gc : Nat) (um cw : Int) (wf : Fn) (wa wc : Array Value) : Calls Tryz.prog 137 #[f, .agg #[.int .i64 u, .int .i64 g, .slice ga gn gc, .int .i64 um, .int .i64 cw], .func wf wa wc] w fun e w' => e = .returned (.tuple #[.bool false, .int .i64 14]) ∧ Mod (fun _ => False) w w' := by
  have HF : Hid (∀ o o1, _) := fun o o1 => H _ (((Mod.refl (fun _ => False) w).alloc o).alloc o1)
  have HM : Hid (∀ o o1, Mod (fun _ => False) w ((w.alloc o).alloc o1)) := fun o o1 => ((Mod.refl _ w).alloc o).alloc o1
  clear H
  go_enter_defers Tryz.func137, Tryz.ntmps137
  go_wp2_with (first | (go_at_call 99; refine Calls.mono (HF.out _ _) ?_; rintro e w9 ⟨rfl, hw9⟩; rw [hw9]; clear hw9 w9))
  simp [bodyPostD, Leaves, results, Tryz.results137, go_sem]
  exact HM.out _ _
set_option maxRecDepth 100000 in
set_option maxHeartbeats 2000000 in
theorem doN (f : Value) (w : World) (H : NoF f w) (u g : Int) (ga : Option Addr) (gn gc : Nat) (um cw : Int) (wf : Fn) (wa wc : Array Value) : Calls Tryz.prog 62 #[f, .agg #[.int .i64 u, .int .i64 g, .slice ga gn gc, .int .i64 um, .int .i64 cw], .func wf wa wc] w fun e w' => e = .returned (.int .i64 14) ∧ Mod (fun _ => False) w w' := by
  have hmf : ∀ (fn : Fn) (first cap : Array Value) (w : World), (Instr.makeFunc fn first cap).run Tryz.prog w = .ok (.func fn first cap) w := fun _ _ _ _ => rfl
  have HA : Hid (∀ o o1 wf wa wc, _) := fun o o1 wf wa wc => askNBool f ((w.alloc o).alloc o1) (H.new (((Mod.refl _ w).alloc o).alloc o1)) u g ga gn gc um cw wf wa wc
  have HM : Hid (∀ o o1, Mod (fun _ => False) w ((w.alloc o).alloc o1)) := fun o o1 => ((Mod.refl _ w).alloc o).alloc o1
  clear H
  go_enter Tryz.func62, Tryz.ntmps62
  go_wp2_with fail
  refine Calls.mono (HA.out _ _ _ _ _) ?_
  rintro e w1 ⟨rfl, M1⟩
  have HR := hid6 ((HM.out _ _).trans M1)
  clear M1
  go_wp2
  go_ret
  exact ⟨rfl, HR.out⟩
end Go.Proofs.YtpohjgnfndgniaaGreatDoor
