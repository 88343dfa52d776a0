/- A file system that no call made: its own calls. Condition: its table is none, in whatever later memory. -/
import Derived.Test.YtpohjgnfndgniaaGreatDoorTn1
import Derived.Test.YtpohjgnfndgniaaGreatDoorTy7
namespace Go.Proofs.YtpohjgnfndgniaaGreatDoor
open Go.RowKit
set_option maxRecDepth 100000 in
set_option maxHeartbeats 4000000 in
theorem askNStat (f : Value) (w : World) (H : NoF f w) (u g : Int) (ga : Option Addr) (gn gc : Nat) (um cw : Int) (wf : Fn) (wa wc : Array Value) : Calls Tryz.prog 40 #[f, .agg #[.int .i64 u, .int .i64 g, .slice ga gn gc, .int .i64 um, .int .i64 cw], .func wf wa wc] w fun e w' => e = .returned (.tuple #[.agg #[.int .i64 0, .int .i64 0, .int .i64 0, .int .i64 0, .int .i64 0, .int .i64 0, .int .i64 0, .int .i64 0, .int .i64 0, .int .i64 0], .int .i64 14]) ∧ Mod (fun _ => False) w w' := by
  have HF : Hid (∀ o o1 o2, _) := fun o o1 o2 => H _ ((((Mod.refl (fun _ => False) w).alloc o).alloc o1).alloc o2)
  have HM : Hid (∀ o o1 o2, Mod (fun _ => False) w (((w.alloc o).alloc o1).alloc o2)) := fun o o1 o2 => (((Mod.refl _ w).alloc o).alloc o1).alloc o2
  have HT2 : Hid (∀ o o2, (((w.alloc o).alloc (.cells #[.int .i64 0, .int .i64 0, .int .i64 0, .int .i64 0, .int .i64 0, .int .i64 0, .int .i64 0, .int .i64 0, .int .i64 0, .int .i64 0] 38)).alloc o2).there (w.heap.size + 1) 0 10 ∧ (((w.alloc o).alloc (.cells #[.int .i64 0, .int .i64 0, .int .i64 0, .int .i64 0, .int .i64 0, .int .i64 0, .int .i64 0, .int .i64 0, .int .i64 0, .int .i64 0] 38)).alloc o2).rangeAt (w.heap.size + 1) 0 [.int .i64 0, .int .i64 0, .int .i64 0, .int .i64 0, .int .i64 0, .int .i64 0, .int .i64 0, .int .i64 0, .int .i64 0, .int .i64 0]) := fun o o2 => ⟨fun j hj => by
    have h0 := there_new (w.alloc o) 38 #[.int .i64 0, .int .i64 0, .int .i64 0, .int .i64 0, .int .i64 0, .int .i64 0, .int .i64 0, .int .i64 0, .int .i64 0, .int .i64 0] (n := 10) rfl j hj
    rw [World.size_alloc] at h0
    rw [World.cell?_alloc_past _ _ _ (by simp), World.frozen?_alloc_past _ _ _ (by simp)]
    exact h0, fun j v hv => by
    rw [World.cell?_alloc_past _ _ _ (by simp), World.cell?_alloc_at _ _ _ _ (by simp)]
    simpa using hv⟩
  clear H
  go_enter_defers Tryz.func40, Tryz.ntmps40
  go_wp2_with (first | (go_at_call 99; refine Calls.mono (HF.out _ _ _) ?_; rintro e w9 ⟨rfl, hw9⟩; rw [hw9]; clear hw9 w9))
  exact ⟨_, ret_askStat (HT2.out _ _).2 rfl (by simp [go_sem]) _ rfl rfl, rfl, HM.out _ _ _⟩
set_option maxRecDepth 100000 in
set_option maxHeartbeats 2000000 in
theorem nfStat (f : Value) (w : World) (H : NoF f w) (u g : Int) (ga : Option Addr) (gn gc : Nat) (um cw : Int) (p : ByteArray) (fo : Bool) : Calls Tryz.prog 5 #[f, .agg #[.int .i64 u, .int .i64 g, .slice ga gn gc, .int .i64 um, .int .i64 cw], .string p, .bool fo] w fun e w' => e = .returned (.tuple #[.agg #[.int .i64 0, .int .i64 0, .int .i64 0, .int .i64 0, .int .i64 0, .int .i64 0, .int .i64 0, .int .i64 0, .int .i64 0, .int .i64 0], .int .i64 14]) ∧ Mod (fun _ => False) w w' := by
  have hmf : ∀ (fn : Fn) (first cap : Array Value) (w : World), (Instr.makeFunc fn first cap).run Tryz.prog w = .ok (.func fn first cap) w := fun _ _ _ _ => rfl
  have HA : Hid (∀ o o1 o2 o3 wf wa wc, _) := fun o o1 o2 o3 wf wa wc => askNStat f ((((w.alloc o).alloc o1).alloc o2).alloc o3) (H.new (((((Mod.refl _ w).alloc o).alloc o1).alloc o2).alloc o3)) u g ga gn gc um cw wf wa wc
  have HM0 : Hid (∀ o o1 o2 o3, Mod (fun _ => False) w ((((w.alloc o).alloc o1).alloc o2).alloc o3)) := fun o o1 o2 o3 => ((((Mod.refl _ w).alloc o).alloc o1).alloc o2).alloc o3
  have HT0 : Hid (∀ o o1 o2, (((((w.alloc o).alloc o1).alloc o2).alloc (.cells #[.int .i64 0, .int .i64 0, .int .i64 0, .int .i64 0, .int .i64 0, .int .i64 0, .int .i64 0, .int .i64 0, .int .i64 0, .int .i64 0] 38)).there (w.heap.size + 3) 0 10)) := fun o o1 o2 j hj => by
    have h0 := there_new (((w.alloc o).alloc o1).alloc o2) 38 #[.int .i64 0, .int .i64 0, .int .i64 0, .int .i64 0, .int .i64 0, .int .i64 0, .int .i64 0, .int .i64 0, .int .i64 0, .int .i64 0] (n := 10) rfl j hj
    simp only [World.size_alloc] at h0
    exact h0
  obtain ⟨L, hL⟩ : ∃ L : List Value, L = [.int .i64 0, .int .i64 0, .int .i64 0, .int .i64 0, .int .i64 0, .int .i64 0, .int .i64 0, .int .i64 0, .int .i64 0, .int .i64 0] := ⟨_, rfl⟩
  clear H
  go_enter Tryz.func5, Tryz.ntmps5
  go_wp2_with fail
  refine Calls.mono (HA.out _ _ _ _ _ _ _) ?_
  rintro e w5 ⟨rfl, M5⟩
  have HTh : Hid (w5.there (w.heap.size + 3) 0 10) := fun j hj => by
    rw [M5.cell (p := ⟨w.heap.size + 3, 0 + j, none⟩) (by simp) (fun e => e), M5.frozen (p := ⟨w.heap.size + 3, 0 + j, none⟩) (by simp) (fun e => e)]
    exact HT0.out _ _ _ j hj
  have HM5 := hid6 ((HM0.out _ _ _ _).trans M5)
  obtain ⟨wE, hwE⟩ : ∃ wE, Hid (w5.setCells (w.heap.size + 3) 0 L = wE) := ⟨_, rfl⟩
  have HRg : Hid (wE.rangeAt (w.heap.size + 3) 0 L) := by show World.rangeAt _ _ _ _; rw [← hwE.out]; exact World.rangeAt_setCells_same _ _ _ _ (by rw [hL]; exact HTh.out)
  have HM6 : Hid (Mod (fun _ => False) w wE) := by show Mod _ _ _; rw [← hwE.out]; exact HM5.out.new6 (Mod.setCells (s := fun x => x = w.heap.size + 3) (w.heap.size + 3) rfl _ _ (Mod.refl _ w5)) (fun k e => by rw [e]; omega)
  have HOne : Hid ((#[.int .i64 0, .int .i64 0, .int .i64 0, .int .i64 0, .int .i64 0, .int .i64 0, .int .i64 0, .int .i64 0, .int .i64 0, .int .i64 0] : Array Value).all (·.oneCell') = true) := all_oneCell_toArray (fun v hv => by simp only [List.mem_cons, List.not_mem_nil, or_false, or_self] at hv; rw [hv]; rfl)
  have HLen : Hid (L.length = 10) := by show _ = _; rw [hL]; rfl
  subst hL
  clear M5
  go_wp2_with (refine wpList_store_mid rfl 38 _ _ rfl (w.heap.size + 3) 0 _ rfl rfl HTh.out infSt7 HOne.out ?_; rw [hwE.out])
  exact bodyPost_ret (ret_fsStat HRg.out HLen.out _ rfl rfl) rfl ⟨rfl, HM6.out⟩
theorem nfResolve (f : Value) (w : World) (H : NoF f w) (u g : Int) (ga : Option Addr) (gn gc : Nat) (um cw : Int) (p : ByteArray) (fo : Bool) : Calls Tryz.prog 4 #[f, .agg #[.int .i64 u, .int .i64 g, .slice ga gn gc, .int .i64 um, .int .i64 cw], .string p, .bool fo] w fun e w' => e = .returned (.tuple #[.int .i64 0, .int .i64 14]) ∧ Mod (fun _ => False) w w' := by
  have hmf : ∀ (fn : Fn) (first cap : Array Value) (w : World), (Instr.makeFunc fn first cap).run Tryz.prog w = .ok (.func fn first cap) w := fun _ _ _ _ => rfl
  have HA : Hid (∀ W, Mod (fun _ => False) w W → ∀ wf wa wc, _) := fun W hM wf wa wc => askNInt f W (H.new hM) u g ga gn gc um cw wf wa wc
  have HM := hid6 (Mod.refl (fun _ => False) w)
  clear H
  go_enter Tryz.func4, Tryz.ntmps4
  go_wp2_with fail
  refine Calls.mono (HA.out _ (by first | exact HM.out.alloc _ | exact (HM.out.alloc _).alloc _ | exact ((HM.out.alloc _).alloc _).alloc _ | exact (((HM.out.alloc _).alloc _).alloc _).alloc _ | exact ((((HM.out.alloc _).alloc _).alloc _).alloc _).alloc _) _ _ _) ?_
  rintro e w1 ⟨rfl, M1⟩
  have HR : Hid (Mod (fun _ => False) w w1) := (by first | exact HM.out.alloc _ | exact (HM.out.alloc _).alloc _ | exact ((HM.out.alloc _).alloc _).alloc _ | exact (((HM.out.alloc _).alloc _).alloc _).alloc _ | exact ((((HM.out.alloc _).alloc _).alloc _).alloc _).alloc _ : Mod (fun _ => False) w _).trans M1
  clear M1
  go_wp2
  go_ret2
  exact ⟨rfl, HR.out⟩
theorem nfReadlink (f : Value) (w : World) (H : NoF f w) (u g : Int) (ga : Option Addr) (gn gc : Nat) (um cw : Int) (p : ByteArray) : Calls Tryz.prog 6 #[f, .agg #[.int .i64 u, .int .i64 g, .slice ga gn gc, .int .i64 um, .int .i64 cw], .string p] w fun e w' => e = .returned (.tuple #[.string ⟨#[]⟩, .int .i64 14]) ∧ Mod (fun _ => False) w w' := by
  have hmf : ∀ (fn : Fn) (first cap : Array Value) (w : World), (Instr.makeFunc fn first cap).run Tryz.prog w = .ok (.func fn first cap) w := fun _ _ _ _ => rfl
  have HA : Hid (∀ W, Mod (fun _ => False) w W → ∀ wf wa wc, _) := fun W hM wf wa wc => askNStr f W (H.new hM) u g ga gn gc um cw wf wa wc
  have HM := hid6 (Mod.refl (fun _ => False) w)
  clear H
  go_enter Tryz.func6, Tryz.ntmps6
  go_wp2_with fail
  refine Calls.mono (HA.out _ (by first | exact HM.out.alloc _ | exact (HM.out.alloc _).alloc _ | exact ((HM.out.alloc _).alloc _).alloc _ | exact (((HM.out.alloc _).alloc _).alloc _).alloc _ | exact ((((HM.out.alloc _).alloc _).alloc _).alloc _).alloc _) _ _ _) ?_
  rintro e w1 ⟨rfl, M1⟩
  have HR : Hid (Mod (fun _ => False) w w1) := (by first | exact HM.out.alloc _ | exact (HM.out.alloc _).alloc _ | exact ((HM.out.alloc _).alloc _).alloc _ | exact (((HM.out.alloc _).alloc _).alloc _).alloc _ | exact ((((HM.out.alloc _).alloc _).alloc _).alloc _).alloc _ : Mod (fun _ => False) w _).trans M1
  clear M1
  go_wp2
  go_ret2
  exact ⟨rfl, HR.out⟩
theorem nfOpen (f : Value) (w : World) (H : NoF f w) (u g : Int) (ga : Option Addr) (gn gc : Nat) (um cw : Int) (p : ByteArray) (h : Int) (m : Int) : Calls Tryz.prog 7 #[f, .agg #[.int .i64 u, .int .i64 g, .slice ga gn gc, .int .i64 um, .int .i64 cw], .string p, .int .i64 h, .int .i64 m] w fun e w' => e = .returned (.tuple #[.int .i64 0, .int .i64 14]) ∧ Mod (fun _ => False) w w' := by
  have hmf : ∀ (fn : Fn) (first cap : Array Value) (w : World), (Instr.makeFunc fn first cap).run Tryz.prog w = .ok (.func fn first cap) w := fun _ _ _ _ => rfl
  have HA : Hid (∀ W, Mod (fun _ => False) w W → ∀ wf wa wc, _) := fun W hM wf wa wc => askNInt f W (H.new hM) u g ga gn gc um cw wf wa wc
  have HM := hid6 (Mod.refl (fun _ => False) w)
  clear H
  go_enter Tryz.func7, Tryz.ntmps7
  go_wp2_with fail
  refine Calls.mono (HA.out _ (by first | exact HM.out.alloc _ | exact (HM.out.alloc _).alloc _ | exact ((HM.out.alloc _).alloc _).alloc _ | exact (((HM.out.alloc _).alloc _).alloc _).alloc _ | exact ((((HM.out.alloc _).alloc _).alloc _).alloc _).alloc _) _ _ _) ?_
  rintro e w1 ⟨rfl, M1⟩
  have HR : Hid (Mod (fun _ => False) w w1) := (by first | exact HM.out.alloc _ | exact (HM.out.alloc _).alloc _ | exact ((HM.out.alloc _).alloc _).alloc _ | exact (((HM.out.alloc _).alloc _).alloc _).alloc _ | exact ((((HM.out.alloc _).alloc _).alloc _).alloc _).alloc _ : Mod (fun _ => False) w _).trans M1
  clear M1
  go_wp2
  go_ret2
  exact ⟨rfl, HR.out⟩
theorem nfDir (f : Value) (w : World) (H : NoF f w) (u g : Int) (ga : Option Addr) (gn gc : Nat) (um cw : Int) (p : ByteArray) : Calls Tryz.prog 8 #[f, .agg #[.int .i64 u, .int .i64 g, .slice ga gn gc, .int .i64 um, .int .i64 cw], .string p] w fun e w' => e = .returned (.tuple #[.int .i64 0, .int .i64 14]) ∧ Mod (fun _ => False) w w' := by
  have hmf : ∀ (fn : Fn) (first cap : Array Value) (w : World), (Instr.makeFunc fn first cap).run Tryz.prog w = .ok (.func fn first cap) w := fun _ _ _ _ => rfl
  have HA : Hid (∀ W, Mod (fun _ => False) w W → ∀ wf wa wc, _) := fun W hM wf wa wc => askNInt f W (H.new hM) u g ga gn gc um cw wf wa wc
  have HM := hid6 (Mod.refl (fun _ => False) w)
  clear H
  go_enter Tryz.func8, Tryz.ntmps8
  go_wp2_with fail
  refine Calls.mono (HA.out _ (by first | exact HM.out.alloc _ | exact (HM.out.alloc _).alloc _ | exact ((HM.out.alloc _).alloc _).alloc _ | exact (((HM.out.alloc _).alloc _).alloc _).alloc _ | exact ((((HM.out.alloc _).alloc _).alloc _).alloc _).alloc _) _ _ _) ?_
  rintro e w1 ⟨rfl, M1⟩
  have HR : Hid (Mod (fun _ => False) w w1) := (by first | exact HM.out.alloc _ | exact (HM.out.alloc _).alloc _ | exact ((HM.out.alloc _).alloc _).alloc _ | exact (((HM.out.alloc _).alloc _).alloc _).alloc _ | exact ((((HM.out.alloc _).alloc _).alloc _).alloc _).alloc _ : Mod (fun _ => False) w _).trans M1
  clear M1
  go_wp2
  go_ret2
  exact ⟨rfl, HR.out⟩
theorem nfAccess (f : Value) (w : World) (H : NoF f w) (u g : Int) (ga : Option Addr) (gn gc : Nat) (um cw : Int) (p : ByteArray) (h : Int) : Calls Tryz.prog 10 #[f, .agg #[.int .i64 u, .int .i64 g, .slice ga gn gc, .int .i64 um, .int .i64 cw], .string p, .int .i64 h] w fun e w' => e = .returned (.int .i64 14) ∧ Mod (fun _ => False) w w' := by
  have hmf : ∀ (fn : Fn) (first cap : Array Value) (w : World), (Instr.makeFunc fn first cap).run Tryz.prog w = .ok (.func fn first cap) w := fun _ _ _ _ => rfl
  have HA : Hid (∀ W, Mod (fun _ => False) w W → ∀ wf wa wc, _) := fun W hM wf wa wc => doN f W (H.new hM) u g ga gn gc um cw wf wa wc
  have HM := hid6 (Mod.refl (fun _ => False) w)
  clear H
  go_enter Tryz.func10, Tryz.ntmps10
  go_wp2_with fail
  refine Calls.mono (HA.out _ (by first | exact HM.out.alloc _ | exact (HM.out.alloc _).alloc _ | exact ((HM.out.alloc _).alloc _).alloc _ | exact (((HM.out.alloc _).alloc _).alloc _).alloc _ | exact ((((HM.out.alloc _).alloc _).alloc _).alloc _).alloc _) _ _ _) ?_
  rintro e w1 ⟨rfl, M1⟩
  have HR : Hid (Mod (fun _ => False) w w1) := (by first | exact HM.out.alloc _ | exact (HM.out.alloc _).alloc _ | exact ((HM.out.alloc _).alloc _).alloc _ | exact (((HM.out.alloc _).alloc _).alloc _).alloc _ | exact ((((HM.out.alloc _).alloc _).alloc _).alloc _).alloc _ : Mod (fun _ => False) w _).trans M1
  clear M1
  go_wp2
  go_ret
  exact ⟨rfl, HR.out⟩
theorem nfMkdir (f : Value) (w : World) (H : NoF f w) (u g : Int) (ga : Option Addr) (gn gc : Nat) (um cw : Int) (p : ByteArray) (m : Int) : Calls Tryz.prog 11 #[f, .agg #[.int .i64 u, .int .i64 g, .slice ga gn gc, .int .i64 um, .int .i64 cw], .string p, .int .i64 m] w fun e w' => e = .returned (.int .i64 14) ∧ Mod (fun _ => False) w w' := by
  have hmf : ∀ (fn : Fn) (first cap : Array Value) (w : World), (Instr.makeFunc fn first cap).run Tryz.prog w = .ok (.func fn first cap) w := fun _ _ _ _ => rfl
  have HA : Hid (∀ W, Mod (fun _ => False) w W → ∀ wf wa wc, _) := fun W hM wf wa wc => doN f W (H.new hM) u g ga gn gc um cw wf wa wc
  have HM := hid6 (Mod.refl (fun _ => False) w)
  clear H
  go_enter Tryz.func11, Tryz.ntmps11
  go_wp2_with fail
  refine Calls.mono (HA.out _ (by first | exact HM.out.alloc _ | exact (HM.out.alloc _).alloc _ | exact ((HM.out.alloc _).alloc _).alloc _ | exact (((HM.out.alloc _).alloc _).alloc _).alloc _ | exact ((((HM.out.alloc _).alloc _).alloc _).alloc _).alloc _) _ _ _) ?_
  rintro e w1 ⟨rfl, M1⟩
  have HR : Hid (Mod (fun _ => False) w w1) := (by first | exact HM.out.alloc _ | exact (HM.out.alloc _).alloc _ | exact ((HM.out.alloc _).alloc _).alloc _ | exact (((HM.out.alloc _).alloc _).alloc _).alloc _ | exact ((((HM.out.alloc _).alloc _).alloc _).alloc _).alloc _ : Mod (fun _ => False) w _).trans M1
  clear M1
  go_wp2
  go_ret
  exact ⟨rfl, HR.out⟩
theorem nfRmdir (f : Value) (w : World) (H : NoF f w) (u g : Int) (ga : Option Addr) (gn gc : Nat) (um cw : Int) (p : ByteArray) : Calls Tryz.prog 12 #[f, .agg #[.int .i64 u, .int .i64 g, .slice ga gn gc, .int .i64 um, .int .i64 cw], .string p] w fun e w' => e = .returned (.int .i64 14) ∧ Mod (fun _ => False) w w' := by
  have hmf : ∀ (fn : Fn) (first cap : Array Value) (w : World), (Instr.makeFunc fn first cap).run Tryz.prog w = .ok (.func fn first cap) w := fun _ _ _ _ => rfl
  have HA : Hid (∀ W, Mod (fun _ => False) w W → ∀ wf wa wc, _) := fun W hM wf wa wc => doN f W (H.new hM) u g ga gn gc um cw wf wa wc
  have HM := hid6 (Mod.refl (fun _ => False) w)
  clear H
  go_enter Tryz.func12, Tryz.ntmps12
  go_wp2_with fail
  refine Calls.mono (HA.out _ (by first | exact HM.out.alloc _ | exact (HM.out.alloc _).alloc _ | exact ((HM.out.alloc _).alloc _).alloc _ | exact (((HM.out.alloc _).alloc _).alloc _).alloc _ | exact ((((HM.out.alloc _).alloc _).alloc _).alloc _).alloc _) _ _ _) ?_
  rintro e w1 ⟨rfl, M1⟩
  have HR : Hid (Mod (fun _ => False) w w1) := (by first | exact HM.out.alloc _ | exact (HM.out.alloc _).alloc _ | exact ((HM.out.alloc _).alloc _).alloc _ | exact (((HM.out.alloc _).alloc _).alloc _).alloc _ | exact ((((HM.out.alloc _).alloc _).alloc _).alloc _).alloc _ : Mod (fun _ => False) w _).trans M1
  clear M1
  go_wp2
  go_ret
  exact ⟨rfl, HR.out⟩
theorem nfSymlink (f : Value) (w : World) (H : NoF f w) (u g : Int) (ga : Option Addr) (gn gc : Nat) (um cw : Int) (q : ByteArray) (p : ByteArray) : Calls Tryz.prog 13 #[f, .agg #[.int .i64 u, .int .i64 g, .slice ga gn gc, .int .i64 um, .int .i64 cw], .string q, .string p] w fun e w' => e = .returned (.int .i64 14) ∧ Mod (fun _ => False) w w' := by
  have hmf : ∀ (fn : Fn) (first cap : Array Value) (w : World), (Instr.makeFunc fn first cap).run Tryz.prog w = .ok (.func fn first cap) w := fun _ _ _ _ => rfl
  have HA : Hid (∀ W, Mod (fun _ => False) w W → ∀ wf wa wc, _) := fun W hM wf wa wc => doN f W (H.new hM) u g ga gn gc um cw wf wa wc
  have HM := hid6 (Mod.refl (fun _ => False) w)
  clear H
  go_enter Tryz.func13, Tryz.ntmps13
  go_wp2_with fail
  refine Calls.mono (HA.out _ (by first | exact HM.out.alloc _ | exact (HM.out.alloc _).alloc _ | exact ((HM.out.alloc _).alloc _).alloc _ | exact (((HM.out.alloc _).alloc _).alloc _).alloc _ | exact ((((HM.out.alloc _).alloc _).alloc _).alloc _).alloc _) _ _ _) ?_
  rintro e w1 ⟨rfl, M1⟩
  have HR : Hid (Mod (fun _ => False) w w1) := (by first | exact HM.out.alloc _ | exact (HM.out.alloc _).alloc _ | exact ((HM.out.alloc _).alloc _).alloc _ | exact (((HM.out.alloc _).alloc _).alloc _).alloc _ | exact ((((HM.out.alloc _).alloc _).alloc _).alloc _).alloc _ : Mod (fun _ => False) w _).trans M1
  clear M1
  go_wp2
  go_ret
  exact ⟨rfl, HR.out⟩
theorem nfLink (f : Value) (w : World) (H : NoF f w) (u g : Int) (ga : Option Addr) (gn gc : Nat) (um cw : Int) (q : ByteArray) (p : ByteArray) : Calls Tryz.prog 14 #[f, .agg #[.int .i64 u, .int .i64 g, .slice ga gn gc, .int .i64 um, .int .i64 cw], .string q, .string p] w fun e w' => e = .returned (.int .i64 14) ∧ Mod (fun _ => False) w w' := by
  have hmf : ∀ (fn : Fn) (first cap : Array Value) (w : World), (Instr.makeFunc fn first cap).run Tryz.prog w = .ok (.func fn first cap) w := fun _ _ _ _ => rfl
  have HA : Hid (∀ W, Mod (fun _ => False) w W → ∀ wf wa wc, _) := fun W hM wf wa wc => doN f W (H.new hM) u g ga gn gc um cw wf wa wc
  have HM := hid6 (Mod.refl (fun _ => False) w)
  clear H
  go_enter Tryz.func14, Tryz.ntmps14
  go_wp2_with fail
  refine Calls.mono (HA.out _ (by first | exact HM.out.alloc _ | exact (HM.out.alloc _).alloc _ | exact ((HM.out.alloc _).alloc _).alloc _ | exact (((HM.out.alloc _).alloc _).alloc _).alloc _ | exact ((((HM.out.alloc _).alloc _).alloc _).alloc _).alloc _) _ _ _) ?_
  rintro e w1 ⟨rfl, M1⟩
  have HR : Hid (Mod (fun _ => False) w w1) := (by first | exact HM.out.alloc _ | exact (HM.out.alloc _).alloc _ | exact ((HM.out.alloc _).alloc _).alloc _ | exact (((HM.out.alloc _).alloc _).alloc _).alloc _ | exact ((((HM.out.alloc _).alloc _).alloc _).alloc _).alloc _ : Mod (fun _ => False) w _).trans M1
  clear M1
  go_wp2
  go_ret
  exact ⟨rfl, HR.out⟩
theorem nfUnlink (f : Value) (w : World) (H : NoF f w) (u g : Int) (ga : Option Addr) (gn gc : Nat) (um cw : Int) (p : ByteArray) : Calls Tryz.prog 15 #[f, .agg #[.int .i64 u, .int .i64 g, .slice ga gn gc, .int .i64 um, .int .i64 cw], .string p] w fun e w' => e = .returned (.int .i64 14) ∧ Mod (fun _ => False) w w' := by
  have hmf : ∀ (fn : Fn) (first cap : Array Value) (w : World), (Instr.makeFunc fn first cap).run Tryz.prog w = .ok (.func fn first cap) w := fun _ _ _ _ => rfl
  have HA : Hid (∀ W, Mod (fun _ => False) w W → ∀ wf wa wc, _) := fun W hM wf wa wc => doN f W (H.new hM) u g ga gn gc um cw wf wa wc
  have HM := hid6 (Mod.refl (fun _ => False) w)
  clear H
  go_enter Tryz.func15, Tryz.ntmps15
  go_wp2_with fail
  refine Calls.mono (HA.out _ (by first | exact HM.out.alloc _ | exact (HM.out.alloc _).alloc _ | exact ((HM.out.alloc _).alloc _).alloc _ | exact (((HM.out.alloc _).alloc _).alloc _).alloc _ | exact ((((HM.out.alloc _).alloc _).alloc _).alloc _).alloc _) _ _ _) ?_
  rintro e w1 ⟨rfl, M1⟩
  have HR : Hid (Mod (fun _ => False) w w1) := (by first | exact HM.out.alloc _ | exact (HM.out.alloc _).alloc _ | exact ((HM.out.alloc _).alloc _).alloc _ | exact (((HM.out.alloc _).alloc _).alloc _).alloc _ | exact ((((HM.out.alloc _).alloc _).alloc _).alloc _).alloc _ : Mod (fun _ => False) w _).trans M1
  clear M1
  go_wp2
  go_ret
  exact ⟨rfl, HR.out⟩
theorem nfRename (f : Value) (w : World) (H : NoF f w) (u g : Int) (ga : Option Addr) (gn gc : Nat) (um cw : Int) (q : ByteArray) (p : ByteArray) : Calls Tryz.prog 16 #[f, .agg #[.int .i64 u, .int .i64 g, .slice ga gn gc, .int .i64 um, .int .i64 cw], .string q, .string p] w fun e w' => e = .returned (.int .i64 14) ∧ Mod (fun _ => False) w w' := by
  have hmf : ∀ (fn : Fn) (first cap : Array Value) (w : World), (Instr.makeFunc fn first cap).run Tryz.prog w = .ok (.func fn first cap) w := fun _ _ _ _ => rfl
  have HA : Hid (∀ W, Mod (fun _ => False) w W → ∀ wf wa wc, _) := fun W hM wf wa wc => doN f W (H.new hM) u g ga gn gc um cw wf wa wc
  have HM := hid6 (Mod.refl (fun _ => False) w)
  clear H
  go_enter Tryz.func16, Tryz.ntmps16
  go_wp2_with fail
  refine Calls.mono (HA.out _ (by first | exact HM.out.alloc _ | exact (HM.out.alloc _).alloc _ | exact ((HM.out.alloc _).alloc _).alloc _ | exact (((HM.out.alloc _).alloc _).alloc _).alloc _ | exact ((((HM.out.alloc _).alloc _).alloc _).alloc _).alloc _) _ _ _) ?_
  rintro e w1 ⟨rfl, M1⟩
  have HR : Hid (Mod (fun _ => False) w w1) := (by first | exact HM.out.alloc _ | exact (HM.out.alloc _).alloc _ | exact ((HM.out.alloc _).alloc _).alloc _ | exact (((HM.out.alloc _).alloc _).alloc _).alloc _ | exact ((((HM.out.alloc _).alloc _).alloc _).alloc _).alloc _ : Mod (fun _ => False) w _).trans M1
  clear M1
  go_wp2
  go_ret
  exact ⟨rfl, HR.out⟩
theorem nfChmod (f : Value) (w : World) (H : NoF f w) (u g : Int) (ga : Option Addr) (gn gc : Nat) (um cw : Int) (p : ByteArray) (m : Int) : Calls Tryz.prog 17 #[f, .agg #[.int .i64 u, .int .i64 g, .slice ga gn gc, .int .i64 um, .int .i64 cw], .string p, .int .i64 m] w fun e w' => e = .returned (.int .i64 14) ∧ Mod (fun _ => False) w w' := by
  have hmf : ∀ (fn : Fn) (first cap : Array Value) (w : World), (Instr.makeFunc fn first cap).run Tryz.prog w = .ok (.func fn first cap) w := fun _ _ _ _ => rfl
  have HA : Hid (∀ W, Mod (fun _ => False) w W → ∀ wf wa wc, _) := fun W hM wf wa wc => doN f W (H.new hM) u g ga gn gc um cw wf wa wc
  have HM := hid6 (Mod.refl (fun _ => False) w)
  clear H
  go_enter Tryz.func17, Tryz.ntmps17
  go_wp2_with fail
  refine Calls.mono (HA.out _ (by first | exact HM.out.alloc _ | exact (HM.out.alloc _).alloc _ | exact ((HM.out.alloc _).alloc _).alloc _ | exact (((HM.out.alloc _).alloc _).alloc _).alloc _ | exact ((((HM.out.alloc _).alloc _).alloc _).alloc _).alloc _) _ _ _) ?_
  rintro e w1 ⟨rfl, M1⟩
  have HR : Hid (Mod (fun _ => False) w w1) := (by first | exact HM.out.alloc _ | exact (HM.out.alloc _).alloc _ | exact ((HM.out.alloc _).alloc _).alloc _ | exact (((HM.out.alloc _).alloc _).alloc _).alloc _ | exact ((((HM.out.alloc _).alloc _).alloc _).alloc _).alloc _ : Mod (fun _ => False) w _).trans M1
  clear M1
  go_wp2
  go_ret
  exact ⟨rfl, HR.out⟩
theorem nfChown (f : Value) (w : World) (H : NoF f w) (u g : Int) (ga : Option Addr) (gn gc : Nat) (um cw : Int) (p : ByteArray) (x : Int) (y : Int) (fo : Bool) : Calls Tryz.prog 18 #[f, .agg #[.int .i64 u, .int .i64 g, .slice ga gn gc, .int .i64 um, .int .i64 cw], .string p, .int .i64 x, .int .i64 y, .bool fo] w fun e w' => e = .returned (.int .i64 14) ∧ Mod (fun _ => False) w w' := by
  have hmf : ∀ (fn : Fn) (first cap : Array Value) (w : World), (Instr.makeFunc fn first cap).run Tryz.prog w = .ok (.func fn first cap) w := fun _ _ _ _ => rfl
  have HA : Hid (∀ W, Mod (fun _ => False) w W → ∀ wf wa wc, _) := fun W hM wf wa wc => doN f W (H.new hM) u g ga gn gc um cw wf wa wc
  have HM := hid6 (Mod.refl (fun _ => False) w)
  clear H
  go_enter Tryz.func18, Tryz.ntmps18
  go_wp2_with fail
  refine Calls.mono (HA.out _ (by first | exact HM.out.alloc _ | exact (HM.out.alloc _).alloc _ | exact ((HM.out.alloc _).alloc _).alloc _ | exact (((HM.out.alloc _).alloc _).alloc _).alloc _ | exact ((((HM.out.alloc _).alloc _).alloc _).alloc _).alloc _) _ _ _) ?_
  rintro e w1 ⟨rfl, M1⟩
  have HR : Hid (Mod (fun _ => False) w w1) := (by first | exact HM.out.alloc _ | exact (HM.out.alloc _).alloc _ | exact ((HM.out.alloc _).alloc _).alloc _ | exact (((HM.out.alloc _).alloc _).alloc _).alloc _ | exact ((((HM.out.alloc _).alloc _).alloc _).alloc _).alloc _ : Mod (fun _ => False) w _).trans M1
  clear M1
  go_wp2
  go_ret
  exact ⟨rfl, HR.out⟩
theorem nfUtime (f : Value) (w : World) (H : NoF f w) (u g : Int) (ga : Option Addr) (gn gc : Nat) (um cw : Int) (p : ByteArray) (x : Int) (y : Int) (fo : Bool) : Calls Tryz.prog 19 #[f, .agg #[.int .i64 u, .int .i64 g, .slice ga gn gc, .int .i64 um, .int .i64 cw], .string p, .int .i64 x, .int .i64 y, .bool fo] w fun e w' => e = .returned (.int .i64 14) ∧ Mod (fun _ => False) w w' := by
  have hmf : ∀ (fn : Fn) (first cap : Array Value) (w : World), (Instr.makeFunc fn first cap).run Tryz.prog w = .ok (.func fn first cap) w := fun _ _ _ _ => rfl
  have HA : Hid (∀ W, Mod (fun _ => False) w W → ∀ wf wa wc, _) := fun W hM wf wa wc => doN f W (H.new hM) u g ga gn gc um cw wf wa wc
  have HM := hid6 (Mod.refl (fun _ => False) w)
  clear H
  go_enter Tryz.func19, Tryz.ntmps19
  go_wp2_with fail
  refine Calls.mono (HA.out _ (by first | exact HM.out.alloc _ | exact (HM.out.alloc _).alloc _ | exact ((HM.out.alloc _).alloc _).alloc _ | exact (((HM.out.alloc _).alloc _).alloc _).alloc _ | exact ((((HM.out.alloc _).alloc _).alloc _).alloc _).alloc _) _ _ _) ?_
  rintro e w1 ⟨rfl, M1⟩
  have HR : Hid (Mod (fun _ => False) w w1) := (by first | exact HM.out.alloc _ | exact (HM.out.alloc _).alloc _ | exact ((HM.out.alloc _).alloc _).alloc _ | exact (((HM.out.alloc _).alloc _).alloc _).alloc _ | exact ((((HM.out.alloc _).alloc _).alloc _).alloc _).alloc _ : Mod (fun _ => False) w _).trans M1
  clear M1
  go_wp2
  go_ret
  exact ⟨rfl, HR.out⟩
theorem nfTruncate (f : Value) (w : World) (H : NoF f w) (u g : Int) (ga : Option Addr) (gn gc : Nat) (um cw : Int) (p : ByteArray) (x : Int) : Calls Tryz.prog 20 #[f, .agg #[.int .i64 u, .int .i64 g, .slice ga gn gc, .int .i64 um, .int .i64 cw], .string p, .int .i64 x] w fun e w' => e = .returned (.int .i64 14) ∧ Mod (fun _ => False) w w' := by
  have hmf : ∀ (fn : Fn) (first cap : Array Value) (w : World), (Instr.makeFunc fn first cap).run Tryz.prog w = .ok (.func fn first cap) w := fun _ _ _ _ => rfl
  have HA : Hid (∀ W, Mod (fun _ => False) w W → ∀ wf wa wc, _) := fun W hM wf wa wc => doN f W (H.new hM) u g ga gn gc um cw wf wa wc
  have HM := hid6 (Mod.refl (fun _ => False) w)
  clear H
  go_enter Tryz.func20, Tryz.ntmps20
  go_wp2_with fail
  refine Calls.mono (HA.out _ (by first | exact HM.out.alloc _ | exact (HM.out.alloc _).alloc _ | exact ((HM.out.alloc _).alloc _).alloc _ | exact (((HM.out.alloc _).alloc _).alloc _).alloc _ | exact ((((HM.out.alloc _).alloc _).alloc _).alloc _).alloc _) _ _ _) ?_
  rintro e w1 ⟨rfl, M1⟩
  have HR : Hid (Mod (fun _ => False) w w1) := (by first | exact HM.out.alloc _ | exact (HM.out.alloc _).alloc _ | exact ((HM.out.alloc _).alloc _).alloc _ | exact (((HM.out.alloc _).alloc _).alloc _).alloc _ | exact ((((HM.out.alloc _).alloc _).alloc _).alloc _).alloc _ : Mod (fun _ => False) w _).trans M1
  clear M1
  go_wp2
  go_ret
  exact ⟨rfl, HR.out⟩
theorem nfResize (f : Value) (w : World) (H : NoF f w) (x : Int) (y : Int) : Calls Tryz.prog 23 #[f, .int .i64 x, .int .i64 y] w fun e w' => e = .returned (.int .i64 14) ∧ Mod (fun _ => False) w w' := by
  have hmf : ∀ (fn : Fn) (first cap : Array Value) (w : World), (Instr.makeFunc fn first cap).run Tryz.prog w = .ok (.func fn first cap) w := fun _ _ _ _ => rfl
  have HA : Hid (∀ W, Mod (fun _ => False) w W → ∀ wf wa wc, _) := fun W hM wf wa wc => doN f W (H.new hM) 0 0 none 0 0 0 0 wf wa wc
  have HM := hid6 (Mod.refl (fun _ => False) w)
  clear H
  go_enter Tryz.func23, Tryz.ntmps23
  go_wp2_with fail
  refine Calls.mono (HA.out _ (by first | exact HM.out.alloc _ | exact (HM.out.alloc _).alloc _ | exact ((HM.out.alloc _).alloc _).alloc _ | exact (((HM.out.alloc _).alloc _).alloc _).alloc _ | exact ((((HM.out.alloc _).alloc _).alloc _).alloc _).alloc _) _ _ _) ?_
  rintro e w1 ⟨rfl, M1⟩
  have HR : Hid (Mod (fun _ => False) w w1) := (by first | exact HM.out.alloc _ | exact (HM.out.alloc _).alloc _ | exact ((HM.out.alloc _).alloc _).alloc _ | exact (((HM.out.alloc _).alloc _).alloc _).alloc _ | exact ((((HM.out.alloc _).alloc _).alloc _).alloc _).alloc _ : Mod (fun _ => False) w _).trans M1
  clear M1
  go_wp2
  go_ret
  exact ⟨rfl, HR.out⟩
theorem nfReadAt (f : Value) (w : World) (H : NoF f w) (x : Int) (y : Int) (n : Int) : Calls Tryz.prog 24 #[f, .int .i64 x, .int .i64 y, .int .i64 n] w fun e w' => e = .returned (.tuple #[.slice none 0 0, .int .i64 14]) ∧ Mod (fun _ => False) w w' := by
  have hmf : ∀ (fn : Fn) (first cap : Array Value) (w : World), (Instr.makeFunc fn first cap).run Tryz.prog w = .ok (.func fn first cap) w := fun _ _ _ _ => rfl
  have HA : Hid (∀ W, Mod (fun _ => False) w W → ∀ wf wa wc, _) := fun W hM wf wa wc => askNBytes f W (H.new hM) 0 0 none 0 0 0 0 wf wa wc
  have HM := hid6 (Mod.refl (fun _ => False) w)
  clear H
  go_enter Tryz.func24, Tryz.ntmps24
  go_wp2_with fail
  refine Calls.mono (HA.out _ (by first | exact HM.out.alloc _ | exact (HM.out.alloc _).alloc _ | exact ((HM.out.alloc _).alloc _).alloc _ | exact (((HM.out.alloc _).alloc _).alloc _).alloc _ | exact ((((HM.out.alloc _).alloc _).alloc _).alloc _).alloc _) _ _ _) ?_
  rintro e w1 ⟨rfl, M1⟩
  have HR : Hid (Mod (fun _ => False) w w1) := (by first | exact HM.out.alloc _ | exact (HM.out.alloc _).alloc _ | exact ((HM.out.alloc _).alloc _).alloc _ | exact (((HM.out.alloc _).alloc _).alloc _).alloc _ | exact ((((HM.out.alloc _).alloc _).alloc _).alloc _).alloc _ : Mod (fun _ => False) w _).trans M1
  clear M1
  go_wp2
  go_ret2
  exact ⟨rfl, HR.out⟩
theorem nfWriteAt (f : Value) (w : World) (H : NoF f w) (x : Int) (y : Int) (d : Option Addr) (dn dc : Nat) : Calls Tryz.prog 25 #[f, .int .i64 x, .int .i64 y, .slice d dn dc] w fun e w' => e = .returned (.tuple #[.int .i64 0, .int .i64 14]) ∧ Mod (fun _ => False) w w' := by
  have hmf : ∀ (fn : Fn) (first cap : Array Value) (w : World), (Instr.makeFunc fn first cap).run Tryz.prog w = .ok (.func fn first cap) w := fun _ _ _ _ => rfl
  have HA : Hid (∀ W, Mod (fun _ => False) w W → ∀ wf wa wc, _) := fun W hM wf wa wc => askNInt f W (H.new hM) 0 0 none 0 0 0 0 wf wa wc
  have HM := hid6 (Mod.refl (fun _ => False) w)
  clear H
  go_enter Tryz.func25, Tryz.ntmps25
  go_wp2_with fail
  refine Calls.mono (HA.out _ (by first | exact HM.out.alloc _ | exact (HM.out.alloc _).alloc _ | exact ((HM.out.alloc _).alloc _).alloc _ | exact (((HM.out.alloc _).alloc _).alloc _).alloc _ | exact ((((HM.out.alloc _).alloc _).alloc _).alloc _).alloc _) _ _ _) ?_
  rintro e w1 ⟨rfl, M1⟩
  have HR : Hid (Mod (fun _ => False) w w1) := (by first | exact HM.out.alloc _ | exact (HM.out.alloc _).alloc _ | exact ((HM.out.alloc _).alloc _).alloc _ | exact (((HM.out.alloc _).alloc _).alloc _).alloc _ | exact ((((HM.out.alloc _).alloc _).alloc _).alloc _).alloc _ : Mod (fun _ => False) w _).trans M1
  clear M1
  go_wp2
  go_ret2
  exact ⟨rfl, HR.out⟩
theorem nfPath (f : Value) (w : World) (H : NoF f w) (x : Int) : Calls Tryz.prog 28 #[f, .int .i64 x] w fun e w' => e = .returned (.tuple #[.string ⟨#[]⟩, .int .i64 14]) ∧ Mod (fun _ => False) w w' := by
  have hmf : ∀ (fn : Fn) (first cap : Array Value) (w : World), (Instr.makeFunc fn first cap).run Tryz.prog w = .ok (.func fn first cap) w := fun _ _ _ _ => rfl
  have HA : Hid (∀ W, Mod (fun _ => False) w W → ∀ wf wa wc, _) := fun W hM wf wa wc => askNStr f W (H.new hM) 0 0 none 0 0 0 0 wf wa wc
  have HM := hid6 (Mod.refl (fun _ => False) w)
  clear H
  go_enter Tryz.func28, Tryz.ntmps28
  go_wp2_with fail
  refine Calls.mono (HA.out _ (by first | exact HM.out.alloc _ | exact (HM.out.alloc _).alloc _ | exact ((HM.out.alloc _).alloc _).alloc _ | exact (((HM.out.alloc _).alloc _).alloc _).alloc _ | exact ((((HM.out.alloc _).alloc _).alloc _).alloc _).alloc _) _ _ _) ?_
  rintro e w1 ⟨rfl, M1⟩
  have HR : Hid (Mod (fun _ => False) w w1) := (by first | exact HM.out.alloc _ | exact (HM.out.alloc _).alloc _ | exact ((HM.out.alloc _).alloc _).alloc _ | exact (((HM.out.alloc _).alloc _).alloc _).alloc _ | exact ((((HM.out.alloc _).alloc _).alloc _).alloc _).alloc _ : Mod (fun _ => False) w _).trans M1
  clear M1
  go_wp2
  go_ret2
  exact ⟨rfl, HR.out⟩
end Go.Proofs.YtpohjgnfndgniaaGreatDoor
