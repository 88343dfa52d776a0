/- Several texts of this claim, one behind the other, in their order. -/
import Derived.Test.YtgkkbplecfhmdaaGreatDoorM25
import Derived.Test.YtgkkbplecfhmdaaGreatDoorM4
import Derived.Test.YtgkkbplecfhmdaaGreatDoorM10
/- A file system that no call made, asked by a process that no call made. -/
namespace Go.Proofs.YtgkkbplecfhmdaaGreatDoor
open Go.RowKit
theorem tTableNil (w : World) : Calls Tryz.prog 83 #[.pointer none] w fun e w' => e = .returned (.pointer none) ∧ w' = w := by
  go_enter Tryz.func83, Tryz.ntmps83
  go_wp2
  go_ret
  exact ⟨rfl, rfl⟩
set_option maxRecDepth 100000 in
theorem askNStat (w : World) (fn : Fn) (caps : Array Value) : Calls Tryz.prog 57 #[.pointer none, crZ, .func fn #[] caps] w fun e w' => e = .returned (.tuple #[.agg #[.int .i64 0, .int .i64 0, .int .i64 0, .int .i64 0, .int .i64 0, .int .i64 0, .int .i64 0, .int .i64 0, .int .i64 0, .int .i64 0], .int .i64 14]) ∧ Mod (fun _ => False) w w' := by
  have HT : Hid (∀ W, _) := fun W => tTableNil W
  have HM : Hid (∀ o o1 o2, Mod (fun _ => False) w (((w.alloc o).alloc o1).alloc o2) ∧ Mod (fun _ => False) w ((w.alloc o).alloc o1)) := fun o o1 o2 => ⟨(((Mod.refl _ w).alloc o).alloc o1).alloc o2, ((Mod.refl _ w).alloc o).alloc o1⟩
  unfold crZ
  go_enter Tryz.func57, Tryz.ntmps57
  go_wp2_with (first | (go_at_call 83; refine Calls.mono (HT.out _) ?_; rintro e w3 ⟨rfl, hw3⟩; rw [hw3]; clear hw3 w3))
  refine ⟨rfl, _, by simp [results, Tryz.results57, go_sem], rfl, ?_⟩
  first | exact (HM.out _ _ _).1 | exact (HM.out _ _ (.cells #[] 0)).2
set_option maxRecDepth 100000 in
theorem askNStr (w : World) (fn : Fn) (caps : Array Value) : Calls Tryz.prog 60 #[.pointer none, crZ, .func fn #[] caps] w fun e w' => e = .returned (.tuple #[.string ⟨#[]⟩, .int .i64 14]) ∧ Mod (fun _ => False) w w' := by
  have HT : Hid (∀ W, _) := fun W => tTableNil W
  have HM : Hid (∀ o o1 o2, Mod (fun _ => False) w (((w.alloc o).alloc o1).alloc o2) ∧ Mod (fun _ => False) w ((w.alloc o).alloc o1)) := fun o o1 o2 => ⟨(((Mod.refl _ w).alloc o).alloc o1).alloc o2, ((Mod.refl _ w).alloc o).alloc o1⟩
  unfold crZ
  go_enter Tryz.func60, Tryz.ntmps60
  go_wp2_with (first | (go_at_call 83; refine Calls.mono (HT.out _) ?_; rintro e w3 ⟨rfl, hw3⟩; rw [hw3]; clear hw3 w3))
  refine ⟨rfl, _, by simp [results, Tryz.results60, go_sem], rfl, ?_⟩
  first | exact (HM.out _ _ _).1 | exact (HM.out _ _ (.cells #[] 0)).2
set_option maxRecDepth 100000 in
theorem askNBool (w : World) (fn : Fn) (caps : Array Value) : Calls Tryz.prog 119 #[.pointer none, crZ, .func fn #[] caps] w fun e w' => e = .returned (.tuple #[.bool false, .int .i64 14]) ∧ Mod (fun _ => False) w w' := by
  have HT : Hid (∀ W, _) := fun W => tTableNil W
  have HM : Hid (∀ o o1 o2, Mod (fun _ => False) w (((w.alloc o).alloc o1).alloc o2) ∧ Mod (fun _ => False) w ((w.alloc o).alloc o1)) := fun o o1 o2 => ⟨(((Mod.refl _ w).alloc o).alloc o1).alloc o2, ((Mod.refl _ w).alloc o).alloc o1⟩
  unfold crZ
  go_enter Tryz.func119, Tryz.ntmps119
  go_wp2_with (first | (go_at_call 83; refine Calls.mono (HT.out _) ?_; rintro e w3 ⟨rfl, hw3⟩; rw [hw3]; clear hw3 w3))
  refine ⟨rfl, _, by simp [results, Tryz.results119, go_sem], rfl, ?_⟩
  first | exact (HM.out _ _ _).1 | exact (HM.out _ _ (.cells #[] 0)).2
set_option maxRecDepth 100000 in
theorem doN (w : World) (fn : Fn) (caps : Array Value) : Calls Tryz.prog 69 #[.pointer none, crZ, .func fn #[] caps] w fun e w' => e = .returned (.int .i64 14) ∧ Mod (fun _ => False) w w' := by
  have hmf : ∀ (fn : Fn) (first cap : Array Value) (w : World), (Instr.makeFunc fn first cap).run Tryz.prog w = .ok (.func fn first cap) w := fun _ _ _ _ => rfl
  have HA : Hid (∀ W f c, _) := fun W f c => askNBool W f c
  have HM : Hid (∀ o o1, Mod (fun _ => False) w ((w.alloc o).alloc o1)) := fun o o1 => ((Mod.refl _ w).alloc o).alloc o1
  unfold crZ at *
  go_enter Tryz.func69, Tryz.ntmps69
  go_wp2_with fail
  refine Calls.mono (HA.out _ _ _) ?_
  rintro e w1 ⟨rfl, M1⟩
  have HM1 := hid6 ((HM.out _ _).trans M1)
  clear M1
  go_wp2
  go_ret
  exact ⟨rfl, HM1.out⟩
set_option maxRecDepth 100000 in
theorem fsNMkdir (w : World) (l : ByteArray) (m : Int) : Calls Tryz.prog 32 #[.pointer none, crZ, .string l, .int .i64 m] w fun e w' => e = .returned (.int .i64 14) ∧ Mod (fun _ => False) w w' := by
  have hmf : ∀ (fn : Fn) (first cap : Array Value) (w : World), (Instr.makeFunc fn first cap).run Tryz.prog w = .ok (.func fn first cap) w := fun _ _ _ _ => rfl
  have HA : Hid (∀ W f c, _) := fun W f c => doN W f c
  have HM : Hid (∀ o0 o1 o2, Mod (fun _ => False) w (((w.alloc o0).alloc o1).alloc o2)) := fun o0 o1 o2 => ((((Mod.refl _ w).alloc o0).alloc o1).alloc o2)
  unfold crZ at *
  go_enter Tryz.func32, Tryz.ntmps32
  go_wp2_with fail
  refine Calls.mono (HA.out _ _ _) ?_
  rintro e w1 ⟨rfl, M1⟩
  have HM1 := hid6 ((HM.out _ _ _).trans M1)
  clear M1
  go_wp2
  go_ret
  exact ⟨rfl, HM1.out⟩
set_option maxRecDepth 100000 in
theorem fsNRename (w : World) (l k : ByteArray) : Calls Tryz.prog 33 #[.pointer none, crZ, .string l, .string k] w fun e w' => e = .returned (.int .i64 14) ∧ Mod (fun _ => False) w w' := by
  have hmf : ∀ (fn : Fn) (first cap : Array Value) (w : World), (Instr.makeFunc fn first cap).run Tryz.prog w = .ok (.func fn first cap) w := fun _ _ _ _ => rfl
  have HA : Hid (∀ W f c, _) := fun W f c => doN W f c
  have HM : Hid (∀ o0 o1 o2, Mod (fun _ => False) w (((w.alloc o0).alloc o1).alloc o2)) := fun o0 o1 o2 => ((((Mod.refl _ w).alloc o0).alloc o1).alloc o2)
  unfold crZ at *
  go_enter Tryz.func33, Tryz.ntmps33
  go_wp2_with fail
  refine Calls.mono (HA.out _ _ _) ?_
  rintro e w1 ⟨rfl, M1⟩
  have HM1 := hid6 ((HM.out _ _ _).trans M1)
  clear M1
  go_wp2
  go_ret
  exact ⟨rfl, HM1.out⟩
set_option maxRecDepth 100000 in
theorem fsNPath (w : World) (i : Int) : Calls Tryz.prog 28 #[.pointer none, .int .i64 i] w fun e w' => e = .returned (.tuple #[.string ⟨#[]⟩, .int .i64 14]) ∧ Mod (fun _ => False) w w' := by
  have hmf : ∀ (fn : Fn) (first cap : Array Value) (w : World), (Instr.makeFunc fn first cap).run Tryz.prog w = .ok (.func fn first cap) w := fun _ _ _ _ => rfl
  have HA : Hid (∀ W f c, _) := fun W f c => askNStr W f c
  have HM : Hid (∀ o0, Mod (fun _ => False) w (w.alloc o0)) := fun o0 => ((Mod.refl _ w).alloc o0)
  unfold crZ at *
  go_enter Tryz.func28, Tryz.ntmps28
  go_wp2_with fail
  refine Calls.mono (HA.out _ _ _) ?_
  rintro e w1 ⟨rfl, M1⟩
  have HM1 := hid6 ((HM.out _).trans M1)
  clear M1
  go_wp2
  go_ret2
  exact ⟨rfl, HM1.out⟩
set_option maxRecDepth 100000 in
theorem fsNStat (w : World) (l : ByteArray) : Calls Tryz.prog 26 #[.pointer none, crZ, .string l, .bool true] w fun e w' => e = .returned (.tuple #[.agg #[.int .i64 0, .int .i64 0, .int .i64 0, .int .i64 0, .int .i64 0, .int .i64 0, .int .i64 0, .int .i64 0, .int .i64 0, .int .i64 0], .int .i64 14]) ∧ Mod (fun _ => False) w w' := by
  have hmf : ∀ (fn : Fn) (first cap : Array Value) (w : World), (Instr.makeFunc fn first cap).run Tryz.prog w = .ok (.func fn first cap) w := fun _ _ _ _ => rfl
  have HA : Hid (∀ W f c, _) := fun W f c => askNStat W f c
  have HM : Hid (∀ o0 o1 o2 o3, Mod (fun _ => False) w ((((w.alloc o0).alloc o1).alloc o2).alloc o3)) := fun o0 o1 o2 o3 => (((((Mod.refl _ w).alloc o0).alloc o1).alloc o2).alloc o3)
  unfold crZ at *
  go_enter Tryz.func26, Tryz.ntmps26
  go_wp2_with fail
  refine Calls.mono (HA.out _ _ _) ?_
  rintro e w1 ⟨rfl, M1⟩
  have HM1 := hid6 ((HM.out _ _ _ _).trans M1)
  have hcl := fun (p : Addr) (hp : p.block < _) => M1.cell (p := p) hp (fun e => e)
  have hfz := fun (p : Addr) (hp : p.block < _) => M1.frozen (p := p) hp (fun e => e)
  clear M1
  go_wp2
  refine ⟨rfl, _, by simp [results, Tryz.results26, go_sem, hcl], rfl, HM1.out.new6 (Mod.ten (s := fun x => x = w.heap.size + 1 + 1 + 1) w1 _ rfl _ _ _ _ _ _ _ _ _ _) (fun x e => by omega)⟩
section
variable {p : Option Addr} {w : World}
set_option maxRecDepth 100000 in
theorem nStat (h : NoP p w) (l : ByteArray) : Calls Tryz.prog 8 #[.pointer p, .string l] w fun e w' => e = .returned (.tuple #[.agg #[.int .i64 0, .int .i64 0, .int .i64 0, .int .i64 0, .int .i64 0, .int .i64 0, .int .i64 0, .int .i64 0, .int .i64 0, .int .i64 0], .int .i64 14]) ∧ Mod (fun _ => False) w w' := by
  have HF : Hid (∀ W, Mod (fun _ => False) w W → _) := fun W hM => nFS (h.new hM)
  have HC : Hid (∀ W, Mod (fun _ => False) w W → _) := fun W hM => nCred (h.new hM)
  have HS : Hid (∀ W, _) := fun W => fsNStat W l
  have HM : Hid (∀ o, Mod (fun _ => False) w (w.alloc o)) := fun o => (Mod.refl _ w).alloc o
  clear h
  unfold crZ at *
  go_enter Tryz.func8, Tryz.ntmps8
  go_wp2_with (first | (go_at_call 15; refine Calls.mono (HF.out _ (HM.out _)) ?_; rintro e w3 ⟨rfl, hw3⟩; rw [hw3]; clear hw3 w3))
  refine Calls.mono (HC.out _ (HM.out _)) ?_
  rintro e w1 ⟨rfl, M1⟩
  go_wp2_with fail
  refine Calls.mono (HS.out _) ?_
  rintro e w2 ⟨rfl, M2⟩
  have M12 := M1.trans M2
  have HM2 := hid6 ((HM.out _).trans M12)
  have hcl := fun (p : Addr) (hp : p.block < _) => M12.cell (p := p) hp (fun e => e)
  have hfz := fun (p : Addr) (hp : p.block < _) => M12.frozen (p := p) hp (fun e => e)
  clear M1 M2 M12
  go_wp2
  refine ⟨rfl, _, by simp [results, Tryz.results8, go_sem, hcl], rfl, HM2.out.new6 (Mod.ten (s := fun x => x = w.heap.size) w2 _ rfl _ _ _ _ _ _ _ _ _ _) (fun x e => by omega)⟩
theorem fld4 (W : World) : (Instr.field 29 (.agg #[.int .i64 0, .int .i64 0, .slice none 0 0, .int .i64 0, .int .i64 0]) 4).run Tryz.prog W = .ok (.int .i64 0) W := by kernel_rfl
set_option maxRecDepth 100000 in
theorem nGetcwd (h : NoP p w) : Calls Tryz.prog 9 #[.pointer p] w fun e w' => e = .returned (.tuple #[.string ⟨#[]⟩, .int .i64 14]) ∧ Mod (fun _ => False) w w' := by
  have HF := hid6 (nFS h)
  have HC := hid6 (nCred h)
  have HS : Hid (∀ W i, _) := fun W i => fsNPath W i
  have hfl := fld4
  clear h
  unfold crZ at *
  go_enter Tryz.func9, Tryz.ntmps9
  go_wp2_with (first | (go_at_call 15; refine Calls.mono HF.out ?_; rintro e w3 ⟨rfl, hw3⟩; rw [hw3]; clear hw3 w3))
  refine Calls.mono HC.out ?_
  rintro e w1 ⟨rfl, M1⟩
  have HM1 := hid6 M1
  clear M1
  go_wp2_with fail
  refine Calls.mono (HS.out _ _) ?_
  rintro e w2 ⟨rfl, M2⟩
  have HM2 := hid6 (HM1.out.trans M2)
  clear M2
  go_wp2
  go_ret2
  exact ⟨rfl, HM2.out⟩
set_option maxRecDepth 100000 in
theorem nMkdir (h : NoP p w) (l : ByteArray) (m : Int) : Calls Tryz.prog 12 #[.pointer p, .string l, .int .i64 m] w fun e w' => e = .returned (.int .i64 14) ∧ Mod (fun _ => False) w w' := by
  have HF := hid6 (nFS h)
  have HC := hid6 (nCred h)
  have HS : Hid (∀ W, _) := fun W => fsNMkdir W l m
  clear h
  unfold crZ at *
  go_enter Tryz.func12, Tryz.ntmps12
  go_wp2_with (first | (go_at_call 15; refine Calls.mono HF.out ?_; rintro e w3 ⟨rfl, hw3⟩; rw [hw3]; clear hw3 w3))
  refine Calls.mono HC.out ?_
  rintro e w1 ⟨rfl, M1⟩
  have HM1 := hid6 M1
  clear M1
  go_wp2_with fail
  refine Calls.mono (HS.out _) ?_
  rintro e w2 ⟨rfl, M2⟩
  have HM2 := hid6 (HM1.out.trans M2)
  clear M2
  go_wp2
  go_ret
  exact ⟨rfl, HM2.out⟩
set_option maxRecDepth 100000 in
theorem nRename (h : NoP p w) (l k : ByteArray) : Calls Tryz.prog 14 #[.pointer p, .string l, .string k] w fun e w' => e = .returned (.int .i64 14) ∧ Mod (fun _ => False) w w' := by
  have HF := hid6 (nFS h)
  have HC := hid6 (nCred h)
  have HS : Hid (∀ W, _) := fun W => fsNRename W l k
  clear h
  unfold crZ at *
  go_enter Tryz.func14, Tryz.ntmps14
  go_wp2_with (first | (go_at_call 15; refine Calls.mono HF.out ?_; rintro e w3 ⟨rfl, hw3⟩; rw [hw3]; clear hw3 w3))
  refine Calls.mono HC.out ?_
  rintro e w1 ⟨rfl, M1⟩
  have HM1 := hid6 M1
  clear M1
  go_wp2_with fail
  refine Calls.mono (HS.out _) ?_
  rintro e w2 ⟨rfl, M2⟩
  have HM2 := hid6 (HM1.out.trans M2)
  clear M2
  go_wp2
  go_ret
  exact ⟨rfl, HM2.out⟩
set_option maxRecDepth 100000 in
set_option maxHeartbeats 2000000 in
theorem nCredP (h : NoP p w) : Calls Tryz.prog 18 #[.pointer p] w fun e w' => e = .returned crZ ∧ Mod (fun _ => False) w w' := by
  have HC : Hid (∀ o, _) := fun o => nCred (h.new ((Mod.refl _ w).alloc o))
  have HM : Hid (∀ o, Mod (fun _ => False) w (w.alloc o)) := fun o => (Mod.refl _ w).alloc o
  clear h
  unfold crZ at *
  go_enter Tryz.func18, Tryz.ntmps18
  go_wp2_with fail
  refine Calls.mono (HC.out _) ?_
  rintro e w1 ⟨rfl, M1⟩
  have HM1 := hid6 ((HM.out _).trans M1)
  have hcl := fun (p : Addr) (hp : p.block < _) => M1.cell (p := p) hp (fun e => e)
  have hfz := fun (p : Addr) (hp : p.block < _) => M1.frozen (p := p) hp (fun e => e)
  have hsz : w.heap.size < w1.heap.size := by have := M1.size; simp at this; omega
  clear M1
  go_wp2_with (first | (go_at_call 35; refine (sClone0 _).mono ?_; rintro e w4 ⟨rfl, hw4⟩; rw [hw4]; clear hw4 w4))
  have m5 : Mod (fun x => x = w.heap.size) w1 (((((w1.setCell ⟨w.heap.size, 0, none⟩ (.int .i64 0)).setCell ⟨w.heap.size, 1, none⟩ (.int .i64 0)).setCell ⟨w.heap.size, 2, none⟩ (.slice none 0 0)).setCell ⟨w.heap.size, 3, none⟩ (.int .i64 0)).setCell ⟨w.heap.size, 4, none⟩ (.int .i64 0)) := (((((Mod.refl (fun x => x = w.heap.size) w1).setCell ⟨w.heap.size, 0, none⟩ _ rfl).setCell ⟨w.heap.size, 1, none⟩ _ rfl).setCell ⟨w.heap.size, 2, none⟩ _ rfl).setCell ⟨w.heap.size, 3, none⟩ _ rfl).setCell ⟨w.heap.size, 4, none⟩ _ rfl
  refine ⟨rfl, _, by simp [results, Tryz.results18, go_sem, hcl, hsz], rfl, (HM1.out.new6 m5 (fun x e => by omega)).alloc _⟩
theorem nInts (w : World) : Calls Tryz.prog 34 #[.slice none 0 0, .slice none 0 0] w fun e w' => e = .returned (.bool true) ∧ w' = w := by
  go_enter Tryz.func34, Tryz.ntmps34
  go_wp2_with fail
  go_loopg [13] 0 (fun gh i wr => w = wr ∧ gh = 0 ∧ i = .int .i64 0)
  case atStart => exact ⟨rfl, rfl, rfl⟩
  case round =>
    obtain ⟨rfl, rfl, rfl⟩ := hrel
    go_wp2_with fail
    go_ret
    exact ⟨rfl, rfl⟩
set_option maxRecDepth 100000 in
theorem nWho (w : World) : Calls Tryz.prog 17 #[crZ, crZ] w fun e w' => e = .returned (.bool true) ∧ Mod (fun _ => False) w w' := by
  have HM : Hid (∀ o o1, Mod (fun _ => False) w ((w.alloc o).alloc o1)) := fun o o1 => ((Mod.refl _ w).alloc o).alloc o1
  unfold crZ
  go_enter Tryz.func17, Tryz.ntmps17
  go_wp2_with (first | (go_at_call 34; refine (nInts _).mono ?_; rintro e w4 ⟨rfl, hw4⟩; rw [hw4]; clear hw4 w4))
  go_ret
  exact ⟨rfl, HM.out _ _⟩
end
end Go.Proofs.YtgkkbplecfhmdaaGreatDoor
/- A file that is open: has, write, and the process' Write through it. Conditions: the process, the description and the file lie in memory; what WriteAt does. -/
namespace Go.Proofs.YtgkkbplecfhmdaaGreatDoor
open Go.RowKit
/-- A file that is open: its file system, inode, flags, place; nothing is listed. -/
structure FlAt (w : World) (B fb : Nat) (ino fl pl : Int) : Prop where
  c0 : w.cell? ⟨B, 0, none⟩ = some (.pointer (some ⟨fb, 0, none⟩))
  c1 : w.cell? ⟨B, 1, none⟩ = some (.int .i64 ino)
  c2 : w.cell? ⟨B, 2, none⟩ = some (.int .i64 fl)
  c3 : w.cell? ⟨B, 3, none⟩ = some (.int .i64 pl)
  c4 : w.cell? ⟨B, 4, none⟩ = some (.bool false)
  c5 : w.cell? ⟨B, 5, none⟩ = some (.slice none 0 0)
  fr : ∀ o, w.frozen? ⟨B, o, none⟩ = false
theorem FlAt.lt {w : World} {B fb : Nat} {ino fl pl : Int} (h : FlAt w B fb ino fl pl) : B < w.heap.size := block_lt_of_cell h.c0
theorem FlAt.mod {w w' : World} {B fb : Nat} {ino fl pl : Int} (h : FlAt w B fb ino fl pl) {s : Nat → Prop} (hM : Mod s w w') (hs : ¬ s B) : FlAt w' B fb ino fl pl where
  c0 := (hM.cell (p := ⟨B, 0, none⟩) h.lt hs).trans h.c0
  c1 := (hM.cell (p := ⟨B, 1, none⟩) h.lt hs).trans h.c1
  c2 := (hM.cell (p := ⟨B, 2, none⟩) h.lt hs).trans h.c2
  c3 := (hM.cell (p := ⟨B, 3, none⟩) h.lt hs).trans h.c3
  c4 := (hM.cell (p := ⟨B, 4, none⟩) h.lt hs).trans h.c4
  c5 := (hM.cell (p := ⟨B, 5, none⟩) h.lt hs).trans h.c5
  fr := fun o => (hM.frozen (p := ⟨B, o, none⟩) h.lt hs).trans (h.fr o)
theorem FlAt.place {w : World} {B fb : Nat} {ino fl pl : Int} (h : FlAt w B fb ino fl pl) (p : Int) : FlAt (w.setCell ⟨B, 3, none⟩ (.int .i64 p)) B fb ino fl p where
  c0 := by have := h.c0; simp [go_sem, this]
  c1 := by have := h.c1; simp [go_sem, this]
  c2 := by have := h.c2; simp [go_sem, this]
  c3 := by have := h.c3; simp [go_sem, this]
  c4 := by have := h.c4; simp [go_sem, this]
  c5 := by have := h.c5; simp [go_sem, this]
  fr := fun o => by have := h.fr o; simp [go_sem, this]
/-- A description: what it is, and how many lead to it. -/
structure DAt (w : World) (D : Nat) (v : Value) (n : Int) : Prop where
  c0 : w.cell? ⟨D, 0, none⟩ = some v
  c1 : w.cell? ⟨D, 1, none⟩ = some (.int .i64 n)
  fr : ∀ o, w.frozen? ⟨D, o, none⟩ = false
theorem DAt.lt {w : World} {D : Nat} {v : Value} {n : Int} (h : DAt w D v n) : D < w.heap.size := block_lt_of_cell h.c0
theorem DAt.mod {w w' : World} {D : Nat} {v : Value} {n : Int} (h : DAt w D v n) {s : Nat → Prop} (hM : Mod s w w') (hs : ¬ s D) : DAt w' D v n where
  c0 := (hM.cell (p := ⟨D, 0, none⟩) h.lt hs).trans h.c0
  c1 := (hM.cell (p := ⟨D, 1, none⟩) h.lt hs).trans h.c1
  fr := fun o => (hM.frozen (p := ⟨D, o, none⟩) h.lt hs).trans (h.fr o)
theorem fHas {w : World} {B fb : Nat} {ino fl pl : Int} (h : FlAt w B fb ino fl pl) (f : Int) (r : Bool) (hr : (bits .and .i64 fl f != 0) = r) : Calls Tryz.prog 243 #[.pointer (some ⟨B, 0, none⟩), .int .i64 f] w fun e w' => e = .returned (.bool r) ∧ w' = w := by
  have c2 := h.c2
  clear h
  have HR := hid6 hr
  clear hr
  go_enter Tryz.func243, Tryz.ntmps243
  go_wp2
  go_ret
  exact ⟨congrArg (fun x => Ending.returned (.bool x)) HR.out, rfl⟩
theorem b102 : (bits .and .i64 10 2 != 0) = true := by decide +kernel
theorem b104 : (bits .and .i64 10 4 != 0) = false := by decide +kernel
theorem b101 : (bits .and .i64 10 1 != 0) = false := by decide +kernel
set_option maxRecDepth 100000 in
set_option maxHeartbeats 2000000 in
theorem fWrite {w : World} {B fb : Nat} {ino pl : Int} (h : FlAt w B fb ino 10 pl) (r : Int) (hr : -9223372036854775808 ≤ pl + r ∧ pl + r ≤ 9223372036854775807) (a : Option Addr) (n c : Nat) (S : Nat → Prop) (hB : ¬ S B) (Q : World → Prop)
    (hW : ∀ W, Mod (fun _ => False) w W → Calls Tryz.prog 245 #[.pointer (some ⟨fb, 0, none⟩), .int .i64 ino, .int .i64 pl, .slice a n c] W fun e w' => e = .returned (.tuple #[.int .i64 r, .int .i64 0]) ∧ Mod S W w' ∧ Q w') :
    Calls Tryz.prog 241 #[.pointer (some ⟨B, 0, none⟩), .slice a n c] w fun e w' => e = .returned (.tuple #[.int .i64 r, .int .i64 0]) ∧ ∃ w5, Mod S w w5 ∧ Q w5 ∧ w' = w5.setCell ⟨B, 3, none⟩ (.int .i64 (pl + r)) := by
  have HW := hid6 hW
  have H2 := hid6 (fHas h 2 true b102)
  have H4 := hid6 (fHas h 4 false b104)
  have hBl := h.lt
  have hw : IntKind.i64.wrap (pl + r) = pl + r := by rw [IntKind.wrap_i64]; omega
  have HSt : Hid (∀ w', Mod S (w.drewN 1) w' → (w'.cell? ⟨B, 0, none⟩ = some (.pointer (some ⟨fb, 0, none⟩)) ∧ w'.cell? ⟨B, 1, none⟩ = some (.int .i64 ino)) ∧ w'.cell? ⟨B, 3, none⟩ = some (.int .i64 pl) ∧ ∀ o, w'.frozen? ⟨B, o, none⟩ = false) := fun w' hM => ⟨⟨(hM.cell (p := ⟨B, 0, none⟩) hBl hB).trans h.c0, (hM.cell (p := ⟨B, 1, none⟩) hBl hB).trans h.c1⟩, (hM.cell (p := ⟨B, 3, none⟩) hBl hB).trans h.c3, fun o => (hM.frozen (p := ⟨B, o, none⟩) hBl hB).trans (h.fr o)⟩
  obtain ⟨c0, c1, -, c3, -, -, -⟩ := h
  clear hW
  go_enter Tryz.func241, Tryz.ntmps241
  go_wp2_with fail
  refine Calls.mono H2.out ?_
  rintro e w3 ⟨rfl, hw3⟩
  rw [hw3]
  clear hw3 w3
  go_wp2_with fail
  refine Calls.mono H4.out ?_
  rintro e w3 ⟨rfl, hw3⟩
  rw [hw3]
  clear hw3 w3
  go_upto_region 7 with fail
  go_cut [9, 10] (fun v9 v10 wc => v9 = .int .i64 r ∧ v10 = .int .i64 0 ∧ wc.cell? ⟨B, 3, none⟩ = some (.int .i64 pl) ∧ (∀ o, wc.frozen? ⟨B, o, none⟩ = false) ∧ Hid (Mod S w wc ∧ Q wc))
  case first =>
    go_region_held (fun W' => W'.cell? ⟨B, 0, none⟩ = some (.pointer (some ⟨fb, 0, none⟩)) ∧ W'.cell? ⟨B, 1, none⟩ = some (.int .i64 ino)) (first | with_reducible exact hS1.1 | go_keep)
      (first | (go_at_call 245; refine (HW.out _ ((Mod.refl _ _).drewN 1)).mono ?_; rintro e w3 ⟨rfl, M3, q3⟩; have hS1 := HSt.out _ M3; have HR := hid6 (And.intro (((Mod.refl S w).drewN 1).trans M3) q3); clear M3 q3))
    all_goals
      go_wp2_with fail
      go_meet
      exact ⟨rfl, rfl, hS1.2.1, hS1.2.2, HR⟩
  case rest =>
    obtain ⟨rfl, rfl, g3, gf, HR⟩ := hcut
    go_wp2
    go_ret2
    exact ⟨rfl, wc, HR.out.1, HR.out.2, rfl⟩
set_option maxRecDepth 100000 in
set_option maxHeartbeats 2000000 in
theorem pWrite {w : World} {P fb : Nat} {u g : Int} {ga : Option Addr} {gc : Nat} {um cw : Int} {d : Nat → Option Addr} (h : PAt w P fb u g ga gc um cw d) (j D B : Nat) (hj : j < 16) (hd : d j = some ⟨D, 0, none⟩) (cn : Int) (hD : DAt w D (.iface 67 (.pointer (some ⟨B, 0, none⟩))) cn) (a : Option Addr) (n c : Nat) (r : Int) (Q : World → Prop)
    (hW : Calls Tryz.prog 241 #[.pointer (some ⟨B, 0, none⟩), .slice a n c] w fun e w' => e = .returned (.tuple #[.int .i64 r, .int .i64 0]) ∧ Q w') :
    Calls Tryz.prog 6 #[.pointer (some ⟨P, 0, none⟩), .int .i64 j, .slice a n c] w fun e w' => e = .returned (.tuple #[.int .i64 r, .int .i64 0]) ∧ Q w' := by
  have HL := hid6 (pLead h j D hj hd)
  have c0 := hD.c0
  have HW := hid6 hW
  clear h hD hW hd
  go_enter Tryz.func6, Tryz.ntmps6
  go_wp2_with (first | (go_at_call 25; refine Calls.mono HL.out ?_; rintro e w3 ⟨rfl, hw3⟩; rw [hw3]; clear hw3 w3))
  refine Calls.mono HW.out ?_
  rintro e w1 ⟨rfl, HQ⟩
  have HQ' := hid6 HQ
  clear HQ
  go_wp2
  go_ret2
  exact ⟨rfl, HQ'.out⟩
theorem fReadNo {w : World} {B fb : Nat} {ino pl : Int} (h : FlAt w B fb ino 10 pl) (n : Int) : Calls Tryz.prog 240 #[.pointer (some ⟨B, 0, none⟩), .int .i64 n] w fun e w' => e = .returned (.tuple #[.slice none 0 0, .int .i64 9]) ∧ w' = w := by
  have H1 := hid6 (fHas h 1 false b101)
  clear h
  go_enter Tryz.func240, Tryz.ntmps240
  go_wp2_with (first | (go_at_call 243; refine Calls.mono H1.out ?_; rintro e w3 ⟨rfl, hw3⟩; rw [hw3]; clear hw3 w3))
  go_ret2
  exact ⟨rfl, rfl⟩
section
variable {w : World} {P fb : Nat} {u g : Int} {ga : Option Addr} {gc : Nat} {um cw : Int} {d : Nat → Option Addr}
set_option maxRecDepth 100000 in
set_option maxHeartbeats 2000000 in
theorem pReadNo (h : PAt w P fb u g ga gc um cw d) (j D B : Nat) (hj : j < 16) (hd : d j = some ⟨D, 0, none⟩) (cn ino pl : Int) (hD : DAt w D (.iface 67 (.pointer (some ⟨B, 0, none⟩))) cn) (hF : FlAt w B fb ino 10 pl) (n : Int) :
    Calls Tryz.prog 5 #[.pointer (some ⟨P, 0, none⟩), .int .i64 j, .int .i64 n] w fun e w' => e = .returned (.tuple #[.slice none 0 0, .int .i64 9]) ∧ w' = w := by
  have HL := hid6 (pLead h j D hj hd)
  have c0 := hD.c0
  have HW := hid6 (fReadNo hF n)
  clear h hD hF hd
  go_enter Tryz.func5, Tryz.ntmps5
  go_wp2_with (first | (go_at_call 25; refine Calls.mono HL.out ?_; rintro e w3 ⟨rfl, hw3⟩; rw [hw3]; clear hw3 w3))
  refine Calls.mono HW.out ?_
  rintro e w1 ⟨rfl, hw1⟩
  rw [hw1]
  clear hw1 w1
  go_wp2
  go_ret2
  exact ⟨rfl, rfl⟩
theorem ta67 (B : Nat) (W : World) : (Instr.typeAssert (.iface 67 (.pointer (some ⟨B, 0, none⟩))) 72 67 true).run Tryz.prog W = .ok (.tuple #[.pointer (some ⟨B, 0, none⟩), .bool true]) W := by kernel_rfl
set_option maxRecDepth 100000 in
theorem pAsFile (h : PAt w P fb u g ga gc um cw d) (j D B : Nat) (hj : j < 16) (hd : d j = some ⟨D, 0, none⟩) (cn er : Int) (hD : DAt w D (.iface 67 (.pointer (some ⟨B, 0, none⟩))) cn) :
    Calls Tryz.prog 29 #[.pointer (some ⟨P, 0, none⟩), .int .i64 j, .int .i64 er] w fun e w' => e = .returned (.tuple #[.pointer (some ⟨B, 0, none⟩), .int .i64 0]) ∧ w' = w := by
  have HL := hid6 (pLead h j D hj hd)
  have c0 := hD.c0
  have hta := ta67
  clear h hD hd
  go_enter Tryz.func29, Tryz.ntmps29
  go_wp2_with (first | (go_at_call 25; refine Calls.mono HL.out ?_; rintro e w3 ⟨rfl, hw3⟩; rw [hw3]; clear hw3 w3))
  go_ret2
  exact ⟨rfl, rfl⟩
theorem fFromCur {B : Nat} {ino fl pl : Int} (h : FlAt w B fb ino fl pl) : Calls Tryz.prog 91 #[.pointer (some ⟨B, 0, none⟩), .int .i64 1] w fun e w' => e = .returned (.tuple #[.int .i64 pl, .int .i64 0]) ∧ w' = w := by
  have c3 := h.c3
  clear h
  go_enter Tryz.func91, Tryz.ntmps91
  go_wp2
  go_ret2
  exact ⟨rfl, rfl⟩
set_option maxRecDepth 100000 in
set_option maxHeartbeats 2000000 in
theorem pSeekCur (h : PAt w P fb u g ga gc um cw d) (j D B : Nat) (hj : j < 16) (hd : d j = some ⟨D, 0, none⟩) (cn ino fl pl off : Int) (hD : DAt w D (.iface 67 (.pointer (some ⟨B, 0, none⟩))) cn) (hF : FlAt w B fb ino fl pl) (h0 : 0 ≤ pl ∧ pl ≤ 4611686018427387904) (h1 : 0 ≤ pl + off ∧ pl + off ≤ 4611686018427387904) :
    Calls Tryz.prog 40 #[.pointer (some ⟨P, 0, none⟩), .int .i64 j, .int .i64 off, .int .i64 1] w fun e w' => e = .returned (.tuple #[.int .i64 (pl + off), .int .i64 0]) ∧ Mod (fun x => x = B) w w' ∧ FlAt w' B fb ino fl (pl + off) := by
  have HA := hid6 (pAsFile h j D B hj hd cn 29 hD)
  have HC := hid6 (fFromCur hF)
  have hw : IntKind.i64.wrap (pl + off) = pl + off := by rw [IntKind.wrap_i64]; omega
  have hw1 : IntKind.i64.wrap (-pl) = -pl := by rw [IntKind.wrap_i64]; omega
  have hw2 : IntKind.i64.wrap (4611686018427387904 - pl) = 4611686018427387904 - pl := by rw [IntKind.wrap_i64]; omega
  have t1 : decide (off < -pl) = false := decide_eq_false (by omega)
  have t2 : decide (4611686018427387904 - pl < off) = false := decide_eq_false (by omega)
  have HF := hid6 hF
  obtain ⟨c0, c1, c2, c3, c4, c5, fr⟩ := hF
  clear h hD hd
  go_enter Tryz.func40, Tryz.ntmps40
  go_wp2_with (first | (go_at_call 29; refine Calls.mono HA.out ?_; rintro e w3 ⟨rfl, hw3⟩; rw [hw3]; clear hw3 w3) | (go_at_call 91; refine Calls.mono HC.out ?_; rintro e w3 ⟨rfl, hw3⟩; rw [hw3]; clear hw3 w3))
  go_ret2
  have hm : Mod (fun x => x = B) w (((w.setCell ⟨B, 3, none⟩ (.int .i64 (pl + off))).setCell ⟨B, 4, none⟩ (.bool false)).setCell ⟨B, 5, none⟩ (.slice none 0 0)) := (((Mod.refl (fun x => x = B) w).setCell ⟨B, 3, none⟩ _ rfl).setCell ⟨B, 4, none⟩ _ rfl).setCell ⟨B, 5, none⟩ _ rfl
  exact ⟨rfl, hm, ⟨by simp [go_sem, c0], by simp [go_sem, c1], by simp [go_sem, c2], by simp [go_sem, c3], by simp [go_sem, c4], by simp [go_sem, c5], fun o => by simp [go_sem, fr]⟩⟩
end
end Go.Proofs.YtgkkbplecfhmdaaGreatDoor
