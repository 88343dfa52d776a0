/- Several texts of this claim, one behind the other, in their order. -/
import Derived.Test.YtgkkbplecfhmdaaGreatDoorM1
import Derived.Test.YtgkkbplecfhmdaaGreatDoorSt
import Derived.Deep.RegionHeld
import Derived.Defers
import Derived.Recover
import Derived.Deep.DeepCutAuto
/- The tree's small functions on what Stat tells, and the task's call may. Conditions: the task lies in memory as 'TkAt' says (no groups); what Stat tells. -/
namespace Go.Proofs.YtgkkbplecfhmdaaGreatDoor
open Go.RowKit
/-- A task: its table, who calls (of no groups). -/
structure TkAt (w : World) (k t : Nat) (u g : Int) (ga : Option Addr) (gc : Nat) (um cw : Int) : Prop where
  c0 : w.cell? ⟨k, 0, none⟩ = some (.pointer (some ⟨t, 0, none⟩))
  c1 : w.cell? ⟨k, 1, none⟩ = some (.int .i64 u)
  c2 : w.cell? ⟨k, 2, none⟩ = some (.int .i64 g)
  c3 : w.cell? ⟨k, 3, none⟩ = some (.slice ga 0 gc)
  c4 : w.cell? ⟨k, 4, none⟩ = some (.int .i64 um)
  c5 : w.cell? ⟨k, 5, none⟩ = some (.int .i64 cw)
theorem TkAt.lt {w : World} {k t : Nat} {u g : Int} {ga : Option Addr} {gc : Nat} {um cw : Int} (h : TkAt w k t u g ga gc um cw) : k < w.heap.size := block_lt_of_cell h.c0
theorem TkAt.mod {w w' : World} {k t : Nat} {u g : Int} {ga : Option Addr} {gc : Nat} {um cw : Int} (h : TkAt w k t u g ga gc um cw) {s : Nat → Prop} (hM : Mod s w w') (hk : ¬ s k) : TkAt w' k t u g ga gc um cw where
  c0 := (hM.cell (p := ⟨k, 0, none⟩) h.lt hk).trans h.c0
  c1 := (hM.cell (p := ⟨k, 1, none⟩) h.lt hk).trans h.c1
  c2 := (hM.cell (p := ⟨k, 2, none⟩) h.lt hk).trans h.c2
  c3 := (hM.cell (p := ⟨k, 3, none⟩) h.lt hk).trans h.c3
  c4 := (hM.cell (p := ⟨k, 4, none⟩) h.lt hk).trans h.c4
  c5 := (hM.cell (p := ⟨k, 5, none⟩) h.lt hk).trans h.c5
theorem TkAt.new {w w' : World} {k t : Nat} {u g : Int} {ga : Option Addr} {gc : Nat} {um cw : Int} (h : TkAt w k t u g ga gc um cw) (hM : Mod (fun _ => False) w w') : TkAt w' k t u g ga gc um cw := h.mod hM (fun e => e)
theorem hid6 {p : Prop} (h : p) : Hid p := h
theorem Mod.new6 {s : Nat → Prop} {w0 w w' : World} (h0 : Mod (fun _ => False) w0 w) (h : Mod s w w') (hs : ∀ k, s k → w0.heap.size ≤ k) : Mod (fun _ => False) w0 w' :=
  ⟨h.os.trans h0.os, h.tape.trans h0.tape, h.output.trans h0.output, Nat.le_trans h0.size h.size, fun k hk _ => (h.block k (Nat.lt_of_lt_of_le hk h0.size) (fun e => by have := hs k e; omega)).trans (h0.block k hk (fun h => h))⟩
theorem mod_below {w w' : World} (h : Below w.heap.size w w') : Mod (fun _ => False) w w' := ⟨h.os, h.tape, h.output, h.size, fun k hk _ => h.block k hk⟩
/-- What Stat tells, as a value. -/
def sA (s0 s1 s2 s3 s4 s5 s6 s7 s8 s9 : Int) : Value := .agg #[.int .i64 s0, .int .i64 s1, .int .i64 s2, .int .i64 s3, .int .i64 s4, .int .i64 s5, .int .i64 s6, .int .i64 s7, .int .i64 s8, .int .i64 s9]
/-- Where a path leads, as a value. -/
def spA (d : Int) (l : List UInt8) (i : Int) (sl : Bool) : Value := .agg #[.int .i64 d, .string ⟨l.toArray⟩, .int .i64 i, .bool sl]
section
variable (s0 s1 s2 s3 s4 s5 s6 s7 s8 s9 : Int) (w : World)
theorem tKind : Calls Tryz.prog 97 #[sA s0 s1 s2 s3 s4 s5 s6 s7 s8 s9] w fun e w' => e = .returned (.int .i64 (bits .and .i64 s6 61440)) ∧ Mod (fun _ => False) w w' := by
  have HB : Hid (∀ o, Mod (fun _ => False) w (w.alloc o)) := fun o => (Mod.refl _ w).alloc o
  unfold sA
  go_enter Tryz.func97, Tryz.ntmps97
  go_wp2
  go_ret
  exact ⟨rfl, HB.out _⟩
theorem tIsDir : Calls Tryz.prog 62 #[sA s0 s1 s2 s3 s4 s5 s6 s7 s8 s9] w fun e w' => e = .returned (.bool (bits .and .i64 s6 61440 == 16384)) ∧ Mod (fun _ => False) w w' := by
  have HB : Hid (∀ o, Mod (fun _ => False) w (w.alloc o)) := fun o => (Mod.refl _ w).alloc o
  have HK : Hid (∀ W, _) := fun W => tKind s0 s1 s2 s3 s4 s5 s6 s7 s8 s9 W
  unfold sA at *
  go_enter Tryz.func62, Tryz.ntmps62
  go_wp2_with (go_at_call 97; refine (HK.out _).mono ?_; rintro e w1 ⟨rfl, HM1⟩)
  go_ret
  exact ⟨rfl, (HB.out _).trans HM1⟩
theorem tGone : Calls Tryz.prog 63 #[sA s0 s1 s2 s3 s4 s5 s6 s7 s8 s9] w fun e w' => e = .returned (.bool (s1 == 0)) ∧ Mod (fun _ => False) w w' := by
  have HB : Hid (∀ o, Mod (fun _ => False) w (w.alloc o)) := fun o => (Mod.refl _ w).alloc o
  unfold sA
  go_enter Tryz.func63, Tryz.ntmps63
  go_wp2
  go_ret
  exact ⟨rfl, HB.out _⟩
end
theorem tThrough (d i e : Int) (l : List UInt8) (sl : Bool) (w : World) : Calls Tryz.prog 98 #[spA d l i sl, .int .i64 e] w fun x w' => x = .returned (.bool (e == 0 || (e == 1 && sl))) ∧ Mod (fun _ => False) w w' := by
  have HB : Hid (∀ o, Mod (fun _ => False) w (w.alloc o)) := fun o => (Mod.refl _ w).alloc o
  unfold spA
  cases h0 : (e == 0) <;> cases h1 : (e == 1)
  all_goals
    go_enter Tryz.func98, Tryz.ntmps98
    go_wp2
    go_ret
    exact ⟨by simp, HB.out _⟩
theorem tBad (d i : Int) (l : List UInt8) (sl : Bool) (w : World) (h1 : ¬ l = []) (h2 : ¬ l = [46]) (h3 : ¬ l = [46, 46]) : Calls Tryz.prog 79 #[spA d l i sl] w fun x w' => x = .returned (.bool false) ∧ Mod (fun _ => False) w w' := by
  have HB : Hid (∀ o, Mod (fun _ => False) w (w.alloc o)) := fun o => (Mod.refl _ w).alloc o
  have HE : Hid ((l.isEmpty || l == [46] || l == [46, 46]) = false) := by
    show _ = _
    have a1 : l.isEmpty = false := by cases l <;> simp_all
    have a2 : (l == [46]) = false := by simpa using h2
    have a3 : (l == [46, 46]) = false := by simpa using h3
    rw [a1, a2, a3]; rfl
  unfold spA
  go_enter Tryz.func79, Tryz.ntmps79
  go_wp2
  go_ret
  exact ⟨congrArg (fun x => Ending.returned (.bool x)) HE.out, HB.out _⟩
theorem tMasked {w : World} {k t : Nat} {u g : Int} {ga : Option Addr} {gc : Nat} {um cw : Int} (h : TkAt w k t u g ga gc um cw) (m : Int) : Calls Tryz.prog 74 #[.pointer (some ⟨k, 0, none⟩), .int .i64 m] w fun e w' => e = .returned (.int .i64 (bits .andNot .i64 m um)) ∧ w' = w := by
  have c4 := h.c4
  clear h
  go_enter Tryz.func74, Tryz.ntmps74
  go_wp2
  go_ret
  exact ⟨rfl, rfl⟩
theorem ints_nil (w : World) (a : Option Addr) : Ints w a [] := fun j h => absurd h (by simp)
set_option maxRecDepth 100000 in
set_option maxHeartbeats 2000000 in
theorem tMay {w : World} {k t : Nat} {u g : Int} {ga : Option Addr} {gc : Nat} {um cw : Int} (h : TkAt w k t u g ga gc um cw) (s0 s1 s2 s3 s4 s5 s6 s7 s8 s9 want : Int) :
    Calls Tryz.prog 100 #[.pointer (some ⟨k, 0, none⟩), sA s0 s1 s2 s3 s4 s5 s6 s7 s8 s9, .int .i64 want] w fun e w' => e = .returned (.bool (accB s6 s2 u (memB g [] s3) want)) ∧ Mod (fun _ => False) w w' := by
  have HP : Hid (∀ W, _) := fun W => pAccess s6 s2 s3 u g ga gc [] um cw want W (ints_nil W ga) (by simp)
  have HM0 : Hid (∀ o, Mod (fun _ => False) w (w.alloc o)) := fun o => (Mod.refl _ w).alloc o
  have hk := h.lt
  obtain ⟨c0, c1, c2, c3, c4, c5⟩ := h
  have hne : ∀ j (o : Obj), (w.alloc o).cell? ⟨k, j, none⟩ = w.cell? ⟨k, j, none⟩ := fun j o => World.cell?_alloc_past _ _ _ hk
  obtain ⟨B, hB⟩ : ∃ B, B = w.heap.size := ⟨_, rfl⟩
  have HS : Hid (∀ W W', Below W.heap.size W W' → w.heap.size < W.heap.size → (W.cell? ⟨k, 1, none⟩ = some (.int .i64 u) ∧ W.cell? ⟨k, 2, none⟩ = some (.int .i64 g) ∧ W.cell? ⟨k, 3, none⟩ = some (.slice ga 0 gc) ∧ W.cell? ⟨k, 4, none⟩ = some (.int .i64 um) ∧ W.cell? ⟨k, 5, none⟩ = some (.int .i64 cw) ∧ W.cell? ⟨w.heap.size, 6, none⟩ = some (.int .i64 s6) ∧ W.cell? ⟨w.heap.size, 2, none⟩ = some (.int .i64 s2) ∧ W.cell? ⟨w.heap.size, 3, none⟩ = some (.int .i64 s3)) → (W'.cell? ⟨k, 1, none⟩ = some (.int .i64 u) ∧ W'.cell? ⟨k, 2, none⟩ = some (.int .i64 g) ∧ W'.cell? ⟨k, 3, none⟩ = some (.slice ga 0 gc) ∧ W'.cell? ⟨k, 4, none⟩ = some (.int .i64 um) ∧ W'.cell? ⟨k, 5, none⟩ = some (.int .i64 cw) ∧ W'.cell? ⟨w.heap.size, 6, none⟩ = some (.int .i64 s6) ∧ W'.cell? ⟨w.heap.size, 2, none⟩ = some (.int .i64 s2) ∧ W'.cell? ⟨w.heap.size, 3, none⟩ = some (.int .i64 s3))) := fun W W' hb hw ⟨a1, a2, a3, a4, a5, a6, a7, a8⟩ =>
    ⟨(hb.cell (p := ⟨k, 1, none⟩) (by show k < _; omega)).trans a1, (hb.cell (p := ⟨k, 2, none⟩) (by show k < _; omega)).trans a2, (hb.cell (p := ⟨k, 3, none⟩) (by show k < _; omega)).trans a3, (hb.cell (p := ⟨k, 4, none⟩) (by show k < _; omega)).trans a4, (hb.cell (p := ⟨k, 5, none⟩) (by show k < _; omega)).trans a5, (hb.cell (p := ⟨w.heap.size, 6, none⟩) hw).trans a6, (hb.cell (p := ⟨w.heap.size, 2, none⟩) hw).trans a7, (hb.cell (p := ⟨w.heap.size, 3, none⟩) hw).trans a8⟩
  have hS0 : (w.alloc (.cells #[.int .i64 s0, .int .i64 s1, .int .i64 s2, .int .i64 s3, .int .i64 s4, .int .i64 s5, .int .i64 s6, .int .i64 s7, .int .i64 s8, .int .i64 s9] 45)).drew.cell? ⟨k, 1, none⟩ = some (.int .i64 u) ∧ (w.alloc (.cells #[.int .i64 s0, .int .i64 s1, .int .i64 s2, .int .i64 s3, .int .i64 s4, .int .i64 s5, .int .i64 s6, .int .i64 s7, .int .i64 s8, .int .i64 s9] 45)).drew.cell? ⟨k, 2, none⟩ = some (.int .i64 g) ∧ (w.alloc (.cells #[.int .i64 s0, .int .i64 s1, .int .i64 s2, .int .i64 s3, .int .i64 s4, .int .i64 s5, .int .i64 s6, .int .i64 s7, .int .i64 s8, .int .i64 s9] 45)).drew.cell? ⟨k, 3, none⟩ = some (.slice ga 0 gc) ∧ (w.alloc (.cells #[.int .i64 s0, .int .i64 s1, .int .i64 s2, .int .i64 s3, .int .i64 s4, .int .i64 s5, .int .i64 s6, .int .i64 s7, .int .i64 s8, .int .i64 s9] 45)).drew.cell? ⟨k, 4, none⟩ = some (.int .i64 um) ∧ (w.alloc (.cells #[.int .i64 s0, .int .i64 s1, .int .i64 s2, .int .i64 s3, .int .i64 s4, .int .i64 s5, .int .i64 s6, .int .i64 s7, .int .i64 s8, .int .i64 s9] 45)).drew.cell? ⟨k, 5, none⟩ = some (.int .i64 cw) ∧ (w.alloc (.cells #[.int .i64 s0, .int .i64 s1, .int .i64 s2, .int .i64 s3, .int .i64 s4, .int .i64 s5, .int .i64 s6, .int .i64 s7, .int .i64 s8, .int .i64 s9] 45)).drew.cell? ⟨w.heap.size, 6, none⟩ = some (.int .i64 s6) ∧ (w.alloc (.cells #[.int .i64 s0, .int .i64 s1, .int .i64 s2, .int .i64 s3, .int .i64 s4, .int .i64 s5, .int .i64 s6, .int .i64 s7, .int .i64 s8, .int .i64 s9] 45)).drew.cell? ⟨w.heap.size, 2, none⟩ = some (.int .i64 s2) ∧ (w.alloc (.cells #[.int .i64 s0, .int .i64 s1, .int .i64 s2, .int .i64 s3, .int .i64 s4, .int .i64 s5, .int .i64 s6, .int .i64 s7, .int .i64 s8, .int .i64 s9] 45)).drew.cell? ⟨w.heap.size, 3, none⟩ = some (.int .i64 s3) :=
    ⟨(hne _ _).trans c1, (hne _ _).trans c2, (hne _ _).trans c3, (hne _ _).trans c4, (hne _ _).trans c5, by show (w.alloc _).cell? _ = _; rw [World.cell?_alloc_at _ _ _ _ rfl]; rfl, by show (w.alloc _).cell? _ = _; rw [World.cell?_alloc_at _ _ _ _ rfl]; rfl, by show (w.alloc _).cell? _ = _; rw [World.cell?_alloc_at _ _ _ _ rfl]; rfl⟩
  clear hne c0
  unfold sA
  go_enter Tryz.func100, Tryz.ntmps100
  go_wp2_with fail
  go_region_held (fun W' => W'.cell? ⟨k, 1, none⟩ = some (.int .i64 u) ∧ W'.cell? ⟨k, 2, none⟩ = some (.int .i64 g) ∧ W'.cell? ⟨k, 3, none⟩ = some (.slice ga 0 gc) ∧ W'.cell? ⟨k, 4, none⟩ = some (.int .i64 um) ∧ W'.cell? ⟨k, 5, none⟩ = some (.int .i64 cw) ∧ W'.cell? ⟨w.heap.size, 6, none⟩ = some (.int .i64 s6) ∧ W'.cell? ⟨w.heap.size, 2, none⟩ = some (.int .i64 s2) ∧ W'.cell? ⟨w.heap.size, 3, none⟩ = some (.int .i64 s3)) (first | with_reducible exact hS1 | with_reducible exact hS0)
    (first | (go_at_call 146; refine (HP.out _).mono ?_; rintro e w1 ⟨rfl, HB1⟩; have hS1 := HS.out _ _ HB1 (by show _ < (w.alloc _).heap.size; simp) hS0))
  go_wp2
  go_ret
  exact ⟨rfl, ((Mod.drewN (HM0.out _) 1)).trans (mod_below HB1)⟩
end Go.Proofs.YtgkkbplecfhmdaaGreatDoor
/- The task's call find, and vacant, writable. Conditions: the task lies in memory as 'TkAt' says (no groups); what Stat and Find tell. -/
namespace Go.Proofs.YtgkkbplecfhmdaaGreatDoor
open Go.RowKit
/-- What the task's stat tells of an inode, in whatever later world. -/
def StA (w : World) (k : Nat) (i : Int) (f : Nat → Int) : Prop := ∀ W, Mod (fun _ => False) w W → Calls Tryz.prog 51 #[.pointer (some ⟨k, 0, none⟩), .int .i64 i] W fun e w' => (∃ bl : Nat, e = .returned (.agg #[.int .i64 i, .int .i64 (f 3), .int .i64 (f 1), .int .i64 (f 2), .int .i64 (f 5), .int .i64 (bl : Nat), .int .i64 (f 0), .int .i64 (f 6), .int .i64 (f 7), .int .i64 (f 8)])) ∧ Mod (fun _ => False) W w'
/-- What dir's Find tells, in whatever later world. -/
def FdA (w : World) (t : Nat) (i : Int) (l : List UInt8) (r er : Int) : Prop := ∀ W, Mod (fun _ => False) w W → Calls Tryz.prog 109 #[.pointer (some ⟨t, 0, none⟩), .int .i64 i, .string ⟨l.toArray⟩] W fun e w' => e = .returned (.tuple #[.int .i64 r, .int .i64 er]) ∧ Mod (fun _ => False) W w'
/-- What the task's find tells, in whatever later world. -/
def TfA (w : World) (k : Nat) (i : Int) (l : List UInt8) (r : Int) : Prop := ∀ W, Mod (fun _ => False) w W → Calls Tryz.prog 96 #[.pointer (some ⟨k, 0, none⟩), .int .i64 i, .string ⟨l.toArray⟩] W fun e w' => e = .returned (.int .i64 r) ∧ Mod (fun _ => False) W w'
theorem StA.new {w w' : World} {k : Nat} {i : Int} {f : Nat → Int} (h : StA w k i f) (hM : Mod (fun _ => False) w w') : StA w' k i f := fun W hW => h W (hM.trans hW)
theorem TfA.new {w w' : World} {k : Nat} {i : Int} {l : List UInt8} {r : Int} (h : TfA w k i l r) (hM : Mod (fun _ => False) w w') : TfA w' k i l r := fun W hW => h W (hM.trans hW)
set_option maxRecDepth 100000 in
set_option maxHeartbeats 2000000 in
theorem tFind {w : World} {k t : Nat} {u g : Int} {ga : Option Addr} {gc : Nat} {um cw : Int} (h : TkAt w k t u g ga gc um cw) (i : Int) (f : Nat → Int) (hS : StA w k i f) (hd : (bits .and .i64 (f 0) 61440 == 16384) = true) (hacc : accB (f 0) (f 1) u (memB g [] (f 2)) 1 = true) (l : List UInt8) (hl : ¬ l = [46]) (r er : Int) (hF : FdA w t i l r er) :
    Calls Tryz.prog 96 #[.pointer (some ⟨k, 0, none⟩), .int .i64 i, .string ⟨l.toArray⟩] w fun e w' => e = .returned (.int .i64 r) ∧ Mod (fun _ => False) w w' := by
  have HK := hid6 h
  have HS := hid6 hS
  have HF := hid6 hF
  have hl' : (l == [46]) = false := by simpa using hl
  have HI : Hid (∀ s0 s1 s2 s3 s4 s5 s7 s8 s9 W, _) := fun s0 s1 s2 s3 s4 s5 s7 s8 s9 W => tIsDir s0 s1 s2 s3 s4 s5 (f 0) s7 s8 s9 W
  have HY : Hid (∀ s0 s1 s4 s5 s7 s8 s9 W (hM : Mod (fun _ => False) w W), _) := fun s0 s1 s4 s5 s7 s8 s9 W hM => tMay (h.new hM) s0 s1 (f 1) (f 2) s4 s5 (f 0) s7 s8 s9 1
  unfold sA at HI HY
  rw [hd] at HI
  rw [hacc] at HY
  clear hS hF hacc hd
  obtain ⟨c0, -, -, -, -, -⟩ := h
  go_enter Tryz.func96, Tryz.ntmps96
  go_wp2_with fail
  refine (HS.out _ (Mod.refl _ _)).mono ?_
  rintro e w1 ⟨⟨bl, rfl⟩, M1⟩
  have HM1 := hid6 (fun o => M1.alloc o)
  clear M1
  go_wp2_with fail
  refine Calls.mono (HI.out _ _ _ _ _ _ _ _ _ _) ?_
  rintro e w2 ⟨rfl, M2⟩
  have HM2 := hid6 ((HM1.out _).trans M2)
  have k2 : ∀ j, j < 10 → w2.cell? ⟨w1.heap.size, j, none⟩ = _ := fun j hj => M2.cell (p := ⟨w1.heap.size, j, none⟩) (by simp) (fun e => e)
  clear M2 HM1
  have e0 := k2 0 (by omega); have e1 := k2 1 (by omega); have e2 := k2 2 (by omega); have e3 := k2 3 (by omega); have e4 := k2 4 (by omega); have e5 := k2 5 (by omega); have e6 := k2 6 (by omega); have e7 := k2 7 (by omega); have e8 := k2 8 (by omega); have e9 := k2 9 (by omega)
  simp [go_sem] at e0 e1 e2 e3 e4 e5 e6 e7 e8 e9
  clear k2
  go_wp2_with (first | (go_at_call 43; refine (refuse_no _ _).mono ?_; rintro e w3 ⟨rfl, hw3⟩; rw [hw3]; clear hw3 w3))
  refine Calls.mono (HY.out _ _ _ _ _ _ _ _ HM2.out) ?_
  rintro e w3 ⟨rfl, M3⟩
  have HM3 := hid6 (HM2.out.trans M3)
  have c0' : w3.cell? ⟨k, 0, none⟩ = some (.pointer (some ⟨t, 0, none⟩)) := (HK.out.new HM3.out).c0
  clear M3 e0 e1 e2 e3 e4 e5 e6 e7 e8 e9 HM2
  go_wp2_with (first | (go_at_call 43; refine (refuse_no _ _).mono ?_; rintro e w4 ⟨rfl, hw4⟩; rw [hw4]; clear hw4 w4))
  refine Calls.mono (HF.out _ HM3.out) ?_
  rintro e w4 ⟨rfl, M4⟩
  have HM4 := hid6 (HM3.out.trans M4)
  clear M4
  go_wp2
  go_ret
  exact ⟨rfl, HM4.out⟩
set_option maxRecDepth 100000 in
set_option maxHeartbeats 2000000 in
theorem tVacant (k : Nat) (d : Int) (l : List UInt8) (sl : Bool) (w : World) (h1 : ¬ l = []) (h2 : ¬ l = [46]) (h3 : ¬ l = [46, 46]) : Calls Tryz.prog 71 #[.pointer (some ⟨k, 0, none⟩), .agg #[.int .i64 d, .string ⟨l.toArray⟩, .int .i64 0, .bool sl]] w fun x w' => x = .returned (.tuple #[]) ∧ Mod (fun _ => False) w w' := by
  have HB : Hid (∀ W, _) := fun W => tBad d 0 l sl W h1 h2 h3
  have HM0 : Hid (∀ o, Mod (fun _ => False) w (w.alloc o)) := fun o => (Mod.refl _ w).alloc o
  unfold spA at HB
  clear h1 h2 h3
  go_enter Tryz.func71, Tryz.ntmps71
  go_wp2_with fail
  refine Calls.mono (HB.out _) ?_
  rintro e w1 ⟨rfl, M1⟩
  have HM1 := hid6 ((HM0.out _).trans M1)
  have e2 : w1.cell? ⟨w.heap.size, 2, none⟩ = some (.int .i64 0) := by rw [M1.cell (p := ⟨w.heap.size, 2, none⟩) (by simp) (fun e => e)]; simp [go_sem]
  clear M1
  go_wp2_with (first | (go_at_call 43; refine (refuse_no _ _).mono ?_; rintro e w3 ⟨rfl, hw3⟩; rw [hw3]; clear hw3 w3))
  exact ⟨rfl, _, results_none rfl _ _ _, rfl, HM1.out⟩
set_option maxRecDepth 100000 in
set_option maxHeartbeats 2000000 in
theorem tWritable {w : World} {k t : Nat} {u g : Int} {ga : Option Addr} {gc : Nat} {um cw : Int} (h : TkAt w k t u g ga gc um cw) (d i : Int) (l : List UInt8) (sl : Bool) (f : Nat → Int) (hS : StA w k d f) (hl : (f 3 == 0) = false) (hacc : accB (f 0) (f 1) u (memB g [] (f 2)) 2 = true) :
    Calls Tryz.prog 72 #[.pointer (some ⟨k, 0, none⟩), .agg #[.int .i64 d, .string ⟨l.toArray⟩, .int .i64 i, .bool sl]] w fun x w' => x = .returned (.tuple #[]) ∧ Mod (fun _ => False) w w' := by
  have HS := hid6 hS
  have HM0 : Hid (∀ o, Mod (fun _ => False) w (w.alloc o)) := fun o => (Mod.refl _ w).alloc o
  have HG : Hid (∀ s0 s2 s3 s4 s5 s6 s7 s8 s9 W, _) := fun s0 s2 s3 s4 s5 s6 s7 s8 s9 W => tGone s0 (f 3) s2 s3 s4 s5 s6 s7 s8 s9 W
  have HY : Hid (∀ s0 s1 s4 s5 s7 s8 s9 W (hM : Mod (fun _ => False) w W), _) := fun s0 s1 s4 s5 s7 s8 s9 W hM => tMay (h.new hM) s0 s1 (f 1) (f 2) s4 s5 (f 0) s7 s8 s9 2
  unfold sA at HG HY
  rw [hl] at HG
  rw [hacc] at HY
  clear hS hacc hl h
  go_enter Tryz.func72, Tryz.ntmps72
  go_wp2_with fail
  refine (HS.out _ (HM0.out _)).mono ?_
  rintro e w1 ⟨⟨bl, rfl⟩, M1⟩
  have HM1 := hid6 (fun o => ((HM0.out _).trans M1).alloc o)
  clear M1
  go_wp2_with fail
  refine Calls.mono (HG.out _ _ _ _ _ _ _ _ _ _) ?_
  rintro e w2 ⟨rfl, M2⟩
  have HM2 := hid6 ((HM1.out _).trans M2)
  have k2 : ∀ j, j < 10 → w2.cell? ⟨w1.heap.size, j, none⟩ = _ := fun j hj => M2.cell (p := ⟨w1.heap.size, j, none⟩) (by simp) (fun e => e)
  clear M2 HM1
  have e0 := k2 0 (by omega); have e1 := k2 1 (by omega); have e2 := k2 2 (by omega); have e3 := k2 3 (by omega); have e4 := k2 4 (by omega); have e5 := k2 5 (by omega); have e6 := k2 6 (by omega); have e7 := k2 7 (by omega); have e8 := k2 8 (by omega); have e9 := k2 9 (by omega)
  simp [go_sem] at e0 e1 e2 e3 e4 e5 e6 e7 e8 e9
  clear k2
  go_wp2_with (first | (go_at_call 43; refine (refuse_no _ _).mono ?_; rintro e w3 ⟨rfl, hw3⟩; rw [hw3]; clear hw3 w3))
  refine Calls.mono (HY.out _ _ _ _ _ _ _ _ HM2.out) ?_
  rintro e w3 ⟨rfl, M3⟩
  have HM3 := hid6 (HM2.out.trans M3)
  clear M3 e0 e1 e2 e3 e4 e5 e6 e7 e8 e9 HM2
  go_wp2_with (first | (go_at_call 43; refine (refuse_no _ _).mono ?_; rintro e w4 ⟨rfl, hw4⟩; rw [hw4]; clear hw4 w4))
  exact ⟨rfl, _, results_none rfl _ _ _, rfl, HM3.out⟩
end Go.Proofs.YtgkkbplecfhmdaaGreatDoor
/- A call's frame: ask, where the work ends well. Conditions: the file system lies in memory; the work does as said. -/
namespace Go.Proofs.YtgkkbplecfhmdaaGreatDoor
open Go.RowKit
theorem tTable (fb : Nat) (v : Option Addr) (w : World) (h : w.cell? ⟨fb, 0, none⟩ = some (.pointer v)) : Calls Tryz.prog 83 #[.pointer (some ⟨fb, 0, none⟩)] w fun e w' => e = .returned (.pointer v) ∧ w' = w := by
  go_enter Tryz.func83, Tryz.ntmps83
  go_wp2
  go_ret
  exact ⟨rfl, rfl⟩
set_option maxRecDepth 100000 in
set_option maxHeartbeats 2000000 in
theorem idleInt (p q : Addr) (w : World) :
    CallsD Tryz.prog 92 #[.pointer (some p), .pointer (some q)] .returning w fun e u' w' => e = .returned (.tuple #[]) ∧ u' = .returning ∧ w' = w := by
  refine callsD_of_wpS Tryz.func92 rfl fun c₀ cs hu => ?_
  apply wpS_seq
  generalize hQ : Exit.thenS _ _ = Q2
  apply wpS_seq
  apply wpS_region
  simp [wpOpsS, go_sem, recoverD, hu, Tryz.ntmps92, Exit.thenS]
  simp only [Array.replicate_succ, Array.replicate_zero, List.push_toArray, List.setIfInBounds_toArray, List.set_cons_succ, List.set_cons_zero, List.append_toArray, List.nil_append, List.cons_append]
  refine wpS_of_wp ?_
  go_wp2
  rw [← hQ]
  clear hQ
  refine ⟨rfl, .returning, ?_, .tuple #[], results_none rfl _ _ _, rfl, rfl, rfl⟩
  cases c₀
  simp_all
/-- The file system lies in memory: its table. -/
def FsAt (w : World) (fb t : Nat) : Prop := w.cell? ⟨fb, 0, none⟩ = some (.pointer (some ⟨t, 0, none⟩))
/-- What a work is given: a task of its own, with nothing to give back. -/
structure TkNew (w W : World) (K t : Nat) (u g : Int) (ga : Option Addr) (gc : Nat) (um cw : Int) : Prop where
  M : Mod (fun _ => False) w W
  le : w.heap.size ≤ K
  k : TkAt W K t u g ga gc um cw
  b6 : W.cell? ⟨K, 6, none⟩ = some (.slice none 0 0)
  fr : ∀ o, W.frozen? ⟨K, o, none⟩ = false
/-- The normal way out alone. -/
def OnlyN6 (Q : Exit → Act → World → Prop) : Exit → Act → World → Prop
  | .normal, a, w => Q .normal a w
  | _, _, _ => False
theorem wp_only6 {P : Program} {c : Code} {Q : Exit → Act → World → Prop} {a : Act} {w : World} (h : c.wp P (OnlyN6 Q) a w) : c.wp P Q a w :=
  Code.wp_mono (fun e a w hq => by cases e <;> first | exact hq | exact hq.elim) h
theorem Mod.fromNew {S : Nat → Prop} {a b c : World} {K : Nat} (h0 : Mod (fun _ => False) a b) (h : Mod (fun x => S x ∨ x = K) b c) (hK : a.heap.size ≤ K) : Mod S a c :=
  ⟨h.os.trans h0.os, h.tape.trans h0.tape, h.output.trans h0.output, Nat.le_trans h0.size h.size, fun i hi hs => (h.block i (Nat.lt_of_lt_of_le hi h0.size) (fun e => by rcases e with e | e; exact hs e; omega)).trans (h0.block i hi (fun e => e))⟩
theorem tk_lay1 {w W2 : World} {t : Nat} {u g : Int} {ga : Option Addr} {gc : Nat} {um cw : Int} (hM : Mod (fun _ => False) w W2) (hz : w.heap.size + 2 = W2.heap.size) (k6 : W2.cell? ⟨w.heap.size + 1, 0, none⟩ = some (.int .i64 0)) (k7 : W2.frozen? ⟨w.heap.size + 1, 0, none⟩ = false) {T T' : TypeId} :
    let W := ((W2.alloc (.cells #[.pointer (some ⟨t, 0, none⟩), .int .i64 u, .int .i64 g, .slice ga 0 gc, .int .i64 um, .int .i64 cw, .slice none 0 0] T)).alloc (.cells #[.pointer (some ⟨W2.heap.size, 0, none⟩)] T')).drew
    W.cell? ⟨W2.heap.size + 1, 0, none⟩ = some (.pointer (some ⟨W2.heap.size, 0, none⟩)) ∧ W.cell? ⟨w.heap.size + 1, 0, none⟩ = some (.int .i64 0) ∧ W.frozen? ⟨w.heap.size + 1, 0, none⟩ = false ∧ ¬ W2.heap.size = w.heap.size + 1 ∧ Hid (TkNew w W W2.heap.size t u g ga gc um cw) := by
  intro W
  have hlt : w.heap.size + 1 < W2.heap.size := by omega
  refine ⟨by simp [W, go_sem], by show ((W2.alloc _).alloc _).cell? _ = _; rw [World.cell?_alloc_past _ _ _ (by simp; omega), World.cell?_alloc_past _ _ _ hlt]; exact k6, by show ((W2.alloc _).alloc _).frozen? _ = _; rw [World.frozen?_alloc_past _ _ _ (by simp; omega), World.frozen?_alloc_past _ _ _ hlt]; exact k7, by omega, ⟨((hM.alloc _).alloc _).drewN 1, by omega, ⟨by simp [W, go_sem], by simp [W, go_sem], by simp [W, go_sem], by simp [W, go_sem], by simp [W, go_sem], by simp [W, go_sem]⟩, by simp [W, go_sem], fun o => by simp [W, go_sem]⟩⟩
theorem tk_lay2 {w W2 : World} {t : Nat} {u g : Int} {ga : Option Addr} {gc : Nat} {um cw : Int} (hM : Mod (fun _ => False) w W2) (hz : w.heap.size + 2 = W2.heap.size) (k6 : W2.cell? ⟨w.heap.size + 1, 0, none⟩ = some (.int .i64 0)) (k7 : W2.frozen? ⟨w.heap.size + 1, 0, none⟩ = false) {T T' : TypeId} :
    let W := ((W2.alloc (.cells #[.pointer (some ⟨W2.heap.size + 1, 0, none⟩)] T')).alloc (.cells #[.pointer (some ⟨t, 0, none⟩), .int .i64 u, .int .i64 g, .slice ga 0 gc, .int .i64 um, .int .i64 cw, .slice none 0 0] T)).drew
    W.cell? ⟨W2.heap.size, 0, none⟩ = some (.pointer (some ⟨W2.heap.size + 1, 0, none⟩)) ∧ W.cell? ⟨w.heap.size + 1, 0, none⟩ = some (.int .i64 0) ∧ W.frozen? ⟨w.heap.size + 1, 0, none⟩ = false ∧ ¬ W2.heap.size + 1 = w.heap.size + 1 ∧ Hid (TkNew w W (W2.heap.size + 1) t u g ga gc um cw) := by
  intro W
  have hlt : w.heap.size + 1 < W2.heap.size := by omega
  refine ⟨by simp [W, go_sem], by show ((W2.alloc _).alloc _).cell? _ = _; rw [World.cell?_alloc_past _ _ _ (by simp; omega), World.cell?_alloc_past _ _ _ hlt]; exact k6, by show ((W2.alloc _).alloc _).frozen? _ = _; rw [World.frozen?_alloc_past _ _ _ (by simp; omega), World.frozen?_alloc_past _ _ _ hlt]; exact k7, by omega, ⟨((hM.alloc _).alloc _).drewN 1, by omega, ⟨by simp [W, go_sem], by simp [W, go_sem], by simp [W, go_sem], by simp [W, go_sem], by simp [W, go_sem], by simp [W, go_sem]⟩, by simp [W, go_sem], fun o => by simp [W, go_sem]⟩⟩
end Go.Proofs.YtgkkbplecfhmdaaGreatDoor
/- The walk of Used: the blocks in use, rising, in new memory. Condition: the store lies in memory as 'St' says. -/
namespace Go.Proofs.YtgkkbplecfhmdaaGreatDoor
open Go.RowKit
theorem Mod.grown {s : Nat → Prop} {a w w' : World} {row : Option Nat} (h : Mod s a w) (hg : w.grownBy w' row) (hr : ∀ k, row = some k → a.heap.size ≤ k) : Mod s a w' :=
  ⟨hg.os.trans h.os, hg.tape.trans h.tape, hg.output.trans h.output, Nat.le_trans h.size hg.size, fun k hk hs =>
    (hg.block k (Nat.lt_of_lt_of_le hk h.size) (fun e => by have := hr k e.symm; omega)).trans (h.block k hk hs)⟩
def usedL (u : Nat → Bool) (k : Nat) : List Nat := (List.range k).filter u
def intV (x : Nat) : Value := .int .i64 x
theorem usedL_yes (u : Nat → Bool) (k : Nat) (h : u k = true) : usedL u (k + 1) = usedL u k ++ [k] := by
  simp [usedL, List.range_succ, List.filter_append, h]
theorem usedL_no (u : Nat → Bool) (k : Nat) (h : u k = false) : usedL u (k + 1) = usedL u k := by
  simp [usedL, List.range_succ, List.filter_append, h]
theorem usedL_le (u : Nat → Bool) (k : Nat) : (usedL u k).length ≤ k := by
  have := List.length_filter_le u (List.range k)
  simpa [usedL] using this
theorem usedL_cnt (u : Nat → Bool) : ∀ k, (usedL u k).length = Bt.cnt u k
  | 0 => rfl
  | k + 1 => by
    have ih := usedL_cnt u k
    cases h : u k with
    | false => rw [usedL_no u k h, ih]; simp [Bt.cnt, h]
    | true => rw [usedL_yes u k h, List.length_append, ih]; simp [Bt.cnt, h]
theorem info3 : ∃ i, Tryz.prog.info? 3 = some i ∧ i.zero = some (.int .i64 0) ∧ i.size = 1 ∧ i.bytes = 8 := info_of (by kernel_rfl)
theorem und43 : Tryz.prog.underlying 27 = some (.slice 3) := by kernel_rfl
end Go.Proofs.YtgkkbplecfhmdaaGreatDoor
