/- Several texts of this claim, one behind the other, in their order. -/
import Derived.Test.YtgkkbplecfhmdaaGreatDoorM26
import Derived.Test.YtgkkbplecfhmdaaGreatDoorM30
import Derived.Test.YtgkkbplecfhmdaaGreatDoorCards
import Derived.Test.YtgkkbplecfhmdaaGreatDoorTie
import Derived.ProofKit
import Derived.LaidMore
import Derived.OpenShut
import Derived.ChangeOld
import Derived.Stop.Joined
import Derived.SevenTiedAt
import Derived.Lib.LaidTab
/- DescNone's walk: a process that no call made, nil and zero. Condition: the library's table is as its initialiser lays it. -/
namespace Go.Proofs.YtgkkbplecfhmdaaGreatDoor
open Go.RowKit
theorem fsNInfo (w : World) (i : Int) : Calls Tryz.prog 36 #[.pointer none, .int .i64 i] w fun e w' => e = .returned (.tuple #[.agg #[.int .i64 0, .int .i64 0, .int .i64 0, .int .i64 0, .int .i64 0, .int .i64 0, .int .i64 0, .int .i64 0, .int .i64 0, .int .i64 0], .int .i64 14]) ∧ Mod (fun _ => False) w w' := by
  have HT : Hid (∀ W, _) := fun W => tTableNil W
  have HS : Hid (∀ W, Calls Tryz.prog 84 #[.pointer none, .int .i64 i] W _) := fun W => tn_stat (.pointer none) W (tmade_nil _) (.int .i64 i)
  unfold zeroS at HS
  have HM : Hid (∀ o o1, Mod (fun _ => False) w ((w.alloc o).alloc o1)) := fun o o1 => ((Mod.refl _ w).alloc o).alloc o1
  go_enter Tryz.func36, Tryz.ntmps36
  go_wp2_with (first | (go_at_call 83; refine Calls.mono (HT.out _) ?_; rintro e w3 ⟨rfl, hw3⟩; rw [hw3]; clear hw3 w3))
  refine Calls.mono (HS.out _) ?_
  rintro e w1 ⟨rfl, hw1⟩
  rw [hw1]
  clear hw1 w1
  go_wp2
  refine ⟨rfl, _, by simp [results, Tryz.results36, go_sem], rfl, HM.out _ _⟩
set_option maxRecDepth 100000 in
set_option maxHeartbeats 2000000 in
theorem pNewNil (w : World) : Calls Tryz.prog 19 #[.pointer none, .agg #[.int .i64 0, .int .i64 0, .slice none 0 0, .int .i64 0, .int .i64 0]] w fun e w' => e = .returned (.tuple #[.pointer none, .int .i64 14]) ∧ Mod (fun _ => False) w w' := by
  have HI : Hid (∀ W, _) := fun W => fsNInfo W 1
  have HM : Hid (∀ o, Mod (fun _ => False) w (w.alloc o)) := fun o => (Mod.refl _ w).alloc o
  go_enter Tryz.func19, Tryz.ntmps19
  go_wp2_with fail
  refine Calls.mono (HI.out _) ?_
  rintro e w1 ⟨rfl, M1⟩
  have HM1 := hid6 (fun o => ((HM.out _).trans M1).alloc o)
  clear M1
  go_wp2
  go_ret2
  exact ⟨rfl, HM1.out _⟩
/-- A call's words lie in memory. -/
structure AcAt (w : World) (B : Nat) (s1 s2 : ByteArray) (z3 z4 : Int) (a : Option Addr) (n c : Nat) : Prop where
  c1 : w.cell? ⟨B, 1, none⟩ = some (.string s1)
  c2 : w.cell? ⟨B, 2, none⟩ = some (.string s2)
  c3 : w.cell? ⟨B, 3, none⟩ = some (.int .i64 z3)
  c4 : w.cell? ⟨B, 4, none⟩ = some (.int .i64 z4)
  c6 : w.cell? ⟨B, 6, none⟩ = some (.slice a n c)
theorem AcAt.new {w w' : World} {B : Nat} {s1 s2 : ByteArray} {z3 z4 : Int} {a : Option Addr} {n c : Nat} (h : AcAt w B s1 s2 z3 z4 a n c) (hM : Mod (fun _ => False) w w') : AcAt w' B s1 s2 z3 z4 a n c := by
  have hl : B < w.heap.size := block_lt_of_cell h.c1
  exact ⟨(hM.cell (p := ⟨B, 1, none⟩) hl (fun e => e)).trans h.c1, (hM.cell (p := ⟨B, 2, none⟩) hl (fun e => e)).trans h.c2, (hM.cell (p := ⟨B, 3, none⟩) hl (fun e => e)).trans h.c3, (hM.cell (p := ⟨B, 4, none⟩) hl (fun e => e)).trans h.c4, (hM.cell (p := ⟨B, 6, none⟩) hl (fun e => e)).trans h.c6⟩
theorem ixn0 (B : Nat) (W : World) : (Instr.index 34 (.agg #[.pointer none, .pointer (some ⟨B, 0, none⟩)]) (.int .i64 0)).run Tryz.prog W = .ok (.pointer none) W := by kernel_rfl
theorem ixn1 (B : Nat) (W : World) : (Instr.index 34 (.agg #[.pointer none, .pointer (some ⟨B, 0, none⟩)]) (.int .i64 1)).run Tryz.prog W = .ok (.pointer (some ⟨B, 0, none⟩)) W := by kernel_rfl
set_option maxRecDepth 100000 in
set_option maxHeartbeats 8000000 in
theorem none7_walk (c0 : Value) (s1 s2 : ByteArray) (z3 z4 : Int) (c5 : Value) (a : Option Addr) (n c : Nat) (c7 : Value) (w : World) (hT : TabIs w) : Calls Tryz.prog 3 #[.agg #[c0, .string s1, .string s2, .int .i64 z3, .int .i64 z4, c5, .slice a n c, c7]] w fun e w' => e = .returned (.bool true) ∧ Mod (fun _ => False) w w' := by
  have HT := hid6 hT
  clear hT
  go_enter Tryz.func3, Tryz.ntmps3
  go_wp2_with fail
  have HN0 := hid6 (show NoP (some ⟨w.heap.size + 1, 0, none⟩) ((w.alloc (.cells #[c0, .string s1, .string s2, .int .i64 z3, .int .i64 z4, c5, .slice a n c, c7] 24)).alloc (.cells #[.pointer none, .int .i64 0, .int .i64 0, .slice none 0 0, .int .i64 0, .int .i64 0, .pointer none, .pointer none, .pointer none, .pointer none, .pointer none, .pointer none, .pointer none, .pointer none, .pointer none, .pointer none, .pointer none, .pointer none, .pointer none, .pointer none, .pointer none, .pointer none] 33)) from .inr ⟨w.heap.size + 1, rfl, by simp [go_sem], by simp [go_sem], by simp [go_sem], by simp [go_sem], by simp [go_sem], by simp [go_sem]⟩)
  have HA0 := hid6 (show AcAt ((w.alloc (.cells #[c0, .string s1, .string s2, .int .i64 z3, .int .i64 z4, c5, .slice a n c, c7] 24)).alloc (.cells #[.pointer none, .int .i64 0, .int .i64 0, .slice none 0 0, .int .i64 0, .int .i64 0, .pointer none, .pointer none, .pointer none, .pointer none, .pointer none, .pointer none, .pointer none, .pointer none, .pointer none, .pointer none, .pointer none, .pointer none, .pointer none, .pointer none, .pointer none, .pointer none] 33)) w.heap.size s1 s2 z3 z4 a n c from ⟨by simp [go_sem], by simp [go_sem], by simp [go_sem], by simp [go_sem], by simp [go_sem]⟩)
  have HM0 := hid6 (show Mod (fun _ => False) w ((w.alloc (.cells #[c0, .string s1, .string s2, .int .i64 z3, .int .i64 z4, c5, .slice a n c, c7] 24)).alloc (.cells #[.pointer none, .int .i64 0, .int .i64 0, .slice none 0 0, .int .i64 0, .int .i64 0, .pointer none, .pointer none, .pointer none, .pointer none, .pointer none, .pointer none, .pointer none, .pointer none, .pointer none, .pointer none, .pointer none, .pointer none, .pointer none, .pointer none, .pointer none, .pointer none] 33)) from ((Mod.refl _ w).alloc _).alloc _)
  generalize hB : w.heap.size = B at *
  generalize (w.alloc (.cells #[c0, .string s1, .string s2, .int .i64 z3, .int .i64 z4, c5, .slice a n c, c7] 24)).alloc (.cells #[.pointer none, .int .i64 0, .int .i64 0, .slice none 0 0, .int .i64 0, .int .i64 0, .pointer none, .pointer none, .pointer none, .pointer none, .pointer none, .pointer none, .pointer none, .pointer none, .pointer none, .pointer none, .pointer none, .pointer none, .pointer none, .pointer none, .pointer none, .pointer none] 33) = W0 at *
  go_loopg [26] 2 (fun gh i wr => ∃ k : Nat, k ≤ 2 ∧ gh = 2 - k ∧ i = .int .i64 k ∧ Hid (Mod (fun _ => False) W0 wr))
  case atStart => exact ⟨0, by omega, rfl, rfl, Mod.refl _ _⟩
  case round =>
    obtain ⟨k, hk, rfl, rfl, HMr⟩ := hrel
    by_cases hlt : k < 2
    · have hlt' : (k : Int) < 2 := by omega
      obtain ⟨pv, hix, hpv⟩ : ∃ pv, (∀ W, (Instr.index 34 (.agg #[.pointer none, .pointer (some ⟨B + 1, 0, none⟩)]) (.int .i64 k)).run Tryz.prog W = .ok (.pointer pv) W) ∧ Hid (NoP pv wr) := by
        have h2 : k = 0 ∨ k = 1 := by omega
        rcases h2 with rfl | rfl
        · exact ⟨none, ixn0 (B + 1), .inl rfl⟩
        · exact ⟨some ⟨B + 1, 0, none⟩, ixn1 (B + 1), HN0.out.new HMr.out⟩
      have HP : Hid (NoP pv wr) := hpv
      have HA := hid6 (HA0.out.new HMr.out)
      have HR : Hid (∀ W, Mod (fun _ => False) wr W → Mod (fun _ => False) wr W) := fun _ h => h
      obtain ⟨a1, a2, a3, a4, a6⟩ := HA.out
      clear hpv
      go_wp2_with (first | (go_at_call 4; refine Calls.mono (nOpen HP.out _ _ _) ?_; rintro e w9 ⟨rfl, hw9⟩; rw [hw9]; clear hw9 w9) | (go_at_call 5; refine Calls.mono (nRead HP.out _ _) ?_; rintro e w9 ⟨rfl, hw9⟩; rw [hw9]; clear hw9 w9) | (go_at_call 6; refine Calls.mono (nWrite HP.out _ _ _ _) ?_; rintro e w9 ⟨rfl, hw9⟩; rw [hw9]; clear hw9 w9) | (go_at_call 7; refine Calls.mono (nPipe HP.out) ?_; rintro e w9 ⟨rfl, hw9⟩; rw [hw9]; clear hw9 w9))
      refine Calls.mono (nStat HP.out _) ?_
      rintro e w1 ⟨rfl, M1⟩
      have HM1 := hid6 ((Mod.refl (fun _ => False) wr).trans M1)
      have HP1 := hid6 (HP.out.new (HR.out _ HM1.out))
      obtain ⟨a1, a2, a3, a4, a6⟩ := (HA.out.new (HR.out _ HM1.out))
      have hl1 := block_lt_of_cell a1
      clear M1
      go_wp2_with fail
      refine Calls.mono (nGetcwd (HP1.out.new ((Mod.refl _ _).alloc _))) ?_
      rintro e w2 ⟨rfl, M2⟩
      have HM2 := hid6 ((HM1.out.alloc _).trans M2)
      have HP2 := hid6 (HP.out.new (HR.out _ HM2.out))
      obtain ⟨a1, a2, a3, a4, a6⟩ := (HA.out.new (HR.out _ HM2.out))
      have hl2 := block_lt_of_cell a1
      clear M2
      go_wp2_with fail
      refine Calls.mono (nReaddir HP2.out _) ?_
      rintro e w3 ⟨rfl, M3⟩
      have HM3 := hid6 (HM2.out.trans M3)
      have HP3 := hid6 (HP.out.new (HR.out _ HM3.out))
      obtain ⟨a1, a2, a3, a4, a6⟩ := (HA.out.new (HR.out _ HM3.out))
      have hl3 := block_lt_of_cell a1
      clear M3
      go_wp2_with (first | (go_at_call 11; refine Calls.mono (nCloseAll (HP3.out.new ((Mod.refl _ _).alloc _))) ?_; rintro e w9 ⟨rfl, hw9⟩; rw [hw9]; clear hw9 w9))
      refine Calls.mono (nMkdir (HP3.out.new ((Mod.refl _ _).alloc _)) _ _) ?_
      rintro e w4 ⟨rfl, M4⟩
      have HM4 := hid6 ((HM3.out.alloc _).trans M4)
      have HP4 := hid6 (HP.out.new (HR.out _ HM4.out))
      obtain ⟨a1, a2, a3, a4, a6⟩ := (HA.out.new (HR.out _ HM4.out))
      have hl4 := block_lt_of_cell a1
      clear M4
      go_wp2_with (first | (go_at_call 13; refine Calls.mono (nClose HP4.out _) ?_; rintro e w9 ⟨rfl, hw9⟩; rw [hw9]; clear hw9 w9))
      refine Calls.mono (nRename HP4.out _ _) ?_
      rintro e w5 ⟨rfl, M5⟩
      have HM5 := hid6 (HM4.out.trans M5)
      have HP5 := hid6 (HP.out.new (HR.out _ HM5.out))
      obtain ⟨a1, a2, a3, a4, a6⟩ := (HA.out.new (HR.out _ HM5.out))
      have hl5 := block_lt_of_cell a1
      clear M5
      go_wp2_with (first | (go_at_call 15; refine Calls.mono (nFS HP5.out) ?_; rintro e w9 ⟨rfl, hw9⟩; rw [hw9]; clear hw9 w9) | (go_at_call 16; refine Calls.mono (nFds HP5.out) ?_; rintro e w9 ⟨rfl, hw9⟩; rw [hw9]; clear hw9 w9))
      refine Calls.mono (nCredP HP5.out) ?_
      rintro e w6 ⟨rfl, M6⟩
      have HM6 := hid6 (HM5.out.trans M6)
      clear M6
      unfold crZ
      go_wp2_with fail
      refine Calls.mono (nWho _) ?_
      rintro e w7 ⟨rfl, M7⟩
      have HM7 := hid6 (HMr.out.trans (HM6.out.trans M7))
      clear M7
      go_wp2_with fail
      go_roundg (2 - (k + 1))
      case measure => omega
      case rel => exact ⟨k + 1, by omega, rfl, by go_num, HM7⟩
    · obtain rfl : k = 2 := by omega
      have HTr : Hid (TabIs wr) := fun j hj => ((HM0.out.trans HMr.out).cell (p := ⟨1, j, none⟩) (HT.out.lt) (fun e => e)).trans (HT.out j hj)
      go_wp2_with fail
      refine Calls.mono (pNewNil _) ?_
      rintro e w1 ⟨rfl, M1⟩
      have HM1 := hid6 ((HM0.out.trans HMr.out).trans M1)
      have HT1 : Hid (TabIs w1) := fun j hj => (M1.cell (p := ⟨1, j, none⟩) (HTr.out.lt) (fun e => e)).trans (HTr.out j hj)
      clear M1
      go_wp2_with fail
      refine Calls.mono (lives7 _ HT1.out) ?_
      rintro e w2 ⟨rfl, M2⟩
      have HM2 := hid6 (HM1.out.trans M2)
      clear M2
      go_wp2
      go_ret
      exact ⟨rfl, HM2.out⟩
end Go.Proofs.YtgkkbplecfhmdaaGreatDoor
/- What the rows of this seat share: the listed table as the walks want it, and a start that meets the condition. -/
namespace Go.Proofs.YtgkkbplecfhmdaaGreatDoor
open Go.ChangeShapes Go.WideShapes Go.ChangeAt Go.RowKit

theorem Mod.below0 {w w' : World} (h : Mod (fun _ => False) w w') : Below w.heap.size w w' := h.below (Nat.le_refl _) (fun _ _ h => h)
theorem own : ownKnob Tryz.prog.godebug = none := by kernel_rfl
theorem laidOut : laidOutB Tryz.prog = true := by kernel_rfl
theorem gTab : Tryz.prog.globalNamed "math/bits.deBruijn64tab" = some 1 := by kernel_rfl
theorem tTab : (Tryz.prog.globals[1]?).map (·.type) = some 265 := by kernel_rfl
abbrev laidL : List (String × DataW Unit) := [("math/bits.deBruijn64tab", Rows.laid_math_bits_deBruijn64tab)]
/-- The door's own heap meets the condition. -/
theorem door_met (os : Os) (args : Array Value) : laidMetH Tryz.prog laidL ((World.doorLaid Tryz.prog 400 os).forCall (fun _ _ => 0) ⟨#[], args, []⟩).memory :=
  laidMetH_of_parts3 (fuel := 8) (laidMet_of_run' 8 (by kernel_rfl) (by kernel_rfl)) (by kernel_rfl) (by kernel_rfl)
def tabZ : List Int := Lib.deBruijn64tab.map Int.ofNat
theorem tabInts : Rows.laid_math_bits_deBruijn64tab (H := Unit) = Lib.tabData .u8 tabZ := rfl
/-- What the condition gives the walks. -/
theorem of_laid {W : World} (h : laidMetH Tryz.prog laidL W) : TabIs W := by
  rw [MakeChecks.laidMetH_plain _ _ _ (by kernel_rfl)] at h
  have hT := Lib.tabIs_of_head (k := .u8) (zs := tabZ) (e := 5) (n := 64) gTab tTab (by kernel_rfl) (by kernel_rfl) (by kernel_rfl) (by kernel_rfl) (show laidMet Tryz.prog [("math/bits.deBruijn64tab", Lib.tabData .u8 tabZ)] W from tabInts ▸ h)
  intro j hj
  have := hT.cell gTab j hj
  rw [this]
  simp only [tabZ, List.getD_eq_getElem?_getD, List.getElem?_map]
  rw [List.getElem?_eq_getElem (show j < Lib.deBruijn64tab.length from hj)]
  rfl
end Go.Proofs.YtgkkbplecfhmdaaGreatDoor
