/- Several texts of this claim, one behind the other, in their order. -/
import Derived.Test.YtpcbpikhiooafaaGreatDoorM20
import Derived.Test.YtpcbpikhiooafaaGreatDoorM2
import Derived.Deep.LoopGhost
import Derived.Maps.AppendAt
/- A process in memory: its small calls FS, made, inTable, Fds, room. Condition: the process lies in memory as 'PAt' says. -/
namespace Go.Proofs.YtpcbpikhiooafaaGreatDoor
open Go.RowKit
/-- A process: its file system, who it is (of no groups), its descriptors. -/
structure PAt (w : World) (P fb : Nat) (u g : Int) (ga : Option Addr) (gc : Nat) (um cw : Int) (d : Nat → Option Addr) : Prop where
  c0 : w.cell? ⟨P, 0, none⟩ = some (.pointer (some ⟨fb, 0, none⟩))
  c1 : w.cell? ⟨P, 1, none⟩ = some (.int .i64 u)
  c2 : w.cell? ⟨P, 2, none⟩ = some (.int .i64 g)
  c3 : w.cell? ⟨P, 3, none⟩ = some (.slice ga 0 gc)
  c4 : w.cell? ⟨P, 4, none⟩ = some (.int .i64 um)
  c5 : w.cell? ⟨P, 5, none⟩ = some (.int .i64 cw)
  fd : ∀ j, j < 16 → w.cell? ⟨P, 6 + j, none⟩ = some (.pointer (d j))
  fr : ∀ o, w.frozen? ⟨P, o, none⟩ = false
section
variable {w w' : World} {P fb : Nat} {u g : Int} {ga : Option Addr} {gc : Nat} {um cw : Int} {d : Nat → Option Addr}
theorem PAt.lt (h : PAt w P fb u g ga gc um cw d) : P < w.heap.size := block_lt_of_cell h.c0
theorem PAt.mod (h : PAt w P fb u g ga gc um cw d) {s : Nat → Prop} (hM : Mod s w w') (hs : ¬ s P) : PAt w' P fb u g ga gc um cw d where
  c0 := (hM.cell (p := ⟨P, 0, none⟩) h.lt hs).trans h.c0
  c1 := (hM.cell (p := ⟨P, 1, none⟩) h.lt hs).trans h.c1
  c2 := (hM.cell (p := ⟨P, 2, none⟩) h.lt hs).trans h.c2
  c3 := (hM.cell (p := ⟨P, 3, none⟩) h.lt hs).trans h.c3
  c4 := (hM.cell (p := ⟨P, 4, none⟩) h.lt hs).trans h.c4
  c5 := (hM.cell (p := ⟨P, 5, none⟩) h.lt hs).trans h.c5
  fd := fun j hj => (hM.cell (p := ⟨P, 6 + j, none⟩) h.lt hs).trans (h.fd j hj)
  fr := fun o => (hM.frozen (p := ⟨P, o, none⟩) h.lt hs).trans (h.fr o)
theorem PAt.new (h : PAt w P fb u g ga gc um cw d) (hM : Mod (fun _ => False) w w') : PAt w' P fb u g ga gc um cw d := h.mod hM (fun e => e)
theorem pFS (h : PAt w P fb u g ga gc um cw d) : Calls Tryz.prog 44 #[.pointer (some ⟨P, 0, none⟩)] w fun e w' => e = .returned (.pointer (some ⟨fb, 0, none⟩)) ∧ w' = w := by
  have c0 := h.c0
  clear h
  go_enter Tryz.func44, Tryz.ntmps44
  go_wp2
  go_ret
  exact ⟨rfl, rfl⟩
theorem pMade (h : PAt w P fb u g ga gc um cw d) : Calls Tryz.prog 21 #[.pointer (some ⟨P, 0, none⟩)] w fun e w' => e = .returned (.bool true) ∧ w' = w := by
  have HF := hid6 (pFS h)
  clear h
  go_enter Tryz.func21, Tryz.ntmps21
  go_wp2_with (first | (go_at_call 44; refine Calls.mono HF.out ?_; rintro e w3 ⟨rfl, hw3⟩; rw [hw3]; clear hw3 w3))
  go_ret
  exact ⟨rfl, rfl⟩
end
theorem pIn (i : Int) (w : World) (h0 : 0 ≤ i) (h1 : i < 16) : Calls Tryz.prog 61 #[.int .i64 i] w fun e w' => e = .returned (.bool true) ∧ w' = w := by
  have h2 : decide (0 ≤ i) = true := by simpa using h0
  go_enter Tryz.func61, Tryz.ntmps61
  go_wp2
  go_ret
  exact ⟨rfl, rfl⟩
/-- The descriptors, as an array. -/
def fdV (d : Nat → Option Addr) : List Value := (List.range 16).map fun j => .pointer (d j)
theorem fdV_ix (d : Nat → Option Addr) (k : Nat) (hk : k < 16) (W : World) : (Instr.index 61 (.agg (fdV d).toArray) (.int .i64 k)).run Tryz.prog W = .ok (.pointer (d k)) W := by
  obtain rfl | rfl | rfl | rfl | rfl | rfl | rfl | rfl | rfl | rfl | rfl | rfl | rfl | rfl | rfl | rfl : k = 0 ∨ k = 1 ∨ k = 2 ∨ k = 3 ∨ k = 4 ∨ k = 5 ∨ k = 6 ∨ k = 7 ∨ k = 8 ∨ k = 9 ∨ k = 10 ∨ k = 11 ∨ k = 12 ∨ k = 13 ∨ k = 14 ∨ k = 15 := by omega
  all_goals kernel_rfl
theorem infFd : (Tryz.prog.info? 61).map (·.size) = some 16 := by kernel_rfl
theorem infInt : ∃ i, Tryz.prog.info? 3 = some i ∧ i.zero = some (.int .i64 0) ∧ i.size = 1 ∧ i.bytes = 8 := info_of (by kernel_rfl)
theorem undInts : Tryz.prog.underlying 31 = some (.slice 3) := by kernel_rfl
theorem PAt.range {w : World} {P fb : Nat} {u g : Int} {ga : Option Addr} {gc : Nat} {um cw : Int} {d : Nat → Option Addr} (h : PAt w P fb u g ga gc um cw d) : w.rangeAt P 6 (fdV d) := fun j v hv => by
  have hj : j < 16 := by have := (List.getElem?_eq_some_iff.1 hv).1; simpa [fdV] using this
  have : v = .pointer (d j) := by simp [fdV, hj] at hv; exact hv.symm
  rw [this]; exact h.fd j hj
theorem row_sl8 {w : World} {B e n : Nat} {v : Value} {xs : List Value} (h : w.ownsRow B e 1 v n xs) : ∃ a c, v = .slice a n c := by
  rcases h.2 with ⟨rfl, rfl⟩ | ⟨g, cap, cur, rfl, _⟩
  · exact ⟨_, _, rfl⟩
  · exact ⟨_, _, rfl⟩
/-- How many are open. -/
def fdN (d : Nat → Option Addr) : Nat := (usedL (fun j => (d j).isSome) 16).length
theorem used_le16 (u : Nat → Bool) (k : Nat) : (usedL u k).length ≤ k := by unfold usedL; exact Nat.le_trans (List.length_filter_le _ _) (by simp)
set_option maxRecDepth 100000 in
set_option maxHeartbeats 2000000 in
theorem pFds {w : World} {P fb : Nat} {u g : Int} {ga : Option Addr} {gc : Nat} {um cw : Int} {d : Nat → Option Addr} (h : PAt w P fb u g ga gc um cw d) : Calls Tryz.prog 45 #[.pointer (some ⟨P, 0, none⟩)] w fun e w' => ∃ a c, e = .returned (.slice a (fdN d) c) ∧ Mod (fun _ => False) w w' := by
  have HF := hid6 (pMade h)
  have HR := hid6 h.range
  have HI : Hid (∀ (k : Nat) W, k < 16 → (Instr.index 61 (.agg (fdV d).toArray) (.int .i64 k)).run Tryz.prog W = .ok (.pointer (d k)) W) := fun k W hk => fdV_ix d k hk W
  clear h
  obtain ⟨i0, hi0, hz0, hs0, hb0⟩ := infInt
  have HIn := hid6 (show Tryz.prog.info? 3 = some i0 ∧ i0.zero = some (.int .i64 0) ∧ i0.size = 1 ∧ i0.bytes = 8 from ⟨hi0, hz0, hs0, hb0⟩)
  clear hi0 hz0 hs0 hb0
  go_enter Tryz.func45, Tryz.ntmps45
  go_wp2_with (first | (go_at_call 21; refine Calls.mono HF.out ?_; rintro e w3 ⟨rfl, hw3⟩; rw [hw3]; clear hw3 w3) | (refine wpList_load_mid rfl 61 _ rfl P 6 rfl (fdV d) _ HR.out Tryz.underlying61 rfl infFd ?_))
  go_loopg [3, 14] 16 (fun gh v i wr => ∃ k : Nat, k ≤ 16 ∧ gh = 16 - k ∧ i = .int .i64 k ∧ Hid (wr.ownsRow w.heap.size 3 1 v (usedL (fun j => (d j).isSome) k).length ((usedL (fun j => (d j).isSome) k).map intV)) ∧ Hid (Mod (fun _ => False) w wr))
  case atStart => exact ⟨0, Nat.zero_le _, rfl, rfl, World.ownsRow_nil _ _ _ _, Mod.refl _ _⟩
  case round =>
    obtain ⟨k, hk, rfl, rfl, hown, hmod⟩ := hrel
    by_cases hlt : k < 16
    · have hlt' : (k : Int) < 16 := by omega
      have hix := fun W => HI.out k W hlt
      cases hd : d k with
      | none =>
        rw [hd] at hix
        have HU := hid6 (usedL_no (fun j => (d j).isSome) k (by show (d k).isSome = false; rw [hd]; rfl))
        clear hd
        go_wp2_with fail
        go_roundg (16 - (k + 1))
        case measure => omega
        case rel => exact ⟨k + 1, hlt, rfl, by go_num, by rw [HU.out]; exact hown, hmod⟩
      | some ad =>
        rw [hd] at hix
        have HU := hid6 (usedL_yes (fun j => (d j).isSome) k (by show (d k).isSome = true; rw [hd]; rfl))
        clear hd
        have hle := used_le16 (fun j => (d j).isSome) k
        have hO := hid6 (hown.out.alloc (.cells #[.int .i64 k] 3))
        have hsz := hmod.out.size
        go_wp2_with (first | (at_builtin; refine wpList_append_own _ rfl _ _ 31 rfl w.heap.size 3 i0 (.int .i64 0) 1 8 undInts HIn.out.1 HIn.out.2.1 HIn.out.2.2.1 HIn.out.2.2.2 rfl (by decide) _ _ _ rfl hO.out ⟨wr.heap.size, 0, none⟩ 1 1 [intV k] rfl rfl ?c1 ?c2 ?c3 ?c4 ?c5 ?_))
        case c1 =>
          intro j x hj
          match j, hj with
          | 0, hj =>
            simp at hj; subst hj
            show ((wr.alloc (.cells #[.int .i64 k] 3)).cell? _) = _
            rw [show (⟨wr.heap.size, 0, none⟩ : Addr).add 0 = ⟨wr.heap.size, 0, none⟩ from rfl, World.cell?_alloc_at _ _ _ _ rfl]; rfl
        case c2 => intro x hx; simp at hx; subst hx; rfl
        case c3 => unfold maxLen; omega
        case c4 => omega
        case c5 => simp; omega
        intro v' w1 hown' hgrow _
        have hO' : Hid (w1.ownsRow w.heap.size 3 1 v' (usedL (fun j => (d j).isSome) (k + 1)).length ((usedL (fun j => (d j).isSome) (k + 1)).map intV)) := by
          show w1.ownsRow _ _ _ _ _ _
          rw [HU.out, List.length_append, List.map_append]; exact hown'
        have hM' : Hid (Mod (fun _ => False) w w1) := ((hmod.out.alloc (.cells #[.int .i64 k] 3)).grown hgrow (fun j hj => (hown.out.lt j hj).1))
        clear hown' hgrow
        go_wp2_with fail
        go_roundg (16 - (k + 1))
        case measure => omega
        case rel => exact ⟨k + 1, hlt, rfl, by go_num, hO', hM'⟩
    · obtain rfl : k = 16 := by omega
      go_wp2_with fail
      go_ret
      obtain ⟨a, c, hv⟩ := row_sl8 hown.out
      exact ⟨a, c, by rw [hv]; rfl, hmod⟩
set_option maxRecDepth 100000 in
theorem pRoom {w : World} {P fb : Nat} {u g : Int} {ga : Option Addr} {gc : Nat} {um cw : Int} {d : Nat → Option Addr} (h : PAt w P fb u g ga gc um cw d) (n : Nat) (hn : n ≤ 16) (hr : fdN d + n ≤ 16) : Calls Tryz.prog 22 #[.pointer (some ⟨P, 0, none⟩), .int .i64 n] w fun e w' => e = .returned (.int .i64 0) ∧ Mod (fun _ => False) w w' := by
  have HF := hid6 (pMade h)
  have HD := hid6 (pFds h)
  clear h
  generalize fdN d = m at *
  have hw : IntKind.i64.wrap ((m : Int) + n) = (m : Int) + n := by rw [IntKind.wrap_i64]; omega
  have hc : decide ((16 : Int) < (m : Int) + n) = false := decide_eq_false (by omega)
  go_enter Tryz.func22, Tryz.ntmps22
  go_wp2_with (first | (go_at_call 21; refine Calls.mono HF.out ?_; rintro e w3 ⟨rfl, hw3⟩; rw [hw3]; clear hw3 w3))
  refine Calls.mono HD.out ?_
  rintro e w1 ⟨a, c, rfl, M1⟩
  have HM := hid6 M1
  clear M1
  go_wp2
  go_ret
  exact ⟨rfl, HM.out⟩
end Go.Proofs.YtpcbpikhiooafaaGreatDoor
/- A process: the calls lowest, attach and lead. Condition: the process lies in memory as 'PAt' says. -/
namespace Go.Proofs.YtpcbpikhiooafaaGreatDoor
open Go.RowKit
theorem bin30 (B : Nat) (W : World) : (binOp .eql 60 (.pointer none) (.pointer (some ⟨B, 0, none⟩))).run Tryz.prog W = .ok (.bool false) W := by kernel_rfl
section
variable {w w' : World} {P fb : Nat} {u g : Int} {ga : Option Addr} {gc : Nat} {um cw : Int} {d : Nat → Option Addr}
set_option maxRecDepth 100000 in
set_option maxHeartbeats 2000000 in
theorem sIndexFd (h : PAt w P fb u g ga gc um cw d) (j : Nat) (hj : j < 16) (h0 : d j = none) (h1 : ∀ i, i < j → ∃ B : Nat, d i = some ⟨B, 0, none⟩) :
    Calls Tryz.prog 59 #[.slice (some ⟨P, 6, none⟩) 16 16, .pointer none] w fun e w' => e = .returned (.int .i64 j) ∧ w' = w := by
  have HD := hid6 h.fd
  have H1 := hid6 h1
  have hbin := bin30
  clear h h1
  go_enter Tryz.func59, Tryz.ntmps59
  go_wp2_with fail
  go_loopg [8] j (fun gh i wr => w = wr ∧ ∃ k : Nat, k ≤ j ∧ gh = j - k ∧ i = .int .i64 k)
  case atStart => exact ⟨rfl, 0, Nat.zero_le _, rfl, rfl⟩
  case round =>
    obtain ⟨rfl, k, hk, rfl, rfl⟩ := hrel
    have hk16 : (k : Int) < 16 := by omega
    have hc := HD.out k (by omega)
    by_cases hkj : k = j
    · subst hkj
      rw [h0] at hc
      go_wp2_with fail
      go_ret
      exact ⟨rfl, rfl⟩
    · obtain ⟨a, ha⟩ := H1.out k (by omega)
      rw [ha] at hc
      clear ha
      go_wp2_with fail
      go_roundg (j - (k + 1))
      case measure => omega
      case rel => exact ⟨rfl, k + 1, by omega, rfl, by go_num⟩
theorem PAt.set (h : PAt w P fb u g ga gc um cw d) (j : Nat) (hj : j < 16) (v : Option Addr) : PAt (w.setCell ⟨P, 6 + j, none⟩ (.pointer v)) P fb u g ga gc um cw (fun i => if i = j then v else d i) where
  c0 := by rw [setCell_out _ _ _ _ _ (fun _ e => by have h1 : 0 = 6 + j := e; omega)]; exact h.c0
  c1 := by rw [setCell_out _ _ _ _ _ (fun _ e => by have h1 : 1 = 6 + j := e; omega)]; exact h.c1
  c2 := by rw [setCell_out _ _ _ _ _ (fun _ e => by have h1 : 2 = 6 + j := e; omega)]; exact h.c2
  c3 := by rw [setCell_out _ _ _ _ _ (fun _ e => by have h1 : 3 = 6 + j := e; omega)]; exact h.c3
  c4 := by rw [setCell_out _ _ _ _ _ (fun _ e => by have h1 : 4 = 6 + j := e; omega)]; exact h.c4
  c5 := by rw [setCell_out _ _ _ _ _ (fun _ e => by have h1 : 5 = 6 + j := e; omega)]; exact h.c5
  fd := fun i hi => by
    by_cases e : i = j
    · subst e; rw [if_pos rfl]; exact World.cell?_setCell_same _ _ _ (h.fd i hi)
    · rw [if_neg e, setCell_out _ _ _ _ _ (fun _ e' => by have h1 : 6 + i = 6 + j := e'; omega)]; exact h.fd i hi
  fr := fun o => by have := h.fr o; simp [go_sem, this]
set_option maxRecDepth 100000 in
set_option maxHeartbeats 2000000 in
theorem pAttach (h : PAt w P fb u g ga gc um cw d) (j D : Nat) (hj : j < 16) (hDP : D ≠ P) (n : Int) (hn : 0 ≤ n ∧ n < 100) (hD : w.cell? ⟨D, 1, none⟩ = some (.int .i64 n)) (hf : ∀ o, w.frozen? ⟨D, o, none⟩ = false) :
    Calls Tryz.prog 60 #[.pointer (some ⟨P, 0, none⟩), .int .i64 j, .pointer (some ⟨D, 0, none⟩)] w fun e w' => e = .returned (.tuple #[]) ∧ w' = (w.setCell ⟨P, 6 + j, none⟩ (.pointer (some ⟨D, 0, none⟩))).setCell ⟨D, 1, none⟩ (.int .i64 (n + 1)) := by
  have hc := h.fd j hj
  have hfr := h.fr
  have hj' : (j : Int) < 16 := by omega
  have hw : IntKind.i64.wrap (n + 1) = n + 1 := by rw [IntKind.wrap_i64]; omega
  have hD' : ∀ v, (w.setCell ⟨P, 6 + j, none⟩ v).cell? ⟨D, 1, none⟩ = some (.int .i64 n) := fun v => by rw [setCell_out _ _ _ _ _ (fun e => absurd e hDP)]; exact hD
  clear h
  go_enter Tryz.func60, Tryz.ntmps60
  go_wp2
  exact ⟨rfl, _, results_none rfl _ _ _, rfl, rfl⟩
/-- What lies in memory behind lowest: the descriptor leads to D, which one more leads to. -/
theorem pLowest (h : PAt w P fb u g ga gc um cw d) (j D : Nat) (hj : j < 16) (h0 : d j = none) (h1 : ∀ i, i < j → ∃ B : Nat, d i = some ⟨B, 0, none⟩) (hDP : D ≠ P) (hD : w.cell? ⟨D, 1, none⟩ = some (.int .i64 0)) (hf : ∀ o, w.frozen? ⟨D, o, none⟩ = false) :
    Calls Tryz.prog 24 #[.pointer (some ⟨P, 0, none⟩), .pointer (some ⟨D, 0, none⟩)] w fun e w' => e = .returned (.int .i64 j) ∧ w' = (w.setCell ⟨P, 6 + j, none⟩ (.pointer (some ⟨D, 0, none⟩))).setCell ⟨D, 1, none⟩ (.int .i64 1) := by
  have HI := hid6 (sIndexFd h j hj h0 h1)
  have HA := hid6 (pAttach h j D hj hDP 0 (by omega) hD hf)
  have c0 := h.fd 0 (by omega)
  clear h h1 h0
  go_enter Tryz.func24, Tryz.ntmps24
  go_wp2_with (first | (go_at_call 59; refine Calls.mono HI.out ?_; rintro e w3 ⟨rfl, hw3⟩; rw [hw3]; clear hw3 w3))
  refine Calls.mono HA.out ?_
  rintro e w1 ⟨rfl, hw1⟩
  rw [hw1]
  clear hw1 w1
  go_wp2
  go_ret
  exact ⟨rfl, rfl⟩
theorem pLead (h : PAt w P fb u g ga gc um cw d) (j D : Nat) (hj : j < 16) (hd : d j = some ⟨D, 0, none⟩) : Calls Tryz.prog 25 #[.pointer (some ⟨P, 0, none⟩), .int .i64 j] w fun e w' => e = .returned (.tuple #[.pointer (some ⟨D, 0, none⟩), .int .i64 0]) ∧ w' = w := by
  have HF := hid6 (pMade h)
  have HI := hid6 (pIn (j : Int) w (by omega) (by omega))
  have hc := h.fd j hj
  rw [hd] at hc
  have hj' : (j : Int) < 16 := by omega
  clear h hd
  go_enter Tryz.func25, Tryz.ntmps25
  go_wp2_with (first | (go_at_call 21; refine Calls.mono HF.out ?_; rintro e w3 ⟨rfl, hw3⟩; rw [hw3]; clear hw3 w3) | (go_at_call 61; refine Calls.mono HI.out ?_; rintro e w3 ⟨rfl, hw3⟩; rw [hw3]; clear hw3 w3))
  go_ret2
  exact ⟨rfl, rfl⟩
end
end Go.Proofs.YtpcbpikhiooafaaGreatDoor
