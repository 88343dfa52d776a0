/- The program's Cut at a line feed, size, first, ahead; the plain answer's first, behind; Clone. Condition: lengths that fit. -/
import Derived.Test.YtplnojohlbbalaaUb0
import Derived.Test.YtplnojohlbbalaaShelf
import Derived.Deep.DeepCutAuto
namespace Go.Proofs.Ytplnojohlbbalaa
open Go.RowKit
attribute [local go_sem] ext_eq app_eq get_eq
namespace Tl
theorem index_fx : ∀ l : List UInt8, Lib.indexByte l 10 = if fx l < l.length then (fx l : Int) else -1
  | [] => rfl
  | x :: l => by
    have ih := index_fx l
    by_cases h : x = 10
    · have e : fx (x :: l) = 0 := if_pos h
      rw [e]
      simp [Lib.indexByte, h]
    · have e : fx (x :: l) = fx l + 1 := if_neg h
      rw [e]
      have hb : (x == 10) = false := by simpa using h
      simp only [Lib.indexByte, hb, Bool.false_eq_true, if_false, ih, List.length_cons, Nat.add_lt_add_iff_right]
      by_cases hl : fx l < l.length
      · have : ¬ ((fx l : Int) == -1) = true := by simp
        rw [if_pos hl, if_pos hl, if_neg this]; simp
      · rw [if_neg hl, if_neg hl]; simp
def hd (l : List UInt8) : List UInt8 := l.take (fx l)
def tl (l : List UInt8) : List UInt8 := l.drop (fx l + 1)
def yes (l : List UInt8) : Bool := decide (fx l < l.length)
theorem hd_no {l : List UInt8} (h : ¬ fx l < l.length) : hd l = l := by have := fx_le l; exact List.take_of_length_le (by omega)
theorem tl_no {l : List UInt8} (h : ¬ fx l < l.length) : tl l = [] := List.drop_eq_nil_of_le (by omega)
theorem prs_step {l : List UInt8} (h : l ≠ []) : prs l = (hd l, yes l) :: prs (tl l) := by
  by_cases hf : fx l < l.length
  · rw [prs_yes hf]; unfold hd tl yes; rw [decide_eq_true hf]
  · rw [prs_no hf h, hd_no hf, tl_no hf]; unfold yes; rw [decide_eq_false hf]; rfl
end Tl
def nums (l : List UInt8) : List Int := l.map fun c => (c.toNat : Int)
theorem nums_len (l : List UInt8) : (nums l).length = l.length := by simp [nums]
theorem nums_of (l : List UInt8) : Lib.bytesOf (nums l) = l := by
  unfold Lib.bytesOf nums
  rw [List.map_map]
  conv => rhs; rw [← List.map_id l]
  apply List.map_congr_left
  intro c _
  simp
theorem nums_get (l : List UInt8) {j : Nat} (h : j < l.length) : (nums l).getD j 0 = (l[j].toNat : Int) := by simp [nums, List.getD, h]
theorem oIndexF (l : List UInt8) (a : Option Addr) (c g : Nat) (w : World) (hS : Sr w a c l) (hg : w.cell? ⟨g, 0, none⟩ = some (.int .u8 10)) : Calls Try.prog 58 #[.slice a l.length c, .slice (some ⟨g, 0, none⟩) 1 1] w fun e w' => e = .returned (.int .i64 (Lib.indexByte l 10)) ∧ w' = w := by
  cases a with
  | none =>
    have h0 : c = 0 := hS.nil rfl
    have hl : l = [] := List.length_eq_zero_iff.1 (by have := hS.le; omega)
    subst h0 hl
    exact Try.bytes_Index_one_nil g 0 1 10 w hg
  | some ad =>
    have h := Try.bytes_Index_one_at ad l.length c g 0 1 (nums l) 10 w (nums_len l) (fun i hi => by
      obtain ⟨g', o, e, _, hc⟩ := hS.src i hi
      cases e
      rw [nums_get l hi]
      rw [show (⟨g', o, none⟩ : Addr).add i = ⟨g', o + i, none⟩ by simp [Addr.add]]; exact hc) hg
    rw [nums_of] at h
    exact h
theorem oClone (l : List UInt8) (a : Option Addr) (c : Nat) (hl : l.length ≤ 140737488355328) (w : World) (hS : Sr w a c l) : Calls Try.prog 22 #[.slice a l.length c] w fun e w' => ∃ v, e = .returned v ∧ By w.heap.size w' v l ∧ Below w.heap.size w w' := by
  cases a with
  | none =>
    have h0 : c = 0 := hS.nil rfl
    have hl : l = [] := List.length_eq_zero_iff.1 (by have := hS.le; omega)
    subst h0 hl
    refine (Try.bytes_Clone_nil 0 0 w).mono ?_
    rintro e w' ⟨rfl, rfl⟩
    exact ⟨_, rfl, By.nil _ _, Below.refl _ _⟩
  | some ad =>
    refine (Try.bytes_Clone_at ad l.length c (nums l) w (nums_len l) hl (fun i hi => by
      obtain ⟨g, o, e, _, hc⟩ := hS.src i hi
      cases e
      rw [nums_get l hi]
      rw [show (⟨g, o, none⟩ : Addr).add i = ⟨g, o + i, none⟩ by simp [Addr.add]]; exact hc)).mono ?_
    rintro e w' ⟨v, rfl, ho, -, hB⟩
    refine ⟨v, rfl, ?_, hB⟩
    unfold By bCs
    rw [show (nums l).map (Value.int .u8) = l.map fun c => Value.int .u8 (c.toNat : Int) by simp [nums]] at ho
    exact ho
set_option maxRecDepth 100000 in
set_option maxHeartbeats 2000000 in
theorem oCutF (l : List UInt8) (a : Option Addr) (c g : Nat) (hl : l.length ≤ 2 ^ 60) (w : World) (hS : Sr w a c l) (hg : w.cell? ⟨g, 0, none⟩ = some (.int .u8 10)) : Calls Try.prog 50 #[.slice a l.length c, .slice (some ⟨g, 0, none⟩) 1 1] w fun e w' => ∃ a1 c1 a2 c2, e = .returned (.tuple #[.slice a1 (Tl.hd l).length c1, .slice a2 (Tl.tl l).length c2, .bool (Tl.yes l)]) ∧ Sr w' a1 c1 (Tl.hd l) ∧ Sr w' a2 c2 (Tl.tl l) ∧ Below w.heap.size w w' := by
  have HA := hidA (oIndexF l a c g w hS hg)
  rw [Tl.index_fx] at HA
  by_cases hf : Tl.fx l < l.length
  · rw [if_pos hf] at HA
    obtain ⟨hs1, hr1⟩ := sl_to hS (Tl.fx l) (Nat.le_of_lt hf)
    obtain ⟨a2, c2, hs2, hr2⟩ := sl_from hS (Tl.fx l + 1) hf
    have hy : Tl.yes l = true := decide_eq_true hf
    rw [hy]
    have H1 := hidA hr1
    have H2 := hidA hr2
    rw [show l.take (Tl.fx l) = Tl.hd l from rfl] at hs1 H1
    rw [show l.drop (Tl.fx l + 1) = Tl.tl l from rfl] at hs2 H2
    have hadd : IntKind.i64.wrap ((Tl.fx l : Int) + 1) = ((Tl.fx l + 1 : Nat) : Int) := by rw [IntKind.wrap_i64]; omega
    have hge : (0 : Int) ≤ (Tl.fx l : Int) := by omega
    have hs2' : ∀ W : World, (Instr.slice 22 (.slice a l.length c) (some (.int .i64 ((Tl.fx l : Int) + 1))) none none).run Try.prog W = .ok (.slice a2 (Tl.tl l).length c2) W := hs2
    generalize Tl.hd l = p at *
    generalize Tl.tl l = q at *
    generalize Tl.fx l = i at *
    clear hS hr1 hr2 hy hs2
    go_enter Try.func50, Try.ntmps50
    go_upto_region 3 with (go_at_call 58; with_reducible refine HA.out.mono ?_; rintro e w1 ⟨rfl, hw1⟩; rw [hw1]; clear hw1 w1)
    go_wp2_with (go_region)
    go_ret3
    exact ⟨_, _, _, _, rfl, H1.out.grow (bl_drew w 1), H2.out.grow (bl_drew w 1), bl_drew w 1⟩
  · rw [if_neg hf] at HA
    have hy : Tl.yes l = false := decide_eq_false hf
    rw [hy, Tl.hd_no hf, Tl.tl_no hf]
    have HS := hidA hS
    clear hS hy
    go_enter Try.func50, Try.ntmps50
    go_wp2_with (go_at_call 58; with_reducible refine HA.out.mono ?_; rintro e w1 ⟨rfl, hw1⟩; rw [hw1]; clear hw1 w1)
    go_ret3
    exact ⟨a, c, none, 0, rfl, HS.out, Sr.empty w, Below.refl _ _⟩
end Go.Proofs.Ytplnojohlbbalaa
