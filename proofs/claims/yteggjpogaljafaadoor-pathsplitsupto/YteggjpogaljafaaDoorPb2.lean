/- The walks of the program's String and of its iterator over names. Conditions: lengths that fit; the list's cells are as said. -/
import Derived.Test.YteggjpogaljafaaDoorPb1
import Derived.RangeFuncNested
import Derived.RangeFuncBound
import Derived.RangeFuncCalls
import Derived.RangeFuncLeaves
import Derived.RangeFuncFrom
import Derived.RangeFuncBox
import Derived.Shelf.Abstract
import Derived.Shelf.RegionOpen
import Derived.OwnWalkIn
import Derived.TacticsInMore
import Derived.LoopNIn
import Derived.LoopIn
namespace Go.Proofs.YteggjpogaljafaaDoor
open Go.RowKit Go.Shelf
attribute [local go_sem] ext_eq app_eq get_eq toL_eq
attribute [local go_sem] Oper.semAt_some
theorem sJoin (xs : List (List UInt8)) (a : Option Addr) (c : Nat) (w : World) (hS : Strs w a xs) (hn : xs.length ≤ 2 ^ 40) (hc : xs.length ≤ c) (hj : (Pa.jn xs).length ≤ 2 ^ 40) :
    Calls Tryd.prog 33 #[.slice a xs.length c, .string ⟨#[47]⟩] w fun e w' => e = .returned (.string ⟨(Pa.jn xs).toArray⟩) ∧ Below w.heap.size w w' := by
  cases xs with
  | nil => exact (Tryd.strings_Join_none a c ⟨#[47]⟩ w).mono fun e w' h => ⟨h.1, h.2 ▸ Below.refl _ _⟩
  | cons x r =>
    obtain ⟨bk, o, rfl, hlt, _⟩ := hS 0 x rfl
    have e1 : Lib.join (((x :: r).map (fun l : List UInt8 => (⟨l.toArray⟩ : ByteArray))).map (·.data.toList)) [47] = Pa.jn (x :: r) := by
      rw [List.map_map]; unfold Pa.jn; congr 1; exact List.map_id' _
    have h := Tryd.strings_Join bk o c ((x :: r).map (fun l : List UInt8 => (⟨l.toArray⟩ : ByteArray))) ⟨#[47]⟩ w (by
      intro j u hu
      rw [List.getElem?_map] at hu
      obtain ⟨z, hz, rfl⟩ := Option.map_eq_some_iff.1 hu
      obtain ⟨bk', o', he, _, hcell⟩ := hS j z hz
      cases he
      exact hcell) hlt (by rw [List.length_map]; omega) (by rw [List.length_map]; exact hc) (by rw [show (#[(47 : UInt8)] : Array UInt8).toList = [47] from rfl, e1]; omega)
    rw [List.length_map, show (#[(47 : UInt8)] : Array UInt8).toList = [47] from rfl, e1] at h
    exact h
set_option maxRecDepth 100000 in
set_option maxHeartbeats 1000000 in
theorem pString (a sl : Bool) (xs : List (List UInt8)) (ad : Option Addr) (c : Nat) (w : World) (hS : Strs w ad xs) (hn : xs.length ≤ 2 ^ 40) (hc : xs.length ≤ c) (hj : (Pa.jn xs).length ≤ 2 ^ 40) :
    Calls Tryd.prog 11 #[.agg #[.bool a, .slice ad xs.length c, .bool sl]] w fun e w' => e = .returned (.string ⟨(Pa.strg a xs sl).toArray⟩) ∧ Below w.heap.size w w' := by
  have HB : Hid (∀ o, Below w.heap.size w (w.alloc o)) := fun o => (Below.refl _ _).alloc (Nat.le_refl _) o
  have HJ : Hid (∀ o, Calls Tryd.prog 33 #[.slice ad xs.length c, .string ⟨#[47]⟩] (w.alloc o) fun e w' => e = .returned (.string ⟨(Pa.jn xs).toArray⟩) ∧ Below (w.alloc o).heap.size (w.alloc o) w') := fun o => sJoin xs ad c _ (hS.grow (HB.out o)) hn hc hj
  clear hS
  by_cases hx : xs = []
  · subst hx
    rw [List.length_nil] at *
    cases a <;> cases sl
    all_goals
      go_enter Tryd.func11, Tryd.ntmps11
      go_wp2_with (go_at_call 33; refine (HJ.out _).mono ?_; rintro e w1 ⟨rfl, hB1⟩; rw [World.size_alloc] at hB1; have hcl := fun o => hB1.cell (p := ⟨w.heap.size, o, none⟩) (Nat.lt_succ_self _))
      go_ret
      first | exact ⟨rfl, HB.out _⟩ | exact ⟨rfl, (HB.out _).trans (hB1.mono (Nat.le_succ _))⟩
  · have h0 := lenN xs hx
    have hl : 0 < xs.length := List.length_pos_iff.2 hx
    cases a <;> cases sl
    all_goals
      have HR : Hid (¬ xs = []) := hx
      clear hx
      go_enter Tryd.func11, Tryd.ntmps11
      go_wp2_with (go_at_call 33; refine (HJ.out _).mono ?_; rintro e w1 ⟨rfl, hB1⟩; rw [World.size_alloc] at hB1; have hcl := fun o => hB1.cell (p := ⟨w.heap.size, o, none⟩) (Nat.lt_succ_self _))
      go_ret
      exact ⟨ret_str (by simp [Pa.strg, HR.out]), (HB.out _).trans (hB1.mono (Nat.le_succ _))⟩
end Go.Proofs.YteggjpogaljafaaDoor
