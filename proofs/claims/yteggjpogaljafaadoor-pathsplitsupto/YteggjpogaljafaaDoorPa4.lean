/- The walks of the plain answers String, Clean, Join, Base, Dir. Conditions: lengths that fit. -/
import Derived.Test.YteggjpogaljafaaDoorPa3
namespace Go.Proofs.YteggjpogaljafaaDoor
open Go.RowKit
attribute [local go_sem] ext_eq app_eq get_eq toL_eq
theorem strg_le (a : Bool) (ns : List (List UInt8)) (sl : Bool) : (Pa.strg a ns sl).length ≤ (Pa.jn ns).length + 2 := by
  unfold Pa.strg; split
  · simp
  · cases a <;> cases sl <;> simp <;> split <;> simp <;> omega
theorem len0 {α : Type} (xs : List α) (h : xs = []) : ((xs.length : Int) == 0) = true := by simp [h]
theorem lenN {α : Type} (xs : List α) (h : ¬ xs = []) : ((xs.length : Int) == 0) = false := by
  rw [beq_eq_false_iff_ne]; have := List.length_pos_iff.2 h; omega
set_option maxRecDepth 100000 in
set_option maxHeartbeats 1000000 in
theorem rString (a sl : Bool) (xs : List (List UInt8)) (ad : Option Addr) (c : Nat) (w : World) (hS : Strs w ad xs) (hn : xs.length ≤ 2 ^ 40) (hj : (Pa.jn xs).length ≤ 2 ^ 40) :
    Calls Tryd.prog 12 #[.agg #[.bool a, .slice ad xs.length c, .bool sl]] w fun e w' => e = .returned (.string ⟨(Pa.strg a xs sl).toArray⟩) ∧ Below w.heap.size w w' := by
  have HS : Hid (∀ o, Strs (w.alloc o) ad xs) := fun o => hS.grow ((Below.refl _ _).alloc (Nat.le_refl _) o)
  clear hS
  have hB : ∀ o, Below w.heap.size w (w.alloc o) := fun o => (Below.refl _ _).alloc (Nat.le_refl _) o
  have HB : Hid (∀ o, Below w.heap.size w (w.alloc o)) := hB
  clear hB
  by_cases hx : xs = []
  · subst hx
    have HJ : Hid (∀ o, Calls Tryd.prog 34 #[.slice ad 0 c] (w.alloc o) fun e w' => e = .returned (.string ⟨#[]⟩) ∧ w' = w.alloc o) := fun o => rJoined [] ad c _ (HS.out o) hn hj
    rw [List.length_nil]
    cases a <;> cases sl
    all_goals
      go_enter Tryd.func12, Tryd.ntmps12
      go_wp2_with (go_at_call 34; refine (HJ.out _).mono ?_; rintro e w1 ⟨rfl, rfl⟩)
      go_ret
      exact ⟨rfl, HB.out _⟩
  · have h0 := lenN xs hx
    have hl : 0 < xs.length := List.length_pos_iff.2 hx
    cases a <;> cases sl
    all_goals
      have HR : Hid (¬ xs = []) := hx
      clear hx
      go_enter Tryd.func12, Tryd.ntmps12
      go_wp2_with (go_at_call 34; refine (rJoined xs ad c _ (HS.out _) hn hj).mono ?_; rintro e w1 ⟨rfl, rfl⟩)
      go_ret
      exact ⟨ret_str (by simp [Pa.strg, HR.out]), HB.out _⟩
theorem jn_le_of (xs : List (List UInt8)) : (Pa.jn xs).length ≤ (xs.map List.length).sum + xs.length := by
  cases xs with
  | nil => simp [Pa.jn, Lib.join_nil]
  | cons y r =>
    simp only [Pa.jn, Lib.join_cons, Lib.joinTail, List.length_append, List.length_flatten, List.map_map, List.map_cons, List.sum_cons, List.length_cons]
    have : (r.map (List.length ∘ fun x => [(47 : UInt8)] ++ x)).sum = (r.map List.length).sum + r.length := by
      clear y; induction r with
      | nil => rfl
      | cons z r ih => simp only [List.map_cons, List.sum_cons, ih, List.length_cons, Function.comp]; simp; omega
    omega
end Go.Proofs.YteggjpogaljafaaDoor
