/- The plain answer's Whole. Condition: lengths that fit. -/
import Derived.Test.YtepkolamnlmmgaaM7
import Derived.Lib.Join
namespace Go.Proofs.Ytepkolamnlmmgaa
open Go.RowKit
attribute [local go_sem] ext_eq app_eq get_eq
namespace Tl
/-- Lines written as bytes; e: the last one is ended, too. -/
def wh : List (List UInt8) → Bool → List UInt8
  | [], _ => []
  | x :: r, e => x ++ ((if r ≠ [] ∨ e = true then [10] else []) ++ wh r e)
theorem wh_len (e : Bool) : ∀ X : List (List UInt8), (wh X e).length ≤ X.flatten.length + X.length
  | [] => by simp [wh]
  | x :: r => by
    have ih := wh_len e r
    simp only [wh, List.length_append, List.flatten_cons, List.length_cons]
    split <;> simp only [List.length_cons, List.length_nil] <;> omega
theorem wh_join (e : Bool) : ∀ (r : List (List UInt8)), Lib.joinTail [10] r ++ (if e = true then [10] else []) = (if r ≠ [] ∨ e = true then [10] else []) ++ wh r e
  | [] => by cases e <;> simp [Lib.joinTail, wh]
  | y :: r => by
    have ih := wh_join e r
    have e1 : Lib.joinTail [10] (y :: r) = [10] ++ y ++ Lib.joinTail [10] r := by simp [Lib.joinTail]
    have e2 : (if (y :: r) ≠ [] ∨ e = true then [10] else ([] : List UInt8)) = [10] := if_pos (.inl (List.cons_ne_nil _ _))
    rw [e1, e2]
    simp only [wh, List.append_assoc]
    rw [ih]
theorem wh_all (e : Bool) (X : List (List UInt8)) : wh X e = Lib.join X [10] ++ (if e = true ∧ X ≠ [] then [10] else []) := by
  cases X with
  | nil => simp [wh, Lib.join_nil]
  | cons x r =>
    have h := wh_join e r
    simp only [wh]
    rw [← h, Lib.join_cons, List.append_assoc]
    by_cases he : e = true
    · rw [if_pos he, if_pos ⟨he, List.cons_ne_nil _ _⟩]
    · rw [if_neg he, if_neg (fun h => he h.1)]
/-- What the plain answer's Whole has behind k lines. -/
def Wh (X : List (List UInt8)) (e : Bool) (p : List UInt8) (k : Nat) : Prop := wh X e = p ++ wh (X.drop k) e
theorem Wh.zero (X : List (List UInt8)) (e : Bool) : Wh X e [] 0 := by simp [Wh]
theorem Wh.done {X : List (List UInt8)} {e : Bool} {p : List UInt8} {k : Nat} (h : Wh X e p k) (hk : ¬ k < X.length) : wh X e = p := by
  unfold Wh at h
  rw [List.drop_eq_nil_of_le (by omega)] at h
  simpa [wh] using h
theorem Wh.mid {X : List (List UInt8)} {e : Bool} {p : List UInt8} {k : Nat} (h : Wh X e p k) (hk : k < X.length) (hm : k + 1 < X.length ∨ e = true) : Wh X e (p ++ X[k] ++ [10]) (k + 1) := by
  unfold Wh at h ⊢
  rw [h, List.drop_eq_getElem_cons hk]
  simp only [wh]
  rw [if_pos (by
    rcases hm with hm | hm
    · exact .inl (by intro e9; have := congrArg List.length e9; simp at this; omega)
    · exact .inr hm)]
  simp [List.append_assoc]
theorem Wh.last {X : List (List UInt8)} {e : Bool} {p : List UInt8} {k : Nat} (h : Wh X e p k) (hk : k < X.length) (hm : ¬ (k + 1 < X.length ∨ e = true)) : Wh X e (p ++ X[k]) (k + 1) := by
  unfold Wh at h ⊢
  rw [h, List.drop_eq_getElem_cons hk]
  simp only [wh]
  rw [if_neg (by
    rintro (h9 | h9)
    · exact hm (.inl (by
        have : (X.drop (k + 1)).length ≠ 0 := fun e9 => h9 (List.length_eq_zero_iff.1 e9)
        rw [List.length_drop] at this; omega))
    · exact hm (.inr h9))]
  simp [List.append_assoc]
theorem Wh.le {X : List (List UInt8)} {e : Bool} {p : List UInt8} {k : Nat} (h : Wh X e p k) : p.length ≤ (wh X e).length := by
  unfold Wh at h
  rw [h, List.length_append]; omega
end Tl
end Go.Proofs.Ytepkolamnlmmgaa
