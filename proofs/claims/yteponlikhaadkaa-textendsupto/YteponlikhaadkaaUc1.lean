/- The ends of the lines, one after another. Plain theory. -/
import Derived.Test.YteponlikhaadkaaUc0
namespace Go.Proofs.Yteponlikhaadkaa
namespace Tl
theorem en_zero (l : List UInt8) : en l 0 = 0 := by simp [en]
theorem en_succ (l : List UInt8) (k : Nat) (h : k < (prs l).length) : en l (k + 1) = en l k + (pc (prs l)[k]).length := by
  unfold en
  rw [List.take_succ_eq_append_getElem (by simpa using h), List.flatten_append]
  simp
theorem pc_hd {r : List UInt8} (_ : r ≠ []) : (pc (hd r, yes r)).length = (hd r).length + (if yes r then 1 else 0) := by
  unfold pc; cases yes r <;> simp
theorem tl_drop {r : List UInt8} (h : r ≠ []) : tl r = r.drop (pc (hd r, yes r)).length := by
  rw [pc_hd h]
  by_cases hf : fx r < r.length
  · have e : yes r = true := decide_eq_true hf
    rw [e, if_pos rfl]
    unfold hd tl
    rw [List.length_take, Nat.min_eq_left (Nat.le_of_lt hf)]
  · rw [tl_no hf, hd_no hf]
    exact (List.drop_eq_nil_of_le (by omega)).symm
theorem prs_ne {r : List UInt8} (h : prs r ≠ []) : r ≠ [] := fun e => h (by rw [e]; rfl)
theorem prs_drop (l : List UInt8) : ∀ k, k ≤ (prs l).length → prs (l.drop (en l k)) = (prs l).drop k
  | 0, _ => by rw [en_zero]; simp
  | k + 1, h => by
    have ih := prs_drop l k (by omega)
    have hc : (prs l).drop k = (prs l)[k] :: (prs l).drop (k + 1) := List.drop_eq_getElem_cons (by omega)
    have hr : l.drop (en l k) ≠ [] := prs_ne (by rw [ih, hc]; exact List.cons_ne_nil _ _)
    have hs := prs_step hr
    rw [ih, hc] at hs
    injection hs with h1 h2
    have hk : k < (prs l).length := h
    rw [en_succ l k hk, h1, ← List.drop_drop, ← tl_drop hr, ← h2]
/-- What the program's loop has behind k lines: what is left, and the ends. -/
def Es (l : List UInt8) (k : Nat) : List Nat := (List.range (k + 1)).map (en l)
theorem Es_len (l : List UInt8) (k : Nat) : (Es l k).length = k + 1 := by simp [Es]
theorem Es_last (l : List UInt8) (k : Nat) (h : k < (Es l k).length) : (Es l k)[k] = en l k := by simp [Es]
theorem Es_get (l : List UInt8) (n k : Nat) (h : k < (Es l n).length) : (Es l n)[k] = en l k := by simp [Es]
theorem Es_succ (l : List UInt8) (k : Nat) : Es l (k + 1) = Es l k ++ [en l (k + 1)] := by
  unfold Es; rw [List.range_succ, List.map_append]; simp
theorem at_more {l : List UInt8} {k : Nat} (hk : k ≤ (prs l).length) (hr : l.drop (en l k) ≠ []) : k + 1 ≤ (prs l).length ∧ tl (l.drop (en l k)) = l.drop (en l (k + 1)) ∧ en l (k + 1) = en l k + ((hd (l.drop (en l k))).length + if yes (l.drop (en l k)) then 1 else 0) := by
  have ih := prs_drop l k hk
  have hs := prs_step hr
  rw [ih] at hs
  have hlt : k < (prs l).length := by
    rcases Nat.lt_or_ge k (prs l).length with h | h
    · exact h
    · rw [List.drop_eq_nil_of_le h] at hs; cases hs
  have hc : (prs l).drop k = (prs l)[k] :: (prs l).drop (k + 1) := List.drop_eq_getElem_cons hlt
  rw [hc] at hs
  injection hs with h1 h2
  have e := en_succ l k hlt
  rw [h1] at e
  refine ⟨hlt, ?_, by rw [e, pc_hd hr]⟩
  rw [tl_drop hr, List.drop_drop, e]
theorem at_done {l : List UInt8} {k : Nat} (hk : k ≤ (prs l).length) (hr : l.drop (en l k) = []) : k = (prs l).length := by
  have ih := prs_drop l k hk
  rw [hr] at ih
  have := congrArg List.length ih
  rw [prs_nil, List.length_drop] at this
  simp at this; omega
end Tl
end Go.Proofs.Yteponlikhaadkaa
