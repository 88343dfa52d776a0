/- The plain theory of brackets: what the items of a place tell, and what is known of places that were seen. No condition. -/
import Derived.Test.YtncnmeidciailaaDoorLa5
namespace Go.Proofs.YtncnmeidciailaaDoor
namespace Gl
theorem items_fuel (f : Fl) : ∀ (n m : Nat) (first : Bool) (l : List UInt8), l.length < n → l.length < m → items f n first l = items f m first l := by
  intro n
  induction n with
  | zero => intro m first l h1 _; omega
  | succ n ih =>
    intro m first l h1 h2
    cases m with
    | zero => omega
    | succ m =>
      cases l with
      | nil => rfl
      | cons c r =>
        unfold items
        obtain ⟨p1, p2⟩ := item_pos f (c :: r) (by simp)
        simp only [List.length_cons] at h1 h2 p2
        rw [ih m false _ (by simp only [List.length_drop, List.length_cons]; omega) (by simp only [List.length_drop, List.length_cons]; omega)]
/-- The items from a place on. -/
def its (f : Fl) (first : Bool) (l : List UInt8) : Option ((UInt8 → Bool) × Nat) := items f (l.length + 1) first l
theorem its_nil (f : Fl) (first : Bool) : its f first [] = none := rfl
theorem its_end {f : Fl} {l : List UInt8} {q : Nat} (hq : q < l.length) (h : l[q] = 93) : its f false (l.drop q) = some (fun _ => false, 1) := by
  unfold its
  rw [List.drop_eq_getElem_cons hq, h]; rfl
theorem its_step {f : Fl} {first : Bool} {l : List UInt8} {q : Nat} (hq : q < l.length) (h : l[q] ≠ 93 ∨ first = true) : its f first (l.drop q) = (its f false (l.drop (q + (item f (l.drop q)).2))).map fun p => (fun x => (item f (l.drop q)).1 x || p.1 x, (item f (l.drop q)).2 + p.2) := by
  have hne : l.drop q ≠ [] := by intro e; have := congrArg List.length e; simp at this; omega
  obtain ⟨p1, p2⟩ := item_pos f (l.drop q) hne
  rw [List.length_drop] at p2
  unfold its
  rw [← List.drop_drop]
  obtain ⟨c, r, hcr⟩ : ∃ c r, l.drop q = c :: r := ⟨l[q], l.drop (q + 1), List.drop_eq_getElem_cons hq⟩
  have hc : c = l[q] := by
    have := congrArg List.head? hcr
    rw [List.head?_drop, List.getElem?_eq_getElem hq] at this
    exact (Option.some.inj this).symm
  rw [hcr] at p1 p2 ⊢
  have hif : (decide (c = 93) && !first) = false := by
    rw [hc]
    rcases h with h | h
    · simp [h]
    · simp [h]
  show (if (decide (c = 93) && !first) = true then _ else _) = _
  rw [if_neg (by simp [hif])]
  rw [items_fuel f (c :: r).length (((c :: r).drop (item f (c :: r)).2).length + 1) false _ (by simp only [List.length_drop, List.length_cons]; omega) (by omega)]
theorem its_first {f : Fl} {l : List UInt8} {q : Nat} (hq : q < l.length) (h : l[q] ≠ 93) : its f true (l.drop q) = its f false (l.drop q) := by
  rw [its_step hq (.inl h), its_step hq (.inl h)]
theorem lost_its {f : Fl} {l : List UInt8} {q : Nat} (h : items f (l.length + 1) false (l.drop q) = none) : its f false (l.drop q) = none := by
  unfold its
  rw [items_fuel f _ (l.length + 1) false _ (by omega) (by rw [List.length_drop]; omega)]; exact h
theorem its_lost {f : Fl} {l : List UInt8} {q : Nat} (h : its f false (l.drop q) = none) : items f (l.length + 1) false (l.drop q) = none := by
  unfold its at h
  rw [items_fuel f _ ((l.drop q).length + 1) false _ (by rw [List.length_drop]; omega) (by omega)]; exact h
theorem bracket_its (f : Fl) (l : List UInt8) (k : Nat) (hk : k ≤ l.length) : bracket f (l.drop k) = (its f true (l.drop (k + ngl (l.drop k)))).map fun q => (fin f (neg (l.drop k)) q.1, ngl (l.drop k) + q.2) := by
  unfold bracket its
  rw [List.drop_drop]
  rw [items_fuel f ((l.drop k).length + 1) ((l.drop (k + ngl (l.drop k))).length + 1) true _ (by simp only [List.length_drop]; omega) (by omega)]
end Gl
end Go.Proofs.YtncnmeidciailaaDoor
