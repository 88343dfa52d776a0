/- What the program's bracket keeps while it reads its items. -/
import Derived.Test.YtncnmeidciailaaDoorLd5
import Derived.Test.YtncnmeidciailaaDoorLp3
namespace Go.Proofs.YtncnmeidciailaaDoor
open Go.RowKit
namespace Gl
/-- Where the reading stands: g is what was read from the first item on. -/
def At (f : Fl) (l : List UInt8) (first q : Nat) (g : UInt8 → Bool) : Prop :=
  first ≤ q ∧ q ≤ l.length ∧ its f true (l.drop first) = (its f (decide (q = first)) (l.drop q)).map fun p => (fun x => g x || p.1 x, (q - first) + p.2)
theorem At.zero {f : Fl} {l : List UInt8} {first : Nat} (h : first ≤ l.length) : At f l first first (fun _ => false) := by
  refine ⟨Nat.le_refl _, h, ?_⟩
  rw [decide_eq_true rfl]
  cases its f true (l.drop first) with
  | none => rfl
  | some p => simp
theorem At.step {f : Fl} {l : List UInt8} {first q : Nat} {g : UInt8 → Bool} (h : At f l first q g) (hq : q < l.length) (hc : l[q] ≠ 93 ∨ q = first) : At f l first (q + (item f (l.drop q)).2) (fun x => g x || (item f (l.drop q)).1 x) := by
  obtain ⟨h1, h2, h3⟩ := h
  have hne : l.drop q ≠ [] := by intro e; have := congrArg List.length e; simp at this; omega
  obtain ⟨p1, p2⟩ := item_pos f (l.drop q) hne
  rw [List.length_drop] at p2
  refine ⟨by omega, by omega, ?_⟩
  rw [h3, its_step hq (hc.imp id (fun e => decide_eq_true e)), decide_eq_false (show ¬ q + (item f (l.drop q)).2 = first by omega), Option.map_map]
  congr 1
  funext p
  simp only [Function.comp, Prod.mk.injEq]
  refine ⟨?_, by omega⟩
  funext x
  rw [Bool.or_assoc]
theorem At.none {f : Fl} {l : List UInt8} {first q : Nat} {g : UInt8 → Bool} (h : At f l first q g) (hn : its f (decide (q = first)) (l.drop q) = none) : its f true (l.drop first) = none := by rw [h.2.2, hn]; rfl
theorem At.some {f : Fl} {l : List UInt8} {first q : Nat} {g : UInt8 → Bool} (h : At f l first q g) (hq : q < l.length) (hc : l[q] = 93) (hf : q ≠ first) : its f true (l.drop first) = some (fun x => g x || false, (q - first) + 1) := by
  rw [h.2.2, decide_eq_false hf, its_end hq hc]; rfl
/-- What is known of the places seen. -/
def Vis (f : Fl) (l : List UInt8) (first q : Nat) (sn sn' : Nat → Bool) : Prop :=
  ∀ z, sn' z = true → sn z = true ∨ (first ≤ z ∧ z < q ∧ (its f false (l.drop q) = none → its f false (l.drop z) = none ∨ (z = first ∧ l[z]? = some 93)))
theorem Vis.zero (f : Fl) (l : List UInt8) (first : Nat) (sn : Nat → Bool) : Vis f l first first sn sn := fun _ h => .inl h
theorem Vis.step {f : Fl} {l : List UInt8} {first q : Nat} {sn sn' : Nat → Bool} (h : Vis f l first q sn sn') (h1 : first ≤ q) (hq : q < l.length) (hc : l[q] ≠ 93 ∨ q = first) : Vis f l first (q + (item f (l.drop q)).2) sn (updS sn' q) := by
  have hne : l.drop q ≠ [] := by intro e; have := congrArg List.length e; simp at this; omega
  obtain ⟨p1, p2⟩ := item_pos f (l.drop q) hne
  intro z hz
  unfold updS at hz
  by_cases e : z = q
  · subst e
    refine .inr ⟨h1, by omega, fun hn => ?_⟩
    by_cases h9 : l[z] = 93
    · exact .inr ⟨hc.resolve_left (fun h => h h9), by rw [List.getElem?_eq_getElem hq, h9]⟩
    · left; rw [its_step hq (.inl h9), hn]; rfl
  · rw [if_neg e] at hz
    rcases h z hz with h2 | ⟨h2, h3, h4⟩
    · exact .inl h2
    · refine .inr ⟨h2, by omega, fun hn => h4 ?_⟩
      have h9 : l[q] ≠ 93 := hc.resolve_right (by omega)
      rw [its_step hq (.inl h9), hn]; rfl
/-- What is lost behind a bracket that came to no end. -/
theorem Vis.lost {f : Fl} {l : List UInt8} {k q : Nat} {sn sn' : Nat → Bool} (h : Vis f l (k + 1 + ngl (l.drop (k + 1))) q sn sn') (hL : Lost f l k sn) (hn : its f false (l.drop q) = none) : Lost f l (k + 1) sn' := by
  intro z hz hzl hs
  rcases h z hs with h1 | ⟨h1, h2, h3⟩
  · exact hL.mono (by omega) z hz hzl h1
  · rcases h3 hn with h4 | ⟨h4, h5⟩
    · exact .inl (its_lost h4)
    · refine .inr fun j hj1 hj2 => ?_
      unfold ngl at h4
      split at h4
      · rename_i hneg
        obtain rfl : j = k + 1 := by omega
        have hj : k + 1 < l.length := by omega
        rw [List.drop_eq_getElem_cons hj] at hneg
        simp only [neg, Bool.or_eq_true, decide_eq_true_eq] at hneg
        rw [List.getElem?_eq_getElem hj]
        rcases hneg with e | e <;> rw [e] <;> decide
      · omega
/-- A place that was seen ahead of this bracket leads to no end. -/
theorem seen_none {f : Fl} {l : List UInt8} {k q : Nat} {sn : Nat → Bool} (hk : k < l.length) (hc : l[k] = 91) (hL : Lost f l k sn) (hq1 : k < q) (hq : q < l.length) (hs : sn q = true) : its f false (l.drop q) = none := by
  rcases hL q (by omega) hq hs with h | h
  · exact lost_its h
  · exact absurd (by rw [List.getElem?_eq_getElem hk, hc]) (h k (Nat.le_refl _) hq1)
theorem none_first {f : Fl} {l : List UInt8} {q first : Nat} (hq : q < l.length) (h : its f false (l.drop q) = none) : its f (decide (q = first)) (l.drop q) = none := by
  cases decide (q = first) with
  | false => exact h
  | true =>
    have h9 : l[q] ≠ 93 := fun e => by rw [its_end hq e] at h; cases h
    rw [its_first hq h9]; exact h
/-- What is lost behind a bracket that ended. -/
theorem Vis.done {f : Fl} {l : List UInt8} {k first q : Nat} {sn sn' : Nat → Bool} (h : Vis f l first q sn sn') (hL : Lost f l k sn) (hkq : k ≤ q + 1) : Lost f l (q + 1) (updS sn' q) := by
  intro z hz hzl hs
  unfold updS at hs
  rw [if_neg (by omega)] at hs
  rcases h z hs with h1 | ⟨h1, h2, h3⟩
  · exact hL.mono hkq z hz hzl h1
  · omega
theorem Lost.upd {f : Fl} {l : List UInt8} {k q : Nat} {sn : Nat → Bool} (h : Lost f l k sn) (hn : its f false (l.drop q) = none) : Lost f l k (updS sn q) := by
  intro z hz hzl hs
  unfold updS at hs
  by_cases e : z = q
  · subst e; exact .inl (its_lost hn)
  · rw [if_neg e] at hs; exact h z hz hzl hs
end Gl
end Go.Proofs.YtncnmeidciailaaDoor
