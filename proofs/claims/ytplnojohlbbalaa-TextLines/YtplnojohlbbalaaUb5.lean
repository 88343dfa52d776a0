/- The plain answer's joined and pieces. Condition: lengths that fit. -/
import Derived.Test.YtplnojohlbbalaaUb4
namespace Go.Proofs.Ytplnojohlbbalaa
open Go.RowKit
attribute [local go_sem] ext_eq app_eq get_eq
namespace Tl
theorem prs_ended (n : Nat) : ∀ l : List UInt8, l.length ≤ n → ∀ i (h : i < (prs l).length), ((prs l)[i]).2 = (decide (i + 1 < (prs l).length) || eb l) := by
  induction n with
  | zero =>
    intro l h i hi
    have : l = [] := List.length_eq_zero_iff.1 (by omega)
    subst this; simp [prs_nil] at hi
  | succ n ih =>
    intro l h i hi
    by_cases h0 : l = []
    · subst h0; simp [prs_nil] at hi
    · by_cases hf : fx l < l.length
      · have e := prs_yes hf
        have ihr := ih (l.drop (fx l + 1)) (by rw [List.length_drop]; omega)
        have eE : eb l = eb (l.drop (fx l + 1)) := by unfold eb; rw [e]; simp
        rw [eE]
        cases i with
        | zero =>
          simp only [e, List.getElem_cons_zero, List.length_cons]
          cases hp : prs (l.drop (fx l + 1)) with
          | nil => simp [eb, hp]
          | cons x r => simp
        | succ i =>
          have hi' : i < (prs (l.drop (fx l + 1))).length := by rw [e, List.length_cons] at hi; omega
          have := ihr i hi'
          simp only [e, List.getElem_cons_succ, List.length_cons]
          rw [this]
          congr 1
          simp
      · have e := prs_no hf h0
        have hi0 : i = 0 := by rw [e] at hi; simp at hi; omega
        subst hi0
        unfold eb
        simp [e]
end Tl
/-- Rows of bytes that are read, told one behind the other. -/
def Rd (W : World) (a : Option Addr) (X : List (List UInt8)) : Prop := ∀ i (h : i < X.length), ∃ g o a' c', a = some ⟨g, o, none⟩ ∧ g < W.heap.size ∧ W.cell? ⟨g, o + i, none⟩ = some (.slice a' X[i].length c') ∧ Sr W a' c' X[i]
theorem Rd.grow {W W' : World} {a : Option Addr} {X : List (List UInt8)} (h : Rd W a X) (b : Below W.heap.size W W') : Rd W' a X := fun i hi => by
  obtain ⟨g, o, a', c', e, hg, hc, hs⟩ := h i hi
  exact ⟨g, o, a', c', e, Nat.lt_of_lt_of_le hg b.size, (b.cell (p := ⟨g, o + i, none⟩) hg).trans hc, hs.grow b⟩
theorem RR.rd {B : Nat} {W : World} {a : Option Addr} {n c : Nat} {X : List (List UInt8)} (h : RR B W (.slice a n c) X) : Rd W a X ∧ n = X.length ∧ n ≤ c ∧ (a = none → c = 0) := by
  obtain ⟨vs, h1, h2, h3, h4⟩ := h
  rcases h1.2 with ⟨e, h0⟩ | ⟨g, cap, cur, e, hb, hg, hnc, hcm, hsz, ht⟩
  · injection e with e1 e2 e3
    exact ⟨fun i hi => (by omega), by omega, by omega, fun _ => e3⟩
  · injection e with e1 e2 e3
    subst e1 e3
    refine ⟨fun i hi => ?_, by omega, by omega, fun e => by cases e⟩
    obtain ⟨a', c', ev, hs, _⟩ := (h4 i hi).sr
    refine ⟨g, 0, a', c', rfl, heap_lt hg, ?_, hs⟩
    have := h1.cells (g := g) (by rfl) i (vs[i]'(by omega)) (by simp [h2, hi])
    rw [show (⟨g, 0 + i, none⟩ : Addr) = (⟨g, 0, none⟩ : Addr).add i by simp [Addr.add], ← ev]; exact this
theorem Rd.pre {W : World} {a : Option Addr} {X : List (List UInt8)} (h : Rd W a X) (k : Nat) : Rd W a (X.take k) := fun i hi => by
  rw [List.length_take] at hi
  obtain ⟨g, o, a', c', e, hg, hc, hs⟩ := h i (by omega)
  exact ⟨g, o, a', c', e, hg, by rw [hc]; simp, by rw [List.getElem_take]; exact hs⟩
theorem Rd.suf {W : World} {a : Option Addr} {X : List (List UInt8)} {c : Nat} (h : Rd W a X) (hc : X.length ≤ c) (k : Nat) : Rd W (if c = k then a else a.map (·.add (k * 1))) (X.drop k) := fun i hi => by
  rw [List.length_drop] at hi
  obtain ⟨g, o, a', c', e, hg, hcell, hs⟩ := h (k + i) (by omega)
  rw [if_neg (by omega)]
  refine ⟨g, o + k, a', c', by rw [e]; simp [Addr.add], hg, ?_, by rw [List.getElem_drop]; exact hs⟩
  rw [show o + k + i = o + (k + i) by omega, hcell]; simp
theorem joined_take {X : List (List UInt8)} {k : Nat} (h : k < X.length) : (X.take (k + 1)).flatten = (X.take k).flatten ++ X[k] := by
  rw [List.take_succ_eq_append_getElem h, List.flatten_append]; simp
theorem flat_le {X : List (List UInt8)} {n : Nat} (h : X.flatten.length ≤ n) (k : Nat) : (X.take k).flatten.length ≤ n := by
  have e : X.flatten = (X.take k).flatten ++ (X.drop k).flatten := by rw [← List.flatten_append, List.take_append_drop]
  rw [e, List.length_append] at h; omega
end Go.Proofs.Ytplnojohlbbalaa
