/- TextLines: the lines so far, is the last line ended, rows of one's own rows. No condition. -/
import Derived.Test.YtplnojohlbbalaaUc4
namespace Go.Proofs.Ytplnojohlbbalaa
open Go.RowKit
attribute [local go_sem] ext_eq app_eq get_eq
namespace Tl
/-- The first k lines. -/
def Tx (l : List UInt8) (k : Nat) : List (List UInt8) := ((prs l).take k).map (·.1)
theorem Tx_zero (l : List UInt8) : Tx l 0 = [] := by simp [Tx]
theorem Tx_len (l : List UInt8) (k : Nat) (h : k ≤ (prs l).length) : (Tx l k).length = k := by
  unfold Tx; rw [List.length_map, List.length_take, Nat.min_eq_left h]
theorem Tx_all (l : List UInt8) : Tx l (prs l).length = ls l := by
  unfold Tx ls; rw [List.take_of_length_le (Nat.le_refl _)]
theorem Tx_succ {l : List UInt8} {k : Nat} (hk : k ≤ (prs l).length) (hr : l.drop (en l k) ≠ []) : Tx l (k + 1) = Tx l k ++ [hd (l.drop (en l k))] := by
  have ih := prs_drop l k hk
  have hs := prs_step hr
  rw [ih] at hs
  have hlt : k < (prs l).length := by
    rcases Nat.lt_or_ge k (prs l).length with h | h
    · exact h
    · rw [List.drop_eq_nil_of_le h] at hs; cases hs
  have hc : (prs l).drop k = (prs l)[k] :: (prs l).drop (k + 1) := List.drop_eq_getElem_cons hlt
  rw [hc] at hs
  injection hs with h1 h2
  unfold Tx
  rw [List.take_succ_eq_append_getElem hlt, List.map_append, h1]; rfl
theorem fx_min : ∀ (l : List UInt8) (j : Nat) (h : j < l.length), l[j] = 10 → fx l ≤ j
  | [], j, h, _ => by simp at h
  | c :: l, j, h, e => by
    by_cases hc : c = 10
    · have e0 : fx (c :: l) = 0 := if_pos hc
      omega
    · have e0 : fx (c :: l) = fx l + 1 := if_neg hc
      cases j with
      | zero => exact absurd e hc
      | succ j =>
        have := fx_min l j (by simpa using h) (by simpa using e)
        omega
theorem eb_at (n : Nat) : ∀ l : List UInt8, l.length ≤ n → ∀ m (hm : m < l.length), m + 1 = l.length → eb l = decide (l[m] = 10) := by
  induction n with
  | zero => intro l h m hm e; omega
  | succ n ih =>
    intro l h m hm e
    have h0 : l ≠ [] := by intro h0; subst h0; simp at hm
    by_cases hf : fx l < l.length
    · have eE : eb l = eb (l.drop (fx l + 1)) := by unfold eb; rw [prs_yes hf]; simp
      rw [eE]
      by_cases hd : fx l + 1 = l.length
      · have em : m = fx l := by omega
        subst em
        rw [List.drop_eq_nil_of_le (by omega), fx_at hf]; rfl
      · rw [ih (l.drop (fx l + 1)) (by rw [List.length_drop]; omega) (m - (fx l + 1)) (by rw [List.length_drop]; omega) (by rw [List.length_drop]; omega)]
        have e2 : fx l + 1 + (m - (fx l + 1)) = m := by omega
        simp only [List.getElem_drop, e2]
    · have e3 : eb l = false := by unfold eb; rw [prs_no hf h0]; rfl
      rw [e3]
      symm
      apply decide_eq_false
      intro h10
      have := fx_min l m hm h10
      omega
end Tl
/-- A row of one's own of slices of bytes; the first k of them are one's own, too. -/
def RO (B : Nat) (W : World) (v : Value) (X : List (List UInt8)) (k : Nat) : Prop := ∃ vs : List Value, W.ownsRow B 22 1 v X.length vs ∧ ∃ hl : vs.length = X.length, (∀ u ∈ vs, u.oneCell' = true) ∧ (∀ i (h : i < X.length), Sq B W (vs[i]'(by omega)) X[i]) ∧ ∀ i (h : i < X.length), i < k → By B W (vs[i]'(by omega)) X[i]
theorem RR.ro {B : Nat} {W : World} {v : Value} {X : List (List UInt8)} (h : RR B W v X) : RO B W v X 0 := by
  obtain ⟨vs, h1, h2, h3, h4⟩ := h
  exact ⟨vs, h1, h2, h3, h4, fun i _ hk => absurd hk (Nat.not_lt_zero _)⟩
theorem RO.rr {B : Nat} {W : World} {v : Value} {X : List (List UInt8)} {k : Nat} (h : RO B W v X k) : RR B W v X := by
  obtain ⟨vs, h1, h2, h3, h4, _⟩ := h
  exact ⟨vs, h1, h2, h3, h4⟩
theorem RO.grow {B k : Nat} {W W' : World} {v : Value} {X : List (List UInt8)} (h : RO B W v X k) (b : Below W.heap.size W W') : RO B W' v X k := by
  obtain ⟨vs, h1, h2, h3, h4, h5⟩ := h
  exact ⟨vs, own_grow h1 b, h2, h3, fun i hi => (h4 i hi).grow b, fun i hi hk => (h5 i hi hk).grow b⟩
theorem Sq.set {B : Nat} {W : World} {v : Value} {x : List UInt8} (h : Sq B W v x) {g j : Nat} {u : Value} (hg : B ≤ g) (hk : ∃ c fz, W.heap[g]? = some (.cells c 22 fz)) : Sq B (W.setCell ⟨g, j, none⟩ u) v x := by
  obtain ⟨a, c, e, hs, hkk⟩ := h.sr
  have key : ∀ g' o, a = some ⟨g', o, none⟩ → 0 < x.length → g' ≠ g := fun g' o ea hx hgg => by
    subst hgg
    obtain ⟨c2, f2, h2⟩ := hk
    rcases hkk g' o ea hx with h | ⟨cur, fz, h⟩
    · omega
    · rw [h] at h2
      injection h2 with h2
      injection h2 with _ h3 _
      exact absurd h3 (by decide)
  refine ⟨a, c, e, ⟨fun i hi => ?_, hs.le, hs.nil⟩, fun g' o ea hx => ?_⟩
  · obtain ⟨g', o, ea, hl, hc⟩ := hs.src i hi
    refine ⟨g', o, ea, by simpa using hl, ?_⟩
    rw [World.cell?_setCell_other _ _ _ _ (by intro e9; injection e9 with e9 _ _; exact key g' o ea (by omega) e9.symm)]; exact hc
  · rcases hkk g' o ea hx with h | ⟨cur, fz, h⟩
    · exact .inl h
    · refine .inr ⟨cur, fz, ?_⟩
      rw [heap_setCell_other W ⟨g, j, none⟩ g' u (by show g' ≠ g; exact key g' o ea hx)]; exact h
theorem By.setR {B' : Nat} {W : World} {v : Value} {x : List UInt8} (h : By B' W v x) {g j : Nat} {u : Value} (hk : ∃ c fz, W.heap[g]? = some (.cells c 22 fz)) : By B' (W.setCell ⟨g, j, none⟩ u) v x := by
  refine h.on (fun g' c hc => ?_)
  obtain ⟨c2, f2, h2⟩ := hk
  exact heap_setCell_other W ⟨g, j, none⟩ g' u (by show g' ≠ g; exact heap_ne hc h2 (by decide))
/-- One more of the row's slices is replaced by one's own with the same bytes. -/
theorem RO.store {B : Nat} {W : World} {X : List (List UInt8)} {k g n cap : Nat} {v2 : Value} (h : RO B W (.slice (some ⟨g, 0, none⟩) n cap) X k) (hk : k < X.length) (h2 : By B W v2 X[k]) (h3 : v2.oneCell' = true) : RO B (W.setCell ⟨g, k, none⟩ v2) (.slice (some ⟨g, 0, none⟩) n cap) X (k + 1) := by
  obtain ⟨vs, o1, o2, o3, o4, o5⟩ := h
  have hgB : B ≤ g := (o1.lt g rfl).1
  have hkd := own_kind o1 g rfl
  have en : n = X.length := by
    obtain ⟨a', c', e'⟩ := own_slice o1
    injection e' with _ e2 _
  subst en
  refine ⟨vs.set k v2, (o1.stored k v2).1, by simp [o2], fun u hu => ?_, fun i hi => ?_, fun i hi hik => ?_⟩
  · rcases List.mem_or_eq_of_mem_set hu with h | h
    · exact o3 u h
    · rw [h]; exact h3
  · rw [List.getElem_set]
    by_cases e : k = i
    · subst e
      rw [if_pos rfl]
      exact (Sq.of_by h2).set hgB hkd
    · rw [if_neg e]
      exact (o4 i hi).set hgB hkd
  · rw [List.getElem_set]
    by_cases e : k = i
    · subst e
      rw [if_pos rfl]
      exact h2.setR hkd
    · rw [if_neg e]
      exact (o5 i hi (by omega)).setR hkd
theorem By.one {B : Nat} {W : World} {v : Value} {x : List UInt8} (h : By B W v x) : v.oneCell' = true := by
  obtain ⟨a, c, rfl⟩ := h.slice
  rfl
end Go.Proofs.Ytplnojohlbbalaa
