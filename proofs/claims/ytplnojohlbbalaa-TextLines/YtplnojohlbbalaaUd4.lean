/- The program's Whole. Condition: lengths that fit. -/
import Derived.Test.YtplnojohlbbalaaUd3
import Derived.ArgAppend
namespace Go.Proofs.Ytplnojohlbbalaa
open Go.RowKit
attribute [local go_sem] ext_eq app_eq get_eq
/-- A slice of bytes that can be read, and appended to. -/
structure Ap (B : Nat) (W : World) (a : Option Addr) (c : Nat) (l : List UInt8) : Prop where
  src : Src W a l
  le : l.length ≤ c
  nil : a = none → c = 0
  at' : ∀ ad, a = some ad → ∃ g, ad = ⟨g, 0, none⟩ ∧ B ≤ g ∧ ∀ i, i < c → (W.cell? ⟨g, i, none⟩).isSome = true ∧ W.frozen? ⟨g, i, none⟩ = false
theorem Ap.sr {B : Nat} {W : World} {a : Option Addr} {c : Nat} {l : List UInt8} (h : Ap B W a c l) : Sr W a c l := ⟨h.src, h.le, h.nil⟩
theorem Ap.grow {B : Nat} {W W' : World} {a : Option Addr} {c : Nat} {l : List UInt8} (h : Ap B W a c l) (b : Below W.heap.size W W') : Ap B W' a c l := by
  refine ⟨h.src.grow b (Nat.le_refl _), h.le, h.nil, fun ad ea => ?_⟩
  obtain ⟨g, e, hB, hg⟩ := h.at' ad ea
  refine ⟨g, e, hB, fun i hi => ?_⟩
  obtain ⟨h1, h2⟩ := hg i hi
  have hlt : g < W.heap.size := by
    obtain ⟨u, hu⟩ := Option.isSome_iff_exists.1 h1
    exact block_lt_of_cell hu
  have hk := b.block g hlt
  exact ⟨by rw [World.cell?_of_block (w := W) hk]; exact h1, by rw [← h2]; simp [World.frozen?, hk]⟩
theorem Ap.fresh {B : Nat} {W : World} {v : Value} {l : List UInt8} (h : Lib.FreshBytes B W v l) : ∃ a c, v = .slice a l.length c ∧ Ap B W a c l := by
  obtain ⟨g, cap, zs, rfl, hB, h1, h2, h3, h4, h5, h6, h7⟩ := h
  refine ⟨_, _, rfl, fun j hj => ⟨g, 0, rfl, ?_, ?_⟩, h1, fun e => (by cases e), fun ad ea => ?_⟩
  · exact block_lt_of_cell (h6 j (by omega))
  · rw [Nat.zero_add, h6 j (by omega)]
    have hz : j < zs.length := by omega
    have e1 : zs.getD j 0 = zs[j] := by rw [List.getD_eq_getElem?_getD, List.getElem?_eq_getElem hz]; rfl
    have hb := h4 zs[j] (List.getElem_mem hz)
    have e2 : l[j] = UInt8.ofNat (zs[j]).toNat := by
      have := congrArg (fun q => q[j]?) h5
      simp only [Lib.bytesOf, List.getElem?_map, List.getElem?_take, hj, if_true] at this
      rw [List.getElem?_eq_getElem hz, List.getElem?_eq_getElem hj] at this
      simpa using this.symm
    rw [e1, e2]
    have e3 : (UInt8.ofNat (zs[j]).toNat).toNat = (zs[j]).toNat := by simp; omega
    rw [e3, Int.toNat_of_nonneg hb.1]
  · injection ea with ea
    exact ⟨g, ea.symm, hB, fun i hi => ⟨by rw [h6 i hi]; rfl, h7 i hi⟩⟩
theorem Ap.empty (B : Nat) (W : World) : Ap B W none 0 [] := ⟨Src.nil _ _, Nat.le_refl _, fun _ => rfl, fun _ e => (by cases e)⟩
theorem lens_eq : ∀ X : List (List UInt8), Lib.lens X = X.flatten.length
  | [] => by simp [Lib.lens]
  | x :: r => by
    have ih := lens_eq r
    simp only [Lib.lens, List.map_cons, List.sum_cons, List.flatten_cons, List.length_append] at ih ⊢
    rw [ih]
/-- Join of rows that are read, with a line feed between. -/
theorem oJoin (X : List (List UInt8)) (a : Option Addr) (c g : Nat) (hX : X.length ≤ 1048577) (hF : X.flatten.length ≤ 1048577) (hc : X.length ≤ c) (w : World) (hR : Rd w a X) (hg : w.cell? ⟨g, 0, none⟩ = some (.int .u8 10)) : Calls Try.prog 24 #[.slice a X.length c, .slice (some ⟨g, 0, none⟩) 1 1] w fun e w' => ∃ a' c', e = .returned (.slice a' (Lib.join X [10]).length c') ∧ Ap w.heap.size w' a' c' (Lib.join X [10]) ∧ Below w.heap.size w w' := by
  match X, hX, hF, hc, hR with
  | [], _, _, _, _ =>
    refine (Try.bytes_Join_none a c _ w).mono ?_
    rintro e w' ⟨rfl, rfl⟩
    refine ⟨_, 0, rfl, ⟨Src.nil _ _, Nat.le_refl _, fun e => (by cases e), fun ad ea => ?_⟩, (Below.refl _ _).alloc (Nat.le_refl _) _⟩
    injection ea with ea
    exact ⟨_, ea.symm, Nat.le_refl _, fun i hi => absurd hi (Nat.not_lt_zero _)⟩
  | [x], _, hF, _, hR =>
    obtain ⟨g0, o, a', c', rfl, hg0, hc0, hs⟩ := hR 0 (by simp)
    rw [Lib.join_one]
    have hx0 : x.length ≤ 1048577 := by simpa using hF
    have hcell : w.cell? ⟨g0, o, none⟩ = some (.slice a' x.length c') := hc0
    have hs' : Sr w a' c' x := hs
    by_cases h0 : x.length = 0
    · rw [h0] at hcell
      refine (Try.bytes_Join_one_empty g0 o c a' c' _ w hcell).mono ?_
      rintro e w' ⟨rfl, rfl⟩
      have ex : x = [] := List.length_eq_zero_iff.1 h0
      subst ex
      exact ⟨none, 0, rfl, Ap.empty _ _, Below.refl _ _⟩
    · obtain ⟨gs, os, ea, _, _⟩ := hs'.src 0 (by omega)
      subst ea
      refine (Try.bytes_Join_one g0 o c ⟨gs, os, none⟩ c' x _ w hcell (fun i u hu => ?_) (by omega) (by omega)).mono ?_
      · have hi := (List.getElem?_eq_some_iff.1 hu)
        obtain ⟨hi1, hi2⟩ := hi
        subst hi2
        obtain ⟨_, _, e2, _, hc2⟩ := hs'.src i hi1
        cases e2
        rw [show (⟨gs, os, none⟩ : Addr).add i = ⟨gs, os + i, none⟩ by simp [Addr.add]]; exact hc2
      · rintro e w' ⟨v, rfl, hf, hb⟩
        obtain ⟨a2, c2, rfl, hA⟩ := Ap.fresh hf
        exact ⟨a2, c2, rfl, hA, hb⟩
  | x :: y :: r, hX, hF, hc, hR =>
    obtain ⟨g0, o, _, _, rfl, _, _, _⟩ := hR 0 (by simp)
    have hex : ∀ i, i < (x :: y :: r).length → ∃ v, w.cell? ⟨g0, o + i, none⟩ = some v ∧ ∀ h : i < (x :: y :: r).length, Lib.HoldsBytes w v ((x :: y :: r)[i]) := fun i hi => by
      obtain ⟨g1, o1, a', c', e, hg1, hc1, hs⟩ := hR i hi
      cases e
      refine ⟨_, hc1, fun h => ⟨a', c', rfl, fun e => List.length_eq_zero_iff.1 (by have h1 := hs.nil e; have h2 := hs.le; omega), fun ad ea j u hu => ?_⟩⟩
      obtain ⟨hj1, hj2⟩ := List.getElem?_eq_some_iff.1 hu
      subst hj2
      obtain ⟨gs, os, e2, _, hc2⟩ := hs.src j hj1
      rw [ea] at e2
      cases e2
      rw [show (⟨gs, os, none⟩ : Addr).add j = ⟨gs, os + j, none⟩ by simp [Addr.add]]; exact hc2
    obtain ⟨vs, hvl, hvq⟩ : ∃ vs : List Value, vs.length = (x :: y :: r).length ∧ ∀ i v, vs[i]? = some v → w.cell? ⟨g0, o + i, none⟩ = some v ∧ ∀ h : i < (x :: y :: r).length, Lib.HoldsBytes w v ((x :: y :: r)[i]) := by
      have := fun n (hn : n ≤ (x :: y :: r).length) => (show ∃ vs : List Value, vs.length = n ∧ ∀ i v, vs[i]? = some v → w.cell? ⟨g0, o + i, none⟩ = some v ∧ ∀ h : i < (x :: y :: r).length, Lib.HoldsBytes w v ((x :: y :: r)[i]) by
        induction n with
        | zero => exact ⟨[], rfl, fun i v h => by simp at h⟩
        | succ n ih =>
          obtain ⟨vs, h1, h2⟩ := ih (by omega)
          obtain ⟨v, h3, h4⟩ := hex n (by omega)
          refine ⟨vs ++ [v], by simp [h1], fun i u hu => ?_⟩
          by_cases hi : i < vs.length
          · rw [List.getElem?_append_left hi] at hu; exact h2 i u hu
          · rw [List.getElem?_append_right (by omega)] at hu
            have hin : i = n := by
              rcases Nat.lt_or_ge (i - vs.length) 1 with h | h
              · omega
              · rw [List.getElem?_eq_none (by simpa using h)] at hu; cases hu
            subst hin
            rw [show i - vs.length = 0 by omega] at hu
            simp at hu; subst hu
            exact ⟨h3, h4⟩)
      exact this _ (Nat.le_refl _)
    refine (Try.bytes_Join_many g0 o (x :: y :: r).length c vs (x :: y :: r) _ [10] w rfl (by simp) ⟨hvl, fun i v hv => ?_, fun i v l hv hl => ?_⟩ hc ⟨some ⟨g, 0, none⟩, 1, rfl, fun e => (by cases e), fun ad ea i u hu => ?_⟩ (by omega) (by rw [lens_eq]; simp only [List.length_cons, List.length_nil] at hX ⊢; omega)).mono ?_
    · rw [show (⟨g0, o, none⟩ : Addr).add i = ⟨g0, o + i, none⟩ by simp [Addr.add]]; exact (hvq i v hv).1
    · obtain ⟨hi1, hi2⟩ := List.getElem?_eq_some_iff.1 hl
      subst hi2
      exact (hvq i v hv).2 hi1
    · injection ea with ea
      subst ea
      match i, hu with
      | 0, hu => simp at hu; subst hu; simpa [Addr.add] using hg
    · rintro e w' ⟨v, rfl, hf, hb⟩
      obtain ⟨a2, c2, rfl, hA⟩ := Ap.fresh hf
      exact ⟨a2, c2, rfl, hA, hb⟩
end Go.Proofs.Ytplnojohlbbalaa
