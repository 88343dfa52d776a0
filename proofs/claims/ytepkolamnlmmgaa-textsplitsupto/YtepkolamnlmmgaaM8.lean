/- Several texts of this claim, one behind the other, in their order. -/
import Derived.Test.YtepkolamnlmmgaaUd3
import Derived.ArgAppend
import Derived.Lib.SlFresh
/- The program's Whole. Condition: lengths that fit. -/
namespace Go.Proofs.Ytepkolamnlmmgaa
open Go.RowKit
attribute [local go_sem] ext_eq app_eq get_eq
/-- A slice of bytes that can be read, and appended to. -/
structure Ap (B : Nat) (W : World) (a : Option Addr) (c : Nat) (l : List UInt8) : Prop where
  src : Src W a l
  le : l.length ≤ c
  nil : a = none → c = 0
  at' : ∀ ad, a = some ad → ∃ g, ad = ⟨g, 0, none⟩ ∧ B ≤ g ∧ ∀ i, i < c → (W.cell? ⟨g, i, none⟩).isSome = true ∧ W.frozen? ⟨g, i, none⟩ = false
theorem Ap.sr {B : Nat} {W : World} {a : Option Addr} {c : Nat} {l : List UInt8} (h : Ap B W a c l) : Sr W a c l := ⟨h.src, h.le, h.nil⟩
theorem Ap.grow {B : Nat} {W W' : World} {a : Option Addr} {c : Nat} {l : List UInt8} (h : Ap B W a c l) (b : Below W.heap.size W W') : Ap B W' a c l := by
  refine ⟨h.src.grow b (Nat.le_refl _), h.le, h.nil, fun ad ea => ?_⟩
  obtain ⟨g, e, hB, hg⟩ := h.at' ad ea
  refine ⟨g, e, hB, fun i hi => ?_⟩
  obtain ⟨h1, h2⟩ := hg i hi
  have hlt : g < W.heap.size := by
    obtain ⟨u, hu⟩ := Option.isSome_iff_exists.1 h1
    exact block_lt_of_cell hu
  have hk := b.block g hlt
  exact ⟨by rw [World.cell?_of_block (w := W) hk]; exact h1, by rw [← h2]; simp [World.frozen?, hk]⟩
theorem Ap.fresh {B : Nat} {W : World} {v : Value} {l : List UInt8} (h : Lib.FreshBytes B W v l) : ∃ a c, v = .slice a l.length c ∧ Ap B W a c l := by
  obtain ⟨g, cap, zs, rfl, hB, h1, h2, h3, h4, h5, h6, h7⟩ := h
  refine ⟨_, _, rfl, fun j hj => ⟨g, 0, rfl, ?_, ?_⟩, h1, fun e => (by cases e), fun ad ea => ?_⟩
  · exact block_lt_of_cell (h6 j (by omega))
  · rw [Nat.zero_add, h6 j (by omega)]
    have hz : j < zs.length := by omega
    have e1 : zs.getD j 0 = zs[j] := by rw [List.getD_eq_getElem?_getD, List.getElem?_eq_getElem hz]; rfl
    have hb := h4 zs[j] (List.getElem_mem hz)
    have e2 : l[j] = UInt8.ofNat (zs[j]).toNat := by
      have := congrArg (fun q => q[j]?) h5
      simp only [Lib.bytesOf, List.getElem?_map, List.getElem?_take, hj, if_true] at this
      rw [List.getElem?_eq_getElem hz, List.getElem?_eq_getElem hj] at this
      simpa using this.symm
    rw [e1, e2]
    have e3 : (UInt8.ofNat (zs[j]).toNat).toNat = (zs[j]).toNat := by simp; omega
    rw [e3, Int.toNat_of_nonneg hb.1]
  · injection ea with ea
    exact ⟨g, ea.symm, hB, fun i hi => ⟨by rw [h6 i hi]; rfl, h7 i hi⟩⟩
theorem Ap.empty (B : Nat) (W : World) : Ap B W none 0 [] := ⟨Src.nil _ _, Nat.le_refl _, fun _ => rfl, fun _ e => (by cases e)⟩
theorem lens_eq : ∀ X : List (List UInt8), Lib.lens X = X.flatten.length
  | [] => by simp [Lib.lens]
  | x :: r => by
    have ih := lens_eq r
    simp only [Lib.lens, List.map_cons, List.sum_cons, List.flatten_cons, List.length_append] at ih ⊢
    rw [ih]
end Go.Proofs.Ytepkolamnlmmgaa
/- The program's Whole. Condition: lengths that fit. -/
namespace Go.Proofs.Ytepkolamnlmmgaa
open Go.RowKit
attribute [local go_sem] ext_eq app_eq get_eq
theorem Sr.app_set {B : Nat} {W : World} {g c : Nat} {l : List UInt8} {x : UInt8} (h : Ap B W (some ⟨g, 0, none⟩) c l) (hr : l.length + 1 ≤ c) : Sr (W.setCell ⟨g, l.length, none⟩ (.int .u8 x.toNat)) (some ⟨g, 0, none⟩) c (l ++ [x]) := by
  obtain ⟨g', e, hB, hg⟩ := h.at' _ rfl
  cases e
  have hlt : g < W.heap.size := by
    obtain ⟨u, hu⟩ := Option.isSome_iff_exists.1 (hg l.length (by omega)).1
    exact block_lt_of_cell hu
  refine ⟨fun j hj => ⟨g, 0, rfl, by simpa using hlt, ?_⟩, by rw [List.length_append]; simpa using hr, fun e => by cases e⟩
  rw [Nat.zero_add]
  by_cases e : j = l.length
  · subst e
    obtain ⟨u, hu⟩ := Option.isSome_iff_exists.1 (hg l.length (by omega)).1
    rw [World.cell?_setCell_same _ _ _ hu]
    simp
  · have hjl : j < l.length := by rw [List.length_append] at hj; simp at hj; omega
    rw [World.cell?_setCell_other _ _ _ _ (by intro e9; injection e9 with _ e9 _; exact e e9.symm)]
    obtain ⟨g1, o1, e1, _, hc⟩ := h.src j hjl
    cases e1
    rw [Nat.zero_add] at hc
    rw [hc, List.getElem_append_left hjl]
end Go.Proofs.Ytepkolamnlmmgaa
