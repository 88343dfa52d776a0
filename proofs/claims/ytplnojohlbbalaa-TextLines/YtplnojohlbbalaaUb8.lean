/- The plain answer's pieces. Condition: a length that fits. -/
import Derived.Test.YtplnojohlbbalaaUb7
namespace Go.Proofs.Ytplnojohlbbalaa
open Go.RowKit
attribute [local go_sem] ext_eq app_eq get_eq
theorem RR.pushg {B : Nat} {W0 W w' : World} {v v' u : Value} {X : List (List UInt8)} {x : List UInt8} {vs : List Value} (b : Below W0.heap.size W0 W) (h1 : W0.ownsRow B 22 1 v X.length vs) (h2 : vs.length = X.length) (h3 : ∀ u ∈ vs, u.oneCell' = true) (h4 : ∀ i (h : i < X.length), Sq B W0 (vs[i]'(by omega)) X[i]) (hx : Sq B W u x) (hu : u.oneCell' = true) (o : Obj) (hown : w'.ownsRow B 22 1 v' (X.length + 1) (vs ++ [u])) (hg : (W.alloc o).grownBy w' v.ownBlock) : RR B w' v' (X ++ [x]) :=
  RR.push (own_grow h1 b) h2 h3 (fun i h => (h4 i h).grow b) hx hu o hown hg
theorem cell_one_at (w : World) (x : Value) (t : TypeId) (g : Nat) (hg : w.heap.size = g) : ∀ j u, [x][j]? = some u → (w.alloc (.cells #[x] t)).cell? ((⟨g, 0, none⟩ : Addr).add j) = some u := by
  subst hg; exact cell_one_new w x t
namespace Tl
def ps (l : List UInt8) : List (List UInt8) := (prs l).map pc
theorem ps_len (l : List UInt8) : (ps l).length = (ls l).length := by simp [ps, ls]
theorem ls_le (l : List UInt8) : (ls l).length ≤ l.length := by simp only [ls, List.length_map]; exact prs_len l.length l (Nat.le_refl _)
theorem flat_each : ∀ {X : List (List UInt8)} {k : Nat} (h : k < X.length), X[k].length ≤ X.flatten.length
  | x :: r, 0, _ => by simp
  | x :: r, k + 1, h => by
    have := flat_each (X := r) (k := k) (by simpa using h)
    simp at this ⊢; omega
theorem ls_each (l : List UInt8) (hl : l.length ≤ 1048577) : ∀ k (h : k < (ls l).length), (ls l)[k].length ≤ 1048577 := fun k h => by
  have hp : k < (prs l).length := by simpa [ls] using h
  have h2 := flat_each (X := (prs l).map pc) (k := k) (by simpa using hp)
  rw [flat_all] at h2
  simp only [ls, List.getElem_map, pc, List.length_append] at h2 ⊢
  omega
theorem ps_take (l : List UInt8) (k : Nat) (h : k < (ls l).length) : (ps l).take (k + 1) = (ps l).take k ++ [(ls l)[k] ++ if (decide (k + 1 < (ls l).length) || eb l) then [10] else []] := by
  have hp : k < (prs l).length := by simpa [ls] using h
  have e := prs_ended l.length l (Nat.le_refl _) k hp
  rw [List.take_succ_eq_append_getElem (by rw [ps_len]; exact h)]
  congr 1
  simp only [ps, ls, List.getElem_map, List.length_map, pc, ← e]
end Tl
end Go.Proofs.Ytplnojohlbbalaa
