/- Several texts of this claim, one behind the other, in their order. -/
import Derived.Test.YtplnojohlbbalaaDoorUxX
import Derived.Test.YtplnojohlbbalaaDoorEvZ
import Derived.Test.YtplnojohlbbalaaDoorM8
import Derived.BigQuiet
/- The statement's example runs to true, by the evaluator. No condition. -/
namespace Go.Proofs.YtplnojohlbbalaaDoor
open Go.RowKit
open Ev
theorem livesRun : callA Tryd.prog x0 0 hint 20000 10 [] h0 saysTrue = .ok := by kernel_rfl
theorem awakes (W : World) : Calls Tryd.prog 10 #[] W fun e w' => e = .returned (.bool true) ∧ Below W.heap.size W w' := true_of_run x0_ok Tryd.checked.mixed livesRun W
end Go.Proofs.YtplnojohlbbalaaDoor
/- TextLines' own function: it answers true. Condition: lengths that fit. -/
namespace Go.Proofs.YtplnojohlbbalaaDoor
open Go.RowKit
attribute [local go_sem] ext_eq app_eq get_eq
set_option maxRecDepth 100000 in
theorem rSame1S {W : World} {a1 a2 : Option Addr} {c1 c2 : Nat} {l : List UInt8} (h1 : Src W a1 l) (h2 : Src W a2 l) : Calls Tryd.prog 24 #[.slice a1 l.length c1, .slice a2 l.length c2] W fun e w' => e = .returned (.bool true) ∧ w' = W := by
  have t1 := h1.text c1
  have t2 := h2.text c2
  clear h1 h2
  go_enter Tryd.func24, Tryd.ntmps24
  go_wp2_with fail
  go_ret
  exact ⟨by simp, rfl⟩
set_option maxRecDepth 100000 in
theorem rSameS {W : World} {a1 a2 : Option Addr} {c1 c2 : Nat} {l : List UInt8} (h1 : Src W a1 l) (h2 : Src W a2 l) : Calls Tryd.prog 7 #[.slice a1 l.length c1, .slice a2 l.length c2] W fun e w' => e = .returned (.bool true) ∧ w' = W := by
  have HS := hidA (rSame1S (c1 := c1) (c2 := c2) h1 h2)
  clear h1 h2
  go_enter Tryd.func7, Tryd.ntmps7
  go_wp2_with (go_at_call 24; with_reducible refine HS.out.mono ?_; rintro e w1 ⟨rfl, hw1⟩; rw [hw1]; clear hw1 w1)
  go_ret
  exact ⟨rfl, rfl⟩
theorem Rd.heap {W W' : World} {a : Option Addr} {X : List (List UInt8)} (h : Rd W a X) (e : W'.heap = W.heap) : Rd W' a X := fun i hi => by
  obtain ⟨g, o, a', c', e1, hg, hc, hs⟩ := h i hi
  exact ⟨g, o, a', c', e1, by rw [e]; exact hg, by rw [← hc]; exact World.cell?_of_block (w := W) (by rw [e]), hs.src.heap e, hs.le, hs.nil⟩
/-- A line's bytes can be written, and lie elsewhere than g. -/
def Zl (W : World) (B g : Nat) (a : Option Addr) (n : Nat) : Prop := ∀ j, j < n → ∃ g' o, a = some ⟨g', o, none⟩ ∧ B ≤ g' ∧ g' ≠ g ∧ (W.cell? ⟨g', o + j, none⟩).isSome = true ∧ W.frozen? ⟨g', o + j, none⟩ = false
theorem Zl.set {W : World} {B g : Nat} {a : Option Addr} {n : Nat} (h : Zl W B g a n) (p : Addr) (u : Value) : Zl (W.setCell p u) B g a n := fun j hj => by
  obtain ⟨g', o, e, hB, hne, hs, hf⟩ := h j hj
  refine ⟨g', o, e, hB, hne, ?_, by rw [World.frozen?_setCell]; exact hf⟩
  by_cases hp : p = ⟨g', o + j, none⟩
  · rw [hp]
    obtain ⟨v, hv⟩ := Option.isSome_iff_exists.1 hs
    rw [World.cell?_setCell_same _ _ _ hv]; rfl
  · rw [World.cell?_setCell_other _ _ _ _ hp]; exact hs
/-- The lines' own bytes can be written, and the row that leads to them lies elsewhere. -/
def Zs (W : World) (B g : Nat) (X : List (List UInt8)) : Prop := ∀ i (h : i < X.length), ∃ a c, W.cell? ⟨g, i, none⟩ = some (.slice a X[i].length c) ∧ Zl W B g a X[i].length
theorem Zs.set {W : World} {B g : Nat} {X : List (List UInt8)} (h : Zs W B g X) {g2 q : Nat} (hne2 : g2 ≠ g) (u : Value) : Zs (W.setCell ⟨g2, q, none⟩ u) B g X := fun i hi => by
  obtain ⟨a, c, h1, h2⟩ := h i hi
  exact ⟨a, c, by rw [World.cell?_setCell_other _ _ _ _ (by intro e9; injection e9 with e9 _ _; exact hne2 e9)]; exact h1, h2.set _ _⟩
theorem RO.zs {B B' : Nat} {W : World} {g n cap : Nat} {X : List (List UInt8)} (h : RO B W (.slice (some ⟨g, 0, none⟩) n cap) X X.length) (hB : B' ≤ B) : Zs W B' g X := fun i hi => by
  obtain ⟨vs, o1, o2, o3, o4, o5⟩ := h
  have hkd := own_kind o1 g rfl
  have hc := o1.cells (g := g) rfl i (vs[i]'(by omega)) (by simp [o2, hi])
  rw [add0] at hc
  have hb := o5 i hi hi
  obtain ⟨a, c, ev⟩ := hb.slice
  rw [ev] at hc hb
  refine ⟨a, c, hc, fun j hj => ?_⟩
  obtain ⟨g', o, e1, e2, e3, e4⟩ := hb.wr j hj
  refine ⟨g', o, e1, Nat.le_trans hB e2, ?_, e3, e4⟩
  subst e1
  obtain ⟨c1, f1, h1⟩ := hb.kind g' (by
    rcases hb.2 with ⟨e, _⟩ | ⟨g3, cap3, cur3, e, _⟩
    · cases e
    · injection e with e _ _
      injection e with e
      injection e with e _ _
      subst e; rfl)
  obtain ⟨c2, f2, h2⟩ := hkd
  exact heap_ne h1 h2 (by decide)
theorem RO.some {B : Nat} {W : World} {a : Option Addr} {n c k : Nat} {X : List (List UInt8)} (h : RO B W (.slice a n c) X k) (hX : 0 < X.length) : ∃ g, a = some ⟨g, 0, none⟩ := by
  obtain ⟨vs, o1, _⟩ := h
  rcases o1.2 with ⟨e, h0⟩ | ⟨g, cap, cur, e, _⟩
  · omega
  · injection e with e _ _
    exact ⟨g, e⟩
end Go.Proofs.YtplnojohlbbalaaDoor
/- Paste and Serial: the plain theory; the program's texts told of the world that the bytes stand in. Condition: a length that fits. -/
namespace Go.Proofs.YtplnojohlbbalaaDoor
open Go.RowKit
attribute [local go_sem] ext_eq app_eq get_eq
namespace Tl
/-- Texts with the bytes of d between them, in their turn. -/
def jn (d : List UInt8) : Nat → List (List UInt8) → List UInt8
  | _, [] => []
  | i, t :: r => (if 0 < i ∧ d ≠ [] then [d.getD ((i - 1) % d.length) 0] else []) ++ (t ++ jn d (i + 1) r)
def lnj (d : List UInt8) (X : List (List UInt8)) : List UInt8 := jn d 0 X ++ [10]
/-- What is told behind k texts. -/
def Jn (d : List UInt8) (X : List (List UInt8)) (p : List UInt8) (k : Nat) : Prop := jn d 0 X = p ++ jn d k (X.drop k)
theorem Jn.zero (d : List UInt8) (X : List (List UInt8)) : Jn d X [] 0 := by simp [Jn]
theorem Jn.sep {d : List UInt8} {X : List (List UInt8)} {p : List UInt8} {k : Nat} (h : Jn d X p k) (hk : k < X.length) (h0 : 0 < k) (hd : d ≠ []) : Jn d X (p ++ [d.getD ((k - 1) % d.length) 0] ++ X[k]) (k + 1) := by
  unfold Jn at h ⊢
  rw [h, List.drop_eq_getElem_cons hk]
  simp only [jn]
  rw [if_pos ⟨h0, hd⟩]
  simp [List.append_assoc]
theorem Jn.bare {d : List UInt8} {X : List (List UInt8)} {p : List UInt8} {k : Nat} (h : Jn d X p k) (hk : k < X.length) (h0 : ¬ (0 < k ∧ d ≠ [])) : Jn d X (p ++ X[k]) (k + 1) := by
  unfold Jn at h ⊢
  rw [h, List.drop_eq_getElem_cons hk]
  simp only [jn]
  rw [if_neg h0]
  simp [List.append_assoc]
theorem Jn.done {d : List UInt8} {X : List (List UInt8)} {p : List UInt8} {k : Nat} (h : Jn d X p k) (hk : ¬ k < X.length) : jn d 0 X = p := by
  unfold Jn at h
  rw [List.drop_eq_nil_of_le (by omega)] at h
  simpa [jn] using h
theorem Jn.le {d : List UInt8} {X : List (List UInt8)} {p : List UInt8} {k : Nat} (h : Jn d X p k) : p.length ≤ (jn d 0 X).length := by
  unfold Jn at h
  rw [h, List.length_append]; omega
theorem jn_len (d : List UInt8) : ∀ (X : List (List UInt8)) (i : Nat), (jn d i X).length ≤ X.flatten.length + X.length
  | [], i => by simp [jn]
  | t :: r, i => by
    have ih := jn_len d r (i + 1)
    simp only [jn, List.length_append, List.flatten_cons, List.length_cons]
    split <;> simp only [List.length_cons, List.length_nil] <;> omega
theorem jn_nil : ∀ (X : List (List UInt8)) (i : Nat), jn [] i X = X.flatten
  | [], i => by simp [jn]
  | t :: r, i => by
    have ih := jn_nil r (i + 1)
    simp only [jn, List.flatten_cons, ih]
    rw [if_neg (by rintro ⟨_, h⟩; exact h rfl)]
    simp
end Tl
/-- A row of slices of bytes of one's own, whose bytes stand in the world w0. -/
def RT (w0 : World) (B : Nat) (W : World) (v : Value) (X : List (List UInt8)) : Prop := ∃ vs : List Value, W.ownsRow B 22 1 v X.length vs ∧ ∃ hl : vs.length = X.length, ∀ i (h : i < X.length), ∃ a c, vs[i]'(by omega) = .slice a X[i].length c ∧ Sr w0 a c X[i]
theorem RT.nil (w0 : World) (B : Nat) (W : World) : RT w0 B W (.slice none 0 0) [] := ⟨[], World.ownsRow_nil _ _ _ _, rfl, fun i h => (by simp at h)⟩
theorem RT.grow {w0 : World} {B : Nat} {W W' : World} {v : Value} {X : List (List UInt8)} (h : RT w0 B W v X) (b : Below W.heap.size W W') : RT w0 B W' v X := by
  obtain ⟨vs, h1, h2⟩ := h
  exact ⟨vs, own_grow h1 b, h2⟩
theorem RT.slice {w0 : World} {B : Nat} {W : World} {v : Value} {X : List (List UInt8)} (h : RT w0 B W v X) : ∃ a c, v = .slice a X.length c := by
  obtain ⟨vs, h1, _⟩ := h
  exact own_slice h1
theorem RT.push {w0 : World} {B : Nat} {w' : World} {v' : Value} {X : List (List UInt8)} {x : List UInt8} {vs : List Value} {a : Option Addr} {c : Nat} (h2 : vs.length = X.length) (h3 : ∀ i (h : i < X.length), ∃ a c, vs[i]'(by omega) = .slice a X[i].length c ∧ Sr w0 a c X[i]) (hx : Sr w0 a c x) (hown : w'.ownsRow B 22 1 v' (X.length + 1) (vs ++ [.slice a x.length c])) : RT w0 B w' v' (X ++ [x]) := by
  refine ⟨vs ++ [.slice a x.length c], by rw [List.length_append]; exact hown, by simp [h2], fun i hi => ?_⟩
  by_cases hlt : i < X.length
  · rw [List.getElem_append_left (by omega), List.getElem_append_left hlt]; exact h3 i hlt
  · have e : i = X.length := by simp at hi; omega
    subst e
    have e1 : (vs ++ [Value.slice a x.length c])[X.length]'(by simp; omega) = .slice a x.length c := by
      rw [List.getElem_append_right (by omega)]; simp [h2]
    have e2 : (X ++ [x])[X.length]'(by simp) = x := by simp
    rw [e1, e2]
    exact ⟨a, c, rfl, hx⟩
/-- Rows of bytes that are read: their cells lie in rows of slices, their bytes stand in the world w0. -/
def Rk (w0 W : World) (a : Option Addr) (X : List (List UInt8)) : Prop := ∀ i (h : i < X.length), ∃ g o a' c', a = some ⟨g, o, none⟩ ∧ W.cell? ⟨g, o + i, none⟩ = some (.slice a' X[i].length c') ∧ (∃ cc fz, W.heap[g]? = some (.cells cc 22 fz)) ∧ Sr w0 a' c' X[i]
theorem Rk.grow {w0 W W' : World} {a : Option Addr} {X : List (List UInt8)} (h : Rk w0 W a X) (b : Below W.heap.size W W') : Rk w0 W' a X := fun i hi => by
  obtain ⟨g, o, a', c', e, hc, ⟨cc, fz, hk⟩, hs⟩ := h i hi
  have hlt := heap_lt hk
  exact ⟨g, o, a', c', e, (b.cell (p := ⟨g, o + i, none⟩) hlt).trans hc, ⟨cc, fz, (b.block g hlt).trans hk⟩, hs⟩
theorem Rk.other {w0 W w' : World} {a : Option Addr} {X : List (List UInt8)} {B n : Nat} {r : Value} {vs : List Value} (h : Rk w0 W a X) (hg : W.grownBy w' r.ownBlock) (hr : W.ownsRow B 5 1 r n vs) : Rk w0 w' a X := fun i hi => by
  obtain ⟨g, o, a', c', e, hc, ⟨cc, fz, hk⟩, hs⟩ := h i hi
  have hne : some g ≠ r.ownBlock := fun e => by
    obtain ⟨c2, f2, h2⟩ := own_kind hr g e.symm
    exact absurd rfl (heap_ne hk h2 (by decide))
  exact ⟨g, o, a', c', e, hg.cell hc hne, ⟨cc, fz, (hg.block g (heap_lt hk) hne).trans hk⟩, hs⟩
theorem RT.rk {w0 : World} {B : Nat} {W : World} {a : Option Addr} {n c : Nat} {X : List (List UInt8)} (h : RT w0 B W (.slice a n c) X) : Rk w0 W a X := fun i hi => by
  obtain ⟨vs, h1, h2, h3⟩ := h
  obtain ⟨a', c', ev, hs⟩ := h3 i hi
  rcases h1.2 with ⟨e, h0⟩ | ⟨g, cap, cur, e, hb, hg, hnc, hcm, hsz, ht⟩
  · omega
  · injection e with e1 e2 e3
    subst e1 e3
    have := h1.cells (g := g) (by rfl) i (vs[i]'(by omega)) (by simp [h2, hi])
    refine ⟨g, 0, a', c', rfl, ?_, ⟨cur, _, hg⟩, hs⟩
    rw [show (⟨g, 0 + i, none⟩ : Addr) = (⟨g, 0, none⟩ : Addr).add i by simp [Addr.add], ← ev]; exact this
end Go.Proofs.YtplnojohlbbalaaDoor
/- The program's joined: texts with the bytes of delims between them, and a line feed. Condition: lengths that fit. -/
namespace Go.Proofs.YtplnojohlbbalaaDoor
open Go.RowKit
attribute [local go_sem] ext_eq app_eq get_eq
/-- A row v that became v': what lay elsewhere in w is as it was; v' lies where v lay, or in a new block. -/
structure Ko (w : World) (v : Value) (W : World) (v' : Value) : Prop where
  blk : ∀ b, b < w.heap.size → some b ≠ v.ownBlock → W.heap[b]? = w.heap[b]?
  own : v'.ownBlock = v.ownBlock ∨ ∃ k, w.heap.size ≤ k ∧ v'.ownBlock = some k
  size : w.heap.size ≤ W.heap.size
theorem Ko.refl (w : World) (v : Value) : Ko w v w v := ⟨fun _ _ _ => rfl, .inl rfl, Nat.le_refl _⟩
theorem Ko.alloc {w W : World} {v v' : Value} (h : Ko w v W v') (o : Obj) : Ko w v (W.alloc o) v' :=
  ⟨fun b hb hr => (Lib.alloc_old W o b (Nat.lt_of_lt_of_le hb h.size)).trans (h.blk b hb hr), h.own, Nat.le_trans h.size (by simp)⟩
theorem Ko.grown {w W w' : World} {v v' v2 : Value} (h : Ko w v W v') (hg : W.grownBy w' v'.ownBlock) (hat : v2.ownBlock = v'.ownBlock ∨ v2.ownBlock = some W.heap.size) : Ko w v w' v2 := by
  refine ⟨fun b hb hr => ?_, ?_, Nat.le_trans h.size hg.size⟩
  · refine (hg.block b (Nat.lt_of_lt_of_le hb h.size) (fun e => ?_)).trans (h.blk b hb hr)
    rcases h.own with h9 | ⟨k, hk, h9⟩
    · exact hr (by rw [e, h9])
    · rw [h9] at e
      injection e with e
      omega
  · rcases hat with h9 | h9
    · rcases h.own with h8 | ⟨k, hk, h8⟩
      · exact .inl (h9.trans h8)
      · exact .inr ⟨k, hk, h9.trans h8⟩
    · exact .inr ⟨_, h.size, h9⟩
theorem By.some {B : Nat} {W : World} {v : Value} {bs : List UInt8} (h : By B W v bs) (hp : 0 < bs.length) : ∃ g c, v = .slice (some ⟨g, 0, none⟩) bs.length c := by
  rcases h.2 with ⟨_, h0⟩ | ⟨g, cap, cur, e, _⟩
  · omega
  · exact ⟨g, cap, e⟩
end Go.Proofs.YtplnojohlbbalaaDoor
/- The plain answer's Lines, told of rows of one's own. Condition: lengths that fit. -/
namespace Go.Proofs.YtplnojohlbbalaaDoor
open Go.RowKit
attribute [local go_sem] ext_eq app_eq get_eq
/-- A row of one's own of rows of bytes of one's own. -/
def RB (B : Nat) (W : World) (v : Value) (X : List (List UInt8)) : Prop := ∃ vs : List Value, W.ownsRow B 22 1 v X.length vs ∧ ∃ hl : vs.length = X.length, (∀ u ∈ vs, u.oneCell' = true) ∧ ∀ i (h : i < X.length), By B W (vs[i]'(by omega)) X[i]
theorem RB.nil (B : Nat) (W : World) : RB B W (.slice none 0 0) [] := ⟨[], World.ownsRow_nil _ _ _ _, rfl, fun u h => (by cases h), fun i h => (by simp at h)⟩
theorem RB.grow {B : Nat} {W W' : World} {v : Value} {X : List (List UInt8)} (h : RB B W v X) (b : Below W.heap.size W W') : RB B W' v X := by
  obtain ⟨vs, h1, h2, h3, h4⟩ := h
  exact ⟨vs, own_grow h1 b, h2, h3, fun i hi => (h4 i hi).grow b⟩
theorem RB.slice {B : Nat} {W : World} {v : Value} {X : List (List UInt8)} (h : RB B W v X) : ∃ a c, v = .slice a X.length c := by
  obtain ⟨vs, h1, _⟩ := h
  exact own_slice h1
theorem By.otherR {B B2 n : Nat} {W w' : World} {v r : Value} {x : List UInt8} {vs : List Value} (h : By B W v x) (hg : W.grownBy w' r.ownBlock) (hr : W.ownsRow B2 22 1 r n vs) : By B w' v x := by
  refine h.on (fun g c hc => hg.block g (heap_lt hc) (fun e => ?_))
  obtain ⟨c2, f2, h2⟩ := own_kind hr g e.symm
  exact absurd rfl (heap_ne hc h2 (by decide))
theorem RB.push {B : Nat} {W w' : World} {v v' u : Value} {X : List (List UInt8)} {x : List UInt8} {vs : List Value} (h1 : W.ownsRow B 22 1 v X.length vs) (h2 : vs.length = X.length) (h3 : ∀ u ∈ vs, u.oneCell' = true) (h4 : ∀ i (h : i < X.length), By B W (vs[i]'(by omega)) X[i]) (hx : By B W u x) (hu : u.oneCell' = true) (o : Obj) (hown : w'.ownsRow B 22 1 v' (X.length + 1) (vs ++ [u])) (hg : (W.alloc o).grownBy w' v.ownBlock) : RB B w' v' (X ++ [x]) := by
  have hB := (Below.refl W.heap.size W).alloc (Nat.le_refl _) o
  have ho := own_grow h1 hB
  refine ⟨vs ++ [u], by rw [List.length_append]; exact hown, by simp [h2], fun y hy => ?_, fun i hi => ?_⟩
  · rcases List.mem_append.1 hy with hy | hy
    · exact h3 y hy
    · simp at hy; subst hy; exact hu
  · by_cases hlt : i < X.length
    · rw [List.getElem_append_left (by omega), List.getElem_append_left hlt]
      exact ((h4 i hlt).grow hB).otherR hg ho
    · have e : i = X.length := by simp at hi; omega
      subst e
      have e1 : (vs ++ [u])[X.length]'(by simp; omega) = u := by
        rw [List.getElem_append_right (by omega)]; simp [h2]
      have e2 : (X ++ [x])[X.length]'(by simp) = x := by simp
      rw [e1, e2]
      exact (hx.grow hB).otherR hg ho
/-- The plain answer's lines in memory: those that are ended, and the open one behind them. -/
structure LSB (w W : World) (v4 v5 : Value) (acc : List (List UInt8)) (cur : List UInt8) : Prop where
  at0 : ∃ W0, RB w.heap.size W0 v4 acc ∧ Below w.heap.size w W0 ∧ Below W0.heap.size W0 W ∧ By W0.heap.size W v5 cur
theorem LSB.bel {w W : World} {v4 v5 : Value} {acc : List (List UInt8)} {cur : List UInt8} (h : LSB w W v4 v5 acc cur) : Below w.heap.size w W := by
  obtain ⟨W0, h1, h2, h3, h4⟩ := h.at0
  exact h2.trans (h3.mono h2.size)
theorem LSB.rr {w W : World} {v4 v5 : Value} {acc : List (List UInt8)} {cur : List UInt8} (h : LSB w W v4 v5 acc cur) : RB w.heap.size W v4 acc := by
  obtain ⟨W0, h1, h2, h3, h4⟩ := h.at0
  exact h1.grow h3
theorem LSB.line {w W : World} {v4 v5 : Value} {acc : List (List UInt8)} {cur : List UInt8} (h : LSB w W v4 v5 acc cur) : By w.heap.size W v5 cur := by
  obtain ⟨W0, h1, h2, h3, h4⟩ := h.at0
  exact h4.mono h2.size
/-- A fresh line behind rows. -/
theorem LSB.fresh {w W : World} {v4 : Value} {acc : List (List UInt8)} (h : RB w.heap.size W v4 acc) (b : Below w.heap.size w W) : LSB w (W.alloc (.cells #[] 5)) v4 (.slice (some ⟨W.heap.size, 0, none⟩) 0 0) acc [] :=
  ⟨W, h, b, (Below.refl _ _).alloc (Nat.le_refl _) _, By.fresh W _ (Nat.le_refl _)⟩
/-- The line grows by a byte. -/
theorem LSB.byte {w W W0 w' : World} {v4 v5 v' : Value} {acc : List (List UInt8)} {cur : List UInt8} {x : UInt8} (h1 : RB w.heap.size W0 v4 acc) (h2 : Below w.heap.size w W0) (h3 : Below W0.heap.size W0 W) (h4 : By W0.heap.size W v5 cur) (o : Obj) (hown : w'.ownsRow W0.heap.size 5 1 v' (cur.length + 1) (bCs cur ++ [.int .u8 x.toNat])) (hg : (W.alloc o).grownBy w' v5.ownBlock) : LSB w w' v4 v' acc (cur ++ [x]) :=
  ⟨W0, h1, h2, (h3.alloc h3.size o).grown hg (Nat.le_trans h3.size (by simp)) (fun k hk => (h4.own.lt k hk).1), By.app1 hown⟩
set_option maxRecDepth 100000 in
set_option maxHeartbeats 4000000 in
theorem rLinesB (l : List UInt8) (a : Option Addr) (c : Nat) (hl : l.length ≤ 1048577) (w : World) (hS : Src w a l) : Calls Tryd.prog 23 #[.slice a l.length c] w fun e w' => ∃ v, e = .returned (.tuple #[v, .bool (Tl.eb l)]) ∧ RB w.heap.size w' v (Tl.ls l) ∧ Below w.heap.size w w' := by
  obtain ⟨iB, hiB, hb0, hb1, hb2⟩ := infoB
  obtain ⟨iR, hiR, hr0, hr1, hr2⟩ := infoRR
  have HS := hidA hS
  have HL0 := hidA (LSB.fresh (RB.nil w.heap.size w) (Below.refl _ w))
  clear hS
  go_enter Tryd.func23, Tryd.ntmps23
  go_wp2
  go_loopw [4, 5, 6, 12] (fun s4 s5 s6 s12 W => ∃ (k : Nat) (acc : List (List UInt8)) (cur : List UInt8), s12 = .int .i64 k ∧ s6 = .bool (decide (cur ≠ [])) ∧ k ≤ l.length ∧ acc.length ≤ k ∧ cur.length ≤ k ∧ Hid (LSB w W s4 s5 acc cur) ∧ Hid (Tl.At l acc cur k)) (fun _ _ _ s12 _ => l.length - (intOf s12).toNat)
  case atStart => exact ⟨0, [], [], rfl, rfl, Nat.zero_le _, Nat.le_refl _, Nat.le_refl _, HL0, hidA (Tl.At.zero l)⟩
  case round =>
    obtain ⟨k, acc, cur, rfl, rfl, hk, hac, hcu, HL, HA⟩ := hrel
    clear HL0
    obtain ⟨a4, c4, hv4⟩ := HL.out.rr.slice
    obtain ⟨a5, c5, hv5⟩ := HL.out.line.slice
    subst hv4 hv5
    have hB := hidA HL.out.bel
    have hwsz := hidA HL.out.bel.size
    by_cases hlt : k < l.length
    · obtain ⟨g, o, rfl, hg, hc0⟩ := HS.out k hlt
      have hc : wr.cell? ⟨g, o + k, none⟩ = some (.int .u8 l[k].toNat) := (hB.out.cell (p := ⟨g, o + k, none⟩) hg).trans hc0
      have hw1 : IntKind.i64.wrap ((k : Int) + 1) = ((k + 1 : Nat) : Int) := by rw [IntKind.wrap_i64]; omega
      have hgw : g < wr.heap.size := Nat.lt_of_lt_of_le hg hwsz.out
      by_cases h10 : l[k] = 10
      · have e1 := byte_yes _ 10 10 rfl h10
        have HA2 := hidA (HA.out.feed hlt h10)
        obtain ⟨vs, o1, o2, o3, o4⟩ := HL.out.rr
        have HO1 := hidA o1
        have HP := hidA (fun (v' : Value) (w' : World) (ob : Obj) hown hg => RB.push (v' := v') (w' := w') (u := .slice a5 cur.length c5) o1 o2 o3 o4 HL.out.line rfl ob hown hg)
        clear HA HS hc0 h10 o1 o2 o3 o4
        generalize l[k] = x at *
        have hal : (acc ++ [cur]).length ≤ k + 1 := by simp; omega
        go_wp2_with (at_builtin; refine wpList_append_own_at _ rfl _ _ 46 rfl w.heap.size 22 iR (.slice none 0 0) 1 24 Tryd.underlying46 hiR hr0 hr1 hr2 rfl (by decide) _ _ _ rfl (HO1.out.alloc _) ⟨wr.heap.size, 0, none⟩ 1 1 [.slice a5 cur.length c5] rfl rfl (cell_one_new _ _ _) (by intro u hu; simp at hu; subst hu; rfl) (by unfold maxLen; omega) (by omega) (by have := hwsz.out; simp; omega) ?_; intro v' w2 hown hg2 _ hat; have HR2 := hidA (HP.out v' w2 _ hown hg2); have HB2 : Hid (Below w.heap.size w w2) := (hB.out.alloc hwsz.out _).grown hg2 (by have := hwsz.out; simp; omega) (fun k hk => (HO1.out.lt k hk).1); clear hown hg2 hat)
        exact ⟨⟨k + 1, acc ++ [cur], [], by first | rfl | go_num, rfl, hlt, hal, by simp, hidA (LSB.fresh HR2.out HB2.out), HA2⟩, by simp [intOf]; omega⟩
      · have e1 := byte_no _ 10 10 rfl h10
        have HA2 := hidA (HA.out.more hlt h10)
        clear HA HS hc0 h10
        generalize l[k] = x at *
        obtain ⟨W0, q1, q2, q3, q4⟩ := HL.out.at0
        have HO5 := hidA q4.own
        have Hq3 := hidA q3.size
        have HP := hidA (fun (v' : Value) (w' : World) (ob : Obj) hown hg => LSB.byte (x := x) (w' := w') (v' := v') q1 q2 q3 q4 ob hown hg)
        have hdec : decide (cur ++ [x] ≠ []) = true := by simp
        have hcl : (cur ++ [x]).length ≤ k + 1 := by simp; omega
        clear HL q1 q2 q3 q4
        go_wp2_with (at_builtin; refine wpList_append_own_at _ rfl _ _ 22 rfl W0.heap.size 5 iB (.int .u8 0) 1 1 Tryd.underlying22 hiB hb0 hb1 hb2 rfl (by decide) _ _ _ rfl (HO5.out.alloc _) ⟨wr.heap.size, 0, none⟩ 1 1 [.int .u8 x.toNat] rfl rfl (cell_one_new _ _ _) (one_u8 _) (by unfold maxLen; omega) (by omega) (by have := Hq3.out; simp; omega) ?_; intro v' w2 hown hg2 _ hat; have HL2 := hidA (HP.out v' w2 _ hown hg2); clear hown hg2 hat)
        exact ⟨⟨k + 1, acc, cur ++ [x], by first | rfl | go_num, by rw [hdec], hlt, by omega, hcl, HL2, HA2⟩, by simp [intOf]; omega⟩
    · by_cases h0 : cur = []
      · subst h0
        have HD := hidA (HA.out.done hlt)
        have HR := hidA HL.out.rr
        clear HA HS HL
        go_wp2_with fail
        go_ret2
        exact ⟨_, by rw [HD.out.2]; rfl, by rw [HD.out.1]; exact HR.out, hB.out⟩
      · have HD := hidA (HA.out.left hlt h0)
        have hdec : decide (cur ≠ []) = true := decide_eq_true h0
        obtain ⟨vs, o1, o2, o3, o4⟩ := HL.out.rr
        have HO1 := hidA o1
        have HP := hidA (fun (v' : Value) (w' : World) (ob : Obj) hown hg => RB.push (v' := v') (w' := w') (u := .slice a5 cur.length c5) o1 o2 o3 o4 HL.out.line rfl ob hown hg)
        rw [hdec]
        clear HA HS HL h0 o1 o2 o3 o4 hdec
        go_wp2_with (at_builtin; refine wpList_append_own_at _ rfl _ _ 46 rfl w.heap.size 22 iR (.slice none 0 0) 1 24 Tryd.underlying46 hiR hr0 hr1 hr2 rfl (by decide) _ _ _ rfl (HO1.out.alloc _) ⟨wr.heap.size, 0, none⟩ 1 1 [.slice a5 cur.length c5] rfl rfl (cell_one_new _ _ _) (by intro u hu; simp at hu; subst hu; rfl) (by unfold maxLen; omega) (by omega) (by have := hwsz.out; simp; omega) ?_; intro v' w2 hown hg2 _ hat; have HR2 := hidA (HP.out v' w2 _ hown hg2); have HB2 : Hid (Below w.heap.size w w2) := (hB.out.alloc hwsz.out _).grown hg2 (by have := hwsz.out; simp; omega) (fun k hk => (HO1.out.lt k hk).1); clear hown hg2 hat)
        go_ret2
        exact ⟨_, by rw [HD.out.2]; rfl, by rw [HD.out.1]; exact HR2.out, HB2.out⟩
end Go.Proofs.YtplnojohlbbalaaDoor
