/- Rows of rows of bytes; appends to rows of bytes. No condition. -/
import Derived.Test.YtplnojohlbbalaaM1
import Derived.Test.YtplnojohlbbalaaM2
namespace Go.Proofs.Ytplnojohlbbalaa
open Go.RowKit
attribute [local go_sem] ext_eq app_eq get_eq
theorem own_grow {W W' : World} {B k n : Nat} {T : TypeId} {v : Value} {xs : List Value} (h : W.ownsRow B T k v n xs) (hB : Below W.heap.size W W') : W'.ownsRow B T k v n xs :=
  h.kept (row := none) ⟨hB.os, hB.tape, hB.output, hB.size, fun k hk _ => hB.block k hk⟩ (by cases v.ownBlock <;> simp)
theorem By.own {B : Nat} {W : World} {v : Value} {bs : List UInt8} (h : By B W v bs) : W.ownsRow B 5 1 v bs.length (bCs bs) := h
theorem By.fresh (W : World) (B : Nat) (hB : B ≤ W.heap.size) : By B (W.alloc (.cells #[] 5)) (.slice (some ⟨W.heap.size, 0, none⟩) 0 0) [] := by
  refine ⟨?_, .inr ⟨W.heap.size, 0, #[], rfl, hB, heap_new _ _, Nat.le_refl _, by unfold maxLen; omega, by simp, by simp [bCs]⟩⟩
  simp [bCs]
theorem By.of_app {B : Nat} {W : World} {v : Value} {bs cs : List UInt8} (h : W.ownsRow B 5 1 v (bs.length + cs.length) (bCs bs ++ bCs cs)) : By B W v (bs ++ cs) := by
  unfold By
  rw [bCs_append, List.length_append]; exact h
theorem bCs_one (l : List UInt8) : ∀ u ∈ bCs l, u.oneCell' = true := by
  intro u hu
  unfold bCs at hu
  obtain ⟨c, _, rfl⟩ := List.mem_map.1 hu
  rfl
theorem Src.cells_at {W : World} {ad : Addr} {l : List UInt8} (h : Src W (some ad) l) (j : Nat) (u : Value) (hj : (bCs l)[j]? = some u) : W.cell? (ad.add j) = some u := by
  have hlt : j < l.length := by
    have := (List.getElem?_eq_some_iff.1 hj).1
    rwa [bCs_len] at this
  obtain ⟨g, o, e, _, hc⟩ := h j hlt
  cases e
  unfold bCs at hj
  rw [List.getElem?_map, List.getElem?_eq_getElem hlt] at hj
  simp at hj
  subst hj
  rw [show (⟨g, o, none⟩ : Addr).add j = ⟨g, o + j, none⟩ by simp [Addr.add]]; exact hc
theorem By.sr {B : Nat} {W : World} {a : Option Addr} {c n : Nat} {bs : List UInt8} (h : By B W (.slice a n c) bs) : Sr W a c bs := by
  rcases h.2 with ⟨e, h0⟩ | ⟨g, cap, cur, e, hb, hg, hnc, hcm, hsz, ht⟩
  · injection e with e1 e2 e3
    have : bs = [] := List.length_eq_zero_iff.1 (by omega)
    subst e1 e3 this
    exact ⟨Src.nil _ _, by simp, fun _ => rfl⟩
  · obtain ⟨a', c', e', hs⟩ := h.src
    injection e' with f1 f2 f3
    injection e with e1 e2 e3
    subst f1
    subst e3
    exact ⟨hs, hnc, fun e => by rw [e1] at e; cases e⟩
theorem Sr.empty (W : World) : Sr W none 0 [] := ⟨Src.nil _ _, Nat.le_refl _, fun _ => rfl⟩
theorem cell_one_new (w : World) (x : Value) (t : TypeId) : ∀ j u, [x][j]? = some u → (w.alloc (.cells #[x] t)).cell? ((⟨w.heap.size, 0, none⟩ : Addr).add j) = some u := by
  intro j u hj
  match j, hj with
  | 0, hj => simp at hj; subst hj; simp [Addr.add]
theorem By.app1 {B : Nat} {W : World} {v : Value} {bs : List UInt8} {x : UInt8} (h : W.ownsRow B 5 1 v (bs.length + 1) (bCs bs ++ [.int .u8 x.toNat])) : By B W v (bs ++ [x]) := by
  have e : [Value.int .u8 (x.toNat : Int)] = bCs [x] := rfl
  rw [e] at h
  exact By.of_app (cs := [x]) h
theorem infoRR : ∃ i, Try.prog.info? 22 = some i ∧ i.zero = some (.slice none 0 0) ∧ i.size = 1 ∧ i.bytes = 24 := info_of (by kernel_rfl)
/-- A slice of bytes that an append to a row of slices, which lies from B on, leaves as it is. -/
structure Sq (B : Nat) (W : World) (v : Value) (x : List UInt8) : Prop where
  sr : ∃ a c, v = .slice a x.length c ∧ Sr W a c x ∧ ∀ g o, a = some ⟨g, o, none⟩ → 0 < x.length → g < B ∨ ∃ cur fz, W.heap[g]? = some (.cells cur 5 fz)
theorem Sq.grow {B : Nat} {W W' : World} {v : Value} {x : List UInt8} (h : Sq B W v x) (b : Below W.heap.size W W') : Sq B W' v x := by
  obtain ⟨a, c, e, hs, hk⟩ := h.sr
  refine ⟨a, c, e, hs.grow b, fun g o ea hx => ?_⟩
  rcases hk g o ea hx with h | ⟨cur, fz, h⟩
  · exact .inl h
  · exact .inr ⟨cur, fz, (b.block g (heap_lt h)).trans h⟩
theorem Sq.of_by {B B' : Nat} {W : World} {v : Value} {x : List UInt8} (h : By B' W v x) : Sq B W v x := by
  obtain ⟨a, c, rfl⟩ := h.slice
  refine ⟨a, c, rfl, h.sr, fun g o ea _ => .inr ?_⟩
  subst ea
  exact h.kind g rfl
theorem Sq.of_sr {B : Nat} {W : World} {a : Option Addr} {c : Nat} {x : List UInt8} (h : Sr W a c x) (hB : W.heap.size ≤ B) : Sq B W (.slice a x.length c) x := by
  refine ⟨a, c, rfl, h, fun g o ea hx => .inl ?_⟩
  obtain ⟨g', o', e, hg, _⟩ := h.src 0 hx
  rw [ea] at e
  cases e; omega
/-- An append to a row of slices leaves such a slice as it is. -/
theorem Sq.kept {B : Nat} {W w' : World} {v r : Value} {x : List UInt8} (h : Sq B W v x) (hg : W.grownBy w' r.ownBlock) (hr : ∀ k, r.ownBlock = some k → B ≤ k ∧ ∃ c fz, W.heap[k]? = some (.cells c 22 fz)) : Sq B w' v x := by
  obtain ⟨a, c, e, hs, hk⟩ := h.sr
  have key : ∀ g o, a = some ⟨g, o, none⟩ → 0 < x.length → some g ≠ r.ownBlock := fun g o ea hx hgr => by
    obtain ⟨h1, c2, f2, h2⟩ := hr g hgr.symm
    rcases hk g o ea hx with h | ⟨cur, fz, h⟩
    · omega
    · rw [h] at h2
      injection h2 with h2
      injection h2 with _ h3 _
      exact absurd h3 (by decide)
  refine ⟨a, c, e, ⟨fun j hj => ?_, hs.le, hs.nil⟩, fun g o ea hx => ?_⟩
  · obtain ⟨g, o, ea, hl, hc⟩ := hs.src j hj
    exact ⟨g, o, ea, Nat.lt_of_lt_of_le hl hg.size, hg.cell hc (key g o ea (by omega))⟩
  · rcases hk g o ea hx with h | ⟨cur, fz, h⟩
    · exact .inl h
    · exact .inr ⟨cur, fz, (hg.block g (heap_lt h) (key g o ea hx)).trans h⟩
/-- A row of one's own of slices of bytes. -/
def RR (B : Nat) (W : World) (v : Value) (X : List (List UInt8)) : Prop := ∃ vs : List Value, W.ownsRow B 22 1 v X.length vs ∧ ∃ hl : vs.length = X.length, (∀ u ∈ vs, u.oneCell' = true) ∧ ∀ i (h : i < X.length), Sq B W (vs[i]'(by omega)) X[i]
theorem RR.nil (B : Nat) (W : World) : RR B W (.slice none 0 0) [] := ⟨[], World.ownsRow_nil _ _ _ _, rfl, fun u h => (by cases h), fun i h => (by simp at h)⟩
theorem RR.grow {B : Nat} {W W' : World} {v : Value} {X : List (List UInt8)} (h : RR B W v X) (b : Below W.heap.size W W') : RR B W' v X := by
  obtain ⟨vs, h1, h2, h3, h4⟩ := h
  exact ⟨vs, own_grow h1 b, h2, h3, fun i hi => (h4 i hi).grow b⟩
theorem RR.slice {B : Nat} {W : World} {v : Value} {X : List (List UInt8)} (h : RR B W v X) : ∃ a c, v = .slice a X.length c := by
  obtain ⟨vs, h1, _⟩ := h
  exact own_slice h1
/-- One more slice at the end of such a row. -/
theorem RR.push {B : Nat} {W w' : World} {v v' u : Value} {X : List (List UInt8)} {x : List UInt8} {vs : List Value} (h1 : W.ownsRow B 22 1 v X.length vs) (h2 : vs.length = X.length) (h3 : ∀ u ∈ vs, u.oneCell' = true) (h4 : ∀ i (h : i < X.length), Sq B W (vs[i]'(by omega)) X[i]) (hx : Sq B W u x) (hu : u.oneCell' = true) (o : Obj) (hown : w'.ownsRow B 22 1 v' (X.length + 1) (vs ++ [u])) (hg : (W.alloc o).grownBy w' v.ownBlock) : RR B w' v' (X ++ [x]) := by
  have hB := (Below.refl W.heap.size W).alloc (Nat.le_refl _) o
  have hr : ∀ k, v.ownBlock = some k → B ≤ k ∧ ∃ c fz, (W.alloc o).heap[k]? = some (.cells c 22 fz) := fun k hk => by
    refine ⟨(h1.lt k hk).1, ?_⟩
    obtain ⟨c, fz, hc⟩ := own_kind h1 k hk
    exact ⟨c, fz, (hB.block k (heap_lt hc)).trans hc⟩
  refine ⟨vs ++ [u], by rw [List.length_append]; exact hown, by simp [h2], fun y hy => ?_, fun i hi => ?_⟩
  · rcases List.mem_append.1 hy with hy | hy
    · exact h3 y hy
    · simp at hy; subst hy; exact hu
  · by_cases hlt : i < X.length
    · rw [List.getElem_append_left (by omega), List.getElem_append_left hlt]
      exact ((h4 i hlt).grow hB).kept hg hr
    · have e : i = X.length := by simp at hi; omega
      subst e
      have e1 : (vs ++ [u])[X.length]'(by simp; omega) = u := by
        rw [List.getElem_append_right (by omega)]; simp [h2]
      have e2 : (X ++ [x])[X.length]'(by simp) = x := by simp
      rw [e1, e2]
      exact (hx.grow hB).kept hg hr
end Go.Proofs.Ytplnojohlbbalaa
