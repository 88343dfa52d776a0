/- TextLines' own function: it answers true. Condition: lengths that fit. -/
import Derived.Test.YtplnojohlbbalaaUd5
import Derived.Test.YtplnojohlbbalaaUc5
import Derived.BigQuiet
namespace Go.Proofs.Ytplnojohlbbalaa
open Go.RowKit
attribute [local go_sem] ext_eq app_eq get_eq
set_option maxRecDepth 100000 in
theorem rSame1S {W : World} {a1 a2 : Option Addr} {c1 c2 : Nat} {l : List UInt8} (h1 : Src W a1 l) (h2 : Src W a2 l) : Calls Try.prog 23 #[.slice a1 l.length c1, .slice a2 l.length c2] W fun e w' => e = .returned (.bool true) ∧ w' = W := by
  have t1 := h1.text c1
  have t2 := h2.text c2
  clear h1 h2
  go_enter Try.func23, Try.ntmps23
  go_wp2_with fail
  go_ret
  exact ⟨by simp, rfl⟩
set_option maxRecDepth 100000 in
theorem rSameS {W : World} {a1 a2 : Option Addr} {c1 c2 : Nat} {l : List UInt8} (h1 : Src W a1 l) (h2 : Src W a2 l) : Calls Try.prog 10 #[.slice a1 l.length c1, .slice a2 l.length c2] W fun e w' => e = .returned (.bool true) ∧ w' = W := by
  have HS := hidA (rSame1S (c1 := c1) (c2 := c2) h1 h2)
  clear h1 h2
  go_enter Try.func10, Try.ntmps10
  go_wp2_with (go_at_call 23; with_reducible refine HS.out.mono ?_; rintro e w1 ⟨rfl, hw1⟩; rw [hw1]; clear hw1 w1)
  go_ret
  exact ⟨rfl, rfl⟩
theorem Rd.heap {W W' : World} {a : Option Addr} {X : List (List UInt8)} (h : Rd W a X) (e : W'.heap = W.heap) : Rd W' a X := fun i hi => by
  obtain ⟨g, o, a', c', e1, hg, hc, hs⟩ := h i hi
  exact ⟨g, o, a', c', e1, by rw [e]; exact hg, by rw [← hc]; exact World.cell?_of_block (w := W) (by rw [e]), hs.src.heap e, hs.le, hs.nil⟩
set_option maxRecDepth 100000 in
set_option maxHeartbeats 2000000 in
theorem lines_eq (X : List (List UInt8)) (a1 a2 : Option Addr) (c1 c2 : Nat) (hX : X.length ≤ 1048577) (w : World) (h1 : Rd w a1 X) (h2 : Rd w a2 X) : Calls Try.prog 9 #[.slice a1 X.length c1, .slice a2 X.length c2] w fun e w' => e = .returned (.bool true) ∧ Below w.heap.size w w' := by
  have H1 := hidA h1
  have H2 := hidA h2
  clear h1 h2
  go_enter Try.func9, Try.ntmps9
  go_wp2_with fail
  go_loopw [13] (fun s13 W => ∃ (k : Nat), s13 = .int .i64 k ∧ k ≤ X.length ∧ Hid (W.heap = w.heap) ∧ Hid (Below w.heap.size w W)) (fun s13 _ => X.length - (intOf s13).toNat)
  case atStart => exact ⟨0, rfl, Nat.zero_le _, hidA rfl, hidA (Below.refl _ _)⟩
  case round =>
    obtain ⟨k, rfl, hk, HH, HB⟩ := hrel
    by_cases hlt : k < X.length
    · obtain ⟨g1, o1, b1, d1, rfl, hg1, hc1, hs1⟩ := (H1.out.heap HH.out) k hlt
      obtain ⟨g2, o2, b2, d2, rfl, hg2, hc2, hs2⟩ := (H2.out.heap HH.out) k hlt
      have hw1 : IntKind.i64.wrap ((k : Int) + 1) = ((k + 1 : Nat) : Int) := by rw [IntKind.wrap_i64]; omega
      have HS : Hid (∀ W : World, W.heap = wr.heap → Calls Try.prog 10 #[.slice b1 X[k].length d1, .slice b2 X[k].length d2] W fun e w' => e = .returned (.bool true) ∧ w' = W) := fun W e => rSameS (hs1.src.heap e) (hs2.src.heap e)
      clear hs1 hs2 H1 H2
      generalize X[k] = x at *
      go_wp2_with (go_quiet ((go_at_call 10; exact Calls.quiet_of_same (HS.out _ rfl))))
      exact ⟨⟨k + 1, by first | rfl | go_num, hlt, hidA HH.out, hidA (HB.out.trans ((bl_drew wr _).mono HB.out.size))⟩, by simp [intOf]; omega⟩
    · go_wp2_with fail
      go_ret
      exact ⟨rfl, HB.out⟩
/-- A line's bytes can be written, and lie elsewhere than g. -/
def Zl (W : World) (B g : Nat) (a : Option Addr) (n : Nat) : Prop := ∀ j, j < n → ∃ g' o, a = some ⟨g', o, none⟩ ∧ B ≤ g' ∧ g' ≠ g ∧ (W.cell? ⟨g', o + j, none⟩).isSome = true ∧ W.frozen? ⟨g', o + j, none⟩ = false
theorem Zl.set {W : World} {B g : Nat} {a : Option Addr} {n : Nat} (h : Zl W B g a n) (p : Addr) (u : Value) : Zl (W.setCell p u) B g a n := fun j hj => by
  obtain ⟨g', o, e, hB, hne, hs, hf⟩ := h j hj
  refine ⟨g', o, e, hB, hne, ?_, by rw [World.frozen?_setCell]; exact hf⟩
  by_cases hp : p = ⟨g', o + j, none⟩
  · rw [hp]
    obtain ⟨v, hv⟩ := Option.isSome_iff_exists.1 hs
    rw [World.cell?_setCell_same _ _ _ hv]; rfl
  · rw [World.cell?_setCell_other _ _ _ _ hp]; exact hs
/-- The lines' own bytes can be written, and the row that leads to them lies elsewhere. -/
def Zs (W : World) (B g : Nat) (X : List (List UInt8)) : Prop := ∀ i (h : i < X.length), ∃ a c, W.cell? ⟨g, i, none⟩ = some (.slice a X[i].length c) ∧ Zl W B g a X[i].length
theorem Zs.set {W : World} {B g : Nat} {X : List (List UInt8)} (h : Zs W B g X) {g2 q : Nat} (hne2 : g2 ≠ g) (u : Value) : Zs (W.setCell ⟨g2, q, none⟩ u) B g X := fun i hi => by
  obtain ⟨a, c, h1, h2⟩ := h i hi
  exact ⟨a, c, by rw [World.cell?_setCell_other _ _ _ _ (by intro e9; injection e9 with e9 _ _; exact hne2 e9)]; exact h1, h2.set _ _⟩
theorem RO.zs {B B' : Nat} {W : World} {g n cap : Nat} {X : List (List UInt8)} (h : RO B W (.slice (some ⟨g, 0, none⟩) n cap) X X.length) (hB : B' ≤ B) : Zs W B' g X := fun i hi => by
  obtain ⟨vs, o1, o2, o3, o4, o5⟩ := h
  have hkd := own_kind o1 g rfl
  have hc := o1.cells (g := g) rfl i (vs[i]'(by omega)) (by simp [o2, hi])
  rw [add0] at hc
  have hb := o5 i hi hi
  obtain ⟨a, c, ev⟩ := hb.slice
  rw [ev] at hc hb
  refine ⟨a, c, hc, fun j hj => ?_⟩
  obtain ⟨g', o, e1, e2, e3, e4⟩ := hb.wr j hj
  refine ⟨g', o, e1, Nat.le_trans hB e2, ?_, e3, e4⟩
  subst e1
  obtain ⟨c1, f1, h1⟩ := hb.kind g' (by
    rcases hb.2 with ⟨e, _⟩ | ⟨g3, cap3, cur3, e, _⟩
    · cases e
    · injection e with e _ _
      injection e with e
      injection e with e _ _
      subst e; rfl)
  obtain ⟨c2, f2, h2⟩ := hkd
  exact heap_ne h1 h2 (by decide)
theorem RO.some {B : Nat} {W : World} {a : Option Addr} {n c k : Nat} {X : List (List UInt8)} (h : RO B W (.slice a n c) X k) (hX : 0 < X.length) : ∃ g, a = some ⟨g, 0, none⟩ := by
  obtain ⟨vs, o1, _⟩ := h
  rcases o1.2 with ⟨e, h0⟩ | ⟨g, cap, cur, e, _⟩
  · omega
  · injection e with e _ _
    exact ⟨g, e⟩
end Go.Proofs.Ytplnojohlbbalaa
