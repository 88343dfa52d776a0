/- Several texts of this claim, one behind the other, in their order. -/
import Derived.Test.YtplnojohlbbalaaUxX
import Derived.Test.YtplnojohlbbalaaEvZ
import Derived.Test.YtplnojohlbbalaaM8
import Derived.BigQuiet
/- The statement's example runs to true, by the evaluator. No condition. -/
namespace Go.Proofs.Ytplnojohlbbalaa
open Go.RowKit
open Ev
theorem livesRun : callA Try.prog x0 0 hint 20000 14 [] h0 saysTrue = .ok := by kernel_rfl
theorem awakes (W : World) : Calls Try.prog 14 #[] W fun e w' => e = .returned (.bool true) ∧ Below W.heap.size W w' := true_of_run x0_ok Try.checked.mixed livesRun W
end Go.Proofs.Ytplnojohlbbalaa
/- TextLines' own function: it answers true. Condition: lengths that fit. -/
namespace Go.Proofs.Ytplnojohlbbalaa
open Go.RowKit
attribute [local go_sem] ext_eq app_eq get_eq
set_option maxRecDepth 100000 in
theorem rSame1S {W : World} {a1 a2 : Option Addr} {c1 c2 : Nat} {l : List UInt8} (h1 : Src W a1 l) (h2 : Src W a2 l) : Calls Try.prog 23 #[.slice a1 l.length c1, .slice a2 l.length c2] W fun e w' => e = .returned (.bool true) ∧ w' = W := by
  have t1 := h1.text c1
  have t2 := h2.text c2
  clear h1 h2
  go_enter Try.func23, Try.ntmps23
  go_wp2_with fail
  go_ret
  exact ⟨by simp, rfl⟩
set_option maxRecDepth 100000 in
theorem rSameS {W : World} {a1 a2 : Option Addr} {c1 c2 : Nat} {l : List UInt8} (h1 : Src W a1 l) (h2 : Src W a2 l) : Calls Try.prog 10 #[.slice a1 l.length c1, .slice a2 l.length c2] W fun e w' => e = .returned (.bool true) ∧ w' = W := by
  have HS := hidA (rSame1S (c1 := c1) (c2 := c2) h1 h2)
  clear h1 h2
  go_enter Try.func10, Try.ntmps10
  go_wp2_with (go_at_call 23; with_reducible refine HS.out.mono ?_; rintro e w1 ⟨rfl, hw1⟩; rw [hw1]; clear hw1 w1)
  go_ret
  exact ⟨rfl, rfl⟩
theorem Rd.heap {W W' : World} {a : Option Addr} {X : List (List UInt8)} (h : Rd W a X) (e : W'.heap = W.heap) : Rd W' a X := fun i hi => by
  obtain ⟨g, o, a', c', e1, hg, hc, hs⟩ := h i hi
  exact ⟨g, o, a', c', e1, by rw [e]; exact hg, by rw [← hc]; exact World.cell?_of_block (w := W) (by rw [e]), hs.src.heap e, hs.le, hs.nil⟩
set_option maxRecDepth 100000 in
set_option maxHeartbeats 2000000 in
theorem lines_eq (X : List (List UInt8)) (a1 a2 : Option Addr) (c1 c2 : Nat) (hX : X.length ≤ 1048577) (w : World) (h1 : Rd w a1 X) (h2 : Rd w a2 X) : Calls Try.prog 9 #[.slice a1 X.length c1, .slice a2 X.length c2] w fun e w' => e = .returned (.bool true) ∧ Below w.heap.size w w' := by
  have H1 := hidA h1
  have H2 := hidA h2
  clear h1 h2
  go_enter Try.func9, Try.ntmps9
  go_wp2_with fail
  go_loopw [13] (fun s13 W => ∃ (k : Nat), s13 = .int .i64 k ∧ k ≤ X.length ∧ Hid (W.heap = w.heap) ∧ Hid (Below w.heap.size w W)) (fun s13 _ => X.length - (intOf s13).toNat)
  case atStart => exact ⟨0, rfl, Nat.zero_le _, hidA rfl, hidA (Below.refl _ _)⟩
  case round =>
    obtain ⟨k, rfl, hk, HH, HB⟩ := hrel
    by_cases hlt : k < X.length
    · obtain ⟨g1, o1, b1, d1, rfl, hg1, hc1, hs1⟩ := (H1.out.heap HH.out) k hlt
      obtain ⟨g2, o2, b2, d2, rfl, hg2, hc2, hs2⟩ := (H2.out.heap HH.out) k hlt
      have hw1 : IntKind.i64.wrap ((k : Int) + 1) = ((k + 1 : Nat) : Int) := by rw [IntKind.wrap_i64]; omega
      have HS : Hid (∀ W : World, W.heap = wr.heap → Calls Try.prog 10 #[.slice b1 X[k].length d1, .slice b2 X[k].length d2] W fun e w' => e = .returned (.bool true) ∧ w' = W) := fun W e => rSameS (hs1.src.heap e) (hs2.src.heap e)
      clear hs1 hs2 H1 H2
      generalize X[k] = x at *
      go_wp2_with (go_quiet ((go_at_call 10; exact Calls.quiet_of_same (HS.out _ rfl))))
      exact ⟨⟨k + 1, by first | rfl | go_num, hlt, hidA HH.out, hidA (HB.out.trans ((bl_drew wr _).mono HB.out.size))⟩, by simp [intOf]; omega⟩
    · go_wp2_with fail
      go_ret
      exact ⟨rfl, HB.out⟩
/-- A line's bytes can be written, and lie elsewhere than g. -/
def Zl (W : World) (B g : Nat) (a : Option Addr) (n : Nat) : Prop := ∀ j, j < n → ∃ g' o, a = some ⟨g', o, none⟩ ∧ B ≤ g' ∧ g' ≠ g ∧ (W.cell? ⟨g', o + j, none⟩).isSome = true ∧ W.frozen? ⟨g', o + j, none⟩ = false
theorem Zl.set {W : World} {B g : Nat} {a : Option Addr} {n : Nat} (h : Zl W B g a n) (p : Addr) (u : Value) : Zl (W.setCell p u) B g a n := fun j hj => by
  obtain ⟨g', o, e, hB, hne, hs, hf⟩ := h j hj
  refine ⟨g', o, e, hB, hne, ?_, by rw [World.frozen?_setCell]; exact hf⟩
  by_cases hp : p = ⟨g', o + j, none⟩
  · rw [hp]
    obtain ⟨v, hv⟩ := Option.isSome_iff_exists.1 hs
    rw [World.cell?_setCell_same _ _ _ hv]; rfl
  · rw [World.cell?_setCell_other _ _ _ _ hp]; exact hs
/-- The lines' own bytes can be written, and the row that leads to them lies elsewhere. -/
def Zs (W : World) (B g : Nat) (X : List (List UInt8)) : Prop := ∀ i (h : i < X.length), ∃ a c, W.cell? ⟨g, i, none⟩ = some (.slice a X[i].length c) ∧ Zl W B g a X[i].length
theorem Zs.set {W : World} {B g : Nat} {X : List (List UInt8)} (h : Zs W B g X) {g2 q : Nat} (hne2 : g2 ≠ g) (u : Value) : Zs (W.setCell ⟨g2, q, none⟩ u) B g X := fun i hi => by
  obtain ⟨a, c, h1, h2⟩ := h i hi
  exact ⟨a, c, by rw [World.cell?_setCell_other _ _ _ _ (by intro e9; injection e9 with e9 _ _; exact hne2 e9)]; exact h1, h2.set _ _⟩
theorem RO.zs {B B' : Nat} {W : World} {g n cap : Nat} {X : List (List UInt8)} (h : RO B W (.slice (some ⟨g, 0, none⟩) n cap) X X.length) (hB : B' ≤ B) : Zs W B' g X := fun i hi => by
  obtain ⟨vs, o1, o2, o3, o4, o5⟩ := h
  have hkd := own_kind o1 g rfl
  have hc := o1.cells (g := g) rfl i (vs[i]'(by omega)) (by simp [o2, hi])
  rw [add0] at hc
  have hb := o5 i hi hi
  obtain ⟨a, c, ev⟩ := hb.slice
  rw [ev] at hc hb
  refine ⟨a, c, hc, fun j hj => ?_⟩
  obtain ⟨g', o, e1, e2, e3, e4⟩ := hb.wr j hj
  refine ⟨g', o, e1, Nat.le_trans hB e2, ?_, e3, e4⟩
  subst e1
  obtain ⟨c1, f1, h1⟩ := hb.kind g' (by
    rcases hb.2 with ⟨e, _⟩ | ⟨g3, cap3, cur3, e, _⟩
    · cases e
    · injection e with e _ _
      injection e with e
      injection e with e _ _
      subst e; rfl)
  obtain ⟨c2, f2, h2⟩ := hkd
  exact heap_ne h1 h2 (by decide)
theorem RO.some {B : Nat} {W : World} {a : Option Addr} {n c k : Nat} {X : List (List UInt8)} (h : RO B W (.slice a n c) X k) (hX : 0 < X.length) : ∃ g, a = some ⟨g, 0, none⟩ := by
  obtain ⟨vs, o1, _⟩ := h
  rcases o1.2 with ⟨e, h0⟩ | ⟨g, cap, cur, e, _⟩
  · omega
  · injection e with e _ _
    exact ⟨g, e⟩
end Go.Proofs.Ytplnojohlbbalaa
/- Paste and Serial: the plain theory; the program's texts told of the world that the bytes stand in. Condition: a length that fits. -/
namespace Go.Proofs.Ytplnojohlbbalaa
open Go.RowKit
attribute [local go_sem] ext_eq app_eq get_eq
namespace Tl
/-- Texts with the bytes of d between them, in their turn. -/
def jn (d : List UInt8) : Nat → List (List UInt8) → List UInt8
  | _, [] => []
  | i, t :: r => (if 0 < i ∧ d ≠ [] then [d.getD ((i - 1) % d.length) 0] else []) ++ (t ++ jn d (i + 1) r)
def lnj (d : List UInt8) (X : List (List UInt8)) : List UInt8 := jn d 0 X ++ [10]
/-- What is told behind k texts. -/
def Jn (d : List UInt8) (X : List (List UInt8)) (p : List UInt8) (k : Nat) : Prop := jn d 0 X = p ++ jn d k (X.drop k)
theorem Jn.zero (d : List UInt8) (X : List (List UInt8)) : Jn d X [] 0 := by simp [Jn]
theorem Jn.sep {d : List UInt8} {X : List (List UInt8)} {p : List UInt8} {k : Nat} (h : Jn d X p k) (hk : k < X.length) (h0 : 0 < k) (hd : d ≠ []) : Jn d X (p ++ [d.getD ((k - 1) % d.length) 0] ++ X[k]) (k + 1) := by
  unfold Jn at h ⊢
  rw [h, List.drop_eq_getElem_cons hk]
  simp only [jn]
  rw [if_pos ⟨h0, hd⟩]
  simp [List.append_assoc]
theorem Jn.bare {d : List UInt8} {X : List (List UInt8)} {p : List UInt8} {k : Nat} (h : Jn d X p k) (hk : k < X.length) (h0 : ¬ (0 < k ∧ d ≠ [])) : Jn d X (p ++ X[k]) (k + 1) := by
  unfold Jn at h ⊢
  rw [h, List.drop_eq_getElem_cons hk]
  simp only [jn]
  rw [if_neg h0]
  simp [List.append_assoc]
theorem Jn.done {d : List UInt8} {X : List (List UInt8)} {p : List UInt8} {k : Nat} (h : Jn d X p k) (hk : ¬ k < X.length) : jn d 0 X = p := by
  unfold Jn at h
  rw [List.drop_eq_nil_of_le (by omega)] at h
  simpa [jn] using h
theorem Jn.le {d : List UInt8} {X : List (List UInt8)} {p : List UInt8} {k : Nat} (h : Jn d X p k) : p.length ≤ (jn d 0 X).length := by
  unfold Jn at h
  rw [h, List.length_append]; omega
theorem jn_len (d : List UInt8) : ∀ (X : List (List UInt8)) (i : Nat), (jn d i X).length ≤ X.flatten.length + X.length
  | [], i => by simp [jn]
  | t :: r, i => by
    have ih := jn_len d r (i + 1)
    simp only [jn, List.length_append, List.flatten_cons, List.length_cons]
    split <;> simp only [List.length_cons, List.length_nil] <;> omega
theorem jn_nil : ∀ (X : List (List UInt8)) (i : Nat), jn [] i X = X.flatten
  | [], i => by simp [jn]
  | t :: r, i => by
    have ih := jn_nil r (i + 1)
    simp only [jn, List.flatten_cons, ih]
    rw [if_neg (by rintro ⟨_, h⟩; exact h rfl)]
    simp
end Tl
/-- A row of slices of bytes of one's own, whose bytes stand in the world w0. -/
def RT (w0 : World) (B : Nat) (W : World) (v : Value) (X : List (List UInt8)) : Prop := ∃ vs : List Value, W.ownsRow B 22 1 v X.length vs ∧ ∃ hl : vs.length = X.length, ∀ i (h : i < X.length), ∃ a c, vs[i]'(by omega) = .slice a X[i].length c ∧ Sr w0 a c X[i]
theorem RT.nil (w0 : World) (B : Nat) (W : World) : RT w0 B W (.slice none 0 0) [] := ⟨[], World.ownsRow_nil _ _ _ _, rfl, fun i h => (by simp at h)⟩
theorem RT.grow {w0 : World} {B : Nat} {W W' : World} {v : Value} {X : List (List UInt8)} (h : RT w0 B W v X) (b : Below W.heap.size W W') : RT w0 B W' v X := by
  obtain ⟨vs, h1, h2⟩ := h
  exact ⟨vs, own_grow h1 b, h2⟩
theorem RT.slice {w0 : World} {B : Nat} {W : World} {v : Value} {X : List (List UInt8)} (h : RT w0 B W v X) : ∃ a c, v = .slice a X.length c := by
  obtain ⟨vs, h1, _⟩ := h
  exact own_slice h1
theorem RT.push {w0 : World} {B : Nat} {w' : World} {v' : Value} {X : List (List UInt8)} {x : List UInt8} {vs : List Value} {a : Option Addr} {c : Nat} (h2 : vs.length = X.length) (h3 : ∀ i (h : i < X.length), ∃ a c, vs[i]'(by omega) = .slice a X[i].length c ∧ Sr w0 a c X[i]) (hx : Sr w0 a c x) (hown : w'.ownsRow B 22 1 v' (X.length + 1) (vs ++ [.slice a x.length c])) : RT w0 B w' v' (X ++ [x]) := by
  refine ⟨vs ++ [.slice a x.length c], by rw [List.length_append]; exact hown, by simp [h2], fun i hi => ?_⟩
  by_cases hlt : i < X.length
  · rw [List.getElem_append_left (by omega), List.getElem_append_left hlt]; exact h3 i hlt
  · have e : i = X.length := by simp at hi; omega
    subst e
    have e1 : (vs ++ [Value.slice a x.length c])[X.length]'(by simp; omega) = .slice a x.length c := by
      rw [List.getElem_append_right (by omega)]; simp [h2]
    have e2 : (X ++ [x])[X.length]'(by simp) = x := by simp
    rw [e1, e2]
    exact ⟨a, c, rfl, hx⟩
/-- Rows of bytes that are read: their cells lie in rows of slices, their bytes stand in the world w0. -/
def Rk (w0 W : World) (a : Option Addr) (X : List (List UInt8)) : Prop := ∀ i (h : i < X.length), ∃ g o a' c', a = some ⟨g, o, none⟩ ∧ W.cell? ⟨g, o + i, none⟩ = some (.slice a' X[i].length c') ∧ (∃ cc fz, W.heap[g]? = some (.cells cc 22 fz)) ∧ Sr w0 a' c' X[i]
theorem Rk.grow {w0 W W' : World} {a : Option Addr} {X : List (List UInt8)} (h : Rk w0 W a X) (b : Below W.heap.size W W') : Rk w0 W' a X := fun i hi => by
  obtain ⟨g, o, a', c', e, hc, ⟨cc, fz, hk⟩, hs⟩ := h i hi
  have hlt := heap_lt hk
  exact ⟨g, o, a', c', e, (b.cell (p := ⟨g, o + i, none⟩) hlt).trans hc, ⟨cc, fz, (b.block g hlt).trans hk⟩, hs⟩
theorem Rk.other {w0 W w' : World} {a : Option Addr} {X : List (List UInt8)} {B n : Nat} {r : Value} {vs : List Value} (h : Rk w0 W a X) (hg : W.grownBy w' r.ownBlock) (hr : W.ownsRow B 5 1 r n vs) : Rk w0 w' a X := fun i hi => by
  obtain ⟨g, o, a', c', e, hc, ⟨cc, fz, hk⟩, hs⟩ := h i hi
  have hne : some g ≠ r.ownBlock := fun e => by
    obtain ⟨c2, f2, h2⟩ := own_kind hr g e.symm
    exact absurd rfl (heap_ne hk h2 (by decide))
  exact ⟨g, o, a', c', e, hg.cell hc hne, ⟨cc, fz, (hg.block g (heap_lt hk) hne).trans hk⟩, hs⟩
theorem RT.rk {w0 : World} {B : Nat} {W : World} {a : Option Addr} {n c : Nat} {X : List (List UInt8)} (h : RT w0 B W (.slice a n c) X) : Rk w0 W a X := fun i hi => by
  obtain ⟨vs, h1, h2, h3⟩ := h
  obtain ⟨a', c', ev, hs⟩ := h3 i hi
  rcases h1.2 with ⟨e, h0⟩ | ⟨g, cap, cur, e, hb, hg, hnc, hcm, hsz, ht⟩
  · omega
  · injection e with e1 e2 e3
    subst e1 e3
    have := h1.cells (g := g) (by rfl) i (vs[i]'(by omega)) (by simp [h2, hi])
    refine ⟨g, 0, a', c', rfl, ?_, ⟨cur, _, hg⟩, hs⟩
    rw [show (⟨g, 0 + i, none⟩ : Addr) = (⟨g, 0, none⟩ : Addr).add i by simp [Addr.add], ← ev]; exact this
set_option maxRecDepth 100000 in
set_option maxHeartbeats 2000000 in
theorem oTexts1T (w0 : World) (B : Nat) (v : Value) (X : List (List UInt8)) (x : List UInt8) (hX : X.length ≤ 1048577) (a : Option Addr) (c : Nat) (e : Bool) (w : World) (hR : RT w0 B w v X) (hx : Sr w0 a c x) (hB : B ≤ w.heap.size) : Calls Try.prog 36 #[v, .agg #[.slice a x.length c, .bool e]] w fun y w' => ∃ v', y = .returned v' ∧ RT w0 B w' v' (X ++ [x]) ∧ Below B w w' := by
  obtain ⟨iR, hiR, hr0, hr1, hr2⟩ := infoRR
  have hb0 : Below w.heap.size w (w.alloc (.cells #[.slice a x.length c, .bool e] 60)) := (Below.refl w.heap.size w).alloc (Nat.le_refl _) _
  have HB0 := hidA (hb0.mono hB)
  have r0 : (w.alloc (.cells #[.slice a x.length c, .bool e] 60)).cell? ⟨w.heap.size, 0, none⟩ = some (.slice a x.length c) := World.cell?_alloc_at _ _ _ _ rfl
  obtain ⟨vs, o1, o2, o3⟩ := hR.grow hb0
  have HO1 := hidA o1
  have Hsz := hidA (Nat.le_trans hB hb0.size)
  have HP := hidA (fun (v' : Value) (w' : World) hown => RT.push (B := B) (v' := v') (w' := w') o2 o3 hx hown)
  clear o1 o2 o3 hb0 hR hx
  go_enter Try.func36, Try.ntmps36
  go_upto_region 1 with fail
  generalize w.alloc (.cells #[.slice a x.length c, .bool e] 60) = W0 at *
  go_wp2_with (at_builtin; refine wpList_append_own_at _ rfl _ _ 23 rfl B 22 iR (.slice none 0 0) 1 24 Try.underlying23 hiR hr0 hr1 hr2 rfl (by decide) _ _ _ rfl (HO1.out.alloc _) ⟨W0.heap.size, 0, none⟩ 1 1 [.slice a x.length c] rfl rfl (cell_one_new _ _ _) (by intro u hu; simp at hu; subst hu; rfl) (by unfold maxLen; omega) (by omega) (by have := Hsz.out; simp; omega) ?_; intro v' w2 hown hg2 _ hat; have HR2 := hidA (HP.out v' w2 hown); have HB2 : Hid (Below B w w2) := (HB0.out.alloc Hsz.out _).grown hg2 (by have := Hsz.out; simp; omega) (fun k hk => (HO1.out.lt k hk).1); clear hown hg2 hat)
  go_ret
  exact ⟨_, rfl, HR2.out, HB2.out⟩
set_option maxRecDepth 100000 in
set_option maxHeartbeats 4000000 in
theorem oEachT (l : List UInt8) (a : Option Addr) (c B : Nat) (v0 : Value) (hl : l.length ≤ 1048577) (w0 w : World) (hS : Sr w0 a c l) (h0 : Below w0.heap.size w0 w) (hI : RT w0 B w v0 []) (hB : w0.heap.size ≤ B) (hB2 : B ≤ w.heap.size) : Calls Try.prog 35 #[.slice a l.length c, v0, .func (.func 36) #[] #[]] w fun e w' => ∃ v, e = .returned v ∧ RT w0 B w' v (Tl.ls l) ∧ Below B w w' := by
  have H0 := hidA h0
  have HI0 := hidA (show RT w0 B w v0 (Tl.Tx l 0) by rw [Tl.Tx_zero]; exact hI)
  have HS0 := hidA (show Sr w0 a c (l.drop (Tl.en l 0)) by rw [Tl.en_zero]; exact hS)
  have hpl := Tl.prs_len l.length l (Nat.le_refl _)
  have Hb := hidA hB
  have Hb2 := hidA hB2
  clear h0 hI hS hB hB2
  go_enter Try.func35, Try.ntmps35
  go_wp2_with fail
  go_loopw [0, 1] (fun s0 s1 W => ∃ (k : Nat) (aR : Option Addr) (cR : Nat), s0 = .slice aR (l.drop (Tl.en l k)).length cR ∧ k ≤ (Tl.prs l).length ∧ Hid (Sr w0 aR cR (l.drop (Tl.en l k))) ∧ Hid (RT w0 B W s1 (Tl.Tx l k)) ∧ Hid (Below B w W)) (fun s0 _ _ => slLen s0)
  case atStart => exact ⟨0, a, c, by rw [Tl.en_zero]; rfl, Nat.zero_le _, HS0, HI0, hidA (Below.refl _ _)⟩
  case round =>
    obtain ⟨k, aR, cR, rfl, hk, HS, HI, HB⟩ := hrel
    have hBb := hidA (H0.out.trans (HB.out.mono Hb.out))
    have hsz := hidA (Nat.le_trans Hb2.out HB.out.size)
    clear HI0 HS0
    have hrl : (l.drop (Tl.en l k)).length ≤ 1048577 := by rw [List.length_drop]; omega
    by_cases hr : l.drop (Tl.en l k) = []
    · have hkn := Tl.at_done hk hr
      rw [hr] at HS ⊢
      clear HS
      go_wp2_with fail
      go_ret
      exact ⟨_, rfl, by rw [← Tl.Tx_all, ← hkn]; exact HI.out, HB.out⟩
    · obtain ⟨hk1, e1, e2⟩ := Tl.at_more hk hr
      have HE1 := hidA e1
      have hlt := Tl.tl_lt hr
      have hel : (Tl.Tx l k).length = k := Tl.Tx_len l k hk
      have hsu := Tl.Tx_succ hk hr
      have HC := hidA (fun W g (h1 : Below w0.heap.size w0 W) (h2 : W.cell? ⟨g, 0, none⟩ = some (.int .u8 10)) => oCutG (l.drop (Tl.en l k)) aR cR g (by omega) W (HS.out.grow h1) h2)
      have HK : Hid (∀ (W : World) (v : Value) (a1 : Option Addr) (c1 : Nat), RT w0 B W v (Tl.Tx l k) → Sr w0 a1 c1 (Tl.hd (l.drop (Tl.en l k))) → B ≤ W.heap.size → Calls Try.prog 36 #[v, .agg #[.slice a1 (Tl.hd (l.drop (Tl.en l k))).length c1, .bool (Tl.yes (l.drop (Tl.en l k)))]] W fun x w' => ∃ v', x = .returned v' ∧ RT w0 B w' v' (Tl.Tx l (k + 1)) ∧ Below B W w') := fun W v a1 c1 h1 h2 h3 => by
        have h := oTexts1T w0 B v (Tl.Tx l k) (Tl.hd (l.drop (Tl.en l k))) (by omega) a1 c1 (Tl.yes (l.drop (Tl.en l k))) W h1 h2 h3
        rw [hsu]; exact h
      have hpos : 0 < (l.drop (Tl.en l k)).length := List.length_pos_iff.2 hr
      have HW := hidA (hBb.out.alloc hBb.out.size (.cells #[.int .u8 10] 5))
      have HT : Hid (∀ W a2 c2, Sr W a2 c2 (Tl.tl (l.drop (Tl.en l k))) → Sr W a2 c2 (l.drop (Tl.en l (k + 1)))) := fun W a2 c2 h => by rw [← HE1.out]; exact h
      have HTl : Hid ((l.drop (Tl.en l (k + 1))).length = (Tl.tl (l.drop (Tl.en l k))).length) := by show _ = _; rw [HE1.out]
      clear HE1 e1 e2 hel hr hsu
      generalize Tl.Tx l k = S0 at *
      generalize Tl.hd (l.drop (Tl.en l k)) = h at *
      generalize Tl.tl (l.drop (Tl.en l k)) = t at *
      generalize Tl.yes (l.drop (Tl.en l k)) = y at *
      generalize l.drop (Tl.en l k) = r at *
      go_wp2_with (first
        | (go_at_call 50; (with_reducible refine (HC.out _ _ HW.out (World.cell?_alloc_at _ _ _ _ rfl)).mono ?_); rintro e w2 ⟨a1, c1, a2, c2, rfl, h1, h2⟩; have H1 := hidA h1; have HA := hidA ((Below.refl _ _).alloc (Nat.le_refl _) _ |>.trans (h2.mono (by simp))); clear h1 h2)
        | (go_at_call 36; (with_reducible refine (HK.out _ _ _ _ (HI.out.grow HA.out) (H1.out _ HS.out).1 (Nat.le_trans hsz.out HA.out.size)).mono ?_); rintro e w3 ⟨v', rfl, h1, h2⟩; have HI2 := hidA h1; have HB3 := hidA (HB.out.trans ((HA.out.mono hsz.out).trans h2)); clear h1 h2))
      exact ⟨⟨k + 1, a2, c2, by rw [HTl.out], hk1, hidA (HT.out _ _ _ (H1.out _ HS.out).2), HI2, HB3⟩, by simp [slLen]; omega⟩
set_option maxRecDepth 100000 in
set_option maxHeartbeats 1000000 in
theorem oTextsT (l : List UInt8) (a : Option Addr) (c : Nat) (hl : l.length ≤ 1048577) (w0 w : World) (hS : Sr w0 a c l) (h0 : Below w0.heap.size w0 w) : Calls Try.prog 21 #[.slice a l.length c] w fun e w' => ∃ v, e = .returned v ∧ RT w0 w.heap.size w' v (Tl.ls l) ∧ Below w.heap.size w w' := by
  have HE := hidA (oEachT l a c w.heap.size _ hl w0 w hS h0 (RT.nil w0 w.heap.size w) h0.size (Nat.le_refl _))
  clear hS h0
  go_enter Try.func21, Try.ntmps21
  go_wp2_with (go_at_call 35; (with_reducible refine HE.out.mono ?_); rintro e w1 ⟨v, rfl, h1, h2⟩; have HI := hidA h1; have HB1 := hidA h2; clear h1 h2)
  go_ret
  exact ⟨_, rfl, HI.out, HB1.out⟩
end Go.Proofs.Ytplnojohlbbalaa
