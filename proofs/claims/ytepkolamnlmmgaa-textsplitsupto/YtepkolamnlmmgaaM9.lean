/- Several texts of this claim, one behind the other, in their order. -/
import Derived.Test.YtepkolamnlmmgaaUxX
import Derived.Test.YtepkolamnlmmgaaEvZ
import Derived.Test.YtepkolamnlmmgaaM8
import Derived.BigQuiet
import Derived.Test.YtepkolamnlmmgaaM7
/- The statement's example runs to true, by the evaluator. No condition. -/
namespace Go.Proofs.Ytepkolamnlmmgaa
open Go.RowKit
open Ev
theorem livesRun : callA Try.prog x0 0 hint 20000 8 [] h0 saysTrue = .ok := by kernel_rfl
theorem awakes (W : World) : Calls Try.prog 8 #[] W fun e w' => e = .returned (.bool true) ∧ Below W.heap.size W w' := true_of_run x0_ok Try.checked.mixed livesRun W
end Go.Proofs.Ytepkolamnlmmgaa
/- TextLines' own function: it answers true. Condition: lengths that fit. -/
namespace Go.Proofs.Ytepkolamnlmmgaa
open Go.RowKit
attribute [local go_sem] ext_eq app_eq get_eq
set_option maxRecDepth 100000 in
theorem rSame1S {W : World} {a1 a2 : Option Addr} {c1 c2 : Nat} {l : List UInt8} (h1 : Src W a1 l) (h2 : Src W a2 l) : Calls Try.prog 25 #[.slice a1 l.length c1, .slice a2 l.length c2] W fun e w' => e = .returned (.bool true) ∧ w' = W := by
  have t1 := h1.text c1
  have t2 := h2.text c2
  clear h1 h2
  go_enter Try.func25, Try.ntmps25
  go_wp2_with fail
  go_ret
  exact ⟨by simp, rfl⟩
set_option maxRecDepth 100000 in
theorem rSameS {W : World} {a1 a2 : Option Addr} {c1 c2 : Nat} {l : List UInt8} (h1 : Src W a1 l) (h2 : Src W a2 l) : Calls Try.prog 15 #[.slice a1 l.length c1, .slice a2 l.length c2] W fun e w' => e = .returned (.bool true) ∧ w' = W := by
  have HS := hidA (rSame1S (c1 := c1) (c2 := c2) h1 h2)
  clear h1 h2
  go_enter Try.func15, Try.ntmps15
  go_wp2_with (go_at_call 25; with_reducible refine HS.out.mono ?_; rintro e w1 ⟨rfl, hw1⟩; rw [hw1]; clear hw1 w1)
  go_ret
  exact ⟨rfl, rfl⟩
theorem Rd.heap {W W' : World} {a : Option Addr} {X : List (List UInt8)} (h : Rd W a X) (e : W'.heap = W.heap) : Rd W' a X := fun i hi => by
  obtain ⟨g, o, a', c', e1, hg, hc, hs⟩ := h i hi
  exact ⟨g, o, a', c', e1, by rw [e]; exact hg, by rw [← hc]; exact World.cell?_of_block (w := W) (by rw [e]), hs.src.heap e, hs.le, hs.nil⟩
set_option maxRecDepth 100000 in
set_option maxHeartbeats 2000000 in
theorem lines_eq (X : List (List UInt8)) (a1 a2 : Option Addr) (c1 c2 : Nat) (hX : X.length ≤ 1048577) (w : World) (h1 : Rd w a1 X) (h2 : Rd w a2 X) : Calls Try.prog 7 #[.slice a1 X.length c1, .slice a2 X.length c2] w fun e w' => e = .returned (.bool true) ∧ Below w.heap.size w w' := by
  have H1 := hidA h1
  have H2 := hidA h2
  clear h1 h2
  go_enter Try.func7, Try.ntmps7
  go_wp2_with fail
  go_loopw [13] (fun s13 W => ∃ (k : Nat), s13 = .int .i64 k ∧ k ≤ X.length ∧ Hid (W.heap = w.heap) ∧ Hid (Below w.heap.size w W)) (fun s13 _ => X.length - (intOf s13).toNat)
  case atStart => exact ⟨0, rfl, Nat.zero_le _, hidA rfl, hidA (Below.refl _ _)⟩
  case round =>
    obtain ⟨k, rfl, hk, HH, HB⟩ := hrel
    by_cases hlt : k < X.length
    · obtain ⟨g1, o1, b1, d1, rfl, hg1, hc1, hs1⟩ := (H1.out.heap HH.out) k hlt
      obtain ⟨g2, o2, b2, d2, rfl, hg2, hc2, hs2⟩ := (H2.out.heap HH.out) k hlt
      have hw1 : IntKind.i64.wrap ((k : Int) + 1) = ((k + 1 : Nat) : Int) := by rw [IntKind.wrap_i64]; omega
      have HS : Hid (∀ W : World, W.heap = wr.heap → Calls Try.prog 15 #[.slice b1 X[k].length d1, .slice b2 X[k].length d2] W fun e w' => e = .returned (.bool true) ∧ w' = W) := fun W e => rSameS (hs1.src.heap e) (hs2.src.heap e)
      clear hs1 hs2 H1 H2
      generalize X[k] = x at *
      go_wp2_with (go_quiet ((go_at_call 15; exact Calls.quiet_of_same (HS.out _ rfl))))
      exact ⟨⟨k + 1, by first | rfl | go_num, hlt, hidA HH.out, hidA (HB.out.trans ((bl_drew wr _).mono HB.out.size))⟩, by simp [intOf]; omega⟩
    · go_wp2_with fail
      go_ret
      exact ⟨rfl, HB.out⟩
/-- A line's bytes can be written, and lie elsewhere than g. -/
def Zl (W : World) (B g : Nat) (a : Option Addr) (n : Nat) : Prop := ∀ j, j < n → ∃ g' o, a = some ⟨g', o, none⟩ ∧ B ≤ g' ∧ g' ≠ g ∧ (W.cell? ⟨g', o + j, none⟩).isSome = true ∧ W.frozen? ⟨g', o + j, none⟩ = false
theorem Zl.set {W : World} {B g : Nat} {a : Option Addr} {n : Nat} (h : Zl W B g a n) (p : Addr) (u : Value) : Zl (W.setCell p u) B g a n := fun j hj => by
  obtain ⟨g', o, e, hB, hne, hs, hf⟩ := h j hj
  refine ⟨g', o, e, hB, hne, ?_, by rw [World.frozen?_setCell]; exact hf⟩
  by_cases hp : p = ⟨g', o + j, none⟩
  · rw [hp]
    obtain ⟨v, hv⟩ := Option.isSome_iff_exists.1 hs
    rw [World.cell?_setCell_same _ _ _ hv]; rfl
  · rw [World.cell?_setCell_other _ _ _ _ hp]; exact hs
/-- The lines' own bytes can be written, and the row that leads to them lies elsewhere. -/
def Zs (W : World) (B g : Nat) (X : List (List UInt8)) : Prop := ∀ i (h : i < X.length), ∃ a c, W.cell? ⟨g, i, none⟩ = some (.slice a X[i].length c) ∧ Zl W B g a X[i].length
theorem Zs.set {W : World} {B g : Nat} {X : List (List UInt8)} (h : Zs W B g X) {g2 q : Nat} (hne2 : g2 ≠ g) (u : Value) : Zs (W.setCell ⟨g2, q, none⟩ u) B g X := fun i hi => by
  obtain ⟨a, c, h1, h2⟩ := h i hi
  exact ⟨a, c, by rw [World.cell?_setCell_other _ _ _ _ (by intro e9; injection e9 with e9 _ _; exact hne2 e9)]; exact h1, h2.set _ _⟩
theorem RO.zs {B B' : Nat} {W : World} {g n cap : Nat} {X : List (List UInt8)} (h : RO B W (.slice (some ⟨g, 0, none⟩) n cap) X X.length) (hB : B' ≤ B) : Zs W B' g X := fun i hi => by
  obtain ⟨vs, o1, o2, o3, o4, o5⟩ := h
  have hkd := own_kind o1 g rfl
  have hc := o1.cells (g := g) rfl i (vs[i]'(by omega)) (by simp [o2, hi])
  rw [add0] at hc
  have hb := o5 i hi hi
  obtain ⟨a, c, ev⟩ := hb.slice
  rw [ev] at hc hb
  refine ⟨a, c, hc, fun j hj => ?_⟩
  obtain ⟨g', o, e1, e2, e3, e4⟩ := hb.wr j hj
  refine ⟨g', o, e1, Nat.le_trans hB e2, ?_, e3, e4⟩
  subst e1
  obtain ⟨c1, f1, h1⟩ := hb.kind g' (by
    rcases hb.2 with ⟨e, _⟩ | ⟨g3, cap3, cur3, e, _⟩
    · cases e
    · injection e with e _ _
      injection e with e
      injection e with e _ _
      subst e; rfl)
  obtain ⟨c2, f2, h2⟩ := hkd
  exact heap_ne h1 h2 (by decide)
theorem RO.some {B : Nat} {W : World} {a : Option Addr} {n c k : Nat} {X : List (List UInt8)} (h : RO B W (.slice a n c) X k) (hX : 0 < X.length) : ∃ g, a = some ⟨g, 0, none⟩ := by
  obtain ⟨vs, o1, _⟩ := h
  rcases o1.2 with ⟨e, h0⟩ | ⟨g, cap, cur, e, _⟩
  · omega
  · injection e with e _ _
    exact ⟨g, e⟩
end Go.Proofs.Ytepkolamnlmmgaa
/- Rows of texts; the program's letters, and the closures that tell where a piece ends. Condition: lengths that fit. -/
namespace Go.Proofs.Ytepkolamnlmmgaa
open Go.RowKit
attribute [local go_sem] ext_eq app_eq get_eq
def strV (x : List UInt8) : Value := .string ⟨x.toArray⟩
theorem infoStr : ∃ i, Try.prog.info? 9 = some i ∧ i.zero = some (.string ⟨#[]⟩) ∧ i.size = 1 ∧ i.bytes = 16 := info_of (by kernel_rfl)
/-- A row of texts that is read. -/
def StrS (W : World) (a : Option Addr) (xs : List (List UInt8)) : Prop := ∀ j (_ : j < xs.length), ∃ g o, a = some ⟨g, o, none⟩ ∧ g < W.heap.size ∧ W.cell? ⟨g, o + j, none⟩ = some (.string ⟨(xs[j]).toArray⟩)
theorem StrS.nil (W : World) (a : Option Addr) : StrS W a [] := fun j h => by simp at h
theorem StrS.grow {W W' : World} {a : Option Addr} {xs : List (List UInt8)} (h : StrS W a xs) (hB : Below W.heap.size W W') : StrS W' a xs := fun j hj => by
  obtain ⟨g, o, e, hg, hc⟩ := h j hj
  exact ⟨g, o, e, Nat.lt_of_lt_of_le hg hB.size, (hB.cell (p := ⟨g, o + j, none⟩) hg).trans hc⟩
/-- A row of texts of one's own. -/
def SRow (B : Nat) (W : World) (v : Value) (xs : List (List UInt8)) : Prop := W.ownsRow B 9 1 v xs.length (xs.map strV)
theorem SRow.nil (B : Nat) (W : World) : SRow B W (.slice none 0 0) [] := World.ownsRow_nil _ _ _ _
theorem SRow.own {B : Nat} {W : World} {v : Value} {xs : List (List UInt8)} (h : SRow B W v xs) : W.ownsRow B 9 1 v xs.length (xs.map strV) := h
theorem SRow.grow {B : Nat} {W W' : World} {v : Value} {xs : List (List UInt8)} (h : SRow B W v xs) (b : Below W.heap.size W W') : SRow B W' v xs := own_grow h b
theorem SRow.push {B : Nat} {w' : World} {v' : Value} {xs : List (List UInt8)} {x : List UInt8} (hown : w'.ownsRow B 9 1 v' (xs.length + 1) (xs.map strV ++ [.string ⟨x.toArray⟩])) : SRow B w' v' (xs ++ [x]) := by
  unfold SRow
  rw [List.map_append, List.length_append]; exact hown
theorem SRow.src {B : Nat} {W : World} {v : Value} {xs : List (List UInt8)} (h : SRow B W v xs) : ∃ a c, v = .slice a xs.length c ∧ StrS W a xs := by
  rcases h.2 with ⟨rfl, h0⟩ | ⟨g, cap, cur, rfl, hb, hg, h3⟩
  · have : xs = [] := List.length_eq_zero_iff.1 h0
    subst this
    exact ⟨none, 0, rfl, StrS.nil _ _⟩
  · exact ⟨_, cap, rfl, fun j hj => ⟨g, 0, rfl, heap_lt hg, by rw [show (⟨g, 0 + j, none⟩ : Addr) = (⟨g, 0, none⟩ : Addr).add j by simp [Addr.add]]; exact h.cells (g := g) rfl j (strV xs[j]) (by simp [hj])⟩⟩
/-- A row of texts stays as it is where a row of slices grows. -/
theorem SRow.other {B B2 : Nat} {W w' : World} {v r : Value} {xs : List (List UInt8)} {n : Nat} {vs : List Value} (h : SRow B W v xs) (hg : W.grownBy w' r.ownBlock) (hr : W.ownsRow B2 22 1 r n vs) : SRow B w' v xs := by
  refine own_on h (fun g c hc => ?_)
  refine hg.block g (heap_lt hc) (fun e => ?_)
  obtain ⟨c2, f2, h2⟩ := own_kind hr g e.symm
  exact absurd rfl (heap_ne hc h2 (by decide))
/-- Rows of slices stay as they are where a row of texts grows. -/
theorem RR.other {B B2 : Nat} {W w' : World} {v r : Value} {X : List (List UInt8)} {n : Nat} {vs : List Value} (h : RR B W v X) (hg : W.grownBy w' r.ownBlock) (hr : W.ownsRow B2 9 1 r n vs) (hB : B ≤ B2) : RR B w' v X := by
  obtain ⟨us, h1, h2, h3, h4⟩ := h
  refine ⟨us, own_on h1 (fun g c hc => hg.block g (heap_lt hc) (fun e => ?_)), h2, h3, fun i hi => ?_⟩
  · obtain ⟨c2, f2, h2⟩ := own_kind hr g e.symm
    exact absurd rfl (heap_ne hc h2 (by decide))
  · obtain ⟨a, c, e, hs, hk⟩ := (h4 i hi).sr
    have key : ∀ g o, a = some ⟨g, o, none⟩ → 0 < X[i].length → some g ≠ r.ownBlock := fun g o ea hx hgr => by
      obtain ⟨c2, f2, h2⟩ := own_kind hr g hgr.symm
      have := (hr.lt g hgr.symm).1
      rcases hk g o ea hx with h | ⟨cur, fz, h⟩
      · omega
      · exact absurd rfl (heap_ne h h2 (by decide))
    refine ⟨a, c, e, ⟨fun j hj => ?_, hs.le, hs.nil⟩, fun g o ea hx => ?_⟩
    · obtain ⟨g, o, ea, hl, hc⟩ := hs.src j hj
      exact ⟨g, o, ea, Nat.lt_of_lt_of_le hl hg.size, hg.cell hc (key g o ea (by omega))⟩
    · rcases hk g o ea hx with h | ⟨cur, fz, h⟩
      · exact .inl h
      · exact .inr ⟨cur, fz, (hg.block g (heap_lt h) (key g o ea hx)).trans h⟩
theorem one_str (x : List UInt8) : ∀ u ∈ [Value.string ⟨x.toArray⟩], u.oneCell' = true := by intro u hu; simp at hu; subst hu; rfl
set_option maxRecDepth 100000 in
set_option maxHeartbeats 2000000 in
theorem gTexts (xs : List (List UInt8)) (a a2 : Option Addr) (c c2 : Nat) (hl : xs.length ≤ 2 ^ 60) (w : World) (hS : StrS w a xs) (hS2 : StrS w a2 xs) : Calls Try.prog 6 #[.slice a xs.length c, .slice a2 xs.length c2] w fun e w' => e = .returned (.bool true) ∧ Below w.heap.size w w' := by
  have HS := hidA hS
  have HS2 := hidA hS2
  have hne : ((xs.length : Int) != (xs.length : Int)) = false := by simp
  clear hS hS2
  go_enter Try.func6, Try.ntmps6
  go_wp2
  go_loopw [13] (fun s13 W => ∃ (k : Nat), s13 = .int .i64 k ∧ k ≤ xs.length ∧ Hid (Below w.heap.size w W)) (fun s13 _ => xs.length - (intOf s13).toNat)
  case atStart => exact ⟨0, rfl, Nat.zero_le _, Below.refl _ _⟩
  case round =>
    obtain ⟨k, rfl, hk, HB⟩ := hrel
    by_cases hlt : k < xs.length
    · have hw1 : IntKind.i64.wrap ((k : Int) + 1) = ((k + 1 : Nat) : Int) := by rw [IntKind.wrap_i64]; omega
      obtain ⟨g, o, rfl, hg, hc⟩ := (HS.out.grow HB.out) k hlt
      obtain ⟨g2, o2, rfl, hg2, hc2⟩ := (HS2.out.grow HB.out) k hlt
      have hxx : (xs[k] != xs[k]) = false := by simp
      clear HS HS2
      generalize xs[k] = x at *
      go_wp2_with (go_quiet (fail))
      exact ⟨⟨k + 1, by first | rfl | go_num, hlt, hidA (HB.out.trans ((bl_drew wr _).mono HB.out.size))⟩, by simp [intOf]; omega⟩
    · clear HS HS2
      go_wp2_with fail
      go_ret
      exact ⟨rfl, HB.out⟩
/-- The two letters of a name. -/
def lt2 (k : Nat) : List UInt8 := [UInt8.ofNat (97 + k / 26), UInt8.ofNat (97 + k % 26)]
theorem let_src (w : World) (x y : UInt8) : Src (w.alloc (.cells #[.int .u8 x.toNat, .int .u8 y.toNat] 5)) (some ⟨w.heap.size, 0, none⟩) [x, y] := fun j hj => by
  refine ⟨_, _, rfl, by simp, ?_⟩
  match j, hj with
  | 0, _ => exact World.cell?_alloc_at _ _ _ _ rfl
  | 1, _ => exact World.cell?_alloc_at _ _ _ _ rfl
set_option maxRecDepth 100000 in
theorem oLetters (k : Nat) (hk : k < 676) (w : World) : Calls Try.prog 22 #[.int .i64 k] w fun e w' => e = .returned (.string ⟨(lt2 k).toArray⟩) ∧ Below w.heap.size w w' := by
  have h1 : (k : Int).tdiv 26 = ((k / 26 : Nat) : Int) := rfl
  have h2 : (k : Int).tmod 26 = ((k % 26 : Nat) : Int) := rfl
  have hx : ((UInt8.ofNat (97 + k / 26)).toNat : Int) = 97 + ((k / 26 : Nat) : Int) := by simp; omega
  have hy : ((UInt8.ofNat (97 + k % 26)).toNat : Int) = 97 + ((k % 26 : Nat) : Int) := by simp; omega
  have hcv := (let_src w (UInt8.ofNat (97 + k / 26)) (UInt8.ofNat (97 + k % 26))).text 2
  rw [hx, hy] at hcv
  simp only [List.length_cons, List.length_nil, Nat.zero_add, Nat.reduceAdd] at hcv
  have hm : k / 26 < 26 := by omega
  have hn : k % 26 < 26 := by omega
  unfold lt2
  generalize k / 26 = m at *
  generalize k % 26 = n at *
  generalize UInt8.ofNat (97 + m) = x at *
  generalize UInt8.ofNat (97 + n) = y at *
  go_enter Try.func22, Try.ntmps22
  go_wp2
  go_ret
  exact ⟨rfl, (Below.refl _ _).alloc (Nat.le_refl _) _⟩
set_option maxRecDepth 100000 in
theorem oSplit2 (n : Nat) (w : World) : Calls Try.prog 12 #[.int .i64 n] w fun e w' => e = .returned (.int .i64 n) ∧ w' = w := by
  go_enter Try.func12, Try.ntmps12
  go_wp2
  go_ret
  exact ⟨rfl, rfl⟩
set_option maxRecDepth 100000 in
theorem oSplit1 (n g ge N cap x : Nat) (hn : n < N) (w : World) (hg : w.cell? ⟨g, 0, none⟩ = some (.slice (some ⟨ge, 0, none⟩) N cap)) (hx : w.cell? ⟨ge, n, none⟩ = some (.int .i64 x)) : Calls Try.prog 11 #[.int .i64 n, .pointer (some ⟨g, 0, none⟩)] w fun e w' => e = .returned (.int .i64 x) ∧ w' = w := by
  go_enter Try.func11, Try.ntmps11
  go_wp2
  go_ret
  exact ⟨rfl, rfl⟩
end Go.Proofs.Ytepkolamnlmmgaa
