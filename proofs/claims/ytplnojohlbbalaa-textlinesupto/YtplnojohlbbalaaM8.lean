/- Several texts of this claim, one behind the other, in their order. -/
import Derived.Test.YtplnojohlbbalaaUxX
import Derived.Test.YtplnojohlbbalaaEvZ
import Derived.Test.YtplnojohlbbalaaM7
import Derived.BigQuiet
/- The statement's example runs to true, by the evaluator. No condition. -/
namespace Go.Proofs.Ytplnojohlbbalaa
open Go.RowKit
open Ev
theorem livesRun : callA Try.prog x0 0 hint 20000 14 [] h0 saysTrue = .ok := by kernel_rfl
theorem awakes (W : World) : Calls Try.prog 14 #[] W fun e w' => e = .returned (.bool true) ∧ Below W.heap.size W w' := true_of_run x0_ok Try.checked.mixed livesRun W
end Go.Proofs.Ytplnojohlbbalaa
/- TextLines' own function: it answers true. Condition: lengths that fit. -/
namespace Go.Proofs.Ytplnojohlbbalaa
open Go.RowKit
attribute [local go_sem] ext_eq app_eq get_eq
set_option maxRecDepth 100000 in
theorem rSame1S {W : World} {a1 a2 : Option Addr} {c1 c2 : Nat} {l : List UInt8} (h1 : Src W a1 l) (h2 : Src W a2 l) : Calls Try.prog 23 #[.slice a1 l.length c1, .slice a2 l.length c2] W fun e w' => e = .returned (.bool true) ∧ w' = W := by
  have t1 := h1.text c1
  have t2 := h2.text c2
  clear h1 h2
  go_enter Try.func23, Try.ntmps23
  go_wp2_with fail
  go_ret
  exact ⟨by simp, rfl⟩
set_option maxRecDepth 100000 in
theorem rSameS {W : World} {a1 a2 : Option Addr} {c1 c2 : Nat} {l : List UInt8} (h1 : Src W a1 l) (h2 : Src W a2 l) : Calls Try.prog 10 #[.slice a1 l.length c1, .slice a2 l.length c2] W fun e w' => e = .returned (.bool true) ∧ w' = W := by
  have HS := hidA (rSame1S (c1 := c1) (c2 := c2) h1 h2)
  clear h1 h2
  go_enter Try.func10, Try.ntmps10
  go_wp2_with (go_at_call 23; with_reducible refine HS.out.mono ?_; rintro e w1 ⟨rfl, hw1⟩; rw [hw1]; clear hw1 w1)
  go_ret
  exact ⟨rfl, rfl⟩
theorem Rd.heap {W W' : World} {a : Option Addr} {X : List (List UInt8)} (h : Rd W a X) (e : W'.heap = W.heap) : Rd W' a X := fun i hi => by
  obtain ⟨g, o, a', c', e1, hg, hc, hs⟩ := h i hi
  exact ⟨g, o, a', c', e1, by rw [e]; exact hg, by rw [← hc]; exact World.cell?_of_block (w := W) (by rw [e]), hs.src.heap e, hs.le, hs.nil⟩
set_option maxRecDepth 100000 in
set_option maxHeartbeats 2000000 in
theorem lines_eq (X : List (List UInt8)) (a1 a2 : Option Addr) (c1 c2 : Nat) (hX : X.length ≤ 1048577) (w : World) (h1 : Rd w a1 X) (h2 : Rd w a2 X) : Calls Try.prog 9 #[.slice a1 X.length c1, .slice a2 X.length c2] w fun e w' => e = .returned (.bool true) ∧ Below w.heap.size w w' := by
  have H1 := hidA h1
  have H2 := hidA h2
  clear h1 h2
  go_enter Try.func9, Try.ntmps9
  go_wp2_with fail
  go_loopw [13] (fun s13 W => ∃ (k : Nat), s13 = .int .i64 k ∧ k ≤ X.length ∧ Hid (W.heap = w.heap) ∧ Hid (Below w.heap.size w W)) (fun s13 _ => X.length - (intOf s13).toNat)
  case atStart => exact ⟨0, rfl, Nat.zero_le _, hidA rfl, hidA (Below.refl _ _)⟩
  case round =>
    obtain ⟨k, rfl, hk, HH, HB⟩ := hrel
    by_cases hlt : k < X.length
    · obtain ⟨g1, o1, b1, d1, rfl, hg1, hc1, hs1⟩ := (H1.out.heap HH.out) k hlt
      obtain ⟨g2, o2, b2, d2, rfl, hg2, hc2, hs2⟩ := (H2.out.heap HH.out) k hlt
      have hw1 : IntKind.i64.wrap ((k : Int) + 1) = ((k + 1 : Nat) : Int) := by rw [IntKind.wrap_i64]; omega
      have HS : Hid (∀ W : World, W.heap = wr.heap → Calls Try.prog 10 #[.slice b1 X[k].length d1, .slice b2 X[k].length d2] W fun e w' => e = .returned (.bool true) ∧ w' = W) := fun W e => rSameS (hs1.src.heap e) (hs2.src.heap e)
      clear hs1 hs2 H1 H2
      generalize X[k] = x at *
      go_wp2_with (go_quiet ((go_at_call 10; exact Calls.quiet_of_same (HS.out _ rfl))))
      exact ⟨⟨k + 1, by first | rfl | go_num, hlt, hidA HH.out, hidA (HB.out.trans ((bl_drew wr _).mono HB.out.size))⟩, by simp [intOf]; omega⟩
    · go_wp2_with fail
      go_ret
      exact ⟨rfl, HB.out⟩
/-- A line's bytes can be written, and lie elsewhere than g. -/
def Zl (W : World) (B g : Nat) (a : Option Addr) (n : Nat) : Prop := ∀ j, j < n → ∃ g' o, a = some ⟨g', o, none⟩ ∧ B ≤ g' ∧ g' ≠ g ∧ (W.cell? ⟨g', o + j, none⟩).isSome = true ∧ W.frozen? ⟨g', o + j, none⟩ = false
theorem Zl.set {W : World} {B g : Nat} {a : Option Addr} {n : Nat} (h : Zl W B g a n) (p : Addr) (u : Value) : Zl (W.setCell p u) B g a n := fun j hj => by
  obtain ⟨g', o, e, hB, hne, hs, hf⟩ := h j hj
  refine ⟨g', o, e, hB, hne, ?_, by rw [World.frozen?_setCell]; exact hf⟩
  by_cases hp : p = ⟨g', o + j, none⟩
  · rw [hp]
    obtain ⟨v, hv⟩ := Option.isSome_iff_exists.1 hs
    rw [World.cell?_setCell_same _ _ _ hv]; rfl
  · rw [World.cell?_setCell_other _ _ _ _ hp]; exact hs
/-- The lines' own bytes can be written, and the row that leads to them lies elsewhere. -/
def Zs (W : World) (B g : Nat) (X : List (List UInt8)) : Prop := ∀ i (h : i < X.length), ∃ a c, W.cell? ⟨g, i, none⟩ = some (.slice a X[i].length c) ∧ Zl W B g a X[i].length
theorem Zs.set {W : World} {B g : Nat} {X : List (List UInt8)} (h : Zs W B g X) {g2 q : Nat} (hne2 : g2 ≠ g) (u : Value) : Zs (W.setCell ⟨g2, q, none⟩ u) B g X := fun i hi => by
  obtain ⟨a, c, h1, h2⟩ := h i hi
  exact ⟨a, c, by rw [World.cell?_setCell_other _ _ _ _ (by intro e9; injection e9 with e9 _ _; exact hne2 e9)]; exact h1, h2.set _ _⟩
theorem RO.zs {B B' : Nat} {W : World} {g n cap : Nat} {X : List (List UInt8)} (h : RO B W (.slice (some ⟨g, 0, none⟩) n cap) X X.length) (hB : B' ≤ B) : Zs W B' g X := fun i hi => by
  obtain ⟨vs, o1, o2, o3, o4, o5⟩ := h
  have hkd := own_kind o1 g rfl
  have hc := o1.cells (g := g) rfl i (vs[i]'(by omega)) (by simp [o2, hi])
  rw [add0] at hc
  have hb := o5 i hi hi
  obtain ⟨a, c, ev⟩ := hb.slice
  rw [ev] at hc hb
  refine ⟨a, c, hc, fun j hj => ?_⟩
  obtain ⟨g', o, e1, e2, e3, e4⟩ := hb.wr j hj
  refine ⟨g', o, e1, Nat.le_trans hB e2, ?_, e3, e4⟩
  subst e1
  obtain ⟨c1, f1, h1⟩ := hb.kind g' (by
    rcases hb.2 with ⟨e, _⟩ | ⟨g3, cap3, cur3, e, _⟩
    · cases e
    · injection e with e _ _
      injection e with e
      injection e with e _ _
      subst e; rfl)
  obtain ⟨c2, f2, h2⟩ := hkd
  exact heap_ne h1 h2 (by decide)
theorem RO.some {B : Nat} {W : World} {a : Option Addr} {n c k : Nat} {X : List (List UInt8)} (h : RO B W (.slice a n c) X k) (hX : 0 < X.length) : ∃ g, a = some ⟨g, 0, none⟩ := by
  obtain ⟨vs, o1, _⟩ := h
  rcases o1.2 with ⟨e, h0⟩ | ⟨g, cap, cur, e, _⟩
  · omega
  · injection e with e _ _
    exact ⟨g, e⟩
end Go.Proofs.Ytplnojohlbbalaa
/- TextLines' own function: it answers true. Condition: lengths that fit. -/
namespace Go.Proofs.Ytplnojohlbbalaa
open Go.RowKit
attribute [local go_sem] ext_eq app_eq get_eq
theorem RR.rd2 {B : Nat} {W : World} {a : Option Addr} {n c : Nat} {X : List (List UInt8)} (h : RR B W (.slice a n c) X) : Rd W a X := h.rd.1
set_option maxRecDepth 100000 in
set_option maxHeartbeats 4000000 in
theorem lines_walk (l : List UInt8) (a : Option Addr) (c : Nat) (X : List (List UInt8)) (a2 : Option Addr) (c2 : Nat) (e : Bool) (hl : l.length ≤ 1048576) (hX : X.length ≤ 1048577) (hF : X.flatten.length ≤ 1048577) (hXF : X.flatten.length + X.length ≤ 2097155) (hc2 : X.length ≤ c2) (w : World) (hS : Sr w a c l) (hR : Rd w a2 X) : Calls Try.prog 3 #[.slice a l.length c, .slice a2 X.length c2, .bool e] w fun y w' => y = .returned (.bool true) ∧ Below w.heap.size w w' := by
  have HA1 := hidA (gLend l a c (by omega) w hS.src)
  have HA2 := hidA (fun W (h : LendR W w.heap.size l l.length) => oLines l (some ⟨w.heap.size, 1, none⟩) (l.length + 1) (by omega) W ⟨h.src, Nat.le_succ _, fun e => by cases e⟩)
  have HA3 := hidA (fun W (b : Below w.heap.size w W) => rLines l a c (by omega) W (hS.grow b).src)
  have HA4 := hidA (fun W a1 a3 c1 c3 (h1 : Rd W a1 (Tl.ls l)) (h2 : Rd W a3 (Tl.ls l)) => lines_eq (Tl.ls l) a1 a3 c1 c3 (by have := Tl.ls_len l; omega) W h1 h2)
  have HA5 := hidA (fun W (b : Below w.heap.size w W) => oWhole X e a2 c2 hX hF hc2 W (hR.grow b))
  have HA6 := hidA (fun W (b : Below w.heap.size w W) => rWhole X e a2 c2 (by omega) (Nat.le_trans (Tl.wh_len e X) hXF) W (hR.grow b))
  have HA7 := hidA (fun W (h : LendR W w.heap.size l l.length) (b : Below w.heap.size w W) => gKept l a c w.heap.size (by omega) W h (hS.grow b).src)
  have HAw := hidA awakes
  have hls := Tl.ls_len l
  have hlm := hidA (Tl.ls_mem_le l)
  clear hS hR
  generalize Tl.ls l = Y at *
  generalize Tl.eb l = y at *
  generalize Tl.wh X e = Z at *
  go_enter Try.func3, Try.ntmps3
  go_upto_region 7 with (first
    | (go_at_call 6; with_reducible refine HA1.out.mono ?_; rintro q w1 ⟨rfl, h1, b1⟩; have HL := hidA h1; have HW := hidA b1; have Hlt := hidA h1.lt; clear h1 b1)
    | (go_at_call 7; with_reducible refine (HA2.out _ HL.out).mono ?_; rintro q w2 ⟨v1, rfl, h1, b1⟩; have HX := hidA h1; have HL := hidA (HL.out.grow b1 Hlt.out); have HB1 := hidA (Below.refl w2.heap.size w2); have HW := hidA (HW.out.trans (b1.mono HW.out.size)); obtain ⟨a1, c1, hv1⟩ := h1.rr.slice; subst hv1; clear h1 b1)
    | (go_at_call 8; with_reducible refine (HA3.out _ HW.out).mono ?_; rintro q w3 ⟨v2, rfl, h1, b1⟩; have HY := hidA h1; have HL := hidA (HL.out.grow b1 (by have := HL.out.lt; exact this)); have HB1 := hidA (HB1.out.trans b1); have HW := hidA (HW.out.trans (b1.mono HW.out.size)); obtain ⟨a3, c3, hv3⟩ := h1.slice; subst hv3; clear h1 b1)
    | (go_at_call 9; with_reducible refine (HA4.out _ _ _ _ _ (HX.out.rr.grow HB1.out).rd2 HY.out.rd2).mono ?_; rintro q w4 ⟨rfl, b1⟩; have HL := hidA (HL.out.grow b1 (by have := HL.out.lt; exact this)); have HB1 := hidA (HB1.out.trans (b1.mono HB1.out.size)); have HW := hidA (HW.out.trans (b1.mono HW.out.size)); clear b1)
    | (go_at_call 11; with_reducible refine (HA5.out _ HW.out).mono ?_; rintro q w5 ⟨a5, c5, rfl, h1, b1⟩; have H5 := hidA h1; have HL := hidA (HL.out.grow b1 (by have := HL.out.lt; exact this)); have HB1 := hidA (HB1.out.trans (b1.mono HB1.out.size)); have HW := hidA (HW.out.trans (b1.mono HW.out.size)); clear h1 b1)
    | (go_at_call 12; with_reducible refine (HA6.out _ HW.out).mono ?_; rintro q w6 ⟨v6, rfl, h1, b1⟩; obtain ⟨a6, c6, hv6⟩ := h1.slice; subst hv6; have H6 := hidA h1.sr; have H5 := hidA (H5.out.grow b1); have HL := hidA (HL.out.grow b1 (by have := HL.out.lt; exact this)); have HB1 := hidA (HB1.out.trans (b1.mono HB1.out.size)); have HW := hidA (HW.out.trans (b1.mono HW.out.size)); clear h1 b1)
    | (go_at_call 10; with_reducible refine (rSameS H5.out.src H6.out.src).mono ?_; rintro q w7 ⟨rfl, hw7⟩; rw [hw7]; clear hw7 w7))
  have HZ : Hid (∀ g, a1 = some ⟨g, 0, none⟩ → Zs w6 (w.heap.size + 1) g Y) := fun g e => by subst e; exact (HX.out.grow HB1.out).zs Hlt.out
  have HN : Hid (0 < Y.length → ∃ g, a1 = some ⟨g, 0, none⟩) := HX.out.some
  clear HX HY HB1 H5 H6 HA1 HA2 HA3 HA4 HA5 HA6 Hlt
  go_loopw [52] (fun s52 W => ∃ (k : Nat), s52 = .int .i64 k ∧ k ≤ Y.length ∧ Hid (∀ g, a1 = some ⟨g, 0, none⟩ → Zs W (w.heap.size + 1) g Y) ∧ Hid (LendR W w.heap.size l l.length) ∧ Hid (Below w.heap.size w W)) (fun s52 _ => Y.length - (intOf s52).toNat)
  case atStart => exact ⟨0, rfl, Nat.zero_le _, HZ, HL, HW⟩
  case round =>
    obtain ⟨k, rfl, hk, HZ1, HL1, HW1⟩ := hrel
    clear HZ HL HW
    by_cases hlt : k < Y.length
    · obtain ⟨g, rfl⟩ := HN.out (by omega)
      have HZ2 := hidA (HZ1.out g rfl)
      obtain ⟨b1, d1, hc, hz⟩ := HZ2.out k hlt
      have HZl := hidA hz
      have hw1 : IntKind.i64.wrap ((k : Int) + 1) = ((k + 1 : Nat) : Int) := by rw [IntKind.wrap_i64]; omega
      have hnl := hlm.out Y[k] (List.getElem_mem hlt)
      clear hz HZ1 HN
      generalize Y[k].length = n at *
      go_upto_region 10 with fail
      go_loopw [58] (fun s58 W => ∃ (j : Nat), s58 = .int .i64 j ∧ j ≤ n ∧ Hid (Zs W (w.heap.size + 1) g Y) ∧ Hid (Zl W (w.heap.size + 1) g b1 n) ∧ Hid (LendR W w.heap.size l l.length) ∧ Hid (Below w.heap.size w W)) (fun s58 _ => n - (intOf s58).toNat)
      case atStart => exact ⟨0, rfl, Nat.zero_le _, HZ2, HZl, HL1, HW1⟩
      case round =>
        obtain ⟨j, rfl, hj, HZ3, HZl3, HL3, HW3⟩ := hrel
        clear HZ2 HZl HL1 HW1
        by_cases hjl : j < n
        · obtain ⟨g', o, rfl, hB, hne, hs, hf⟩ := HZl3.out j hjl
          obtain ⟨u, hu⟩ := Option.isSome_iff_exists.1 hs
          have hw2 : IntKind.i64.wrap ((j : Int) + 1) = ((j + 1 : Nat) : Int) := by rw [IntKind.wrap_i64]; omega
          have Q1 := hidA (HZ3.out.set (q := o + j) hne (.int .u8 9))
          have Q2 := hidA (HZl3.out.set ⟨g', o + j, none⟩ (.int .u8 9))
          have Q3 := hidA (HL3.out.grow (B := w.heap.size + 1) ((Below.refl _ _).setCell (p := ⟨g', o + j, none⟩) hB (.int .u8 9)) (Nat.lt_succ_self _))
          have Q4 := hidA (HW3.out.setCell (p := ⟨g', o + j, none⟩) (Nat.le_trans (Nat.le_succ _) hB) (.int .u8 9))
          clear HZ3 HZl3 HL3 HW3 hs
          go_wp2_with fail
          exact ⟨⟨j + 1, by first | rfl | go_num, hjl, Q1, Q2, Q3, Q4⟩, by simp [intOf]; omega⟩
        · go_wp2_with fail
          exact ⟨⟨k + 1, by first | rfl | go_num, hlt, hidA (fun g2 e2 => by cases e2; exact HZ3.out), HL3, HW3⟩, by simp [intOf]; omega⟩
    · go_wp2_with (first
        | (go_at_call 13; with_reducible refine (HA7.out _ HL1.out HW1.out).mono ?_; rintro q w8 ⟨rfl, b1⟩; have HW := hidA (HW1.out.trans (b1.mono HW1.out.size)); clear b1)
        | (go_at_call 14; with_reducible refine (HAw.out _).mono ?_; rintro q w9 ⟨rfl, b1⟩; have HW := hidA (HW.out.trans (b1.mono HW.out.size)); clear b1))
      go_ret
      exact ⟨rfl, HW.out⟩
end Go.Proofs.Ytplnojohlbbalaa
