/- TextSplits' own function: it answers true. Condition: lengths that fit. -/
import Derived.Test.YtepkolamnlmmgaaUe4
namespace Go.Proofs.Ytepkolamnlmmgaa
open Go.RowKit
attribute [local go_sem] ext_eq app_eq get_eq
set_option maxRecDepth 100000 in
set_option maxHeartbeats 2000000 in
theorem rSplitN (l p : List UInt8) (a : Option Addr) (c : Nat) (x y : Int) (h1 : ¬ (0 < x ∧ y = 0)) (h2 : ¬ (0 < y ∧ x = 0)) (w : World) : Calls Try.prog 5 #[.slice a l.length c, .int .i64 x, .int .i64 y, .string ⟨p.toArray⟩] w fun e w' => Below w.heap.size w w' ∧ e = .returned (.tuple #[.slice none 0 0, .slice none 0 0, .int .i64 22]) := by
  by_cases hx : x = 0
  · have hy : ¬ 0 < y := fun h => h2 ⟨h, hx⟩
    have hx1 : ¬ 0 < x := by omega
    have hxb : (x == 0) = true := by rw [hx]; rfl
    clear h1 h2 hx
    by_cases hy0 : y = 0
    · have hyb : (y == 0) = true := by rw [hy0]; rfl
      clear hy0
      go_enter Try.func5, Try.ntmps5
      go_wp2_with fail
      go_ret3
      exact ⟨Below.refl _ _, rfl⟩
    · have hyb : (y == 0) = false := beq_eq_false_iff_ne.2 hy0
      clear hy0
      go_enter Try.func5, Try.ntmps5
      go_wp2_with fail
      go_ret3
      exact ⟨Below.refl _ _, rfl⟩
  · have hxb : (x == 0) = false := beq_eq_false_iff_ne.2 hx
    clear h2 hx
    by_cases hy0 : y = 0
    · have hyb : (y == 0) = true := by rw [hy0]; rfl
      have hx1 : ¬ 0 < x := fun h => h1 ⟨h, hy0⟩
      clear hy0 h1
      go_enter Try.func5, Try.ntmps5
      go_wp2_with fail
      go_ret3
      exact ⟨Below.refl _ _, rfl⟩
    · have hyb : (y == 0) = false := beq_eq_false_iff_ne.2 hy0
      clear hy0 h1
      go_enter Try.func5, Try.ntmps5
      go_wp2_with fail
      go_ret3
      exact ⟨Below.refl _ _, rfl⟩
/-- What Split tells: names, pieces, an error's number. -/
def SpO (W : World) (e : Ending) (xs X : List (List UInt8)) (n : Int) : Prop := ∃ a1 c1 a2 c2, e = .returned (.tuple #[.slice a1 xs.length c1, .slice a2 X.length c2, .int .i64 n]) ∧ StrS W a1 xs ∧ Rd W a2 X
theorem SpO.bad (W : World) (n : Int) : SpO W (.returned (.tuple #[.slice none 0 0, .slice none 0 0, .int .i64 n])) [] [] n := ⟨none, 0, none, 0, rfl, StrS.nil _ _, fun i h => by simp at h⟩
theorem SpOut.to {W : World} {e : Ending} {p l : List UInt8} {E : Nat → Nat} {s u : Nat} (h : SpOut W e p l E s u) : SpO W e (if 676 < Tl.kk s u then [] else Tl.NM p (Tl.kk s u)) (if 676 < Tl.kk s u then [] else Tl.SP l E s u (Tl.kk s u)) (if 676 < Tl.kk s u then 34 else 0) := by
  rcases h with ⟨h1, rfl⟩ | ⟨h1, a1, c1, a2, c2, rfl, h2, h3⟩
  · rw [if_pos h1, if_pos h1, if_pos h1]; exact SpO.bad W 34
  · rw [if_neg (by omega), if_neg (by omega), if_neg (by omega)]
    exact ⟨a1, c1, a2, c2, rfl, h2, h3⟩
set_option maxRecDepth 100000 in
set_option maxHeartbeats 2000000 in
theorem splits_core (l p : List UInt8) (a : Option Addr) (c : Nat) (x y : Int) (xs X : List (List UInt8)) (n : Int) (hxs : xs.length ≤ 1048577) (hX : X.length ≤ 1048577) (w : World)
    (hA : ∀ W, Below w.heap.size w W → Calls Try.prog 4 #[.slice a l.length c, .int .i64 x, .int .i64 y, .string ⟨p.toArray⟩] W fun e w' => Below W.heap.size W w' ∧ SpO w' e xs X n)
    (hB : ∀ W, Below w.heap.size w W → Calls Try.prog 5 #[.slice a l.length c, .int .i64 x, .int .i64 y, .string ⟨p.toArray⟩] W fun e w' => Below W.heap.size W w' ∧ SpO w' e xs X n) :
    Calls Try.prog 3 #[.slice a l.length c, .agg #[.int .i64 x, .int .i64 y, .string ⟨p.toArray⟩]] w fun e w' => e = .returned (.bool true) ∧ Below w.heap.size w w' := by
  have HA := hidA hA
  have HB := hidA hB
  have HAw := hidA awakes
  have hb0 : Below w.heap.size w (w.alloc (.cells #[.int .i64 x, .int .i64 y, .string ⟨p.toArray⟩] 24)) := (Below.refl w.heap.size w).alloc (Nat.le_refl _) _
  have hlt0 : w.heap.size < (w.alloc (.cells #[.int .i64 x, .int .i64 y, .string ⟨p.toArray⟩] 24)).heap.size := by simp
  have HK := hidA (fun W (b : Below (w.alloc (.cells #[.int .i64 x, .int .i64 y, .string ⟨p.toArray⟩] 24)).heap.size (w.alloc (.cells #[.int .i64 x, .int .i64 y, .string ⟨p.toArray⟩] 24)) W) => (show W.cell? ⟨w.heap.size, 0, none⟩ = some (.int .i64 x) ∧ W.cell? ⟨w.heap.size, 1, none⟩ = some (.int .i64 y) ∧ W.cell? ⟨w.heap.size, 2, none⟩ = some (.string ⟨p.toArray⟩) from ⟨(b.cell (p := ⟨w.heap.size, 0, none⟩) hlt0).trans (World.cell?_alloc_at _ _ _ _ rfl), (b.cell (p := ⟨w.heap.size, 1, none⟩) hlt0).trans (World.cell?_alloc_at _ _ _ _ rfl), (b.cell (p := ⟨w.heap.size, 2, none⟩) hlt0).trans (World.cell?_alloc_at _ _ _ _ rfl)⟩))
  have HW := hidA hb0
  clear hA hB hb0 hlt0
  go_enter Try.func3, Try.ntmps3
  go_upto_region 1 with fail
  generalize w.alloc (.cells #[.int .i64 x, .int .i64 y, .string ⟨p.toArray⟩] 24) = W0 at *
  obtain ⟨k0, k1, k2⟩ := HK.out W0 (Below.refl _ _)
  go_wp2_with (first
    | (go_at_call 4; (with_reducible refine (HA.out _ HW.out).mono ?_); rintro e w1 ⟨b1, a1, c1, a2, c2, rfl, h1, h2⟩; have H1 := hidA h1; have H2 := hidA h2; have HB0 := hidA b1; obtain ⟨k0, k1, k2⟩ := HK.out w1 b1; have HW := hidA (HW.out.trans (b1.mono HW.out.size)); clear h1 h2 b1)
    | (go_at_call 5; (with_reducible refine (HB.out _ HW.out).mono ?_); rintro e w2 ⟨b1, a3, c3, a4, c4, rfl, h1, h2⟩; have H3 := hidA h1; have H4 := hidA h2; have H1 := hidA (H1.out.grow b1); have H2 := hidA (H2.out.grow b1); have HW := hidA (HW.out.trans (b1.mono HW.out.size)); clear h1 h2 b1)
    | (go_at_call 6; (with_reducible refine (gTexts xs a1 a3 c1 c3 (by omega) _ H1.out H3.out).mono ?_); rintro e w3 ⟨rfl, b1⟩; have H2 := hidA (H2.out.grow b1); have H4 := hidA (H4.out.grow b1); have HW := hidA (HW.out.trans (b1.mono HW.out.size)); clear b1)
    | (go_at_call 7; (with_reducible refine (lines_eq X a2 a4 c2 c4 hX _ H2.out H4.out).mono ?_); rintro e w4 ⟨rfl, b1⟩; have HW := hidA (HW.out.trans (b1.mono HW.out.size)); clear b1)
    | (go_at_call 8; (with_reducible refine (HAw.out _).mono ?_); rintro e w5 ⟨rfl, b1⟩; have HW := hidA (HW.out.trans (b1.mono HW.out.size)); clear b1))
  go_ret
  exact ⟨rfl, HW.out⟩
theorem splits_walk (l p : List UInt8) (a : Option Addr) (c : Nat) (x y : Int) (hx : -(2 ^ 63) ≤ x ∧ x < 2 ^ 63) (hy : -(2 ^ 63) ≤ y ∧ y < 2 ^ 63) (hl : l.length ≤ 1048576) (hp : p.length ≤ 1048576) (w : World) (hS : Sr w a c l) :
    Calls Try.prog 3 #[.slice a l.length c, .agg #[.int .i64 x, .int .i64 y, .string ⟨p.toArray⟩]] w fun e w' => e = .returned (.bool true) ∧ Below w.heap.size w w' := by
  by_cases h1 : 0 < x ∧ y = 0
  · obtain ⟨h1, rfl⟩ := h1
    obtain ⟨s, rfl⟩ : ∃ s : Nat, x = (s : Int) := ⟨x.toNat, by omega⟩
    refine splits_core l p a c _ _ _ _ _ ?_ ?_ w (fun W b => (oSplitL l p a c s (by omega) (by omega) hl (by omega) W (hS.grow b)).mono fun e w' h => ⟨h.1, h.2.to⟩) (fun W b => (rSplitL l p a c s (by omega) (by omega) hl (by omega) W (hS.grow b)).mono fun e w' h => ⟨h.1, h.2.to⟩)
    · split
      · simp
      · rw [Tl.NM_len]; omega
    · split
      · simp
      · rw [Tl.SP_len]; omega
  · by_cases h2 : 0 < y ∧ x = 0
    · obtain ⟨h2, rfl⟩ := h2
      obtain ⟨s, rfl⟩ : ∃ s : Nat, y = (s : Int) := ⟨y.toNat, by omega⟩
      refine splits_core l p a c _ _ _ _ _ ?_ ?_ w (fun W b => (oSplitB l p a c s (by omega) (by omega) (by omega) (by omega) W (hS.grow b)).mono fun e w' h => ⟨h.1, h.2.to⟩) (fun W b => (rSplitB l p a c s (by omega) (by omega) hl (by omega) W (hS.grow b)).mono fun e w' h => ⟨h.1, h.2.to⟩)
      · split
        · simp
        · rw [Tl.NM_len]; omega
      · split
        · simp
        · rw [Tl.SP_len]; omega
    · exact splits_core l p a c x y [] [] 22 (by simp) (by simp) w (fun W b => (oSplitN l p a c x y h1 h2 W).mono fun e w' h => ⟨h.1, by rw [h.2]; exact SpO.bad _ _⟩) (fun W b => (rSplitN l p a c x y h1 h2 W).mono fun e w' h => ⟨h.1, by rw [h.2]; exact SpO.bad _ _⟩)
end Go.Proofs.Ytepkolamnlmmgaa
