/- Rel and Within are as the document says; Clean and Join are. Conditions: lengths that fit; the list's cells are as said. -/
import Derived.Test.YteggjpogaljafaaDoorPc1
namespace Go.Proofs.YteggjpogaljafaaDoor
open Go.RowKit
attribute [local go_sem] ext_eq app_eq get_eq toL_eq
set_option maxRecDepth 100000 in
set_option maxHeartbeats 2000000 in
theorem relates_walk (a b : List UInt8) (w : World) (ha : a.length ≤ 2 ^ 37) (hb : b.length ≤ 2 ^ 37) : Calls Tryd.prog 6 #[.string ⟨a.toArray⟩, .string ⟨b.toArray⟩] w fun e w' => e = .returned (.bool true) ∧ Below w.heap.size w w' := by
  go_enter Tryd.func6, Tryd.ntmps6
  go_wp2_with fail
  refine (pRel a b _ ha hb).mono ?_
  rintro e w1 ⟨rfl, HB1⟩
  go_wp2_with fail
  refine (rRel a b _ ha hb).mono ?_
  rintro e w2 ⟨rfl, HB2⟩
  go_wp2_with fail
  refine (pWithin a b _ (by omega) (by omega)).mono ?_
  rintro e w3 ⟨rfl, HB3⟩
  go_wp2_with fail
  refine (rWithin a b _ (by omega) (by omega)).mono ?_
  rintro e w4 ⟨rfl, HB4⟩
  have h2 := HB1.trans (HB2.mono HB1.size)
  have h3 := h2.trans (HB3.mono h2.size)
  have h4 := h3.trans (HB4.mono h3.size)
  clear HB1 HB2 HB3 HB4 h2 h3
  go_wp2_with fail
  refine (lives_walk _).mono ?_
  rintro e w5 ⟨rfl, HB⟩
  go_wp2
  go_ret
  exact ⟨rfl, h4.trans (HB.mono h4.size)⟩
theorem some_wt (xs : List (List UInt8)) : wt (Pa.some' xs) ≤ wt xs := by
  induction xs with
  | nil => exact Nat.le_refl _
  | cons x r ih =>
    have h1 : wt (x :: r) = wt [x] + wt r := wt_app [x] r
    by_cases h : x = []
    · have : Pa.some' (x :: r) = Pa.some' r := by simp [Pa.some', h]
      rw [this]; omega
    · have : Pa.some' (x :: r) = [x] ++ Pa.some' r := by simp [Pa.some', h]
      rw [this, wt_app]; omega
set_option maxRecDepth 100000 in
set_option maxHeartbeats 2000000 in
theorem cleans_walk (l : List UInt8) (xs : List (List UInt8)) (a : Option Addr) (c : Nat) (w : World) (hl : l.length ≤ 2 ^ 48) (hS : Strs w a xs) (hn : xs.length ≤ 2 ^ 48) (hx : ∀ x ∈ xs, x.length ≤ 2 ^ 48) :
    Calls Tryd.prog 4 #[.string ⟨l.toArray⟩, .slice a xs.length c] w fun e w' => e = .returned (.bool true) ∧ Below w.heap.size w w' := by
  have HS : Hid (Strs w a xs) := hS
  have HX : Hid (∀ x ∈ xs, x.length ≤ 2 ^ 48) := hx
  clear hS hx
  go_enter Tryd.func4, Tryd.ntmps4
  go_wp2
  go_loop [5, 12] (fun n i => ∃ (k m : Nat), k ≤ xs.length ∧ i = .int .i64 k ∧ n = .int .i64 m ∧ Hid (m = l.length + wt (xs.take k)) ∧ (m ≤ 5000 ∨ k = 0)) (fun _ i => xs.length - (intOf i).toNat)
  case atStart => exact ⟨0, l.length, Nat.zero_le _, rfl, rfl, by show _ = _; simp [wt], .inr rfl⟩
  case round =>
    obtain ⟨k, m, hk, rfl, rfl, HM, hor⟩ := hrel
    have hm : m ≤ 2 ^ 49 := by
      rcases hor with h | h
      · omega
      · have := HM.out; rw [h] at this; simp [wt] at this; omega
    by_cases hlt : k < xs.length
    · have HT : Hid (wt (xs.take (k + 1)) = wt (xs.take k) + (xs[k].length + 1)) := by show _ = _; rw [take_getL xs k hlt, wt_app, wt_one]
      have hxk : xs[k].length ≤ 2 ^ 48 := HX.out _ (List.getElem_mem _)
      obtain ⟨bk, o, rfl, hb, hcell⟩ := HS.out k xs[k] (List.getElem?_eq_getElem hlt)
      generalize xs[k] = x at *
      by_cases hbig : 5000 < m + (x.length + 1)
      · have hb' : decide ((5000 : Int) < (m : Int) + ((x.length : Int) + 1)) = true := by simp; omega
        go_wp2_with (go_at_call 14; refine (lives_walk _).mono ?_; rintro e w5 ⟨rfl, HB⟩)
        go_ret
        exact ⟨rfl, HB⟩
      · have hb' : decide ((5000 : Int) < (m : Int) + ((x.length : Int) + 1)) = false := by simp; omega
        go_wp2
        exact ⟨⟨k + 1, m + (x.length + 1), by omega, by go_num, by go_num, by show _ = _; rw [HT.out, HM.out]; omega, .inl (by omega)⟩, by simp [intOf]; omega⟩
    · have HK : Hid (xs.take k = xs) := List.take_of_length_le (by omega)
      by_cases hbig : 5000 < m
      · have hb' : decide ((5000 : Int) < (m : Int)) = true := by simp; omega
        go_wp2_with (go_at_call 14; refine (lives_walk _).mono ?_; rintro e w5 ⟨rfl, HB⟩)
        go_ret
        exact ⟨rfl, HB⟩
      · have hb' : decide ((5000 : Int) < (m : Int)) = false := by simp; omega
        have hls : l.length + wt xs ≤ 5000 := by have := HM.out; rw [HK.out] at this; omega
        have h1 := len_wt xs
        have h2 := jn_wt (Pa.some' xs)
        have h3 := some_wt xs
        go_wp2_with fail
        refine (pClean l _ (by omega)).mono ?_
        rintro e w1 ⟨rfl, HB1⟩
        go_wp2_with fail
        refine (rCleanS l _ (by omega)).mono ?_
        rintro e w2 ⟨rfl, HB2⟩
        have g2 := HB1.trans (HB2.mono HB1.size)
        have S2 : Strs w2 a xs := HS.out.grow g2
        clear HB1 HB2
        go_wp2_with fail
        refine (pJoin xs a c _ S2 (by omega) (by omega)).mono ?_
        rintro e w3 ⟨rfl, HB3⟩
        have S3 : Strs w3 a xs := S2.grow HB3
        go_wp2_with fail
        refine (rJoin xs a c _ S3 (by omega) (by omega)).mono ?_
        rintro e w4 ⟨rfl, HB4⟩
        have g3 := g2.trans (HB3.mono g2.size)
        have g4 := g3.trans (HB4.mono g3.size)
        clear HB3 HB4 g2 g3 S2 S3
        go_wp2_with fail
        refine (lives_walk _).mono ?_
        rintro e w5 ⟨rfl, HB⟩
        go_wp2
        go_ret
        exact ⟨rfl, g4.trans (HB.mono g4.size)⟩
end Go.Proofs.YteggjpogaljafaaDoor
