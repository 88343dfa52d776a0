/- The walks of Texts and Same, and of the document's examples. Conditions: the lists' cells are as said; lengths that fit. -/
import Derived.Test.YtgbkgfmljcfhoaaGb0
namespace Go.Proofs.Ytgbkgfmljcfhoaa
open Go.RowKit
attribute [local go_sem] ext_eq app_eq get_eq
theorem list_step {α : Type} [DecidableEq α] (x y : List α) (k : Nat) (hl : x.length = y.length) (h : k < x.length) : (x.take (k + 1) = y.take (k + 1)) ↔ (x.take k = y.take k ∧ x[k] = y[k]'(by omega)) := by
  rw [List.take_succ_eq_append_getElem h, List.take_succ_eq_append_getElem (show k < y.length by omega)]
  constructor
  · intro e
    have := List.append_inj e (by simp; omega)
    exact ⟨this.1, by simpa using this.2⟩
  · rintro ⟨e1, e2⟩
    rw [e1, e2]
set_option maxRecDepth 100000 in
set_option maxHeartbeats 1000000 in
theorem rTexts (x y : List (List UInt8)) (a b : Option Addr) (c d : Nat) (w : World) (hx : Strs w a x) (hy : Strs w b y) (hlx : x.length ≤ 2 ^ 60) :
    Calls Try.prog 11 #[.slice a x.length c, .slice b y.length d] w fun e w' => e = .returned (.bool (decide (x = y))) ∧ ∃ m, w' = w.drewN m := by
  by_cases hl : x.length = y.length
  · have hl' : (((x.length : Int)) != (y.length : Int)) = false := by simp [hl]
    have HX : Hid (Strs w a x) := hx
    have HY : Hid (Strs w b y) := hy
    have HL : Hid (x.length = y.length) := hl
    clear hx hy hl
    go_enter Try.func11, Try.ntmps11
    go_wp2
    go_loopw [13] (fun i W => ∃ k m : Nat, k ≤ x.length ∧ i = .int .i64 k ∧ W = w.drewN m ∧ Hid (x.take k = y.take k)) (fun i _ => x.length - (intOf i).toNat)
    case atStart => exact ⟨0, 0, Nat.zero_le _, rfl, rfl, rfl⟩
    case round =>
      obtain ⟨k, m, hk, rfl, hw, HE⟩ := hrel
      subst hw
      by_cases hlt : k < x.length
      · have hlty : k < y.length := by have := HL.out; omega
        obtain ⟨b1, o1, ha1, hb1, hc1⟩ := HX.out k x[k] (List.getElem?_eq_getElem hlt)
        obtain ⟨b2, o2, ha2, hb2, hc2⟩ := HY.out k y[k] (List.getElem?_eq_getElem hlty)
        subst ha1
        subst ha2
        have HS : Hid ((x.take (k + 1) = y.take (k + 1)) ↔ (x.take k = y.take k ∧ x[k] = y[k])) := list_step x y k HL.out hlt
        by_cases h2 : x[k] = y[k]
        · have h2' : (x[k] == y[k]) = true := by simpa using h2
          have HN : Hid (x.take (k + 1) = y.take (k + 1)) := HS.out.2 ⟨HE.out, h2⟩
          clear h2
          go_wp2_with (go_quiet (fail))
          exact ⟨⟨k + 1, _, by omega, by go_num, by first | rfl | exact World.drewN_drewN _ _ _, HN⟩, by simp [intOf]; omega⟩
        · have h2' : (x[k] == y[k]) = false := by simpa using h2
          have HN : Hid (¬ x = y) := fun e => h2 (by simp [e])
          clear h2
          go_wp2_with (go_quiet (fail))
          go_ret
          exact ⟨ret_bool (by rw [decide_eq_false HN.out]), _, by first | rfl | exact World.drewN_drewN _ _ _⟩
      · have HN : Hid (x = y) := by
          have := HE.out
          rw [List.take_of_length_le (by omega), List.take_of_length_le (by have := HL.out; omega)] at this
          exact this
        go_wp2
        go_ret
        exact ⟨ret_bool (by rw [decide_eq_true HN.out]), _, rfl⟩
  · have hl' : (((x.length : Int)) != (y.length : Int)) = true := by simp; omega
    have HN : Hid (¬ x = y) := fun e => hl (by rw [e])
    clear hl
    go_enter Try.func11, Try.ntmps11
    go_wp2
    go_ret
    exact ⟨ret_bool (by rw [decide_eq_false HN.out]), 0, rfl⟩
/-- The cells behind a slice's address hold these options. -/
def Opts (W : World) (a : Option Addr) (xs : List Ga.Opt) : Prop := ∀ (j : Nat) x, xs[j]? = some x → ∃ bk o, a = some ⟨bk, o, none⟩ ∧ bk < W.heap.size ∧ W.cell? ⟨bk, o + j * 2, none⟩ = some (.string ⟨x.1.toArray⟩) ∧ W.cell? ⟨bk, o + j * 2 + 1, none⟩ = some (.string ⟨x.2.toArray⟩)
theorem Opts.grow {W W' : World} {a : Option Addr} {xs : List Ga.Opt} (h : Opts W a xs) (hB : Below W.heap.size W W') : Opts W' a xs := by
  intro j x hx
  obtain ⟨bk, o, rfl, hlt, h1, h2⟩ := h j x hx
  exact ⟨bk, o, rfl, by have := hB.size; omega, (hB.cell (p := ⟨bk, o + j * 2, none⟩) hlt).trans h1, (hB.cell (p := ⟨bk, o + j * 2 + 1, none⟩) hlt).trans h2⟩
set_option maxRecDepth 100000 in
set_option maxHeartbeats 1000000 in
theorem rSame (x y : List Ga.Opt) (a b : Option Addr) (c d : Nat) (w : World) (hx : Opts w a x) (hy : Opts w b y) (hlx : x.length ≤ 2 ^ 60) :
    Calls Try.prog 10 #[.slice a x.length c, .slice b y.length d] w fun e w' => e = .returned (.bool (decide (x = y))) ∧ ∃ m, w' = w.drewN m := by
  by_cases hl : x.length = y.length
  · have hl' : (((x.length : Int)) != (y.length : Int)) = false := by simp [hl]
    have HX : Hid (Opts w a x) := hx
    have HY : Hid (Opts w b y) := hy
    have HL : Hid (x.length = y.length) := hl
    clear hx hy hl
    go_enter Try.func10, Try.ntmps10
    go_wp2
    go_loopw [13] (fun i W => ∃ k m : Nat, k ≤ x.length ∧ i = .int .i64 k ∧ W = w.drewN m ∧ Hid (x.take k = y.take k)) (fun i _ => x.length - (intOf i).toNat)
    case atStart => exact ⟨0, 0, Nat.zero_le _, rfl, rfl, rfl⟩
    case round =>
      obtain ⟨k, m, hk, rfl, hw, HE⟩ := hrel
      subst hw
      by_cases hlt : k < x.length
      · have hlty : k < y.length := by have := HL.out; omega
        obtain ⟨b1, o1, ha1, hb1, hc1, hd1⟩ := HX.out k x[k] (List.getElem?_eq_getElem hlt)
        obtain ⟨b2, o2, ha2, hb2, hc2, hd2⟩ := HY.out k y[k] (List.getElem?_eq_getElem hlty)
        subst ha1
        subst ha2
        have HS : Hid ((x.take (k + 1) = y.take (k + 1)) ↔ (x.take k = y.take k ∧ x[k] = y[k])) := list_step x y k HL.out hlt
        have HN' : Hid (¬ x[k] = y[k] → ¬ x = y) := fun h2 e => h2 (by simp [e])
        generalize x[k] = p at *
        generalize y[k] = q at *
        obtain ⟨p1, p2⟩ := p
        obtain ⟨q1, q2⟩ := q
        dsimp only at hc1 hd1 hc2 hd2
        have hg := egO
        have hb := neqO p1 p2 q1 q2
        by_cases h2 : (p1, p2) = (q1, q2)
        · rw [decide_eq_true h2] at hb
          have HN : Hid (x.take (k + 1) = y.take (k + 1)) := HS.out.2 ⟨HE.out, h2⟩
          clear h2
          go_wp2_with (go_quiet (fail))
          exact ⟨⟨k + 1, _, by omega, by go_num, by first | rfl | exact World.drewN_drewN _ _ _, HN⟩, by simp [intOf]; omega⟩
        · rw [decide_eq_false h2] at hb
          have HN : Hid (¬ x = y) := HN'.out h2
          clear h2
          go_wp2_with (go_quiet (fail))
          go_ret
          exact ⟨ret_bool (by rw [decide_eq_false HN.out]), _, by first | rfl | exact World.drewN_drewN _ _ _⟩
      · have HN : Hid (x = y) := by
          have := HE.out
          rw [List.take_of_length_le (by omega), List.take_of_length_le (by have := HL.out; omega)] at this
          exact this
        go_wp2
        go_ret
        exact ⟨ret_bool (by rw [decide_eq_true HN.out]), _, rfl⟩
  · have hl' : (((x.length : Int)) != (y.length : Int)) = true := by simp; omega
    have HN : Hid (¬ x = y) := fun e => hl (by rw [e])
    clear hl
    go_enter Try.func10, Try.ntmps10
    go_wp2
    go_ret
    exact ⟨ret_bool (by rw [decide_eq_false HN.out]), 0, rfl⟩
end Go.Proofs.Ytgbkgfmljcfhoaa
