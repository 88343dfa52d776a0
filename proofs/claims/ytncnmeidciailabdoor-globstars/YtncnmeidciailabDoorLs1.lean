/- The walk of GlobStars. Conditions: the table of names; a number where a library's variable lies. -/
import Derived.Test.YtncnmeidciailabDoorLc0
import Derived.Test.YtncnmeidciailabDoorLd9
namespace Go.Proofs.YtncnmeidciailabDoor
open Go.RowKit
attribute [local go_sem] ext_eq app_eq get_eq
theorem gFar (l : List UInt8) (w : World) : Calls Tryd.prog 5 #[.string ⟨l.toArray⟩] w fun e w' => e = .returned (.bool (decide (4096 < l.length))) ∧ w' = w := by
  have hs : (⟨l.toArray⟩ : ByteArray).size = l.length := str_size l
  by_cases h : 4096 < l.length
  · have h1 : decide ((4096 : Int) < (l.length : Int)) = true := decide_eq_true (by omega)
    have h2 : decide (4096 < l.length) = true := decide_eq_true h
    go_enter Tryd.func5, Tryd.ntmps5
    go_wp2
    go_ret
    exact ⟨by simp [h], rfl⟩
  · have h1 : decide ((4096 : Int) < (l.length : Int)) = false := decide_eq_false (by omega)
    have h2 : decide (4096 < l.length) = false := decide_eq_false h
    go_enter Tryd.func5, Tryd.ntmps5
    go_wp2
    go_ret
    exact ⟨by simp [h], rfl⟩
set_option maxRecDepth 100000 in
set_option maxHeartbeats 2000000 in
theorem stars_near (p a s : List UInt8) (hp : p.length ≤ 4096) (ha : a.length ≤ 4096) (hs : s.length ≤ 4096) (w : World) (hc : CN w) (hm : ML w) : Calls Tryd.prog 3 #[.string ⟨p.toArray⟩, .string ⟨a.toArray⟩, .string ⟨s.toArray⟩] w fun e w' => e = .returned (.bool true) ∧ Below w.heap.size w w' := by
  have hsz : (⟨s.toArray⟩ : ByteArray).size = s.length := str_size s
  have hp' : p.length ≤ 5000 := by omega
  have HF : Hid (∀ l : List UInt8, l.length ≤ 4096 → ∀ W, Calls Tryd.prog 5 #[.string ⟨l.toArray⟩] W fun e w' => e = .returned (.bool false) ∧ w' = W) := fun l h W => by
    have := gFar l W
    rwa [decide_eq_false (by omega)] at this
  have HL := hidA (fun W (b : Below w.heap.size w W) => lives12 W (hc.grow b (Nat.le_refl _)) (hm.grow b (Nat.le_refl _)))
  obtain ⟨mB, hmB⟩ : ∃ mB : List UInt8 → List UInt8 → Bool, ∀ p s, (mB p s = true ↔ Gl.Mt (Gl.flOf 0) s (Gl.pcs (Gl.flOf 0) p) 0) := ⟨fun p s => @decide _ (Classical.propDecidable (Gl.Mt (Gl.flOf 0) s (Gl.pcs (Gl.flOf 0) p) 0)), fun p s => by simp⟩
  have HM : ∀ (p s : List UInt8), p.length ≤ 5000 → s.length ≤ 9000 → ∀ W, Below w.heap.size w W → Calls Tryd.prog 7 #[.string ⟨p.toArray⟩, .string ⟨s.toArray⟩, .int .i64 0] W fun e w' => e = .returned (.bool (mB p s)) ∧ Below W.heap.size W w' := fun p s h1 h2 W hB => by
    refine (gMatchB p s 0 (by omega) (by omega) W (hc.grow hB (Nat.le_refl _))).mono ?_
    rintro e w' ⟨b, rfl, hb, h⟩
    refine ⟨ret_bool ?_, h⟩
    rw [Bool.eq_iff_iff, hb, hmB]
  obtain ⟨ex, hexD⟩ : ∃ ex : Nat → Bool, ∀ i, ex i = (List.range i).any (fun j => mB p (s.drop j)) := ⟨_, fun _ => rfl⟩
  have hex0 : ex 0 = false := by rw [hexD]; rfl
  have hexS : ∀ i, ex (i + 1) = (ex i || mB p (s.drop i)) := fun i => by rw [hexD, hexD, List.range_succ, List.any_append]; simp
  have hex1 : ex (s.length + 1) = mB (42 :: p) s := by
    rw [Bool.eq_iff_iff, hmB, Gl.star_iff rfl rfl, hexD, List.any_eq_true]
    constructor
    · rintro ⟨j, h1, h2⟩
      exact ⟨j, by have := List.mem_range.1 h1; omega, (hmB _ _).1 h2⟩
    · rintro ⟨j, h1, h2⟩
      exact ⟨j, List.mem_range.2 (by omega), (hmB _ _).2 h2⟩
  have H1 := hidA (HM p s hp' (by omega) w (Below.refl _ _))
  have H2 := hidA (fun W h => HM (42 :: p) (a ++ s) (by simp; omega) (by rw [List.length_append]; omega) W h)
  have HE : Hid (mB p s = true → mB (42 :: p) (a ++ s) = true) := fun h => (hmB _ _).2 (Gl.star_end rfl rfl a s p ((hmB _ _).1 h))
  clear hc hm hmB hexD
  cases hm1 : mB p s with
  | false =>
    rw [hm1] at H1
    clear H2 HE
    go_enter Tryd.func3, Tryd.ntmps3
    go_wp2_with (first | (go_at_call 5; first | (with_reducible refine Calls.mono (HF.out p hp _) ?_; rintro e w1 ⟨rfl, hw'⟩; rw [hw']; clear hw' w1) | (with_reducible refine Calls.mono (HF.out a ha _) ?_; rintro e w1 ⟨rfl, hw'⟩; rw [hw']; clear hw' w1) | (with_reducible refine Calls.mono (HF.out s hs _) ?_; rintro e w1 ⟨rfl, hw'⟩; rw [hw']; clear hw' w1)) | (go_at_call 7; with_reducible refine Calls.mono H1.out ?_; rintro e w2 ⟨rfl, b2⟩; (have B2 := hidA b2); clear b2))
    go_loopw [7, 8] (fun s7 s8 W => ∃ (i : Nat), s8 = .int .i64 i ∧ s7 = .bool (ex i) ∧ i ≤ s.length + 1 ∧ Hid (Below w.heap.size w W)) (fun _ s8 _ => s.length + 1 - (intOf s8).toNat)
    case atStart => exact ⟨0, rfl, by rw [hex0], Nat.zero_le _, B2⟩
    case round =>
      obtain ⟨i, rfl, rfl, hi, HB⟩ := hrel
      have hw1 : IntKind.i64.wrap ((i : Int) + 1) = ((i + 1 : Nat) : Int) := by rw [IntKind.wrap_i64]; omega
      by_cases hlt : i ≤ s.length
      · have HX := hidA (hexS i)
        have HMi := hidA (HM p (s.drop i) hp' (by rw [List.length_drop]; omega) wr HB.out)
        generalize mB p (s.drop i) = mi at *
        clear hexS hex0 hex1 HM H1
        cases hxi : ex i with
        | true =>
          rw [hxi] at HX
          go_wp2
          exact ⟨⟨i + 1, by first | rfl | go_num, by rw [HX.out]; rfl, by omega, HB⟩, by simp [intOf]; omega⟩
        | false =>
          rw [hxi] at HX
          go_wp2_with (go_at_call 7; go_loud (refine Calls.mono HMi.out ?_); rintro e w5 ⟨rfl, b5⟩; (have B5 := hidA (bl2 HB.out b5)); clear b5)
          exact ⟨⟨i + 1, by first | rfl | go_num, by rw [HX.out]; simp, by omega, B5⟩, by simp [intOf]; omega⟩
      · obtain rfl : i = s.length + 1 := by omega
        have HMs := hidA (HM (42 :: p) s (by simp; omega) (by omega) wr HB.out)
        rw [← hex1] at HMs
        generalize ex (s.length + 1) = e1 at *
        clear hexS hex0 hex1 HM H1
        have hee : (e1 == e1) = true := by simp
        go_wp2_with (first | (go_at_call 7; go_loud (refine Calls.mono HMs.out ?_); rintro e w6 ⟨rfl, b6⟩; (have B6 := hidA (bl2 HB.out b6)); clear b6) | (go_at_call 6; refine (HL.out _ B6.out).mono ?_; rintro e w7 ⟨rfl, b7⟩))
        go_ret
        exact ⟨rfl, bl2 B6.out b7⟩
  | true =>
    rw [hm1] at H1
    have hE := HE.out hm1
    rw [hE] at H2
    clear HE hE
    go_enter Tryd.func3, Tryd.ntmps3
    go_wp2_with (first | (go_at_call 5; first | (with_reducible refine Calls.mono (HF.out p hp _) ?_; rintro e w1 ⟨rfl, hw'⟩; rw [hw']; clear hw' w1) | (with_reducible refine Calls.mono (HF.out a ha _) ?_; rintro e w1 ⟨rfl, hw'⟩; rw [hw']; clear hw' w1) | (with_reducible refine Calls.mono (HF.out s hs _) ?_; rintro e w1 ⟨rfl, hw'⟩; rw [hw']; clear hw' w1)) | (go_at_call 7; first | (with_reducible refine Calls.mono H1.out ?_; rintro e w2 ⟨rfl, b2⟩; (have B1 := hidA b2); clear b2) | (go_loud (refine Calls.mono (H2.out _ B1.out) ?_); rintro e w3 ⟨rfl, b3⟩; (have B2 := hidA (bl2 B1.out b3)); clear b3)))
    go_loopw [7, 8] (fun s7 s8 W => ∃ (i : Nat), s8 = .int .i64 i ∧ s7 = .bool (ex i) ∧ i ≤ s.length + 1 ∧ Hid (Below w.heap.size w W)) (fun _ s8 _ => s.length + 1 - (intOf s8).toNat)
    case atStart => exact ⟨0, rfl, by rw [hex0], Nat.zero_le _, B2⟩
    case round =>
      obtain ⟨i, rfl, rfl, hi, HB⟩ := hrel
      have hw1 : IntKind.i64.wrap ((i : Int) + 1) = ((i + 1 : Nat) : Int) := by rw [IntKind.wrap_i64]; omega
      by_cases hlt : i ≤ s.length
      · have HX := hidA (hexS i)
        have HMi := hidA (HM p (s.drop i) hp' (by rw [List.length_drop]; omega) wr HB.out)
        generalize mB p (s.drop i) = mi at *
        clear hexS hex0 hex1 HM H1 H2
        cases hxi : ex i with
        | true =>
          rw [hxi] at HX
          go_wp2
          exact ⟨⟨i + 1, by first | rfl | go_num, by rw [HX.out]; rfl, by omega, HB⟩, by simp [intOf]; omega⟩
        | false =>
          rw [hxi] at HX
          go_wp2_with (go_at_call 7; go_loud (refine Calls.mono HMi.out ?_); rintro e w5 ⟨rfl, b5⟩; (have B5 := hidA (bl2 HB.out b5)); clear b5)
          exact ⟨⟨i + 1, by first | rfl | go_num, by rw [HX.out]; simp, by omega, B5⟩, by simp [intOf]; omega⟩
      · obtain rfl : i = s.length + 1 := by omega
        have HMs := hidA (HM (42 :: p) s (by simp; omega) (by omega) wr HB.out)
        rw [← hex1] at HMs
        generalize ex (s.length + 1) = e1 at *
        clear hexS hex0 hex1 HM H1 H2
        have hee : (e1 == e1) = true := by simp
        go_wp2_with (first | (go_at_call 7; go_loud (refine Calls.mono HMs.out ?_); rintro e w6 ⟨rfl, b6⟩; (have B6 := hidA (bl2 HB.out b6)); clear b6) | (go_at_call 6; refine (HL.out _ B6.out).mono ?_; rintro e w7 ⟨rfl, b7⟩))
        go_ret
        exact ⟨rfl, bl2 B6.out b7⟩
set_option maxRecDepth 100000 in
set_option maxHeartbeats 1000000 in
theorem stars_walk (p a s : List UInt8) (w : World) (hc : CN w) (hm : ML w) : Calls Tryd.prog 3 #[.string ⟨p.toArray⟩, .string ⟨a.toArray⟩, .string ⟨s.toArray⟩] w fun e w' => e = .returned (.bool true) ∧ Below w.heap.size w w' := by
  by_cases h1 : 4096 < p.length
  · have HF := hidA (gFar p w)
    rw [decide_eq_true h1] at HF
    have HL := hidA (lives12 w hc hm)
    clear hc hm h1
    go_enter Tryd.func3, Tryd.ntmps3
    go_wp2_with (first | (go_at_call 5; refine HF.out.mono ?_; rintro e w1 ⟨rfl, hw'⟩; rw [hw']; clear hw' w1) | (go_at_call 6; refine HL.out.mono ?_; rintro e w2 ⟨rfl, b2⟩))
    go_ret
    exact ⟨rfl, b2⟩
  by_cases h2 : 4096 < a.length
  · have HF := hidA (gFar p w)
    rw [decide_eq_false h1] at HF
    have HF2 := hidA (gFar a w)
    rw [decide_eq_true h2] at HF2
    have HL := hidA (lives12 w hc hm)
    clear hc hm h1 h2
    go_enter Tryd.func3, Tryd.ntmps3
    go_wp2_with (first | (go_at_call 5; first | (with_reducible refine Calls.mono HF.out ?_; rintro e w1 ⟨rfl, hw'⟩; rw [hw']; clear hw' w1 HF) | (with_reducible refine Calls.mono HF2.out ?_; rintro e w1 ⟨rfl, hw'⟩; rw [hw']; clear hw' w1)) | (go_at_call 6; refine HL.out.mono ?_; rintro e w2 ⟨rfl, b2⟩))
    go_ret
    exact ⟨rfl, b2⟩
  by_cases h3 : 4096 < s.length
  · have HF := hidA (gFar p w)
    rw [decide_eq_false h1] at HF
    have HF2 := hidA (gFar a w)
    rw [decide_eq_false h2] at HF2
    have HF3 := hidA (gFar s w)
    rw [decide_eq_true h3] at HF3
    have HL := hidA (lives12 w hc hm)
    clear hc hm h1 h2 h3
    go_enter Tryd.func3, Tryd.ntmps3
    go_wp2_with (first | (go_at_call 5; first | (with_reducible refine Calls.mono HF.out ?_; rintro e w1 ⟨rfl, hw'⟩; rw [hw']; clear hw' w1 HF) | (with_reducible refine Calls.mono HF2.out ?_; rintro e w1 ⟨rfl, hw'⟩; rw [hw']; clear hw' w1 HF2) | (with_reducible refine Calls.mono HF3.out ?_; rintro e w1 ⟨rfl, hw'⟩; rw [hw']; clear hw' w1)) | (go_at_call 6; refine HL.out.mono ?_; rintro e w2 ⟨rfl, b2⟩))
    go_ret
    exact ⟨rfl, b2⟩
  exact stars_near p a s (by omega) (by omega) (by omega) w hc hm
end Go.Proofs.YtncnmeidciailabDoor
