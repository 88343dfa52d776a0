/- The walk of GetoptParses (the nil list). Conditions: the list's cells are as said; lengths that fit. -/
import Derived.Test.YtgbkgfmljcfhoaaGe3
namespace Go.Proofs.Ytgbkgfmljcfhoaa
open Go.RowKit
theorem rTexts0 (a b : Option Addr) (c d : Nat) (w : World) (hx : Strs w a []) (hy : Strs w b []) (hlx : ([] : List (List UInt8)).length ≤ 2 ^ 60) :
    Calls Try.prog 11 #[.slice a 0 c, .slice b 0 d] w fun e w' => e = .returned (.bool true) ∧ ∃ m, w' = w.drewN m := rTexts [] [] a b c d w hx hy hlx
set_option maxRecDepth 100000 in
set_option maxHeartbeats 3000000 in
theorem parses_none (spec : List UInt8) (w : World) (hs : spec.length ≤ 2 ^ 47) :
    Calls Try.prog 3 #[.string ⟨spec.toArray⟩, .slice none 0 0] w fun e W => e = .returned (.bool true) ∧ Below w.heap.size w W := by
  obtain ⟨args, hargs⟩ : ∃ args : List (List UInt8), args = [] := ⟨_, rfl⟩
  have hM30 : wt args ≤ 2 ^ 30 := by rw [hargs]; simp [wt]
  obtain ⟨i0, hi, hz0, hz1, hz2⟩ := infoS
  have hM : wt args ≤ 2 ^ 40 := by omega
  have hrr := resR_len (spec := spec) (args := args)
  have hal0 := wt_len args
  have hal : args.length ≤ 2 ^ 60 := by omega
  obtain ⟨R, hR⟩ : ∃ R, R = parseR spec args := ⟨_, rfl⟩
  rw [← hR] at hrr
  have HRR : Hid (parseR spec args = R) := hR.symm
  have hrl : (resR R).length ≤ 2 ^ 60 := by omega
  have hol : (resO R).length ≤ 2 ^ 60 := by omega
  subst hargs
  have HSa : Hid (Strs w none []) := Strs.nil _ _
  have hc : ([] : List (List UInt8)).length ≤ 0 := Nat.zero_le _
  have hm : 0 < 2 ^ 63 := by decide
  clear hR hrr
  have HO0 := own_empty w 9
  have HO0 : Hid ((w.alloc (.cells #[] 9)).ownsRow w.heap.size 9 1 (.slice (some ⟨w.heap.size, 0, none⟩) 0 0) 0 []) := HO0
  have HB1 : Hid (Below w.heap.size w (w.alloc (.cells #[] 9))) := (Below.refl _ _).alloc (Nat.le_refl _) _
  have HS1 : Hid (Strs (w.alloc (.cells #[] 9)) (some ⟨w.heap.size, 0, none⟩) []) := Strs.nil _ _
  have HA1 : Hid (∀ b, (some (⟨w.heap.size, 0, none⟩ : Addr)).map (·.block) = some b → b < (w.alloc (.cells #[] 9)).heap.size) := fun b hb => by simp at hb; simp; omega
  have hc1 : ([] : List (List UInt8)).length ≤ 0 := Nat.zero_le _
  have hm1 : 0 < 2 ^ 63 := by decide
  go_enter Try.func3, Try.ntmps3
  go_wp2_with (at_builtin; refine wpList_append_own_none rfl _ _ 22 rfl w.heap.size 9 i0 1 Try.underlying22 hi _ _ _ rfl HO0.out rfl ?_)
  go_wp2_with (go_at_call 8; refine (gParse spec ([] : List (List UInt8)) (some ⟨w.heap.size, 0, none⟩) 0 _ hs HS1.out hc1 hm1 hM).mono ?_)
  rintro e w2 ⟨hO2, hB2⟩
  rw [HRR.out] at hO2
  obtain ⟨ao, ar, co, cr, rfl, hOp2, hSt2, hOw2, _⟩ := hO2.any
  have hz2 := hB2.size
  have HB2 : Hid (Below w.heap.size w w2) := HB1.out.trans (hB2.mono HB1.out.size)
  have HS12 : Hid (Strs w2 (some ⟨w.heap.size, 0, none⟩) ([] : List (List UInt8))) := HS1.out.grow hB2
  have HOp2 : Hid (Opts w2 ao (resO R)) := hOp2
  have HSt2 : Hid (Strs w2 ar (resR R)) := hSt2
  have HOw2 : Hid (w2.ownsRow (w.alloc (.cells #[] 9)).heap.size 9 1 (.slice ar (resR R).length cr) (resR R).length ((resR R).map sv)) := hOw2
  clear hO2 hB2 hOp2 hSt2 hOw2
  have HAl : Hid (∀ ob, Below w2.heap.size w2 (w2.alloc ob)) := fun ob => (Below.refl _ _).alloc (Nat.le_refl _) _
  go_wp2_with (go_at_call 9; refine (rParse spec ([] : List (List UInt8)) _ 0 _ hs ((HSa.out.grow HB2.out).grow (HAl.out _)) hc hm hM).mono ?_)
  rintro e w3 ⟨hO3, hB3⟩
  rw [HRR.out] at hO3
  obtain ⟨xo, yr, xc, yc, rfl, hOp3, hSt3, hOw3, _⟩ := hO3.any
  have hB3' : Below w2.heap.size w2 w3 := (HAl.out _).trans (hB3.mono (by simp))
  have e0 : w3.cell? ⟨w2.heap.size, 0, none⟩ = some (.string ⟨(resN R).toArray⟩) := (hB3.cell (p := ⟨w2.heap.size, 0, none⟩) (by simp)).trans (World.cell?_alloc_at _ _ _ _ rfl)
  have e1 : w3.cell? ⟨w2.heap.size, 1, none⟩ = some (.bool (resM R)) := (hB3.cell (p := ⟨w2.heap.size, 1, none⟩) (by simp)).trans (World.cell?_alloc_at _ _ _ _ rfl)
  have hz3 : w2.heap.size < w3.heap.size := by have := hB3.size; simp at this; omega
  have hyb : ∀ b, yr.map (·.block) = some b → w2.heap.size < b := by
    intro b hb
    cases yr with
    | none => simp at hb
    | some y9 =>
      simp at hb
      have := (hOw3.lt b (by simp [Value.ownBlock, hb])).1
      simp at this
      omega
  have HYB : Hid (∀ b, yr.map (·.block) = some b → w2.heap.size < b) := hyb
  have HF3 : Hid (∀ V, Below w3.heap.size w3 V → Opts V ao (resO R) ∧ Strs V ar (resR R) ∧ Opts V xo (resO R) ∧ Strs V yr (resR R) ∧ Strs V (some ⟨w.heap.size, 0, none⟩) ([] : List (List UInt8)) ∧ Strs V none ([] : List (List UInt8)) ∧ Below w.heap.size w V ∧ V.ownsRow (w.alloc (.cells #[] 9)).heap.size 9 1 (.slice ar (resR R).length cr) (resR R).length ((resR R).map sv)) := fun V hV => by
    have h1 : Below w2.heap.size w2 V := hB3'.trans (hV.mono hB3'.size)
    have h2 := HB2.out.trans (h1.mono HB2.out.size)
    exact ⟨HOp2.out.grow h1, HSt2.out.grow h1, hOp3.grow hV, hSt3.grow hV, HS12.out.grow h1, HSa.out.grow h2, h2, own_grow HOw2.out h1⟩
  clear hO3 hB3 hB3' hOp3 hSt3 hOw3 hyb
  have hg := egB
  have hb := neqB (resN R) (resN R) (resM R) (resM R)
  rw [decide_eq_true (rfl : (resN R, resM R) = (resN R, resM R))] at hb
  have HA3 : Hid (∀ ob, Below w3.heap.size w3 (w3.alloc ob)) := fun ob => (Below.refl _ _).alloc (Nat.le_refl _) _
  generalize resC R = code at *
  go_wp2_with (first
    | (go_at_call 10; go_loud (with_reducible refine Calls.mono (rSame (resO R) (resO R) _ _ _ _ _ (HF3.out _ (HA3.out _)).1 (HF3.out _ (HA3.out _)).2.2.1 hol) ?_); go_loud (rintro e w9 ⟨rfl, m9, hw9⟩); go_loud (rw [hw9, decide_eq_true (rfl : resO R = resO R)]); go_loud (clear hw9 w9))
    | (go_at_call 11; go_loud (with_reducible refine Calls.mono (rTexts (resR R) (resR R) _ _ _ _ _ (HF3.out _ (below_drewN (HA3.out _) _)).2.1 (HF3.out _ (below_drewN (HA3.out _) _)).2.2.2.1 hrl) ?_); go_loud (rintro e w9 ⟨rfl, m10, hw9⟩); go_loud (rw [hw9, decide_eq_true (rfl : resR R = resR R)]); go_loud (clear hw9 w9))
    | (go_at_call 11; go_loud (with_reducible refine Calls.mono (rTexts0 _ _ _ _ _ (HF3.out _ (below_drewN (HA3.out _) _)).2.2.2.2.1 (HF3.out _ (below_drewN (HA3.out _) _)).2.2.2.2.2.1 hal) ?_); go_loud (rintro e w9 ⟨rfl, m11, hw9⟩); go_loud (have HW9 : Hid (Below w3.heap.size w3 w9) := (by rw [hw9]; exact below_drewN (below_drewN (HA3.out _) _) _)); go_loud (skip); go_loud (clear hw9)))
  obtain ⟨_, _, _, hSy9, hS19, _, hBw9, hOw9⟩ := HF3.out _ HW9.out
  have HSy9 : Hid (Strs w9 yr (resR R)) := hSy9
  have HS19 : Hid (Strs w9 (some ⟨w.heap.size, 0, none⟩) ([] : List (List UInt8))) := hS19
  have HB9 : Hid (Below w.heap.size w w9) := hBw9
  rcases hOw9.2 with ⟨h1, h2⟩ | ⟨g, cap, cur, h1, hbg, hgg, hnc, hcm, hcs, _⟩
  · simp only [Value.slice.injEq] at h1
    obtain ⟨rfl, h1b, rfl⟩ := h1
    have hn0 : (resR R).length ≤ 0 := by omega
    clear hSy9 hS19 hBw9 hOw9 h2 h1b
    go_loopw [66] (fun i V => i = .int .i64 0 ∧ V = w9) (fun _ _ => 0)
    case atStart => exact ⟨rfl, rfl⟩
    case round =>
      obtain ⟨rfl, hV⟩ := hrel
      subst hV
      have KS1 : Hid (Strs wr (some ⟨w.heap.size, 0, none⟩) ([] : List (List UInt8))) := HS19
      have KSy : Hid (Strs wr yr (resR R)) := HSy9
      have KB : Hid (Below w.heap.size w wr) := HB9
      go_wp2_with (go_at_call 8; refine (gParse spec ([] : List (List UInt8)) (some ⟨w.heap.size, 0, none⟩) 0 _ hs KS1.out hc1 hm1 hM).mono ?_)
      rintro e w6 ⟨hO6, hB6⟩
      rw [HRR.out] at hO6
      obtain ⟨ao6, ar6, co6, cr6, rfl, hOp6, hSt6, _, _⟩ := hO6.any
      have HB6 : Hid (Below w.heap.size w w6) := KB.out.trans (hB6.mono KB.out.size)
      have HA6 : Hid (∀ ob, Strs (w6.alloc ob) ar6 (resR R) ∧ Strs (w6.alloc ob) yr (resR R) ∧ Below w.heap.size w (w6.alloc ob)) := fun ob => by
        have h1 : Below w6.heap.size w6 (w6.alloc ob) := (Below.refl _ _).alloc (Nat.le_refl _) _
        exact ⟨hSt6.grow h1, (KSy.out.grow hB6).grow h1, HB6.out.trans (h1.mono HB6.out.size)⟩
      clear hO6 hB6 hOp6 hSt6
      go_wp2_with (first
        | (go_at_call 11; go_loud (with_reducible refine Calls.mono (rTexts (resR R) (resR R) _ _ _ _ _ (HA6.out _).1 (HA6.out _).2.1 hrl) ?_); go_loud (rintro e w9 ⟨rfl, m10, hw9⟩); go_loud (rw [hw9, decide_eq_true (rfl : resR R = resR R)]); go_loud (clear hw9 w9))
        | (go_at_call 12; go_loud (refine (lives9 _).mono ?_); go_loud (rintro e w8 ⟨rfl, hB8⟩); go_loud (have HB8 : Hid (Below w.heap.size w w8) := after1 (HA6.out _).2.2 hB8); go_loud (clear hB8)))
      go_ret
      exact ⟨rfl, HB8.out⟩
  · simp only [Value.slice.injEq] at h1
    obtain ⟨rfl, _, rfl⟩ := h1
    have hgl : g < w2.heap.size := (by have := (HOw2.out.lt g rfl).2; exact this)
    have HW0 : Hid (Wr w9 w9 g (resR R).length) := ⟨rfl, rfl, rfl, rfl, fun _ _ => rfl, cur, _, hgg, by omega⟩
    have HKK : Hid (∀ V, Wr w9 V g (resR R).length → Strs V (some ⟨w.heap.size, 0, none⟩) ([] : List (List UInt8)) ∧ Strs V yr (resR R) ∧ Below w.heap.size w V) := fun V hV =>
      ⟨hV.strs HS19.out (fun b hb => by have := (HA1.out b hb); omega), hV.strs HSy9.out (fun b hb => by have := HYB.out b hb; omega), hV.below HB9.out (by have := HB1.out.size; omega)⟩
    clear hSy9 hS19 hBw9 hOw9 hgg hcs hcm
    go_loopw [66] (fun i V => ∃ k : Nat, i = .int .i64 k ∧ k ≤ (resR R).length ∧ Hid (Wr w9 V g (resR R).length)) (fun i _ => (resR R).length - (intOf i).toNat)
    case atStart => exact ⟨0, rfl, Nat.zero_le _, HW0⟩
    case round =>
      obtain ⟨k, rfl, hkl, HWV⟩ := hrel
      by_cases hlt : k < (resR R).length
      · obtain ⟨v0, hc0⟩ := HWV.out.cell k hlt
        have hf0 := HWV.out.frozen k
        go_wp2
        exact ⟨⟨k + 1, by go_num, by omega, HWV.out.set k _⟩, by simp [intOf]; omega⟩
      · obtain ⟨h1, h2, h3⟩ := HKK.out _ HWV.out
        have KS1 : Hid (Strs wr (some ⟨w.heap.size, 0, none⟩) ([] : List (List UInt8))) := h1
        have KSy : Hid (Strs wr yr (resR R)) := h2
        have KB : Hid (Below w.heap.size w wr) := h3
        clear h1 h2 h3
        go_wp2_with (go_at_call 8; refine (gParse spec ([] : List (List UInt8)) (some ⟨w.heap.size, 0, none⟩) 0 _ hs KS1.out hc1 hm1 hM).mono ?_)
        rintro e w6 ⟨hO6, hB6⟩
        rw [HRR.out] at hO6
        obtain ⟨ao6, ar6, co6, cr6, rfl, hOp6, hSt6, _, _⟩ := hO6.any
        have HB6 : Hid (Below w.heap.size w w6) := KB.out.trans (hB6.mono KB.out.size)
        have HA6 : Hid (∀ ob, Strs (w6.alloc ob) ar6 (resR R) ∧ Strs (w6.alloc ob) yr (resR R) ∧ Below w.heap.size w (w6.alloc ob)) := fun ob => by
          have h1 : Below w6.heap.size w6 (w6.alloc ob) := (Below.refl _ _).alloc (Nat.le_refl _) _
          exact ⟨hSt6.grow h1, (KSy.out.grow hB6).grow h1, HB6.out.trans (h1.mono HB6.out.size)⟩
        clear hO6 hB6 hOp6 hSt6
        go_wp2_with (first
          | (go_at_call 11; go_loud (with_reducible refine Calls.mono (rTexts (resR R) (resR R) _ _ _ _ _ (HA6.out _).1 (HA6.out _).2.1 hrl) ?_); go_loud (rintro e w9 ⟨rfl, m10, hw9⟩); go_loud (rw [hw9, decide_eq_true (rfl : resR R = resR R)]); go_loud (clear hw9 w9))
          | (go_at_call 12; go_loud (refine (lives9 _).mono ?_); go_loud (rintro e w8 ⟨rfl, hB8⟩); go_loud (have HB8 : Hid (Below w.heap.size w w8) := after1 (HA6.out _).2.2 hB8); go_loud (clear hB8)))
        go_ret
        exact ⟨rfl, HB8.out⟩
end Go.Proofs.Ytgbkgfmljcfhoaa
