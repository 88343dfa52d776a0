/- What the document's answer is not asked for: the walk of PathBack. Conditions: lengths that fit. -/
import Derived.Test.YteggjpogaljafaaDoorPc1
import Derived.Test.YteggjpogaljafaaDoorPc3
import Derived.Test.YteggjpogaljafaaDoorPa10
namespace Go.Proofs.YteggjpogaljafaaDoor
open Go.RowKit
attribute [local go_sem] ext_eq app_eq get_eq toL_eq
/-- Two texts in a new block, as a list. -/
theorem some_wt2 (xs : List (List UInt8)) : wt (Pa.some' xs) ≤ wt xs := by
  induction xs with
  | nil => exact Nat.le_refl _
  | cons x r ih =>
    have h1 : wt (x :: r) = wt [x] + wt r := wt_app [x] r
    by_cases h : x = []
    · have : Pa.some' (x :: r) = Pa.some' r := by simp [Pa.some', h]
      rw [this]; omega
    · have : Pa.some' (x :: r) = [x] ++ Pa.some' r := by simp [Pa.some', h]
      rw [this, wt_app]; omega
theorem two_strs (W : World) (a b : List UInt8) : Strs (W.alloc (.cells #[.string ⟨a.toArray⟩, .string ⟨b.toArray⟩] 9)) (some ⟨W.heap.size, 0, none⟩) [a, b] := by
  intro j x hx
  match j, hx with
  | 0, hx => cases hx; exact ⟨W.heap.size, 0, rfl, by simp, by simp⟩
  | 1, hx => cases hx; exact ⟨W.heap.size, 0, rfl, by simp, by simp⟩
  | k + 2, hx => simp at hx
theorem pJoin2 (a b : List UInt8) (c : Nat) (w : World) (h : a.length + b.length ≤ 2 ^ 38) : Calls Tryd.prog 17 #[.slice (some ⟨w.heap.size, 0, none⟩) 2 c] (w.alloc (.cells #[.string ⟨a.toArray⟩, .string ⟨b.toArray⟩] 9)) fun e w' => e = .returned (.string ⟨(Pa.join [a, b]).toArray⟩) ∧ Below w.heap.size w w' := by
  have h1 := jn_wt (Pa.some' [a, b])
  have h2 := some_wt2 [a, b]
  have h3 : wt [a, b] = a.length + b.length + 2 := by simp [wt]
  refine (pJoin [a, b] _ c _ (two_strs w a b) (by simp) (by omega)).mono ?_
  rintro e w' ⟨rfl, hB⟩
  exact ⟨rfl, ((Below.refl w.heap.size w).alloc (Nat.le_refl _) _).trans (hB.mono (by simp))⟩
theorem clean_len (l : List UInt8) : (Pa.clean l).length ≤ l.length + 3 := by
  have h1 := strg_le (Pa.absB l) (Pa.lft l) false
  have h2 := jn_wt (Pa.lft l)
  have h3 := wt_lft l
  show (Pa.strg _ _ _).length ≤ _
  omega
theorem rel_len (s t : List UInt8) : (Pa.relS s t).length ≤ 3 * s.length + t.length + 9 := by
  rw [Pa.relS]
  split
  · have h1 := strg_le false (Pa.relN (Pa.lft s) (Pa.lft t)) false
    have h2 := jn_wt (Pa.relN (Pa.lft s) (Pa.lft t))
    have h3 := jn_rep ((Pa.lft s).length - Pa.com (Pa.lft s) (Pa.lft t)) ((Pa.lft t).drop (Pa.com (Pa.lft s) (Pa.lft t)))
    have h4 := wt_drop (Pa.com (Pa.lft s) (Pa.lft t)) (Pa.lft t)
    have h5 := wt_lft t
    have h6 := len_wt (Pa.lft s)
    have h7 := wt_lft s
    rw [← Pa.relN] at h3
    omega
  · simp
theorem dir_len (l : List UInt8) : (Pa.dir l).length ≤ l.length + 1 := by
  have h1 := trim_len l 47
  have h2 := trim_len ((Lib.trimRightB l 47).take (lastL (Lib.trimRightB l 47))) 47
  have h3 : ((Lib.trimRightB l 47).take (lastL (Lib.trimRightB l 47))).length ≤ (Lib.trimRightB l 47).length := by simp; omega
  unfold Pa.dir
  repeat' split
  all_goals (simp <;> omega)
theorem base_len (l : List UInt8) : (Pa.base l []).length ≤ l.length + 1 := by
  have h1 := trim_len l 47
  unfold Pa.base
  repeat' split
  all_goals (simp <;> omega)
theorem join_len (a b : List UInt8) : (Pa.join [a, b]).length ≤ a.length + b.length + 5 := by
  rw [Pa.join]
  split
  · simp
  · have h1 := clean_len (Pa.jn (Pa.some' [a, b]))
    have h2 := jn_wt (Pa.some' [a, b])
    have h3 := some_wt2 [a, b]
    have h4 : wt [a, b] = a.length + b.length + 2 := by simp [wt]
    omega
set_option maxRecDepth 100000 in
set_option maxHeartbeats 1000000 in
theorem back_walk (s t : List UInt8) (w : World) (ha : s.length ≤ 2 ^ 30) (hb : t.length ≤ 2 ^ 30) : Calls Tryd.prog 7 #[.string ⟨s.toArray⟩, .string ⟨t.toArray⟩] w fun e w' => e = .returned (.bool true) ∧ Below w.heap.size w w' := by
  have l1 := clean_len s
  have l2 := rel_len s t
  have l3 := dir_len s
  have l4 := base_len s
  have l5 := join_len (Pa.clean s) (Pa.relS s t)
  have l6 := join_len (Pa.clean s) [120]
  have l7 : ([120] : List UInt8).length = 1 := rfl
  have HCs : Hid (∀ w, Calls Tryd.prog 15 #[.string ⟨s.toArray⟩] w fun e w' => e = .returned (.string ⟨(Pa.clean s).toArray⟩) ∧ Below w.heap.size w w') := fun w => pClean s w (by omega)
  have HCt : Hid (∀ w, Calls Tryd.prog 15 #[.string ⟨t.toArray⟩] w fun e w' => e = .returned (.string ⟨(Pa.clean t).toArray⟩) ∧ Below w.heap.size w w') := fun w => pClean t w (by omega)
  have HCc : Hid (∀ w, Calls Tryd.prog 15 #[.string ⟨(Pa.clean s).toArray⟩] w fun e w' => e = .returned (.string ⟨(Pa.clean s).toArray⟩) ∧ Below w.heap.size w w') := fun w => by
    have h := pClean (Pa.clean s) w (by omega)
    rw [Pa.clean_clean] at h
    exact h
  have HRl : Hid (∀ w, Calls Tryd.prog 23 #[.string ⟨s.toArray⟩, .string ⟨t.toArray⟩] w fun e w' => e = .returned (.tuple #[.string ⟨(Pa.relS s t).toArray⟩, .bool (Pa.relOk s t)]) ∧ Below w.heap.size w w') := fun w => pRel s t w (by omega) (by omega)
  obtain ⟨J1, HJ1⟩ : ∃ J1, Hid (Pa.join [Pa.clean s, Pa.relS s t] = J1) := ⟨_, rfl⟩
  obtain ⟨J2, HJ2⟩ : ∃ J2, Hid (Pa.join [Pa.clean s, [120]] = J2) := ⟨_, rfl⟩
  have HJr : Hid (∀ (c : Nat) (w : World), Calls Tryd.prog 17 #[.slice (some ⟨w.heap.size, 0, none⟩) 2 c] (w.alloc (.cells #[.string ⟨(Pa.clean s).toArray⟩, .string ⟨(Pa.relS s t).toArray⟩] 9)) fun e w' => e = .returned (.string ⟨J1.toArray⟩) ∧ Below w.heap.size w w') := fun c w => by
    have h := pJoin2 (Pa.clean s) (Pa.relS s t) c w (by omega)
    rw [HJ1.out] at h
    exact h
  have HJx : Hid (∀ (c : Nat) (w : World), Calls Tryd.prog 17 #[.slice (some ⟨w.heap.size, 0, none⟩) 2 c] (w.alloc (.cells #[.string ⟨(Pa.clean s).toArray⟩, .string ⟨#[120]⟩] 9)) fun e w' => e = .returned (.string ⟨J2.toArray⟩) ∧ Below w.heap.size w w') := fun c w => by
    have h := pJoin2 (Pa.clean s) [120] c w (by omega)
    rw [HJ2.out] at h
    exact h
  have HWx : Hid (∀ w, Calls Tryd.prog 25 #[.string ⟨s.toArray⟩, .string ⟨J2.toArray⟩] w fun e w' => e = .returned (.bool true) ∧ Below w.heap.size w w') := fun w => by
    have h := pWithin s J2 w (by omega) (by rw [HJ2.out] at l6; omega)
    rw [← HJ2.out, Pa.within_x] at h
    rw [← HJ2.out]
    exact h
  rw [HJ1.out] at l5
  clear l6
  go_enter Tryd.func7, Tryd.ntmps7
  go_wp2_with fail
  refine (pSplit s _ (by omega)).mono ?_
  rintro e w1 ⟨v, rfl, hv, hB⟩
  obtain ⟨-, a1, c1, rfl, hc1, HS1, hb1⟩ := own_strs hv
  clear hv
  by_cases hC : Pa.splC s = 0
  · have HG : Hid (Pa.splC (Pa.strg (Pa.splA s) (Pa.splN s) (Pa.splS s)) = 0 ∧ Pa.splN (Pa.strg (Pa.splA s) (Pa.splN s) (Pa.splS s)) = Pa.splN s ∧ Pa.splA (Pa.strg (Pa.splA s) (Pa.splN s) (Pa.splS s)) = Pa.splA s ∧ Pa.splS (Pa.strg (Pa.splA s) (Pa.splN s) (Pa.splS s)) = Pa.splS s) := Pa.split_again s hC
    have w3 := wt_nms s
    have HN : Hid (Pa.splN s = Pa.nms s) := by show _ = _; rw [Pa.splN, if_pos hC]
    have hln := len_wt (Pa.splN s)
    have hjn := jn_wt (Pa.splN s)
    have hln' : (Pa.splN s).length ≤ s.length + 1 := by rw [HN.out] at hln ⊢; omega
    have hjn' : (Pa.jn (Pa.splN s)).length ≤ s.length + 1 := by rw [HN.out] at hjn ⊢; omega
    clear hln hjn w3
    have l8 := strg_le (Pa.splA s) (Pa.splN s) (Pa.splS s)
    rw [hC]
    have HC0 : Hid (Pa.splC s = 0) := hC
    clear hC
    go_wp2_with fail
    refine (pString (Pa.splA s) (Pa.splS s) (Pa.splN s) a1 c1 _ (by exact HS1.grow ((Below.refl _ _).alloc (Nat.le_refl _) _)) (by omega) hc1 (by omega)).mono ?_
    rintro e w2 ⟨rfl, HB2⟩
    have hcl2 := fun o => HB2.cell (p := ⟨w1.heap.size, o, none⟩) (by simp)
    have HB2' : Below w1.heap.size w1 w2 := ((Below.refl w1.heap.size w1).alloc (Nat.le_refl _) _).trans (HB2.mono (by simp))
    have hz2 : w1.heap.size + 1 ≤ w2.heap.size := by have := HB2.size; simpa using this
    obtain ⟨S', hS'⟩ : ∃ S', Pa.strg (Pa.splA s) (Pa.splN s) (Pa.splS s) = S' := ⟨_, rfl⟩
    rw [hS'] at HG l8
    have l8' : S'.length ≤ 2 ^ 40 := by omega
    rw [hS']
    clear hS' l8 HB2
    go_wp2_with fail
    refine (pSplit S' _ l8').mono ?_
    rw [HG.out.1, HG.out.2.1, HG.out.2.2.1, HG.out.2.2.2]
    rintro e w3 ⟨v, rfl, hv, HB3⟩
    obtain ⟨-, a3, c3, rfl, hc3, HS3, hb3⟩ := own_strs hv
    clear hv
    have hcl3 := fun o => (HB3.cell (p := ⟨w1.heap.size, o, none⟩) (by show w1.heap.size < _; omega)).trans (hcl2 o)
    have HB3' : Below w1.heap.size w1 w3 := HB2'.trans (HB3.mono HB2'.size)
    have hz3 : w1.heap.size + 1 ≤ w3.heap.size := by have := HB3.size; omega
    clear hcl2 HB2' hz2 HB3
    have q0 : w3.cell? ⟨w1.heap.size, 0, none⟩ = some (.bool (Pa.splA s)) := (hcl3 0).trans (by simp)
    have q1 : w3.cell? ⟨w1.heap.size, 1, none⟩ = some (.slice a1 (Pa.splN s).length c1) := (hcl3 1).trans (by simp)
    have q2 : w3.cell? ⟨w1.heap.size, 2, none⟩ = some (.bool (Pa.splS s)) := (hcl3 2).trans (by simp)
    have hz4 : w1.heap.size < w3.heap.size := by omega
    have HS13 : Strs w3 a1 (Pa.splN s) := HS1.grow HB3'
    clear hcl3 HS1 hz3
    go_wp2_with fail
    refine (rSame (Pa.splA s) (Pa.splS s) (Pa.splN s) a1 a3 c1 c3 _ (by exact HS13.grow ((Below.refl _ _).alloc (Nat.le_refl _) _)) (by exact HS3.grow ((Below.refl _ _).alloc (Nat.le_refl _) _)) (by omega)).mono ?_
    rintro e w4 ⟨rfl, HB4⟩
    replace hB := (hB.trans (HB3'.mono hB.size)).trans ((((Below.refl w3.heap.size w3).alloc (Nat.le_refl _) (.cells #[.bool (Pa.splA s), .slice a3 (Pa.splN s).length c3, .bool (Pa.splS s)] 24)).trans (HB4.mono (by simp))).mono (by have := hB.size; have := HB3'.size; omega))
    clear HB4 HB3' q0 q1 q2 hz4 HS13 HS3 hb1 hb3 hc1 hc3 HC0 HG HN l8'
    go_wp2_with fail
    refine (HCs.out _).mono ?_
    rintro e w8 ⟨rfl, HB8⟩
    replace hB := hB.trans (HB8.mono hB.size)
    clear HB8
    go_wp2_with fail
    refine (HCc.out _).mono ?_
    rintro e w8 ⟨rfl, HB8⟩
    replace hB := hB.trans (HB8.mono hB.size)
    clear HB8
    by_cases hs0 : s = []
    · have hs1 : s.isEmpty = true := by simp [hs0]
      clear hs0
      go_wp2_with fail
      refine (HRl.out _).mono ?_
      rintro e w8 ⟨rfl, HB8⟩
      replace hB := hB.trans (HB8.mono hB.size)
      clear HB8
      cases hok : Pa.relOk s t
      · have HK : Hid (Pa.relOk s t = false) := hok
        clear hok
        go_wp2_with fail
        refine (HJx.out _ _).mono ?_
        rintro e w9 ⟨rfl, HB9⟩
        replace hB := hB.trans (HB9.mono hB.size)
        clear HB9
        go_wp2_with fail
        refine (HWx.out _).mono ?_
        rintro e w9 ⟨rfl, HB9⟩
        replace hB := hB.trans (HB9.mono hB.size)
        clear HB9
        go_wp2_with fail
        refine (lives_walk _).mono ?_
        rintro e w9 ⟨rfl, HB9⟩
        go_wp2
        go_ret
        exact ⟨rfl, hB.trans (HB9.mono hB.size)⟩
      · have HCj : Hid (∀ w, Calls Tryd.prog 15 #[.string ⟨J1.toArray⟩] w fun e w' => e = .returned (.string ⟨(Pa.clean t).toArray⟩) ∧ Below w.heap.size w w') := fun w => by
          have h := pClean J1 w (by omega)
          rw [← HJ1.out, Pa.rel_leads s t hok] at h
          rw [← HJ1.out]
          exact h
        clear hok
        go_wp2_with fail
        refine (HCs.out _).mono ?_
        rintro e w8 ⟨rfl, HB8⟩
        replace hB := hB.trans (HB8.mono hB.size)
        clear HB8
        go_wp2_with fail
        refine (HJr.out _ _).mono ?_
        rintro e w8 ⟨rfl, HB8⟩
        replace hB := hB.trans (HB8.mono hB.size)
        clear HB8
        go_wp2_with fail
        refine (HCj.out _).mono ?_
        rintro e w8 ⟨rfl, HB8⟩
        replace hB := hB.trans (HB8.mono hB.size)
        clear HB8
        go_wp2_with fail
        refine (HCt.out _).mono ?_
        rintro e w8 ⟨rfl, HB8⟩
        replace hB := hB.trans (HB8.mono hB.size)
        clear HB8
        go_wp2_with fail
        refine (HJx.out _ _).mono ?_
        rintro e w9 ⟨rfl, HB9⟩
        replace hB := hB.trans (HB9.mono hB.size)
        clear HB9
        go_wp2_with fail
        refine (HWx.out _).mono ?_
        rintro e w9 ⟨rfl, HB9⟩
        replace hB := hB.trans (HB9.mono hB.size)
        clear HB9
        go_wp2_with fail
        refine (lives_walk _).mono ?_
        rintro e w9 ⟨rfl, HB9⟩
        go_wp2
        go_ret
        exact ⟨rfl, hB.trans (HB9.mono hB.size)⟩
    · have hs1 : s.isEmpty = false := by simp [hs0]
      have HJd : Hid (∀ (c : Nat) (w : World), Calls Tryd.prog 17 #[.slice (some ⟨w.heap.size, 0, none⟩) 2 c] (w.alloc (.cells #[.string ⟨(Pa.dir s).toArray⟩, .string ⟨(Pa.base s []).toArray⟩] 9)) fun e w' => e = .returned (.string ⟨(Pa.clean s).toArray⟩) ∧ Below w.heap.size w w') := fun c w => by
        have h := pJoin2 (Pa.dir s) (Pa.base s []) c w (by omega)
        rw [Pa.dir_base s hs0] at h
        exact h
      clear hs0
      go_wp2_with fail
      refine (pDir s _ (by omega)).mono ?_
      rintro e w8 ⟨rfl, rfl⟩
      go_wp2_with fail
      refine (pBase s [] _ (by omega)).mono ?_
      rintro e w8 ⟨rfl, rfl⟩
      go_wp2_with fail
      refine (HJd.out _ _).mono ?_
      rintro e w8 ⟨rfl, HB8⟩
      replace hB := hB.trans (HB8.mono hB.size)
      clear HB8
      go_wp2_with fail
      refine (HRl.out _).mono ?_
      rintro e w8 ⟨rfl, HB8⟩
      replace hB := hB.trans (HB8.mono hB.size)
      clear HB8
      cases hok : Pa.relOk s t
      · have HK : Hid (Pa.relOk s t = false) := hok
        clear hok
        go_wp2_with fail
        refine (HJx.out _ _).mono ?_
        rintro e w9 ⟨rfl, HB9⟩
        replace hB := hB.trans (HB9.mono hB.size)
        clear HB9
        go_wp2_with fail
        refine (HWx.out _).mono ?_
        rintro e w9 ⟨rfl, HB9⟩
        replace hB := hB.trans (HB9.mono hB.size)
        clear HB9
        go_wp2_with fail
        refine (lives_walk _).mono ?_
        rintro e w9 ⟨rfl, HB9⟩
        go_wp2
        go_ret
        exact ⟨rfl, hB.trans (HB9.mono hB.size)⟩
      · have HCj : Hid (∀ w, Calls Tryd.prog 15 #[.string ⟨J1.toArray⟩] w fun e w' => e = .returned (.string ⟨(Pa.clean t).toArray⟩) ∧ Below w.heap.size w w') := fun w => by
          have h := pClean J1 w (by omega)
          rw [← HJ1.out, Pa.rel_leads s t hok] at h
          rw [← HJ1.out]
          exact h
        clear hok
        go_wp2_with fail
        refine (HCs.out _).mono ?_
        rintro e w8 ⟨rfl, HB8⟩
        replace hB := hB.trans (HB8.mono hB.size)
        clear HB8
        go_wp2_with fail
        refine (HJr.out _ _).mono ?_
        rintro e w8 ⟨rfl, HB8⟩
        replace hB := hB.trans (HB8.mono hB.size)
        clear HB8
        go_wp2_with fail
        refine (HCj.out _).mono ?_
        rintro e w8 ⟨rfl, HB8⟩
        replace hB := hB.trans (HB8.mono hB.size)
        clear HB8
        go_wp2_with fail
        refine (HCt.out _).mono ?_
        rintro e w8 ⟨rfl, HB8⟩
        replace hB := hB.trans (HB8.mono hB.size)
        clear HB8
        go_wp2_with fail
        refine (HJx.out _ _).mono ?_
        rintro e w9 ⟨rfl, HB9⟩
        replace hB := hB.trans (HB9.mono hB.size)
        clear HB9
        go_wp2_with fail
        refine (HWx.out _).mono ?_
        rintro e w9 ⟨rfl, HB9⟩
        replace hB := hB.trans (HB9.mono hB.size)
        clear HB9
        go_wp2_with fail
        refine (lives_walk _).mono ?_
        rintro e w9 ⟨rfl, HB9⟩
        go_wp2
        go_ret
        exact ⟨rfl, hB.trans (HB9.mono hB.size)⟩
  · have hC' : (Pa.splC s == 0) = false := by simpa using hC
    clear hC HS1 hb1
    replace hB := hB.trans (((Below.refl w1.heap.size w1).alloc (Nat.le_refl _) (.cells #[.bool (Pa.splA s), .slice a1 (Pa.splN s).length c1, .bool (Pa.splS s)] 24)).mono hB.size)
    go_wp2_with fail
    refine (HCs.out _).mono ?_
    rintro e w8 ⟨rfl, HB8⟩
    replace hB := hB.trans (HB8.mono hB.size)
    clear HB8
    go_wp2_with fail
    refine (HCc.out _).mono ?_
    rintro e w8 ⟨rfl, HB8⟩
    replace hB := hB.trans (HB8.mono hB.size)
    clear HB8
    by_cases hs0 : s = []
    · have hs1 : s.isEmpty = true := by simp [hs0]
      clear hs0
      go_wp2_with fail
      refine (HRl.out _).mono ?_
      rintro e w8 ⟨rfl, HB8⟩
      replace hB := hB.trans (HB8.mono hB.size)
      clear HB8
      cases hok : Pa.relOk s t
      · have HK : Hid (Pa.relOk s t = false) := hok
        clear hok
        go_wp2_with fail
        refine (HJx.out _ _).mono ?_
        rintro e w9 ⟨rfl, HB9⟩
        replace hB := hB.trans (HB9.mono hB.size)
        clear HB9
        go_wp2_with fail
        refine (HWx.out _).mono ?_
        rintro e w9 ⟨rfl, HB9⟩
        replace hB := hB.trans (HB9.mono hB.size)
        clear HB9
        go_wp2_with fail
        refine (lives_walk _).mono ?_
        rintro e w9 ⟨rfl, HB9⟩
        go_wp2
        go_ret
        exact ⟨rfl, hB.trans (HB9.mono hB.size)⟩
      · have HCj : Hid (∀ w, Calls Tryd.prog 15 #[.string ⟨J1.toArray⟩] w fun e w' => e = .returned (.string ⟨(Pa.clean t).toArray⟩) ∧ Below w.heap.size w w') := fun w => by
          have h := pClean J1 w (by omega)
          rw [← HJ1.out, Pa.rel_leads s t hok] at h
          rw [← HJ1.out]
          exact h
        clear hok
        go_wp2_with fail
        refine (HCs.out _).mono ?_
        rintro e w8 ⟨rfl, HB8⟩
        replace hB := hB.trans (HB8.mono hB.size)
        clear HB8
        go_wp2_with fail
        refine (HJr.out _ _).mono ?_
        rintro e w8 ⟨rfl, HB8⟩
        replace hB := hB.trans (HB8.mono hB.size)
        clear HB8
        go_wp2_with fail
        refine (HCj.out _).mono ?_
        rintro e w8 ⟨rfl, HB8⟩
        replace hB := hB.trans (HB8.mono hB.size)
        clear HB8
        go_wp2_with fail
        refine (HCt.out _).mono ?_
        rintro e w8 ⟨rfl, HB8⟩
        replace hB := hB.trans (HB8.mono hB.size)
        clear HB8
        go_wp2_with fail
        refine (HJx.out _ _).mono ?_
        rintro e w9 ⟨rfl, HB9⟩
        replace hB := hB.trans (HB9.mono hB.size)
        clear HB9
        go_wp2_with fail
        refine (HWx.out _).mono ?_
        rintro e w9 ⟨rfl, HB9⟩
        replace hB := hB.trans (HB9.mono hB.size)
        clear HB9
        go_wp2_with fail
        refine (lives_walk _).mono ?_
        rintro e w9 ⟨rfl, HB9⟩
        go_wp2
        go_ret
        exact ⟨rfl, hB.trans (HB9.mono hB.size)⟩
    · have hs1 : s.isEmpty = false := by simp [hs0]
      have HJd : Hid (∀ (c : Nat) (w : World), Calls Tryd.prog 17 #[.slice (some ⟨w.heap.size, 0, none⟩) 2 c] (w.alloc (.cells #[.string ⟨(Pa.dir s).toArray⟩, .string ⟨(Pa.base s []).toArray⟩] 9)) fun e w' => e = .returned (.string ⟨(Pa.clean s).toArray⟩) ∧ Below w.heap.size w w') := fun c w => by
        have h := pJoin2 (Pa.dir s) (Pa.base s []) c w (by omega)
        rw [Pa.dir_base s hs0] at h
        exact h
      clear hs0
      go_wp2_with fail
      refine (pDir s _ (by omega)).mono ?_
      rintro e w8 ⟨rfl, rfl⟩
      go_wp2_with fail
      refine (pBase s [] _ (by omega)).mono ?_
      rintro e w8 ⟨rfl, rfl⟩
      go_wp2_with fail
      refine (HJd.out _ _).mono ?_
      rintro e w8 ⟨rfl, HB8⟩
      replace hB := hB.trans (HB8.mono hB.size)
      clear HB8
      go_wp2_with fail
      refine (HRl.out _).mono ?_
      rintro e w8 ⟨rfl, HB8⟩
      replace hB := hB.trans (HB8.mono hB.size)
      clear HB8
      cases hok : Pa.relOk s t
      · have HK : Hid (Pa.relOk s t = false) := hok
        clear hok
        go_wp2_with fail
        refine (HJx.out _ _).mono ?_
        rintro e w9 ⟨rfl, HB9⟩
        replace hB := hB.trans (HB9.mono hB.size)
        clear HB9
        go_wp2_with fail
        refine (HWx.out _).mono ?_
        rintro e w9 ⟨rfl, HB9⟩
        replace hB := hB.trans (HB9.mono hB.size)
        clear HB9
        go_wp2_with fail
        refine (lives_walk _).mono ?_
        rintro e w9 ⟨rfl, HB9⟩
        go_wp2
        go_ret
        exact ⟨rfl, hB.trans (HB9.mono hB.size)⟩
      · have HCj : Hid (∀ w, Calls Tryd.prog 15 #[.string ⟨J1.toArray⟩] w fun e w' => e = .returned (.string ⟨(Pa.clean t).toArray⟩) ∧ Below w.heap.size w w') := fun w => by
          have h := pClean J1 w (by omega)
          rw [← HJ1.out, Pa.rel_leads s t hok] at h
          rw [← HJ1.out]
          exact h
        clear hok
        go_wp2_with fail
        refine (HCs.out _).mono ?_
        rintro e w8 ⟨rfl, HB8⟩
        replace hB := hB.trans (HB8.mono hB.size)
        clear HB8
        go_wp2_with fail
        refine (HJr.out _ _).mono ?_
        rintro e w8 ⟨rfl, HB8⟩
        replace hB := hB.trans (HB8.mono hB.size)
        clear HB8
        go_wp2_with fail
        refine (HCj.out _).mono ?_
        rintro e w8 ⟨rfl, HB8⟩
        replace hB := hB.trans (HB8.mono hB.size)
        clear HB8
        go_wp2_with fail
        refine (HCt.out _).mono ?_
        rintro e w8 ⟨rfl, HB8⟩
        replace hB := hB.trans (HB8.mono hB.size)
        clear HB8
        go_wp2_with fail
        refine (HJx.out _ _).mono ?_
        rintro e w9 ⟨rfl, HB9⟩
        replace hB := hB.trans (HB9.mono hB.size)
        clear HB9
        go_wp2_with fail
        refine (HWx.out _).mono ?_
        rintro e w9 ⟨rfl, HB9⟩
        replace hB := hB.trans (HB9.mono hB.size)
        clear HB9
        go_wp2_with fail
        refine (lives_walk _).mono ?_
        rintro e w9 ⟨rfl, HB9⟩
        go_wp2
        go_ret
        exact ⟨rfl, hB.trans (HB9.mono hB.size)⟩
end Go.Proofs.YteggjpogaljafaaDoor
