/- The walks of the program's Clean, Join, alike, Within. Conditions: lengths that fit; lists' cells as said. -/
import Derived.Test.YteggjpogaljafaaDoorPb4
import Derived.Test.YteggjpogaljafaaDoorPa8
namespace Go.Proofs.YteggjpogaljafaaDoor
open Go.RowKit
attribute [local go_sem] ext_eq app_eq get_eq toL_eq
set_option maxRecDepth 100000 in
set_option maxHeartbeats 1000000 in
theorem pClean (l : List UInt8) (w : World) (hs : l.length ≤ 2 ^ 39) : Calls Tryd.prog 15 #[.string ⟨l.toArray⟩] w fun e w' => e = .returned (.string ⟨(Pa.clean l).toArray⟩) ∧ Below w.heap.size w w' := by
  have hw := wt_lft l
  have hj := jn_wt (Pa.lft l)
  have hl := len_wt (Pa.lft l)
  go_enter Tryd.func15, Tryd.ntmps15
  go_wp2_with fail
  refine (pAbs l _).mono ?_
  rintro e w1 ⟨rfl, rfl⟩
  go_wp2_with fail
  refine (pLeft l _ (by omega)).mono ?_
  rintro e w2 ⟨v, rfl, hv, HB2⟩
  obtain ⟨-, a2, c2, rfl, hc2, HS2, hb2⟩ := own_strs hv
  clear hv
  go_wp2_with fail
  refine (pString (Pa.absB l) false (Pa.lft l) a2 c2 _ HS2 (by omega) hc2 (by omega)).mono ?_
  rintro e w3 ⟨rfl, HB3⟩
  go_wp2
  go_ret
  exact ⟨rfl, HB2.trans (HB3.mono HB2.size)⟩
set_option maxRecDepth 100000 in
set_option maxHeartbeats 1000000 in
theorem pJoin (xs : List (List UInt8)) (a : Option Addr) (c : Nat) (w : World) (hS : Strs w a xs) (hn : xs.length ≤ 2 ^ 40) (hj : (Pa.jn (Pa.some' xs)).length ≤ 2 ^ 39) :
    Calls Tryd.prog 17 #[.slice a xs.length c] w fun e w' => e = .returned (.string ⟨(Pa.join xs).toArray⟩) ∧ Below w.heap.size w w' := by
  obtain ⟨i0, hi, hz0, hz1, hz2⟩ := info_parts info9
  have HS : Hid (Strs w a xs) := hS
  clear hS
  go_enter Tryd.func17, Tryd.ntmps17
  go_wp2
  go_loopw [3, 8] (fun v i W => ∃ k : Nat, k ≤ xs.length ∧ i = .int .i64 k ∧ W.ownsRow w.heap.size 9 1 v (Pa.some' (xs.take k)).length ((Pa.some' (xs.take k)).map sv) ∧ Below w.heap.size w W) (fun _ i _ => xs.length - (intOf i).toNat)
  case atStart => exact ⟨0, Nat.zero_le _, rfl, World.ownsRow_nil _ _ _ _, Below.refl _ _⟩
  case round =>
    obtain ⟨k, hk, rfl, hrow, HB⟩ := hrel
    have hle : (Pa.some' (xs.take k)).length ≤ k := by have := List.length_filter_le (fun x : List UInt8 => !x.isEmpty) (xs.take k); simp at this; unfold Pa.some'; omega
    have hsz := HB.size
    by_cases hlt : k < xs.length
    · have HF : Hid (Pa.some' (xs.take (k + 1)) = if xs[k] = [] then Pa.some' (xs.take k) else Pa.some' (xs.take k) ++ [xs[k]]) := by show _ = _; rw [take_getL xs k hlt, some_snoc]
      obtain ⟨bk, o, rfl, hb, hcell0⟩ := HS.out k xs[k] (List.getElem?_eq_getElem hlt)
      have hcell : wr.cell? ⟨bk, o + k, none⟩ = some (.string ⟨xs[k].toArray⟩) := (HB.cell (p := ⟨bk, o + k, none⟩) hb).trans hcell0
      clear hcell0
      generalize xs[k] = x at hcell HF
      generalize Pa.some' (xs.take k) = out at *
      by_cases hx : x = []
      · subst hx
        go_wp2
        exact ⟨⟨k + 1, by omega, by go_num, by rw [HF.out, if_pos rfl]; exact hrow, HB⟩, by simp [intOf]; omega⟩
      · have hx' : x.isEmpty = false := by simp [hx]
        have HX : Hid (¬ x = []) := hx
        clear hx
        go_wp2_with (at_builtin; refine wpList_append_own _ rfl _ _ 22 rfl w.heap.size 9 i0 (.string ⟨#[]⟩) 1 16 Tryd.underlying22 hi hz0 hz1 hz2 rfl (by decide) _ _ _ rfl (hrow.alloc _) ⟨wr.heap.size, 0, none⟩ 1 1 [.string ⟨x.toArray⟩] rfl rfl (cell_one_new _ _ _) (one_cell _) (by unfold maxLen; omega) (by omega) (by simp; omega) ?_; intro v' w1 hown' hgrow _)
        exact ⟨⟨k + 1, by omega, by go_num, by rw [HF.out, if_neg HX.out]; simpa [sv] using hown', below_app HB (Nat.le_refl _) hrow hgrow⟩, by simp [intOf]; omega⟩
    · have hkx : xs.take k = xs := List.take_of_length_le (by omega)
      rw [hkx] at hrow hle
      clear hkx
      obtain ⟨-, a2, c2, rfl, hc2, HS2, hb2⟩ := own_strs hrow
      clear hrow
      by_cases ho : Pa.some' xs = []
      · have ho' := len0 _ ho
        have HO : Hid (Pa.some' xs = []) := ho
        clear ho
        go_wp2
        go_ret
        exact ⟨ret_str (by rw [Pa.join, if_pos HO.out]), HB⟩
      · have ho' := lenN _ ho
        have HO : Hid (¬ Pa.some' xs = []) := ho
        clear ho
        go_wp2_with fail
        refine (sJoin (Pa.some' xs) a2 c2 _ HS2 (by omega) hc2 (by omega)).mono ?_
        rintro e w3 ⟨rfl, HB3⟩
        go_wp2_with fail
        refine (pClean _ _ hj).mono ?_
        rintro e w4 ⟨rfl, HB4⟩
        go_wp2
        go_ret
        exact ⟨ret_str (by rw [Pa.join, if_neg HO.out]), (HB.trans (HB3.mono HB.size)).trans (HB4.mono (by have := HB3.size; omega))⟩
theorem com_at (x : List (List UInt8)) : ∀ (y : List (List UInt8)) (k : Nat), k ≤ Pa.com x y → Pa.com x y = k + Pa.com (x.drop k) (y.drop k) := by
  induction x with
  | nil => intro y k h; simp [Pa.com] at h ⊢; exact h.symm
  | cons a r ih =>
    intro y k h
    cases y with
    | nil => simp [Pa.com] at h ⊢; exact h.symm
    | cons b s =>
      cases k with
      | zero => simp
      | succ k =>
        by_cases e : a = b
        · simp only [Pa.com, e, if_true] at h ⊢
          have := ih s k (by omega)
          simp only [List.drop_succ_cons]; omega
        · simp [Pa.com, e] at h
/-- Names alike so far, and the next ones alike: one more; else there it ends. -/
theorem com_step (x y : List (List UInt8)) (k : Nat) (hx : k < x.length) (hy : k < y.length) : Pa.com (x.drop k) (y.drop k) = if x[k] = y[k] then Pa.com (x.drop (k + 1)) (y.drop (k + 1)) + 1 else 0 := by
  rw [List.drop_eq_getElem_cons hx, List.drop_eq_getElem_cons hy]
  rfl
theorem com_end (x y : List (List UInt8)) (k : Nat) (h : ¬ (k < x.length ∧ k < y.length)) : Pa.com (x.drop k) (y.drop k) = 0 := by
  by_cases hx : k < x.length
  · have : y.drop k = [] := List.drop_of_length_le (by omega)
    rw [this]; cases x.drop k <;> rfl
  · have : x.drop k = [] := List.drop_of_length_le (by omega)
    rw [this]; rfl
set_option maxRecDepth 100000 in
set_option maxHeartbeats 1000000 in
theorem pAlike (x y : List (List UInt8)) (a b : Option Addr) (c d : Nat) (w : World) (hSx : Strs w a x) (hSy : Strs w b y) (hx : x.length ≤ 2 ^ 40) :
    Calls Tryd.prog 42 #[.slice a x.length c, .slice b y.length d] w fun e w' => e = .returned (.int .i64 (Pa.com x y)) ∧ ∃ n, w' = w.drewN n := by
  go_enter Tryd.func42, Tryd.ntmps42
  go_wp2
  go_loopw [5] (fun i W => ∃ k : Nat, k ≤ x.length ∧ i = .int .i64 k ∧ Hid (Pa.com x y = k + Pa.com (x.drop k) (y.drop k)) ∧ ∃ n, W = w.drewN n) (fun i _ => x.length + 1 - (intOf i).toNat)
  case atStart => exact ⟨0, Nat.zero_le _, rfl, (Nat.zero_add _).symm, 0, rfl⟩
  case round =>
    obtain ⟨k, hk, rfl, HC, n, rfl⟩ := hrel
    by_cases hlt : k < x.length
    · by_cases hlty : k < y.length
      · obtain ⟨bk, o, rfl, hb, hcell⟩ := hSx k x[k] (List.getElem?_eq_getElem hlt)
        obtain ⟨bk2, o2, rfl, hb2, hcell2⟩ := hSy k y[k] (List.getElem?_eq_getElem hlty)
        have HT : Hid (Pa.com (x.drop k) (y.drop k) = if x[k] = y[k] then Pa.com (x.drop (k + 1)) (y.drop (k + 1)) + 1 else 0) := com_step x y k hlt hlty
        by_cases he : x[k] = y[k]
        · have he' : (x[k] == y[k]) = true := by simp [he]
          rw [if_pos he] at HT
          clear he
          go_wp2
          go_quiet (fail)
          go_wp2
          exact ⟨⟨k + 1, by omega, by go_num, by show _ = _; rw [HC.out, HT.out]; omega, _, rfl⟩, by simp [intOf]; omega⟩
        · have he' : (x[k] == y[k]) = false := by simpa using he
          rw [if_neg he] at HT
          clear he
          go_wp2
          go_quiet (fail)
          go_wp2
          go_ret
          exact ⟨ret_int (by rw [HC.out, HT.out]; omega), _, by rw [World.drewN_drewN]⟩
      · have HT : Hid (Pa.com (x.drop k) (y.drop k) = 0) := com_end x y k (fun h => hlty h.2)
        go_wp2
        go_quiet (fail)
        go_wp2
        go_ret
        exact ⟨ret_int (by rw [HC.out, HT.out]; omega), _, by rw [World.drewN_drewN]⟩
    · have HT : Hid (Pa.com (x.drop k) (y.drop k) = 0) := com_end x y k (fun h => hlt h.1)
      go_wp2
      go_quiet (fail)
      go_wp2
      go_ret
      exact ⟨ret_int (by rw [HC.out, HT.out]; omega), _, by rw [World.drewN_drewN]⟩
theorem com_pre (x : List (List UInt8)) : ∀ y, (Pa.com x y = x.length ↔ x <+: y) := by
  induction x with
  | nil => intro y; simp [Pa.com]
  | cons a r ih =>
    intro y
    cases y with
    | nil => simp [Pa.com]
    | cons b s =>
      by_cases e : a = b
      · subst e
        simp only [Pa.com, if_true, List.length_cons, Nat.add_right_cancel_iff, ih s, List.cons_prefix_cons, true_and]
      · simp [Pa.com, e]
theorem com_pre_b (x y : List (List UInt8)) : (((Pa.com x y : Nat) : Int) == (x.length : Int)) = x.isPrefixOf y := by
  rw [Bool.eq_iff_iff, List.isPrefixOf_iff_prefix, ← com_pre]; simp; omega
set_option maxRecDepth 100000 in
set_option maxHeartbeats 2000000 in
theorem pWithin (a b : List UInt8) (w : World) (ha : a.length ≤ 2 ^ 39) (hb : b.length ≤ 2 ^ 39) : Calls Tryd.prog 25 #[.string ⟨a.toArray⟩, .string ⟨b.toArray⟩] w fun e w' => e = .returned (.bool (Pa.within a b)) ∧ Below w.heap.size w w' := by
  have hca := len_wt (Pa.lft a)
  have hcb := len_wt (Pa.lft b)
  have hwa := wt_lft a
  have hwb := wt_lft b
  by_cases hab : Pa.absB a = Pa.absB b
  · have HW : Hid (Pa.within a b = Pa.withinL (Pa.lft a) (Pa.lft b)) := by show _ = _; rw [Pa.within, if_pos hab]
    have hab' := beq_ne _ _ hab
    have HAB : Hid (Pa.absB a = Pa.absB b) := hab
    clear hab
    go_enter Tryd.func25, Tryd.ntmps25
    go_wp2_with fail
    refine (pAbs a _).mono ?_
    rintro e w1 ⟨rfl, rfl⟩
    go_wp2_with fail
    refine (pAbs b _).mono ?_
    rintro e w1 ⟨rfl, rfl⟩
    go_wp2_with fail
    refine (pLeft a _ (by omega)).mono ?_
    rintro e w3 ⟨v, rfl, hv, HB3⟩
    obtain ⟨-, a3, c3, rfl, hc3, HS3, hb3⟩ := own_strs hv
    clear hv
    go_wp2_with fail
    refine (pLeft b _ (by omega)).mono ?_
    rintro e w6 ⟨v, rfl, hv, HB6⟩
    obtain ⟨-, a6, c6, rfl, hc6, HS6, hb6⟩ := own_strs hv
    clear hv
    generalize Pa.lft a = x at *
    generalize Pa.lft b = y at *
    have HS3' : Strs w6 a3 x := HS3.grow HB6
    clear HS3 hb3 hb6
    have HBw : Below w1.heap.size w1 w6 := HB3.trans (HB6.mono HB3.size)
    clear HB3 HB6
    by_cases hx : x = []
    · have hx0 := len0 x hx
      rw [Pa.withinL, if_pos hx] at HW
      by_cases hy : y = []
      · have hy0 := len0 y hy
        rw [hy] at HW
        clear hx hy
        go_wp2
        go_ret
        exact ⟨ret_bool HW.out.symm, HBw⟩
      · have hy0 := lenN y hy
        obtain ⟨z, r, rfl⟩ := List.exists_cons_of_ne_nil hy
        obtain ⟨bk, o, rfl, hbk, hcell⟩ := HS6 0 z rfl
        rw [Nat.add_zero] at hcell
        clear hx hy
        go_wp2
        go_ret
        refine ⟨ret_bool ?_, HBw⟩
        rw [HW.out]
        have : ((r.length : Int) + 1 == 0) = false := by rw [beq_eq_false_iff_ne]; omega
        by_cases hz : z = [46, 46] <;> simp [Pa.dd, this, hz]
    · have hx0 := lenN x hx
      rw [Pa.withinL, if_neg hx] at HW
      clear hx
      go_wp2_with fail
      refine (pAlike x y a3 a6 c3 c6 _ HS3' HS6 (by omega)).mono ?_
      rintro e w7 ⟨rfl, n, rfl⟩
      go_wp2
      go_ret
      exact ⟨ret_bool (by rw [HW.out, com_pre_b]), below_drewN HBw n⟩
  · have HW : Hid (Pa.within a b = false) := by show _ = _; rw [Pa.within, if_neg hab]
    have hab' := beq_ne' _ _ hab
    clear hab
    go_enter Tryd.func25, Tryd.ntmps25
    go_wp2_with fail
    refine (pAbs a _).mono ?_
    rintro e w1 ⟨rfl, rfl⟩
    go_wp2_with fail
    refine (pAbs b _).mono ?_
    rintro e w1 ⟨rfl, rfl⟩
    go_wp2
    go_ret
    exact ⟨ret_bool HW.out.symm, Below.refl _ _⟩
end Go.Proofs.YteggjpogaljafaaDoor
