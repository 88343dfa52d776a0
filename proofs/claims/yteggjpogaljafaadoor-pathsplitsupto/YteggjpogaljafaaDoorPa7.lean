/- The walk of the plain answer Within. Conditions: lengths that fit. -/
import Derived.Test.YteggjpogaljafaaDoorPa6
namespace Go.Proofs.YteggjpogaljafaaDoor
open Go.RowKit
attribute [local go_sem] ext_eq app_eq get_eq toL_eq
def Pa.withinL (x y : List (List UInt8)) : Bool := if x = [] then (decide (y = []) || decide (y.head? ≠ some Pa.dd)) else x.isPrefixOf y
def Pa.within (a b : List UInt8) : Bool := if Pa.absB a = Pa.absB b then Pa.withinL (Pa.lft a) (Pa.lft b) else false
theorem prefix_of {x y : List (List UInt8)} (hl : x.length ≤ y.length) (h : ∀ j (hj : j < x.length), x[j] = y[j]) : x.isPrefixOf y = true := by
  rw [List.isPrefixOf_iff_prefix, List.prefix_iff_eq_take]
  apply List.ext_getElem
  · simp; omega
  · intro i h1 h2; simp [h i h1]
theorem not_prefix_len {x y : List (List UInt8)} (hl : ¬ x.length ≤ y.length) : x.isPrefixOf y = false := by
  rw [Bool.eq_false_iff]; intro h; rw [List.isPrefixOf_iff_prefix] at h; exact hl h.length_le
theorem not_prefix_at {x y : List (List UInt8)} (j : Nat) (hx : j < x.length) (hy : j < y.length) (h : x[j] ≠ y[j]) : x.isPrefixOf y = false := by
  rw [Bool.eq_false_iff]; intro hp; rw [List.isPrefixOf_iff_prefix] at hp
  obtain ⟨r, rfl⟩ := hp
  exact h (by rw [List.getElem_append_left hx])
/-- Six calls in a row: two lists of names, clean. -/
theorem beq_ne (a b : Bool) (h : a = b) : (a == b) = true := by simp [h]
theorem beq_ne' (a b : Bool) (h : ¬ a = b) : (a == b) = false := by simpa using h
set_option maxRecDepth 100000 in
set_option maxHeartbeats 2000000 in
theorem rWithin (a b : List UInt8) (w : World) (ha : a.length ≤ 2 ^ 39) (hb : b.length ≤ 2 ^ 39) : Calls Tryd.prog 26 #[.string ⟨a.toArray⟩, .string ⟨b.toArray⟩] w fun e w' => e = .returned (.bool (Pa.within a b)) ∧ Below w.heap.size w w' := by
  have hna := Pa.nms_length a
  have hnb := Pa.nms_length b
  have hca := len_wt (Pa.lft a)
  have hcb := len_wt (Pa.lft b)
  have hwa := wt_lft a
  have hwb := wt_lft b
  have HMa : Hid (a.length ≤ maxLen) := by show _ ≤ _; unfold maxLen; omega
  have HMb : Hid (b.length ≤ maxLen) := by show _ ≤ _; unfold maxLen; omega
  by_cases hab : Pa.absB a = Pa.absB b
  · have HW : Hid (Pa.within a b = Pa.withinL (Pa.cl (Pa.absB a) (Pa.nms a)) (Pa.cl (Pa.absB b) (Pa.nms b))) := by show _ = _; rw [Pa.within, if_pos hab]; rfl
    have hab' := beq_ne _ _ hab
    have HAB : Hid (Pa.absB a = Pa.absB b) := hab
    clear hab
    go_enter Tryd.func26, Tryd.ntmps26
    go_wp2_with fail
    refine (rAbs a _ HMa.out).mono ?_
    rintro e w1 ⟨rfl, rfl⟩
    go_wp2_with fail
    refine (rAbs b _ HMb.out).mono ?_
    rintro e w1 ⟨rfl, rfl⟩
    go_wp2_with fail
    refine (rAbs a _ HMa.out).mono ?_
    rintro e w1 ⟨rfl, rfl⟩
    go_wp2_with fail
    refine (rNames a _ (by omega)).mono ?_
    rintro e w2 ⟨v, rfl, hv, HB2⟩
    obtain ⟨-, a2, c2, rfl, hc2, HS2, hb2⟩ := own_strs hv
    clear hv
    go_wp2_with fail
    refine (rClean (Pa.absB a) (Pa.nms a) a2 c2 _ HS2 (by omega)).mono ?_
    rintro e w3 ⟨v, rfl, hv, HB3⟩
    obtain ⟨-, a3, c3, rfl, hc3, HS3, hb3⟩ := own_strs hv
    clear hv HS2 hb2
    go_wp2_with fail
    refine (rAbs b _ HMb.out).mono ?_
    rintro e w4 ⟨rfl, rfl⟩
    go_wp2_with fail
    refine (rNames b _ (by omega)).mono ?_
    rintro e w5 ⟨v, rfl, hv, HB5⟩
    obtain ⟨-, a5, c5, rfl, hc5, HS5, hb5⟩ := own_strs hv
    clear hv
    go_wp2_with fail
    refine (rClean (Pa.absB b) (Pa.nms b) a5 c5 _ HS5 (by omega)).mono ?_
    rintro e w6 ⟨v, rfl, hv, HB6⟩
    obtain ⟨-, a6, c6, rfl, hc6, HS6, hb6⟩ := own_strs hv
    clear hv HS5 hb5
    have hca' : (Pa.cl (Pa.absB a) (Pa.nms a)).length ≤ 2 ^ 40 := by have : (Pa.cl (Pa.absB a) (Pa.nms a)).length ≤ wt (Pa.lft a) := hca; omega
    have hcb' : (Pa.cl (Pa.absB b) (Pa.nms b)).length ≤ 2 ^ 40 := by have : (Pa.cl (Pa.absB b) (Pa.nms b)).length ≤ wt (Pa.lft b) := hcb; omega
    clear hca hcb hwa hwb
    generalize Pa.cl (Pa.absB a) (Pa.nms a) = x at *
    generalize Pa.cl (Pa.absB b) (Pa.nms b) = y at *
    have HS3' : Strs w6 a3 x := (HS3.grow HB5).grow HB6
    clear HS3 hb3 hb6
    have HBw : Below w1.heap.size w1 w6 := ((HB2.trans (HB3.mono HB2.size)).trans (HB5.mono (by have := HB2.size; have := HB3.size; omega))).trans (HB6.mono (by have := HB2.size; have := HB3.size; have := HB5.size; omega))
    clear HB2 HB3 HB5 HB6
    by_cases hx : x = []
    · have hx0 := len0 x hx
      rw [Pa.withinL, if_pos hx] at HW
      by_cases hy : y = []
      · have hy0 := len0 y hy
        rw [hy] at HW
        clear hx hy
        go_wp2
        go_ret
        exact ⟨ret_bool HW.out.symm, HBw⟩
      · have hy0 := lenN y hy
        obtain ⟨z, r, rfl⟩ := List.exists_cons_of_ne_nil hy
        obtain ⟨bk, o, rfl, hbk, hcell⟩ := HS6 0 z rfl
        rw [Nat.add_zero] at hcell
        clear hx hy
        go_wp2
        go_ret
        refine ⟨ret_bool ?_, HBw⟩
        rw [HW.out]
        have : ((r.length : Int) + 1 == 0) = false := by rw [beq_eq_false_iff_ne]; omega
        by_cases hz : z = [46, 46] <;> simp [Pa.dd, this, hz]
    · have hx0 := lenN x hx
      rw [Pa.withinL, if_neg hx] at HW
      clear hx
      by_cases hl : x.length ≤ y.length
      · go_wp2
        go_loopw [42] (fun i W => ∃ k : Nat, k ≤ x.length ∧ i = .int .i64 k ∧ (∀ j (hj : j < k) (hx : j < x.length) (hy : j < y.length), x[j] = y[j]) ∧ ∃ n, W = w6.drewN n) (fun i _ => x.length - (intOf i).toNat)
        case atStart => exact ⟨0, Nat.zero_le _, rfl, fun j hj => absurd hj (Nat.not_lt_zero _), 0, rfl⟩
        case round =>
          obtain ⟨k, hk, rfl, HK, n, rfl⟩ := hrel
          replace HK : Hid (∀ j (hj : j < k) (hx : j < x.length) (hy : j < y.length), x[j] = y[j]) := HK
          by_cases hlt : k < x.length
          · have hlty : k < y.length := by omega
            obtain ⟨bk, o, rfl, hbk, hcell⟩ := HS3' k x[k] (List.getElem?_eq_getElem hlt)
            obtain ⟨bk2, o2, rfl, hbk2, hcell2⟩ := HS6 k y[k] (List.getElem?_eq_getElem hlty)
            by_cases he : x[k] = y[k]
            · have he' : (x[k] == y[k]) = true := by simp [he]
              have HE : Hid (x[k] = y[k]) := he
              clear he
              go_wp2
              go_quiet (fail)
              go_wp2
              exact ⟨⟨k + 1, by omega, by go_num, fun j hj hx hy => if h : j = k then by subst h; exact HE.out else HK.out j (by omega) hx hy, _, rfl⟩, by simp [intOf]; omega⟩
            · have he' : (x[k] == y[k]) = false := by simpa using he
              have HE : Hid (¬ x[k] = y[k]) := he
              clear he
              go_wp2
              go_quiet (fail)
              go_wp2
              go_ret
              exact ⟨ret_bool (by rw [HW.out]; exact (not_prefix_at k hlt hlty HE.out).symm), below_drewN (below_drewN HBw n) _⟩
          · go_wp2
            go_ret
            refine ⟨ret_bool ?_, below_drewN HBw n⟩
            rw [HW.out]
            exact (prefix_of hl fun j hj => HK.out j (by omega) hj (by omega)).symm
      · go_wp2
        go_ret
        exact ⟨ret_bool (by rw [HW.out]; exact (not_prefix_len hl).symm), HBw⟩
  · have HW : Hid (Pa.within a b = false) := by show _ = _; rw [Pa.within, if_neg hab]
    have hab' := beq_ne' _ _ hab
    clear hab
    go_enter Tryd.func26, Tryd.ntmps26
    go_wp2_with fail
    refine (rAbs a _ HMa.out).mono ?_
    rintro e w1 ⟨rfl, rfl⟩
    go_wp2_with fail
    refine (rAbs b _ HMb.out).mono ?_
    rintro e w1 ⟨rfl, rfl⟩
    go_wp2
    go_ret
    exact ⟨ret_bool HW.out.symm, Below.refl _ _⟩
end Go.Proofs.YteggjpogaljafaaDoor
