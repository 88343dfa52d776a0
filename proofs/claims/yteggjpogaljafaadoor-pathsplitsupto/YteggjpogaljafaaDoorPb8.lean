/- The walk of the program's Rel. Conditions: lengths that fit. -/
import Derived.Test.YteggjpogaljafaaDoorPb7
namespace Go.Proofs.YteggjpogaljafaaDoor
open Go.RowKit
attribute [local go_sem] ext_eq app_eq get_eq toL_eq
theorem com_le (x : List (List UInt8)) : ∀ y, Pa.com x y ≤ x.length ∧ Pa.com x y ≤ y.length := by
  induction x with
  | nil => intro y; simp [Pa.com]
  | cons x r ih =>
    intro y
    cases y with
    | nil => simp [Pa.com]
    | cons y s => have := ih s; simp only [Pa.com]; split <;> simp; omega
theorem sContains (xs : List (List UInt8)) (a : Option Addr) (c : Nat) (w : World) (hS : Strs w a xs) (hn : xs.length ≤ 2 ^ 40) :
    Calls Tryd.prog 43 #[.slice a xs.length c, .string ⟨#[46, 46]⟩] w fun e w' => e = .returned (.bool (xs.contains Pa.dd)) ∧ w' = w := by
  cases xs with
  | nil => exact Tryd.slices_Contains_string_empty a c ⟨#[46, 46]⟩ w
  | cons x r =>
    obtain ⟨bk, o, rfl, hlt, _⟩ := hS 0 x rfl
    have h := Tryd.slices_Contains_string bk o (x :: r).length c ((x :: r).map (fun l : List UInt8 => (⟨l.toArray⟩ : ByteArray))) ⟨#[46, 46]⟩ w (by simp) (by omega) (by
      intro j hj
      rw [List.length_map] at hj
      obtain ⟨bk', o', he, _, hcell⟩ := hS j (x :: r)[j] (List.getElem?_eq_getElem hj)
      cases he
      rw [hcell, List.getD_eq_getElem?_getD, List.getElem?_map, List.getElem?_eq_getElem hj]
      rfl)
    have e1 : Lib.containsS (((x :: r).map (fun l : List UInt8 => (⟨l.toArray⟩ : ByteArray))).take (x :: r).length) ⟨#[46, 46]⟩ = (x :: r).contains Pa.dd := by
      rw [List.take_of_length_le (by simp), Bool.eq_iff_iff, Lib.containsS_iff, List.mem_map]
      constructor
      · rintro ⟨z, hz, hzz⟩
        have : z = Pa.dd := by have := congrArg (fun b : ByteArray => b.data.toList) hzz; simpa [Pa.dd] using this
        rw [← this]; simpa using hz
      · intro hm
        exact ⟨Pa.dd, by simpa using hm, rfl⟩
    rw [e1] at h
    exact h
/-- A list of names of one's own: no list at all, or one at the head of its block. -/
theorem own_strs2 {W : World} {base n : Nat} {v : Value} {xs : List (List UInt8)} (h : W.ownsRow base 9 1 v n (xs.map sv)) : (v = .slice none 0 0 ∧ xs = []) ∨ ∃ g c, v = .slice (some ⟨g, 0, none⟩) xs.length c ∧ xs.length ≤ c ∧ c ≤ maxLen ∧ Strs W (some ⟨g, 0, none⟩) xs := by
  obtain ⟨hn, a, c, hv, hc, hS, _⟩ := own_strs h
  rcases h.2 with ⟨rfl, h0⟩ | ⟨g, cap, cur, rfl, _, _, _, hm, _⟩
  · exact .inl ⟨rfl, List.length_eq_zero_iff.1 (by omega)⟩
  · simp only [Value.slice.injEq] at hv
    obtain ⟨rfl, h2, rfl⟩ := hv
    exact .inr ⟨g, cap, by rw [h2], hc, hm, hS⟩
theorem Strs.drop {W : World} {bk o c k : Nat} {x : List (List UInt8)} (h : Strs W (some ⟨bk, o, none⟩) x) (hc : x.length ≤ c) : Strs W (if c = k then some ⟨bk, o, none⟩ else some ⟨bk, o + k, none⟩) (x.drop k) := by
  split
  · have : x.drop k = [] := List.drop_of_length_le (by omega)
    rw [this]; exact Strs.nil _ _
  · intro j u hu
    rw [List.getElem?_drop] at hu
    obtain ⟨bk', o', he, hlt, hcell⟩ := h (k + j) u hu
    cases he
    exact ⟨bk, o + k, rfl, hlt, by rw [Nat.add_assoc]; exact hcell⟩
set_option maxRecDepth 100000 in
set_option maxHeartbeats 4000000 in
theorem pRel (a b : List UInt8) (w : World) (ha : a.length ≤ 2 ^ 37) (hb : b.length ≤ 2 ^ 37) : Calls Tryd.prog 23 #[.string ⟨a.toArray⟩, .string ⟨b.toArray⟩] w fun e w' => e = .returned (.tuple #[.string ⟨(Pa.relS a b).toArray⟩, .bool (Pa.relOk a b)]) ∧ Below w.heap.size w w' := by
  have hca := len_wt (Pa.lft a)
  have hcb := len_wt (Pa.lft b)
  have hwa := wt_lft a
  have hwb := wt_lft b
  by_cases hab : Pa.absB a = Pa.absB b
  · have HO : Hid (Pa.relOk a b = !((Pa.lft a).drop (Pa.com (Pa.lft a) (Pa.lft b))).contains Pa.dd) := by show _ = _; rw [Pa.relOk, if_pos hab]; rfl
    have HR : Hid (Pa.relS a b = if Pa.relOk a b then Pa.strg false (List.replicate ((Pa.lft a).drop (Pa.com (Pa.lft a) (Pa.lft b))).length Pa.dd ++ (Pa.lft b).drop (Pa.com (Pa.lft a) (Pa.lft b))) false else []) := by show _ = _; rw [Pa.relS, Pa.relN, List.length_drop]
    have hab' := beq_ne _ _ hab
    have HAB : Hid (Pa.absB a = Pa.absB b) := hab
    clear hab
    go_enter Tryd.func23, Tryd.ntmps23
    go_wp2_with fail
    refine (pAbs a _).mono ?_
    rintro e w1 ⟨rfl, rfl⟩
    go_wp2_with fail
    refine (pAbs b _).mono ?_
    rintro e w1 ⟨rfl, rfl⟩
    go_wp2_with fail
    refine (pLeft a _ (by omega)).mono ?_
    rintro e w3 ⟨v, rfl, hv3, HB3⟩
    go_wp2_with fail
    refine (pLeft b _ (by omega)).mono ?_
    rintro e w6 ⟨v6, rfl, hv6, HB6⟩
    have hv3' : w6.ownsRow w1.heap.size 9 1 v (Pa.lft a).length ((Pa.lft a).map sv) := hv3.kept ⟨HB6.os, HB6.tape, HB6.output, HB6.size, fun k hk _ => HB6.block k hk⟩ (row := none) (by cases hv : v.ownBlock <;> simp)
    clear hv3
    have HBw : Below w1.heap.size w1 w6 := HB3.trans (HB6.mono HB3.size)
    have hj := jn_rep ((Pa.lft a).drop (Pa.com (Pa.lft a) (Pa.lft b))).length ((Pa.lft b).drop (Pa.com (Pa.lft a) (Pa.lft b)))
    have hdy := wt_drop (Pa.com (Pa.lft a) (Pa.lft b)) (Pa.lft b)
    have hlx : ((Pa.lft a).drop (Pa.com (Pa.lft a) (Pa.lft b))).length ≤ (Pa.lft a).length := by simp
    have hly := len_wt ((Pa.lft b).drop (Pa.com (Pa.lft a) (Pa.lft b)))
    have hck := com_le (Pa.lft a) (Pa.lft b)
    obtain ⟨-, a3, c3, hv3e, -, HS3, -⟩ := own_strs hv3'
    obtain ⟨-, a6, c6, hv6e, -, HS6, -⟩ := own_strs hv6
    have HC : Hid (∀ n, Calls Tryd.prog 42 #[v, v6] (w6.drewN n) fun e w' => e = .returned (.int .i64 (Pa.com (Pa.lft a) (Pa.lft b))) ∧ ∃ m, w' = (w6.drewN n).drewN m) := by
      intro n; rw [hv3e, hv6e]; exact pAlike _ _ a3 a6 c3 c6 _ HS3 HS6 (by omega)
    clear hv3e hv6e HS3 HS6 HB3 HB6
    generalize Pa.com (Pa.lft a) (Pa.lft b) = k at *
    generalize Pa.lft a = x at *
    generalize Pa.lft b = y at *
    obtain ⟨hkx, hky⟩ := hck
    have HLX : Hid (x.length - k = (x.drop k).length) := List.length_drop.symm
    have HLY : Hid (y.length - k = (y.drop k).length) := List.length_drop.symm
    rcases own_strs2 hv3' with ⟨rfl, rfl⟩ | ⟨g3, d3, rfl, hd3, hm3, HT3⟩
    · rcases own_strs2 hv6 with ⟨rfl, rfl⟩ | ⟨g6, d6, rfl, hd6, hm6, HT6⟩
      · obtain rfl : k = 0 := Nat.le_zero.1 hkx
        go_wp2_with fail
        refine (HC.out 0).mono ?_
        rintro e w7 ⟨rfl, n7, rfl⟩
        go_wp2
        go_quiet (fail)
        simp only [List.drop_zero] at HO HR hj hdy hlx hly
        have HSx : Strs w6 none ([] : List (List UInt8)) := Strs.nil _ _
        have HSy : Strs w6 none ([] : List (List UInt8)) := Strs.nil _ _
        have hzx : (none : Option Addr) = none → 0 = 0 := fun _ => rfl
        have hzy : (none : Option Addr) = none → 0 = 0 := fun _ => rfl
        go_wp2_with fail
        refine (sContains ([] : List (List UInt8)) none 0 _ (by exact HSx) (by omega)).mono ?_
        rintro e w8 ⟨rfl, rfl⟩
        have hwE : wt (([] : List (List UInt8)) ++ ([] : List (List UInt8))) ≤ wt ([] : List (List UInt8)) := Nat.le_refl _
        have hw0 : wt ([] : List (List UInt8)) = 0 := rfl
        have HCON : Hid (([] : List (List UInt8)).contains Pa.dd = false) := rfl
        have HOF : Hid (Pa.relOk a b = true) := by show _ = _; rw [HO.out, HCON.out]; rfl
        have HS : Hid (Pa.relS a b = Pa.strg false (([] : List (List UInt8)) ++ ([] : List (List UInt8))) false) := by show _ = _; rw [HR.out, HOF.out]; rfl
        go_wp2_with fail
        refine (pRepeat Pa.dd w6.heap.size 0 1 ([] : List (List UInt8)).length _ (by simp) (by exact (Boxed.new _ 9 (.string ⟨#[46, 46]⟩)).cell) (by omega)).mono ?_
        rintro e w9 ⟨v9, rfl, hv9, HB9⟩
        rw [show List.replicate ([] : List (List UInt8)).length (sv Pa.dd) = ([] : List (List UInt8)).map sv from rfl] at hv9
        obtain ⟨-, a9, c9, rfl, hc9, HS9, -⟩ := own_strs hv9
        have hz9 := own_none hv9
        clear hv9
        have HB9' : Below w6.heap.size ((w6.drewN (n7 + nq)).alloc (.cells #[.string ⟨#[46, 46]⟩] 9)) w9 := by
          refine HB9.mono ?_
          simp
        have HBw9 : Below w6.heap.size w6 w9 := ((below_drewN (Below.refl w6.heap.size w6) (n7 + nq)).alloc (Nat.le_refl _) _).trans HB9'
        have HSy9 : Strs w9 none ([] : List (List UInt8)) := HSy.grow HBw9
        clear HB9
        go_wp2_with fail
        refine (pConcat ([] : List (List UInt8)) ([] : List (List UInt8)) a9 none c9 0 w9.heap.size _ (by simp) (by simp) (by simp) (by exact HS9.grow ((Below.refl _ _).alloc (Nat.le_refl _) _)) (by exact HSy9.grow ((Below.refl _ _).alloc (Nat.le_refl _) _)) hz9 (fun _ => rfl) (by omega) (by omega)).mono ?_
        rintro e w10 ⟨v10, rfl, hv10, HB10⟩
        have HB10' : Below w9.heap.size (w9.alloc (.cells #[.slice a9 ([] : List (List UInt8)).length c9, .slice none ([] : List (List UInt8)).length 0] 22)) w10 := by
          refine HB10.mono ?_
          simp
        have HBw10 : Below w9.heap.size w9 w10 := ((Below.refl w9.heap.size w9).alloc (Nat.le_refl _) _).trans HB10'
        have hj10 := jn_wt (([] : List (List UInt8)) ++ ([] : List (List UInt8)))
        have hl10 := len_wt (([] : List (List UInt8)) ++ ([] : List (List UInt8)))
        obtain ⟨-, a10, c10, rfl, hc10, HS10, -⟩ := own_strs hv10
        clear hv10 HB10
        go_wp2_with fail
        refine (pString false false (([] : List (List UInt8)) ++ ([] : List (List UInt8))) a10 c10 _ (by exact HS10) (by omega) hc10 (by omega)).mono ?_
        rintro e w11 ⟨rfl, HB11⟩
        go_wp2
        go_ret2
        have HBf : Below w1.heap.size w1 w10 := (HBw.trans (HBw9.mono HBw.size)).trans (HBw10.mono (by have := HBw.size; have := HBw9.size; omega))
        exact ⟨by rw [HS.out, HOF.out]; rfl, HBf.trans (HB11.mono HBf.size)⟩
      · unfold maxLen at hm6
        obtain rfl : k = 0 := Nat.le_zero.1 hkx
        go_wp2_with fail
        refine (HC.out 0).mono ?_
        rintro e w7 ⟨rfl, n7, rfl⟩
        go_wp2
        go_quiet (fail)
        simp only [List.drop_zero] at HO HR hj hdy hlx hly
        have HSx : Strs w6 none ([] : List (List UInt8)) := Strs.nil _ _
        have HSy : Strs w6 (some ⟨g6, 0, none⟩) y := HT6
        have hzx : (none : Option Addr) = none → 0 = 0 := fun _ => rfl
        have hzy : ((some ⟨g6, 0, none⟩) : Option Addr) = none → d6 = 0 := by simp
        go_wp2_with fail
        refine (sContains ([] : List (List UInt8)) none 0 _ (by exact HSx) (by omega)).mono ?_
        rintro e w8 ⟨rfl, rfl⟩
        have hwE : wt (([] : List (List UInt8)) ++ y) ≤ wt y := Nat.le_refl _
        have hw0 : wt ([] : List (List UInt8)) = 0 := rfl
        have HCON : Hid (([] : List (List UInt8)).contains Pa.dd = false) := rfl
        have HOF : Hid (Pa.relOk a b = true) := by show _ = _; rw [HO.out, HCON.out]; rfl
        have HS : Hid (Pa.relS a b = Pa.strg false (([] : List (List UInt8)) ++ y) false) := by show _ = _; rw [HR.out, HOF.out]; rfl
        go_wp2_with fail
        refine (pRepeat Pa.dd w6.heap.size 0 1 ([] : List (List UInt8)).length _ (by simp) (by exact (Boxed.new _ 9 (.string ⟨#[46, 46]⟩)).cell) (by omega)).mono ?_
        rintro e w9 ⟨v9, rfl, hv9, HB9⟩
        rw [show List.replicate ([] : List (List UInt8)).length (sv Pa.dd) = ([] : List (List UInt8)).map sv from rfl] at hv9
        obtain ⟨-, a9, c9, rfl, hc9, HS9, -⟩ := own_strs hv9
        have hz9 := own_none hv9
        clear hv9
        have HB9' : Below w6.heap.size ((w6.drewN (n7 + nq)).alloc (.cells #[.string ⟨#[46, 46]⟩] 9)) w9 := by
          refine HB9.mono ?_
          simp
        have HBw9 : Below w6.heap.size w6 w9 := ((below_drewN (Below.refl w6.heap.size w6) (n7 + nq)).alloc (Nat.le_refl _) _).trans HB9'
        have HSy9 : Strs w9 (some ⟨g6, 0, none⟩) y := HSy.grow HBw9
        clear HB9
        go_wp2_with fail
        refine (pConcat ([] : List (List UInt8)) y a9 (some ⟨g6, 0, none⟩) c9 d6 w9.heap.size _ (by simp) (by simp) (by simp) (by exact HS9.grow ((Below.refl _ _).alloc (Nat.le_refl _) _)) (by exact HSy9.grow ((Below.refl _ _).alloc (Nat.le_refl _) _)) hz9 (by simp) (by omega) (by omega)).mono ?_
        rintro e w10 ⟨v10, rfl, hv10, HB10⟩
        have HB10' : Below w9.heap.size (w9.alloc (.cells #[.slice a9 ([] : List (List UInt8)).length c9, .slice (some ⟨g6, 0, none⟩) y.length d6] 22)) w10 := by
          refine HB10.mono ?_
          simp
        have HBw10 : Below w9.heap.size w9 w10 := ((Below.refl w9.heap.size w9).alloc (Nat.le_refl _) _).trans HB10'
        have hj10 := jn_wt (([] : List (List UInt8)) ++ y)
        have hl10 := len_wt (([] : List (List UInt8)) ++ y)
        obtain ⟨-, a10, c10, rfl, hc10, HS10, -⟩ := own_strs hv10
        clear hv10 HB10
        go_wp2_with fail
        refine (pString false false (([] : List (List UInt8)) ++ y) a10 c10 _ (by exact HS10) (by omega) hc10 (by omega)).mono ?_
        rintro e w11 ⟨rfl, HB11⟩
        go_wp2
        go_ret2
        have HBf : Below w1.heap.size w1 w10 := (HBw.trans (HBw9.mono HBw.size)).trans (HBw10.mono (by have := HBw.size; have := HBw9.size; omega))
        exact ⟨by rw [HS.out, HOF.out]; rfl, HBf.trans (HB11.mono HBf.size)⟩
    · unfold maxLen at hm3
      rcases own_strs2 hv6 with ⟨rfl, rfl⟩ | ⟨g6, d6, rfl, hd6, hm6, HT6⟩
      · obtain rfl : k = 0 := Nat.le_zero.1 hky
        go_wp2_with fail
        refine (HC.out 0).mono ?_
        rintro e w7 ⟨rfl, n7, rfl⟩
        go_wp2
        go_quiet (fail)
        simp only [List.drop_zero] at HO HR hj hdy hlx hly
        have HSx : Strs w6 (some ⟨g3, 0, none⟩) x := HT3
        have HSy : Strs w6 none ([] : List (List UInt8)) := Strs.nil _ _
        have hzx : ((some ⟨g3, 0, none⟩) : Option Addr) = none → d3 = 0 := by simp
        have hzy : (none : Option Addr) = none → 0 = 0 := fun _ => rfl
        go_wp2_with fail
        refine (sContains x (some ⟨g3, 0, none⟩) d3 _ (by exact HSx) (by omega)).mono ?_
        rintro e w8 ⟨rfl, rfl⟩
        by_cases hcon : Pa.dd ∈ x
        · have hcd : decide (Pa.dd ∈ x) = true := by simpa using hcon
          have HOF : Hid (Pa.relOk a b = false) := by show _ = _; rw [HO.out]; simpa using hcon
          have HS : Hid (Pa.relS a b = []) := by show _ = _; rw [HR.out, HOF.out]; rfl
          clear hcon
          go_wp2
          go_ret2
          exact ⟨by rw [HS.out, HOF.out]; rfl, below_drewN HBw _⟩
        · have hcd : decide (Pa.dd ∈ x) = false := by simpa using hcon
          have HCON : Hid (x.contains Pa.dd = false) := by show _ = _; simpa using hcon
          clear hcon
          have HOF : Hid (Pa.relOk a b = true) := by show _ = _; rw [HO.out, HCON.out]; rfl
          have HS : Hid (Pa.relS a b = Pa.strg false (List.replicate x.length Pa.dd ++ ([] : List (List UInt8))) false) := by show _ = _; rw [HR.out, HOF.out]; rfl
          go_wp2_with fail
          refine (pRepeat Pa.dd w6.heap.size 0 1 x.length _ (by simp) (by exact (Boxed.new _ 9 (.string ⟨#[46, 46]⟩)).cell) (by omega)).mono ?_
          rintro e w9 ⟨v9, rfl, hv9, HB9⟩
          rw [show List.replicate x.length (sv Pa.dd) = (List.replicate x.length Pa.dd).map sv by rw [List.map_replicate]] at hv9
          obtain ⟨-, a9, c9, rfl, hc9, HS9, -⟩ := own_strs hv9
          have hz9 := own_none hv9
          clear hv9
          have HB9' : Below w6.heap.size ((w6.drewN (n7 + nq)).alloc (.cells #[.string ⟨#[46, 46]⟩] 9)) w9 := by
            refine HB9.mono ?_
            simp
          have HBw9 : Below w6.heap.size w6 w9 := ((below_drewN (Below.refl w6.heap.size w6) (n7 + nq)).alloc (Nat.le_refl _) _).trans HB9'
          have HSy9 : Strs w9 none ([] : List (List UInt8)) := HSy.grow HBw9
          clear HB9
          have hr9 : (List.replicate x.length Pa.dd).length ≤ x.length := Nat.le_of_eq List.length_replicate
          obtain ⟨D, HD⟩ : ∃ D, Hid (List.replicate x.length Pa.dd = D) := ⟨_, rfl⟩
          rw [HD.out] at HS hj hr9 HS9 hc9
          rw [HD.out]
          go_wp2_with fail
          refine (pConcat D ([] : List (List UInt8)) a9 none c9 0 w9.heap.size _ (by simp) (by simp) (by simp) (by exact HS9.grow ((Below.refl _ _).alloc (Nat.le_refl _) _)) (by exact HSy9.grow ((Below.refl _ _).alloc (Nat.le_refl _) _)) hz9 (fun _ => rfl) (by omega) (by omega)).mono ?_
          rintro e w10 ⟨v10, rfl, hv10, HB10⟩
          have HB10' : Below w9.heap.size (w9.alloc (.cells #[.slice a9 D.length c9, .slice none ([] : List (List UInt8)).length 0] 22)) w10 := by
            refine HB10.mono ?_
            simp
          have HBw10 : Below w9.heap.size w9 w10 := ((Below.refl w9.heap.size w9).alloc (Nat.le_refl _) _).trans HB10'
          rw [List.append_nil] at hv10 HS hj
          have hj10 := jn_wt D
          have hl10 := len_wt D
          obtain ⟨-, a10, c10, rfl, hc10, HS10, -⟩ := own_strs hv10
          clear hv10 HB10
          go_wp2_with fail
          refine (pString false false D a10 c10 _ (by exact HS10) (by omega) hc10 (by omega)).mono ?_
          rintro e w11 ⟨rfl, HB11⟩
          go_wp2
          go_ret2
          have HBf : Below w1.heap.size w1 w10 := (HBw.trans (HBw9.mono HBw.size)).trans (HBw10.mono (by have := HBw.size; have := HBw9.size; omega))
          exact ⟨by rw [HS.out, HOF.out]; rfl, HBf.trans (HB11.mono HBf.size)⟩
      · unfold maxLen at hm6
        go_wp2_with fail
        refine (HC.out 0).mono ?_
        rintro e w7 ⟨rfl, n7, rfl⟩
        go_wp2
        go_quiet (fail)
        have HSx : Strs w6 (if d3 = k then some ⟨g3, 0, none⟩ else some ⟨g3, k, none⟩) (x.drop k) := by have := Strs.drop (k := k) HT3 hd3; rw [Nat.zero_add] at this; exact this
        have HSy : Strs w6 (if d6 = k then some ⟨g6, 0, none⟩ else some ⟨g6, k, none⟩) (y.drop k) := by have := Strs.drop (k := k) HT6 hd6; rw [Nat.zero_add] at this; exact this
        have hzx : ((if d3 = k then some ⟨g3, 0, none⟩ else some ⟨g3, k, none⟩) : Option Addr) = none → (d3 - k) = 0 := by split <;> simp
        have hzy : ((if d6 = k then some ⟨g6, 0, none⟩ else some ⟨g6, k, none⟩) : Option Addr) = none → (d6 - k) = 0 := by split <;> simp
        rw [HLX.out, HLY.out]
        generalize hgx : ((if d3 = k then some ⟨g3, 0, none⟩ else some ⟨g3, k, none⟩) : Option Addr) = P at HSx hzx
        generalize (d3 - k) = CX at hzx
        generalize hgy : ((if d6 = k then some ⟨g6, 0, none⟩ else some ⟨g6, k, none⟩) : Option Addr) = Q at HSy hzy
        generalize (d6 - k) = CY at hzy
        clear hgx hgy
        generalize x.drop k = xr at *
        generalize y.drop k = yr at *
        go_wp2_with fail
        refine (sContains xr P CX _ (by exact HSx) (by omega)).mono ?_
        rintro e w8 ⟨rfl, rfl⟩
        by_cases hcon : Pa.dd ∈ xr
        · have hcd : decide (Pa.dd ∈ xr) = true := by simpa using hcon
          have HOF : Hid (Pa.relOk a b = false) := by show _ = _; rw [HO.out]; simpa using hcon
          have HS : Hid (Pa.relS a b = []) := by show _ = _; rw [HR.out, HOF.out]; rfl
          clear hcon
          go_wp2
          go_ret2
          exact ⟨by rw [HS.out, HOF.out]; rfl, below_drewN HBw _⟩
        · have hcd : decide (Pa.dd ∈ xr) = false := by simpa using hcon
          have HCON : Hid (xr.contains Pa.dd = false) := by show _ = _; simpa using hcon
          clear hcon
          have HOF : Hid (Pa.relOk a b = true) := by show _ = _; rw [HO.out, HCON.out]; rfl
          have HS : Hid (Pa.relS a b = Pa.strg false (List.replicate xr.length Pa.dd ++ yr) false) := by show _ = _; rw [HR.out, HOF.out]; rfl
          go_wp2_with fail
          refine (pRepeat Pa.dd w6.heap.size 0 1 xr.length _ (by simp) (by exact (Boxed.new _ 9 (.string ⟨#[46, 46]⟩)).cell) (by omega)).mono ?_
          rintro e w9 ⟨v9, rfl, hv9, HB9⟩
          rw [show List.replicate xr.length (sv Pa.dd) = (List.replicate xr.length Pa.dd).map sv by rw [List.map_replicate]] at hv9
          obtain ⟨-, a9, c9, rfl, hc9, HS9, -⟩ := own_strs hv9
          have hz9 := own_none hv9
          clear hv9
          have HB9' : Below w6.heap.size ((w6.drewN (n7 + nq)).alloc (.cells #[.string ⟨#[46, 46]⟩] 9)) w9 := by
            refine HB9.mono ?_
            simp
          have HBw9 : Below w6.heap.size w6 w9 := ((below_drewN (Below.refl w6.heap.size w6) (n7 + nq)).alloc (Nat.le_refl _) _).trans HB9'
          have HSy9 : Strs w9 Q yr := HSy.grow HBw9
          clear HB9
          have hr9 : (List.replicate xr.length Pa.dd).length ≤ xr.length := Nat.le_of_eq List.length_replicate
          obtain ⟨D, HD⟩ : ∃ D, Hid (List.replicate xr.length Pa.dd = D) := ⟨_, rfl⟩
          rw [HD.out] at HS hj hr9 HS9 hc9
          rw [HD.out]
          go_wp2_with fail
          refine (pConcat D yr a9 Q c9 CY w9.heap.size _ (by simp) (by simp) (by simp) (by exact HS9.grow ((Below.refl _ _).alloc (Nat.le_refl _) _)) (by exact HSy9.grow ((Below.refl _ _).alloc (Nat.le_refl _) _)) hz9 hzy (by omega) (by omega)).mono ?_
          rintro e w10 ⟨v10, rfl, hv10, HB10⟩
          have HB10' : Below w9.heap.size (w9.alloc (.cells #[.slice a9 D.length c9, .slice Q yr.length CY] 22)) w10 := by
            refine HB10.mono ?_
            simp
          have HBw10 : Below w9.heap.size w9 w10 := ((Below.refl w9.heap.size w9).alloc (Nat.le_refl _) _).trans HB10'
          have hj10 := jn_wt (D ++ yr)
          have hl10 := len_wt (D ++ yr)
          obtain ⟨-, a10, c10, rfl, hc10, HS10, -⟩ := own_strs hv10
          clear hv10 HB10
          obtain ⟨Z, HZ⟩ : ∃ Z, Hid (D ++ yr = Z) := ⟨_, rfl⟩
          rw [HZ.out] at HS hj10 hl10 HS10 hc10 hj
          rw [HZ.out]
          go_wp2_with fail
          refine (pString false false Z a10 c10 _ (by exact HS10) (by omega) hc10 (by omega)).mono ?_
          rintro e w11 ⟨rfl, HB11⟩
          go_wp2
          go_ret2
          have HBf : Below w1.heap.size w1 w10 := (HBw.trans (HBw9.mono HBw.size)).trans (HBw10.mono (by have := HBw.size; have := HBw9.size; omega))
          exact ⟨by rw [HS.out, HOF.out]; rfl, HBf.trans (HB11.mono HBf.size)⟩
  · have HO : Hid (Pa.relOk a b = false) := by show _ = _; rw [Pa.relOk, if_neg hab]
    have hab' := beq_ne' _ _ hab
    clear hab
    go_enter Tryd.func23, Tryd.ntmps23
    go_wp2_with fail
    refine (pAbs a _).mono ?_
    rintro e w1 ⟨rfl, rfl⟩
    go_wp2_with fail
    refine (pAbs b _).mono ?_
    rintro e w1 ⟨rfl, rfl⟩
    go_wp2
    go_ret2
    exact ⟨by rw [Pa.relS, HO.out]; rfl, Below.refl _ _⟩
end Go.Proofs.YteggjpogaljafaaDoor
