/- The walk of the plain answer Rel. Conditions: lengths that fit. -/
import Derived.Test.YteggjpogaljafaaDoorPa7
import Derived.Laws.AppendOwnNone
namespace Go.Proofs.YteggjpogaljafaaDoor
open Go.RowKit
attribute [local go_sem] ext_eq app_eq get_eq toL_eq
/-- How many names two lists begin with alike. -/
def Pa.com : List (List UInt8) → List (List UInt8) → Nat
  | x :: r, y :: s => if x = y then Pa.com r s + 1 else 0
  | _, _ => 0
def Pa.relN (x y : List (List UInt8)) : List (List UInt8) := List.replicate (x.length - Pa.com x y) Pa.dd ++ y.drop (Pa.com x y)
def Pa.relOkL (x y : List (List UInt8)) : Bool := !(x.drop (Pa.com x y)).contains Pa.dd
def Pa.relOk (a b : List UInt8) : Bool := if Pa.absB a = Pa.absB b then Pa.relOkL (Pa.lft a) (Pa.lft b) else false
def Pa.relS (a b : List UInt8) : List UInt8 := if Pa.relOk a b then Pa.strg false (Pa.relN (Pa.lft a) (Pa.lft b)) false else []
theorem own_none {W : World} {base n c : Nat} {e : TypeId} {a : Option Addr} {m : Nat} {xs : List Value} (h : W.ownsRow base e 1 (.slice a n c) m xs) : a = none → c = 0 := by
  rintro rfl
  rcases h.2 with ⟨h1, _⟩ | ⟨g, cap, cur, h1, _⟩
  · simp at h1; exact h1.2
  · simp at h1
theorem Strs.tail {W : World} {bk o : Nat} {x : List UInt8} {r : List (List UInt8)} (h : Strs W (some ⟨bk, o, none⟩) (x :: r)) : Strs W (some ⟨bk, o + 1, none⟩) r := by
  intro j u hu
  obtain ⟨bk', o', he, hlt, hc⟩ := h (j + 1) u (by simpa using hu)
  cases he
  exact ⟨bk, o + 1, rfl, hlt, by rw [show o + 1 + j = o + (j + 1) by omega]; exact hc⟩
theorem Strs.tail' {W : World} {bk o c : Nat} {x : List UInt8} {r : List (List UInt8)} (h : Strs W (some ⟨bk, o, none⟩) (x :: r)) (hc : r.length + 1 ≤ c) : Strs W (if c = 1 then some ⟨bk, o, none⟩ else some ⟨bk, o + 1, none⟩) r := by
  split
  · have : r = [] := List.length_eq_zero_iff.1 (by omega)
    subst this; exact Strs.nil _ _
  · exact h.tail
theorem no_dd {X : List (List UInt8)} (h : ∀ z ∈ X, z ≠ Pa.dd) : (!X.contains Pa.dd) = true := by
  simp only [Bool.not_eq_true', List.contains_eq_mem, decide_eq_false_iff_not]; exact fun hm => h _ hm rfl
theorem has_dd {X : List (List UInt8)} (h : Pa.dd ∈ X) : (!X.contains Pa.dd) = false := by simpa using h
theorem jn_rep (n : Nat) (y : List (List UInt8)) : wt (List.replicate n Pa.dd ++ y) ≤ 3 * n + wt y := by
  rw [wt_app]
  have : wt (List.replicate n Pa.dd) = 3 * n := by simp [wt, Pa.dd]; omega
  omega
theorem wt_drop (k : Nat) (y : List (List UInt8)) : wt (y.drop k) ≤ wt y := by
  have := wt_app (y.take k) (y.drop k)
  rw [List.take_append_drop] at this; omega
theorem one_cells (ys : List (List UInt8)) : ∀ u ∈ ys.map sv, u.oneCell' = true := by
  intro u hu; simp at hu; obtain ⟨x, _, rfl⟩ := hu; rfl
theorem strs_news {W : World} {ad : Addr} {ys : List (List UInt8)} (h : Strs W (some ad) ys) : ∀ j u, (ys.map sv)[j]? = some u → W.cell? (ad.add j) = some u := by
  intro j u hu
  rw [List.getElem?_map] at hu
  obtain ⟨x, hx, rfl⟩ := Option.map_eq_some_iff.1 hu
  obtain ⟨bk, o, he, hlt, hc⟩ := h j x hx
  cases he
  have hadd : (⟨bk, o, none⟩ : Addr).add j = ⟨bk, o + j, none⟩ := by unfold Addr.add; split <;> simp_all
  rw [hadd]; exact hc
set_option maxRecDepth 100000 in
set_option maxHeartbeats 4000000 in
theorem rRel (a b : List UInt8) (w : World) (ha : a.length ≤ 2 ^ 37) (hb : b.length ≤ 2 ^ 37) : Calls Tryd.prog 24 #[.string ⟨a.toArray⟩, .string ⟨b.toArray⟩] w fun e w' => e = .returned (.tuple #[.string ⟨(Pa.relS a b).toArray⟩, .bool (Pa.relOk a b)]) ∧ Below w.heap.size w w' := by
  obtain ⟨i0, hi, hz0, hz1, hz2⟩ := info_parts info9
  have hna := Pa.nms_length a
  have hnb := Pa.nms_length b
  have hwa := wt_lft a
  have hwb := wt_lft b
  have HMa : Hid (a.length ≤ maxLen) := by show _ ≤ _; unfold maxLen; omega
  have HMb : Hid (b.length ≤ maxLen) := by show _ ≤ _; unfold maxLen; omega
  by_cases hab : Pa.absB a = Pa.absB b
  · have HO : Hid (Pa.relOk a b = Pa.relOkL (Pa.cl (Pa.absB a) (Pa.nms a)) (Pa.cl (Pa.absB b) (Pa.nms b))) := by show _ = _; rw [Pa.relOk, if_pos hab]; rfl
    have HR : Hid (Pa.relS a b = if Pa.relOk a b then Pa.strg false (Pa.relN (Pa.cl (Pa.absB a) (Pa.nms a)) (Pa.cl (Pa.absB b) (Pa.nms b))) false else []) := rfl
    have hab' := beq_ne _ _ hab
    have HAB : Hid (Pa.absB a = Pa.absB b) := hab
    clear hab
    go_enter Tryd.func24, Tryd.ntmps24
    go_wp2_with fail
    refine (rAbs a _ HMa.out).mono ?_
    rintro e w1 ⟨rfl, rfl⟩
    go_wp2_with fail
    refine (rAbs b _ HMb.out).mono ?_
    rintro e w1 ⟨rfl, rfl⟩
    go_wp2_with fail
    refine (rAbs a _ HMa.out).mono ?_
    rintro e w1 ⟨rfl, rfl⟩
    go_wp2_with fail
    refine (rNames a _ (by omega)).mono ?_
    rintro e w2 ⟨v, rfl, hv, HB2⟩
    obtain ⟨-, a2, c2, rfl, hc2, HS2, hb2⟩ := own_strs hv
    clear hv
    go_wp2_with fail
    refine (rClean (Pa.absB a) (Pa.nms a) a2 c2 _ HS2 (by omega)).mono ?_
    rintro e w3 ⟨v, rfl, hv, HB3⟩
    obtain ⟨-, a3, c3, rfl, hc3, HS3, hb3⟩ := own_strs hv
    have hz3 := own_none hv
    clear hv HS2 hb2
    go_wp2_with fail
    refine (rAbs b _ HMb.out).mono ?_
    rintro e w4 ⟨rfl, rfl⟩
    go_wp2_with fail
    refine (rNames b _ (by omega)).mono ?_
    rintro e w5 ⟨v, rfl, hv, HB5⟩
    obtain ⟨-, a5, c5, rfl, hc5, HS5, hb5⟩ := own_strs hv
    clear hv
    go_wp2_with fail
    refine (rClean (Pa.absB b) (Pa.nms b) a5 c5 _ HS5 (by omega)).mono ?_
    rintro e w6 ⟨v, rfl, hv, HB6⟩
    obtain ⟨-, a6, c6, rfl, hc6, HS6, hb6⟩ := own_strs hv
    have hz6 := own_none hv
    clear hv HS5 hb5
    have hca' : wt (Pa.cl (Pa.absB a) (Pa.nms a)) ≤ 2 ^ 37 + 1 := by have : wt (Pa.cl (Pa.absB a) (Pa.nms a)) ≤ a.length + 1 := hwa; omega
    have hcb' : wt (Pa.cl (Pa.absB b) (Pa.nms b)) ≤ 2 ^ 37 + 1 := by have : wt (Pa.cl (Pa.absB b) (Pa.nms b)) ≤ b.length + 1 := hwb; omega
    have hla := len_wt (Pa.cl (Pa.absB a) (Pa.nms a))
    have hlb := len_wt (Pa.cl (Pa.absB b) (Pa.nms b))
    clear hwa hwb
    generalize Pa.cl (Pa.absB a) (Pa.nms a) = x at *
    generalize Pa.cl (Pa.absB b) (Pa.nms b) = y at *
    have HS3' : Strs w6 a3 x := (HS3.grow HB5).grow HB6
    clear HS3 hb3 hb6
    have HBw : Below w1.heap.size w1 w6 := ((HB2.trans (HB3.mono HB2.size)).trans (HB5.mono (by have := HB2.size; have := HB3.size; omega))).trans (HB6.mono (by have := HB2.size; have := HB3.size; have := HB5.size; omega))
    clear HB2 HB3 HB5 HB6
    clear hz3
    go_wp2
    go_loopw [6, 7] (fun s t W => ∃ (xr yr : List (List UInt8)) (k : Nat) (p q : Option Addr) (c d : Nat), s = .slice p xr.length c ∧ t = .slice q yr.length d ∧ xr.length ≤ c ∧ yr.length ≤ d ∧ Strs w6 p xr ∧ Strs w6 q yr ∧ (q = none → d = 0) ∧ Hid (x.drop k = xr ∧ y.drop k = yr ∧ Pa.com x y = k + Pa.com xr yr) ∧ ∃ n, W = w6.drewN n) (fun s _ _ => match s with | .slice _ n _ => n | _ => 0)
    case atStart => exact ⟨x, y, 0, a3, a6, c3, c6, rfl, rfl, hc3, hc6, HS3', HS6, hz6, ⟨rfl, rfl, (Nat.zero_add _).symm⟩, 0, rfl⟩
    case round =>
      obtain ⟨xr, yr, k, p, q, c, d, rfl, rfl, hcx, hcy, hSx, hSy, hq, HK, n, rfl⟩ := hrel
      clear HS3' HS6 hz6
      by_cases hx : xr = []
      · have HC : Hid (Pa.com xr yr = 0) := by show _ = _; rw [hx]; simp [Pa.com]
        have hx0 : decide (0 < xr.length) = false := by simp [hx]
        clear hx
        go_wp2
        go_quiet (fail)
        go_wp2
        have HE : Hid (x.drop (Pa.com x y) = xr ∧ y.drop (Pa.com x y) = yr ∧ x.length - Pa.com x y = xr.length) := by
          have h := HK.out.2.2
          rw [HC.out, Nat.add_zero] at h
          refine ⟨by rw [h]; exact HK.out.1, by rw [h]; exact HK.out.2.1, ?_⟩
          rw [h, ← HK.out.1, List.length_drop]
        have hwx : wt xr ≤ 2 ^ 37 + 1 := by rw [← HK.out.1]; have := wt_drop k x; omega
        have hwy : wt yr ≤ 2 ^ 37 + 1 := by rw [← HK.out.2.1]; have := wt_drop k y; omega
        have hlx := len_wt xr
        have hly := len_wt yr
        go_loopw [8, 49] (fun v i W => ∃ j : Nat, j ≤ xr.length ∧ i = .int .i64 j ∧ W.ownsRow w6.heap.size 9 1 v j ((List.replicate j Pa.dd).map sv) ∧ Below w6.heap.size w6 W ∧ Hid (∀ z ∈ xr.take j, z ≠ Pa.dd)) (fun _ i _ => xr.length - (intOf i).toNat)
        case atStart => exact ⟨0, Nat.zero_le _, rfl, World.ownsRow_nil _ _ _ _, ⟨rfl, rfl, rfl, Nat.le_refl _, fun _ _ => rfl⟩, by intro z hz; simp at hz⟩
        case round =>
          obtain ⟨j, hj, rfl, hrow, HBr, HZ⟩ := hrel
          have hszr := HBr.size
          by_cases hlt : j < xr.length
          · obtain ⟨g, og, he, hg, hcg0⟩ := hSx j xr[j] (List.getElem?_eq_getElem hlt)
            subst he
            have hcg : wr.cell? ⟨g, og + j, none⟩ = some (.string ⟨xr[j].toArray⟩) := (HBr.cell (p := ⟨g, og + j, none⟩) hg).trans hcg0
            clear hcg0
            have HX : Hid (xr.take (j + 1) = xr.take j ++ [xr[j]]) := take_getL _ j hlt
            have HM : Hid (xr[j] ∈ xr) := List.getElem_mem _
            generalize xr[j] = t at hcg HX HM
            by_cases ht : t = Pa.dd
            · subst ht
              have hcg' : wr.cell? ⟨g, og + j, none⟩ = some (.string ⟨[46, 46].toArray⟩) := hcg
              clear hcg
              have HOF : Hid (Pa.relOk a b = false) := by show _ = _; rw [HO.out, Pa.relOkL, HE.out.1]; exact has_dd HM.out
              go_wp2
              go_ret2
              exact ⟨by rw [HR.out, HOF.out]; rfl, HBw.trans (HBr.mono HBw.size)⟩
            · have ht' : (t == [46, 46]) = false := by simpa [Pa.dd] using ht
              have HT : Hid (t ≠ Pa.dd) := ht
              clear ht
              go_wp2_with (at_builtin; refine wpList_append_own _ rfl _ _ 22 rfl w6.heap.size 9 i0 (.string ⟨#[]⟩) 1 16 Tryd.underlying22 hi hz0 hz1 hz2 rfl (by decide) _ _ _ rfl (hrow.alloc _) ⟨wr.heap.size, 0, none⟩ 1 1 [.string ⟨[46, 46].toArray⟩] rfl rfl (cell_one_new _ _ _) (one_cell _) (by unfold maxLen; omega) (by omega) (by simp; omega) ?_; intro v' w7 hown' hgrow _)
              go_roundw
              case rel => exact ⟨j + 1, by omega, by go_num, by rw [List.replicate_succ', List.map_append]; exact hown', below_app HBr (Nat.le_refl _) hrow hgrow, by
                rw [HX.out]; intro z hz; rw [List.mem_append] at hz
                rcases hz with hz | hz
                · exact HZ.out z hz
                · simp at hz; rw [hz]; exact HT.out⟩
              case measure => simp [intOf]; omega
          · obtain rfl : j = xr.length := by omega
            rw [List.take_length] at HZ
            have HOK : Hid (Pa.relOk a b = true) := by show _ = _; rw [HO.out, Pa.relOkL, HE.out.1]; exact no_dd HZ.out
            have HN : Hid (Pa.relS a b = Pa.strg false (List.replicate xr.length Pa.dd ++ yr) false) := by show _ = _; rw [HR.out, HOK.out, Pa.relN, HE.out.2.1, HE.out.2.2]; rfl
            have hwz := jn_rep xr.length yr
            have hlz := len_wt (List.replicate xr.length Pa.dd ++ yr)
            have hjz := jn_wt (List.replicate xr.length Pa.dd ++ yr)
            have hSyr : Strs wr q yr := hSy.grow HBr
            obtain ⟨Z, hZ⟩ : ∃ Z, List.replicate xr.length Pa.dd ++ yr = Z := ⟨_, rfl⟩
            rw [hZ] at HN hwz hlz hjz
            have HZZ : Hid (List.replicate xr.length Pa.dd ++ yr = Z) := hZ
            clear hZ hlt
            cases q with
            | none =>
              obtain rfl : d = 0 := hq rfl
              obtain rfl : yr = [] := by
                cases hY : yr with
                | nil => rfl
                | cons z zs => obtain ⟨_, _, h, _⟩ := hSyr 0 z (by rw [hY]; rfl); cases h
              have HB7 : Below w1.heap.size w1 wr := HBw.trans (HBr.mono HBw.size)
              have hown : wr.ownsRow w6.heap.size 9 1 u8 Z.length (Z.map sv) := by rw [← HZZ.out]; simpa using hrow
              obtain ⟨-, a7, c7, rfl, hc7, HS7, hb7⟩ := own_strs hown
              clear hown
              by_cases hZ : Z = []
              · have hZ0 := len0 Z hZ
                rw [hZ] at HN
                clear hZ
                go_wp2_with (at_builtin; refine wpList_append_own_none rfl _ _ 22 rfl w6.heap.size 9 i0 1 Tryd.underlying22 hi _ _ _ rfl hrow rfl ?_)
                go_ret2
                exact ⟨by rw [HN.out, HOK.out]; rfl, HB7⟩
              · have hZ0 := lenN Z hZ
                have HZN : Hid (¬ Z = []) := hZ
                clear hZ
                go_wp2_with (at_builtin; refine wpList_append_own_none rfl _ _ 22 rfl w6.heap.size 9 i0 1 Tryd.underlying22 hi _ _ _ rfl hrow rfl ?_)
                refine (rJoined Z a7 c7 _ HS7 (by omega) (by omega)).mono ?_
                rintro e w8 ⟨rfl, rfl⟩
                go_wp2
                go_ret2
                exact ⟨by rw [HN.out, HOK.out]; simp [Pa.strg, HZN.out], HB7⟩
            | some qa =>
              by_cases hZ : Z = []
              · have hZ0 := len0 Z hZ
                rw [hZ] at HN
                clear hZ
                go_wp2_with (at_builtin; refine wpList_append_own _ rfl _ _ 22 rfl w6.heap.size 9 i0 (.string ⟨#[]⟩) 1 16 Tryd.underlying22 hi hz0 hz1 hz2 rfl (by decide) _ _ _ rfl hrow qa yr.length d (yr.map sv) rfl (by simp) (strs_news hSyr) (one_cells _) (by unfold maxLen; omega) (by omega) (by omega) ?_; intro v' w7 hown' hgrow _; have HB7 : Below w1.heap.size w1 w7 := HBw.trans ((HBr.grown hgrow hszr (fun j ej => (hrow.lt j ej).1)).mono HBw.size); have hown : w7.ownsRow w6.heap.size 9 1 v' Z.length (Z.map sv) := (by rw [← HZZ.out]; simpa using hown'); clear hown' hgrow; obtain ⟨-, a7, c7, rfl, hc7, HS7, hb7⟩ := own_strs hown; clear hown)
                go_ret2
                exact ⟨by rw [HN.out, HOK.out]; rfl, HB7⟩
              · have hZ0 := lenN Z hZ
                have HZN : Hid (¬ Z = []) := hZ
                clear hZ
                go_wp2_with (at_builtin; refine wpList_append_own _ rfl _ _ 22 rfl w6.heap.size 9 i0 (.string ⟨#[]⟩) 1 16 Tryd.underlying22 hi hz0 hz1 hz2 rfl (by decide) _ _ _ rfl hrow qa yr.length d (yr.map sv) rfl (by simp) (strs_news hSyr) (one_cells _) (by unfold maxLen; omega) (by omega) (by omega) ?_; intro v' w7 hown' hgrow _; have HB7 : Below w1.heap.size w1 w7 := HBw.trans ((HBr.grown hgrow hszr (fun j ej => (hrow.lt j ej).1)).mono HBw.size); have hown : w7.ownsRow w6.heap.size 9 1 v' Z.length (Z.map sv) := (by rw [← HZZ.out]; simpa using hown'); clear hown' hgrow; obtain ⟨-, a7, c7, rfl, hc7, HS7, hb7⟩ := own_strs hown; clear hown)
                refine (rJoined Z a7 c7 _ HS7 (by omega) (by omega)).mono ?_
                rintro e w8 ⟨rfl, rfl⟩
                go_wp2
                go_ret2
                exact ⟨by rw [HN.out, HOK.out]; simp [Pa.strg, HZN.out], HB7⟩
      · have hx0 : decide (0 < xr.length) = true := by have := List.length_pos_iff.2 hx; simpa using this
        have hx1 : 0 < xr.length := List.length_pos_iff.2 hx
        by_cases hy : yr = []
        · have HC : Hid (Pa.com xr yr = 0) := by show _ = _; rw [hy]; cases xr <;> simp [Pa.com]
          have hy0 : decide (0 < yr.length) = false := by simp [hy]
          clear hx hy
          go_wp2
          go_quiet (fail)
          go_wp2
          have HE : Hid (x.drop (Pa.com x y) = xr ∧ y.drop (Pa.com x y) = yr ∧ x.length - Pa.com x y = xr.length) := by
            have h := HK.out.2.2
            rw [HC.out, Nat.add_zero] at h
            refine ⟨by rw [h]; exact HK.out.1, by rw [h]; exact HK.out.2.1, ?_⟩
            rw [h, ← HK.out.1, List.length_drop]
          have hwx : wt xr ≤ 2 ^ 37 + 1 := by rw [← HK.out.1]; have := wt_drop k x; omega
          have hwy : wt yr ≤ 2 ^ 37 + 1 := by rw [← HK.out.2.1]; have := wt_drop k y; omega
          have hlx := len_wt xr
          have hly := len_wt yr
          go_loopw [8, 49] (fun v i W => ∃ j : Nat, j ≤ xr.length ∧ i = .int .i64 j ∧ W.ownsRow w6.heap.size 9 1 v j ((List.replicate j Pa.dd).map sv) ∧ Below w6.heap.size w6 W ∧ Hid (∀ z ∈ xr.take j, z ≠ Pa.dd)) (fun _ i _ => xr.length - (intOf i).toNat)
          case atStart => exact ⟨0, Nat.zero_le _, rfl, World.ownsRow_nil _ _ _ _, ⟨rfl, rfl, rfl, Nat.le_refl _, fun _ _ => rfl⟩, by intro z hz; simp at hz⟩
          case round =>
            obtain ⟨j, hj, rfl, hrow, HBr, HZ⟩ := hrel
            have hszr := HBr.size
            by_cases hlt : j < xr.length
            · obtain ⟨g, og, he, hg, hcg0⟩ := hSx j xr[j] (List.getElem?_eq_getElem hlt)
              subst he
              have hcg : wr.cell? ⟨g, og + j, none⟩ = some (.string ⟨xr[j].toArray⟩) := (HBr.cell (p := ⟨g, og + j, none⟩) hg).trans hcg0
              clear hcg0
              have HX : Hid (xr.take (j + 1) = xr.take j ++ [xr[j]]) := take_getL _ j hlt
              have HM : Hid (xr[j] ∈ xr) := List.getElem_mem _
              generalize xr[j] = t at hcg HX HM
              by_cases ht : t = Pa.dd
              · subst ht
                have hcg' : wr.cell? ⟨g, og + j, none⟩ = some (.string ⟨[46, 46].toArray⟩) := hcg
                clear hcg
                have HOF : Hid (Pa.relOk a b = false) := by show _ = _; rw [HO.out, Pa.relOkL, HE.out.1]; exact has_dd HM.out
                go_wp2
                go_ret2
                exact ⟨by rw [HR.out, HOF.out]; rfl, HBw.trans (HBr.mono HBw.size)⟩
              · have ht' : (t == [46, 46]) = false := by simpa [Pa.dd] using ht
                have HT : Hid (t ≠ Pa.dd) := ht
                clear ht
                go_wp2_with (at_builtin; refine wpList_append_own _ rfl _ _ 22 rfl w6.heap.size 9 i0 (.string ⟨#[]⟩) 1 16 Tryd.underlying22 hi hz0 hz1 hz2 rfl (by decide) _ _ _ rfl (hrow.alloc _) ⟨wr.heap.size, 0, none⟩ 1 1 [.string ⟨[46, 46].toArray⟩] rfl rfl (cell_one_new _ _ _) (one_cell _) (by unfold maxLen; omega) (by omega) (by simp; omega) ?_; intro v' w7 hown' hgrow _)
                go_roundw
                case rel => exact ⟨j + 1, by omega, by go_num, by rw [List.replicate_succ', List.map_append]; exact hown', below_app HBr (Nat.le_refl _) hrow hgrow, by
                  rw [HX.out]; intro z hz; rw [List.mem_append] at hz
                  rcases hz with hz | hz
                  · exact HZ.out z hz
                  · simp at hz; rw [hz]; exact HT.out⟩
                case measure => simp [intOf]; omega
            · obtain rfl : j = xr.length := by omega
              rw [List.take_length] at HZ
              have HOK : Hid (Pa.relOk a b = true) := by show _ = _; rw [HO.out, Pa.relOkL, HE.out.1]; exact no_dd HZ.out
              have HN : Hid (Pa.relS a b = Pa.strg false (List.replicate xr.length Pa.dd ++ yr) false) := by show _ = _; rw [HR.out, HOK.out, Pa.relN, HE.out.2.1, HE.out.2.2]; rfl
              have hwz := jn_rep xr.length yr
              have hlz := len_wt (List.replicate xr.length Pa.dd ++ yr)
              have hjz := jn_wt (List.replicate xr.length Pa.dd ++ yr)
              have hSyr : Strs wr q yr := hSy.grow HBr
              obtain ⟨Z, hZ⟩ : ∃ Z, List.replicate xr.length Pa.dd ++ yr = Z := ⟨_, rfl⟩
              rw [hZ] at HN hwz hlz hjz
              have HZZ : Hid (List.replicate xr.length Pa.dd ++ yr = Z) := hZ
              clear hZ hlt
              cases q with
              | none =>
                obtain rfl : d = 0 := hq rfl
                obtain rfl : yr = [] := by
                  cases hY : yr with
                  | nil => rfl
                  | cons z zs => obtain ⟨_, _, h, _⟩ := hSyr 0 z (by rw [hY]; rfl); cases h
                have HB7 : Below w1.heap.size w1 wr := HBw.trans (HBr.mono HBw.size)
                have hown : wr.ownsRow w6.heap.size 9 1 u8 Z.length (Z.map sv) := by rw [← HZZ.out]; simpa using hrow
                obtain ⟨-, a7, c7, rfl, hc7, HS7, hb7⟩ := own_strs hown
                clear hown
                by_cases hZ : Z = []
                · have hZ0 := len0 Z hZ
                  rw [hZ] at HN
                  clear hZ
                  go_wp2_with (at_builtin; refine wpList_append_own_none rfl _ _ 22 rfl w6.heap.size 9 i0 1 Tryd.underlying22 hi _ _ _ rfl hrow rfl ?_)
                  go_ret2
                  exact ⟨by rw [HN.out, HOK.out]; rfl, HB7⟩
                · have hZ0 := lenN Z hZ
                  have HZN : Hid (¬ Z = []) := hZ
                  clear hZ
                  go_wp2_with (at_builtin; refine wpList_append_own_none rfl _ _ 22 rfl w6.heap.size 9 i0 1 Tryd.underlying22 hi _ _ _ rfl hrow rfl ?_)
                  refine (rJoined Z a7 c7 _ HS7 (by omega) (by omega)).mono ?_
                  rintro e w8 ⟨rfl, rfl⟩
                  go_wp2
                  go_ret2
                  exact ⟨by rw [HN.out, HOK.out]; simp [Pa.strg, HZN.out], HB7⟩
              | some qa =>
                by_cases hZ : Z = []
                · have hZ0 := len0 Z hZ
                  rw [hZ] at HN
                  clear hZ
                  go_wp2_with (at_builtin; refine wpList_append_own _ rfl _ _ 22 rfl w6.heap.size 9 i0 (.string ⟨#[]⟩) 1 16 Tryd.underlying22 hi hz0 hz1 hz2 rfl (by decide) _ _ _ rfl hrow qa yr.length d (yr.map sv) rfl (by simp) (strs_news hSyr) (one_cells _) (by unfold maxLen; omega) (by omega) (by omega) ?_; intro v' w7 hown' hgrow _; have HB7 : Below w1.heap.size w1 w7 := HBw.trans ((HBr.grown hgrow hszr (fun j ej => (hrow.lt j ej).1)).mono HBw.size); have hown : w7.ownsRow w6.heap.size 9 1 v' Z.length (Z.map sv) := (by rw [← HZZ.out]; simpa using hown'); clear hown' hgrow; obtain ⟨-, a7, c7, rfl, hc7, HS7, hb7⟩ := own_strs hown; clear hown)
                  go_ret2
                  exact ⟨by rw [HN.out, HOK.out]; rfl, HB7⟩
                · have hZ0 := lenN Z hZ
                  have HZN : Hid (¬ Z = []) := hZ
                  clear hZ
                  go_wp2_with (at_builtin; refine wpList_append_own _ rfl _ _ 22 rfl w6.heap.size 9 i0 (.string ⟨#[]⟩) 1 16 Tryd.underlying22 hi hz0 hz1 hz2 rfl (by decide) _ _ _ rfl hrow qa yr.length d (yr.map sv) rfl (by simp) (strs_news hSyr) (one_cells _) (by unfold maxLen; omega) (by omega) (by omega) ?_; intro v' w7 hown' hgrow _; have HB7 : Below w1.heap.size w1 w7 := HBw.trans ((HBr.grown hgrow hszr (fun j ej => (hrow.lt j ej).1)).mono HBw.size); have hown : w7.ownsRow w6.heap.size 9 1 v' Z.length (Z.map sv) := (by rw [← HZZ.out]; simpa using hown'); clear hown' hgrow; obtain ⟨-, a7, c7, rfl, hc7, HS7, hb7⟩ := own_strs hown; clear hown)
                  refine (rJoined Z a7 c7 _ HS7 (by omega) (by omega)).mono ?_
                  rintro e w8 ⟨rfl, rfl⟩
                  go_wp2
                  go_ret2
                  exact ⟨by rw [HN.out, HOK.out]; simp [Pa.strg, HZN.out], HB7⟩
        · have hy0 : decide (0 < yr.length) = true := by have := List.length_pos_iff.2 hy; simpa using this
          have hy1 : 0 < yr.length := List.length_pos_iff.2 hy
          obtain ⟨u, r, hur⟩ := List.exists_cons_of_ne_nil hx
          obtain ⟨v, s, hvs⟩ := List.exists_cons_of_ne_nil hy
          have HU : Hid (xr = u :: r) := hur
          have HV : Hid (yr = v :: s) := hvs
          clear hx hy
          obtain ⟨bk, o, rfl, hbk, hcell⟩ := hSx 0 u (by rw [hur]; rfl)
          obtain ⟨bk2, o2, rfl, hbk2, hcell2⟩ := hSy 0 v (by rw [hvs]; rfl)
          rw [Nat.add_zero] at hcell hcell2
          clear hur hvs
          by_cases huv : u = v
          · subst huv
            go_wp2
            go_quiet (fail)
            go_wp2
            go_quiet (fail)
            go_wp2
            have hru : xr.length - 1 = r.length := by rw [HU.out]; simp
            have hsu : yr.length - 1 = s.length := by rw [HV.out]; simp
            rw [hru, hsu]
            refine ⟨⟨r, s, k + 1, _, _, _, _, rfl, rfl, by omega, by omega, Strs.tail' (by rw [← HU.out]; exact hSx) (by omega), Strs.tail' (by rw [← HV.out]; exact hSy) (by omega), by split <;> simp, ⟨?_, ?_, ?_⟩, _, by rw [World.drewN_drewN, World.drewN_drewN]⟩, by simp; omega⟩
            · rw [← List.drop_drop, HK.out.1, HU.out]; rfl
            · rw [← List.drop_drop, HK.out.2.1, HV.out]; rfl
            · rw [HK.out.2.2, HU.out, HV.out]; simp [Pa.com]; omega
          · have huv' : (u == v) = false := by simpa using huv
            have HC : Hid (Pa.com xr yr = 0) := by show _ = _; rw [HU.out, HV.out]; simp [Pa.com, huv]
            clear huv
            go_wp2
            go_quiet (fail)
            go_wp2
            have HE : Hid (x.drop (Pa.com x y) = xr ∧ y.drop (Pa.com x y) = yr ∧ x.length - Pa.com x y = xr.length) := by
              have h := HK.out.2.2
              rw [HC.out, Nat.add_zero] at h
              refine ⟨by rw [h]; exact HK.out.1, by rw [h]; exact HK.out.2.1, ?_⟩
              rw [h, ← HK.out.1, List.length_drop]
            have hwx : wt xr ≤ 2 ^ 37 + 1 := by rw [← HK.out.1]; have := wt_drop k x; omega
            have hwy : wt yr ≤ 2 ^ 37 + 1 := by rw [← HK.out.2.1]; have := wt_drop k y; omega
            have hlx := len_wt xr
            have hly := len_wt yr
            go_loopw [8, 49] (fun v i W => ∃ j : Nat, j ≤ xr.length ∧ i = .int .i64 j ∧ W.ownsRow w6.heap.size 9 1 v j ((List.replicate j Pa.dd).map sv) ∧ Below w6.heap.size w6 W ∧ Hid (∀ z ∈ xr.take j, z ≠ Pa.dd)) (fun _ i _ => xr.length - (intOf i).toNat)
            case atStart => exact ⟨0, Nat.zero_le _, rfl, World.ownsRow_nil _ _ _ _, ⟨rfl, rfl, rfl, Nat.le_refl _, fun _ _ => rfl⟩, by intro z hz; simp at hz⟩
            case round =>
              obtain ⟨j, hj, rfl, hrow, HBr, HZ⟩ := hrel
              have hszr := HBr.size
              by_cases hlt : j < xr.length
              · obtain ⟨g, og, he, hg, hcg0⟩ := hSx j xr[j] (List.getElem?_eq_getElem hlt)
                cases he
                have hcg : wr.cell? ⟨bk, o + j, none⟩ = some (.string ⟨xr[j].toArray⟩) := (HBr.cell (p := ⟨bk, o + j, none⟩) hg).trans hcg0
                clear hcg0
                have HX : Hid (xr.take (j + 1) = xr.take j ++ [xr[j]]) := take_getL _ j hlt
                have HM : Hid (xr[j] ∈ xr) := List.getElem_mem _
                generalize xr[j] = t at hcg HX HM
                by_cases ht : t = Pa.dd
                · subst ht
                  have hcg' : wr.cell? ⟨bk, o + j, none⟩ = some (.string ⟨[46, 46].toArray⟩) := hcg
                  clear hcg
                  have HOF : Hid (Pa.relOk a b = false) := by show _ = _; rw [HO.out, Pa.relOkL, HE.out.1]; exact has_dd HM.out
                  go_wp2
                  go_ret2
                  exact ⟨by rw [HR.out, HOF.out]; rfl, HBw.trans (HBr.mono HBw.size)⟩
                · have ht' : (t == [46, 46]) = false := by simpa [Pa.dd] using ht
                  have HT : Hid (t ≠ Pa.dd) := ht
                  clear ht
                  go_wp2_with (at_builtin; refine wpList_append_own _ rfl _ _ 22 rfl w6.heap.size 9 i0 (.string ⟨#[]⟩) 1 16 Tryd.underlying22 hi hz0 hz1 hz2 rfl (by decide) _ _ _ rfl (hrow.alloc _) ⟨wr.heap.size, 0, none⟩ 1 1 [.string ⟨[46, 46].toArray⟩] rfl rfl (cell_one_new _ _ _) (one_cell _) (by unfold maxLen; omega) (by omega) (by simp; omega) ?_; intro v' w7 hown' hgrow _)
                  go_roundw
                  case rel => exact ⟨j + 1, by omega, by go_num, by rw [List.replicate_succ', List.map_append]; exact hown', below_app HBr (Nat.le_refl _) hrow hgrow, by
                    rw [HX.out]; intro z hz; rw [List.mem_append] at hz
                    rcases hz with hz | hz
                    · exact HZ.out z hz
                    · simp at hz; rw [hz]; exact HT.out⟩
                  case measure => simp [intOf]; omega
              · obtain rfl : j = xr.length := by omega
                rw [List.take_length] at HZ
                have HOK : Hid (Pa.relOk a b = true) := by show _ = _; rw [HO.out, Pa.relOkL, HE.out.1]; exact no_dd HZ.out
                have HN : Hid (Pa.relS a b = Pa.strg false (List.replicate xr.length Pa.dd ++ yr) false) := by show _ = _; rw [HR.out, HOK.out, Pa.relN, HE.out.2.1, HE.out.2.2]; rfl
                have hwz := jn_rep xr.length yr
                have hlz := len_wt (List.replicate xr.length Pa.dd ++ yr)
                have hjz := jn_wt (List.replicate xr.length Pa.dd ++ yr)
                have hSyr : Strs wr (some ⟨bk2, o2, none⟩) yr := hSy.grow HBr
                obtain ⟨Z, hZ⟩ : ∃ Z, List.replicate xr.length Pa.dd ++ yr = Z := ⟨_, rfl⟩
                rw [hZ] at HN hwz hlz hjz
                have HZZ : Hid (List.replicate xr.length Pa.dd ++ yr = Z) := hZ
                clear hZ hlt
                by_cases hZ : Z = []
                · have hZ0 := len0 Z hZ
                  rw [hZ] at HN
                  clear hZ
                  go_wp2_with (at_builtin; refine wpList_append_own _ rfl _ _ 22 rfl w6.heap.size 9 i0 (.string ⟨#[]⟩) 1 16 Tryd.underlying22 hi hz0 hz1 hz2 rfl (by decide) _ _ _ rfl hrow ⟨bk2, o2, none⟩ yr.length d (yr.map sv) rfl (by simp) (strs_news hSyr) (one_cells _) (by unfold maxLen; omega) (by omega) (by omega) ?_; intro v' w7 hown' hgrow _; have HB7 : Below w1.heap.size w1 w7 := HBw.trans ((HBr.grown hgrow hszr (fun j ej => (hrow.lt j ej).1)).mono HBw.size); have hown : w7.ownsRow w6.heap.size 9 1 v' Z.length (Z.map sv) := (by rw [← HZZ.out]; simpa using hown'); clear hown' hgrow; obtain ⟨-, a7, c7, rfl, hc7, HS7, hb7⟩ := own_strs hown; clear hown)
                  go_ret2
                  exact ⟨by rw [HN.out, HOK.out]; rfl, HB7⟩
                · have hZ0 := lenN Z hZ
                  have HZN : Hid (¬ Z = []) := hZ
                  clear hZ
                  go_wp2_with (at_builtin; refine wpList_append_own _ rfl _ _ 22 rfl w6.heap.size 9 i0 (.string ⟨#[]⟩) 1 16 Tryd.underlying22 hi hz0 hz1 hz2 rfl (by decide) _ _ _ rfl hrow ⟨bk2, o2, none⟩ yr.length d (yr.map sv) rfl (by simp) (strs_news hSyr) (one_cells _) (by unfold maxLen; omega) (by omega) (by omega) ?_; intro v' w7 hown' hgrow _; have HB7 : Below w1.heap.size w1 w7 := HBw.trans ((HBr.grown hgrow hszr (fun j ej => (hrow.lt j ej).1)).mono HBw.size); have hown : w7.ownsRow w6.heap.size 9 1 v' Z.length (Z.map sv) := (by rw [← HZZ.out]; simpa using hown'); clear hown' hgrow; obtain ⟨-, a7, c7, rfl, hc7, HS7, hb7⟩ := own_strs hown; clear hown)
                  refine (rJoined Z a7 c7 _ HS7 (by omega) (by omega)).mono ?_
                  rintro e w8 ⟨rfl, rfl⟩
                  go_wp2
                  go_ret2
                  exact ⟨by rw [HN.out, HOK.out]; simp [Pa.strg, HZN.out], HB7⟩
  · have HO : Hid (Pa.relOk a b = false) := by show _ = _; rw [Pa.relOk, if_neg hab]
    have hab' := beq_ne' _ _ hab
    clear hab
    go_enter Tryd.func24, Tryd.ntmps24
    go_wp2_with fail
    refine (rAbs a _ HMa.out).mono ?_
    rintro e w1 ⟨rfl, rfl⟩
    go_wp2_with fail
    refine (rAbs b _ HMb.out).mono ?_
    rintro e w1 ⟨rfl, rfl⟩
    go_wp2
    go_ret2
    exact ⟨by rw [Pa.relS, HO.out]; rfl, Below.refl _ _⟩
end Go.Proofs.YteggjpogaljafaaDoor
