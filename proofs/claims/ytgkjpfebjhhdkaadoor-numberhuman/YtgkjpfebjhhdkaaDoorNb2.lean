/- The walks of the plain answer's unit, Size. Conditions: lengths that fit. -/
import Derived.Test.YtgkjpfebjhhdkaaDoorNb1
namespace Go.Proofs.YtgkjpfebjhhdkaaDoor
open Go.RowKit
attribute [local go_sem] ext_eq app_eq get_eq
theorem Na.rd_less {q : Int} {r : List UInt8} (hp : Na.pl 10 r = true) (h0 : 0 ≤ q) (h1 : 0 ≤ Na.mx) (hq : q ≤ Na.mx) : Na.rd 10 q r = match Na.vl 10 Na.mx 0 r with | some n => if n ≤ q then (n, 0) else (0, 34) | none => (0, 34) := by
  unfold Na.rd
  rw [if_pos hp, Na.vl_eq (by decide) r 0 (by decide) h0 (pl_all hp), Na.vl_eq (by decide) r 0 (by decide) h1 (pl_all hp)]
  by_cases e1 : Na.dv 10 0 r ≤ q
  · rw [if_pos e1, if_pos (show Na.dv 10 0 r ≤ Na.mx by omega)]; simp [e1]
  · rw [if_neg e1]
    by_cases e2 : Na.dv 10 0 r ≤ Na.mx
    · rw [if_pos e2]; simp [e1]
    · rw [if_neg e2]
set_option maxHeartbeats 1000000 in
theorem rUnit (c : UInt8) (w : World) : Calls Tryd.prog 39 #[.int .u8 c.toNat] w fun e w' => e = .returned (.int .i64 (Na.unit c)) ∧ w' = w := by
  by_cases h1 : c = 99
  · subst h1
    go_enter Tryd.func39, Tryd.ntmps39
    go_wp2
    go_ret
    exact ⟨rfl, rfl⟩
  by_cases h2 : c = 119
  · subst h2
    go_enter Tryd.func39, Tryd.ntmps39
    go_wp2
    go_ret
    exact ⟨rfl, rfl⟩
  by_cases h3 : c = 98
  · subst h3
    go_enter Tryd.func39, Tryd.ntmps39
    go_wp2
    go_ret
    exact ⟨rfl, rfl⟩
  by_cases h4 : c = 107
  · subst h4
    go_enter Tryd.func39, Tryd.ntmps39
    go_wp2
    go_ret
    exact ⟨rfl, rfl⟩
  by_cases h5 : c = 75
  · subst h5
    go_enter Tryd.func39, Tryd.ntmps39
    go_wp2
    go_ret
    exact ⟨rfl, rfl⟩
  by_cases h6 : c = 77
  · subst h6
    go_enter Tryd.func39, Tryd.ntmps39
    go_wp2
    go_ret
    exact ⟨rfl, rfl⟩
  by_cases h7 : c = 71
  · subst h7
    go_enter Tryd.func39, Tryd.ntmps39
    go_wp2
    go_ret
    exact ⟨rfl, rfl⟩
  have HE : Hid (Na.unit c = 0) := by show _ = _; unfold Na.unit; simp [h1, h2, h3, h4, h5, h6, h7]
  have k1 := byte_no c 99 99 rfl h1
  have k2 := byte_no c 119 119 rfl h2
  have k3 := byte_no c 98 98 rfl h3
  have k4 := byte_no c 107 107 rfl h4
  have k5 := byte_no c 75 75 rfl h5
  have k6 := byte_no c 77 77 rfl h6
  have k7 := byte_no c 71 71 rfl h7
  clear h1 h2 h3 h4 h5 h6 h7
  go_enter Tryd.func39, Tryd.ntmps39
  go_wp2
  go_ret
  exact ⟨by rw [HE.out]; rfl, rfl⟩
set_option maxRecDepth 100000 in
set_option maxHeartbeats 2000000 in
theorem rSize (l : List UInt8) (w : World) (hl : l.length ≤ 2 ^ 47) : Calls Tryd.prog 13 #[.string ⟨l.toArray⟩] w fun e w' => e = .returned (.tuple #[.int .i64 (Na.sizeP l).1, .int .i64 (Na.sizeP l).2]) ∧ w' = w := by
  rcases List.eq_nil_or_concat l with hnil | ⟨r, c, hcon⟩
  · subst hnil
    have HP := hidA (rDigits 10 (by decide) [] w hl)
    have hp : Na.pl 10 [] = false := rfl
    rw [hp] at HP
    clear hp
    go_enter Tryd.func13, Tryd.ntmps13
    go_wp2_with (go_at_call 37; refine HP.out.mono ?_; rintro e w1 ⟨rfl, rfl⟩)
    go_ret2
    exact ⟨rfl, rfl⟩
  · rw [List.concat_eq_append] at hcon
    have HU := hidA (fun w => rUnit c w)
    have hL : l.length = r.length + 1 := by rw [hcon]; simp
    have hwr : IntKind.i64.wrap ((r.length : Int) + 1 - 1) = (r.length : Int) := by rw [IntKind.wrap_i64]; omega
    have hg2 : ∀ h : r.length < l.length, l[r.length]'h = c := by subst hcon; intro h; simp
    have huo : Na.uOf l = Na.unit c := by rw [hcon]; simp [Na.uOf]
    have htk : l.take r.length = r := by rw [hcon]; simp
    obtain ⟨hu0, hu1⟩ := Na.unit_rng c
    have HE00 : Hid (Na.sizeP l = if Na.unit c = 0 then Na.rd 10 Na.mx l else ((Na.rd 10 (Na.mx / Na.unit c) r).1 * Na.unit c, (Na.rd 10 (Na.mx / Na.unit c) r).2)) := by
      show _ = _
      unfold Na.sizeP; rw [huo, hcon, List.dropLast_concat]
    clear huo hcon
    generalize Na.unit c = u at *
    by_cases hz : u = 0
    · subst hz
      rw [if_pos rfl] at HE00
      have HE0 : Hid (Na.sizeP l = Na.rd 10 Na.mx l) := HE00
      clear HE00
      have HP := hidA (rDigits 10 (by decide) l w hl)
      cases hp : Na.pl 10 l with
      | false =>
        have HE : Hid (Na.sizeP l = (0, 22)) := by show _ = _; rw [HE0.out]; unfold Na.rd; rw [hp]; rfl
        rw [hp] at HP
        clear hp HE0
        go_enter Tryd.func13, Tryd.ntmps13
        go_wp2_with (first | (go_at_call 39; refine (HU.out _).mono ?_; rintro e w0 ⟨rfl, rfl⟩) | (go_at_call 37; refine HP.out.mono ?_; rintro e w1 ⟨rfl, rfl⟩) | (go_at_call 38; refine HV.out.mono ?_; rintro e w2 ⟨rfl, rfl⟩))
        go_ret2
        exact ⟨by rw [HE.out]; rfl, rfl⟩
      | true =>
        have HV := hidA (rValue 10 Na.mx (by decide) (by decide) l (pl_all hp) w hl)
        have hrng := fun n => Na.vl_rng (b := 10) (t := Na.mx) (by decide) l 0 n (by decide) (by decide) (pl_all hp)
        have HE1 : Hid (Na.rd 10 Na.mx l = match Na.vl 10 Na.mx 0 l with | some n => (n, 0) | none => (0, 34)) := by show _ = _; unfold Na.rd; rw [hp]; rfl
        rw [hp] at HP
        clear hp
        cases hv : Na.vl 10 Na.mx 0 l with
        | none =>
          have HE : Hid (Na.sizeP l = (0, 34)) := by show _ = _; rw [HE0.out, HE1.out, hv]
          simp only [hv, Option.getD_none, Option.isSome_none] at HV
          clear hv HE0 HE1 hrng
          go_enter Tryd.func13, Tryd.ntmps13
          go_wp2_with (first | (go_at_call 39; refine (HU.out _).mono ?_; rintro e w0 ⟨rfl, rfl⟩) | (go_at_call 37; refine HP.out.mono ?_; rintro e w1 ⟨rfl, rfl⟩) | (go_at_call 38; refine HV.out.mono ?_; rintro e w2 ⟨rfl, rfl⟩))
          go_ret2
          exact ⟨by rw [HE.out]; rfl, rfl⟩
        | some n =>
          obtain ⟨hn0, hn1⟩ := hrng n hv
          have hn2 : n ≤ 999999999999999999 := hn1
          have HE : Hid (Na.sizeP l = (n, 0)) := by show _ = _; rw [HE0.out, HE1.out, hv]
          simp only [hv, Option.getD_some, Option.isSome_some] at HV
          clear hv HE0 HE1 hrng hn1
          go_enter Tryd.func13, Tryd.ntmps13
          go_wp2_with (first | (go_at_call 39; refine (HU.out _).mono ?_; rintro e w0 ⟨rfl, rfl⟩) | (go_at_call 37; refine HP.out.mono ?_; rintro e w1 ⟨rfl, rfl⟩) | (go_at_call 38; refine HV.out.mono ?_; rintro e w2 ⟨rfl, rfl⟩))
          go_ret2
          exact ⟨by rw [HE.out]; rfl, rfl⟩
    · rw [if_neg hz] at HE00
      have hq0 : 9 ≤ (999999999999999999 : Int) / u := Int.le_ediv_of_mul_le (by omega) (by omega)
      have hq1 : (999999999999999999 : Int) / u ≤ Na.mx := Int.ediv_le_self _ (by omega)
      have hqm : ((999999999999999999 : Int) / u) * u ≤ 999999999999999999 := Int.ediv_mul_le _ hz
      have hqd : (999999999999999999 : Int).tdiv u = 999999999999999999 / u := Int.tdiv_eq_ediv_of_nonneg (by omega)
      have HE0 : Hid (Na.sizeP l = ((Na.rd 10 ((999999999999999999 : Int) / u) r).1 * u, (Na.rd 10 ((999999999999999999 : Int) / u) r).2)) := HE00
      have hz' : (u == 0) = false := by simpa using hz
      have hz'' : 0 < u := by omega
      clear HE00
      generalize (999999999999999999 : Int) / u = q at *
      have hq2 : q ≤ 999999999999999999 := hq1
      have HP := hidA (rDigits 10 (by decide) r w (by omega))
      cases hp : Na.pl 10 r with
      | false =>
        have HE : Hid (Na.sizeP l = (0, 22)) := by show _ = _; rw [HE0.out]; unfold Na.rd; rw [hp]; simp
        rw [hp] at HP
        clear hp HE0
        go_enter Tryd.func13, Tryd.ntmps13
        go_wp2_with (first | (go_at_call 39; refine (HU.out _).mono ?_; rintro e w0 ⟨rfl, rfl⟩) | (go_at_call 37; refine HP.out.mono ?_; rintro e w1 ⟨rfl, rfl⟩) | (go_at_call 38; refine HV.out.mono ?_; rintro e w2 ⟨rfl, rfl⟩))
        go_ret2
        exact ⟨by rw [HE.out]; rfl, rfl⟩
      | true =>
        have HV := hidA (rValue 10 Na.mx (by decide) (by decide) r (pl_all hp) w (by omega))
        have hrng := fun n => Na.vl_rng (b := 10) (t := Na.mx) (by decide) r 0 n (by decide) (by decide) (pl_all hp)
        have HE1 : Hid (Na.rd 10 q r = match Na.vl 10 Na.mx 0 r with | some n => if n ≤ q then (n, 0) else (0, 34) | none => (0, 34)) := Na.rd_less hp (by omega) (by decide) hq1
        rw [hp] at HP
        clear hp
        cases hv : Na.vl 10 Na.mx 0 r with
        | none =>
          have HE : Hid (Na.sizeP l = (0, 34)) := by show _ = _; rw [HE0.out, HE1.out, hv]; simp
          simp only [hv, Option.getD_none, Option.isSome_none] at HV
          clear hv HE0 HE1 hrng
          go_enter Tryd.func13, Tryd.ntmps13
          go_wp2_with (first | (go_at_call 39; refine (HU.out _).mono ?_; rintro e w0 ⟨rfl, rfl⟩) | (go_at_call 37; refine HP.out.mono ?_; rintro e w1 ⟨rfl, rfl⟩) | (go_at_call 38; refine HV.out.mono ?_; rintro e w2 ⟨rfl, rfl⟩))
          go_ret2
          exact ⟨by rw [HE.out]; rfl, rfl⟩
        | some n =>
          obtain ⟨hn0, hn1⟩ := hrng n hv
          have hn2 : n ≤ 999999999999999999 := hn1
          simp only [hv, Option.getD_some, Option.isSome_some] at HV
          by_cases hnq : q < n
          · have HE : Hid (Na.sizeP l = (0, 34)) := by show _ = _; rw [HE0.out, HE1.out, hv]; simp only []; rw [if_neg (by omega)]; simp
            clear hv HE0 HE1 hrng hn1
            go_enter Tryd.func13, Tryd.ntmps13
            go_wp2_with (first | (go_at_call 39; refine (HU.out _).mono ?_; rintro e w0 ⟨rfl, rfl⟩) | (go_at_call 37; refine HP.out.mono ?_; rintro e w1 ⟨rfl, rfl⟩) | (go_at_call 38; refine HV.out.mono ?_; rintro e w2 ⟨rfl, rfl⟩))
            go_ret2
            exact ⟨by rw [HE.out]; rfl, rfl⟩
          · have HE : Hid (Na.sizeP l = (n * u, 0)) := by show _ = _; rw [HE0.out, HE1.out, hv]; simp only []; rw [if_pos (by omega)]
            have hm0 : 0 ≤ n * u := Int.mul_nonneg hn0 hu0
            have hm1 : n * u ≤ q * u := Int.mul_le_mul_of_nonneg_right (by omega) hu0
            have hmw : IntKind.i64.wrap (n * u) = n * u := by rw [IntKind.wrap_i64]; omega
            clear hv HE0 HE1 hrng hn1
            go_enter Tryd.func13, Tryd.ntmps13
            go_wp2_with (first | (go_at_call 39; refine (HU.out _).mono ?_; rintro e w0 ⟨rfl, rfl⟩) | (go_at_call 37; refine HP.out.mono ?_; rintro e w1 ⟨rfl, rfl⟩) | (go_at_call 38; refine HV.out.mono ?_; rintro e w2 ⟨rfl, rfl⟩))
            go_ret2
            exact ⟨by rw [HE.out]; rfl, rfl⟩
end Go.Proofs.YtgkjpfebjhhdkaaDoor
