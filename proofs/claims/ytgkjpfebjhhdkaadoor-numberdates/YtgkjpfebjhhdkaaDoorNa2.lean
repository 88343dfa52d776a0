/- The walks of the program's Int, Size, Octal. Conditions: lengths that fit. -/
import Derived.Test.YtgkjpfebjhhdkaaDoorNa1
namespace Go.Proofs.YtgkjpfebjhhdkaaDoor
open Go.RowKit
attribute [local go_sem] ext_eq app_eq get_eq
theorem nOctal (l : List UInt8) (w : World) : Calls Tryd.prog 10 #[.string ⟨l.toArray⟩] w fun e w' => e = .returned (.tuple #[.int .i64 (Na.octP l).1, .int .i64 (Na.octP l).2]) ∧ Below w.heap.size w w' := by
  have HR := hidA (nRead 8 Na.mx (by decide) (by decide) l w)
  have HE : Hid (Na.octP l = Na.rd 8 Na.mx l) := rfl
  generalize Na.rd 8 Na.mx l = P at HR HE
  go_enter Tryd.func10, Tryd.ntmps10
  go_wp2_with (go_at_call 32; refine HR.out.mono ?_; rintro e w1 ⟨rfl, b1⟩)
  go_ret2
  exact ⟨by rw [HE.out]; rfl, b1⟩
set_option maxRecDepth 100000 in
set_option maxHeartbeats 1000000 in
theorem nInt (l : List UInt8) (w : World) (hl : l.length ≤ 2 ^ 47) : Calls Tryd.prog 8 #[.string ⟨l.toArray⟩] w fun e w' => e = .returned (.tuple #[.int .i64 (Na.intP l).1, .int .i64 (Na.intP l).2]) ∧ Below w.heap.size w w' := by
  have HR := hidA (fun l => nRead 10 Na.mx (by decide) (by decide) l w)
  cases l with
  | nil =>
    have HR2 := hidA (HR.out [])
    have HE : Hid (Na.intP [] = Na.rd 10 Na.mx []) := rfl
    clear HR
    generalize Na.rd 10 Na.mx [] = P at HR2 HE
    go_enter Tryd.func8, Tryd.ntmps8
    go_wp2_with (go_at_call 32; refine HR2.out.mono ?_; rintro e w1 ⟨rfl, b1⟩)
    go_ret2
    exact ⟨by rw [HE.out]; rfl, b1⟩
  | cons c r =>
    by_cases hc : c = 45
    · have hc' := byte_yes c 45 45 rfl hc
      have HR2 := hidA (HR.out r)
      have HE : Hid (Na.intP (c :: r) = (-(Na.rd 10 Na.mx r).1, (Na.rd 10 Na.mx r).2)) := by show _ = _; unfold Na.intP; rw [if_pos (by simp [hc])]; rfl
      obtain ⟨hr0, hr1⟩ := Na.rd_rng (b := 10) (t := Na.mx) (by decide) (by decide) r
      clear HR hc
      generalize Na.rd 10 Na.mx r = P at HR2 HE hr0 hr1
      have hr2 : P.1 ≤ 999999999999999999 := hr1
      have hng : IntKind.i64.wrap (-P.1) = -P.1 := by rw [IntKind.wrap_i64]; omega
      have hdr : List.drop 1 (c :: r) = r := rfl
      have htk : List.take (r.length + 1) (c :: r) = c :: r := by simp
      go_enter Tryd.func8, Tryd.ntmps8
      go_wp2_with (go_at_call 32; refine HR2.out.mono ?_; rintro e w1 ⟨rfl, b1⟩)
      go_ret2
      exact ⟨by rw [HE.out]; rfl, b1⟩
    · have hc' := byte_no c 45 45 rfl hc
      have HR2 := hidA (HR.out (c :: r))
      have HE : Hid (Na.intP (c :: r) = Na.rd 10 Na.mx (c :: r)) := by show _ = _; unfold Na.intP; rw [if_neg (by simpa using hc)]
      clear HR hc
      generalize Na.rd 10 Na.mx (c :: r) = P at HR2 HE
      go_enter Tryd.func8, Tryd.ntmps8
      go_wp2_with (go_at_call 32; refine HR2.out.mono ?_; rintro e w1 ⟨rfl, b1⟩)
      go_ret2
      exact ⟨by rw [HE.out]; rfl, b1⟩
set_option maxHeartbeats 1000000 in
theorem nUnitSize (c : UInt8) (w : World) : Calls Tryd.prog 33 #[.int .u8 c.toNat] w fun e w' => e = .returned (.int .i64 (Na.unit c)) ∧ w' = w := by
  by_cases h1 : c = 99
  · subst h1
    go_enter Tryd.func33, Tryd.ntmps33
    go_wp2
    go_ret
    exact ⟨rfl, rfl⟩
  by_cases h2 : c = 119
  · subst h2
    go_enter Tryd.func33, Tryd.ntmps33
    go_wp2
    go_ret
    exact ⟨rfl, rfl⟩
  by_cases h3 : c = 98
  · subst h3
    go_enter Tryd.func33, Tryd.ntmps33
    go_wp2
    go_ret
    exact ⟨rfl, rfl⟩
  by_cases h4 : c = 107
  · subst h4
    go_enter Tryd.func33, Tryd.ntmps33
    go_wp2
    go_ret
    exact ⟨rfl, rfl⟩
  by_cases h5 : c = 75
  · subst h5
    go_enter Tryd.func33, Tryd.ntmps33
    go_wp2
    go_ret
    exact ⟨rfl, rfl⟩
  by_cases h6 : c = 77
  · subst h6
    go_enter Tryd.func33, Tryd.ntmps33
    go_wp2
    go_ret
    exact ⟨rfl, rfl⟩
  by_cases h7 : c = 71
  · subst h7
    go_enter Tryd.func33, Tryd.ntmps33
    go_wp2
    go_ret
    exact ⟨rfl, rfl⟩
  have HE : Hid (Na.unit c = 0) := by show _ = _; unfold Na.unit; simp [h1, h2, h3, h4, h5, h6, h7]
  have k1 := byte_no c 99 99 rfl h1
  have k2 := byte_no c 119 119 rfl h2
  have k3 := byte_no c 98 98 rfl h3
  have k4 := byte_no c 107 107 rfl h4
  have k5 := byte_no c 75 75 rfl h5
  have k6 := byte_no c 77 77 rfl h6
  have k7 := byte_no c 71 71 rfl h7
  clear h1 h2 h3 h4 h5 h6 h7
  go_enter Tryd.func33, Tryd.ntmps33
  go_wp2
  go_ret
  exact ⟨by rw [HE.out]; rfl, rfl⟩
set_option maxRecDepth 100000 in
set_option maxHeartbeats 1000000 in
theorem nSize (l : List UInt8) (w : World) (hl : l.length ≤ 2 ^ 47) : Calls Tryd.prog 9 #[.string ⟨l.toArray⟩] w fun e w' => e = .returned (.tuple #[.int .i64 (Na.sizeP l).1, .int .i64 (Na.sizeP l).2]) ∧ Below w.heap.size w w' := by
  have h1 : IntKind.i64.wrap 999999999999999999 = 999999999999999999 := by decide
  rcases List.eq_nil_or_concat l with rfl | ⟨r, c, rfl⟩
  · have HR := hidA (nRead 10 999999999999999999 (by decide) (by decide) [] w)
    have HE : Hid (Na.sizeP [] = Na.rd 10 999999999999999999 []) := rfl
    obtain ⟨hr0, hr1⟩ := Na.rd_rng (b := 10) (t := 999999999999999999) (by decide) (by decide) []
    generalize Na.rd 10 999999999999999999 [] = P at HR HE hr0 hr1
    go_enter Tryd.func9, Tryd.ntmps9
    go_wp2_with (go_at_call 32; refine HR.out.mono ?_; rintro e w1 ⟨rfl, b1⟩)
    go_ret2
    exact ⟨by rw [HE.out]; rfl, b1⟩
  · rw [List.concat_eq_append] at hl ⊢
    have HU := hidA (nUnitSize c w)
    have hwr : IntKind.i64.wrap ((r.length : Int) + 1 - 1) = (r.length : Int) := by simp at hl; rw [IntKind.wrap_i64]; omega
    have hg : (r ++ [c])[r.length]? = some c := by simp
    have hL : (r ++ [c]).length = r.length + 1 := by simp
    have huo : Na.uOf (r ++ [c]) = Na.unit c := by simp [Na.uOf]
    have htk : (r ++ [c]).take r.length = r := by simp
    have hne : (r ++ [c]).isEmpty = false := by simp
    obtain ⟨hu0, hu1⟩ := Na.unit_rng c
    have HE0 : Hid (Na.sizeP (r ++ [c]) = if Na.unit c = 0 then Na.rd 10 Na.mx (r ++ [c]) else ((Na.rd 10 (Na.mx / Na.unit c) r).1 * Na.unit c, (Na.rd 10 (Na.mx / Na.unit c) r).2)) := by
      show _ = _
      unfold Na.sizeP; rw [huo, List.dropLast_concat]
    clear huo
    generalize r ++ [c] = l at *
    generalize Na.unit c = u at *
    have hg2 : ∀ h : r.length < l.length, l[r.length]'h = c := fun h => by rw [List.getElem?_eq_getElem h] at hg; exact Option.some.inj hg
    clear hg
    by_cases hz : u = 0
    · subst hz
      rw [if_pos rfl] at HE0
      have HR := hidA (nRead 10 999999999999999999 (by decide) (by decide) l w)
      have HE : Hid (Na.sizeP l = Na.rd 10 999999999999999999 l) := HE0
      obtain ⟨hr0, hr1⟩ := Na.rd_rng (b := 10) (t := 999999999999999999) (by decide) (by decide) l
      generalize Na.rd 10 999999999999999999 l = P at HR HE hr0 hr1
      clear HE0
      go_enter Tryd.func9, Tryd.ntmps9
      go_wp2_with (first | (go_at_call 33; refine HU.out.mono ?_; rintro e w1 ⟨rfl, rfl⟩) | (go_at_call 32; refine HR.out.mono ?_; rintro e w1 ⟨rfl, b1⟩))
      go_ret2
      exact ⟨by rw [HE.out]; rfl, b1⟩
    · rw [if_neg hz] at HE0
      have hq0 : 9 ≤ (999999999999999999 : Int) / u := Int.le_ediv_of_mul_le (by omega) (by omega)
      have hq1 : (999999999999999999 : Int) / u ≤ 999999999999999999 := Int.ediv_le_self _ (by omega)
      have hqm : ((999999999999999999 : Int) / u) * u ≤ 999999999999999999 := Int.ediv_mul_le _ hz
      have hqd : (999999999999999999 : Int).tdiv u = 999999999999999999 / u := Int.tdiv_eq_ediv_of_nonneg (by omega)
      have HE : Hid (Na.sizeP l = ((Na.rd 10 ((999999999999999999 : Int) / u) r).1 * u, (Na.rd 10 ((999999999999999999 : Int) / u) r).2)) := HE0
      have hz' : (u == 0) = false := by simpa using hz
      have hz'' : (u != 0) = true := by simpa using hz
      clear HE0
      generalize (999999999999999999 : Int) / u = q at *
      have HR := hidA (nRead 10 q (by decide) ⟨hq0, hq1⟩ r w)
      obtain ⟨hr0, hr1⟩ := Na.rd_rng (b := 10) (t := q) (by decide) (by omega) r
      generalize Na.rd 10 q r = P at HR HE hr0 hr1
      have hm0 : 0 ≤ P.1 * u := Int.mul_nonneg hr0 hu0
      have hm1 : P.1 * u ≤ q * u := Int.mul_le_mul_of_nonneg_right hr1 hu0
      have hmw : IntKind.i64.wrap (P.1 * u) = P.1 * u := by rw [IntKind.wrap_i64]; omega
      go_enter Tryd.func9, Tryd.ntmps9
      go_wp2_with (first | (go_at_call 33; refine HU.out.mono ?_; rintro e w1 ⟨rfl, rfl⟩) | (go_at_call 32; refine HR.out.mono ?_; rintro e w1 ⟨rfl, b1⟩))
      go_ret2
      exact ⟨by rw [HE.out]; rfl, b1⟩
end Go.Proofs.YtgkjpfebjhhdkaaDoor
