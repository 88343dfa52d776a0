/- Sizes written short: the plain model, and the program's walks. Condition: the table of powers of ten reads as its text lays it. -/
import Derived.Test.YtgkjpfebjhhdkaaDoorNh1
namespace Go.Proofs.YtgkjpfebjhhdkaaDoor
open Go.RowKit
attribute [local go_sem] ext_eq app_eq get_eq
namespace Na
def wu (s u : Int) : Int := if s % u = 0 then s / u else s / u + 1
def tu (s u : Int) : Int := s / u * 10 + wu (s % u * 10) u
def uI (s : Int) : Nat := if wu s 1024 < 1024 then 1 else if wu s 1048576 < 1024 then 2 else if wu s 1073741824 < 1024 then 3 else if wu s 1099511627776 < 1024 then 4 else if wu s 1125899906842624 < 1024 then 5 else 6
def uV : Nat → Int
  | 1 => 1024
  | 2 => 1048576
  | 3 => 1073741824
  | 4 => 1099511627776
  | 5 => 1125899906842624
  | _ => 1152921504606846976
def uN : Nat → UInt8
  | 1 => 75
  | 2 => 77
  | 3 => 71
  | 4 => 84
  | 5 => 80
  | _ => 69
def shortP (s : Int) : List UInt8 := if s < 1024 then Lib.decDigits s.toNat else if tu s (uV (uI s)) < 100 then Lib.decDigits (tu s (uV (uI s)) / 10).toNat ++ [46] ++ Lib.decDigits (tu s (uV (uI s)) % 10).toNat ++ [uN (uI s)] else Lib.decDigits (wu s (uV (uI s))).toNat ++ [uN (uI s)]
def humanP (n : Int) : List UInt8 := if n < 0 then 45 :: shortP (-n) else shortP n
theorem uV_rng (i : Nat) : 1024 ≤ uV i ∧ uV i ≤ 1152921504606846976 := by
  match i with
  | 0 | 1 | 2 | 3 | 4 | 5 => decide
  | n + 6 => exact (by decide : (1024 : Int) ≤ 1152921504606846976 ∧ (1152921504606846976 : Int) ≤ 1152921504606846976)
theorem div_rng {s u : Int} (h0 : 0 ≤ s) (hu : 1024 ≤ u) : 0 ≤ s / u ∧ s / u * 1024 ≤ s := by
  have h1 : 0 ≤ s / u := Int.ediv_nonneg h0 (by omega)
  have h2 : s / u * 1024 ≤ s / u * u := Int.mul_le_mul_of_nonneg_left hu h1
  have h3 := Int.ediv_mul_le s (show u ≠ 0 by omega)
  omega
theorem wu_rng {s u : Int} (h0 : 0 ≤ s) (hu : 1024 ≤ u) : 0 ≤ wu s u ∧ (wu s u - 1) * 1024 ≤ s := by
  obtain ⟨h1, h2⟩ := div_rng h0 hu
  unfold wu
  split <;> omega
end Na
theorem nFmt (s : Int) (h0 : 0 ≤ s) (h1 : s < 18446744073709551616) (w : World) (ht : P10 w) : Calls Tryd.prog 63 #[.int .u64 s, .int .i64 10] w fun e w' => e = .returned (.string ⟨(Lib.decDigits s.toNat).toArray⟩) ∧ Below w.heap.size w w' := by
  have h := nFormatUint s.toNat (by omega) w ht
  rw [show ((s.toNat : Nat) : Int) = s by omega] at h
  exact h
set_option maxHeartbeats 1000000 in
theorem nWholeUp (s u : Int) (h0 : 0 ≤ s) (h1 : s < 18446744073709551616) (hu : 1024 ≤ u) (hu1 : u ≤ 1152921504606846976) (w : World) : Calls Tryd.prog 66 #[.int .u64 s, .int .u64 u] w fun e w' => e = .returned (.int .u64 (Na.wu s u)) ∧ w' = w := by
  obtain ⟨hd0, hd1⟩ := Na.div_rng h0 hu
  have hm0 : 0 ≤ s % u := Int.emod_nonneg _ (by omega)
  have hm1 : s % u < u := Int.emod_lt_of_pos _ (by omega)
  have hqd : s.tdiv u = s / u := Int.tdiv_eq_ediv_of_nonneg h0
  have hqm : s.tmod u = s % u := Int.tmod_eq_emod_of_nonneg h0
  have HE : Hid (Na.wu s u = if s % u = 0 then s / u else s / u + 1) := rfl
  have hz : (u == 0) = false := by simp; omega
  have hw2 : IntKind.u64.wrap (s / u + 1) = s / u + 1 := by rw [IntKind.wrap_u64]; omega
  generalize s / u = q at *
  generalize s % u = m at *
  by_cases h : m = 0
  · have h' : (m != 0) = false := by simpa using h
    rw [if_pos h] at HE
    clear h
    go_enter Tryd.func66, Tryd.ntmps66
    go_wp2
    go_ret
    exact ⟨by rw [HE.out]; rfl, rfl⟩
  · have h' : (m != 0) = true := by simpa using h
    have h'' : (m == 0) = false := by simpa using h
    rw [if_neg h] at HE
    clear h
    go_enter Tryd.func66, Tryd.ntmps66
    go_wp2
    go_ret
    exact ⟨by rw [HE.out]; rfl, rfl⟩
set_option maxHeartbeats 1000000 in
theorem nTenthsUp (s u : Int) (h0 : 0 ≤ s) (h1 : s < 18446744073709551616) (hu : 1024 ≤ u) (hu1 : u ≤ 1152921504606846976) (w : World) : Calls Tryd.prog 65 #[.int .u64 s, .int .u64 u] w fun e w' => e = .returned (.int .u64 (Na.tu s u)) ∧ ∃ m, w' = w.drewN m := by
  obtain ⟨hd0, hd1⟩ := Na.div_rng h0 hu
  have hm0 : 0 ≤ s % u := Int.emod_nonneg _ (by omega)
  have hm1 : s % u < u := Int.emod_lt_of_pos _ (by omega)
  have hqd : s.tdiv u = s / u := Int.tdiv_eq_ediv_of_nonneg h0
  have hqm : s.tmod u = s % u := Int.tmod_eq_emod_of_nonneg h0
  have HE : Hid (Na.tu s u = s / u * 10 + Na.wu (s % u * 10) u) := rfl
  have hz : (u == 0) = false := by simp; omega
  have HW := hidA (fun w => nWholeUp (s % u * 10) u (by omega) (by omega) hu hu1 w)
  obtain ⟨hr0, hr1⟩ := Na.wu_rng (s := s % u * 10) (u := u) (by omega) hu
  generalize Na.wu (s % u * 10) u = t at *
  generalize s / u = q at *
  generalize s % u = m at *
  go_enter Tryd.func65, Tryd.ntmps65
  go_wp2_with fail
  go_quiet (first | (go_at_call 66; refine Calls.quiet_of_same (HW.out _)))
  go_wp2
  go_ret
  exact ⟨by rw [HE.out]; rfl, _, rfl⟩
end Go.Proofs.YtgkjpfebjhhdkaaDoor
