/- The program's Human; the plain answer's Text. Condition: the table of powers of ten reads as its text lays it. -/
import Derived.Test.YtgkjpfebjhhdkaaDoorNh3
namespace Go.Proofs.YtgkjpfebjhhdkaaDoor
open Go.RowKit
attribute [local go_sem] ext_eq app_eq get_eq
theorem shortP_len (s : Int) (h0 : 0 ≤ s) (h1 : s < 18446744073709551616) : (Na.shortP s).length ≤ 60 := by
  obtain ⟨hu0, hu1⟩ := Na.uV_rng (Na.uI s)
  unfold Na.shortP
  split
  · have := dd_len s.toNat (by omega); omega
  · split
    · rename_i _ h
      have k1 := dd_len (Na.tu s (Na.uV (Na.uI s)) / 10).toNat (by omega)
      have k2 := dd_len (Na.tu s (Na.uV (Na.uI s)) % 10).toNat (by omega)
      simp only [List.length_append, List.length_cons, List.length_nil]; omega
    · have hw := (Na.wu_rng h0 hu0).2
      have k1 := dd_len (Na.wu s (Na.uV (Na.uI s))).toNat (by omega)
      simp only [List.length_append, List.length_cons, List.length_nil]; omega
set_option maxRecDepth 100000 in
set_option maxHeartbeats 1000000 in
theorem nHuman (n : Int) (h0 : -9223372036854775808 ≤ n) (h1 : n ≤ 9223372036854775807) (w : World) (ht : P10 w) : Calls Tryd.prog 17 #[.int .i64 n] w fun e w' => e = .returned (.string ⟨(Na.humanP n).toArray⟩) ∧ Below w.heap.size w w' := by
  by_cases hs : n < 0
  · have HS := hidA (nShort (-n) (by omega) (by omega) w ht)
    have HE : Hid (Na.humanP n = 45 :: Na.shortP (-n)) := if_pos hs
    have hw1 : IntKind.i64.wrap (n + 1) = n + 1 := by rw [IntKind.wrap_i64]; omega
    have hw2 : IntKind.i64.wrap (-(n + 1)) = -(n + 1) := by rw [IntKind.wrap_i64]; omega
    have hw3 : IntKind.u64.wrap (-(n + 1)) = -(n + 1) := by rw [IntKind.wrap_u64]; omega
    have hw4 : IntKind.u64.wrap (-(n + 1) + 1) = -n := by rw [IntKind.wrap_u64]; omega
    have hc : (⟨#[45]⟩ : ByteArray) = ⟨[45].toArray⟩ := rfl
    have hl := shortP_len (-n) (by omega) (by omega)
    generalize Na.shortP (-n) = S at *
    go_enter Tryd.func17, Tryd.ntmps17
    go_wp2_with (go_at_call 40; refine HS.out.mono ?_; rintro e w1 ⟨rfl, b1⟩)
    go_ret
    exact ⟨by rw [HE.out]; rfl, b1⟩
  · have HS := hidA (nShort n (by omega) (by omega) w ht)
    have HE : Hid (Na.humanP n = Na.shortP n) := if_neg hs
    have hw1 : IntKind.u64.wrap n = n := by rw [IntKind.wrap_u64]; omega
    generalize Na.shortP n = S at *
    go_enter Tryd.func17, Tryd.ntmps17
    go_wp2_with (go_at_call 40; refine HS.out.mono ?_; rintro e w1 ⟨rfl, b1⟩)
    go_ret
    exact ⟨by rw [HE.out]; rfl, b1⟩
end Go.Proofs.YtgkjpfebjhhdkaaDoor
