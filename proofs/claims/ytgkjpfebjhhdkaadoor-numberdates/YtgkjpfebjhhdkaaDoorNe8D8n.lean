/- Dates: the plain answer's Date, of a text of digits of a fitting length (gen_ne8.py). No condition. -/
import Derived.Test.YtgkjpfebjhhdkaaDoorNe6
import Derived.Test.YtgkjpfebjhhdkaaDoorNe2
import Derived.Test.YtgkjpfebjhhdkaaDoorNe7
namespace Go.Proofs.YtgkjpfebjhhdkaaDoor
open Go.RowKit
attribute [local go_sem] ext_eq app_eq get_eq
set_option maxRecDepth 100000 in
set_option maxHeartbeats 16000000 in
theorem rDateD8n (c0 c1 c2 c3 c4 c5 c6 c7 a b : UInt8) (now : Int) (hd : [c0, c1, c2, c3, c4, c5, c6, c7].all (Na.dig 10) = true) (da : Na.dig 10 a = true) (db : Na.dig 10 b = true) (n0 : -9223372036854775808 ≤ now) (n1 : now ≤ 9223372036854775807) (hn : now < -62167219200 ∨ 253402300800 ≤ now) (w : World) :
    Calls Tryd.prog 27 #[.string ⟨#[c0, c1, c2, c3, c4, c5, c6, c7, 46, a, b]⟩, .int .i64 now] w fun e w' => (∃ v, DtR [c0, c1, c2, c3, c4, c5, c6, c7, 46, a, b] now v ∧ e = .returned (.tuple #[.int .i64 v.1, .int .i64 v.2])) ∧ Below w.heap.size w w' := by
  have HG := hidA (fun W => rDigits 10 (by decide) [c0, c1, c2, c3, c4, c5, c6, c7] W (by simp))
  have hpl : Na.pl 10 [c0, c1, c2, c3, c4, c5, c6, c7] = true := by unfold Na.pl; rw [hd]; rfl
  rw [hpl] at HG
  have HQ := hidA (fun W => rDigits 10 (by decide) [a, b] W (by simp))
  have hpq : Na.pl 10 [a, b] = true := by unfold Na.pl; simp [da, db]
  rw [hpq] at HQ
  have HVS := hidA (fun W => rVal2 a b da db W)
  have HR : Hid (∀ v : Int × Int, v = (0, 22) → DtR [c0, c1, c2, c3, c4, c5, c6, c7, 46, a, b] now v) := fun v hv => by
    have h := dtr_dot (A := [c0, c1, c2, c3, c4, c5, c6, c7]) (q := [a, b]) (now := now) (v := v) rfl (by rw [if_pos hpq]; exact (by unfold Core; rw [if_pos hpl]; exact ⟨none, by show Yn now none; unfold Yn; rw [if_pos hn], hv⟩))
    exact h
  simp only [List.all_cons, List.all_nil, Bool.and_true, Bool.and_eq_true] at hd
  obtain ⟨d0, d1, d2, d3, d4, d5, d6, d7⟩ := hd
  have HV1 := hidA (fun W => rVal2 c0 c1 d0 d1 W)
  have rg1 := Na.tw_rng (l := [c0, c1]) (by simp [d0, d1])
  have HV2 := hidA (fun W => rVal2 c2 c3 d2 d3 W)
  have rg2 := Na.tw_rng (l := [c2, c3]) (by simp [d2, d3])
  have HV3 := hidA (fun W => rVal2 c4 c5 d4 d5 W)
  have rg3 := Na.tw_rng (l := [c4, c5]) (by simp [d4, d5])
  have HV4 := hidA (fun W => rVal2 c6 c7 d6 d7 W)
  have rg4 := Na.tw_rng (l := [c6, c7]) (by simp [d6, d7])
  have rg5 := Na.tw_rng (l := [a, b]) (by simp [da, db])
  generalize Na.tw [c0, c1] = m at *
  generalize Na.tw [c2, c3] = d at *
  generalize Na.tw [c4, c5] = h at *
  generalize Na.tw [c6, c7] = mi at *
  generalize Na.tw [a, b] = sc at *
  clear hpl hpq
  clear d0 d1 d2 d3 d4 d5 d6 d7
  have HM2 : Hid (Calls Tryd.prog 56 #[.int .i64 now] w fun e w' => e = .returned (.tuple #[.agg #[.int .i64 0, .int .i64 0, .int .i64 0, .int .i64 0, .int .i64 0, .int .i64 0], .bool false]) ∧ Below w.heap.size w w') := (rCivil now n0 n1 w).mono fun e w' hx => by
    refine ⟨?_, hx.2⟩
    have ho := hx.1
    unfold OutM at ho
    rw [if_pos hn] at ho
    exact ho
  clear n0 n1 hn
  go_enter Tryd.func27, Tryd.ntmps27
  go_wp2_with (first | (go_at_call 37; with_reducible refine (HG.out _).mono ?_; rintro e w1 ⟨rfl, h1⟩; rw [h1]; clear h1 w1) | (go_at_call 37; with_reducible refine (HQ.out _).mono ?_; rintro e w1 ⟨rfl, h1⟩; rw [h1]; clear h1 w1) | (go_at_call 38; with_reducible refine (HVS.out _).mono ?_; rintro e w2 ⟨rfl, h2⟩; rw [h2]; clear h2 w2) | go_quiet (fail))
  go_at_call 56
  refine HM2.out.mono ?_
  rintro e w1 ⟨rfl, b1⟩
  have HBA := hidA (fun o => b1.alloc b1.size o)
  have HB1 := hidA b1
  clear b1 HM2
  go_wp2
  go_ret2
  exact ⟨⟨(0, 22), HR.out _ rfl, rfl⟩, by first | exact HBA.out _ | exact bl2 (HBA.out _) (bl_drew _ 1) | exact HB1.out⟩
end Go.Proofs.YtgkjpfebjhhdkaaDoor
