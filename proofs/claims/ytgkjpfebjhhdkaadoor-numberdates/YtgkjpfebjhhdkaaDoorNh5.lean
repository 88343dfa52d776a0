/- The plain answer's Text. No condition. -/
import Derived.Test.YtgkjpfebjhhdkaaDoorNh3
namespace Go.Proofs.YtgkjpfebjhhdkaaDoor
open Go.RowKit
attribute [local go_sem] ext_eq app_eq get_eq
/-- The digits that are still to come. -/
def ddq (q : Int) : List UInt8 := if q ≤ 0 then [] else Lib.decDigits q.toNat
theorem dd_step (q : Int) (h : 0 ≤ q) : Lib.decDigits q.toNat = ddq (q / 10) ++ [UInt8.ofNat (48 + q.toNat % 10)] := by
  rw [Lib.decDigits]
  unfold ddq
  by_cases h1 : q.toNat < 10
  · rw [dif_pos h1, if_pos (by omega), List.nil_append, Nat.mod_eq_of_lt h1]
  · rw [dif_neg h1, if_neg (by omega), show (q / 10).toNat = q.toNat / 10 by omega]
theorem conv_one (w : World) (c : UInt8) : (convert 73 9 (.slice (some ⟨w.heap.size, 0, none⟩) 1 1)).run Tryd.prog (w.alloc (.cells #[.int .u8 c.toNat] 5)) = .ok (.string ⟨#[c]⟩) (w.alloc (.cells #[.int .u8 c.toNat] 5)) := by
  have h := run_convert_bytes_back (P := Tryd.prog) (w.alloc (.cells #[.int .u8 c.toNat] 5)) 73 9 5 ⟨w.heap.size, 0, none⟩ 1 [c] Tryd.underlying73 Tryd.underlying5 Tryd.underlying9 (fun j hj => by
    obtain rfl : j = 0 := by simp at hj; omega
    rw [Lib.add_plain, World.cell?_alloc_new]; rfl)
  exact h
set_option maxRecDepth 100000 in
set_option maxHeartbeats 1000000 in
theorem rText (s : Int) (h0 : 0 ≤ s) (h1 : s < 18446744073709551616) (w : World) : Calls Tryd.prog 41 #[.int .u64 s] w fun e w' => e = .returned (.string ⟨(Lib.decDigits s.toNat).toArray⟩) ∧ Below w.heap.size w w' := by
  have hd : (s / 10 : Int) < s + 1 := by omega
  have hqd : s.tdiv 10 = s / 10 := Int.tdiv_eq_ediv_of_nonneg h0
  have hqm : s.tmod 10 = s % 10 := Int.tmod_eq_emod_of_nonneg h0
  have hC : ∀ c : UInt8, (convert 73 9 (.slice (some ⟨w.heap.size, 0, none⟩) 1 1)).run Tryd.prog (w.alloc (.cells #[.int .u8 c.toNat] 5)) = .ok (.string ⟨#[c]⟩) (w.alloc (.cells #[.int .u8 c.toNat] 5)) := conv_one w
  have hcv := hC (UInt8.ofNat (48 + s.toNat % 10))
  have hct : ((UInt8.ofNat (48 + s.toNat % 10)).toNat : Int) = 48 + s % 10 := by rw [UInt8.toNat_ofNat']; omega
  rw [hct] at hcv
  have HX : Hid (Lib.decDigits s.toNat = ddq (s / 10) ++ [UInt8.ofNat (48 + s.toNat % 10)]) := dd_step s h0
  clear hC hct
  generalize UInt8.ofNat (48 + s.toNat % 10) = c0 at *
  go_enter Tryd.func41, Tryd.ntmps41
  go_wp2_with fail
  have HB0 : Hid (Below w.heap.size w (w.alloc (.cells #[.int .u8 (48 + s % 10)] 5))) := (Below.refl _ _).alloc (Nat.le_refl _) _
  have hq0 : 0 ≤ s / 10 := by omega
  clear hcv hqd hqm
  generalize w.alloc (.cells #[.int .u8 (48 + s % 10)] 5) = w0 at *
  go_loopw [0, 3] (fun n x w' => ∃ (q : Int) (X : List UInt8), n = .int .u64 q ∧ x = .string ⟨X.toArray⟩ ∧ 0 ≤ q ∧ q ≤ s ∧ X.length ≤ 21 ∧ Hid (Lib.decDigits s.toNat = ddq q ++ X) ∧ Hid (Below w.heap.size w w')) (fun n _ _ => (intOf n).toNat)
  case atStart => exact ⟨s / 10, _, rfl, rfl, hq0, by omega, by simp, HX, HB0⟩
  case round =>
    obtain ⟨q, X, rfl, rfl, hq1, hq2, hX, HQ, HB⟩ := hrel
    rename_i wr
    by_cases hz : 0 < q
    · have hqd : q.tdiv 10 = q / 10 := Int.tdiv_eq_ediv_of_nonneg hq1
      have hqm : q.tmod 10 = q % 10 := Int.tmod_eq_emod_of_nonneg hq1
      have hct : ((UInt8.ofNat (48 + q.toNat % 10)).toNat : Int) = 48 + q % 10 := by rw [UInt8.toNat_ofNat']; omega
      have hcv := conv_one wr (UInt8.ofNat (48 + q.toNat % 10))
      rw [hct] at hcv
      have HQ2 : Hid (Lib.decDigits s.toNat = ddq (q / 10) ++ ([UInt8.ofNat (48 + q.toNat % 10)] ++ X)) := by
        show _ = _
        rw [HQ.out, show ddq q = Lib.decDigits q.toNat from if_neg (by omega), dd_step q hq1, List.append_assoc]
      have hX2 : ([UInt8.ofNat (48 + q.toNat % 10)] ++ X).length ≤ 21 := by
        have h1 := congrArg List.length HQ2.out
        have h2 := dd_len s.toNat (by omega)
        rw [h1, List.length_append] at h2
        omega
      have HB2 : Hid (Below w.heap.size w (wr.alloc (.cells #[.int .u8 (48 + q % 10)] 5))) := HB.out.alloc HB.out.size _
      generalize UInt8.ofNat (48 + q.toNat % 10) = c at *
      clear HQ HB hct
      go_wp2
      exact ⟨⟨q / 10, _, rfl, rfl, by omega, by omega, hX2, HQ2, HB2⟩, by simp [intOf]; omega⟩
    · obtain rfl : q = 0 := by omega
      have HE : Hid (Lib.decDigits s.toNat = X) := HQ.out
      go_wp2
      go_ret
      exact ⟨by rw [HE.out]; rfl, HB.out⟩
end Go.Proofs.YtgkjpfebjhhdkaaDoor
