/- The plain answer's Octal. No condition. -/
import Derived.Test.YtmminmdmhefefaaPn2
import Derived.Test.YtmminmdmhefefaaPmg
namespace Go.Proofs.Ytmminmdmhefefaa
open Go.RowKit
theorem conv1 (W : World) (d : Int) (h0 : 0 ≤ d) (h1 : d < 256) (b : Nat) (hb : W.heap.size = b) :
    (convert 52 9 (.slice (some ⟨b, 0, none⟩) 1 1)).run Try.prog (W.alloc (.cells #[.int .u8 d] 5)) = .ok (.string ⟨[Pm.b8 d].toArray⟩) (W.alloc (.cells #[.int .u8 d] 5)) := by
  subst hb
  refine run_convert_bytes_back (P := Try.prog) (W.alloc (.cells #[.int .u8 d] 5)) 52 9 5 ⟨W.heap.size, 0, none⟩ 1 [Pm.b8 d] Try.underlying52 Try.underlying5 Try.underlying9 ?_
  intro j hj
  obtain rfl : j = 0 := by simpa using hj
  rw [show (⟨W.heap.size, 0, none⟩ : Addr).add 0 = ⟨W.heap.size, 0, none⟩ by simp [Addr.add], World.cell?_alloc_at _ _ _ _ rfl]
  simp [Pm.b8_back h0 h1]
attribute [local go_sem] app_eq
set_option maxRecDepth 100000 in
set_option maxHeartbeats 1000000 in
theorem rOctal (m : Int) (w : World) : Calls Try.prog 12 #[.int .i64 m] w fun e w' => e = .returned (.string ⟨(Pm.oct m).toArray⟩) ∧ Below w.heap.size w w' := by
  go_enter Try.func12, Try.ntmps12
  go_wp2_with fail
  go_loopw [3, 4] (fun s i w' => ∃ k : Nat, k ≤ 4 ∧ i = .int .i64 (9 - 3 * (k : Int)) ∧ s = .string ⟨((Pm.oct m).take k).toArray⟩ ∧ Hid (Below w.heap.size w w')) (fun _ i _ => (intOf i + 3).toNat)
  case atStart => exact ⟨0, by omega, rfl, rfl, Below.refl _ _⟩
  case round =>
    obtain ⟨k, hk, rfl, rfl, HB⟩ := hrel
    have HC : Hid (∀ o, Below w.heap.size w (wr.alloc o)) := fun o => HB.out.alloc HB.out.size o
    obtain rfl | rfl | rfl | rfl | rfl : k = 0 ∨ k = 1 ∨ k = 2 ∨ k = 3 ∨ k = 4 := by omega
    · have h7a := (Pm.and7 (m / 512)).1
      have h7b := (Pm.and7 (m / 512)).2
      have hcv := conv1 wr (48 + bits .and .i64 (m / 512) 7) (by omega) (by omega) _ rfl
      go_wp2_with fail
      exact ⟨⟨1, by omega, rfl, rfl, HC.out _⟩, by decide⟩
    · have h7a := (Pm.and7 (m / 64)).1
      have h7b := (Pm.and7 (m / 64)).2
      have hcv := conv1 wr (48 + bits .and .i64 (m / 64) 7) (by omega) (by omega) _ rfl
      have hT : ((Pm.oct m).take 1).length ≤ 4 := by simp; omega
      have HE : Hid ((Pm.oct m).take 2 = (Pm.oct m).take 1 ++ [Pm.b8 (48 + bits .and .i64 (m / 64) 7)]) := rfl
      generalize (Pm.oct m).take 1 = T at *
      go_wp2_with fail
      exact ⟨⟨2, by omega, rfl, by rw [HE.out], HC.out _⟩, by decide⟩
    · have h7a := (Pm.and7 (m / 8)).1
      have h7b := (Pm.and7 (m / 8)).2
      have hcv := conv1 wr (48 + bits .and .i64 (m / 8) 7) (by omega) (by omega) _ rfl
      have hT : ((Pm.oct m).take 2).length ≤ 4 := by simp; omega
      have HE : Hid ((Pm.oct m).take 3 = (Pm.oct m).take 2 ++ [Pm.b8 (48 + bits .and .i64 (m / 8) 7)]) := rfl
      generalize (Pm.oct m).take 2 = T at *
      go_wp2_with fail
      exact ⟨⟨3, by omega, rfl, by rw [HE.out], HC.out _⟩, by decide⟩
    · have h7a := (Pm.and7 m).1
      have h7b := (Pm.and7 m).2
      have hcv := conv1 wr (48 + bits .and .i64 m 7) (by omega) (by omega) _ rfl
      have hT : ((Pm.oct m).take 3).length ≤ 4 := by simp; omega
      have HE : Hid ((Pm.oct m).take 4 = (Pm.oct m).take 3 ++ [Pm.b8 (48 + bits .and .i64 m 7)]) := by
        show _ = _
        have : Pm.od m 1 = 48 + bits .and .i64 m 7 := by unfold Pm.od; rw [Int.ediv_one]
        rw [← this]
        rfl
      generalize (Pm.oct m).take 3 = T at *
      go_wp2_with fail
      exact ⟨⟨4, by omega, rfl, by rw [HE.out], HC.out _⟩, by decide⟩
    · have HE : Hid ((Pm.oct m).take 4 = Pm.oct m) := rfl
      rw [HE.out]
      go_wp2_with fail
      go_ret
      exact ⟨rfl, HB⟩
end Go.Proofs.Ytmminmdmhefefaa
