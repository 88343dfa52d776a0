/- PermTexts' function answers true. Condition: a length that fits. -/
import Derived.Test.YtmminmdmhefefaaPn3
import Derived.Test.YtmminmdmhefefaaPn6
import Derived.Test.YtmminmdmhefefaaPmi
namespace Go.Proofs.Ytmminmdmhefefaa
open Go.RowKit
set_option maxRecDepth 100000 in
set_option maxHeartbeats 1000000 in
theorem pParse' (l : List UInt8) (w : World) : Calls Try.prog 7 #[.string ⟨l.toArray⟩] w fun e w' => e = .returned (.tuple #[.int .i64 (Pm.parR l), .int .i64 (Pm.parE l)]) ∧ Below w.heap.size w w' := by
  by_cases h10 : l.length = 10
  · exact pParse l w (by omega)
  · have HK : Hid (Pm.parR l = 0 ∧ Pm.parE l = 22) := Pm.not_ok l (by simp [Pm.parOk, h10])
    have hlen : ((l.length : Int) == 10) = false := by simp; omega
    have hlen2 : ¬ (l.length : Int) = 10 := by omega
    go_enter Try.func7, Try.ntmps7
    go_wp2
    go_ret2
    exact ⟨ret_two' HK.out.1 HK.out.2, Below.refl _ _⟩
theorem vParse (w W : World) (l : List UInt8) (h : Hid (Below w.heap.size w W)) : Calls Try.prog 7 #[.string ⟨l.toArray⟩] W fun e w' => e = .returned (.tuple #[.int .i64 (Pm.parR l), .int .i64 (Pm.parE l)]) ∧ Hid (Below w.heap.size w w') :=
  (pParse' l W).mono fun _ _ ⟨he, hB⟩ => ⟨he, h.out.trans (hB.mono h.out.size)⟩
theorem vParseR (w W : World) (l : List UInt8) (h : Hid (Below w.heap.size w W)) : Calls Try.prog 8 #[.string ⟨l.toArray⟩] W fun e w' => e = .returned (.tuple #[.int .i64 (Pm.parR l), .int .i64 (Pm.parE l)]) ∧ Hid (Below w.heap.size w w') :=
  (rParse l W).mono fun _ _ ⟨he, hB⟩ => ⟨he, h.out.trans (hB.mono h.out.size)⟩
theorem vTextR (w W : World) (m : Int) (h : Hid (Below w.heap.size w W)) : Calls Try.prog 10 #[.int .i64 m] W fun e w' => e = .returned (.string ⟨(Pm.txt m).toArray⟩) ∧ Hid (Below w.heap.size w w') :=
  (rText m W).mono fun _ _ ⟨he, hw⟩ => ⟨he, by rw [hw]; exact h⟩
theorem vOctalR (w W : World) (m : Int) (h : Hid (Below w.heap.size w W)) : Calls Try.prog 12 #[.int .i64 m] W fun e w' => e = .returned (.string ⟨(Pm.oct m).toArray⟩) ∧ Hid (Below w.heap.size w w') :=
  (rOctal m W).mono fun _ _ ⟨he, hB⟩ => ⟨he, h.out.trans (hB.mono h.out.size)⟩
set_option maxRecDepth 100000 in
set_option maxHeartbeats 1000000 in
theorem texts_walk (m : Int) (l : List UInt8) (w : World) : Calls Try.prog 3 #[.int .i64 m, .string ⟨l.toArray⟩] w fun e w' => e = .returned (.bool true) ∧ Below w.heap.size w w' := by
  have HL : Hid (Below w.heap.size w w) := Below.refl _ _
  go_enter Try.func3, Try.ntmps3
  go_wp2_with (first | (go_at_call 7; refine (vParse w _ l (by assumption)).mono ?_; rintro e w' ⟨rfl, HN⟩) | (go_at_call 8; refine (vParseR w _ l (by assumption)).mono ?_; rintro e w' ⟨rfl, HN⟩) | (go_at_call 9; refine (wText w _ m (by assumption)).mono ?_; rintro e w' ⟨rfl, HN⟩) | (go_at_call 10; refine (vTextR w _ m (by assumption)).mono ?_; rintro e w' ⟨rfl, HN⟩) | (go_at_call 11; refine (wOctal w _ m (by assumption)).mono ?_; rintro e w' ⟨rfl, HN⟩) | (go_at_call 12; refine (vOctalR w _ m (by assumption)).mono ?_; rintro e w' ⟨rfl, HN⟩) | (go_at_call 13; refine (wLives w _ (by assumption)).mono ?_; rintro e w' ⟨rfl, HN⟩))
  go_ret
  exact ⟨rfl, by assumption⟩
end Go.Proofs.Ytmminmdmhefefaa
