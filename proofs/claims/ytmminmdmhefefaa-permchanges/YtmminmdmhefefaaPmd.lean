/- Change of the program, as one; the document's examples live. Condition: a length that fits. -/
import Derived.Test.YtmminmdmhefefaaPmc
namespace Go.Proofs.Ytmminmdmhefefaa
open Go.RowKit
theorem ret_two {a b c d : Int} (h : a = c) (k : b = d) : Ending.returned (.tuple #[.int .i64 a, .int .i64 b]) = .returned (.tuple #[.int .i64 c, .int .i64 d]) := by rw [h, k]
theorem pChange (l : List UInt8) (old umask : Int) (w : World) (hl : l.length ≤ 2 ^ 60) :
    Calls Try.prog 14 #[.string ⟨l.toArray⟩, .int .i64 old, .int .i64 umask] w fun e w' => e = .returned (.tuple #[.int .i64 (Pm.chgM l old umask), .int .i64 (Pm.chgE l old umask)]) ∧ Below w.heap.size w w' := by
  cases l with
  | nil => exact chg_nil [] old umask rfl (by simp [Pm.runB, Pm.takeB, Pm.r0, Pm.whoseB]) w
  | cons c cs =>
    cases hd : Pm.dig c with
    | true =>
      cases hn : Pm.numB (c :: cs) with
      | some n =>
        have ho : Pm.chgO (c :: cs) old umask = some n := by simp [Pm.chgO, hd, hn]
        exact (chg_num (c :: cs) n old umask (by simp) hd hn hl w).mono fun e w' ⟨he, hB⟩ => ⟨he.trans (ret_two (by simp [Pm.chgM, ho]) (by simp [Pm.chgE, ho])), hB⟩
      | none =>
        have ho : Pm.chgO (c :: cs) old umask = none := by simp [Pm.chgO, hd, hn]
        exact (chg_num_no (c :: cs) old umask (by simp) hd hn hl w).mono fun e w' ⟨he, hB⟩ => ⟨he.trans (ret_two (by simp [Pm.chgM, ho]) (by simp [Pm.chgE, ho])), hB⟩
    | false =>
      cases hn : Pm.runB (Pm.r0 old umask) (c :: cs) with
      | some r =>
        have ho : Pm.chgO (c :: cs) old umask = some r.now := by simp [Pm.chgO, hd, hn]
        exact (chg_cl (c :: cs) r old umask (by simp) hd hn w).mono fun e w' ⟨he, hB⟩ => ⟨he.trans (ret_two (by simp [Pm.chgM, ho]) (by simp [Pm.chgE, ho])), hB⟩
      | none =>
        have ho : Pm.chgO (c :: cs) old umask = none := by simp [Pm.chgO, hd, hn]
        exact (chg_cl_no (c :: cs) old umask (by simp) hd hn w).mono fun e w' ⟨he, hB⟩ => ⟨he.trans (ret_two (by simp [Pm.chgM, ho]) (by simp [Pm.chgE, ho])), hB⟩
theorem live1 (w : World) : Calls Try.prog 14 #[.string ⟨#[117, 61, 114, 119, 44, 103, 111, 61, 114]⟩, .int .i64 33279, .int .i64 0] w fun e w' => e = .returned (.tuple #[.int .i64 33188, .int .i64 0]) ∧ Below w.heap.size w w' := by
  have h := pChange [117, 61, 114, 119, 44, 103, 111, 61, 114] 33279 0 w (by simp)
  rw [show Pm.chgM [117, 61, 114, 119, 44, 103, 111, 61, 114] 33279 0 = 33188 by kernel_rfl, show Pm.chgE [117, 61, 114, 119, 44, 103, 111, 61, 114] 33279 0 = 0 by kernel_rfl] at h
  exact h
theorem live2 (w : World) : Calls Try.prog 14 #[.string ⟨#[103, 61, 117, 44, 111, 45, 114, 119, 120]⟩, .int .i64 33248, .int .i64 0] w fun e w' => e = .returned (.tuple #[.int .i64 33272, .int .i64 0]) ∧ Below w.heap.size w w' := by
  have h := pChange [103, 61, 117, 44, 111, 45, 114, 119, 120] 33248 0 w (by simp)
  rw [show Pm.chgM [103, 61, 117, 44, 111, 45, 114, 119, 120] 33248 0 = 33272 by kernel_rfl, show Pm.chgE [103, 61, 117, 44, 111, 45, 114, 119, 120] 33248 0 = 0 by kernel_rfl] at h
  exact h
theorem live3 (w : World) : Calls Try.prog 9 #[.int .i64 35309] w fun e w' => e = .returned (.string ⟨#[45, 114, 119, 115, 114, 45, 120, 114, 45, 120]⟩) ∧ Below w.heap.size w w' := by
  have h := pText 35309 w
  rw [show Pm.txt 35309 = [45, 114, 119, 115, 114, 45, 120, 114, 45, 120] by kernel_rfl] at h
  exact h
set_option maxRecDepth 100000 in
set_option maxHeartbeats 2000000 in
theorem lives_walk (w : World) : Calls Try.prog 13 #[] w fun e w' => e = .returned (.bool true) ∧ Below w.heap.size w w' := by
  go_enter Try.func13, Try.ntmps13
  go_wp2_with fail
  refine (live1 _).mono ?_
  rintro e w1 ⟨rfl, HB1⟩
  have HC1 : Hid (Below w.heap.size w w1) := HB1
  clear HB1
  go_wp2_with fail
  refine (live2 _).mono ?_
  rintro e w2 ⟨rfl, HB2⟩
  have HC2 : Hid (Below w.heap.size w w2) := HC1.out.trans (HB2.mono HC1.out.size)
  clear HB2 HC1
  go_wp2_with fail
  refine (live3 _).mono ?_
  rintro e w3 ⟨rfl, HB3⟩
  have HC3 : Hid (Below w.heap.size w w3) := HC2.out.trans (HB3.mono HC2.out.size)
  clear HB3 HC2
  go_wp2
  go_ret
  exact ⟨rfl, HC3⟩
end Go.Proofs.Ytmminmdmhefefaa
