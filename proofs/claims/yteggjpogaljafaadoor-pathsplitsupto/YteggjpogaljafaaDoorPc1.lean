/- The document's examples live; Base and Dir are as the document says. Condition: lengths that fit. -/
import Derived.Test.YteggjpogaljafaaDoorPb8
import Derived.Test.YteggjpogaljafaaDoorPb9
namespace Go.Proofs.YteggjpogaljafaaDoor
open Go.RowKit
attribute [local go_sem] ext_eq app_eq get_eq toL_eq
theorem liveSplit (w : World) : Calls Tryd.prog 8 #[.string ⟨#[47, 47, 97, 47, 46, 47, 98, 47]⟩] w fun e w' => ∃ a c, e = .returned (.tuple #[.agg #[.bool true, .slice a 3 c, .bool true], .int .i64 0]) ∧ Below w.heap.size w w' := by
  refine (pSplit [47, 47, 97, 47, 46, 47, 98, 47] w (by simp)).mono ?_
  rintro e w' ⟨v, rfl, hv, hB⟩
  obtain ⟨-, a, c, rfl, -⟩ := own_strs hv
  refine ⟨a, c, ?_, hB⟩
  rw [show Pa.splA [47, 47, 97, 47, 46, 47, 98, 47] = true by kernel_rfl, show Pa.splS [47, 47, 97, 47, 46, 47, 98, 47] = true by kernel_rfl, show Pa.splC [47, 47, 97, 47, 46, 47, 98, 47] = 0 by kernel_rfl, show (Pa.splN [47, 47, 97, 47, 46, 47, 98, 47]).length = 3 by kernel_rfl]
theorem liveRel (w : World) : Calls Tryd.prog 23 #[.string ⟨#[47, 97, 47, 98]⟩, .string ⟨#[47, 97, 47, 99, 47, 100]⟩] w fun e w' => e = .returned (.tuple #[.string ⟨#[46, 46, 47, 99, 47, 100]⟩, .bool true]) ∧ Below w.heap.size w w' := by
  have h := pRel [47, 97, 47, 98] [47, 97, 47, 99, 47, 100] w (by simp) (by simp)
  rw [show Pa.relS [47, 97, 47, 98] [47, 97, 47, 99, 47, 100] = [46, 46, 47, 99, 47, 100] by kernel_rfl, show Pa.relOk [47, 97, 47, 98] [47, 97, 47, 99, 47, 100] = true by kernel_rfl] at h
  exact h
theorem liveClean (w : World) : Calls Tryd.prog 15 #[.string ⟨#[47, 46, 46, 47, 97, 47, 47, 98, 47, 46, 46, 47, 99, 47, 46]⟩] w fun e w' => e = .returned (.string ⟨#[47, 97, 47, 99]⟩) ∧ Below w.heap.size w w' := by
  have h := pClean [47, 46, 46, 47, 97, 47, 47, 98, 47, 46, 46, 47, 99, 47, 46] w (by simp)
  rw [show Pa.clean [47, 46, 46, 47, 97, 47, 47, 98, 47, 46, 46, 47, 99, 47, 46] = [47, 97, 47, 99] by kernel_rfl] at h
  exact h
theorem liveBase (w : World) : Calls Tryd.prog 19 #[.string ⟨#[47, 97, 47, 98, 46, 99, 47]⟩, .string ⟨#[46, 99]⟩] w fun e w' => e = .returned (.string ⟨#[98]⟩) ∧ w' = w := by
  have h := pBase [47, 97, 47, 98, 46, 99, 47] [46, 99] w (by simp)
  rw [show Pa.base [47, 97, 47, 98, 46, 99, 47] [46, 99] = [98] by kernel_rfl] at h
  exact h
set_option maxRecDepth 100000 in
set_option maxHeartbeats 2000000 in
theorem lives_walk (w : World) : Calls Tryd.prog 14 #[] w fun e w' => e = .returned (.bool true) ∧ Below w.heap.size w w' := by
  go_enter Tryd.func14, Tryd.ntmps14
  go_wp2_with fail
  refine (liveSplit _).mono ?_
  rintro e w1 ⟨a, c, rfl, HB1⟩
  go_wp2_with fail
  refine (liveRel _).mono ?_
  rintro e w2 ⟨rfl, HB2⟩
  have HB2' : Below w1.heap.size w1 w2 := ((Below.refl w1.heap.size w1).alloc (Nat.le_refl _) _).trans (HB2.mono (by simp))
  have hcl := fun o => HB2.cell (p := ⟨w1.heap.size, o, none⟩) (by simp)
  have HBw : Below w.heap.size w w2 := HB1.trans (HB2'.mono HB1.size)
  clear HB1 HB2'
  go_wp2_with fail
  refine (liveClean _).mono ?_
  rintro e w3 ⟨rfl, HB3⟩
  go_wp2_with fail
  refine (liveBase _).mono ?_
  rintro e w4 ⟨rfl, rfl⟩
  go_wp2
  go_ret
  exact ⟨rfl, HBw.trans (HB3.mono HBw.size)⟩
set_option maxRecDepth 100000 in
set_option maxHeartbeats 2000000 in
theorem ends_walk (l suf : List UInt8) (w : World) (hl : l.length ≤ 2 ^ 60) (hf : suf.length ≤ 2 ^ 60) : Calls Tryd.prog 5 #[.string ⟨l.toArray⟩, .string ⟨suf.toArray⟩] w fun e w' => e = .returned (.bool true) ∧ Below w.heap.size w w' := by
  go_enter Tryd.func5, Tryd.ntmps5
  go_wp2_with fail
  refine (pBase l suf _ hl).mono ?_
  rintro e w1 ⟨rfl, rfl⟩
  go_wp2_with fail
  refine (rBase l suf _ hl hf).mono ?_
  rintro e w1 ⟨rfl, rfl⟩
  go_wp2_with fail
  refine (pDir l _ hl).mono ?_
  rintro e w1 ⟨rfl, rfl⟩
  go_wp2_with fail
  refine (rDir l _ hl).mono ?_
  rintro e w1 ⟨rfl, rfl⟩
  go_wp2_with fail
  refine (lives_walk _).mono ?_
  rintro e w2 ⟨rfl, HB⟩
  go_wp2
  go_ret
  exact ⟨rfl, HB⟩
end Go.Proofs.YteggjpogaljafaaDoor
