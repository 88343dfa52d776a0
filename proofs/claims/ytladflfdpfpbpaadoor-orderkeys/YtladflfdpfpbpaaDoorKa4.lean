/- The walks of the library's Cut and CutPrefix at a sign of one byte. Condition: a text that fits. -/
import Derived.Test.YtladflfdpfpbpaaDoorKa1
import Derived.Test.YtladflfdpfpbpaaDoorShelf
namespace Go.Proofs.YtladflfdpfpbpaaDoor
open Go.RowKit
attribute [local go_sem] ext_eq app_eq get_eq
namespace Ok
/-- Where the comma is found. -/
def ix (s : List UInt8) : Int := if ci s < s.length then (ci s : Int) else -1
theorem index_ix : ∀ s : List UInt8, Lib.indexByte s 44 = ix s
  | [] => rfl
  | c :: s => by
    have ih := index_ix s
    unfold ix at ih ⊢
    by_cases hc : c = 44
    · subst hc
      rw [show ci (44 :: s) = 0 from if_pos rfl]
      simp [Lib.indexByte]
    · rw [show ci (c :: s) = ci s + 1 from if_neg hc]
      by_cases h : ci s < s.length
      · rw [if_pos h] at ih
        rw [if_pos (by rw [List.length_cons]; omega)]
        simp [Lib.indexByte, hc, ih]
        try omega
      · rw [if_neg h] at ih
        rw [if_neg (by rw [List.length_cons]; omega)]
        simp [Lib.indexByte, hc, ih]
/-- What Cut tells. -/
def CT (s : List UInt8) : List UInt8 × List UInt8 × Bool := if ci s < s.length then (s.take (ci s), s.drop (ci s + 1), true) else (s, [], false)
end Ok
set_option maxRecDepth 100000 in
set_option maxHeartbeats 2000000 in
theorem kCut0 (s : List UInt8) (hs : s.length ≤ 2 ^ 60) (w : World) : Calls Tryd.prog 14 #[.string ⟨s.toArray⟩, .string ⟨#[44]⟩] w fun e w' => e = .returned (.tuple #[.string ⟨(Ok.CT s).1.toArray⟩, .string ⟨(Ok.CT s).2.1.toArray⟩, .bool (Ok.CT s).2.2]) ∧ Below w.heap.size w w' := by
  have HI := hidA (Tryd.stringslite_Index_one ⟨s.toArray⟩ 44 w)
  have hi : Lib.indexByte (⟨s.toArray⟩ : ByteArray).data.toList 44 = Ok.ix s := Ok.index_ix s
  rw [hi] at HI
  clear hi
  by_cases h : Ok.ci s < s.length
  · have HC : Hid (Ok.CT s = (s.take (Ok.ci s), s.drop (Ok.ci s + 1), true)) := if_pos h
    rw [show Ok.ix s = (Ok.ci s : Int) from if_pos h] at HI
    generalize Ok.ci s = k at *
    have hw1 : IntKind.i64.wrap ((k : Int) + 1) = ((k + 1 : Nat) : Int) := by rw [IntKind.wrap_i64]; omega
    have h1 : k + 1 ≤ s.length := h
    have hI : (k : Int) ≤ (s.length : Int) := by omega
    have hI1 : ((k + 1 : Nat) : Int) ≤ (s.length : Int) := by omega
    go_enter Tryd.func14, Tryd.ntmps14
    go_wp2_with (first | (go_at_call 22; refine HI.out.mono ?_; rintro e w1 ⟨rfl, hw1⟩; rw [hw1]; clear hw1 w1) | (go_quiet (fail)))
    go_ret3
    exact ⟨by rw [HC.out]; first | rfl | simp, bl_drew w _⟩
  · have HC : Hid (Ok.CT s = (s, [], false)) := if_neg h
    rw [show Ok.ix s = -1 from if_neg h] at HI
    clear h
    go_enter Tryd.func14, Tryd.ntmps14
    go_wp2_with (first | (go_at_call 22; refine HI.out.mono ?_; rintro e w1 ⟨rfl, hw1⟩; rw [hw1]; clear hw1 w1))
    go_ret3
    exact ⟨by rw [HC.out]; rfl, Below.refl _ _⟩
set_option maxRecDepth 100000 in
set_option maxHeartbeats 2000000 in
theorem kCut (s : List UInt8) (hs : s.length ≤ 2 ^ 60) (w : World) : Calls Tryd.prog 8 #[.string ⟨s.toArray⟩, .string ⟨#[44]⟩] w fun e w' => e = .returned (.tuple #[.string ⟨(Ok.CT s).1.toArray⟩, .string ⟨(Ok.CT s).2.1.toArray⟩, .bool (Ok.CT s).2.2]) ∧ Below w.heap.size w w' := by
  have HI := hidA (kCut0 s hs w)
  generalize (Ok.CT s).1 = a at *
  generalize (Ok.CT s).2.1 = b at *
  generalize (Ok.CT s).2.2 = c at *
  go_enter Tryd.func8, Tryd.ntmps8
  go_wp2_with (go_at_call 14; refine HI.out.mono ?_; rintro e w1 ⟨rfl, b1⟩)
  go_ret3
  exact ⟨rfl, b1⟩
end Go.Proofs.YtladflfdpfpbpaaDoor
