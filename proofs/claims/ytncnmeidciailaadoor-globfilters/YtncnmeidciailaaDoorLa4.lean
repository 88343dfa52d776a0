/- The walk of the program's letter. Conditions: a text that fits; the reader lies in memory. -/
import Derived.Test.YtncnmeidciailaaDoorLp1
import Derived.Test.YtncnmeidciailaaDoorLa3
namespace Go.Proofs.YtncnmeidciailaaDoor
open Go.RowKit
attribute [local go_sem] ext_eq app_eq get_eq
namespace Gl
theorem one_last (f : Fl) (l : List UInt8) (k : Nat) (h : k < l.length) (h2 : l[k] ≠ 92 ∨ f.plain = true ∨ ¬ k + 1 < l.length) : one f (l.drop k) = (l[k], 1) := by
  rw [List.drop_eq_getElem_cons h]
  by_cases h3 : k + 1 < l.length
  · rw [List.drop_eq_getElem_cons h3]
    show (if (decide (l[k] = 92) && !f.plain) = true then (l[k + 1], 2) else (l[k], 1)) = _
    rw [if_neg]
    rcases h2 with h2 | h2 | h2
    · simp [h2]
    · simp [h2]
    · exact absurd h3 h2
  · rw [List.drop_eq_nil_of_le (by omega)]
    rfl
theorem one_two (f : Fl) (l : List UInt8) (k : Nat) (h : k + 1 < l.length) (h1 : l[k] = 92) (h2 : f.plain = false) : one f (l.drop k) = (l[k + 1], 2) := by
  rw [List.drop_eq_getElem_cons (by omega), List.drop_eq_getElem_cons h]
  show (if (decide (l[k] = 92) && !f.plain) = true then (l[k + 1], 2) else (l[k], 1)) = _
  rw [if_pos (by simp [h1, h2])]
end Gl
set_option maxHeartbeats 1000000 in
theorem gLetter (rb : Nat) (l : List UInt8) (fl : Int) (k : Nat) (hk : k < l.length) (hl : l.length ≤ 2 ^ 47) (w : World) (h0 : w.cell? ⟨rb, 0, none⟩ = some (.string ⟨l.toArray⟩)) (h1 : w.cell? ⟨rb, 1, none⟩ = some (.int .i64 fl)) : Calls Tryd.prog 74 #[.pointer (some ⟨rb, 0, none⟩), .int .i64 k] w fun e w' => e = .returned (.tuple #[.int .u8 (Gl.one (Gl.flOf fl) (l.drop k)).1.toNat, .int .i64 ((k + (Gl.one (Gl.flOf fl) (l.drop k)).2 : Nat) : Int)]) ∧ w' = w := by
  have hs : (⟨l.toArray⟩ : ByteArray).size = l.length := str_size l
  have hw1 : IntKind.i64.wrap ((k : Int) + 1) = ((k + 1 : Nat) : Int) := by rw [IntKind.wrap_i64]; omega
  have hw2 : IntKind.i64.wrap ((k : Int) + 2) = ((k + 2 : Nat) : Int) := by rw [IntKind.wrap_i64]; omega
  by_cases hc : l[k] = 92
  · have hc' := byte_yes _ 92 92 rfl hc
    cases hf : (bits .and .i64 fl 4 == 0) with
    | false =>
      have HE := hidA (Gl.one_last (Gl.flOf fl) l k hk (.inr (.inl (by show (bits .and .i64 fl 4 != 0) = true; simp at hf ⊢; exact hf))))
      clear hc
      go_enter Tryd.func74, Tryd.ntmps74
      go_wp2
      go_ret2
      exact ⟨by rw [HE.out]; rfl, rfl⟩
    | true =>
      by_cases hk1 : k + 1 < l.length
      · have HE := hidA (Gl.one_two (Gl.flOf fl) l k hk1 hc (by show (bits .and .i64 fl 4 != 0) = false; simp at hf ⊢; exact hf))
        have hk2 : decide (((k + 1 : Nat) : Int) < (l.length : Int)) = true := by simp; omega
        clear hc
        go_enter Tryd.func74, Tryd.ntmps74
        go_wp2
        go_ret2
        exact ⟨by rw [HE.out]; rfl, rfl⟩
      · have HE := hidA (Gl.one_last (Gl.flOf fl) l k hk (.inr (.inr hk1)))
        have hk2 : decide (((k + 1 : Nat) : Int) < (l.length : Int)) = false := by simp; omega
        clear hc
        go_enter Tryd.func74, Tryd.ntmps74
        go_wp2
        go_ret2
        exact ⟨by rw [HE.out]; rfl, rfl⟩
  · have hc' := byte_no _ 92 92 rfl hc
    have HE := hidA (Gl.one_last (Gl.flOf fl) l k hk (.inl hc))
    clear hc
    go_enter Tryd.func74, Tryd.ntmps74
    go_wp2
    go_ret2
    exact ⟨by rw [HE.out]; rfl, rfl⟩
end Go.Proofs.YtncnmeidciailaaDoor
