/- The walks of the program's isUpper, isLower, isLetter, isDigit, isGraph, folded, guarded. No condition but a place that is there. -/
import Derived.Test.YtncnmeidciailaaDoorLa0
namespace Go.Proofs.YtncnmeidciailaaDoor
open Go.RowKit
attribute [local go_sem] ext_eq app_eq get_eq
namespace Gl
def up (c : UInt8) : Bool := decide (65 ≤ c.toNat) && decide (c.toNat ≤ 90)
def lo (c : UInt8) : Bool := decide (97 ≤ c.toNat) && decide (c.toNat ≤ 122)
def dg (c : UInt8) : Bool := decide (48 ≤ c.toNat) && decide (c.toNat ≤ 57)
def gr (c : UInt8) : Bool := decide (33 ≤ c.toNat) && decide (c.toNat ≤ 126)
def let_ (c : UInt8) : Bool := up c || lo c
/-- The flags of an int. -/
def flOf (fl : Int) : Fl := ⟨bits .and .i64 fl 1 != 0, bits .and .i64 fl 2 != 0, bits .and .i64 fl 4 != 0, bits .and .i64 fl 8 != 0⟩
theorem fold_no {f : Fl} {c : UInt8} (h : f.fold = false ∨ up c = false) : fold f c = c := by
  unfold fold
  rw [if_neg]
  intro e
  simp only [up, Bool.and_eq_false_iff] at h
  simp only [Bool.and_eq_true] at e
  obtain ⟨⟨e1, e2⟩, e3⟩ := e
  rcases h with h | h | h
  · rw [h] at e1; cases e1
  · rw [h] at e2; cases e2
  · rw [h] at e3; cases e3
theorem fold_yes {f : Fl} {c : UInt8} (h : f.fold = true) (hu : up c = true) : ((fold f c).toNat : Int) = (((c.toNat : Int) - 65) % 256 + 97) % 256 := by
  simp only [up, Bool.and_eq_true] at hu
  unfold fold
  rw [if_pos (by simp only [Bool.and_eq_true]; exact ⟨⟨h, hu.1⟩, hu.2⟩)]
  simp only [decide_eq_true_eq] at hu
  rw [UInt8.toNat_add]
  show (((c.toNat + 32) % 256 : Nat) : Int) = _
  omega
end Gl
set_option maxHeartbeats 1000000 in
theorem gIsUpper (c : UInt8) (w : World) : Calls Tryd.prog 90 #[.int .u8 c.toNat] w fun e w' => e = .returned (.bool (Gl.up c)) ∧ w' = w := by
  by_cases h1 : 65 ≤ c.toNat
  all_goals
    go_enter Tryd.func90, Tryd.ntmps90
    go_wp2
    go_ret
    exact ⟨ret_bool (by rw [Bool.eq_iff_iff]; simp only [Gl.up, Bool.and_eq_true, decide_eq_true_eq, Bool.false_eq_true, false_iff]; omega), rfl⟩
theorem gIsLower (c : UInt8) (w : World) : Calls Tryd.prog 89 #[.int .u8 c.toNat] w fun e w' => e = .returned (.bool (Gl.lo c)) ∧ w' = w := by
  by_cases h1 : 97 ≤ c.toNat
  all_goals
    go_enter Tryd.func89, Tryd.ntmps89
    go_wp2
    go_ret
    exact ⟨ret_bool (by rw [Bool.eq_iff_iff]; simp only [Gl.lo, Bool.and_eq_true, decide_eq_true_eq, Bool.false_eq_true, false_iff]; omega), rfl⟩
theorem gIsDigit (c : UInt8) (w : World) : Calls Tryd.prog 84 #[.int .u8 c.toNat] w fun e w' => e = .returned (.bool (Gl.dg c)) ∧ w' = w := by
  by_cases h1 : 48 ≤ c.toNat
  all_goals
    go_enter Tryd.func84, Tryd.ntmps84
    go_wp2
    go_ret
    exact ⟨ret_bool (by rw [Bool.eq_iff_iff]; simp only [Gl.dg, Bool.and_eq_true, decide_eq_true_eq, Bool.false_eq_true, false_iff]; omega), rfl⟩
theorem gIsGraph (c : UInt8) (w : World) : Calls Tryd.prog 88 #[.int .u8 c.toNat] w fun e w' => e = .returned (.bool (Gl.gr c)) ∧ w' = w := by
  by_cases h1 : 33 ≤ c.toNat
  all_goals
    go_enter Tryd.func88, Tryd.ntmps88
    go_wp2
    go_ret
    exact ⟨ret_bool (by rw [Bool.eq_iff_iff]; simp only [Gl.gr, Bool.and_eq_true, decide_eq_true_eq, Bool.false_eq_true, false_iff]; omega), rfl⟩
theorem gIsLetter (c : UInt8) (w : World) : Calls Tryd.prog 87 #[.int .u8 c.toNat] w fun e w' => e = .returned (.bool (Gl.let_ c)) ∧ w' = w := by
  have hl : Gl.let_ c = (Gl.up c || Gl.lo c) := rfl
  cases h : Gl.up c
  all_goals
    rw [h] at hl
    go_enter Tryd.func87, Tryd.ntmps87
    go_wp2_with (first | (go_at_call 90; refine (gIsUpper _ _).mono ?_; rintro e w1 ⟨rfl, rfl⟩) | (go_at_call 89; refine (gIsLower _ _).mono ?_; rintro e w1 ⟨rfl, rfl⟩))
    go_ret
    exact ⟨ret_bool (by rw [hl]; simp), rfl⟩
theorem gFolded (c : UInt8) (fl : Int) (w : World) : Calls Tryd.prog 75 #[.int .u8 c.toNat, .int .i64 fl] w fun e w' => e = .returned (.int .u8 (Gl.fold (Gl.flOf fl) c).toNat) ∧ w' = w := by
  have HU := hidA (gIsUpper c w)
  cases hf : (bits .and .i64 fl 8 != 0) with
  | false =>
    have HE := hidA (Gl.fold_no (f := Gl.flOf fl) (c := c) (.inl hf))
    have hf' : bits .and .i64 fl 8 = 0 := by simpa using hf
    clear HU
    go_enter Tryd.func75, Tryd.ntmps75
    go_wp2
    go_ret
    exact ⟨by rw [HE.out]; rfl, rfl⟩
  | true =>
    have hf' : ¬ bits .and .i64 fl 8 = 0 := by simpa using hf
    cases hu : Gl.up c with
    | false =>
      have HE := hidA (Gl.fold_no (f := Gl.flOf fl) (c := c) (.inr hu))
      rw [hu] at HU
      clear hu
      go_enter Tryd.func75, Tryd.ntmps75
      go_wp2_with (go_at_call 90; refine HU.out.mono ?_; rintro e w1 ⟨rfl, hw1⟩; rw [hw1]; clear hw1 w1)
      go_ret
      exact ⟨by rw [HE.out]; rfl, rfl⟩
    | true =>
      have HE := hidA (Gl.fold_yes (f := Gl.flOf fl) (c := c) hf hu)
      rw [hu] at HU
      clear hu
      go_enter Tryd.func75, Tryd.ntmps75
      go_wp2_with (go_at_call 90; refine HU.out.mono ?_; rintro e w1 ⟨rfl, hw1⟩; rw [hw1]; clear hw1 w1)
      go_ret
      exact ⟨by rw [HE.out]; rfl, rfl⟩
end Go.Proofs.YtncnmeidciailaaDoor
