/- The walks of the plain answer's lower, upper, digit, other, one. No condition but a text that is not empty. -/
import Derived.Test.YtncnmeidciailaaDoorLp2
import Derived.Test.YtncnmeidciailaaDoorLa4
namespace Go.Proofs.YtncnmeidciailaaDoor
open Go.RowKit
attribute [local go_sem] ext_eq app_eq get_eq
set_option maxHeartbeats 1000000 in
theorem rUpper (c : UInt8) (w : World) : Calls Tryd.prog 72 #[.int .u8 c.toNat] w fun e w' => e = .returned (.bool (Gl.up c)) ∧ w' = w := by
  by_cases h1 : 65 ≤ c.toNat
  all_goals
    go_enter Tryd.func72, Tryd.ntmps72
    go_wp2
    go_ret
    exact ⟨ret_bool (by rw [Bool.eq_iff_iff]; simp only [Gl.up, Bool.and_eq_true, decide_eq_true_eq, Bool.false_eq_true, false_iff]; omega), rfl⟩
set_option maxHeartbeats 1000000 in
theorem rLower (c : UInt8) (w : World) : Calls Tryd.prog 71 #[.int .u8 c.toNat] w fun e w' => e = .returned (.bool (Gl.lo c)) ∧ w' = w := by
  by_cases h1 : 97 ≤ c.toNat
  all_goals
    go_enter Tryd.func71, Tryd.ntmps71
    go_wp2
    go_ret
    exact ⟨ret_bool (by rw [Bool.eq_iff_iff]; simp only [Gl.lo, Bool.and_eq_true, decide_eq_true_eq, Bool.false_eq_true, false_iff]; omega), rfl⟩
set_option maxHeartbeats 1000000 in
theorem rDigit (c : UInt8) (w : World) : Calls Tryd.prog 69 #[.int .u8 c.toNat] w fun e w' => e = .returned (.bool (Gl.dg c)) ∧ w' = w := by
  by_cases h1 : 48 ≤ c.toNat
  all_goals
    go_enter Tryd.func69, Tryd.ntmps69
    go_wp2
    go_ret
    exact ⟨ret_bool (by rw [Bool.eq_iff_iff]; simp only [Gl.dg, Bool.and_eq_true, decide_eq_true_eq, Bool.false_eq_true, false_iff]; omega), rfl⟩
theorem other_lo {c : UInt8} (h : Gl.lo c = true) : ((Gl.other c).toNat : Int) = (c.toNat : Int) - 32 := by
  unfold Gl.other
  rw [if_pos h]
  simp only [Gl.lo, Bool.and_eq_true, decide_eq_true_eq] at h
  rw [UInt8.toNat_sub]
  show (((256 - 32 + c.toNat) % 256 : Nat) : Int) = _
  omega
theorem other_up {c : UInt8} (h : Gl.lo c = false) (h2 : Gl.up c = true) : ((Gl.other c).toNat : Int) = (c.toNat : Int) + 32 := by
  unfold Gl.other
  rw [if_neg (by simp [h]), if_pos h2]
  simp only [Gl.up, Bool.and_eq_true, decide_eq_true_eq] at h2
  rw [UInt8.toNat_add]
  show (((c.toNat + 32) % 256 : Nat) : Int) = _
  omega
set_option maxHeartbeats 1000000 in
theorem rOther (c : UInt8) (w : World) : Calls Tryd.prog 61 #[.int .u8 c.toNat] w fun e w' => e = .returned (.int .u8 (Gl.other c).toNat) ∧ w' = w := by
  have HL := hidA (fun W => rLower c W)
  have HU := hidA (fun W => rUpper c W)
  cases hl : Gl.lo c with
  | true =>
    have he := other_lo hl
    have hb : 32 ≤ c.toNat := by simp only [Gl.lo, Bool.and_eq_true, decide_eq_true_eq] at hl; omega
    have h8 := c.toNat_lt
    have hw : IntKind.u8.wrap ((c.toNat : Int) - 32) = (c.toNat : Int) - 32 := by rw [IntKind.wrap_u8]; omega
    have HE := hidA he
    rw [hl] at HL
    clear hl HU he
    go_enter Tryd.func61, Tryd.ntmps61
    go_wp2_with (go_at_call 71; refine (HL.out _).mono ?_; rintro e w1 ⟨rfl, hw'⟩; rw [hw']; clear hw' w1)
    go_ret
    exact ⟨ret_int HE.out.symm, rfl⟩
  | false =>
    rw [hl] at HL
    cases hu : Gl.up c with
    | true =>
      have he := other_up hl hu
      have hb : c.toNat ≤ 90 := by simp only [Gl.up, Bool.and_eq_true, decide_eq_true_eq] at hu; omega
      have hw : IntKind.u8.wrap ((c.toNat : Int) + 32) = (c.toNat : Int) + 32 := by rw [IntKind.wrap_u8]; omega
      have HE := hidA he
      rw [hu] at HU
      clear hl hu he
      go_enter Tryd.func61, Tryd.ntmps61
      go_wp2_with (first | (go_at_call 71; refine (HL.out _).mono ?_; rintro e w1 ⟨rfl, hw'⟩; rw [hw']; clear hw' w1) | (go_at_call 72; refine (HU.out _).mono ?_; rintro e w1 ⟨rfl, hw'⟩; rw [hw']; clear hw' w1))
      go_ret
      exact ⟨ret_int HE.out.symm, rfl⟩
    | false =>
      have HE : Hid (Gl.other c = c) := by show _ = _; unfold Gl.other; rw [if_neg (by simp [hl]), if_neg (by simp [hu])]
      rw [hu] at HU
      clear hl hu
      go_enter Tryd.func61, Tryd.ntmps61
      go_wp2_with (first | (go_at_call 71; refine (HL.out _).mono ?_; rintro e w1 ⟨rfl, hw'⟩; rw [hw']; clear hw' w1) | (go_at_call 72; refine (HU.out _).mono ?_; rintro e w1 ⟨rfl, hw'⟩; rw [hw']; clear hw' w1))
      go_ret
      exact ⟨by rw [HE.out]; rfl, rfl⟩
theorem one_two {f : Gl.Fl} {l : List UInt8} (h : 1 < l.length) (h0 : l[0] = 92) (hp : f.plain = false) : Gl.one f l = (l[1], 2) := by
  match l, h with
  | c :: d :: r, _ =>
    show (if (decide (c = 92) && !f.plain) = true then (d, 2) else (c, 1)) = _
    have : c = 92 := h0
    rw [if_pos (by simp [this, hp])]; rfl
theorem one_one {f : Gl.Fl} {l : List UInt8} (h : 0 < l.length) (h0 : l[0] ≠ 92 ∨ f.plain = true ∨ ¬ 1 < l.length) : Gl.one f l = (l[0], 1) := by
  match l, h with
  | [c], _ => rfl
  | c :: d :: r, _ =>
    show (if (decide (c = 92) && !f.plain) = true then (d, 2) else (c, 1)) = _
    have h1 : c ≠ 92 ∨ f.plain = true ∨ ¬ 1 < (c :: d :: r).length := h0
    rw [if_neg]
    · rfl
    · simp only [Bool.and_eq_true, decide_eq_true_eq, Bool.not_eq_true']
      rintro ⟨h2, h3⟩
      rcases h1 with h1 | h1 | h1
      · exact h1 h2
      · rw [h3] at h1; cases h1
      · simp at h1
set_option maxRecDepth 100000 in
set_option maxHeartbeats 1000000 in
theorem rOne (l : List UInt8) (fl : Int) (hl : 0 < l.length) (hl2 : l.length ≤ 2 ^ 62) (w : World) : Calls Tryd.prog 60 #[.string ⟨l.toArray⟩, .int .i64 fl] w fun e w' => e = .returned (.tuple #[.int .u8 (Gl.one (Gl.flOf fl) l).1.toNat, .int .i64 ((Gl.one (Gl.flOf fl) l).2 : Nat)]) ∧ w' = w := by
  have hs : (⟨l.toArray⟩ : ByteArray).size = l.length := str_size l
  have hpl : (Gl.flOf fl).plain = (bits .and .i64 fl 4 != 0) := rfl
  by_cases h0 : l[0] = 92
  · have h0' := byte_yes _ 92 92 rfl h0
    cases hp : (bits .and .i64 fl 4 != 0) with
    | true =>
      have HE := hidA (one_one hl (.inr (.inl (hpl.trans hp))) : Gl.one (Gl.flOf fl) l = (l[0], 1))
      have hp' : (bits .and .i64 fl 4 == 0) = false := by simpa using hp
      clear h0 hp hpl
      rw [HE.out]
      go_enter Tryd.func60, Tryd.ntmps60
      go_wp2
      go_ret2
      exact ⟨rfl, rfl⟩
    | false =>
      have hp' : (bits .and .i64 fl 4 == 0) = true := by simpa using hp
      by_cases h1 : 1 < l.length
      · have HE := hidA (one_two h1 h0 (hpl.trans hp) : Gl.one (Gl.flOf fl) l = (l[1], 2))
        clear h0 hp hpl
        rw [HE.out]
        go_enter Tryd.func60, Tryd.ntmps60
        go_wp2
        go_ret2
        exact ⟨rfl, rfl⟩
      · have HE := hidA (one_one hl (.inr (.inr h1)) : Gl.one (Gl.flOf fl) l = (l[0], 1))
        clear h0 hp hpl
        rw [HE.out]
        go_enter Tryd.func60, Tryd.ntmps60
        go_wp2
        go_ret2
        exact ⟨rfl, rfl⟩
  · have h0' := byte_no _ 92 92 rfl h0
    have HE := hidA (one_one hl (.inl h0) : Gl.one (Gl.flOf fl) l = (l[0], 1))
    clear h0 hpl
    rw [HE.out]
    go_enter Tryd.func60, Tryd.ntmps60
    go_wp2
    go_ret2
    exact ⟨rfl, rfl⟩
end Go.Proofs.YtncnmeidciailaaDoor
