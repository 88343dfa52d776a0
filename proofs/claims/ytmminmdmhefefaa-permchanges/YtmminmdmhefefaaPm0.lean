/- Plain facts on the bits of 64-bit numbers. No condition. -/
import Derived.WalkKit
import Derived.WalkSpells
import Derived.WalkLawsBesides
import Derived.Handy
import Derived.Deep.QuietTactic
import Derived.BigQuiet
import Derived.Below
namespace Go.Proofs.Ytmminmdmhefefaa
open Go.RowKit
namespace Pm
abbrev B (x : Int) : BitVec 64 := BitVec.ofInt 64 x
theorem wrap_toInt (v : BitVec 64) : IntKind.i64.wrap (v.toNat : Int) = v.toInt := by
  rw [BitVec.toInt_eq_toNat_bmod]
  simp only [IntKind.wrap, IntKind.bits, IntKind.signed, Int.bmod]
  have := v.isLt
  simp
  omega
theorem and_eq (x y : Int) : bits .and .i64 x y = (B x &&& B y).toInt := wrap_toInt _
theorem or_eq (x y : Int) : bits .or .i64 x y = (B x ||| B y).toInt := wrap_toInt _
theorem andNot_eq (x y : Int) : bits .andNot .i64 x y = (B x &&& ~~~B y).toInt := wrap_toInt _
def In64 (x : Int) : Prop := -9223372036854775808 ≤ x ∧ x < 9223372036854775808
theorem back {x : Int} (h : In64 x) : (B x).toInt = x := by
  rw [BitVec.toInt_ofInt]
  obtain ⟨h1, h2⟩ := h
  exact Int.bmod_eq_of_le_mul_two (by omega) (by omega)
theorem B_toInt (v : BitVec 64) : B v.toInt = v := BitVec.ofInt_toInt
theorem in_bv (v : BitVec 64) : In64 v.toInt := by
  have h1 := BitVec.le_toInt v
  have h2 := BitVec.toInt_lt (x := v)
  constructor <;> simp at h1 h2 <;> omega
theorem in_and (x y : Int) : In64 (bits .and .i64 x y) := by rw [and_eq]; exact in_bv _
theorem in_or (x y : Int) : In64 (bits .or .i64 x y) := by rw [or_eq]; exact in_bv _
theorem in_andNot (x y : Int) : In64 (bits .andNot .i64 x y) := by rw [andNot_eq]; exact in_bv _
/-- All of a's bits stand in b, said in two ways. -/
theorem sub_two {a : Int} (b : Int) (ha : In64 a) : (bits .andNot .i64 a b == 0) = (bits .and .i64 b a == a) := by
  rw [Bool.eq_iff_iff, beq_iff_eq, beq_iff_eq, andNot_eq, and_eq]
  conv => rhs; rhs; rw [← back ha]
  rw [BitVec.toInt_inj, show (0 : Int) = (0#64).toInt from rfl, BitVec.toInt_inj]
  constructor
  · intro h
    ext i hi
    have := congrArg (fun v => v.getLsbD i) h
    simp [hi] at this
    simp
    intro h1
    have := this (by simpa [hi] using h1)
    simpa [hi] using this
  · intro h
    ext i hi
    have := congrArg (fun v => v.getLsbD i) h
    simp [hi] at this
    simp
    simpa [hi] using this
theorem or_zero {x : Int} (h : In64 x) : bits .or .i64 0 x = x := by
  rw [or_eq, show B 0 = 0#64 from rfl, BitVec.zero_or, back h]
theorem toNat_B (x : Int) : (B x).toNat = (x % 18446744073709551616).toNat := by simp [BitVec.toNat_ofInt]
theorem toInt_small (v : BitVec 64) (h : v.toNat < 9223372036854775808) : v.toInt = v.toNat := by
  rw [BitVec.toInt_eq_toNat_bmod]; exact Int.bmod_eq_of_le_mul_two (by omega) (by omega)
/-- The lowest k bits. -/
theorem and_mask (x : Int) (k : Nat) (hk : k < 63) : bits .and .i64 x ((2 ^ k - 1 : Nat) : Int) = x % ((2 ^ k : Nat) : Int) := by
  have hp : (2 : Nat) ^ k ≤ 2 ^ 62 := Nat.pow_le_pow_right (by decide) (by omega)
  have hp0 : 0 < (2 : Nat) ^ k := Nat.two_pow_pos k
  have e : (B x &&& B ((2 ^ k - 1 : Nat) : Int)).toNat = (x % 18446744073709551616).toNat % 2 ^ k := by
    rw [BitVec.toNat_and, toNat_B, toNat_B, show (((2 ^ k - 1 : Nat) : Int) % 18446744073709551616).toNat = 2 ^ k - 1 by omega, Nat.and_two_pow_sub_one_eq_mod]
  have hlt : (x % 18446744073709551616).toNat % 2 ^ k < 2 ^ k := Nat.mod_lt _ hp0
  rw [and_eq, toInt_small _ (by rw [e]; omega), e]
  have hx : 0 ≤ x % 18446744073709551616 := Int.emod_nonneg _ (by decide)
  rw [Int.natCast_emod, Int.toNat_of_nonneg hx]
  apply Int.emod_emod_of_dvd
  refine ⟨((2 ^ (64 - k) : Nat) : Int), ?_⟩
  rw [← Int.natCast_mul, ← Nat.pow_add, show k + (64 - k) = 64 by omega]; rfl
end Pm
end Go.Proofs.Ytmminmdmhefefaa
