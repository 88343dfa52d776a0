/- The refs of an indirect block: four bytes each, the lowest first; the walks of block and load. Conditions: the store lies in memory as 'St' says, the table's first cell leads to it. -/
import Derived.Test.YtgplmgliockbcaaDoorSt
import Derived.Laws.BitsAllLaws
import Derived.Deep.RegionHeld
namespace Go.Proofs.YtgplmgliockbcaaDoor
open Go.RowKit

theorem ofInt_nat64 (a : Nat) (ha : a < 9223372036854775808) : (BitVec.ofInt 64 (a : Int)).toNat = a := by
  rw [BitVec.toNat_ofInt]; omega
theorem i64_or_nat (a b : Nat) (ha : a < 9223372036854775808) (hb : b < 9223372036854775808) : bits .or .i64 (a : Int) (b : Int) = ((a ||| b : Nat) : Int) := by
  have hx : a ||| b < 2 ^ 63 := Nat.or_lt_two_pow (by omega) (by omega)
  show IntKind.i64.wrap ((BitVec.ofInt 64 (a : Int) ||| BitVec.ofInt 64 (b : Int)).toNat : Int) = _
  rw [BitVec.toNat_or, ofInt_nat64 a ha, ofInt_nat64 b hb]
  simp [IntKind.wrap, IntKind.bits, IntKind.signed]; omega
theorem or_add (a x k : Nat) (h : a < 2 ^ k) : a ||| x * 2 ^ k = a + x * 2 ^ k := by
  rw [Nat.or_comm, Nat.mul_comm, ← Nat.two_pow_add_eq_or_of_lt h, Nat.add_comm]

/-- The first j of the bytes from o on, as a number. -/
def lePart (D : Nat → Nat) (o : Nat) : Nat → Nat
  | 0 => 0
  | j + 1 => lePart D o j + D (o + j) * 2 ^ (8 * j)
def le4 (D : Nat → Nat) (o : Nat) : Nat := lePart D o 4
theorem lePart_lt (D : Nat → Nat) (hD : ∀ j, D j < 256) (o : Nat) : ∀ j, lePart D o j < 2 ^ (8 * j)
  | 0 => by simp [lePart]
  | j + 1 => by
    have h1 := lePart_lt D hD o j
    have h2 := hD (o + j)
    have h3 : 2 ^ (8 * (j + 1)) = 256 * 2 ^ (8 * j) := by rw [show 8 * (j + 1) = 8 + 8 * j by omega, Nat.pow_add]
    simp only [lePart]
    rw [h3]
    have h4 : D (o + j) * 2 ^ (8 * j) ≤ 255 * 2 ^ (8 * j) := Nat.mul_le_mul_right _ (by omega)
    generalize D (o + j) * 2 ^ (8 * j) = y at *
    generalize 2 ^ (8 * j) = z at *
    omega
theorem le4_lt (D : Nat → Nat) (hD : ∀ j, D j < 256) (o : Nat) : le4 D o < 4294967296 := lePart_lt D hD o 4
theorem le_step (D : Nat → Nat) (hD : ∀ j, D j < 256) (o j : Nat) (hj : j < 4) : bits .or .i64 (lePart D o j : Nat) ((D (o + j) * 2 ^ (8 * j) : Nat) : Int) = ((lePart D o (j + 1) : Nat) : Int) := by
  have h1 := lePart_lt D hD o j
  have h2 := lePart_lt D hD o (j + 1)
  have h3 : 2 ^ (8 * j) ≤ 2 ^ 24 := Nat.pow_le_pow_right (by omega) (by omega)
  have h4 : 2 ^ (8 * (j + 1)) ≤ 2 ^ 32 := Nat.pow_le_pow_right (by omega) (by omega)
  rw [i64_or_nat _ _ (by omega) (by simp only [lePart] at h2; omega), or_add _ _ _ h1]
  rfl
/-- What ref r's block holds at j: of a ref that leads to no block in use 0. -/
def ptr (u : Nat → Bool) (D : Nat → Nat) (r j : Nat) : Nat := if r ≠ 0 ∧ u (r - 1) = true then le4 D ((r - 1) * 64 + 4 * j) else 0
theorem ptr_lt (u : Nat → Bool) (D : Nat → Nat) (hD : ∀ j, D j < 256) (r j : Nat) : ptr u D r j < 4294967296 := by
  unfold ptr; split
  · exact le4_lt D hD _
  · omega
def refV (r : Nat) : Value := .int .i64 (r : Int)
def refsV (q : Nat → Nat) : Array Value := ((List.range 16).map fun j => refV (q j)).toArray
def zeroP : Array Value := Array.replicate 16 (.int .i64 0)
theorem sizeP : zeroP.size = 16 := rfl
theorem refsV_zero : refsV (fun _ => 0) = zeroP := rfl
theorem zvP (w : World) : (zeroValue 134).run Tryd.prog w = .ok (.agg zeroP) w := by kernel_rfl
theorem undP : Tryd.prog.underlying 134 = some (.array 16 87) := by kernel_rfl
theorem infP : (Tryd.prog.info? 134).map (·.size) = some zeroP.size := by kernel_rfl

theorem block_any (r : Nat) (w : World) (hr : r < 4294967297) : Calls Tryd.prog 62 #[.int .i64 r] w fun e w' => e = .returned (.int .i64 ((r : Int) - 1)) ∧ w' = w := by
  go_enter Tryd.func62, Tryd.ntmps62
  go_wp2
  go_ret
  exact ⟨by simp, rfl⟩
end Go.Proofs.YtgplmgliockbcaaDoor
