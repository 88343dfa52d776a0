/- Single bits; kindByte, bitAt, specialAt, special of the program. No condition. -/
import Derived.Test.YtmminmdmhefefaaPm1
import Derived.Laws.RangeString
namespace Go.Proofs.Ytmminmdmhefefaa
open Go.RowKit
namespace Pm
theorem and_nat (m : Int) (c : Nat) (hc : c < 65536) : bits .and .i64 m (c : Int) = (((m % 65536).toNat &&& c : Nat) : Int) := by
  have e : (B m &&& B (c : Int)).toNat = (m % 65536).toNat &&& c := by
    rw [BitVec.toNat_and, toNat_B, toNat_B, show ((c : Int) % 18446744073709551616).toNat = c by omega]
    conv => lhs; rw [show c = 65535 &&& c by rw [nat_mask16', Nat.mod_eq_of_lt hc], ← Nat.and_assoc, nat_mask16]
    congr 1
    omega
  have hlt : (m % 65536).toNat &&& c < 2 ^ 16 := Nat.and_lt_two_pow _ (by omega)
  rw [and_eq, toInt_small _ (by rw [e]; omega), e]
/-- The bit of weight q. -/
def tb (m q : Int) : Bool := m / q % 2 == 1
theorem and_bit_nat (m : Int) (k : Nat) (hk : 2 ^ k < 65536) : bits .and .i64 m ((2 ^ k : Nat) : Int) = (((m % 65536).toNat / 2 ^ k % 2 * 2 ^ k : Nat) : Int) := by
  rw [and_nat m _ hk, nat_bit]
theorem and_bit (m q : Int) (hq : q ∈ ([1, 2, 4, 8, 16, 32, 64, 128, 256, 512, 1024, 2048] : List Int)) : bits .and .i64 m q = if tb m q then q else 0 := by
  simp only [List.mem_cons, List.not_mem_nil, or_false] at hq
  unfold tb
  rcases hq with rfl | rfl | rfl | rfl | rfl | rfl | rfl | rfl | rfl | rfl | rfl | rfl
  · have h := and_bit_nat m 0 (by decide); simp only [Nat.reducePow, beq_iff_eq] at h ⊢; rw [show (1:Int) = ((1:Nat):Int) from rfl, h]; split <;> omega
  · have h := and_bit_nat m 1 (by decide); simp only [Nat.reducePow, beq_iff_eq] at h ⊢; rw [show (2:Int) = ((2:Nat):Int) from rfl, h]; split <;> omega
  · have h := and_bit_nat m 2 (by decide); simp only [Nat.reducePow, beq_iff_eq] at h ⊢; rw [show (4:Int) = ((4:Nat):Int) from rfl, h]; split <;> omega
  · have h := and_bit_nat m 3 (by decide); simp only [Nat.reducePow, beq_iff_eq] at h ⊢; rw [show (8:Int) = ((8:Nat):Int) from rfl, h]; split <;> omega
  · have h := and_bit_nat m 4 (by decide); simp only [Nat.reducePow, beq_iff_eq] at h ⊢; rw [show (16:Int) = ((16:Nat):Int) from rfl, h]; split <;> omega
  · have h := and_bit_nat m 5 (by decide); simp only [Nat.reducePow, beq_iff_eq] at h ⊢; rw [show (32:Int) = ((32:Nat):Int) from rfl, h]; split <;> omega
  · have h := and_bit_nat m 6 (by decide); simp only [Nat.reducePow, beq_iff_eq] at h ⊢; rw [show (64:Int) = ((64:Nat):Int) from rfl, h]; split <;> omega
  · have h := and_bit_nat m 7 (by decide); simp only [Nat.reducePow, beq_iff_eq] at h ⊢; rw [show (128:Int) = ((128:Nat):Int) from rfl, h]; split <;> omega
  · have h := and_bit_nat m 8 (by decide); simp only [Nat.reducePow, beq_iff_eq] at h ⊢; rw [show (256:Int) = ((256:Nat):Int) from rfl, h]; split <;> omega
  · have h := and_bit_nat m 9 (by decide); simp only [Nat.reducePow, beq_iff_eq] at h ⊢; rw [show (512:Int) = ((512:Nat):Int) from rfl, h]; split <;> omega
  · have h := and_bit_nat m 10 (by decide); simp only [Nat.reducePow, beq_iff_eq] at h ⊢; rw [show (1024:Int) = ((1024:Nat):Int) from rfl, h]; split <;> omega
  · have h := and_bit_nat m 11 (by decide); simp only [Nat.reducePow, beq_iff_eq] at h ⊢; rw [show (2048:Int) = ((2048:Nat):Int) from rfl, h]; split <;> omega
theorem ne_bit (m q : Int) (hq : q ∈ ([1, 2, 4, 8, 16, 32, 64, 128, 256, 512, 1024, 2048] : List Int)) : (bits .and .i64 m q != 0) = tb m q := by
  rw [and_bit m q hq]
  simp only [List.mem_cons, List.not_mem_nil, or_false] at hq
  cases tb m q
  · rfl
  · rw [if_pos rfl, bne_iff_ne]; omega
def kindB (m : Int) : Int :=
  if bits .and .i64 m 61440 == 16384 then 100 else if bits .and .i64 m 61440 == 40960 then 108 else if bits .and .i64 m 61440 == 4096 then 112
  else if bits .and .i64 m 61440 == 32768 then 45 else 63
def spc (c b : Int) : Int := if b = 120 then c else c - 32
end Pm
theorem ret_int {k : IntKind} {a b : Int} (h : a = b) : Ending.returned (.int k a) = .returned (.int k b) := by rw [h]
set_option maxRecDepth 100000 in
set_option maxHeartbeats 1000000 in
theorem pKind (m : Int) (w : World) : Calls Try.prog 25 #[.int .i64 m] w fun e w' => e = .returned (.int .u8 (Pm.kindB m)) ∧ w' = w := by
  cases h1 : (bits .and .i64 m 61440 == 16384)
  · cases h2 : (bits .and .i64 m 61440 == 40960)
    · cases h3 : (bits .and .i64 m 61440 == 4096)
      · cases h4 : (bits .and .i64 m 61440 == 32768)
        · have HE : Hid (Pm.kindB m = 63) := by show _ = _; simp only [Pm.kindB, h1, h2, h3, h4]; rfl
          go_enter Try.func25, Try.ntmps25
          go_wp2
          go_ret
          exact ⟨ret_int HE.out.symm, rfl⟩
        · have HE : Hid (Pm.kindB m = 45) := by show _ = _; simp only [Pm.kindB, h1, h2, h3, h4]; rfl
          go_enter Try.func25, Try.ntmps25
          go_wp2
          go_ret
          exact ⟨ret_int HE.out.symm, rfl⟩
      · have HE : Hid (Pm.kindB m = 112) := by show _ = _; simp only [Pm.kindB, h1, h2, h3]; rfl
        go_enter Try.func25, Try.ntmps25
        go_wp2
        go_ret
        exact ⟨ret_int HE.out.symm, rfl⟩
    · have HE : Hid (Pm.kindB m = 108) := by show _ = _; simp only [Pm.kindB, h1, h2]; rfl
      go_enter Try.func25, Try.ntmps25
      go_wp2
      go_ret
      exact ⟨ret_int HE.out.symm, rfl⟩
  · have HE : Hid (Pm.kindB m = 100) := by show _ = _; simp only [Pm.kindB, h1]; rfl
    go_enter Try.func25, Try.ntmps25
    go_wp2
    go_ret
    exact ⟨ret_int HE.out.symm, rfl⟩
set_option maxRecDepth 100000 in
set_option maxHeartbeats 1000000 in
theorem pBitAt (i : Nat) (h1 : 1 ≤ i) (h9 : i ≤ 9) (w : World) : Calls Try.prog 26 #[.int .i64 i] w fun e w' => e = .returned (.int .i64 ((2 ^ (9 - i) : Nat) : Int)) ∧ w' = w := by
  obtain rfl | rfl | rfl | rfl | rfl | rfl | rfl | rfl | rfl : i = 1 ∨ i = 2 ∨ i = 3 ∨ i = 4 ∨ i = 5 ∨ i = 6 ∨ i = 7 ∨ i = 8 ∨ i = 9 := by omega
  all_goals
    go_enter Try.func26, Try.ntmps26
    go_wp2
    go_ret
    exact ⟨ret_int (by decide), rfl⟩
set_option maxRecDepth 100000 in
set_option maxHeartbeats 1000000 in
theorem pSpecialAt (i : Nat) (h1 : 1 ≤ i) (h9 : i ≤ 9) (w : World) : Calls Try.prog 27 #[.int .i64 i] w fun e w' => e = .returned (.int .i64 ((2 ^ (12 - i / 3) : Nat) : Int)) ∧ w' = w := by
  obtain rfl | rfl | rfl | rfl | rfl | rfl | rfl | rfl | rfl : i = 1 ∨ i = 2 ∨ i = 3 ∨ i = 4 ∨ i = 5 ∨ i = 6 ∨ i = 7 ∨ i = 8 ∨ i = 9 := by omega
  all_goals
    go_enter Try.func27, Try.ntmps27
    go_wp2
    go_ret
    exact ⟨ret_int (by decide), rfl⟩
set_option maxRecDepth 100000 in
set_option maxHeartbeats 1000000 in
theorem pSpecial (c b : Int) (hc : 97 ≤ c) (h2 : c < 123) (w : World) : Calls Try.prog 28 #[.int .u8 c, .int .u8 b] w fun e w' => e = .returned (.int .u8 (Pm.spc c b)) ∧ w' = w := by
  by_cases h : b = 120
  · have h' : (b == 120) = true := by simpa using h
    have HE : Hid (Pm.spc c b = c) := if_pos h
    clear h
    go_enter Try.func28, Try.ntmps28
    go_wp2
    go_ret
    exact ⟨ret_int HE.out.symm, rfl⟩
  · have h' : (b == 120) = false := by simpa using h
    have HE : Hid (Pm.spc c b = c - 32) := if_neg h
    clear h
    go_enter Try.func28, Try.ntmps28
    go_wp2
    go_ret
    exact ⟨ret_int (by rw [HE.out]; omega), rfl⟩
end Go.Proofs.Ytmminmdmhefefaa
