/- Several texts of this claim, one behind the other, in their order. -/
import Derived.Lib.TrailingZeros
import Derived.Laws.Bits64b
import Derived.Laws.BitsAllLaws
import Derived.Test.YtpcbpikhiooafaaGreatDoorProg
import Derived.Laws.Bits128
import Derived.WalkKit
import Derived.WalkSpells
import Derived.WalkLawsBesides
import Derived.Handy
import Derived.Deep.QuietTactic
import Derived.BigQuiet
/- Plain facts on numbers: how many bits of a word are set, by the steps that the library's count takes; the lowest bit that is not set. No condition but that words are below 2^64. -/
namespace Go.Proofs.YtpcbpikhiooafaaGreatDoor
namespace Bt

def cnt (p : Nat → Bool) : Nat → Nat
  | 0 => 0
  | n + 1 => cnt p n + (if p n then 1 else 0)
theorem cnt_add (p : Nat → Bool) (a : Nat) : ∀ b, cnt p (a + b) = cnt p a + cnt (fun j => p (a + j)) b
  | 0 => rfl
  | b + 1 => by
    rw [← Nat.add_assoc]
    simp only [cnt]
    rw [cnt_add p a b]; omega
theorem cnt_congr {p q : Nat → Bool} : ∀ n, (∀ j, j < n → p j = q j) → cnt p n = cnt q n
  | 0, _ => rfl
  | n + 1, h => by
    simp only [cnt]
    rw [cnt_congr n (fun j hj => h j (by omega)), h n (by omega)]
theorem cnt_le (p : Nat → Bool) : ∀ n, cnt p n ≤ n
  | 0 => Nat.le_refl _
  | n + 1 => by have := cnt_le p n; simp only [cnt]; split <;> omega

def rep (c : Nat) : Nat → Nat
  | 0 => 0
  | k + 1 => c + 256 * rep c k
def val : List Nat → Nat
  | [] => 0
  | y :: ys => y + 256 * val ys
def bytes : Nat → Nat → List Nat
  | 0, _ => []
  | k + 1, x => (x % 256) :: bytes k (x / 256)
theorem len_bytes : ∀ k x, (bytes k x).length = k
  | 0, _ => rfl
  | k + 1, x => by simp [bytes, len_bytes k]
theorem lt_bytes : ∀ k x y, y ∈ bytes k x → y < 256
  | 0, _, _, h => by simp [bytes] at h
  | k + 1, x, y, h => by
    simp only [bytes, List.mem_cons] at h
    rcases h with rfl | h
    · omega
    · exact lt_bytes k _ y h
theorem val_bytes : ∀ k x, x < 256 ^ k → val (bytes k x) = x
  | 0, x, h => by simp at h; simp [bytes, val, h]
  | k + 1, x, h => by
    rw [Nat.pow_succ] at h
    simp only [bytes, val]
    rw [val_bytes k (x / 256) (by omega)]
    omega
theorem and_cat (a b c d : Nat) (ha : a < 256) (hc : c < 256) : (a + 256 * b) &&& (c + 256 * d) = (a &&& c) + 256 * (b &&& d) := by
  have hac : a &&& c < 2 ^ 8 := Nat.and_lt_two_pow _ (by omega)
  apply Nat.eq_of_testBit_eq
  intro i
  rw [Nat.testBit_and, Nat.add_comm a, Nat.add_comm c, Nat.add_comm (a &&& c)]
  rw [show (256 : Nat) = 2 ^ 8 from rfl]
  rw [Nat.testBit_two_pow_mul_add _ (by omega), Nat.testBit_two_pow_mul_add _ (by omega), Nat.testBit_two_pow_mul_add _ hac]
  split <;> simp [Nat.testBit_and]

def f1 (b : Nat) : Nat := (b / 2 &&& 85) + (b &&& 85)
def f2 (b : Nat) : Nat := (b / 4 &&& 51) + (b &&& 51)
def f3 (b : Nat) : Nat := (b / 16 + b) &&& 15
theorem low1 : ∀ b, b < 256 → ∀ c, c < 2 → ((b / 2 + 128 * c) &&& 85) = (b / 2 &&& 85) := by decide +kernel
theorem low2 : ∀ b, b < 256 → ∀ c, c < 4 → ((b / 4 + 64 * c) &&& 51) = (b / 4 &&& 51) := by decide +kernel
theorem low3 : ∀ b, b < 69 → ∀ c, c < 8 → ((b / 16 + b + 16 * c) &&& 15) = f3 b := by decide +kernel
theorem f1_lt : ∀ b, b < 256 → f1 b < 256 := by decide +kernel
theorem f2_lt : ∀ b, b < 256 → f2 (f1 b) < 69 ∧ f2 (f1 b) % 16 < 8 := by decide +kernel
theorem f3_is : ∀ b, b < 256 → f3 (f2 (f1 b)) = cnt b.testBit 8 := by decide +kernel

def S1 (k x : Nat) : Nat := (x / 2 &&& rep 85 k) + (x &&& rep 85 k)
def S2 (k x : Nat) : Nat := (x / 4 &&& rep 51 k) + (x &&& rep 51 k)
def S3 (k x : Nat) : Nat := (x / 16 + x) &&& rep 15 k
theorem S1_val : ∀ ys : List Nat, (∀ y ∈ ys, y < 256) → S1 ys.length (val ys) = val (ys.map f1)
  | [], _ => by simp [S1, val, rep]
  | y :: ys, h => by
    have hy := h y (by simp)
    have ih := S1_val ys (fun z hz => h z (by simp [hz]))
    generalize hv : val ys = v at ih
    have e1 : (y + 256 * v) / 2 = (y / 2 + 128 * (v % 2)) + 256 * (v / 2) := by omega
    simp only [S1, val, List.length_cons, rep, List.map_cons, hv]
    rw [e1, and_cat _ _ _ _ (by omega) (by omega), and_cat _ _ _ _ (by omega) (by omega), low1 y hy _ (by omega), ← ih]
    simp only [S1, f1]; omega
theorem S2_val : ∀ ys : List Nat, (∀ y ∈ ys, y < 256) → S2 ys.length (val ys) = val (ys.map f2)
  | [], _ => by simp [S2, val, rep]
  | y :: ys, h => by
    have hy := h y (by simp)
    have ih := S2_val ys (fun z hz => h z (by simp [hz]))
    generalize hv : val ys = v at ih
    have e1 : (y + 256 * v) / 4 = (y / 4 + 64 * (v % 4)) + 256 * (v / 4) := by omega
    simp only [S2, val, List.length_cons, rep, List.map_cons, hv]
    rw [e1, and_cat _ _ _ _ (by omega) (by omega), and_cat _ _ _ _ (by omega) (by omega), low2 y hy _ (by omega), ← ih]
    simp only [S2, f2]; omega
theorem S3_val : ∀ ys : List Nat, (∀ y ∈ ys, y < 69 ∧ y % 16 < 8) → S3 ys.length (val ys) = val (ys.map f3)
  | [], _ => by simp [S3, val, rep]
  | y :: ys, h => by
    have hy := h y (by simp)
    have ih := S3_val ys (fun z hz => h z (by simp [hz]))
    have hlow : val ys % 16 < 8 := by
      cases ys with
      | nil => simp [val]
      | cons z zs => have := h z (by simp); simp only [val]; omega
    generalize hv : val ys = v at ih hlow
    have e1 : (y + 256 * v) / 16 + (y + 256 * v) = (y / 16 + y + 16 * (v % 16)) + 256 * (v / 16 + v) := by omega
    simp only [S3, val, List.length_cons, rep, List.map_cons, hv]
    rw [e1, and_cat _ _ _ _ (by omega) (by omega), low3 y hy.1 _ hlow, ← ih]
    simp only [S3]
theorem cnt_bytes : ∀ k x, ((bytes k x).map fun y => cnt y.testBit 8).sum = cnt x.testBit (8 * k)
  | 0, _ => rfl
  | k + 1, x => by
    rw [show 8 * (k + 1) = 8 + 8 * k by omega, cnt_add]
    simp only [bytes, List.map_cons, List.sum_cons]
    rw [cnt_bytes k (x / 256)]
    congr 1
    · exact cnt_congr 8 fun j hj => by rw [show (256 : Nat) = 2 ^ 8 from rfl, Nat.testBit_mod_two_pow]; simp [hj]
    · exact cnt_congr _ fun j _ => by rw [show (256 : Nat) = 2 ^ 8 from rfl, Nat.testBit_div_two_pow, Nat.add_comm]

theorem sum8core (a b c d e f g i V Q R U : Nat) (h1 : a ≤ 8) (h2 : b ≤ 8) (h3 : c ≤ 8) (h4 : d ≤ 8) (h5 : e ≤ 8) (h6 : f ≤ 8) (h7 : g ≤ 8) (h8 : i ≤ 8)
    (hV : V = a + 256 * b + 65536 * c + 16777216 * d + 4294967296 * e + 1099511627776 * f + 281474976710656 * g + 72057594037927936 * i)
    (hQ : Q = V / 256) (hR : R = (V + Q) / 65536) (hU : U = (V + Q + R) / 4294967296) : V < 648518346341351425 ∧ (V + Q + R + U) % 128 = a + b + c + d + e + f + g + i := by
  have q1 : Q = b + 256 * c + 65536 * d + 16777216 * e + 4294967296 * f + 1099511627776 * g + 281474976710656 * i := by omega
  clear hQ
  have q2 : R = (c + d) + 256 * (d + e) + 65536 * (e + f) + 16777216 * (f + g) + 4294967296 * (g + i) + 1099511627776 * i := by omega
  clear hR
  have q3 : U = (e + f + g + i) + 256 * (f + g + i) + 65536 * (g + i) + 16777216 * i := by omega
  clear hU
  exact ⟨by omega, by omega⟩
theorem sum8 (l : List Nat) (h : l.length = 8) (hb : ∀ y ∈ l, y ≤ 8) (V : Nat) (hV : V = val l) : V < 648518346341351425 ∧ (V + V / 256 + (V + V / 256) / 65536 + (V + V / 256 + (V + V / 256) / 65536) / 4294967296) % 128 = l.sum := by
  match l, h, hb with
  | [a, b, c, d, e, f, g, i], _, hb =>
    have h1 := hb a (by simp); have h2 := hb b (by simp); have h3 := hb c (by simp); have h4 := hb d (by simp)
    have h5 := hb e (by simp); have h6 := hb f (by simp); have h7 := hb g (by simp); have h8 := hb i (by simp)
    have := sum8core a b c d e f g i V _ _ _ h1 h2 h3 h4 h5 h6 h7 h8 (by simp only [val] at hV; omega) rfl rfl rfl
    refine ⟨this.1, this.2.trans ?_⟩
    simp only [List.sum_cons, List.sum_nil]; omega

/-- All the steps, one behind the other. -/
theorem ones_nat (x : Nat) (h : x < 18446744073709551616) : S3 8 (S2 8 (S1 8 x)) < 648518346341351425 ∧ ∀ v, v = S3 8 (S2 8 (S1 8 x)) →
    (v + v / 256 + (v + v / 256) / 65536 + (v + v / 256 + (v + v / 256) / 65536) / 4294967296) % 128 = cnt x.testBit 64 := by
  have hx := val_bytes 8 x (by simpa using h)
  have hl := lt_bytes 8 x
  have e1 := S1_val (bytes 8 x) hl
  rw [hx, len_bytes] at e1
  have e2 := S2_val ((bytes 8 x).map f1) (fun y hy => by obtain ⟨z, hz, rfl⟩ := List.mem_map.1 hy; exact f1_lt z (hl z hz))
  rw [← e1, List.length_map, len_bytes] at e2
  have e3 := S3_val (((bytes 8 x).map f1).map f2) (fun y hy => by
    obtain ⟨z, hz, rfl⟩ := List.mem_map.1 hy; obtain ⟨u, hu, rfl⟩ := List.mem_map.1 hz; exact f2_lt u (hl u hu))
  rw [← e2, List.length_map, List.length_map, len_bytes] at e3
  have e4 : (((bytes 8 x).map f1).map f2).map f3 = (bytes 8 x).map fun y => cnt y.testBit 8 := by
    simp only [List.map_map]
    exact List.map_congr_left fun y hy => f3_is y (hl y hy)
  rw [e4] at e3
  have h8 := sum8 ((bytes 8 x).map fun y => cnt y.testBit 8) (by simp [len_bytes]) (fun y hy => by obtain ⟨z, _, rfl⟩ := List.mem_map.1 hy; exact cnt_le _ _) _ rfl
  rw [← e3, cnt_bytes 8 x] at h8
  exact ⟨h8.1, fun v hv => by rw [hv]; exact h8.2⟩

theorem S1_le (x : Nat) : S1 8 x < 18446744073709551616 := by
  have h1 : x / 2 &&& rep 85 8 ≤ rep 85 8 := Nat.and_le_right
  have h2 : x &&& rep 85 8 ≤ rep 85 8 := Nat.and_le_right
  have e : rep 85 8 = 6148914691236517205 := rfl
  simp only [S1]; omega
theorem S2_le (x : Nat) : S2 8 x < 7378697629483820647 := by
  have h1 : x / 4 &&& rep 51 8 ≤ rep 51 8 := Nat.and_le_right
  have h2 : x &&& rep 51 8 ≤ rep 51 8 := Nat.and_le_right
  have e : rep 51 8 = 3689348814741910323 := rfl
  simp only [S2]; omega

theorem st1 (x : Nat) (h : x < 18446744073709551616) : IntKind.u64.wrap (bits .and .u64 ((x : Int) / 2) 6148914691236517205 + bits .and .u64 (x : Int) 6148914691236517205) = ((S1 8 x : Nat) : Int) := by
  have a1 := u64_and_nat (x / 2) 6148914691236517205 (by omega) (by omega)
  have a2 := u64_and_nat x 6148914691236517205 h (by omega)
  have hl := S1_le x
  have e : rep 85 8 = 6148914691236517205 := rfl
  simp only [S1, e] at hl ⊢
  rw [show ((x : Int) / 2) = ((x / 2 : Nat) : Int) by omega]
  erw [a1, a2, IntKind.wrap_u64]
  omega
theorem st2 (x : Nat) (h : x < 18446744073709551616) : IntKind.u64.wrap (bits .and .u64 ((x : Int) / 4) 3689348814741910323 + bits .and .u64 (x : Int) 3689348814741910323) = ((S2 8 x : Nat) : Int) := by
  have a1 := u64_and_nat (x / 4) 3689348814741910323 (by omega) (by omega)
  have a2 := u64_and_nat x 3689348814741910323 h (by omega)
  have hl := S2_le x
  have e : rep 51 8 = 3689348814741910323 := rfl
  simp only [S2, e] at hl ⊢
  rw [show ((x : Int) / 4) = ((x / 4 : Nat) : Int) by omega]
  erw [a1, a2, IntKind.wrap_u64]
  omega
theorem st3 (x : Nat) (h : x < 7378697629483820647) : bits .and .u64 (IntKind.u64.wrap ((x : Int) / 16 + (x : Int))) 1085102592571150095 = ((S3 8 x : Nat) : Int) := by
  have a1 := u64_and_nat (x / 16 + x) 1085102592571150095 (by omega) (by omega)
  have e : rep 15 8 = 1085102592571150095 := rfl
  simp only [S3, e]
  rw [IntKind.wrap_u64, show ((x : Int) / 16 + (x : Int)) % 18446744073709551616 = ((x / 16 + x : Nat) : Int) by omega]
  exact a1
theorem st4 (x d : Nat) (_hd : 1 < d) (h : x < 1297036692682702850) : IntKind.u64.wrap ((x : Int) + (x : Int) / (d : Int)) = ((x + x / d : Nat) : Int) := by
  rw [IntKind.wrap_u64, ← Int.natCast_ediv]
  have : x / d ≤ x := Nat.div_le_self _ _
  generalize x / d = y at *
  omega

/-- The bit below which all are set. -/
theorem ctz_spec (x : Nat) (h0 : x ≠ 0) (h : x < 2 ^ 64) : Lib.ctz 64 x < 64 ∧ x.testBit (Lib.ctz 64 x) = true ∧ ∀ j, j < Lib.ctz 64 x → x.testBit j = false := by
  obtain ⟨m, hm, hk⟩ := Lib.ctzFrom_spec 64 x (by omega) h
  have e : Lib.ctz 64 x = Lib.ctzFrom 64 x := by simp [Lib.ctz, h0]
  rw [e]
  refine ⟨hk, ?_, fun j hj => ?_⟩
  · generalize Lib.ctzFrom 64 x = k at *
    rw [hm, Nat.mul_comm, Nat.testBit_mul_two_pow]
    simp
  · generalize Lib.ctzFrom 64 x = k at *
    rw [hm, Nat.mul_comm, Nat.testBit_mul_two_pow]
    simp; omega

theorem two_pow_lt (k : Nat) (hk : k < 64) : 2 ^ k < 18446744073709551616 := by
  have : (2 : Nat) ^ k < 2 ^ 64 := Nat.pow_lt_pow_right (by omega) (by omega)
  simpa using this
theorem and_bit (x k : Nat) (hx : x < 18446744073709551616) (hk : k < 64) : (bits .and .u64 (x : Int) (2 ^ k) != 0) = x.testBit k := by
  have e : ((2 : Int) ^ k) = ((2 ^ k : Nat) : Int) := by simp
  rw [e, u64_and_nat x _ hx (two_pow_lt k hk), nat_bit, Nat.testBit_eq_decide_div_mod_eq]
  have hp : ((2 : Int) ^ k) ≠ 0 := by rw [e]; have := Nat.two_pow_pos k; omega
  have h2 : x / 2 ^ k % 2 = 0 ∨ x / 2 ^ k % 2 = 1 := by omega
  rcases h2 with h | h
  · rw [h]; simp
  · rw [h]; simpa using hp
theorem or_bit (x k : Nat) (hx : x < 18446744073709551616) (hk : k < 64) : bits .or .u64 (x : Int) (2 ^ k) = ((x ||| 2 ^ k : Nat) : Int) := by
  have e : ((2 : Int) ^ k) = ((2 ^ k : Nat) : Int) := by simp
  rw [e, u64_or_nat x _ hx (two_pow_lt k hk)]
theorem or_lt (x k : Nat) (hx : x < 18446744073709551616) (hk : k < 64) : x ||| 2 ^ k < 18446744073709551616 :=
  Nat.or_lt_two_pow (n := 64) (by simpa using hx) (by simpa using two_pow_lt k hk)
theorem or_test (x k j : Nat) : (x ||| 2 ^ k).testBit j = (x.testBit j || decide (k = j)) := by
  rw [Nat.testBit_or, Nat.testBit_two_pow]
theorem not_bit (x k : Nat) (hx : x < 18446744073709551616) (hk : k < 64) : bits .andNot .u64 (x : Int) (2 ^ k) = ((x &&& (18446744073709551615 - 2 ^ k) : Nat) : Int) := by
  have e : ((2 : Int) ^ k) = ((2 ^ k : Nat) : Int) := by simp
  rw [e, u64_andNot_nat x _ hx (two_pow_lt k hk)]
theorem not_lt (x k : Nat) (hx : x < 18446744073709551616) : x &&& (18446744073709551615 - 2 ^ k) < 18446744073709551616 :=
  Nat.lt_of_le_of_lt Nat.and_le_left hx
theorem not_test (x k j : Nat) (hj : j < 64) (hk : k < 64) : (x &&& (18446744073709551615 - 2 ^ k)).testBit j = (x.testBit j && !decide (k = j)) := by
  have h := two_pow_lt k hk
  rw [Nat.testBit_and, show 18446744073709551615 - 2 ^ k = 2 ^ 64 - (2 ^ k + 1) by omega, Nat.testBit_two_pow_sub_succ (by simpa using h), Nat.testBit_two_pow]
  simp [hj]
theorem flip_word (x : Nat) (hx : x < 18446744073709551616) : bits .xor .u64 18446744073709551615 (x : Int) = ((18446744073709551615 - x : Nat) : Int) := by
  have h := u64_xor_nat 18446744073709551615 x (by omega) hx
  rw [show (18446744073709551615 : Int) = ((18446744073709551615 : Nat) : Int) from rfl, h]
  congr 1
  apply Nat.eq_of_testBit_eq
  intro i
  rw [Nat.testBit_xor, show 18446744073709551615 - x = 2 ^ 64 - (x + 1) by omega, Nat.testBit_two_pow_sub_succ (by simpa using hx), show 18446744073709551615 = 2 ^ 64 - 1 from rfl, Nat.testBit_two_pow_sub_one]
  by_cases hi : i < 64
  · simp [hi]
  · have : x.testBit i = false := Nat.testBit_lt_two_pow (Nat.lt_of_lt_of_le hx (by
      have := Nat.pow_le_pow_right (n := 2) (by omega) (show 64 ≤ i by omega)
      simpa using this))
    simp [hi, this]
theorem flip_test (x j : Nat) (hx : x < 18446744073709551616) (hj : j < 64) : (18446744073709551615 - x).testBit j = !x.testBit j := by
  rw [show 18446744073709551615 - x = 2 ^ 64 - (x + 1) by omega, Nat.testBit_two_pow_sub_succ (by simpa using hx)]
  simp [hj]
theorem full_test (x j : Nat) (hx : 18446744073709551615 - x = 0) (hj : j < 64) (hl : x < 18446744073709551616) : x.testBit j = true := by
  have := flip_test x j hl hj
  rw [hx] at this
  simpa using this.symm
theorem shl_one (i : Nat) : IntKind.u64.wrap (2 ^ (i % 64)) = ((2 ^ (i % 64) : Nat) : Int) := by
  have h : (2 : Nat) ^ (i % 64) < 2 ^ 64 := Nat.pow_lt_pow_right (by omega) (by omega)
  have e : ((2 : Int) ^ (i % 64)) = ((2 ^ (i % 64) : Nat) : Int) := by simp
  rw [e, IntKind.wrap_u64]
  generalize 2 ^ (i % 64) = p at *
  omega
theorem tz_key (x k : Nat) (hx : x < 18446744073709551616) (hx0 : x ≠ 0) (hlow : x &&& (2 ^ 64 - x) = 2 ^ k) :
    IntKind.u64.wrap (bits .and .u64 (x : Int) (IntKind.u64.wrap (-(x : Int))) * 285870213051353865) / 288230376151711744 = ((2 ^ k * 285870213051353865 % 18446744073709551616 / 288230376151711744 : Nat) : Int) := by
  have e1 : IntKind.u64.wrap (-(x : Int)) = ((2 ^ 64 - x : Nat) : Int) := by rw [IntKind.wrap_u64]; omega
  rw [e1, bits_and_u64_nat x _ hx (by omega), hlow, IntKind.wrap_u64]
  generalize 2 ^ k = p
  omega
end Bt
end Go.Proofs.YtpcbpikhiooafaaGreatDoor
/- The walks of the store's calls that only read: made, place, Is, fit, Left, Total, lowestFree, and the library's two counts of bits. Conditions: the store's cells are as said; the library's table is as its initialiser lays it. -/
namespace Go.Proofs.YtpcbpikhiooafaaGreatDoor
open Go.RowKit

/-- Is block i in use, by the words of the bitmap? -/
def used (W : Nat → Nat) (i : Nat) : Bool := (W (i / 64)).testBit (i % 64)
/-- The library's table, where it lies. -/
def TabIs (w : World) : Prop := ∀ j, j < 64 → w.cell? ⟨1, j, none⟩ = some (.int .u8 (Lib.deBruijn64tab.getD j 0 : Nat))

set_option maxHeartbeats 400000 in
theorem place_any (i : Nat) (w : World) (h1 : i < 4096) : Calls Tryz.prog 143 #[.int .i64 i] w fun e w' => e = .returned (.tuple #[.int .i64 ((i / 64 : Nat) : Int), .int .u64 ((2 ^ (i % 64) : Nat) : Int)]) ∧ ∃ n, w' = w.drewN n := by
  have hs := Bt.shl_one i
  have HS : Hid (IntKind.u64.wrap (2 ^ (i % 64)) = ((2 ^ (i % 64) : Nat) : Int)) := hs
  clear hs
  go_enter Tryz.func143, Tryz.ntmps143
  go_wp2
  go_quiet (fail)
  go_wp2
  rw [HS.out]
  go_ret2
  exact ⟨by simp, _, rfl⟩
set_option maxHeartbeats 400000 in
theorem tz_core (x k idx : Nat) (w : World) (hx0 : ((x : Int) == 0) = false)
    (key : IntKind.u64.wrap (bits .and .u64 (x : Int) (IntKind.u64.wrap (-(x : Int))) * 285870213051353865) / 288230376151711744 = (idx : Int))
    (hi : idx < 64) (hk : k < 64) (hcell : w.cell? ⟨1, idx, none⟩ = some (.int .u8 k)) :
    Calls Tryz.prog 149 #[.int .u64 x] w fun e w' => e = .returned (.int .i64 k) ∧ w' = w := by
  go_enter Tryz.func149, Tryz.ntmps149
  go_wp2_with (simp only [key])
  go_ret
  exact ⟨by simp, rfl⟩
theorem tz_any (x : Nat) (w : World) (hx : x < 18446744073709551616) (hx0 : x ≠ 0) (hT : TabIs w) :
    Calls Tryz.prog 149 #[.int .u64 x] w fun e w' => e = .returned (.int .i64 (Lib.ctz 64 x : Nat)) ∧ w' = w := by
  obtain ⟨hlow, hk⟩ := Lib.lowest_bit 64 x hx0 hx
  obtain ⟨hi, htab⟩ := Lib.deBruijn64_at _ hk
  have hcell := hT _ hi
  rw [htab] at hcell
  exact tz_core x _ _ w (by simp; omega) (Bt.tz_key x _ hx hx0 hlow) hi hk hcell
set_option maxHeartbeats 400000 in
theorem made_nil (w : World) : Calls Tryz.prog 140 #[.pointer none] w fun e w' => e = .returned (.bool false) ∧ w' = w := by
  go_enter Tryz.func140, Tryz.ntmps140
  go_wp2
  go_ret
  exact ⟨rfl, rfl⟩
set_option maxHeartbeats 400000 in
theorem made_no (b : Nat) (x : Option Addr) (c : Nat) (w : World) (h : w.cell? ⟨b, 64, none⟩ = some (.slice x 0 c)) : Calls Tryz.prog 140 #[.pointer (some ⟨b, 0, none⟩)] w fun e w' => e = .returned (.bool false) ∧ w' = w := by
  go_enter Tryz.func140, Tryz.ntmps140
  go_wp2
  go_ret
  exact ⟨by simp, rfl⟩
set_option maxHeartbeats 400000 in
theorem made_yes (b : Nat) (x : Option Addr) (n c : Nat) (w : World) (h : w.cell? ⟨b, 64, none⟩ = some (.slice x n c)) (hn : 0 < n) : Calls Tryz.prog 140 #[.pointer (some ⟨b, 0, none⟩)] w fun e w' => e = .returned (.bool true) ∧ w' = w := by
  go_enter Tryz.func140, Tryz.ntmps140
  go_wp2
  go_ret
  exact ⟨by simp, rfl⟩
set_option maxHeartbeats 400000 in
theorem is_out (b n c : Nat) (x : Option Addr) (i : Int) (w : World) (h : w.cell? ⟨b, 64, none⟩ = some (.slice x n c)) (hn : 0 < n) (hi : i < 0 ∨ n ≤ i) : Calls Tryz.prog 141 #[.pointer (some ⟨b, 0, none⟩), .int .i64 i] w fun e w' => e = .returned (.bool false) ∧ w' = w := by
  rcases hi with hi | hi
  · go_enter Tryz.func141, Tryz.ntmps141
    go_wp2_with (go_at_call 140; refine (made_yes b x n c _ h hn).mono ?_; rintro e w' ⟨rfl, rfl⟩)
    go_ret
    exact ⟨rfl, rfl⟩
  · have hi' : ¬ i < 0 := by omega
    go_enter Tryz.func141, Tryz.ntmps141
    go_wp2_with (go_at_call 140; refine (made_yes b x n c _ h hn).mono ?_; rintro e w' ⟨rfl, rfl⟩)
    go_ret
    exact ⟨rfl, rfl⟩
set_option maxHeartbeats 400000 in
theorem is_in (b n c : Nat) (x : Option Addr) (i : Nat) (W : Nat → Nat) (w : World) (h : w.cell? ⟨b, 64, none⟩ = some (.slice x n c)) (hn : i < n) (hn2 : n ≤ 4096)
    (hw : w.cell? ⟨b, i / 64, none⟩ = some (.int .u64 (W (i / 64) : Nat))) (hl : W (i / 64) < 18446744073709551616) : Calls Tryz.prog 141 #[.pointer (some ⟨b, 0, none⟩), .int .i64 i] w fun e w' => e = .returned (.bool (used W i)) ∧ ∃ m, w' = w.drewN m := by
  have hi' : ¬ (i : Int) < 0 := by omega
  have h64 : i / 64 < 64 := by omega
  go_enter Tryz.func141, Tryz.ntmps141
  go_wp2_with (first | (go_at_call 140; refine (made_yes b x n c _ h (by omega)).mono ?_; rintro e w' ⟨rfl, rfl⟩) | (go_at_call 143; refine (place_any i _ (by omega)).mono ?_; rintro e w' ⟨rfl, m, rfl⟩))
  go_ret
  refine ⟨?_, _, rfl⟩
  rw [Bt.and_bit _ _ hl (by omega)]; rfl
set_option maxHeartbeats 400000 in
theorem fit_nil (i : Int) (w : World) : Calls Tryz.prog 124 #[.pointer none, .int .i64 i] w fun e w' => e = .returned (.int .i64 14) ∧ w' = w := by
  go_enter Tryz.func124, Tryz.ntmps124
  go_wp2_with (go_at_call 140; refine (made_nil _).mono ?_; rintro e w' ⟨rfl, rfl⟩)
  go_ret
  exact ⟨rfl, rfl⟩
set_option maxHeartbeats 400000 in
theorem fit_no (b : Nat) (x : Option Addr) (c : Nat) (i : Int) (w : World) (h : w.cell? ⟨b, 64, none⟩ = some (.slice x 0 c)) : Calls Tryz.prog 124 #[.pointer (some ⟨b, 0, none⟩), .int .i64 i] w fun e w' => e = .returned (.int .i64 14) ∧ w' = w := by
  go_enter Tryz.func124, Tryz.ntmps124
  go_wp2_with (go_at_call 140; refine (made_no b x c _ h).mono ?_; rintro e w' ⟨rfl, rfl⟩)
  go_ret
  exact ⟨rfl, rfl⟩
set_option maxHeartbeats 400000 in
theorem fit_out (b n c : Nat) (x : Option Addr) (i : Int) (w : World) (h : w.cell? ⟨b, 64, none⟩ = some (.slice x n c)) (hn : 0 < n) (hi : i < 0 ∨ n ≤ i) : Calls Tryz.prog 124 #[.pointer (some ⟨b, 0, none⟩), .int .i64 i] w fun e w' => e = .returned (.int .i64 22) ∧ w' = w := by
  have H : Hid (i < 0 ∨ n ≤ i) := hi
  clear hi
  go_enter Tryz.func124, Tryz.ntmps124
  go_wp2_with (first | (go_at_call 140; refine (made_yes b x n c _ h hn).mono ?_; rintro e w' ⟨rfl, rfl⟩) | (go_at_call 141; refine (is_out b n c x i _ h hn H.out).mono ?_; rintro e w' ⟨rfl, rfl⟩))
  go_ret
  exact ⟨rfl, rfl⟩
set_option maxHeartbeats 400000 in
theorem fit_free (b n c : Nat) (x : Option Addr) (i : Nat) (W : Nat → Nat) (w : World) (h : w.cell? ⟨b, 64, none⟩ = some (.slice x n c)) (hn : i < n) (hn2 : n ≤ 4096)
    (hw : w.cell? ⟨b, i / 64, none⟩ = some (.int .u64 (W (i / 64) : Nat))) (hl : W (i / 64) < 18446744073709551616) (hu : used W i = false) : Calls Tryz.prog 124 #[.pointer (some ⟨b, 0, none⟩), .int .i64 i] w fun e w' => e = .returned (.int .i64 22) ∧ ∃ m, w' = w.drewN m := by
  go_enter Tryz.func124, Tryz.ntmps124
  go_wp2_with (first | (go_at_call 140; refine (made_yes b x n c _ h (by omega)).mono ?_; rintro e w' ⟨rfl, rfl⟩) | (go_at_call 141; refine (is_in b n c x i W _ h hn hn2 hw hl).mono ?_; rintro e w' ⟨rfl, m, rfl⟩))
  go_ret
  exact ⟨rfl, _, rfl⟩
set_option maxHeartbeats 400000 in
theorem fit_used (b n c : Nat) (x : Option Addr) (i : Nat) (W : Nat → Nat) (w : World) (h : w.cell? ⟨b, 64, none⟩ = some (.slice x n c)) (hn : i < n) (hn2 : n ≤ 4096)
    (hw : w.cell? ⟨b, i / 64, none⟩ = some (.int .u64 (W (i / 64) : Nat))) (hl : W (i / 64) < 18446744073709551616) (hu : used W i = true) : Calls Tryz.prog 124 #[.pointer (some ⟨b, 0, none⟩), .int .i64 i] w fun e w' => e = .returned (.int .i64 0) ∧ ∃ m, w' = w.drewN m := by
  go_enter Tryz.func124, Tryz.ntmps124
  go_wp2_with (first | (go_at_call 140; refine (made_yes b x n c _ h (by omega)).mono ?_; rintro e w' ⟨rfl, rfl⟩) | (go_at_call 141; refine (is_in b n c x i W _ h hn hn2 hw hl).mono ?_; rintro e w' ⟨rfl, m, rfl⟩))
  go_ret
  exact ⟨rfl, _, rfl⟩
end Go.Proofs.YtpcbpikhiooafaaGreatDoor
/- The walks of lowestFree and Left. Conditions: the store's cells are as said; the library's table is as its initialiser lays it. -/
namespace Go.Proofs.YtpcbpikhiooafaaGreatDoor
open Go.RowKit
def flipW (x : Nat) : Nat := 18446744073709551615 - x
theorem flipW_eq (x : Nat) (hx : x < 18446744073709551616) : bits .xor .u64 (if IntKind.u64.signed = true then -1 else IntKind.u64.max) (x : Int) = (flipW x : Int) := by
  rw [show (if IntKind.u64.signed = true then -1 else IntKind.u64.max) = 18446744073709551615 by decide]; exact Bt.flip_word x hx
theorem flipW_lt (x : Nat) : flipW x < 18446744073709551616 := by unfold flipW; omega
theorem flipW_test (x j : Nat) (hx : x < 18446744073709551616) (hj : j < 64) : (flipW x).testBit j = !x.testBit j := Bt.flip_test x j hx hj
theorem used_mul (W : Nat → Nat) (k j : Nat) (hj : j < 64) : used W (64 * k + j) = (W k).testBit j := by
  unfold used; rw [show (64 * k + j) / 64 = k by omega, show (64 * k + j) % 64 = j by omega]
set_option maxHeartbeats 800000 in
theorem low_any (b : Nat) (W : Nat → Nat) (w : World) (hw : ∀ k, k < 64 → w.cell? ⟨b, k, none⟩ = some (.int .u64 (W k : Nat))) (hl : ∀ k, W k < 18446744073709551616) (hT : TabIs w) :
    Calls Tryz.prog 142 #[.pointer (some ⟨b, 0, none⟩)] w fun e w' => ∃ i0 : Nat, e = .returned (.int .i64 i0) ∧ w' = w ∧ i0 ≤ 4096 ∧ (∀ j, j < i0 → used W j = true) ∧ (i0 < 4096 → used W i0 = false) := by
  have HT : Hid (TabIs w) := hT
  have HW : Hid (∀ k, k < 64 → w.cell? ⟨b, k, none⟩ = some (.int .u64 (W k : Nat))) := hw
  clear hT hw
  go_enter Tryz.func142, Tryz.ntmps142
  go_wp2
  go_loop [5] (fun i => ∃ k : Nat, k ≤ 64 ∧ i = .int .i64 k ∧ Hid (∀ j, j < 64 * k → used W j = true)) (fun i => 64 - (intOf i).toNat)
  case atStart => exact ⟨0, by omega, rfl, fun j hj => by omega⟩
  case round =>
    obtain ⟨k, hk, rfl, hall⟩ := hrel
    by_cases hlt : k < 64
    · have hc := HW.out k hlt
      have hx := flipW_eq (W k) (hl k)
      by_cases hz : flipW (W k) = 0
      · have hz' : ((flipW (W k) : Int) != 0) = false := by rw [hz]; rfl
        have HZ : Hid (flipW (W k) = 0) := hz
        clear hz
        go_wp2
        go_round
        case rel =>
          refine ⟨k + 1, by omega, by go_num, fun j hj => ?_⟩
          by_cases hj' : j < 64 * k
          · exact hall.out j hj'
          · rw [show j = 64 * k + (j - 64 * k) by omega, used_mul W k _ (by omega)]
            have := flipW_test (W k) (j - 64 * k) (hl k) (by omega)
            rw [HZ.out] at this
            simpa using this.symm
        case measure => simp [intOf]; omega
      · have hz' : ((flipW (W k) : Int) != 0) = true := by simp; exact hz
        have HZ : Hid (¬ flipW (W k) = 0) := hz
        clear hz
        obtain ⟨c1, c2, c3⟩ := Bt.ctz_spec (flipW (W k)) HZ.out (flipW_lt _)
        have C2 : Hid ((flipW (W k)).testBit (Lib.ctz 64 (flipW (W k))) = true) := c2
        have C3 : Hid (∀ j, j < Lib.ctz 64 (flipW (W k)) → (flipW (W k)).testBit j = false) := c3
        clear c2 c3
        go_wp2_with (go_at_call 149; refine (tz_any (flipW (W k)) _ (flipW_lt _) HZ.out HT.out).mono ?_; rintro e w' ⟨rfl, rfl⟩)
        go_ret
        refine ⟨64 * k + Lib.ctz 64 (flipW (W k)), ?_, rfl, by omega, fun j hj => ?_, fun _ => ?_⟩
        · go_num
        · by_cases hj' : j < 64 * k
          · exact hall.out j hj'
          · rw [show j = 64 * k + (j - 64 * k) by omega, used_mul W k _ (by omega)]
            have := flipW_test (W k) (j - 64 * k) (hl k) (by omega)
            rw [C3.out _ (by omega)] at this
            simpa using this.symm
        · rw [used_mul W k _ c1]
          have := flipW_test (W k) _ (hl k) c1
          rw [C2.out] at this
          simpa using this.symm
    · go_wp2
      go_ret
      refine ⟨4096, rfl, rfl, by omega, fun j hj => hall.out j (by omega), fun h => by omega⟩
theorem low_at (b i0 : Nat) (W : Nat → Nat) (w : World) (hw : ∀ k, k < 64 → w.cell? ⟨b, k, none⟩ = some (.int .u64 (W k : Nat))) (hl : ∀ k, W k < 18446744073709551616) (hT : TabIs w)
    (h1 : i0 < 4096) (h2 : used W i0 = false) (h3 : ∀ j, j < i0 → used W j = true) :
    Calls Tryz.prog 142 #[.pointer (some ⟨b, 0, none⟩)] w fun e w' => e = .returned (.int .i64 i0) ∧ w' = w :=
  (low_any b W w hw hl hT).mono fun e w' ⟨i, he, hw', _, h5, h6⟩ => by
    have : i = i0 := by
      by_cases ha : i < i0
      · have := h3 i ha; rw [h6 (by omega)] at this; cases this
      · by_cases hb : i0 < i
        · have := h5 i0 hb; rw [h2] at this; cases this
        · omega
    subst this; exact ⟨he, hw'⟩
theorem used_cnt (W : Nat → Nat) (k : Nat) : Bt.cnt (used W) (64 * k + 64) = Bt.cnt (used W) (64 * k) + Bt.cnt (W k).testBit 64 := by
  rw [Bt.cnt_add]
  congr 1
  exact Bt.cnt_congr _ fun j hj => by
    unfold used; rw [show (64 * k + j) / 64 = k by omega, show (64 * k + j) % 64 = j by omega]
end Go.Proofs.YtpcbpikhiooafaaGreatDoor
