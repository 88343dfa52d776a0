/- Several texts of this claim, one behind the other, in their order. -/
import Derived.Test.YtgplmgliockbcaaDoorProg
import Derived.Test.YtgplmgliockbcaaDoorBits
import Derived.Laws.Bits128
import Derived.WalkKit
import Derived.WalkSpells
import Derived.WalkLawsBesides
import Derived.Handy
import Derived.Deep.QuietTactic
import Derived.BigQuiet
/- The walks of the store's calls that only read: made, place, Is, fit, Left, Total, lowestFree, and the library's two counts of bits. Conditions: the store's cells are as said; the library's table is as its initialiser lays it. -/
namespace Go.Proofs.YtgplmgliockbcaaDoor
open Go.RowKit

/-- Is block i in use, by the words of the bitmap? -/
def used (W : Nat → Nat) (i : Nat) : Bool := (W (i / 64)).testBit (i % 64)
/-- The library's table, where it lies. -/
def TabIs (w : World) : Prop := ∀ j, j < 64 → w.cell? ⟨0, j, none⟩ = some (.int .u8 (Lib.deBruijn64tab.getD j 0 : Nat))

set_option maxHeartbeats 400000 in
theorem place_any (i : Nat) (w : World) (h1 : i < 4096) : Calls Tryd.prog 70 #[.int .i64 i] w fun e w' => e = .returned (.tuple #[.int .i64 ((i / 64 : Nat) : Int), .int .u64 ((2 ^ (i % 64) : Nat) : Int)]) ∧ ∃ n, w' = w.drewN n := by
  have hs := Bt.shl_one i
  have HS : Hid (IntKind.u64.wrap (2 ^ (i % 64)) = ((2 ^ (i % 64) : Nat) : Int)) := hs
  clear hs
  go_enter Tryd.func70, Tryd.ntmps70
  go_wp2
  go_quiet (fail)
  go_wp2
  rw [HS.out]
  go_ret2
  exact ⟨by simp, _, rfl⟩
set_option maxHeartbeats 400000 in
theorem ones_any (x : Nat) (w : World) (h1 : x < 18446744073709551616) : Calls Tryd.prog 67 #[.int .u64 x] w fun e w' => e = .returned (.int .i64 (Bt.cnt x.testBit 64 : Nat)) ∧ w' = w := by
  have H1 := Bt.st1 x h1
  have H2 := Bt.st2 (Bt.S1 8 x) (Bt.S1_le x)
  have H3 := Bt.st3 (Bt.S2 8 (Bt.S1 8 x)) (Bt.S2_le _)
  obtain ⟨hv, H4⟩ := Bt.ones_nat x h1
  have h4 := H4 _ rfl
  generalize Bt.S3 8 (Bt.S2 8 (Bt.S1 8 x)) = v at *
  have h5 : Hid ((v + v / 256 + (v + v / 256) / 65536 + (v + v / 256 + (v + v / 256) / 65536) / 4294967296) % 128 = Bt.cnt x.testBit 64) := h4
  clear h4 H4
  go_enter Tryd.func67, Tryd.ntmps67
  go_wp2
  go_ret
  refine ⟨?_, rfl⟩
  rw [i64_and127, ← h5.out]
  congr 2
set_option maxHeartbeats 400000 in
theorem tz_core (x k idx : Nat) (w : World) (hx0 : ((x : Int) == 0) = false)
    (key : IntKind.u64.wrap (bits .and .u64 (x : Int) (IntKind.u64.wrap (-(x : Int))) * 285870213051353865) / 288230376151711744 = (idx : Int))
    (hi : idx < 64) (hk : k < 64) (hcell : w.cell? ⟨0, idx, none⟩ = some (.int .u8 k)) :
    Calls Tryd.prog 80 #[.int .u64 x] w fun e w' => e = .returned (.int .i64 k) ∧ w' = w := by
  go_enter Tryd.func80, Tryd.ntmps80
  go_wp2_with (simp only [key])
  go_ret
  exact ⟨by simp, rfl⟩
theorem tz_any (x : Nat) (w : World) (hx : x < 18446744073709551616) (hx0 : x ≠ 0) (hT : TabIs w) :
    Calls Tryd.prog 80 #[.int .u64 x] w fun e w' => e = .returned (.int .i64 (Lib.ctz 64 x : Nat)) ∧ w' = w := by
  obtain ⟨hlow, hk⟩ := Lib.lowest_bit 64 x hx0 hx
  obtain ⟨hi, htab⟩ := Lib.deBruijn64_at _ hk
  have hcell := hT _ hi
  rw [htab] at hcell
  exact tz_core x _ _ w (by simp; omega) (Bt.tz_key x _ hx hx0 hlow) hi hk hcell
set_option maxHeartbeats 400000 in
theorem made_nil (w : World) : Calls Tryd.prog 57 #[.pointer none] w fun e w' => e = .returned (.bool false) ∧ w' = w := by
  go_enter Tryd.func57, Tryd.ntmps57
  go_wp2
  go_ret
  exact ⟨rfl, rfl⟩
set_option maxHeartbeats 400000 in
theorem made_no (b : Nat) (x : Option Addr) (c : Nat) (w : World) (h : w.cell? ⟨b, 64, none⟩ = some (.slice x 0 c)) : Calls Tryd.prog 57 #[.pointer (some ⟨b, 0, none⟩)] w fun e w' => e = .returned (.bool false) ∧ w' = w := by
  go_enter Tryd.func57, Tryd.ntmps57
  go_wp2
  go_ret
  exact ⟨by simp, rfl⟩
set_option maxHeartbeats 400000 in
theorem made_yes (b : Nat) (x : Option Addr) (n c : Nat) (w : World) (h : w.cell? ⟨b, 64, none⟩ = some (.slice x n c)) (hn : 0 < n) : Calls Tryd.prog 57 #[.pointer (some ⟨b, 0, none⟩)] w fun e w' => e = .returned (.bool true) ∧ w' = w := by
  go_enter Tryd.func57, Tryd.ntmps57
  go_wp2
  go_ret
  exact ⟨by simp, rfl⟩
set_option maxHeartbeats 400000 in
theorem total_yes (b : Nat) (x : Option Addr) (n c : Nat) (w : World) (h : w.cell? ⟨b, 64, none⟩ = some (.slice x n c)) (hn : 0 < n) : Calls Tryd.prog 47 #[.pointer (some ⟨b, 0, none⟩)] w fun e w' => e = .returned (.int .i64 n) ∧ w' = w := by
  go_enter Tryd.func47, Tryd.ntmps47
  go_wp2_with (go_at_call 57; refine (made_yes b x n c _ h hn).mono ?_; rintro e w' ⟨rfl, rfl⟩)
  go_ret
  exact ⟨rfl, rfl⟩
set_option maxHeartbeats 400000 in
theorem is_out (b n c : Nat) (x : Option Addr) (i : Int) (w : World) (h : w.cell? ⟨b, 64, none⟩ = some (.slice x n c)) (hn : 0 < n) (hi : i < 0 ∨ n ≤ i) : Calls Tryd.prog 58 #[.pointer (some ⟨b, 0, none⟩), .int .i64 i] w fun e w' => e = .returned (.bool false) ∧ w' = w := by
  rcases hi with hi | hi
  · go_enter Tryd.func58, Tryd.ntmps58
    go_wp2_with (go_at_call 57; refine (made_yes b x n c _ h hn).mono ?_; rintro e w' ⟨rfl, rfl⟩)
    go_ret
    exact ⟨rfl, rfl⟩
  · have hi' : ¬ i < 0 := by omega
    go_enter Tryd.func58, Tryd.ntmps58
    go_wp2_with (go_at_call 57; refine (made_yes b x n c _ h hn).mono ?_; rintro e w' ⟨rfl, rfl⟩)
    go_ret
    exact ⟨rfl, rfl⟩
set_option maxHeartbeats 400000 in
theorem is_in (b n c : Nat) (x : Option Addr) (i : Nat) (W : Nat → Nat) (w : World) (h : w.cell? ⟨b, 64, none⟩ = some (.slice x n c)) (hn : i < n) (hn2 : n ≤ 4096)
    (hw : w.cell? ⟨b, i / 64, none⟩ = some (.int .u64 (W (i / 64) : Nat))) (hl : W (i / 64) < 18446744073709551616) : Calls Tryd.prog 58 #[.pointer (some ⟨b, 0, none⟩), .int .i64 i] w fun e w' => e = .returned (.bool (used W i)) ∧ ∃ m, w' = w.drewN m := by
  have hi' : ¬ (i : Int) < 0 := by omega
  have h64 : i / 64 < 64 := by omega
  go_enter Tryd.func58, Tryd.ntmps58
  go_wp2_with (first | (go_at_call 57; refine (made_yes b x n c _ h (by omega)).mono ?_; rintro e w' ⟨rfl, rfl⟩) | (go_at_call 70; refine (place_any i _ (by omega)).mono ?_; rintro e w' ⟨rfl, m, rfl⟩))
  go_ret
  refine ⟨?_, _, rfl⟩
  rw [Bt.and_bit _ _ hl (by omega)]; rfl
set_option maxHeartbeats 400000 in
theorem fit_nil (i : Int) (w : World) : Calls Tryd.prog 72 #[.pointer none, .int .i64 i] w fun e w' => e = .returned (.int .i64 14) ∧ w' = w := by
  go_enter Tryd.func72, Tryd.ntmps72
  go_wp2_with (go_at_call 57; refine (made_nil _).mono ?_; rintro e w' ⟨rfl, rfl⟩)
  go_ret
  exact ⟨rfl, rfl⟩
set_option maxHeartbeats 400000 in
theorem fit_no (b : Nat) (x : Option Addr) (c : Nat) (i : Int) (w : World) (h : w.cell? ⟨b, 64, none⟩ = some (.slice x 0 c)) : Calls Tryd.prog 72 #[.pointer (some ⟨b, 0, none⟩), .int .i64 i] w fun e w' => e = .returned (.int .i64 14) ∧ w' = w := by
  go_enter Tryd.func72, Tryd.ntmps72
  go_wp2_with (go_at_call 57; refine (made_no b x c _ h).mono ?_; rintro e w' ⟨rfl, rfl⟩)
  go_ret
  exact ⟨rfl, rfl⟩
set_option maxHeartbeats 400000 in
theorem fit_out (b n c : Nat) (x : Option Addr) (i : Int) (w : World) (h : w.cell? ⟨b, 64, none⟩ = some (.slice x n c)) (hn : 0 < n) (hi : i < 0 ∨ n ≤ i) : Calls Tryd.prog 72 #[.pointer (some ⟨b, 0, none⟩), .int .i64 i] w fun e w' => e = .returned (.int .i64 22) ∧ w' = w := by
  have H : Hid (i < 0 ∨ n ≤ i) := hi
  clear hi
  go_enter Tryd.func72, Tryd.ntmps72
  go_wp2_with (first | (go_at_call 57; refine (made_yes b x n c _ h hn).mono ?_; rintro e w' ⟨rfl, rfl⟩) | (go_at_call 58; refine (is_out b n c x i _ h hn H.out).mono ?_; rintro e w' ⟨rfl, rfl⟩))
  go_ret
  exact ⟨rfl, rfl⟩
set_option maxHeartbeats 400000 in
theorem fit_free (b n c : Nat) (x : Option Addr) (i : Nat) (W : Nat → Nat) (w : World) (h : w.cell? ⟨b, 64, none⟩ = some (.slice x n c)) (hn : i < n) (hn2 : n ≤ 4096)
    (hw : w.cell? ⟨b, i / 64, none⟩ = some (.int .u64 (W (i / 64) : Nat))) (hl : W (i / 64) < 18446744073709551616) (hu : used W i = false) : Calls Tryd.prog 72 #[.pointer (some ⟨b, 0, none⟩), .int .i64 i] w fun e w' => e = .returned (.int .i64 22) ∧ ∃ m, w' = w.drewN m := by
  go_enter Tryd.func72, Tryd.ntmps72
  go_wp2_with (first | (go_at_call 57; refine (made_yes b x n c _ h (by omega)).mono ?_; rintro e w' ⟨rfl, rfl⟩) | (go_at_call 58; refine (is_in b n c x i W _ h hn hn2 hw hl).mono ?_; rintro e w' ⟨rfl, m, rfl⟩))
  go_ret
  exact ⟨rfl, _, rfl⟩
set_option maxHeartbeats 400000 in
theorem fit_used (b n c : Nat) (x : Option Addr) (i : Nat) (W : Nat → Nat) (w : World) (h : w.cell? ⟨b, 64, none⟩ = some (.slice x n c)) (hn : i < n) (hn2 : n ≤ 4096)
    (hw : w.cell? ⟨b, i / 64, none⟩ = some (.int .u64 (W (i / 64) : Nat))) (hl : W (i / 64) < 18446744073709551616) (hu : used W i = true) : Calls Tryd.prog 72 #[.pointer (some ⟨b, 0, none⟩), .int .i64 i] w fun e w' => e = .returned (.int .i64 0) ∧ ∃ m, w' = w.drewN m := by
  go_enter Tryd.func72, Tryd.ntmps72
  go_wp2_with (first | (go_at_call 57; refine (made_yes b x n c _ h (by omega)).mono ?_; rintro e w' ⟨rfl, rfl⟩) | (go_at_call 58; refine (is_in b n c x i W _ h hn hn2 hw hl).mono ?_; rintro e w' ⟨rfl, m, rfl⟩))
  go_ret
  exact ⟨rfl, _, rfl⟩
end Go.Proofs.YtgplmgliockbcaaDoor
/- The walks of lowestFree and Left. Conditions: the store's cells are as said; the library's table is as its initialiser lays it. -/
namespace Go.Proofs.YtgplmgliockbcaaDoor
open Go.RowKit
def flipW (x : Nat) : Nat := 18446744073709551615 - x
theorem flipW_eq (x : Nat) (hx : x < 18446744073709551616) : bits .xor .u64 (if IntKind.u64.signed = true then -1 else IntKind.u64.max) (x : Int) = (flipW x : Int) := by
  rw [show (if IntKind.u64.signed = true then -1 else IntKind.u64.max) = 18446744073709551615 by decide]; exact Bt.flip_word x hx
theorem flipW_lt (x : Nat) : flipW x < 18446744073709551616 := by unfold flipW; omega
theorem flipW_test (x j : Nat) (hx : x < 18446744073709551616) (hj : j < 64) : (flipW x).testBit j = !x.testBit j := Bt.flip_test x j hx hj
theorem used_mul (W : Nat → Nat) (k j : Nat) (hj : j < 64) : used W (64 * k + j) = (W k).testBit j := by
  unfold used; rw [show (64 * k + j) / 64 = k by omega, show (64 * k + j) % 64 = j by omega]
set_option maxHeartbeats 800000 in
theorem low_any (b : Nat) (W : Nat → Nat) (w : World) (hw : ∀ k, k < 64 → w.cell? ⟨b, k, none⟩ = some (.int .u64 (W k : Nat))) (hl : ∀ k, W k < 18446744073709551616) (hT : TabIs w) :
    Calls Tryd.prog 78 #[.pointer (some ⟨b, 0, none⟩)] w fun e w' => ∃ i0 : Nat, e = .returned (.int .i64 i0) ∧ w' = w ∧ i0 ≤ 4096 ∧ (∀ j, j < i0 → used W j = true) ∧ (i0 < 4096 → used W i0 = false) := by
  have HT : Hid (TabIs w) := hT
  have HW : Hid (∀ k, k < 64 → w.cell? ⟨b, k, none⟩ = some (.int .u64 (W k : Nat))) := hw
  clear hT hw
  go_enter Tryd.func78, Tryd.ntmps78
  go_wp2
  go_loop [5] (fun i => ∃ k : Nat, k ≤ 64 ∧ i = .int .i64 k ∧ Hid (∀ j, j < 64 * k → used W j = true)) (fun i => 64 - (intOf i).toNat)
  case atStart => exact ⟨0, by omega, rfl, fun j hj => by omega⟩
  case round =>
    obtain ⟨k, hk, rfl, hall⟩ := hrel
    by_cases hlt : k < 64
    · have hc := HW.out k hlt
      have hx := flipW_eq (W k) (hl k)
      by_cases hz : flipW (W k) = 0
      · have hz' : ((flipW (W k) : Int) != 0) = false := by rw [hz]; rfl
        have HZ : Hid (flipW (W k) = 0) := hz
        clear hz
        go_wp2
        go_round
        case rel =>
          refine ⟨k + 1, by omega, by go_num, fun j hj => ?_⟩
          by_cases hj' : j < 64 * k
          · exact hall.out j hj'
          · rw [show j = 64 * k + (j - 64 * k) by omega, used_mul W k _ (by omega)]
            have := flipW_test (W k) (j - 64 * k) (hl k) (by omega)
            rw [HZ.out] at this
            simpa using this.symm
        case measure => simp [intOf]; omega
      · have hz' : ((flipW (W k) : Int) != 0) = true := by simp; exact hz
        have HZ : Hid (¬ flipW (W k) = 0) := hz
        clear hz
        obtain ⟨c1, c2, c3⟩ := Bt.ctz_spec (flipW (W k)) HZ.out (flipW_lt _)
        have C2 : Hid ((flipW (W k)).testBit (Lib.ctz 64 (flipW (W k))) = true) := c2
        have C3 : Hid (∀ j, j < Lib.ctz 64 (flipW (W k)) → (flipW (W k)).testBit j = false) := c3
        clear c2 c3
        go_wp2_with (go_at_call 80; refine (tz_any (flipW (W k)) _ (flipW_lt _) HZ.out HT.out).mono ?_; rintro e w' ⟨rfl, rfl⟩)
        go_ret
        refine ⟨64 * k + Lib.ctz 64 (flipW (W k)), ?_, rfl, by omega, fun j hj => ?_, fun _ => ?_⟩
        · go_num
        · by_cases hj' : j < 64 * k
          · exact hall.out j hj'
          · rw [show j = 64 * k + (j - 64 * k) by omega, used_mul W k _ (by omega)]
            have := flipW_test (W k) (j - 64 * k) (hl k) (by omega)
            rw [C3.out _ (by omega)] at this
            simpa using this.symm
        · rw [used_mul W k _ c1]
          have := flipW_test (W k) _ (hl k) c1
          rw [C2.out] at this
          simpa using this.symm
    · go_wp2
      go_ret
      refine ⟨4096, rfl, rfl, by omega, fun j hj => hall.out j (by omega), fun h => by omega⟩
theorem low_at (b i0 : Nat) (W : Nat → Nat) (w : World) (hw : ∀ k, k < 64 → w.cell? ⟨b, k, none⟩ = some (.int .u64 (W k : Nat))) (hl : ∀ k, W k < 18446744073709551616) (hT : TabIs w)
    (h1 : i0 < 4096) (h2 : used W i0 = false) (h3 : ∀ j, j < i0 → used W j = true) :
    Calls Tryd.prog 78 #[.pointer (some ⟨b, 0, none⟩)] w fun e w' => e = .returned (.int .i64 i0) ∧ w' = w :=
  (low_any b W w hw hl hT).mono fun e w' ⟨i, he, hw', _, h5, h6⟩ => by
    have : i = i0 := by
      by_cases ha : i < i0
      · have := h3 i ha; rw [h6 (by omega)] at this; cases this
      · by_cases hb : i0 < i
        · have := h5 i0 hb; rw [h2] at this; cases this
        · omega
    subst this; exact ⟨he, hw'⟩
theorem used_cnt (W : Nat → Nat) (k : Nat) : Bt.cnt (used W) (64 * k + 64) = Bt.cnt (used W) (64 * k) + Bt.cnt (W k).testBit 64 := by
  rw [Bt.cnt_add]
  congr 1
  exact Bt.cnt_congr _ fun j hj => by
    unfold used; rw [show (64 * k + j) / 64 = k by omega, show (64 * k + j) % 64 = j by omega]
set_option maxHeartbeats 800000 in
theorem left_any (b : Nat) (x : Option Addr) (n c : Nat) (W : Nat → Nat) (w : World) (h : w.cell? ⟨b, 64, none⟩ = some (.slice x n c)) (hn : 0 < n) (hn2 : n ≤ 4096)
    (hw : ∀ k, k < 64 → w.cell? ⟨b, k, none⟩ = some (.int .u64 (W k : Nat))) (hl : ∀ k, W k < 18446744073709551616) :
    Calls Tryd.prog 48 #[.pointer (some ⟨b, 0, none⟩)] w fun e w' => e = .returned (.int .i64 ((n : Int) - (Bt.cnt (used W) 4096 : Nat))) ∧ w' = w := by
  have HW : Hid (∀ k, k < 64 → w.cell? ⟨b, k, none⟩ = some (.int .u64 (W k : Nat))) := hw
  clear hw
  go_enter Tryd.func48, Tryd.ntmps48
  go_wp2_with (go_at_call 57; refine (made_yes b x n c _ h hn).mono ?_; rintro e w' ⟨rfl, rfl⟩)
  go_loop [3, 13] (fun l i => ∃ k : Nat, k ≤ 64 ∧ i = .int .i64 k ∧ l = .int .i64 ((n : Int) - (Bt.cnt (used W) (64 * k) : Nat))) (fun _ i => 64 - (intOf i).toNat)
  case atStart => exact ⟨0, by omega, rfl, by simp [Bt.cnt]⟩
  case round =>
    obtain ⟨k, hk, rfl, rfl⟩ := hrel
    by_cases hlt : k < 64
    · have hc := HW.out k hlt
      have hb := Bt.cnt_le (used W) (64 * k)
      have hb2 := Bt.cnt_le (W k).testBit 64
      have hs := used_cnt W k
      have HS : Hid (Bt.cnt (used W) (64 * k + 64) = Bt.cnt (used W) (64 * k) + Bt.cnt (W k).testBit 64) := hs
      clear hs
      go_wp2_with (go_at_call 67; refine (ones_any (W k) _ (hl k)).mono ?_; rintro e w' ⟨rfl, rfl⟩)
      go_round
      case rel => exact ⟨k + 1, by omega, by go_num, by rw [show 64 * (k + 1) = 64 * k + 64 by omega, HS.out]; congr 1; omega⟩
      case measure => simp [intOf]; omega
    · obtain rfl : k = 64 := by omega
      go_wp2
      go_ret
      exact ⟨rfl, rfl⟩
end Go.Proofs.YtgplmgliockbcaaDoor
