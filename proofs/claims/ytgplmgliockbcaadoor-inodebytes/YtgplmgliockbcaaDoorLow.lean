/- The walks of lowestFree and Left. Conditions: the store's cells are as said; the library's table is as its initialiser lays it. -/
import Derived.Test.YtgplmgliockbcaaDoorReads
namespace Go.Proofs.YtgplmgliockbcaaDoor
open Go.RowKit
def flipW (x : Nat) : Nat := 18446744073709551615 - x
theorem flipW_eq (x : Nat) (hx : x < 18446744073709551616) : bits .xor .u64 (if IntKind.u64.signed = true then -1 else IntKind.u64.max) (x : Int) = (flipW x : Int) := by
  rw [show (if IntKind.u64.signed = true then -1 else IntKind.u64.max) = 18446744073709551615 by decide]; exact Bt.flip_word x hx
theorem flipW_lt (x : Nat) : flipW x < 18446744073709551616 := by unfold flipW; omega
theorem flipW_test (x j : Nat) (hx : x < 18446744073709551616) (hj : j < 64) : (flipW x).testBit j = !x.testBit j := Bt.flip_test x j hx hj
theorem used_mul (W : Nat → Nat) (k j : Nat) (hj : j < 64) : used W (64 * k + j) = (W k).testBit j := by
  unfold used; rw [show (64 * k + j) / 64 = k by omega, show (64 * k + j) % 64 = j by omega]
set_option maxHeartbeats 800000 in
theorem low_any (b : Nat) (W : Nat → Nat) (w : World) (hw : ∀ k, k < 64 → w.cell? ⟨b, k, none⟩ = some (.int .u64 (W k : Nat))) (hl : ∀ k, W k < 18446744073709551616) (hT : TabIs w) :
    Calls Tryd.prog 78 #[.pointer (some ⟨b, 0, none⟩)] w fun e w' => ∃ i0 : Nat, e = .returned (.int .i64 i0) ∧ w' = w ∧ i0 ≤ 4096 ∧ (∀ j, j < i0 → used W j = true) ∧ (i0 < 4096 → used W i0 = false) := by
  have HT : Hid (TabIs w) := hT
  have HW : Hid (∀ k, k < 64 → w.cell? ⟨b, k, none⟩ = some (.int .u64 (W k : Nat))) := hw
  clear hT hw
  go_enter Tryd.func78, Tryd.ntmps78
  go_wp2
  go_loop [5] (fun i => ∃ k : Nat, k ≤ 64 ∧ i = .int .i64 k ∧ Hid (∀ j, j < 64 * k → used W j = true)) (fun i => 64 - (intOf i).toNat)
  case atStart => exact ⟨0, by omega, rfl, fun j hj => by omega⟩
  case round =>
    obtain ⟨k, hk, rfl, hall⟩ := hrel
    by_cases hlt : k < 64
    · have hc := HW.out k hlt
      have hx := flipW_eq (W k) (hl k)
      by_cases hz : flipW (W k) = 0
      · have hz' : ((flipW (W k) : Int) != 0) = false := by rw [hz]; rfl
        have HZ : Hid (flipW (W k) = 0) := hz
        clear hz
        go_wp2
        go_round
        case rel =>
          refine ⟨k + 1, by omega, by go_num, fun j hj => ?_⟩
          by_cases hj' : j < 64 * k
          · exact hall.out j hj'
          · rw [show j = 64 * k + (j - 64 * k) by omega, used_mul W k _ (by omega)]
            have := flipW_test (W k) (j - 64 * k) (hl k) (by omega)
            rw [HZ.out] at this
            simpa using this.symm
        case measure => simp [intOf]; omega
      · have hz' : ((flipW (W k) : Int) != 0) = true := by simp; exact hz
        have HZ : Hid (¬ flipW (W k) = 0) := hz
        clear hz
        obtain ⟨c1, c2, c3⟩ := Bt.ctz_spec (flipW (W k)) HZ.out (flipW_lt _)
        have C2 : Hid ((flipW (W k)).testBit (Lib.ctz 64 (flipW (W k))) = true) := c2
        have C3 : Hid (∀ j, j < Lib.ctz 64 (flipW (W k)) → (flipW (W k)).testBit j = false) := c3
        clear c2 c3
        go_wp2_with (go_at_call 80; refine (tz_any (flipW (W k)) _ (flipW_lt _) HZ.out HT.out).mono ?_; rintro e w' ⟨rfl, rfl⟩)
        go_ret
        refine ⟨64 * k + Lib.ctz 64 (flipW (W k)), ?_, rfl, by omega, fun j hj => ?_, fun _ => ?_⟩
        · go_num
        · by_cases hj' : j < 64 * k
          · exact hall.out j hj'
          · rw [show j = 64 * k + (j - 64 * k) by omega, used_mul W k _ (by omega)]
            have := flipW_test (W k) (j - 64 * k) (hl k) (by omega)
            rw [C3.out _ (by omega)] at this
            simpa using this.symm
        · rw [used_mul W k _ c1]
          have := flipW_test (W k) _ (hl k) c1
          rw [C2.out] at this
          simpa using this.symm
    · go_wp2
      go_ret
      refine ⟨4096, rfl, rfl, by omega, fun j hj => hall.out j (by omega), fun h => by omega⟩
theorem low_at (b i0 : Nat) (W : Nat → Nat) (w : World) (hw : ∀ k, k < 64 → w.cell? ⟨b, k, none⟩ = some (.int .u64 (W k : Nat))) (hl : ∀ k, W k < 18446744073709551616) (hT : TabIs w)
    (h1 : i0 < 4096) (h2 : used W i0 = false) (h3 : ∀ j, j < i0 → used W j = true) :
    Calls Tryd.prog 78 #[.pointer (some ⟨b, 0, none⟩)] w fun e w' => e = .returned (.int .i64 i0) ∧ w' = w :=
  (low_any b W w hw hl hT).mono fun e w' ⟨i, he, hw', _, h5, h6⟩ => by
    have : i = i0 := by
      by_cases ha : i < i0
      · have := h3 i ha; rw [h6 (by omega)] at this; cases this
      · by_cases hb : i0 < i
        · have := h5 i0 hb; rw [h2] at this; cases this
        · omega
    subst this; exact ⟨he, hw'⟩
theorem used_cnt (W : Nat → Nat) (k : Nat) : Bt.cnt (used W) (64 * k + 64) = Bt.cnt (used W) (64 * k) + Bt.cnt (W k).testBit 64 := by
  rw [Bt.cnt_add]
  congr 1
  exact Bt.cnt_congr _ fun j hj => by
    unfold used; rw [show (64 * k + j) / 64 = k by omega, show (64 * k + j) % 64 = j by omega]
set_option maxHeartbeats 800000 in
theorem left_any (b : Nat) (x : Option Addr) (n c : Nat) (W : Nat → Nat) (w : World) (h : w.cell? ⟨b, 64, none⟩ = some (.slice x n c)) (hn : 0 < n) (hn2 : n ≤ 4096)
    (hw : ∀ k, k < 64 → w.cell? ⟨b, k, none⟩ = some (.int .u64 (W k : Nat))) (hl : ∀ k, W k < 18446744073709551616) :
    Calls Tryd.prog 48 #[.pointer (some ⟨b, 0, none⟩)] w fun e w' => e = .returned (.int .i64 ((n : Int) - (Bt.cnt (used W) 4096 : Nat))) ∧ w' = w := by
  have HW : Hid (∀ k, k < 64 → w.cell? ⟨b, k, none⟩ = some (.int .u64 (W k : Nat))) := hw
  clear hw
  go_enter Tryd.func48, Tryd.ntmps48
  go_wp2_with (go_at_call 57; refine (made_yes b x n c _ h hn).mono ?_; rintro e w' ⟨rfl, rfl⟩)
  go_loop [3, 13] (fun l i => ∃ k : Nat, k ≤ 64 ∧ i = .int .i64 k ∧ l = .int .i64 ((n : Int) - (Bt.cnt (used W) (64 * k) : Nat))) (fun _ i => 64 - (intOf i).toNat)
  case atStart => exact ⟨0, by omega, rfl, by simp [Bt.cnt]⟩
  case round =>
    obtain ⟨k, hk, rfl, rfl⟩ := hrel
    by_cases hlt : k < 64
    · have hc := HW.out k hlt
      have hb := Bt.cnt_le (used W) (64 * k)
      have hb2 := Bt.cnt_le (W k).testBit 64
      have hs := used_cnt W k
      have HS : Hid (Bt.cnt (used W) (64 * k + 64) = Bt.cnt (used W) (64 * k) + Bt.cnt (W k).testBit 64) := hs
      clear hs
      go_wp2_with (go_at_call 67; refine (ones_any (W k) _ (hl k)).mono ?_; rintro e w' ⟨rfl, rfl⟩)
      go_round
      case rel => exact ⟨k + 1, by omega, by go_num, by rw [show 64 * (k + 1) = 64 * k + 64 by omega, HS.out]; congr 1; omega⟩
      case measure => simp [intOf]; omega
    · obtain rfl : k = 64 := by omega
      go_wp2
      go_ret
      exact ⟨rfl, rfl⟩
end Go.Proofs.YtgplmgliockbcaaDoor
