/- The walks of the store's calls that only read: made, place, Is, fit, Left, Total, lowestFree, and the library's two counts of bits. Conditions: the store's cells are as said; the library's table is as its initialiser lays it. -/
import Derived.Test.YtgplmgliockbcaaDoorProg
import Derived.Test.YtgplmgliockbcaaDoorBits
import Derived.Laws.Bits128
import Derived.WalkKit
import Derived.WalkSpells
import Derived.WalkLawsBesides
import Derived.Handy
import Derived.Deep.QuietTactic
import Derived.BigQuiet
namespace Go.Proofs.YtgplmgliockbcaaDoor
open Go.RowKit

/-- Is block i in use, by the words of the bitmap? -/
def used (W : Nat → Nat) (i : Nat) : Bool := (W (i / 64)).testBit (i % 64)
/-- The library's table, where it lies. -/
def TabIs (w : World) : Prop := ∀ j, j < 64 → w.cell? ⟨0, j, none⟩ = some (.int .u8 (Lib.deBruijn64tab.getD j 0 : Nat))

set_option maxHeartbeats 400000 in
theorem place_any (i : Nat) (w : World) (h1 : i < 4096) : Calls Tryd.prog 70 #[.int .i64 i] w fun e w' => e = .returned (.tuple #[.int .i64 ((i / 64 : Nat) : Int), .int .u64 ((2 ^ (i % 64) : Nat) : Int)]) ∧ ∃ n, w' = w.drewN n := by
  have hs := Bt.shl_one i
  have HS : Hid (IntKind.u64.wrap (2 ^ (i % 64)) = ((2 ^ (i % 64) : Nat) : Int)) := hs
  clear hs
  go_enter Tryd.func70, Tryd.ntmps70
  go_wp2
  go_quiet (fail)
  go_wp2
  rw [HS.out]
  go_ret2
  exact ⟨by simp, _, rfl⟩
set_option maxHeartbeats 400000 in
theorem ones_any (x : Nat) (w : World) (h1 : x < 18446744073709551616) : Calls Tryd.prog 67 #[.int .u64 x] w fun e w' => e = .returned (.int .i64 (Bt.cnt x.testBit 64 : Nat)) ∧ w' = w := by
  have H1 := Bt.st1 x h1
  have H2 := Bt.st2 (Bt.S1 8 x) (Bt.S1_le x)
  have H3 := Bt.st3 (Bt.S2 8 (Bt.S1 8 x)) (Bt.S2_le _)
  obtain ⟨hv, H4⟩ := Bt.ones_nat x h1
  have h4 := H4 _ rfl
  generalize Bt.S3 8 (Bt.S2 8 (Bt.S1 8 x)) = v at *
  have h5 : Hid ((v + v / 256 + (v + v / 256) / 65536 + (v + v / 256 + (v + v / 256) / 65536) / 4294967296) % 128 = Bt.cnt x.testBit 64) := h4
  clear h4 H4
  go_enter Tryd.func67, Tryd.ntmps67
  go_wp2
  go_ret
  refine ⟨?_, rfl⟩
  rw [i64_and127, ← h5.out]
  congr 2
set_option maxHeartbeats 400000 in
theorem tz_core (x k idx : Nat) (w : World) (hx0 : ((x : Int) == 0) = false)
    (key : IntKind.u64.wrap (bits .and .u64 (x : Int) (IntKind.u64.wrap (-(x : Int))) * 285870213051353865) / 288230376151711744 = (idx : Int))
    (hi : idx < 64) (hk : k < 64) (hcell : w.cell? ⟨0, idx, none⟩ = some (.int .u8 k)) :
    Calls Tryd.prog 80 #[.int .u64 x] w fun e w' => e = .returned (.int .i64 k) ∧ w' = w := by
  go_enter Tryd.func80, Tryd.ntmps80
  go_wp2_with (simp only [key])
  go_ret
  exact ⟨by simp, rfl⟩
theorem tz_any (x : Nat) (w : World) (hx : x < 18446744073709551616) (hx0 : x ≠ 0) (hT : TabIs w) :
    Calls Tryd.prog 80 #[.int .u64 x] w fun e w' => e = .returned (.int .i64 (Lib.ctz 64 x : Nat)) ∧ w' = w := by
  obtain ⟨hlow, hk⟩ := Lib.lowest_bit 64 x hx0 hx
  obtain ⟨hi, htab⟩ := Lib.deBruijn64_at _ hk
  have hcell := hT _ hi
  rw [htab] at hcell
  exact tz_core x _ _ w (by simp; omega) (Bt.tz_key x _ hx hx0 hlow) hi hk hcell
set_option maxHeartbeats 400000 in
theorem made_nil (w : World) : Calls Tryd.prog 57 #[.pointer none] w fun e w' => e = .returned (.bool false) ∧ w' = w := by
  go_enter Tryd.func57, Tryd.ntmps57
  go_wp2
  go_ret
  exact ⟨rfl, rfl⟩
set_option maxHeartbeats 400000 in
theorem made_no (b : Nat) (x : Option Addr) (c : Nat) (w : World) (h : w.cell? ⟨b, 64, none⟩ = some (.slice x 0 c)) : Calls Tryd.prog 57 #[.pointer (some ⟨b, 0, none⟩)] w fun e w' => e = .returned (.bool false) ∧ w' = w := by
  go_enter Tryd.func57, Tryd.ntmps57
  go_wp2
  go_ret
  exact ⟨by simp, rfl⟩
set_option maxHeartbeats 400000 in
theorem made_yes (b : Nat) (x : Option Addr) (n c : Nat) (w : World) (h : w.cell? ⟨b, 64, none⟩ = some (.slice x n c)) (hn : 0 < n) : Calls Tryd.prog 57 #[.pointer (some ⟨b, 0, none⟩)] w fun e w' => e = .returned (.bool true) ∧ w' = w := by
  go_enter Tryd.func57, Tryd.ntmps57
  go_wp2
  go_ret
  exact ⟨by simp, rfl⟩
set_option maxHeartbeats 400000 in
theorem total_yes (b : Nat) (x : Option Addr) (n c : Nat) (w : World) (h : w.cell? ⟨b, 64, none⟩ = some (.slice x n c)) (hn : 0 < n) : Calls Tryd.prog 47 #[.pointer (some ⟨b, 0, none⟩)] w fun e w' => e = .returned (.int .i64 n) ∧ w' = w := by
  go_enter Tryd.func47, Tryd.ntmps47
  go_wp2_with (go_at_call 57; refine (made_yes b x n c _ h hn).mono ?_; rintro e w' ⟨rfl, rfl⟩)
  go_ret
  exact ⟨rfl, rfl⟩
set_option maxHeartbeats 400000 in
theorem is_out (b n c : Nat) (x : Option Addr) (i : Int) (w : World) (h : w.cell? ⟨b, 64, none⟩ = some (.slice x n c)) (hn : 0 < n) (hi : i < 0 ∨ n ≤ i) : Calls Tryd.prog 58 #[.pointer (some ⟨b, 0, none⟩), .int .i64 i] w fun e w' => e = .returned (.bool false) ∧ w' = w := by
  rcases hi with hi | hi
  · go_enter Tryd.func58, Tryd.ntmps58
    go_wp2_with (go_at_call 57; refine (made_yes b x n c _ h hn).mono ?_; rintro e w' ⟨rfl, rfl⟩)
    go_ret
    exact ⟨rfl, rfl⟩
  · have hi' : ¬ i < 0 := by omega
    go_enter Tryd.func58, Tryd.ntmps58
    go_wp2_with (go_at_call 57; refine (made_yes b x n c _ h hn).mono ?_; rintro e w' ⟨rfl, rfl⟩)
    go_ret
    exact ⟨rfl, rfl⟩
set_option maxHeartbeats 400000 in
theorem is_in (b n c : Nat) (x : Option Addr) (i : Nat) (W : Nat → Nat) (w : World) (h : w.cell? ⟨b, 64, none⟩ = some (.slice x n c)) (hn : i < n) (hn2 : n ≤ 4096)
    (hw : w.cell? ⟨b, i / 64, none⟩ = some (.int .u64 (W (i / 64) : Nat))) (hl : W (i / 64) < 18446744073709551616) : Calls Tryd.prog 58 #[.pointer (some ⟨b, 0, none⟩), .int .i64 i] w fun e w' => e = .returned (.bool (used W i)) ∧ ∃ m, w' = w.drewN m := by
  have hi' : ¬ (i : Int) < 0 := by omega
  have h64 : i / 64 < 64 := by omega
  go_enter Tryd.func58, Tryd.ntmps58
  go_wp2_with (first | (go_at_call 57; refine (made_yes b x n c _ h (by omega)).mono ?_; rintro e w' ⟨rfl, rfl⟩) | (go_at_call 70; refine (place_any i _ (by omega)).mono ?_; rintro e w' ⟨rfl, m, rfl⟩))
  go_ret
  refine ⟨?_, _, rfl⟩
  rw [Bt.and_bit _ _ hl (by omega)]; rfl
set_option maxHeartbeats 400000 in
theorem fit_nil (i : Int) (w : World) : Calls Tryd.prog 72 #[.pointer none, .int .i64 i] w fun e w' => e = .returned (.int .i64 14) ∧ w' = w := by
  go_enter Tryd.func72, Tryd.ntmps72
  go_wp2_with (go_at_call 57; refine (made_nil _).mono ?_; rintro e w' ⟨rfl, rfl⟩)
  go_ret
  exact ⟨rfl, rfl⟩
set_option maxHeartbeats 400000 in
theorem fit_no (b : Nat) (x : Option Addr) (c : Nat) (i : Int) (w : World) (h : w.cell? ⟨b, 64, none⟩ = some (.slice x 0 c)) : Calls Tryd.prog 72 #[.pointer (some ⟨b, 0, none⟩), .int .i64 i] w fun e w' => e = .returned (.int .i64 14) ∧ w' = w := by
  go_enter Tryd.func72, Tryd.ntmps72
  go_wp2_with (go_at_call 57; refine (made_no b x c _ h).mono ?_; rintro e w' ⟨rfl, rfl⟩)
  go_ret
  exact ⟨rfl, rfl⟩
set_option maxHeartbeats 400000 in
theorem fit_out (b n c : Nat) (x : Option Addr) (i : Int) (w : World) (h : w.cell? ⟨b, 64, none⟩ = some (.slice x n c)) (hn : 0 < n) (hi : i < 0 ∨ n ≤ i) : Calls Tryd.prog 72 #[.pointer (some ⟨b, 0, none⟩), .int .i64 i] w fun e w' => e = .returned (.int .i64 22) ∧ w' = w := by
  have H : Hid (i < 0 ∨ n ≤ i) := hi
  clear hi
  go_enter Tryd.func72, Tryd.ntmps72
  go_wp2_with (first | (go_at_call 57; refine (made_yes b x n c _ h hn).mono ?_; rintro e w' ⟨rfl, rfl⟩) | (go_at_call 58; refine (is_out b n c x i _ h hn H.out).mono ?_; rintro e w' ⟨rfl, rfl⟩))
  go_ret
  exact ⟨rfl, rfl⟩
set_option maxHeartbeats 400000 in
theorem fit_free (b n c : Nat) (x : Option Addr) (i : Nat) (W : Nat → Nat) (w : World) (h : w.cell? ⟨b, 64, none⟩ = some (.slice x n c)) (hn : i < n) (hn2 : n ≤ 4096)
    (hw : w.cell? ⟨b, i / 64, none⟩ = some (.int .u64 (W (i / 64) : Nat))) (hl : W (i / 64) < 18446744073709551616) (hu : used W i = false) : Calls Tryd.prog 72 #[.pointer (some ⟨b, 0, none⟩), .int .i64 i] w fun e w' => e = .returned (.int .i64 22) ∧ ∃ m, w' = w.drewN m := by
  go_enter Tryd.func72, Tryd.ntmps72
  go_wp2_with (first | (go_at_call 57; refine (made_yes b x n c _ h (by omega)).mono ?_; rintro e w' ⟨rfl, rfl⟩) | (go_at_call 58; refine (is_in b n c x i W _ h hn hn2 hw hl).mono ?_; rintro e w' ⟨rfl, m, rfl⟩))
  go_ret
  exact ⟨rfl, _, rfl⟩
set_option maxHeartbeats 400000 in
theorem fit_used (b n c : Nat) (x : Option Addr) (i : Nat) (W : Nat → Nat) (w : World) (h : w.cell? ⟨b, 64, none⟩ = some (.slice x n c)) (hn : i < n) (hn2 : n ≤ 4096)
    (hw : w.cell? ⟨b, i / 64, none⟩ = some (.int .u64 (W (i / 64) : Nat))) (hl : W (i / 64) < 18446744073709551616) (hu : used W i = true) : Calls Tryd.prog 72 #[.pointer (some ⟨b, 0, none⟩), .int .i64 i] w fun e w' => e = .returned (.int .i64 0) ∧ ∃ m, w' = w.drewN m := by
  go_enter Tryd.func72, Tryd.ntmps72
  go_wp2_with (first | (go_at_call 57; refine (made_yes b x n c _ h (by omega)).mono ?_; rintro e w' ⟨rfl, rfl⟩) | (go_at_call 58; refine (is_in b n c x i W _ h hn hn2 hw hl).mono ?_; rintro e w' ⟨rfl, m, rfl⟩))
  go_ret
  exact ⟨rfl, _, rfl⟩
end Go.Proofs.YtgplmgliockbcaaDoor
