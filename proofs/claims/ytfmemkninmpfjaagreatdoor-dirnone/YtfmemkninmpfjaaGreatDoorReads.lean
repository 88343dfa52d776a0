/- The walks of the store's calls that only read: made, place, Is, fit, Left, Total, lowestFree, and the library's two counts of bits. Conditions: the store's cells are as said; the library's table is as its initialiser lays it. -/
import Derived.Test.YtfmemkninmpfjaaGreatDoorProg
import Derived.Test.YtfmemkninmpfjaaGreatDoorBits
import Derived.Laws.Bits128
import Derived.WalkKit
import Derived.WalkSpells
import Derived.WalkLawsBesides
import Derived.Handy
import Derived.Deep.QuietTactic
import Derived.BigQuiet
namespace Go.Proofs.YtfmemkninmpfjaaGreatDoor
open Go.RowKit

/-- Is block i in use, by the words of the bitmap? -/
def used (W : Nat → Nat) (i : Nat) : Bool := (W (i / 64)).testBit (i % 64)
/-- The library's table, where it lies. -/
def TabIs (w : World) : Prop := ∀ j, j < 64 → w.cell? ⟨1, j, none⟩ = some (.int .u8 (Lib.deBruijn64tab.getD j 0 : Nat))

set_option maxHeartbeats 400000 in
theorem place_any (i : Nat) (w : World) (h1 : i < 4096) : Calls Tryz.prog 130 #[.int .i64 i] w fun e w' => e = .returned (.tuple #[.int .i64 ((i / 64 : Nat) : Int), .int .u64 ((2 ^ (i % 64) : Nat) : Int)]) ∧ ∃ n, w' = w.drewN n := by
  have hs := Bt.shl_one i
  have HS : Hid (IntKind.u64.wrap (2 ^ (i % 64)) = ((2 ^ (i % 64) : Nat) : Int)) := hs
  clear hs
  go_enter Tryz.func130, Tryz.ntmps130
  go_wp2
  go_quiet (fail)
  go_wp2
  rw [HS.out]
  go_ret2
  exact ⟨by simp, _, rfl⟩
set_option maxHeartbeats 400000 in
theorem tz_core (x k idx : Nat) (w : World) (hx0 : ((x : Int) == 0) = false)
    (key : IntKind.u64.wrap (bits .and .u64 (x : Int) (IntKind.u64.wrap (-(x : Int))) * 285870213051353865) / 288230376151711744 = (idx : Int))
    (hi : idx < 64) (hk : k < 64) (hcell : w.cell? ⟨1, idx, none⟩ = some (.int .u8 k)) :
    Calls Tryz.prog 148 #[.int .u64 x] w fun e w' => e = .returned (.int .i64 k) ∧ w' = w := by
  go_enter Tryz.func148, Tryz.ntmps148
  go_wp2_with (simp only [key])
  go_ret
  exact ⟨by simp, rfl⟩
theorem tz_any (x : Nat) (w : World) (hx : x < 18446744073709551616) (hx0 : x ≠ 0) (hT : TabIs w) :
    Calls Tryz.prog 148 #[.int .u64 x] w fun e w' => e = .returned (.int .i64 (Lib.ctz 64 x : Nat)) ∧ w' = w := by
  obtain ⟨hlow, hk⟩ := Lib.lowest_bit 64 x hx0 hx
  obtain ⟨hi, htab⟩ := Lib.deBruijn64_at _ hk
  have hcell := hT _ hi
  rw [htab] at hcell
  exact tz_core x _ _ w (by simp; omega) (Bt.tz_key x _ hx hx0 hlow) hi hk hcell
set_option maxHeartbeats 400000 in
theorem made_nil (w : World) : Calls Tryz.prog 115 #[.pointer none] w fun e w' => e = .returned (.bool false) ∧ w' = w := by
  go_enter Tryz.func115, Tryz.ntmps115
  go_wp2
  go_ret
  exact ⟨rfl, rfl⟩
set_option maxHeartbeats 400000 in
theorem made_no (b : Nat) (x : Option Addr) (c : Nat) (w : World) (h : w.cell? ⟨b, 64, none⟩ = some (.slice x 0 c)) : Calls Tryz.prog 115 #[.pointer (some ⟨b, 0, none⟩)] w fun e w' => e = .returned (.bool false) ∧ w' = w := by
  go_enter Tryz.func115, Tryz.ntmps115
  go_wp2
  go_ret
  exact ⟨by simp, rfl⟩
set_option maxHeartbeats 400000 in
theorem made_yes (b : Nat) (x : Option Addr) (n c : Nat) (w : World) (h : w.cell? ⟨b, 64, none⟩ = some (.slice x n c)) (hn : 0 < n) : Calls Tryz.prog 115 #[.pointer (some ⟨b, 0, none⟩)] w fun e w' => e = .returned (.bool true) ∧ w' = w := by
  go_enter Tryz.func115, Tryz.ntmps115
  go_wp2
  go_ret
  exact ⟨by simp, rfl⟩
set_option maxHeartbeats 400000 in
theorem is_out (b n c : Nat) (x : Option Addr) (i : Int) (w : World) (h : w.cell? ⟨b, 64, none⟩ = some (.slice x n c)) (hn : 0 < n) (hi : i < 0 ∨ n ≤ i) : Calls Tryz.prog 116 #[.pointer (some ⟨b, 0, none⟩), .int .i64 i] w fun e w' => e = .returned (.bool false) ∧ w' = w := by
  rcases hi with hi | hi
  · go_enter Tryz.func116, Tryz.ntmps116
    go_wp2_with (go_at_call 115; refine (made_yes b x n c _ h hn).mono ?_; rintro e w' ⟨rfl, rfl⟩)
    go_ret
    exact ⟨rfl, rfl⟩
  · have hi' : ¬ i < 0 := by omega
    go_enter Tryz.func116, Tryz.ntmps116
    go_wp2_with (go_at_call 115; refine (made_yes b x n c _ h hn).mono ?_; rintro e w' ⟨rfl, rfl⟩)
    go_ret
    exact ⟨rfl, rfl⟩
set_option maxHeartbeats 400000 in
theorem is_in (b n c : Nat) (x : Option Addr) (i : Nat) (W : Nat → Nat) (w : World) (h : w.cell? ⟨b, 64, none⟩ = some (.slice x n c)) (hn : i < n) (hn2 : n ≤ 4096)
    (hw : w.cell? ⟨b, i / 64, none⟩ = some (.int .u64 (W (i / 64) : Nat))) (hl : W (i / 64) < 18446744073709551616) : Calls Tryz.prog 116 #[.pointer (some ⟨b, 0, none⟩), .int .i64 i] w fun e w' => e = .returned (.bool (used W i)) ∧ ∃ m, w' = w.drewN m := by
  have hi' : ¬ (i : Int) < 0 := by omega
  have h64 : i / 64 < 64 := by omega
  go_enter Tryz.func116, Tryz.ntmps116
  go_wp2_with (first | (go_at_call 115; refine (made_yes b x n c _ h (by omega)).mono ?_; rintro e w' ⟨rfl, rfl⟩) | (go_at_call 130; refine (place_any i _ (by omega)).mono ?_; rintro e w' ⟨rfl, m, rfl⟩))
  go_ret
  refine ⟨?_, _, rfl⟩
  rw [Bt.and_bit _ _ hl (by omega)]; rfl
set_option maxHeartbeats 400000 in
theorem fit_nil (i : Int) (w : World) : Calls Tryz.prog 129 #[.pointer none, .int .i64 i] w fun e w' => e = .returned (.int .i64 14) ∧ w' = w := by
  go_enter Tryz.func129, Tryz.ntmps129
  go_wp2_with (go_at_call 115; refine (made_nil _).mono ?_; rintro e w' ⟨rfl, rfl⟩)
  go_ret
  exact ⟨rfl, rfl⟩
set_option maxHeartbeats 400000 in
theorem fit_no (b : Nat) (x : Option Addr) (c : Nat) (i : Int) (w : World) (h : w.cell? ⟨b, 64, none⟩ = some (.slice x 0 c)) : Calls Tryz.prog 129 #[.pointer (some ⟨b, 0, none⟩), .int .i64 i] w fun e w' => e = .returned (.int .i64 14) ∧ w' = w := by
  go_enter Tryz.func129, Tryz.ntmps129
  go_wp2_with (go_at_call 115; refine (made_no b x c _ h).mono ?_; rintro e w' ⟨rfl, rfl⟩)
  go_ret
  exact ⟨rfl, rfl⟩
set_option maxHeartbeats 400000 in
theorem fit_out (b n c : Nat) (x : Option Addr) (i : Int) (w : World) (h : w.cell? ⟨b, 64, none⟩ = some (.slice x n c)) (hn : 0 < n) (hi : i < 0 ∨ n ≤ i) : Calls Tryz.prog 129 #[.pointer (some ⟨b, 0, none⟩), .int .i64 i] w fun e w' => e = .returned (.int .i64 22) ∧ w' = w := by
  have H : Hid (i < 0 ∨ n ≤ i) := hi
  clear hi
  go_enter Tryz.func129, Tryz.ntmps129
  go_wp2_with (first | (go_at_call 115; refine (made_yes b x n c _ h hn).mono ?_; rintro e w' ⟨rfl, rfl⟩) | (go_at_call 116; refine (is_out b n c x i _ h hn H.out).mono ?_; rintro e w' ⟨rfl, rfl⟩))
  go_ret
  exact ⟨rfl, rfl⟩
set_option maxHeartbeats 400000 in
theorem fit_free (b n c : Nat) (x : Option Addr) (i : Nat) (W : Nat → Nat) (w : World) (h : w.cell? ⟨b, 64, none⟩ = some (.slice x n c)) (hn : i < n) (hn2 : n ≤ 4096)
    (hw : w.cell? ⟨b, i / 64, none⟩ = some (.int .u64 (W (i / 64) : Nat))) (hl : W (i / 64) < 18446744073709551616) (hu : used W i = false) : Calls Tryz.prog 129 #[.pointer (some ⟨b, 0, none⟩), .int .i64 i] w fun e w' => e = .returned (.int .i64 22) ∧ ∃ m, w' = w.drewN m := by
  go_enter Tryz.func129, Tryz.ntmps129
  go_wp2_with (first | (go_at_call 115; refine (made_yes b x n c _ h (by omega)).mono ?_; rintro e w' ⟨rfl, rfl⟩) | (go_at_call 116; refine (is_in b n c x i W _ h hn hn2 hw hl).mono ?_; rintro e w' ⟨rfl, m, rfl⟩))
  go_ret
  exact ⟨rfl, _, rfl⟩
set_option maxHeartbeats 400000 in
theorem fit_used (b n c : Nat) (x : Option Addr) (i : Nat) (W : Nat → Nat) (w : World) (h : w.cell? ⟨b, 64, none⟩ = some (.slice x n c)) (hn : i < n) (hn2 : n ≤ 4096)
    (hw : w.cell? ⟨b, i / 64, none⟩ = some (.int .u64 (W (i / 64) : Nat))) (hl : W (i / 64) < 18446744073709551616) (hu : used W i = true) : Calls Tryz.prog 129 #[.pointer (some ⟨b, 0, none⟩), .int .i64 i] w fun e w' => e = .returned (.int .i64 0) ∧ ∃ m, w' = w.drewN m := by
  go_enter Tryz.func129, Tryz.ntmps129
  go_wp2_with (first | (go_at_call 115; refine (made_yes b x n c _ h (by omega)).mono ?_; rintro e w' ⟨rfl, rfl⟩) | (go_at_call 116; refine (is_in b n c x i W _ h hn hn2 hw hl).mono ?_; rintro e w' ⟨rfl, m, rfl⟩))
  go_ret
  exact ⟨rfl, _, rfl⟩
end Go.Proofs.YtfmemkninmpfjaaGreatDoor
