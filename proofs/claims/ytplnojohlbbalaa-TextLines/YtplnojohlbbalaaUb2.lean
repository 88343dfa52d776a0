/- The program's size, first, ahead, HeadBytes, TailBytes; the plain answer's first, behind, HeadBytes, TailBytes; Same. Condition: lengths that fit. -/
import Derived.Test.YtplnojohlbbalaaUb1
import Derived.Laws.Small
namespace Go.Proofs.Ytplnojohlbbalaa
open Go.RowKit
attribute [local go_sem] ext_eq app_eq get_eq
namespace Tl
/-- How many of all are the first n; how many stand ahead of the last n, or of the n-th one. -/
def fst (n : Int) (k : Nat) : Nat := if n < 0 then ((k : Int) + n).toNat else (min n k).toNat
def ahd (n : Int) (k : Nat) (fr : Bool) : Nat := if fr then (min (max n 1 - 1) k).toNat else k - (min (max n 0) k).toNat
theorem fst_le (n : Int) (k : Nat) : fst n k ≤ k := by unfold fst; split <;> omega
theorem ahd_le (n : Int) (k : Nat) (fr : Bool) : ahd n k fr ≤ k := by unfold ahd; split <;> omega
end Tl
theorem bl_drew1 (w : World) : Below w.heap.size w w.drew := bl_drew w 1
theorem bl_dr1 {w w5 : World} (b : Below w.drew.heap.size w.drew w5) : Below w.heap.size w w5 := (bl_drew w 1).trans b
theorem bl_drN {w w5 : World} {m : Nat} (b : Below (w.drewN m).heap.size (w.drewN m) w5) : Below w.heap.size w w5 := (bl_drew w m).trans b
set_option maxRecDepth 100000 in
set_option maxHeartbeats 1000000 in
theorem oSize (a : Option Addr) (n c : Nat) (e : Bool) (hn : n ≤ 2 ^ 60) (w : World) : Calls Try.prog 54 #[.agg #[.slice a n c, .bool e]] w fun x w' => x = .returned (.int .i64 ((n + if e then 1 else 0 : Nat) : Int)) ∧ Below w.heap.size w w' := by
  have hB := hidA ((Below.refl w.heap.size w).alloc (Nat.le_refl _) (.cells #[.slice a n c, .bool e] 60))
  have r0 : (w.alloc (.cells #[.slice a n c, .bool e] 60)).cell? ⟨w.heap.size, 0, none⟩ = some (.slice a n c) := World.cell?_alloc_at _ _ _ _ rfl
  have r1 : (w.alloc (.cells #[.slice a n c, .bool e] 60)).cell? ⟨w.heap.size, 1, none⟩ = some (.bool e) := World.cell?_alloc_at _ _ _ _ rfl
  have hw1 : IntKind.i64.wrap ((n : Int) + 1) = ((n + 1 : Nat) : Int) := by rw [IntKind.wrap_i64]; omega
  cases e
  all_goals
    go_enter Try.func54, Try.ntmps54
    go_wp2_with fail
    go_ret
    exact ⟨by first | rfl | simp, hB.out⟩
set_option maxRecDepth 100000 in
set_option maxHeartbeats 1000000 in
theorem oFirst (n : Int) (k : Nat) (hn : -(2 ^ 63) ≤ n ∧ n < 2 ^ 63) (hk : k ≤ 2 ^ 60) (w : World) : Calls Try.prog 42 #[.int .i64 n, .int .i64 k] w fun x w' => x = .returned (.int .i64 ((Tl.fst n k : Nat) : Int)) ∧ w' = w := by
  obtain ⟨R, HR⟩ : ∃ R : Nat, Hid (R = Tl.fst n k) := ⟨_, hidA rfl⟩
  rw [← HR.out]
  have hR := HR.out
  unfold Tl.fst at hR
  by_cases h0 : n < 0
  · rw [if_pos h0] at hR
    have hm : max ((k : Int) + n) 0 = (R : Int) := by omega
    clear HR hR
    go_enter Try.func42, Try.ntmps42
    go_wp2_with fail
    go_ret
    exact ⟨by first | rfl | simp, rfl⟩
  · rw [if_neg h0] at hR
    have hm : min n (k : Int) = (R : Int) := by omega
    clear HR hR
    go_enter Try.func42, Try.ntmps42
    go_wp2_with fail
    go_ret
    exact ⟨by first | rfl | simp, rfl⟩
end Go.Proofs.Ytplnojohlbbalaa
