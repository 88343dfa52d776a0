/- The iterator over the inodes in use, for every loop that keeps what it reads. Condition: the table's cells are as said. -/
import Derived.Test.YtfmemkninmpfjaaGreatDoorTab3
import Derived.RangeFuncNested
import Derived.RangeFuncBound
import Derived.RangeFuncCalls
import Derived.RangeFuncLeaves
import Derived.RangeFuncFrom
import Derived.Shelf.Abstract
import Derived.Shelf.RegionOpen
import Derived.WalkKit
import Derived.OwnWalkIn
import Derived.TacticsInMore
import Derived.LoopNIn
import Derived.LoopIn
namespace Go.Proofs.YtfmemkninmpfjaaGreatDoor
open Go.RowKit Go.Shelf
attribute [local go_sem] Oper.semAt_some
/-- The numbers in use among the first k inodes, rising. -/
def inL (F : Nat → Nat → Int) : Nat → List Int
  | 0 => []
  | k + 1 => if F k 0 = 0 then inL F k else inL F k ++ [(k : Int) + 1]
theorem inL_pre (F : Nat → Nat → Int) : ∀ (d k : Nat), inL F k <+: inL F (k + d)
  | 0, k => List.prefix_refl _
  | d + 1, k => by
    have ih := inL_pre F d k
    show _ <+: inL F (k + d + 1)
    rw [inL]
    split
    · exact ih
    · exact ih.trans (List.prefix_append _ _)
theorem inL_le (F : Nat → Nat → Int) : ∀ k, (inL F k).length ≤ k
  | 0 => Nat.le_refl _
  | k + 1 => by
    have := inL_le F k
    rw [inL]; split
    · omega
    · rw [List.length_append]; simp; omega
/-- What the iterator reads. -/
structure SeqAt (W : World) (Bn t q N cp : Nat) (F : Nat → Nat → Int) : Prop where
  bn : W.cell? ⟨Bn, 0, none⟩ = some (.pointer (some ⟨t, 0, none⟩))
  c1 : W.cell? ⟨t, 1, none⟩ = some (.slice (some ⟨q, 0, none⟩) N cp)
  cf : ∀ i, i < N → W.cell? ⟨q, i * 17, none⟩ = some (.int .i64 (F i 0))
set_option maxRecDepth 100000 in
set_option maxHeartbeats 4000000 in
theorem inUse1 (n : Nat) (hn : 1 ≤ n) (l Bn t q N cp : Nat) (F : Nat → Nat → Int) (hN : N ≤ 4096) (Kp : World → World → Prop) (hKp : ∀ W W', Kp W W' → SeqAt W Bn t q N cp F → SeqAt W' Bn t q N cp F) (J Jx : List Int → World → Prop)
    (hY : ∀ pre x W, J pre W → pre.length < (inL F N).length → YieldAt Fence.wide (n - 1) Tryz.prog l #[.int .i64 x] W fun e W' =>
      (e = .returned (.bool true) ∧ J (pre ++ [x]) W' ∧ Kp W W') ∨ (e = .returned (.bool false) ∧ Jx (pre ++ [x]) W'))
    (W : World) (hS : SeqAt W Bn t q N cp F) (h0 : J [] W) :
    CallsIn Fence.wide n Tryz.prog 114 #[.func (.yield l) #[] #[], .pointer (some ⟨Bn, 0, none⟩)] W fun e W' => (∃ v, e = .returned v) ∧
      ((∃ ys, ys = inL F N ∧ J ys W') ∨ (∃ pre, pre <+: inL F N ∧ Jx pre W')) := by
  refine callsIn_of_wp Tryz.func114 rfl trivial ?_ rfl
  simp only [Tryz.ntmps114, List.size_toArray, List.length_cons, List.length_nil, Nat.reduceAdd, Nat.reduceSub, Array.replicate_succ, Array.replicate_zero, List.push_toArray, List.append_toArray, List.nil_append, List.cons_append]
  have hb := hS.bn
  have hc := hS.c1
  have HS : Hid (SeqAt W Bn t q N cp F) := hS
  have HJ0 : Hid (J [] W) := h0
  have HY : Hid (∀ pre x W, J pre W → pre.length < (inL F N).length → YieldAt Fence.wide (n - 1) Tryz.prog l #[.int .i64 x] W fun e W' =>
      (e = .returned (.bool true) ∧ J (pre ++ [x]) W' ∧ Kp W W') ∨ (e = .returned (.bool false) ∧ Jx (pre ++ [x]) W')) := hY
  clear hS h0 hY
  gi_wp2
  gi_loopw [9] (fun x wx => ∃ k : Nat, k ≤ N ∧ x = .int .i64 k ∧ Hid (SeqAt wx Bn t q N cp F) ∧ Hid (J (inL F k) wx)) (fun x _ => N - (intOf x).toNat)
  case atStart => exact ⟨0, Nat.zero_le _, rfl, HS, HJ0⟩
  case round =>
    obtain ⟨k, hk, rfl, HSr, HJr⟩ := hrel
    have hb' := HSr.out.bn
    have hc' := HSr.out.c1
    by_cases hlt : k < N
    · have hm := HSr.out.cf k hlt
      by_cases hz : F k 0 = 0
      · rw [hz] at hm
        gi_wp2_with (refine ⟨trivial, ?_⟩; gi_at_call 74; refine (callsIn_wide.2 (used_node q _ 0 _ hm)).mono ?_; rintro e w1 ⟨rfl, hw1⟩; rw [hw1]; clear hw1 w1)
        refine ⟨fun _ h => (by cases h), ?_⟩
        gi_wp2
        exact ⟨⟨k + 1, by omega, by go_num, HSr, by show J _ _; rw [inL, if_pos hz]; exact HJr⟩, by simp [intOf]; omega⟩
      · have HB : Hid ((F k 0 != 0) = true) := by show _ = _; simpa using hz
        have HE : Hid (inL F (k + 1) = inL F k ++ [(k : Int) + 1]) := by show _ = _; rw [inL, if_neg hz]
        clear hz
        obtain ⟨fn, tmps, assign, body, hy, hR⟩ := HY.out (inL F k) ((k : Int) + 1) wr HJr.out (by have := (inL_pre F (N - (k + 1)) (k + 1)).length_le; rw [HE.out, List.length_append, show k + 1 + (N - (k + 1)) = N by omega] at this; simp at this; omega)
        gi_wp2_with (refine ⟨trivial, ?_⟩; gi_at_call 74; refine (callsIn_wide.2 (used_node q _ _ _ hm)).mono ?_; rw [HB.out]; rintro e w1 ⟨rfl, hw1⟩; rw [hw1]; clear hw1 w1)
        refine hR.mono ?_
        rintro e W3 (⟨rfl, hJ3, hk3⟩ | ⟨rfl, hJx3⟩)
        · have HS3 : Hid (SeqAt W3 Bn t q N cp F) := hKp _ _ hk3 HSr.out
          have HJ3 : Hid (J (inL F (k + 1)) W3) := by show J _ _; rw [HE.out]; exact hJ3
          clear hJ3 hk3
          gi_wp2
          exact ⟨⟨k + 1, by omega, by go_num, HS3, HJ3⟩, by simp [intOf]; omega⟩
        · gi_wp2
          refine bodyPost_ret (results_none rfl _ _ _) rfl ?_
          refine ⟨⟨_, rfl⟩, .inr ⟨inL F k ++ [(k : Int) + 1], ?_, hJx3⟩⟩
          rw [← HE.out, show N = k + 1 + (N - (k + 1)) by omega]
          exact inL_pre F _ _
    · obtain rfl : k = N := by omega
      gi_wp2
      go_end0
      exact ⟨⟨_, rfl⟩, .inl ⟨_, rfl, HJr.out⟩⟩
/-- The iterator's contract, as a loop wants it. -/
theorem inUse_stops (n : Nat) (hn : 1 ≤ n) (Bn t q N cp : Nat) (F : Nat → Nat → Int) (hN : N ≤ 4096) (Kp : World → World → Prop) (hKp : ∀ W W', Kp W W' → SeqAt W Bn t q N cp F → SeqAt W' Bn t q N cp F) (w : World) (hS : SeqAt w Bn t q N cp F) :
    SeqStopsK Fence.wide n Tryz.prog 114 #[.pointer (some ⟨Bn, 0, none⟩)] (fun x : Int => #[Value.int .i64 x]) Kp (fun ys => ys = inL F N) (fun pre => pre <+: inL F N) (inL F N).length w := fun l J Jx W hW _ _ hY h0 =>
  inUse1 n hn l Bn t q N cp F hN Kp hKp J Jx hY W ⟨(hW.cell (p := ⟨Bn, 0, none⟩) (block_lt_of_cell hS.bn)).trans hS.bn, (hW.cell (p := ⟨t, 1, none⟩) (block_lt_of_cell hS.c1)).trans hS.c1, fun i hi => (hW.cell (p := ⟨q, i * 17, none⟩) (block_lt_of_cell (hS.cf i hi))).trans (hS.cf i hi)⟩ h0
theorem inUse_any (t : Nat) (w : World) : Calls Tryz.prog 89 #[.pointer (some ⟨t, 0, none⟩)] w fun e w' => e = .returned (.func (.func 114) #[] #[.pointer (some ⟨w.heap.size, 0, none⟩)]) ∧ w' = w.alloc (.cells #[.pointer (some ⟨t, 0, none⟩)] 38) := by
  go_enter Tryz.func89, Tryz.ntmps89
  go_wp2
  go_ret
  exact ⟨rfl, rfl⟩
end Go.Proofs.YtfmemkninmpfjaaGreatDoor
