/- The program's iterator over names, for every loop that keeps the text it reads. Condition: the text's cell is as said; a length that fits. -/
import Derived.Test.YteggjpogaljafaaDoorPb2
namespace Go.Proofs.YteggjpogaljafaaDoor
open Go.RowKit Go.Shelf
attribute [local go_sem] ext_eq app_eq get_eq toL_eq
attribute [local go_sem] Oper.semAt_some
abbrev NmX := Int × List UInt8
def nmEnc (x : NmX) : Array Value := #[.int .i64 x.1, .string ⟨x.2.toArray⟩]
def NmAt (W : World) (Bn : Nat) (l : List UInt8) : Prop := W.cell? ⟨Bn, 0, none⟩ = some (.string ⟨l.toArray⟩)
theorem sIndex (l : List UInt8) (c : UInt8) (w : World) : Calls Tryd.prog 28 #[.string ⟨l.toArray⟩, .int .u8 c.toNat] w fun e w' => e = .returned (.int .i64 (Lib.indexByte l c)) ∧ w' = w := by
  have h := Tryd.strings_IndexByte ⟨l.toArray⟩ c.toNat w
  rw [show ((c.toNat : Int).toNat.toUInt8) = c by simp] at h
  exact h
theorem sIndex47 (l : List UInt8) (w : World) : Calls Tryd.prog 28 #[.string ⟨l.toArray⟩, .int .u8 47] w fun e w' => e = .returned (.int .i64 (Lib.indexByte l 47)) ∧ w' = w := sIndex l 47 w
set_option maxRecDepth 100000 in
set_option maxHeartbeats 4000000 in
theorem names1 (n : Nat) (hn : 1 ≤ n) (lp Bn : Nat) (l : List UInt8) (hl : l.length ≤ 2 ^ 40) (Kp : World → World → Prop) (hKp : ∀ W W', Kp W W' → NmAt W Bn l → NmAt W' Bn l) (J Jx : List NmX → World → Prop)
    (hY : ∀ pre x W, J pre W → pre.length < (Pa.nms l).length → YieldAt Fence.wide (n - 1) Tryd.prog lp (nmEnc x) W fun e W' =>
      (e = .returned (.bool true) ∧ J (pre ++ [x]) W' ∧ Kp W W') ∨ (e = .returned (.bool false) ∧ Jx (pre ++ [x]) W'))
    (W : World) (hS : NmAt W Bn l) (h0 : J [] W) :
    CallsIn Fence.wide n Tryd.prog 46 #[.func (.yield lp) #[] #[], .pointer (some ⟨Bn, 0, none⟩)] W fun e W' => (∃ v, e = .returned v) ∧
      ((∃ ys : List NmX, ys.map (·.2) = Pa.nms l ∧ J ys W') ∨ (∃ pre : List NmX, pre.map (·.2) <+: Pa.nms l ∧ Jx pre W')) := by
  refine callsIn_of_wp Tryd.func46 rfl trivial ?_ rfl
  simp only [Tryd.ntmps46, List.size_toArray, List.length_cons, List.length_nil, Nat.reduceAdd, Nat.reduceSub, Array.replicate_succ, Array.replicate_zero, List.push_toArray, List.append_toArray, List.nil_append, List.cons_append]
  have HS : Hid (NmAt W Bn l) := hS
  have HJ0 : Hid (J [] W) := h0
  have HY : Hid (∀ pre x W, J pre W → pre.length < (Pa.nms l).length → YieldAt Fence.wide (n - 1) Tryd.prog lp (nmEnc x) W fun e W' =>
      (e = .returned (.bool true) ∧ J (pre ++ [x]) W' ∧ Kp W W') ∨ (e = .returned (.bool false) ∧ Jx (pre ++ [x]) W')) := hY
  clear hS h0 hY
  gi_wp2
  gi_loopw [3] (fun x wx => ∃ (b : Nat) (pre : List NmX), x = .int .i64 b ∧ b ≤ l.length + 1 ∧ Hid (pre.map (·.2) ++ Pa.nms (l.drop b) = Pa.nms l) ∧ Hid (NmAt wx Bn l) ∧ Hid (J pre wx)) (fun x _ => l.length + 1 - (intOf x).toNat)
  case atStart => exact ⟨0, [], rfl, Nat.zero_le _, rfl, HS, HJ0⟩
  case round =>
    obtain ⟨b, pre, rfl, hb, HP, HSr, HJr⟩ := hrel
    have hc : wr.cell? ⟨Bn, 0, none⟩ = some (.string ⟨l.toArray⟩) := HSr.out
    by_cases hlt : b < l.length
    · have hdl : (l.drop b).length = l.length - b := List.length_drop
      rcases Pa.indexByte_cut 47 (l.drop b) with ⟨he, hno⟩ | ⟨k, he, hk, hno, hcut⟩
      · -- the last name
        have HE : Hid (Lib.indexByte (l.drop b) 47 = -1) := he
        have hne : ¬ l.drop b = [] := fun e => by rw [e] at hdl; simp at hdl; omega
        have HP2 : Hid (pre.map (·.2) ++ [l.drop b] = Pa.nms l) := by
          have := HP.out
          rw [Pa.nms_plain _ hno, if_neg hne] at this
          exact this
        clear he hno hdl
        obtain ⟨fn, tmps, assign, body, hy, hR⟩ := HY.out pre ((l.length : Int), l.drop b) wr HJr.out (by rw [← HP2.out]; simp)
        dsimp only [nmEnc] at hy
        have HI : Hid (Calls Tryd.prog 28 #[.string ⟨(l.drop b).toArray⟩, .int .u8 47] wr fun e w' => e = .returned (.int .i64 (-1)) ∧ w' = wr) := by show Calls _ _ _ _ _; rw [← HE.out]; exact sIndex47 _ _
        clear HE hne
        gi_wp2_with (refine ⟨trivial, ?_⟩; gi_at_call 28; refine (callsIn_wide.2 HI.out).mono ?_; rintro e w1 ⟨rfl, hw1⟩; rw [hw1]; clear hw1 w1)
        refine hR.mono ?_
        rintro e W3 (⟨rfl, hJ3, hk3⟩ | ⟨rfl, hJx3⟩)
        · have HS3 : Hid (NmAt W3 Bn l) := hKp _ _ hk3 HSr.out
          have HJ3 : Hid (J (pre ++ [((l.length : Int), l.drop b)]) W3) := hJ3
          clear hJ3 hk3
          gi_wp2
          refine ⟨⟨l.length + 1, _, by go_num, Nat.le_refl _, ?_, HS3, HJ3⟩, by simp [intOf]; omega⟩
          show _ = _
          rw [show l.drop (l.length + 1) = [] from List.drop_of_length_le (by omega), Pa.nms_nil, List.append_nil, List.map_append]
          exact HP2.out
        · gi_wp2
          refine bodyPost_ret (results_none rfl _ _ _) rfl ?_
          refine ⟨⟨_, rfl⟩, .inr ⟨_, ?_, hJx3⟩⟩
          rw [List.map_append, ← HP2.out]
          exact List.prefix_refl _
      · have HI : Hid (Calls Tryd.prog 28 #[.string ⟨(l.drop b).toArray⟩, .int .u8 47] wr fun e w' => e = .returned (.int .i64 (k : Int)) ∧ w' = wr) := by show Calls _ _ _ _ _; rw [← he]; exact sIndex47 _ _
        rw [hdl] at hk
        have HC : Hid (Pa.nms (l.drop b) = (if k = 0 then [] else [(l.take (b + k)).drop b]) ++ Pa.nms (l.drop (b + k + 1))) := by
          show _ = _
          conv => lhs; rw [hcut]
          rw [Pa.nms_cut _ _ hno, List.drop_drop, List.drop_take, Nat.add_sub_cancel_left, show b + (k + 1) = b + k + 1 by omega]
          by_cases hk0 : k = 0
          · simp [hk0]
          · rw [if_neg hk0, if_neg]
            intro e; have := congrArg List.length e; rw [List.length_take, hdl] at this; simp at this; omega
        clear he hno hdl hcut
        by_cases hk0 : k = 0
        · subst hk0
          have HP2 : Hid (pre.map (·.2) ++ Pa.nms (l.drop (b + 1)) = Pa.nms l) := by
            have := HP.out
            rw [HC.out] at this
            show _ = _
            simpa using this
          clear HC
          gi_wp2_with (refine ⟨trivial, ?_⟩; gi_at_call 28; refine (callsIn_wide.2 HI.out).mono ?_; rintro e w1 ⟨rfl, hw1⟩; rw [hw1]; clear hw1 w1)
          refine ⟨fun _ h => (by cases h), ?_⟩
          gi_wp2
          exact ⟨⟨b + 1, pre, by go_num, by omega, HP2, HSr, HJr⟩, by simp [intOf]; omega⟩
        · have HP2 : Hid (pre.map (·.2) ++ ([(l.take (b + k)).drop b] ++ Pa.nms (l.drop (b + k + 1))) = Pa.nms l) := by
            have := HP.out
            rw [HC.out, if_neg hk0] at this
            exact this
          clear HC
          have hkp : 0 < k := by omega
          obtain ⟨fn, tmps, assign, body, hy, hR⟩ := HY.out pre ((b : Int) + (k : Int), (l.take (b + k)).drop b) wr HJr.out (by rw [← HP2.out]; simp)
          dsimp only [nmEnc] at hy
          gi_wp2_with (refine ⟨trivial, ?_⟩; gi_at_call 28; refine (callsIn_wide.2 HI.out).mono ?_; rintro e w1 ⟨rfl, hw1⟩; rw [hw1]; clear hw1 w1)
          refine hR.mono ?_
          rintro e W3 (⟨rfl, hJ3, hk3⟩ | ⟨rfl, hJx3⟩)
          · have HS3 : Hid (NmAt W3 Bn l) := hKp _ _ hk3 HSr.out
            have HJ3 : Hid (J (pre ++ [((b : Int) + (k : Int), (l.take (b + k)).drop b)]) W3) := hJ3
            clear hJ3 hk3
            gi_wp2
            refine ⟨⟨b + k + 1, _, by go_num, by omega, ?_, HS3, HJ3⟩, by simp [intOf]; omega⟩
            show _ = _
            rw [List.map_append, List.append_assoc]
            exact HP2.out
          · gi_wp2
            refine bodyPost_ret (results_none rfl _ _ _) rfl ?_
            refine ⟨⟨_, rfl⟩, .inr ⟨_, ?_, hJx3⟩⟩
            rw [List.map_append, ← HP2.out, ← List.append_assoc]
            exact List.prefix_append _ _
    · gi_wp2
      go_end0
      refine ⟨⟨_, rfl⟩, .inl ⟨pre, ?_, HJr.out⟩⟩
      have := HP.out
      rw [List.drop_of_length_le (by omega), Pa.nms_nil, List.append_nil] at this
      exact this
/-- The iterator's contract, as a loop wants it. -/
theorem names_stops (n : Nat) (hn : 1 ≤ n) (Bn : Nat) (l : List UInt8) (hl : l.length ≤ 2 ^ 40) (Kp : World → World → Prop) (hKp : ∀ W W', Kp W W' → NmAt W Bn l → NmAt W' Bn l) (w : World) (hS : NmAt w Bn l) :
    SeqStopsK Fence.wide n Tryd.prog 46 #[.pointer (some ⟨Bn, 0, none⟩)] nmEnc Kp (fun ys => ys.map (·.2) = Pa.nms l) (fun pre => pre.map (·.2) <+: Pa.nms l) (Pa.nms l).length w := fun lp J Jx W hW _ _ hY h0 =>
  names1 n hn lp Bn l hl Kp hKp J Jx hY W ((hW.cell (p := ⟨Bn, 0, none⟩) (World.block_lt_of_cell? w _ hS)).trans hS) h0
theorem names_any (l : List UInt8) (w : World) : Calls Tryd.prog 27 #[.string ⟨l.toArray⟩] w fun e w' => e = .returned (.func (.func 46) #[] #[.pointer (some ⟨w.heap.size, 0, none⟩)]) ∧ w' = w.alloc (.cells #[.string ⟨l.toArray⟩] 9) := by
  go_enter Tryd.func27, Tryd.ntmps27
  go_wp2
  go_ret
  exact ⟨rfl, rfl⟩
end Go.Proofs.YteggjpogaljafaaDoor
