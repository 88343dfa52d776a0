/- Several texts of this claim, one behind the other, in their order. -/
import Derived.Test.YtpcbpikhiooafaaGreatDoorM11
import Derived.Lib.LastIndexByte
import Derived.RangeFuncNested
import Derived.RangeFuncBound
import Derived.RangeFuncCalls
import Derived.RangeFuncLeaves
import Derived.RangeFuncFrom
import Derived.RangeFuncBox
import Derived.Shelf.Abstract
import Derived.Shelf.RegionOpen
import Derived.OwnWalkIn
import Derived.TacticsInMore
import Derived.LoopNIn
import Derived.LoopIn
/- The walks of the program's absolute, Base, Dir, String. Conditions: lengths that fit. -/
namespace Go.Proofs.YtpcbpikhiooafaaGreatDoor
open Go.RowKit
attribute [local go_sem] ext_eq app_eq get_eq toL_eq
theorem absB_prefix (l : List UInt8) : Lib.hasPrefix l [47] = Pa.absB l := by
  cases l with
  | nil => rfl
  | cons c r => rw [Bool.eq_iff_iff]; simp [Lib.hasPrefix, Pa.absB]; exact ⟨Eq.symm, Eq.symm⟩
set_option maxHeartbeats 400000 in
theorem pAbs (l : List UInt8) (w : World) : Calls Tryz.prog 111 #[.string ⟨l.toArray⟩] w fun e w' => e = .returned (.bool (Pa.absB l)) ∧ w' = w := by
  have HP : Hid (Calls Tryz.prog 132 #[.string ⟨l.toArray⟩, .string ⟨#[47]⟩] w fun e w' => e = .returned (.bool (Lib.hasPrefix l [47])) ∧ w' = w) := Tryz.strings_HasPrefix ⟨l.toArray⟩ ⟨#[47]⟩ w
  rw [absB_prefix] at HP
  go_enter Tryz.func111, Tryz.ntmps111
  go_wp2_with fail
  refine HP.out.mono ?_
  rintro e w1 ⟨rfl, rfl⟩
  go_wp2
  go_ret
  exact ⟨rfl, rfl⟩
theorem lastL_spec_aux (n : Nat) : ∀ l : List UInt8, l.length = n → (lastL l = 0 ∧ ∀ j (h : j < l.length), l[j] ≠ 47) ∨ (∃ i, ∃ h : i < l.length, lastL l = i + 1 ∧ l[i] = 47 ∧ ∀ j (hj : j < l.length), i < j → l[j] ≠ 47) := by
  induction n with
  | zero => intro l hn; have : l = [] := List.length_eq_zero_iff.1 hn; subst this; exact .inl ⟨rfl, fun j h => absurd h (Nat.not_lt_zero _)⟩
  | succ n ih =>
    intro l hn
    have hn0 : l ≠ [] := fun e => by rw [e] at hn; simp at hn
    obtain ⟨m, c, hl⟩ : ∃ m c, l = m ++ [c] := ⟨l.dropLast, l.getLast hn0, (List.dropLast_concat_getLast hn0).symm⟩
    subst hl
    have hm : m.length = n := by simpa using hn
    rw [lastL_snoc]
    by_cases hc : c = 47
    · rw [if_pos hc]
      refine .inr ⟨m.length, by omega, rfl, by simp [hc], fun j hj h => ?_⟩
      omega
    · rw [if_neg hc]
      rcases ih m hm with ⟨h0, hall⟩ | ⟨i, hi, h0, hi47, hall⟩
      · refine .inl ⟨h0, fun j h => ?_⟩
        by_cases hj : j < m.length
        · rw [List.getElem_append_left hj]; exact hall j (by omega)
        · have : j = m.length := by omega
          subst this; simpa using hc
      · refine .inr ⟨i, by omega, h0, by rw [List.getElem_append_left (by omega)]; exact hi47, fun j h hij => ?_⟩
        by_cases hj : j < m.length
        · rw [List.getElem_append_left hj]; exact hall j (by omega) hij
        · have : j = m.length := by omega
          subst this; simpa using hc
theorem lastL_spec (l : List UInt8) : (lastL l = 0 ∧ ∀ j (h : j < l.length), l[j] ≠ 47) ∨ (∃ i, ∃ h : i < l.length, lastL l = i + 1 ∧ l[i] = 47 ∧ ∀ j (hj : j < l.length), i < j → l[j] ≠ 47) := lastL_spec_aux _ l rfl
theorem lastIndex_eq (l : List UInt8) : Lib.lastIndexByte ⟨l.toArray⟩ 47 = (lastL l : Int) - 1 := by
  have hg : ∀ j (h : j < l.length), ((⟨l.toArray⟩ : ByteArray).data[j]!) = l[j] := by intro j h; simp [h]
  have h47 : ∀ j (h : j < l.length), (((l[j]).toNat : Int) = 47 ↔ l[j] = 47) := by
    intro j h
    have := byte_slash l[j]
    constructor
    · intro e; rw [beq_iff_eq.2 e] at this; simpa using this.symm
    · intro e; rw [e]; rfl
  unfold Lib.lastIndexByte
  rw [str_size]
  rcases Lib.lastIdx_spec ⟨l.toArray⟩ 47 l.length with ⟨e, hall⟩ | ⟨i, hi, e, h1, hall⟩
  · rcases lastL_spec l with ⟨h0, _⟩ | ⟨k, hk, h0, hk47, _⟩
    · rw [e, h0]; rfl
    · exact absurd ((h47 k hk).2 hk47) (by rw [← hg k hk]; exact hall k hk)
  · rw [hg i hi, h47 i hi] at h1
    rcases lastL_spec l with ⟨_, hno⟩ | ⟨k, hk, h0, hk47, hafter⟩
    · exact absurd h1 (hno i hi)
    · have : i = k := by
        rcases Nat.lt_trichotomy i k with h | h | h
        · exact absurd ((h47 k hk).2 hk47) (by rw [← hg k hk]; exact hall k h hk)
        · exact h
        · exact absurd h1 (hafter i hi h)
      rw [e, h0, this]; omega
theorem base_eq (u suf : List UInt8) : (if suf.length < u.length ∧ u.drop (u.length - suf.length) = suf then u.take (u.length - suf.length) else u) = if u = suf then u else Lib.trimSuffix u suf := by
  by_cases h : u = suf
  · subst h; simp
  · rw [if_neg h, Lib.trimSuffix, Lib.hasSuffix]
    by_cases hs : suf <:+ u
    · have h1 : suf.isSuffixOf u = true := List.isSuffixOf_iff_suffix.2 hs
      obtain ⟨p, rfl⟩ := hs
      have hp : p ≠ [] := fun e => h (by simp [e])
      have := List.length_pos_iff.2 hp
      rw [if_pos (by refine ⟨by simp; omega, by simp⟩), if_pos h1]
    · have h1 : ¬ suf.isSuffixOf u = true := fun e => hs (List.isSuffixOf_iff_suffix.1 e)
      rw [if_neg h1, if_neg]
      rintro ⟨_, e⟩
      exact hs ⟨u.take (u.length - suf.length), by conv => lhs; rhs; rw [← e]
                                                   exact List.take_append_drop _ _⟩
/-- What lies ahead of the last slash, bare: the slash itself makes no difference. -/
theorem dir_cut (t : List UInt8) (h : lastL t ≠ 0) : Lib.trimRightB (t.take (lastL t)) 47 = Lib.trimRightB (t.take (lastL t - 1)) 47 := by
  rcases lastL_spec t with ⟨h0, _⟩ | ⟨i, hi, h0, hi47, _⟩
  · exact absurd h0 h
  · rw [h0, Nat.add_sub_cancel, take_get t i hi, hi47, trim_snoc]
end Go.Proofs.YtpcbpikhiooafaaGreatDoor
/- The walks of the program's String and of its iterator over names. Conditions: lengths that fit; the list's cells are as said. -/
namespace Go.Proofs.YtpcbpikhiooafaaGreatDoor
open Go.RowKit Go.Shelf
attribute [local go_sem] ext_eq app_eq get_eq toL_eq
attribute [local go_sem] Oper.semAt_some
end Go.Proofs.YtpcbpikhiooafaaGreatDoor
/- The program's iterator over names, for every loop that keeps the text it reads. Condition: the text's cell is as said; a length that fits. -/
namespace Go.Proofs.YtpcbpikhiooafaaGreatDoor
open Go.RowKit Go.Shelf
attribute [local go_sem] ext_eq app_eq get_eq toL_eq
attribute [local go_sem] Oper.semAt_some
abbrev NmX := Int × List UInt8
def nmEnc (x : NmX) : Array Value := #[.int .i64 x.1, .string ⟨x.2.toArray⟩]
def NmAt (W : World) (Bn : Nat) (l : List UInt8) : Prop := W.cell? ⟨Bn, 0, none⟩ = some (.string ⟨l.toArray⟩)
theorem sIndexB (l : List UInt8) (c : UInt8) (w : World) : Calls Tryz.prog 110 #[.string ⟨l.toArray⟩, .int .u8 c.toNat] w fun e w' => e = .returned (.int .i64 (Lib.indexByte l c)) ∧ w' = w := by
  have h := Tryz.strings_IndexByte ⟨l.toArray⟩ c.toNat w
  rw [show ((c.toNat : Int).toNat.toUInt8) = c by simp] at h
  exact h
theorem sIndex47 (l : List UInt8) (w : World) : Calls Tryz.prog 110 #[.string ⟨l.toArray⟩, .int .u8 47] w fun e w' => e = .returned (.int .i64 (Lib.indexByte l 47)) ∧ w' = w := sIndexB l 47 w
set_option maxRecDepth 100000 in
set_option maxHeartbeats 4000000 in
theorem names1 (n : Nat) (hn : 1 ≤ n) (lp Bn : Nat) (l : List UInt8) (hl : l.length ≤ 2 ^ 40) (Kp : World → World → Prop) (hKp : ∀ W W', Kp W W' → NmAt W Bn l → NmAt W' Bn l) (J Jx : List NmX → World → Prop)
    (hY : ∀ pre x W, J pre W → pre.length < (Pa.nms l).length → YieldAt Fence.wide (n - 1) Tryz.prog lp (nmEnc x) W fun e W' =>
      (e = .returned (.bool true) ∧ J (pre ++ [x]) W' ∧ Kp W W') ∨ (e = .returned (.bool false) ∧ Jx (pre ++ [x]) W'))
    (W : World) (hS : NmAt W Bn l) (h0 : J [] W) :
    CallsIn Fence.wide n Tryz.prog 130 #[.func (.yield lp) #[] #[], .pointer (some ⟨Bn, 0, none⟩)] W fun e W' => (∃ v, e = .returned v) ∧
      ((∃ ys : List NmX, ys.map (·.2) = Pa.nms l ∧ J ys W') ∨ (∃ pre : List NmX, pre.map (·.2) <+: Pa.nms l ∧ Jx pre W')) := by
  refine callsIn_of_wp Tryz.func130 rfl trivial ?_ rfl
  simp only [Tryz.ntmps130, List.size_toArray, List.length_cons, List.length_nil, Nat.reduceAdd, Nat.reduceSub, Array.replicate_succ, Array.replicate_zero, List.push_toArray, List.append_toArray, List.nil_append, List.cons_append]
  have HS : Hid (NmAt W Bn l) := hS
  have HJ0 : Hid (J [] W) := h0
  have HY : Hid (∀ pre x W, J pre W → pre.length < (Pa.nms l).length → YieldAt Fence.wide (n - 1) Tryz.prog lp (nmEnc x) W fun e W' =>
      (e = .returned (.bool true) ∧ J (pre ++ [x]) W' ∧ Kp W W') ∨ (e = .returned (.bool false) ∧ Jx (pre ++ [x]) W')) := hY
  clear hS h0 hY
  gi_wp2
  gi_loopw [3] (fun x wx => ∃ (b : Nat) (pre : List NmX), x = .int .i64 b ∧ b ≤ l.length + 1 ∧ Hid (pre.map (·.2) ++ Pa.nms (l.drop b) = Pa.nms l) ∧ Hid (NmAt wx Bn l) ∧ Hid (J pre wx)) (fun x _ => l.length + 1 - (intOf x).toNat)
  case atStart => exact ⟨0, [], rfl, Nat.zero_le _, rfl, HS, HJ0⟩
  case round =>
    obtain ⟨b, pre, rfl, hb, HP, HSr, HJr⟩ := hrel
    have hc : wr.cell? ⟨Bn, 0, none⟩ = some (.string ⟨l.toArray⟩) := HSr.out
    by_cases hlt : b < l.length
    · have hdl : (l.drop b).length = l.length - b := List.length_drop
      rcases Pa.indexByte_cut 47 (l.drop b) with ⟨he, hno⟩ | ⟨k, he, hk, hno, hcut⟩
      · -- the last name
        have HE : Hid (Lib.indexByte (l.drop b) 47 = -1) := he
        have hne : ¬ l.drop b = [] := fun e => by rw [e] at hdl; simp at hdl; omega
        have HP2 : Hid (pre.map (·.2) ++ [l.drop b] = Pa.nms l) := by
          have := HP.out
          rw [Pa.nms_plain _ hno, if_neg hne] at this
          exact this
        clear he hno hdl
        obtain ⟨fn, tmps, assign, body, hy, hR⟩ := HY.out pre ((l.length : Int), l.drop b) wr HJr.out (by rw [← HP2.out]; simp)
        dsimp only [nmEnc] at hy
        have HI : Hid (Calls Tryz.prog 110 #[.string ⟨(l.drop b).toArray⟩, .int .u8 47] wr fun e w' => e = .returned (.int .i64 (-1)) ∧ w' = wr) := by show Calls _ _ _ _ _; rw [← HE.out]; exact sIndex47 _ _
        clear HE hne
        gi_wp2_with (refine ⟨trivial, ?_⟩; gi_at_call 110; refine (callsIn_wide.2 HI.out).mono ?_; rintro e w1 ⟨rfl, hw1⟩; rw [hw1]; clear hw1 w1)
        refine hR.mono ?_
        rintro e W3 (⟨rfl, hJ3, hk3⟩ | ⟨rfl, hJx3⟩)
        · have HS3 : Hid (NmAt W3 Bn l) := hKp _ _ hk3 HSr.out
          have HJ3 : Hid (J (pre ++ [((l.length : Int), l.drop b)]) W3) := hJ3
          clear hJ3 hk3
          gi_wp2
          refine ⟨⟨l.length + 1, _, by go_num, Nat.le_refl _, ?_, HS3, HJ3⟩, by simp [intOf]; omega⟩
          show _ = _
          rw [show l.drop (l.length + 1) = [] from List.drop_of_length_le (by omega), Pa.nms_nil, List.append_nil, List.map_append]
          exact HP2.out
        · gi_wp2
          refine bodyPost_ret (results_none rfl _ _ _) rfl ?_
          refine ⟨⟨_, rfl⟩, .inr ⟨_, ?_, hJx3⟩⟩
          rw [List.map_append, ← HP2.out]
          exact List.prefix_refl _
      · have HI : Hid (Calls Tryz.prog 110 #[.string ⟨(l.drop b).toArray⟩, .int .u8 47] wr fun e w' => e = .returned (.int .i64 (k : Int)) ∧ w' = wr) := by show Calls _ _ _ _ _; rw [← he]; exact sIndex47 _ _
        rw [hdl] at hk
        have HC : Hid (Pa.nms (l.drop b) = (if k = 0 then [] else [(l.take (b + k)).drop b]) ++ Pa.nms (l.drop (b + k + 1))) := by
          show _ = _
          conv => lhs; rw [hcut]
          rw [Pa.nms_cut _ _ hno, List.drop_drop, List.drop_take, Nat.add_sub_cancel_left, show b + (k + 1) = b + k + 1 by omega]
          by_cases hk0 : k = 0
          · simp [hk0]
          · rw [if_neg hk0, if_neg]
            intro e; have := congrArg List.length e; rw [List.length_take, hdl] at this; simp at this; omega
        clear he hno hdl hcut
        by_cases hk0 : k = 0
        · subst hk0
          have HP2 : Hid (pre.map (·.2) ++ Pa.nms (l.drop (b + 1)) = Pa.nms l) := by
            have := HP.out
            rw [HC.out] at this
            show _ = _
            simpa using this
          clear HC
          gi_wp2_with (refine ⟨trivial, ?_⟩; gi_at_call 110; refine (callsIn_wide.2 HI.out).mono ?_; rintro e w1 ⟨rfl, hw1⟩; rw [hw1]; clear hw1 w1)
          refine ⟨fun _ h => (by cases h), ?_⟩
          gi_wp2
          exact ⟨⟨b + 1, pre, by go_num, by omega, HP2, HSr, HJr⟩, by simp [intOf]; omega⟩
        · have HP2 : Hid (pre.map (·.2) ++ ([(l.take (b + k)).drop b] ++ Pa.nms (l.drop (b + k + 1))) = Pa.nms l) := by
            have := HP.out
            rw [HC.out, if_neg hk0] at this
            exact this
          clear HC
          have hkp : 0 < k := by omega
          obtain ⟨fn, tmps, assign, body, hy, hR⟩ := HY.out pre ((b : Int) + (k : Int), (l.take (b + k)).drop b) wr HJr.out (by rw [← HP2.out]; simp)
          dsimp only [nmEnc] at hy
          gi_wp2_with (refine ⟨trivial, ?_⟩; gi_at_call 110; refine (callsIn_wide.2 HI.out).mono ?_; rintro e w1 ⟨rfl, hw1⟩; rw [hw1]; clear hw1 w1)
          refine hR.mono ?_
          rintro e W3 (⟨rfl, hJ3, hk3⟩ | ⟨rfl, hJx3⟩)
          · have HS3 : Hid (NmAt W3 Bn l) := hKp _ _ hk3 HSr.out
            have HJ3 : Hid (J (pre ++ [((b : Int) + (k : Int), (l.take (b + k)).drop b)]) W3) := hJ3
            clear hJ3 hk3
            gi_wp2
            refine ⟨⟨b + k + 1, _, by go_num, by omega, ?_, HS3, HJ3⟩, by simp [intOf]; omega⟩
            show _ = _
            rw [List.map_append, List.append_assoc]
            exact HP2.out
          · gi_wp2
            refine bodyPost_ret (results_none rfl _ _ _) rfl ?_
            refine ⟨⟨_, rfl⟩, .inr ⟨_, ?_, hJx3⟩⟩
            rw [List.map_append, ← HP2.out, ← List.append_assoc]
            exact List.prefix_append _ _
    · gi_wp2
      go_end0
      refine ⟨⟨_, rfl⟩, .inl ⟨pre, ?_, HJr.out⟩⟩
      have := HP.out
      rw [List.drop_of_length_le (by omega), Pa.nms_nil, List.append_nil] at this
      exact this
/-- The iterator's contract, as a loop wants it. -/
theorem names_stops (n : Nat) (hn : 1 ≤ n) (Bn : Nat) (l : List UInt8) (hl : l.length ≤ 2 ^ 40) (Kp : World → World → Prop) (hKp : ∀ W W', Kp W W' → NmAt W Bn l → NmAt W' Bn l) (w : World) (hS : NmAt w Bn l) :
    SeqStopsK Fence.wide n Tryz.prog 130 #[.pointer (some ⟨Bn, 0, none⟩)] nmEnc Kp (fun ys => ys.map (·.2) = Pa.nms l) (fun pre => pre.map (·.2) <+: Pa.nms l) (Pa.nms l).length w := fun lp J Jx W hW _ _ hY h0 =>
  names1 n hn lp Bn l hl Kp hKp J Jx hY W ((hW.cell (p := ⟨Bn, 0, none⟩) (World.block_lt_of_cell? w _ hS)).trans hS) h0
theorem names_any (l : List UInt8) (w : World) : Calls Tryz.prog 109 #[.string ⟨l.toArray⟩] w fun e w' => e = .returned (.func (.func 130) #[] #[.pointer (some ⟨w.heap.size, 0, none⟩)]) ∧ w' = w.alloc (.cells #[.string ⟨l.toArray⟩] 9) := by
  go_enter Tryz.func109, Tryz.ntmps109
  go_wp2
  go_ret
  exact ⟨rfl, rfl⟩
end Go.Proofs.YtpcbpikhiooafaaGreatDoor
/- The walk of the program's left. Condition: a length that fits. -/
namespace Go.Proofs.YtpcbpikhiooafaaGreatDoor
open Go.RowKit Go.Shelf
attribute [local go_sem] ext_eq app_eq get_eq toL_eq
attribute [local go_sem] Oper.semAt_some
/-- What a round keeps: all that lay when the loop began, but for one box. -/
def KpB (n₁ L : Nat) (W W' : World) : Prop := ∀ x : Addr, x.block < n₁ → x.block ≠ L → W'.cell? x = W.cell? x
theorem KpB.nm {n₁ L Bn : Nat} {l : List UInt8} (h1 : Bn < n₁) (h2 : Bn ≠ L) : ∀ W W', KpB n₁ L W W' → NmAt W Bn l → NmAt W' Bn l := fun _ _ hk h => (hk ⟨Bn, 0, none⟩ h1 h2).trans h
theorem own_mono {w : World} {base base' : Nat} {e : TypeId} {size : Nat} {v : Value} {n : Nat} {xs : List Value} (h : w.ownsRow base e size v n xs) (hb : base' ≤ base) : w.ownsRow base' e size v n xs := by
  refine ⟨h.1, ?_⟩
  rcases h.2 with h | ⟨g, cap, cur, h1, h2, h3⟩
  · exact .inl h
  · exact .inr ⟨g, cap, cur, h1, Nat.le_trans hb h2, h3⟩
theorem boxed_app {W w1 : World} {n₀ n₁ B : Nat} {t e : TypeId} {v v' : Value} {k m : Nat} {xs ys : List Value} {tmp : Obj}
    (hv : Boxed W B t v) (hB : B < n₁) (hn : n₁ ≤ W.heap.size) (h0 : n₀ ≤ B) (hrow : W.ownsRow n₁ e 1 v k xs) (hown' : w1.ownsRow n₁ e 1 v' m ys) (hgrow : (W.alloc tmp).grownBy w1 v.ownBlock) :
    Boxed w1 B t v ∧ Boxed (w1.setCell ⟨B, 0, none⟩ v') B t v' ∧ (w1.setCell ⟨B, 0, none⟩ v').ownsRow n₁ e 1 v' m ys ∧ KeepsOthers W (w1.setCell ⟨B, 0, none⟩ v') ∧ KpB n₁ B W (w1.setCell ⟨B, 0, none⟩ v') ∧ Below n₀ W (w1.setCell ⟨B, 0, none⟩ v') := by
  have hne : some B ≠ v.ownBlock := fun e' => by have := (hrow.lt B e'.symm).1; omega
  have hne' : some B ≠ v'.ownBlock := fun e' => by have := (hown'.lt B e'.symm).1; omega
  have hv1 : Boxed w1 B t v := (hv.alloc tmp).kept hgrow hne
  refine ⟨hv1, hv1.set v', hown'.kept (grownBy_setCell' w1 B v') (.inr hne'.symm), ?_, ?_, ?_⟩
  · refine ((KeepsOthers.alloc W tmp).trans (KeepsOthers.of_grownBy hgrow fun j o ej hj => ?_)).trans (KeepsOthers.setCell _ _ _)
    rcases (hrow.alloc tmp).2 with ⟨rfl, _⟩ | ⟨g, cap, cur, rfl, _, hgb, _⟩
    · simp [Value.ownBlock] at ej
    · obtain rfl : g = j := by simpa [Value.ownBlock] using ej
      rw [hgb] at hj; cases hj; rfl
  · intro x hx hxB
    rw [World.cell?_of_block (Below.heap_setCell _ _ _ x.block hxB)]
    have h1 : (W.alloc tmp).cell? x = W.cell? x := World.cell?_of_block (Below.heap_alloc W tmp x.block (by omega))
    rw [← h1]
    exact World.cell?_of_block (hgrow.block x.block (by simp; omega) (fun e' => by have := (hrow.lt x.block e'.symm).1; omega))
  · refine (((Below.refl n₀ W).alloc (by omega) tmp).grown hgrow (by simp; omega) fun j ej => ?_).setCell (p := ⟨B, 0, none⟩) h0 v'
    have := (hrow.lt j ej).1; omega
end Go.Proofs.YtpcbpikhiooafaaGreatDoor
