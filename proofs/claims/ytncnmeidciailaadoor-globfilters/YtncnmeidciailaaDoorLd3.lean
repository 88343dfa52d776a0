/- The walk of the program's finished. Condition: a set that lies in memory. -/
import Derived.Test.YtncnmeidciailaaDoorLb4
namespace Go.Proofs.YtncnmeidciailaaDoor
open Go.RowKit
attribute [local go_sem] ext_eq app_eq get_eq
namespace Gl
/-- Cases folded, as far as the j-th letter. -/
def fupTo (g : UInt8 → Bool) (j : Nat) (x : UInt8) : Bool := if (decide (97 ≤ x.toNat) && decide (x.toNat < 97 + j)) || (decide (65 ≤ x.toNat) && decide (x.toNat < 65 + j)) then g x || g (other x) else g x
theorem fupTo_zero (g : UInt8 → Bool) (x : UInt8) : fupTo g 0 x = g x := by
  unfold fupTo
  rw [if_neg]
  simp only [Bool.or_eq_true, Bool.and_eq_true, decide_eq_true_eq]
  omega
theorem other_lo {x : UInt8} (h : 97 ≤ x.toNat) (h2 : x.toNat ≤ 122) : (other x).toNat = x.toNat - 32 := by
  unfold other lo
  rw [if_pos (by simp [h, h2]), UInt8.toNat_sub_of_le _ _ (by rw [UInt8.le_iff_toNat_le]; show 32 ≤ _; omega)]
  rfl
theorem other_up {x : UInt8} (h : 65 ≤ x.toNat) (h2 : x.toNat ≤ 90) : (other x).toNat = x.toNat + 32 := by
  unfold other lo up
  rw [if_neg (by simp; omega), if_pos (by simp [h, h2]), UInt8.toNat_add]
  show (x.toNat + 32) % 256 = _
  omega
theorem other_no {x : UInt8} (h : ¬ (97 ≤ x.toNat ∧ x.toNat ≤ 122)) (h2 : ¬ (65 ≤ x.toNat ∧ x.toNat ≤ 90)) : other x = x := by
  unfold other lo up
  rw [if_neg (by simp; omega), if_neg (by simp; omega)]
theorem fupTo_end (g : UInt8 → Bool) (x : UInt8) : fupTo g 26 x = (g x || g (other x)) := by
  unfold fupTo
  split
  · rfl
  · rename_i h
    simp only [Bool.or_eq_true, Bool.and_eq_true, decide_eq_true_eq, not_or, not_and] at h
    rw [other_no (by omega) (by omega), Bool.or_self]
theorem fupTo_step (g : UInt8 → Bool) (j : Nat) (hj : j < 26) (x : UInt8) : fupTo g (j + 1) x = updB (updB (fupTo g j) (UInt8.ofNat (97 + j)) (g (UInt8.ofNat (97 + j)) || g (UInt8.ofNat (65 + j)))) (UInt8.ofNat (65 + j)) (g (UInt8.ofNat (97 + j)) || g (UInt8.ofNat (65 + j))) x := by
  have e1 := ofN (k := 97 + j) (by omega)
  have e2 := ofN (k := 65 + j) (by omega)
  unfold updB
  by_cases h2 : x = UInt8.ofNat (65 + j)
  · rw [if_pos h2]
    have hx : x.toNat = 65 + j := by rw [h2, e2]
    have ho : other x = UInt8.ofNat (97 + j) := by
      rw [← UInt8.toNat_inj, other_up (by omega) (by omega), e1]; omega
    unfold fupTo
    rw [if_pos (by simp; omega), ho, h2, Bool.or_comm]
  · have hx2 : x.toNat ≠ 65 + j := fun h => h2 (by rw [← UInt8.toNat_inj, e2]; exact h)
    rw [if_neg h2]
    by_cases h1 : x = UInt8.ofNat (97 + j)
    · rw [if_pos h1]
      have hx : x.toNat = 97 + j := by rw [h1, e1]
      have ho : other x = UInt8.ofNat (65 + j) := by
        rw [← UInt8.toNat_inj, other_lo (by omega) (by omega), e2]; omega
      unfold fupTo
      rw [if_pos (by simp; omega), ho, h1]
    · have hx1 : x.toNat ≠ 97 + j := fun h => h1 (by rw [← UInt8.toNat_inj, e1]; exact h)
      rw [if_neg h1]
      unfold fupTo
      have e : (decide (97 ≤ x.toNat) && decide (x.toNat < 97 + (j + 1)) || decide (65 ≤ x.toNat) && decide (x.toNat < 65 + (j + 1))) = (decide (97 ≤ x.toNat) && decide (x.toNat < 97 + j) || decide (65 ≤ x.toNat) && decide (x.toNat < 65 + j)) := by
        rw [Bool.eq_iff_iff]; simp only [Bool.or_eq_true, Bool.and_eq_true, decide_eq_true_eq]; omega
      rw [e]
theorem fupTo_at97 (g : UInt8 → Bool) (j : Nat) (hj : j < 26) : fupTo g j (UInt8.ofNat (97 + j)) = g (UInt8.ofNat (97 + j)) := by
  have e1 := ofN (k := 97 + j) (by omega)
  unfold fupTo
  rw [e1, if_neg]
  simp only [Bool.or_eq_true, Bool.and_eq_true, decide_eq_true_eq]
  omega
theorem fupTo_at65 (g : UInt8 → Bool) (j : Nat) (hj : j < 26) : fupTo g j (UInt8.ofNat (65 + j)) = g (UInt8.ofNat (65 + j)) := by
  have e1 := ofN (k := 65 + j) (by omega)
  unfold fupTo
  rw [e1, if_neg]
  simp only [Bool.or_eq_true, Bool.and_eq_true, decide_eq_true_eq]
  omega
/-- Turned round, as far as k. -/
def tupTo (g : UInt8 → Bool) (o : Bool) (k : Nat) (x : UInt8) : Bool := if x.toNat < k then g x != o else g x
theorem tupTo_step (g : UInt8 → Bool) (o : Bool) (k : Nat) (hk : k < 256) (x : UInt8) : tupTo g o (k + 1) x = updB (tupTo g o k) (UInt8.ofNat k) (g (UInt8.ofNat k) != o) x := by
  unfold updB
  by_cases h : x = UInt8.ofNat k
  · have hx : x.toNat = k := (ofN_eq hk x).1 h
    rw [if_pos h]; unfold tupTo; rw [if_pos (by omega), h]
  · have hx : x.toNat ≠ k := fun e => h ((ofN_eq hk x).2 e)
    rw [if_neg h]; unfold tupTo
    by_cases h2 : x.toNat < k
    · rw [if_pos (by omega), if_pos h2]
    · rw [if_neg (by omega), if_neg h2]
theorem tupTo_at (g : UInt8 → Bool) (o : Bool) (k : Nat) (hk : k < 256) : tupTo g o k (UInt8.ofNat k) = g (UInt8.ofNat k) := by
  unfold tupTo; rw [ofN hk, if_neg (Nat.lt_irrefl _)]
theorem tupTo_end (g : UInt8 → Bool) (o : Bool) (x : UInt8) : tupTo g o 256 x = (g x != o) := by unfold tupTo; rw [if_pos x.toNat_lt]
theorem updB_comm (g : UInt8 → Bool) (a b : UInt8) (v : Bool) (x : UInt8) : updB (updB g a v) b v x = updB (updB g b v) a v x := by
  unfold updB
  by_cases h1 : x = a <;> by_cases h2 : x = b <;> simp [h1, h2]
end Gl
theorem vint2 {k : IntKind} {a b : Int} (h : a = b) : Value.int k a = Value.int k b := by rw [h]
set_option maxRecDepth 100000 in
set_option maxHeartbeats 2000000 in
theorem gFinished (b : Nat) (others : Bool) (fl : Int) (g : UInt8 → Bool) (w : World) (h : SetT w b g) : Calls Tryd.prog 55 #[.pointer (some ⟨b, 0, none⟩), .bool others, .int .i64 fl] w fun e w' => e = .returned (.pointer (some ⟨b, 0, none⟩)) ∧ SetT w' b (Gl.fin (Gl.flOf fl) others g) ∧ Md (fun k => k = b) w w' := by
  have HS := hidA h
  have HM := hidA (Md.refl (fun k => k = b) w)
  clear h
  cases hf : (bits .and .i64 fl 8 != 0) with
  | false =>
    have hf' : bits .and .i64 fl 8 = 0 := by simpa using hf
    have HE : Hid (∀ x, Gl.fin (Gl.flOf fl) others g x = (g x != others)) := fun x => by
      unfold Gl.fin
      rw [show (Gl.flOf fl).fold = (bits .and .i64 fl 8 != 0) from rfl, hf]; rfl
    generalize Gl.fin (Gl.flOf fl) others g = gf at *
    clear hf
    go_enter Tryd.func55, Tryd.ntmps55
    go_wp2
    go_loopw [43] (fun s43 W => ∃ (k : Nat), s43 = .int .i64 k ∧ k ≤ 256 ∧ Hid (SetT W b (Gl.tupTo g others k)) ∧ Hid (Md (fun k => k = b) w W)) (fun s43 _ => 256 - (intOf s43).toNat)
    case atStart => exact ⟨0, rfl, Nat.zero_le _, HS.out.congr (fun x => by unfold Gl.tupTo; rw [if_neg (Nat.not_lt_zero _)]), HM⟩
    case round =>
      obtain ⟨k, rfl, hk, HK, HMk⟩ := hrel
      clear HS HM
      by_cases hlt : k < 256
      · have hc := HK.out.cellN k hlt
        rw [Gl.tupTo_at g others k hlt] at hc
        have hfz := HK.out.frozen k
        have HK2 := hidA (fun v => HK.out.setN k hlt v)
        have HM2 := hidA (fun v => HMk.out.setCell ⟨b, k, none⟩ (.bool v) (.inl rfl))
        have HT := hidA (Gl.tupTo_step g others k hlt)
        generalize g (UInt8.ofNat k) = gk at *
        cases gk <;> cases others
        all_goals
          go_wp2_with (go_region_with (fail))
          all_goals exact ⟨⟨k + 1, by first | rfl | go_num, hlt, (HK2.out _).congr HT.out, (HM2.out _).drewN 1⟩, by simp [intOf]; omega⟩
      · obtain rfl : k = 256 := by omega
        go_wp2
        go_ret
        exact ⟨rfl, HK.out.congr (fun x => by rw [HE.out, Gl.tupTo_end]), HMk.out⟩
  | true =>
    have hf' : ¬ bits .and .i64 fl 8 = 0 := by simpa using hf
    have HE0 : Hid (∀ x, Gl.fin (Gl.flOf fl) others g x = ((g x || g (Gl.other x)) != others)) := fun x => by
      unfold Gl.fin
      rw [show (Gl.flOf fl).fold = (bits .and .i64 fl 8 != 0) from rfl, hf]; rfl
    generalize Gl.fin (Gl.flOf fl) others g = gf at *
    go_enter Tryd.func55, Tryd.ntmps55
    go_wp2
    go_loopw [7] (fun s7 W => ∃ (j : Nat), s7 = .int .i32 ((97 + j : Nat) : Int) ∧ j ≤ 26 ∧ Hid (SetT W b (Gl.fupTo g j)) ∧ Hid (Md (fun k => k = b) w W)) (fun s7 _ => 123 - (intOf s7).toNat)
    case atStart => exact ⟨0, rfl, Nat.zero_le _, HS.out.congr (fun x => Gl.fupTo_zero g x), HM⟩
    case round =>
      obtain ⟨j, rfl, hj, HK, HMk⟩ := hrel
      clear HS HM
      by_cases hlt : j < 26
      · have hc1 := HK.out.cellN (97 + j) (by omega)
        have hc2 := HK.out.cellN (65 + j) (by omega)
        rw [Gl.fupTo_at97 g j hlt] at hc1
        rw [Gl.fupTo_at65 g j hlt] at hc2
        have hf1 := HK.out.frozen (97 + j)
        have hf2 := HK.out.frozen (65 + j)
        have HKa := hidA (fun v => (HK.out.setN (97 + j) (by omega) v).setN (65 + j) (by omega) v)
        have HKb := hidA (fun v => ((HK.out.setN (65 + j) (by omega) v).setN (97 + j) (by omega) v).congr (fun x => Gl.updB_comm (Gl.fupTo g j) (UInt8.ofNat (97 + j)) (UInt8.ofNat (65 + j)) v x))
        have HMa := hidA (fun v => (HMk.out.setCell ⟨b, 97 + j, none⟩ (.bool v) (.inl rfl)).setCell ⟨b, 65 + j, none⟩ (.bool v) (.inl rfl))
        have HMb := hidA (fun v => (HMk.out.setCell ⟨b, 65 + j, none⟩ (.bool v) (.inl rfl)).setCell ⟨b, 97 + j, none⟩ (.bool v) (.inl rfl))
        have HT := hidA (Gl.fupTo_step g j hlt)
        have HW := hidA (fun P Q (hP : 97 + j = P) (hQ : 65 + j = Q) => (show P = Q + 32 by omega))
        obtain ⟨P, hP⟩ : ∃ P, 97 + j = P := ⟨_, rfl⟩
        obtain ⟨Q, hQ⟩ : ∃ Q, 65 + j = Q := ⟨_, rfl⟩
        have hPb : 97 ≤ P ∧ P ≤ 122 := by omega
        have hQb : 65 ≤ Q ∧ Q ≤ 90 := by omega
        have hPQ : (P : Int) - 97 + 65 = (Q : Int) := by omega
        have hPn : P ≠ Q := by omega
        have HJ : Hid (P + 1 = 97 + (j + 1)) := by show _ = _; omega
        simp only [hP, hQ] at hc1 hc2 hf1 hf2 HKa HKb HMa HMb HT ⊢
        generalize g (UInt8.ofNat P) = ga at *
        generalize g (UInt8.ofNat Q) = gb at *
        clear hP hQ HW HMk HK
        cases ga <;> cases gb
        all_goals
          go_wp2_with (go_region_with (fail))
          all_goals first
            | exact ⟨⟨j + 1, by first | exact vint2 (by have := HJ.out; omega) | rfl, hlt, (HKa.out _).congr HT.out, (HMa.out _).drewN 1⟩, by simp [intOf]; omega⟩
            | exact ⟨⟨j + 1, by first | exact vint2 (by have := HJ.out; omega) | rfl, hlt, (HKb.out _).congr HT.out, (HMb.out _).drewN 1⟩, by simp [intOf]; omega⟩
      · obtain rfl : j = 26 := by omega
        obtain ⟨g2, hg2⟩ : ∃ g2 : UInt8 → Bool, g2 = fun x => g x || g (Gl.other x) := ⟨_, rfl⟩
        have HS2 : Hid (SetT wr b g2) := HK.out.congr (fun x => by rw [hg2, Gl.fupTo_end])
        have HM2 := HMk
        have HE : Hid (∀ x, gf x = (g2 x != others)) := fun x => by rw [HE0.out, hg2]
        clear hg2 HE0 HK HMk
        simp only [show ((97 + 26 : Nat) : Int) = (123 : Int) from rfl]
        go_wp2
        go_loopw [43] (fun s43 W => ∃ (k : Nat), s43 = .int .i64 k ∧ k ≤ 256 ∧ Hid (SetT W b (Gl.tupTo g2 others k)) ∧ Hid (Md (fun k => k = b) w W)) (fun s43 _ => 256 - (intOf s43).toNat)
        case atStart => exact ⟨0, rfl, Nat.zero_le _, HS2.out.congr (fun x => by unfold Gl.tupTo; rw [if_neg (Nat.not_lt_zero _)]), HM2⟩
        case round =>
          obtain ⟨k, rfl, hk, HK, HMk⟩ := hrel
          clear HS2 HM2
          by_cases hlt : k < 256
          · have hc := HK.out.cellN k hlt
            rw [Gl.tupTo_at g2 others k hlt] at hc
            have hfz := HK.out.frozen k
            have HK2 := hidA (fun v => HK.out.setN k hlt v)
            have HM9 := hidA (fun v => HMk.out.setCell ⟨b, k, none⟩ (.bool v) (.inl rfl))
            have HT := hidA (Gl.tupTo_step g2 others k hlt)
            generalize g2 (UInt8.ofNat k) = gk at *
            cases gk <;> cases others
            all_goals
              go_wp2_with (go_region_with (fail))
              all_goals exact ⟨⟨k + 1, by first | rfl | go_num, hlt, (HK2.out _).congr HT.out, (HM9.out _).drewN 1⟩, by simp [intOf]; omega⟩
          · obtain rfl : k = 256 := by omega
            go_wp2
            go_ret
            exact ⟨rfl, HK.out.congr (fun x => by rw [HE.out, Gl.tupTo_end]), HMk.out⟩
end Go.Proofs.YtncnmeidciailaaDoor
