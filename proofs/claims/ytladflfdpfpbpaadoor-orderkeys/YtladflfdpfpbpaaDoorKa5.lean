/- The walks of the plain answer's digit, digits, half. Condition: a text that fits. -/
import Derived.Test.YtladflfdpfpbpaaDoorKa2
namespace Go.Proofs.YtladflfdpfpbpaaDoor
open Go.RowKit
attribute [local go_sem] ext_eq app_eq get_eq
namespace Ok
theorem lc_drop : ∀ (k : Nat) (s : List UInt8), k ≤ lc s → lc s = k + lc (s.drop k)
  | 0, s, _ => by simp
  | k + 1, [], h => by simp [lc] at h
  | k + 1, c :: s, h => by
    by_cases hc : lt c = true
    · rw [show lc (c :: s) = lc s + 1 from if_pos hc] at h ⊢
      have := lc_drop k s (by omega)
      rw [List.drop_succ_cons]; omega
    · rw [show lc (c :: s) = 0 from if_neg hc] at h; omega
/-- A letter of the rest. -/
theorem lc_yes {s : List UInt8} {k k0 : Nat} (h0 : k0 ≤ k) (hk : k - k0 ≤ lc (s.drop k0)) (h : k < s.length) (hd : lt s[k] = true) : k + 1 - k0 ≤ lc (s.drop k0) := by
  rw [lc_drop (k - k0) _ hk, List.drop_drop, show k0 + (k - k0) = k by omega, List.drop_eq_getElem_cons h, show lc (s[k] :: s.drop (k + 1)) = lc (s.drop (k + 1)) + 1 from if_pos hd]; omega
theorem lc_stop {s : List UInt8} {k k0 : Nat} (h0 : k0 ≤ k) (hk : k - k0 ≤ lc (s.drop k0)) (h : k < s.length) (hd : lt s[k] = false) : k0 + lc (s.drop k0) = k := by
  rw [lc_drop (k - k0) _ hk, List.drop_drop, show k0 + (k - k0) = k by omega, List.drop_eq_getElem_cons h, show lc (s[k] :: s.drop (k + 1)) = 0 from if_neg (by rw [hd]; simp)]; omega
theorem lc_end {s : List UInt8} {k k0 : Nat} (h0 : k0 ≤ k) (hk : k - k0 ≤ lc (s.drop k0)) (h1 : k ≤ s.length) (h : ¬ k < s.length) : k0 + lc (s.drop k0) = k := by
  have := lc_le (s.drop k0)
  rw [List.length_drop] at this; omega
theorem fl_step {s : List UInt8} {k k0 : Nat} (h0 : k0 ≤ k) (h : k < s.length) : fl ((s.drop k0).take (k + 1 - k0)) = orI (fl ((s.drop k0).take (k - k0))) (lf s[k]) := by
  have hlt : k - k0 < (s.drop k0).length := by rw [List.length_drop]; omega
  unfold fl
  rw [show k + 1 - k0 = k - k0 + 1 by omega, List.take_succ_eq_append_getElem hlt, List.foldl_append, List.getElem_drop]
  simp only [show k0 + (k - k0) = k by omega]; rfl
end Ok
set_option maxHeartbeats 1000000 in
theorem rDigit (c : UInt8) (w : World) : Calls Tryd.prog 25 #[.int .u8 c.toNat] w fun e w' => e = .returned (.bool (Ok.dg c)) ∧ w' = w := by
  by_cases h1 : 48 ≤ c.toNat
  all_goals
    go_enter Tryd.func25, Tryd.ntmps25
    go_wp2
    go_ret
    exact ⟨ret_bool (by rw [Bool.eq_iff_iff]; simp only [Ok.dg, Bool.and_eq_true, decide_eq_true_eq, Bool.false_eq_true, false_iff]; omega), rfl⟩
set_option maxRecDepth 100000 in
set_option maxHeartbeats 2000000 in
theorem rDG (s : List UInt8) (hs : s.length ≤ 2 ^ 60) (w : World) : Calls Tryd.prog 18 #[.string ⟨s.toArray⟩] w fun e w' => e = .returned (.tuple #[.int .i64 (Ok.DG s).1, .int .i64 (Ok.DG s).2]) ∧ Below w.heap.size w w' := by
  go_enter Tryd.func18, Tryd.ntmps18
  go_wp2
  go_loop [4, 5] (fun s4_ s7_ => ∃ k N : Nat, k ≤ s.length ∧ s7_ = .int .i64 k ∧ s4_ = .int .i64 N ∧ Hid (N = Ok.vl (s.take k)) ∧ Hid (k ≤ Ok.cnt s) ∧ k ≤ 9 ∧ Hid (N + 1 ≤ 10 ^ k)) (fun _ s7_ => s.length - (intOf s7_).toNat)
  case atStart => exact ⟨0, 0, Nat.zero_le _, rfl, rfl, hidA rfl, hidA (Nat.zero_le _), by omega, hidA (by decide)⟩
  case round =>
    obtain ⟨k, N, hk, rfl, rfl, HN, HC, h9, HP⟩ := hrel
    have hNb : N < 1000000000 := by have h1 := HP.out; have h2 := Ok.ten_pow h9; omega
    have hkI : (k : Int) ≤ (s.length : Int) := by omega
    by_cases hlt : k < s.length
    · have HD := hidA (rDigit s[k] w)
      cases hd : Ok.dg s[k] with
      | false =>
        rw [hd] at HD
        have HR : Hid (Ok.DG s = (N, k)) := by
          show _ = _
          unfold Ok.DG
          rw [Ok.cnt_stop HC.out hlt hd, if_pos h9, HN.out]
        clear HN HC HP
        go_wp2_with (first | (go_at_call 25; refine HD.out.mono ?_; rintro e w1 ⟨rfl, hw1⟩; rw [hw1]; clear hw1 w1))
        go_ret2
        exact ⟨by rw [HR.out]; first | rfl | simp, Below.refl _ _⟩
      | true =>
        rw [hd] at HD
        have hc1 := Ok.cnt_yes HC.out hlt hd
        by_cases h99 : k = 9
        · have HR : Hid (Ok.DG s = (0, 0)) := by
            show _ = _
            unfold Ok.DG
            rw [if_neg (by omega)]
          subst h99
          clear HN HC HP hc1
          go_wp2_with (first | (go_at_call 25; refine HD.out.mono ?_; rintro e w1 ⟨rfl, hw1⟩; rw [hw1]; clear hw1 w1) )
          go_ret2
          exact ⟨by rw [HR.out]; rfl, Below.refl _ _⟩
        · obtain ⟨r1, r2⟩ := Ok.dg_range hd
          obtain ⟨d, Hd⟩ : ∃ d : Nat, Hid (d = s[k].toNat - 48) := ⟨_, hidA rfl⟩
          obtain ⟨M, HM⟩ : ∃ M : Nat, Hid (M = N * 10 + d) := ⟨_, hidA rfl⟩
          have hw8 : ((s[k].toNat : Int) - 48) % 256 = (d : Int) := by have := Hd.out; omega
          have hd9 : d ≤ 9 := by have := Hd.out; omega
          have hwd : IntKind.i64.wrap (d : Int) = (d : Int) := by rw [IntKind.wrap_i64]; omega
          have hwm : IntKind.i64.wrap ((N : Int) * 10) = (N : Int) * 10 := by rw [IntKind.wrap_i64]; omega
          have hwa : IntKind.i64.wrap ((N : Int) * 10 + (d : Int)) = (M : Int) := by have := HM.out; rw [IntKind.wrap_i64]; omega
          have hw1 : IntKind.i64.wrap ((k : Int) + 1) = ((k + 1 : Nat) : Int) := by rw [IntKind.wrap_i64]; omega
          have h9e : ((k : Int) == 9) = false := by rw [beq_eq_false_iff_ne]; omega
          have HN2 : Hid (M = Ok.vl (s.take (k + 1))) := by
            show _ = _
            rw [Ok.vl_take hlt, ← HN.out, HM.out, Hd.out]
          have HP2 : Hid (M + 1 ≤ 10 ^ (k + 1)) := by
            show _ ≤ _
            have h1 := HP.out
            rw [HM.out, Nat.pow_succ]; omega
          have HC2 := hidA hc1
          have h92 : k + 1 ≤ 9 := by omega
          clear HN HC HP hc1 h99
          go_wp2_with (first | (go_at_call 25; refine HD.out.mono ?_; rintro e w1 ⟨rfl, hw1⟩; rw [hw1]; clear hw1 w1))
          exact ⟨⟨k + 1, M, hlt, by first | rfl | go_num, by first | rfl | (congr 1; have h1 := HM.out; have h2 := Hd.out; omega), HN2, HC2, h92, HP2⟩, by simp [intOf]; omega⟩
    · have HR : Hid (Ok.DG s = (N, k)) := by
        show _ = _
        unfold Ok.DG
        rw [Ok.cnt_end HC.out hlt, if_pos h9, HN.out]
      clear HN HC HP
      go_wp2
      go_ret2
      exact ⟨by rw [HR.out]; first | rfl | simp, Below.refl _ _⟩
end Go.Proofs.YtladflfdpfpbpaaDoor
