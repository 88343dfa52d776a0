/- The walks of the program's isDigit, leadingNumber, letterFlags. Condition: a text that fits. -/
import Derived.Test.YtladflfdpfpbpaaDoorKa1
import Derived.Laws.Small
namespace Go.Proofs.YtladflfdpfpbpaaDoor
open Go.RowKit
attribute [local go_sem] ext_eq app_eq get_eq
namespace Ok
theorem cnt_drop : ∀ (k : Nat) (s : List UInt8), k ≤ cnt s → cnt s = k + cnt (s.drop k)
  | 0, s, _ => by simp
  | k + 1, [], h => by simp [cnt] at h
  | k + 1, c :: s, h => by
    by_cases hc : dg c = true
    · rw [show cnt (c :: s) = cnt s + 1 from if_pos hc] at h ⊢
      have := cnt_drop k s (by omega)
      rw [List.drop_succ_cons]; omega
    · rw [show cnt (c :: s) = 0 from if_neg hc] at h; omega
theorem cnt_yes {s : List UInt8} {k : Nat} (hk : k ≤ cnt s) (h : k < s.length) (hd : dg s[k] = true) : k + 1 ≤ cnt s := by
  rw [cnt_drop k s hk, List.drop_eq_getElem_cons h, show cnt (s[k] :: s.drop (k + 1)) = cnt (s.drop (k + 1)) + 1 from if_pos hd]; omega
theorem cnt_stop {s : List UInt8} {k : Nat} (hk : k ≤ cnt s) (h : k < s.length) (hd : dg s[k] = false) : cnt s = k := by
  rw [cnt_drop k s hk, List.drop_eq_getElem_cons h, show cnt (s[k] :: s.drop (k + 1)) = 0 from if_neg (by rw [hd]; simp)]; rfl
theorem cnt_end {s : List UInt8} {k : Nat} (hk : k ≤ cnt s) (h : ¬ k < s.length) : cnt s = k := by have := cnt_le s; omega
theorem vl_take {s : List UInt8} {k : Nat} (h : k < s.length) : vl (s.take (k + 1)) = vl (s.take k) * 10 + (s[k].toNat - 48) := by
  unfold vl
  rw [List.take_succ_eq_append_getElem h, List.foldl_append]; rfl
theorem dg_range {c : UInt8} (h : dg c = true) : 48 ≤ c.toNat ∧ c.toNat ≤ 57 := by
  simp only [dg, Bool.and_eq_true, decide_eq_true_eq] at h; exact h
theorem ten_pow {k : Nat} (h : k ≤ 9) : 10 ^ k ≤ 1000000000 := Nat.le_trans (Nat.pow_le_pow_right (by omega) h) (by decide)
end Ok
set_option maxHeartbeats 1000000 in
theorem kIsDigit (c : UInt8) (w : World) : Calls Tryd.prog 23 #[.int .u8 c.toNat] w fun e w' => e = .returned (.bool (Ok.dg c)) ∧ w' = w := by
  by_cases h1 : 48 ≤ c.toNat
  all_goals
    go_enter Tryd.func23, Tryd.ntmps23
    go_wp2
    go_ret
    exact ⟨ret_bool (by rw [Bool.eq_iff_iff]; simp only [Ok.dg, Bool.and_eq_true, decide_eq_true_eq, Bool.false_eq_true, false_iff]; omega), rfl⟩
set_option maxRecDepth 100000 in
set_option maxHeartbeats 2000000 in
theorem kLN (s : List UInt8) (hs : s.length ≤ 2 ^ 60) (w : World) : Calls Tryd.prog 15 #[.string ⟨s.toArray⟩] w fun e w' => e = .returned (.tuple #[.int .i64 (Ok.LN s).1, .string ⟨(Ok.LN s).2.1.toArray⟩, .bool (Ok.LN s).2.2]) ∧ Below w.heap.size w w' := by
  go_enter Tryd.func15, Tryd.ntmps15
  go_wp2
  go_loop [5, 6] (fun s5 s6 => ∃ k N : Nat, k ≤ s.length ∧ s6 = .int .i64 k ∧ s5 = .int .i64 N ∧ Hid (N = Ok.vl (s.take k)) ∧ Hid (k ≤ Ok.cnt s) ∧ k ≤ 9 ∧ Hid (N + 1 ≤ 10 ^ k)) (fun _ s6 => s.length - (intOf s6).toNat)
  case atStart => exact ⟨0, 0, Nat.zero_le _, rfl, rfl, hidA rfl, hidA (Nat.zero_le _), by omega, hidA (by decide)⟩
  case round =>
    obtain ⟨k, N, hk, rfl, rfl, HN, HC, h9, HP⟩ := hrel
    have hNb : N < 1000000000 := by have h1 := HP.out; have h2 := Ok.ten_pow h9; omega
    have hkI : (k : Int) ≤ (s.length : Int) := by omega
    by_cases hlt : k < s.length
    · have HD := hidA (kIsDigit s[k] w)
      cases hd : Ok.dg s[k] with
      | false =>
        rw [hd] at HD
        have HR : Hid (Ok.LN s = (N, s.drop k, decide (0 < k))) := by
          show _ = _
          unfold Ok.LN
          rw [Ok.cnt_stop HC.out hlt hd, if_pos h9, HN.out]
        clear HN HC HP
        go_wp2_with (first | (go_at_call 23; refine HD.out.mono ?_; rintro e w1 ⟨rfl, hw1⟩; rw [hw1]; clear hw1 w1) | (go_quiet (fail)))
        go_ret3
        exact ⟨by rw [HR.out]; first | rfl | simp, bl_drew w _⟩
      | true =>
        rw [hd] at HD
        have hc1 := Ok.cnt_yes HC.out hlt hd
        by_cases h99 : k = 9
        · have HR : Hid (Ok.LN s = (0, [], false)) := by
            show _ = _
            unfold Ok.LN
            rw [if_neg (by omega)]
          subst h99
          clear HN HC HP hc1
          go_wp2_with (first | (go_at_call 23; refine HD.out.mono ?_; rintro e w1 ⟨rfl, hw1⟩; rw [hw1]; clear hw1 w1) )
          go_ret3
          exact ⟨by rw [HR.out]; rfl, Below.refl _ _⟩
        · obtain ⟨r1, r2⟩ := Ok.dg_range hd
          obtain ⟨d, Hd⟩ : ∃ d : Nat, Hid (d = s[k].toNat - 48) := ⟨_, hidA rfl⟩
          obtain ⟨M, HM⟩ : ∃ M : Nat, Hid (M = N * 10 + d) := ⟨_, hidA rfl⟩
          have hw8 : ((s[k].toNat : Int) - 48) % 256 = (d : Int) := by have := Hd.out; omega
          have hd9 : d ≤ 9 := by have := Hd.out; omega
          have hwd : IntKind.i64.wrap (d : Int) = (d : Int) := by rw [IntKind.wrap_i64]; omega
          have hwm : IntKind.i64.wrap ((N : Int) * 10) = (N : Int) * 10 := by rw [IntKind.wrap_i64]; omega
          have hwa : IntKind.i64.wrap ((N : Int) * 10 + (d : Int)) = (M : Int) := by have := HM.out; rw [IntKind.wrap_i64]; omega
          have hw1 : IntKind.i64.wrap ((k : Int) + 1) = ((k + 1 : Nat) : Int) := by rw [IntKind.wrap_i64]; omega
          have h9e : ((k : Int) == 9) = false := by rw [beq_eq_false_iff_ne]; omega
          have HN2 : Hid (M = Ok.vl (s.take (k + 1))) := by
            show _ = _
            rw [Ok.vl_take hlt, ← HN.out, HM.out, Hd.out]
          have HP2 : Hid (M + 1 ≤ 10 ^ (k + 1)) := by
            show _ ≤ _
            have h1 := HP.out
            rw [HM.out, Nat.pow_succ]; omega
          have HC2 := hidA hc1
          have h92 : k + 1 ≤ 9 := by omega
          clear HN HC HP hc1 h99
          go_wp2_with (first | (go_at_call 23; refine HD.out.mono ?_; rintro e w1 ⟨rfl, hw1⟩; rw [hw1]; clear hw1 w1))
          exact ⟨⟨k + 1, M, hlt, by first | rfl | go_num, by first | rfl | (congr 1; have h1 := HM.out; have h2 := Hd.out; omega), HN2, HC2, h92, HP2⟩, by simp [intOf]; omega⟩
    · have HR : Hid (Ok.LN s = (N, s.drop k, decide (0 < k))) := by
        show _ = _
        unfold Ok.LN
        rw [Ok.cnt_end HC.out hlt, if_pos h9, HN.out]
      clear HN HC HP
      go_wp2_with (go_quiet (fail))
      go_ret3
      exact ⟨by rw [HR.out]; first | rfl | simp, bl_drew w _⟩
end Go.Proofs.YtladflfdpfpbpaaDoor
