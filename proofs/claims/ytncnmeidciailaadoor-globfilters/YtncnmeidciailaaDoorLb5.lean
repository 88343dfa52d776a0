/- The walks of the program's isOctal, escaped and letter of a set. Conditions: a text that fits; the reader's text lies in memory. -/
import Derived.Test.YtncnmeidciailaaDoorLb4
namespace Go.Proofs.YtncnmeidciailaaDoor
open Go.RowKit
attribute [local go_sem] ext_eq app_eq get_eq
theorem gIsOctal (c : UInt8) (w : World) : Calls Tryd.prog 98 #[.int .u8 c.toNat] w fun e w' => e = .returned (.bool (Gl.oc c)) ∧ w' = w := by
  by_cases h1 : 48 ≤ c.toNat
  all_goals
    go_enter Tryd.func98, Tryd.ntmps98
    go_wp2
    go_ret
    exact ⟨ret_bool (by rw [Bool.eq_iff_iff]; simp only [Gl.oc, Bool.and_eq_true, decide_eq_true_eq, Bool.false_eq_true, false_iff]; omega), rfl⟩
set_option maxHeartbeats 1000000 in
theorem gEscaped (c : UInt8) (w : World) : Calls Tryd.prog 99 #[.int .u8 c.toNat] w fun e w' => e = .returned (.int .u8 (Gl.escd c).toNat) ∧ w' = w := by
  by_cases h0 : c = 97
  · subst h0
    go_enter Tryd.func99, Tryd.ntmps99
    go_wp2
    go_ret
    exact ⟨rfl, rfl⟩
  by_cases h1 : c = 98
  · subst h1
    go_enter Tryd.func99, Tryd.ntmps99
    go_wp2
    go_ret
    exact ⟨rfl, rfl⟩
  by_cases h2 : c = 116
  · subst h2
    go_enter Tryd.func99, Tryd.ntmps99
    go_wp2
    go_ret
    exact ⟨rfl, rfl⟩
  by_cases h3 : c = 110
  · subst h3
    go_enter Tryd.func99, Tryd.ntmps99
    go_wp2
    go_ret
    exact ⟨rfl, rfl⟩
  by_cases h4 : c = 118
  · subst h4
    go_enter Tryd.func99, Tryd.ntmps99
    go_wp2
    go_ret
    exact ⟨rfl, rfl⟩
  by_cases h5 : c = 102
  · subst h5
    go_enter Tryd.func99, Tryd.ntmps99
    go_wp2
    go_ret
    exact ⟨rfl, rfl⟩
  by_cases h6 : c = 114
  · subst h6
    go_enter Tryd.func99, Tryd.ntmps99
    go_wp2
    go_ret
    exact ⟨rfl, rfl⟩
  have HE : Hid (Gl.escd c = c) := by show _ = _; unfold Gl.escd; simp [h0, h1, h2, h3, h4, h5, h6]
  have k0 := byte_no c 97 97 rfl h0
  have k1 := byte_no c 98 98 rfl h1
  have k2 := byte_no c 116 116 rfl h2
  have k3 := byte_no c 110 110 rfl h3
  have k4 := byte_no c 118 118 rfl h4
  have k5 := byte_no c 102 102 rfl h5
  have k6 := byte_no c 114 114 rfl h6
  clear h0 h1 h2 h3 h4 h5 h6
  go_enter Tryd.func99, Tryd.ntmps99
  go_wp2
  go_ret
  exact ⟨by rw [HE.out]; rfl, rfl⟩
namespace Gl
theorem esc_plain {l : List UInt8} {k : Nat} (h : k < l.length) (h2 : l[k] ≠ 92 ∨ ¬ k + 1 < l.length) : esc (l.drop k) = (l[k], 1) := by
  rw [List.drop_eq_getElem_cons h]
  by_cases h3 : k + 1 < l.length
  · rw [List.drop_eq_getElem_cons h3]
    show (if l[k] ≠ 92 then (l[k], 1) else _) = _
    rw [if_pos (h2.resolve_right (fun h => h h3))]
  · rw [List.drop_eq_nil_of_le (by omega)]; rfl
theorem esc_one {l : List UInt8} {k : Nat} (h : k + 1 < l.length) (h2 : l[k] = 92) (h3 : oc l[k + 1] = false) : esc (l.drop k) = (escd l[k + 1], 2) := by
  rw [List.drop_eq_getElem_cons (by omega), List.drop_eq_getElem_cons h]
  show (if l[k] ≠ 92 then (l[k], 1) else if oc l[k + 1] then _ else (escd l[k + 1], 2)) = _
  rw [if_neg (fun e => e h2), if_neg (by simp [h3])]
theorem esc_oct {l : List UInt8} {k : Nat} (h : k + 1 < l.length) (h2 : l[k] = 92) (h3 : oc l[k + 1] = true) : esc (l.drop k) = (UInt8.ofNat ((ogo 3 0 (l.drop (k + 1))).1 % 256), (ogo 3 0 (l.drop (k + 1))).2 + 1) := by
  rw [List.drop_eq_getElem_cons (by omega), List.drop_eq_getElem_cons h]
  show (if l[k] ≠ 92 then (l[k], 1) else if oc l[k + 1] then _ else _) = _
  rw [if_neg (fun e => e h2), if_pos h3]
theorem ogo_yes {l : List UInt8} {k m n : Nat} (h : k < l.length) (hc : oc l[k] = true) : ogo (m + 1) n (l.drop k) = ((ogo m (n * 8 + (l[k].toNat - 48)) (l.drop (k + 1))).1, (ogo m (n * 8 + (l[k].toNat - 48)) (l.drop (k + 1))).2 + 1) := by
  rw [List.drop_eq_getElem_cons h]
  show (if oc l[k] then _ else _) = _
  rw [if_pos hc]
theorem ogo_no {l : List UInt8} {k m n : Nat} (h : m = 0 ∨ l.length ≤ k ∨ ∃ h : k < l.length, oc l[k] = false) : ogo m n (l.drop k) = (n, 0) := by
  cases m with
  | zero => rfl
  | succ m =>
    rcases h with h | h | ⟨h1, h2⟩
    · cases h
    · rw [List.drop_eq_nil_of_le h]; rfl
    · rw [List.drop_eq_getElem_cons h1]
      show (if oc l[k] then _ else (n, 0)) = _
      rw [if_neg (by simp [h2])]
end Gl
theorem vint {k : IntKind} {a b : Int} (h : a = b) : Value.int k a = Value.int k b := by rw [h]
theorem ret_ui {a a' b b' : Int} (h : a = a') (h2 : b = b') : Ending.returned (.tuple #[.int .u8 a, .int .i64 b]) = .returned (.tuple #[.int .u8 a', .int .i64 b']) := by rw [h, h2]
set_option maxRecDepth 100000 in
set_option maxHeartbeats 2000000 in
theorem gSLetter (rb : Nat) (l : List UInt8) (k : Nat) (hk : k < l.length) (hl : l.length ≤ 2 ^ 40) (w : World) (h0 : w.cell? ⟨rb, 0, none⟩ = some (.string ⟨l.toArray⟩)) : Calls Tryd.prog 82 #[.pointer (some ⟨rb, 0, none⟩), .int .i64 k] w fun e w' => e = .returned (.tuple #[.int .u8 (Gl.esc (l.drop k)).1.toNat, .int .i64 ((k + (Gl.esc (l.drop k)).2 : Nat) : Int)]) ∧ ∃ m, w' = w.drewN m := by
  have hs : (⟨l.toArray⟩ : ByteArray).size = l.length := str_size l
  have hw1 : IntKind.i64.wrap ((k : Int) + 1) = ((k + 1 : Nat) : Int) := by rw [IntKind.wrap_i64]; omega
  have hw2 : IntKind.i64.wrap (((k + 1 : Nat) : Int) + 1) = ((k + 2 : Nat) : Int) := by rw [IntKind.wrap_i64]; omega
  have hw3 : IntKind.i64.wrap (((k + 1 : Nat) : Int) + 3) = ((k + 4 : Nat) : Int) := by rw [IntKind.wrap_i64]; omega
  have HO := hidA (fun c W => gIsOctal c W)
  have HX := hidA (fun c W => gEscaped c W)
  by_cases hc : l[k] = 92
  · have hc' := byte_yes _ 92 92 rfl hc
    have hc'' : (((l[k].toNat : Int)) != 92) = false := by simp [bne, hc']
    by_cases hk1 : k + 1 < l.length
    · have hk2 : (((k + 1 : Nat) : Int) == (l.length : Int)) = false := by simp; omega
      cases ho : Gl.oc l[k + 1] with
      | false =>
        have HE := hidA (Gl.esc_one hk1 hc ho)
        have HO1 := hidA (fun W => HO.out l[k + 1] W)
        rw [ho] at HO1
        clear hc ho HO
        go_enter Tryd.func82, Tryd.ntmps82
        go_wp2_with (first | (go_at_call 98; refine (HO1.out _).mono ?_; rintro e w1 ⟨rfl, hw'⟩; rw [hw']; clear hw' w1) | (go_at_call 99; refine (HX.out _ _).mono ?_; rintro e w1 ⟨rfl, hw'⟩; rw [hw']; clear hw' w1))
        go_ret2
        exact ⟨by rw [HE.out]; rfl, 0, rfl⟩
      | true =>
        have HE := hidA (Gl.esc_oct hk1 hc ho)
        have HO1 := hidA (fun W => HO.out l[k + 1] W)
        rw [ho] at HO1
        have hmn : ∃ E : Nat, (min ((k : Int) + 1 + 3) (l.length : Int)) = (E : Int) ∧ E ≤ k + 4 ∧ E ≤ l.length ∧ (E = k + 4 ∨ E = l.length) := ⟨min (k + 4) l.length, by omega, by omega, by omega, by omega⟩
        obtain ⟨E, hE, hE1, hE2, hE3⟩ := hmn
        have HE3 := hidA hE3
        clear hc ho hE3
        go_enter Tryd.func82, Tryd.ntmps82
        go_wp2_with (first | (go_at_call 98; refine (HO1.out _).mono ?_; rintro e w1 ⟨rfl, hw'⟩; rw [hw']; clear hw' w1) | go_quiet (fail))
        go_loop [1, 6] (fun s1 s6 => ∃ (j n : Nat), s1 = .int .i64 ((k + 1 + j : Nat) : Int) ∧ s6 = .int .i64 n ∧ j ≤ 3 ∧ k + 1 + j ≤ E ∧ (j = 0 → n = 0) ∧ (j ≤ 1 → n < 8) ∧ (j ≤ 2 → n < 64) ∧ n < 512 ∧ Hid (Gl.ogo 3 0 (l.drop (k + 1)) = ((Gl.ogo (3 - j) n (l.drop (k + 1 + j))).1, (Gl.ogo (3 - j) n (l.drop (k + 1 + j))).2 + j))) (fun s1 _ => E - (intOf s1).toNat)
        case atStart => exact ⟨0, 0, rfl, rfl, by omega, by have := HE3.out; omega, fun _ => rfl, fun _ => by omega, fun _ => by omega, by omega, rfl⟩
        case round =>
          obtain ⟨j, n, rfl, rfl, hj, hjE, hn0, hn1, hn2, hn3, HG⟩ := hrel
          obtain ⟨P, hP⟩ : ∃ P, k + 1 + j = P := ⟨_, rfl⟩
          simp only [hP] at HG hjE ⊢
          have HP := hidA hP
          clear hP HO1 HX
          have hwP : IntKind.i64.wrap ((P : Int) + 1) = ((P + 1 : Nat) : Int) := by rw [IntKind.wrap_i64]; omega
          by_cases hlt : P < E
          · have hPl : P < l.length := by omega
            have HO2 := hidA (fun W => HO.out l[P] W)
            cases ho2 : Gl.oc l[P] with
            | true =>
              rw [ho2] at HO2
              have hoc := ho2
              simp only [Gl.oc, Bool.and_eq_true, decide_eq_true_eq] at hoc
              have hj3 : j < 3 := by have := HP.out; have := HE3.out; omega
              have HG2 : Hid (Gl.ogo 3 0 (l.drop (k + 1)) = ((Gl.ogo (3 - (j + 1)) (n * 8 + (l[P].toNat - 48)) (l.drop (P + 1))).1, (Gl.ogo (3 - (j + 1)) (n * 8 + (l[P].toNat - 48)) (l.drop (P + 1))).2 + (j + 1))) := by
                show _ = _
                rw [HG.out, show 3 - j = (3 - (j + 1)) + 1 by omega, Gl.ogo_yes hPl ho2]
                simp only [Prod.mk.injEq, true_and]
                omega
              have hsb : IntKind.u8.wrap ((l[P].toNat : Int) - 48) = ((l[P].toNat - 48 : Nat) : Int) := by rw [IntKind.wrap_u8]; omega
              have hw8 : IntKind.i64.wrap ((n : Int) * 8) = ((n * 8 : Nat) : Int) := by rw [IntKind.wrap_i64]; omega
              have hw9 : IntKind.i64.wrap (((n * 8 : Nat) : Int) + ((l[P].toNat - 48 : Nat) : Int)) = ((n * 8 + (l[P].toNat - 48) : Nat) : Int) := by rw [IntKind.wrap_i64]; omega
              clear ho2 HG HO
              go_wp2_with (go_at_call 98; refine (HO2.out _).mono ?_; rintro e w1 ⟨rfl, hw'⟩; rw [hw']; clear hw' w1)
              exact ⟨⟨j + 1, n * 8 + (l[P].toNat - 48), vint (by have := HP.out; omega), vint (by omega), by omega, by have := HP.out; omega, fun h => by omega, fun h => by omega, fun h => by omega, by omega, hidA (by rw [show k + 1 + (j + 1) = P + 1 by have := HP.out; omega]; exact HG2.out)⟩, by simp [intOf]; omega⟩
            | false =>
              rw [ho2] at HO2
              have HE4 : Hid (Gl.esc (l.drop k) = (UInt8.ofNat (n % 256), j + 1)) := by
                show _ = _
                rw [HE.out, HG.out, Gl.ogo_no (.inr (.inr ⟨hPl, ho2⟩))]; simp
              clear ho2 HG HO HE
              go_wp2_with (go_at_call 98; refine (HO2.out _).mono ?_; rintro e w1 ⟨rfl, hw'⟩; rw [hw']; clear hw' w1)
              go_ret2
              exact ⟨ret_ui (by rw [HE4.out]; simp) (by rw [HE4.out]; have := HP.out; simp; omega), nq, rfl⟩
          · have HE4 : Hid (Gl.esc (l.drop k) = (UInt8.ofNat (n % 256), j + 1)) := by
              show _ = _
              have := HP.out
              have := HE3.out
              rw [HE.out, HG.out, Gl.ogo_no (by omega)]; simp
            clear HG HO HE
            go_wp2
            go_ret2
            exact ⟨ret_ui (by rw [HE4.out]; simp) (by rw [HE4.out]; have := HP.out; simp; omega), nq, rfl⟩
    · have HE := hidA (Gl.esc_plain hk (.inr hk1))
      have hk2 : (((k + 1 : Nat) : Int) == (l.length : Int)) = true := by simp; omega
      clear hc HO HX
      go_enter Tryd.func82, Tryd.ntmps82
      go_wp2
      go_ret2
      exact ⟨by rw [HE.out]; rfl, 0, rfl⟩
  · have hc' := byte_no _ 92 92 rfl hc
    have hc'' : (((l[k].toNat : Int)) != 92) = true := by simp [bne, hc']
    have HE := hidA (Gl.esc_plain hk (.inl hc))
    clear hc HO HX
    go_enter Tryd.func82, Tryd.ntmps82
    go_wp2
    go_ret2
    exact ⟨by rw [HE.out]; rfl, 0, rfl⟩
end Go.Proofs.YtncnmeidciailaaDoor
