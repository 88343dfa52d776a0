/- The walks of the plain answers one, takes, Spec. Conditions: lengths that fit. -/
import Derived.Test.YtgbkgfmljcfhoaaGa1
import Derived.Lib.SlBytesConst
namespace Go.Proofs.Ytgbkgfmljcfhoaa
open Go.RowKit
attribute [local go_sem] ext_eq app_eq get_eq
theorem tks_drop (l : List UInt8) (b : UInt8) (k : Nat) (h : k < l.length) : Ga.tks (l.drop k) b = if l[k] = b ∧ b ≠ 58 then some (decide (l[k + 1]? = some 58)) else Ga.tks (l.drop (k + 1)) b := by
  rw [List.drop_eq_getElem_cons h, Ga.tks]
  simp [List.head?_drop]
def knownB : Option Bool → Bool
  | none => false
  | some _ => true
def withB : Option Bool → Bool
  | some true => true
  | _ => false
set_option maxRecDepth 100000 in
set_option maxHeartbeats 1000000 in
theorem rTakes (l : List UInt8) (b : UInt8) (w : World) (hs : l.length ≤ 2 ^ 47) : Calls Try.prog 30 #[.string ⟨l.toArray⟩, .int .u8 b.toNat] w fun e w' => e = .returned (.tuple #[.bool (knownB (Ga.tks (Ga.bare l) b)), .bool (withB (Ga.tks (Ga.bare l) b))]) ∧ ∃ m, w' = w.drewN m := by
  have HB : Hid (Calls Try.prog 35 #[.string ⟨l.toArray⟩] w fun e w' => e = .returned (.string ⟨(Ga.bare l).toArray⟩) ∧ w' = w) := rBare l w hs
  have hbl : (Ga.bare l).length ≤ 2 ^ 47 := by unfold Ga.bare; split <;> simp <;> omega
  generalize Ga.bare l = t at *
  go_enter Try.func30, Try.ntmps30
  go_wp2_with fail
  refine HB.out.mono ?_
  rintro e w1 ⟨rfl, rfl⟩
  go_wp2
  go_loop [6] (fun i => ∃ k : Nat, k ≤ t.length ∧ i = .int .i64 k ∧ Hid (Ga.tks (t.drop k) b = Ga.tks t b)) (fun i => t.length - (intOf i).toNat)
  case atStart => exact ⟨0, Nat.zero_le _, rfl, rfl⟩
  case round =>
    obtain ⟨k, hk, rfl, HR⟩ := hrel
    by_cases hlt : k < t.length
    · have HT : Hid (Ga.tks (t.drop k) b = if t[k] = b ∧ b ≠ 58 then some (decide (t[k + 1]? = some 58)) else Ga.tks (t.drop (k + 1)) b) := tks_drop t b k hlt
      by_cases hc : t[k] = b
      · have hc' : ((t[k].toNat : Int) == b.toNat) = true := by rw [byte_eq]; simpa using hc
        by_cases hb : b = 58
        · have hb' : ((b.toNat : Int) == 58) = true := by rw [byte58]; simpa using hb
          have HN : Hid (Ga.tks (t.drop (k + 1)) b = Ga.tks t b) := by show _ = _; rw [← HR.out, HT.out, if_neg (by simp [hb])]
          clear hc hb
          go_wp2
          exact ⟨⟨k + 1, by omega, by go_num, HN⟩, by simp [intOf]; omega⟩
        · have hb' : ((b.toNat : Int) == 58) = false := by rw [byte58]; simpa using hb
          have HN : Hid (Ga.tks t b = some (decide (t[k + 1]? = some 58))) := by show _ = _; rw [← HR.out, HT.out, if_pos ⟨hc, hb⟩]
          clear hc hb
          obtain ⟨j, hj⟩ : ∃ j, j = k + 1 := ⟨_, rfl⟩
          have hwr : IntKind.i64.wrap ((k : Int) + 1) = (j : Int) := by rw [IntKind.wrap_i64]; omega
          rw [← hj] at HN
          clear hj HT HR
          by_cases h1 : j < t.length
          · have hd : decide ((j : Int) < (t.length : Int)) = true := by simp; omega
            by_cases h2 : t[j] = 58
            · have h2' : ((t[j].toNat : Int) == 58) = true := by rw [byte58]; simpa using h2
              have HH : Hid (t[j]? = some 58) := by show _ = _; rw [List.getElem?_eq_getElem h1, h2]
              clear h2
              go_wp2_with (go_quiet (fail))
              go_ret2
              exact ⟨by rw [HN.out, HH.out]; rfl, _, rfl⟩
            · have h2' : ((t[j].toNat : Int) == 58) = false := by rw [byte58]; simpa using h2
              have HH : Hid (¬ t[j]? = some 58) := by show ¬ _; rw [List.getElem?_eq_getElem h1]; simpa using h2
              clear h2
              go_wp2_with (go_quiet (fail))
              go_ret2
              exact ⟨by rw [HN.out, decide_eq_false HH.out]; rfl, _, rfl⟩
          · have hd : decide ((j : Int) < (t.length : Int)) = false := by simp; omega
            have HH : Hid (¬ t[j]? = some 58) := by show ¬ _; rw [List.getElem?_eq_none (by omega)]; simp
            go_wp2_with (go_quiet (fail))
            go_ret2
            exact ⟨by rw [HN.out, decide_eq_false HH.out]; rfl, _, rfl⟩
      · have hc' : ((t[k].toNat : Int) == b.toNat) = false := by rw [byte_eq]; simpa using hc
        have HN : Hid (Ga.tks (t.drop (k + 1)) b = Ga.tks t b) := by show _ = _; rw [← HR.out, HT.out, if_neg (by simp [hc])]
        clear hc
        go_wp2
        exact ⟨⟨k + 1, by omega, by go_num, HN⟩, by simp [intOf]; omega⟩
    · have HN : Hid (Ga.tks t b = none) := by show _ = _; rw [← HR.out, List.drop_of_length_le (by omega)]; rfl
      go_wp2
      go_ret2
      exact ⟨by rw [HN.out]; rfl, 0, rfl⟩
/-- What Spec has looked at. -/
def okTo (l : List UInt8) (i : Nat) : Prop := ∀ j, j < i → Ga.okAt l j = true
theorem specB_of (l : List UInt8) (h : okTo l l.length) : Ga.specB l = true := List.all_eq_true.2 fun j hj => h j (List.mem_range.1 hj)
theorem specB_not (l : List UInt8) (i : Nat) (hi : i < l.length) (h : Ga.okAt l i = false) : Ga.specB l = false := by
  cases e : Ga.specB l with
  | false => rfl
  | true => rw [← h]; exact (List.all_eq_true.1 e i (List.mem_range.2 hi)).symm
theorem okAt_58 (l : List UInt8) (i : Nat) (hi : i < l.length) (h : l[i] = 58) : Ga.okAt l i = (decide (0 < i) && decide (l[i - 1]? ≠ some 58)) := by
  unfold Ga.okAt; rw [List.getElem?_eq_getElem hi]; dsimp only; rw [if_pos h]
theorem okAt_ne (l : List UInt8) (i : Nat) (hi : i < l.length) (h : ¬ l[i] = 58) : Ga.okAt l i = (Ga.letB (l[i].toNat : Int) && !(l.take i).contains l[i]) := by
  unfold Ga.okAt; rw [List.getElem?_eq_getElem hi]; dsimp only; rw [if_neg h]
theorem okTo_succ {l : List UInt8} {i : Nat} (h : okTo l i) (h1 : Ga.okAt l i = true) : okTo l (i + 1) := fun j hj => by
  by_cases e : j = i
  · rw [e]; exact h1
  · exact h j (by omega)
set_option maxRecDepth 100000 in
set_option maxHeartbeats 2000000 in
theorem rSpec (l : List UInt8) (w : World) (hs : l.length ≤ 2 ^ 47) : Calls Try.prog 29 #[.string ⟨l.toArray⟩] w fun e w' => e = .returned (.bool (Ga.specB (Ga.bare l))) ∧ ∃ m, w' = w.drewN m := by
  have HB : Hid (Calls Try.prog 35 #[.string ⟨l.toArray⟩] w fun e w' => e = .returned (.string ⟨(Ga.bare l).toArray⟩) ∧ w' = w) := rBare l w hs
  have hbl : (Ga.bare l).length ≤ 2 ^ 47 := by unfold Ga.bare; split <;> simp <;> omega
  generalize Ga.bare l = t at *
  have HL : Hid (∀ (c : UInt8) (W : World), Calls Try.prog 41 #[.int .u8 c.toNat] W fun e w' => e = .returned (.bool (Ga.letB c.toNat)) ∧ w' = W) := fun c W => rLetter _ W
  go_enter Try.func29, Try.ntmps29
  go_wp2_with fail
  refine HB.out.mono ?_
  rintro e w1 ⟨rfl, rfl⟩
  go_wp2
  go_loopw [3] (fun i w => ∃ k m : Nat, k ≤ t.length ∧ i = .int .i64 k ∧ w = w1.drewN m ∧ Hid (okTo t k)) (fun i _ => t.length - (intOf i).toNat)
  case atStart => exact ⟨0, 0, Nat.zero_le _, rfl, rfl, fun j hj => by omega⟩
  case round =>
    obtain ⟨k, m, hk, rfl, hw, HR⟩ := hrel
    subst hw
    by_cases hlt : k < t.length
    · by_cases hc : t[k] = 58
      · have hc' : ((t[k].toNat : Int) == 58) = true := by rw [byte58]; simpa using hc
        have HK : Hid (Ga.okAt t k = (decide (0 < k) && decide (t[k - 1]? ≠ some 58))) := okAt_58 t k hlt hc
        clear hc
        by_cases h0 : k = 0
        · subst h0
          go_wp2
          go_ret
          exact ⟨ret_bool (specB_not t 0 hlt HK.out).symm, _, rfl⟩
        · obtain ⟨j, rfl⟩ : ∃ j, k = j + 1 := ⟨k - 1, by omega⟩
          have hj : j < t.length := by omega
          have hwr : IntKind.i64.wrap (((j + 1 : Nat) : Int) - 1) = (j : Int) := by rw [IntKind.wrap_i64]; omega
          have hz : (((j + 1 : Nat) : Int) == 0) = false := by simp; omega
          by_cases h2 : t[j] = 58
          · have h2' : ((t[j].toNat : Int) == 58) = true := by rw [byte58]; simpa using h2
            have HN : Hid (Ga.okAt t (j + 1) = false) := by show _ = _; rw [HK.out, Nat.add_sub_cancel, List.getElem?_eq_getElem hj, h2]; simp
            clear h2
            go_wp2
            go_ret
            exact ⟨ret_bool (specB_not t (j + 1) hlt HN.out).symm, _, rfl⟩
          · have h2' : ((t[j].toNat : Int) == 58) = false := by rw [byte58]; simpa using h2
            have HN : Hid (Ga.okAt t (j + 1) = true) := by show _ = _; rw [HK.out, Nat.add_sub_cancel, List.getElem?_eq_getElem hj]; simpa using h2
            clear h2
            go_wp2
            exact ⟨⟨j + 1 + 1, m, by omega, by go_num, rfl, okTo_succ HR.out HN.out⟩, by simp [intOf]; omega⟩
      · have hc' : ((t[k].toNat : Int) == 58) = false := by rw [byte58]; simpa using hc
        have HK : Hid (Ga.okAt t k = (Ga.letB (t[k].toNat : Int) && !(t.take k).contains t[k])) := okAt_ne t k hlt hc
        clear hc
        cases hle : Ga.letB (t[k].toNat : Int) with
        | false =>
          have HN : Hid (Ga.okAt t k = false) := by show _ = _; rw [HK.out, hle]; rfl
          go_wp2_with fail
          refine (HL.out _ _).mono ?_
          rintro e w2 ⟨rfl, rfl⟩
          rw [hle]
          go_wp2
          go_ret
          exact ⟨ret_bool (specB_not t k hlt HN.out).symm, _, by first | rfl | exact World.drewN_drewN _ _ _⟩
        | true =>
          go_wp2_with fail
          refine (HL.out _ _).mono ?_
          rintro e w2 ⟨rfl, rfl⟩
          rw [hle]
          rw [hle] at HK
          clear hle
          go_wp2
          go_loopw [4] (fun i w => ∃ q n : Nat, q ≤ k ∧ i = .int .i64 q ∧ w = w1.drewN n ∧ Hid (∀ j, j < q → t[j]? ≠ t[k]?)) (fun i _ => k - (intOf i).toNat)
          case atStart => exact ⟨0, m, Nat.zero_le _, rfl, rfl, fun j hj => by omega⟩
          case round =>
            obtain ⟨q, n, hq, rfl, hw, HQ⟩ := hrel
            subst hw
            by_cases hqk : q < k
            · have hqt : q < t.length := by omega
              by_cases h2 : t[q] = t[k]
              · have h2' : ((t[q].toNat : Int) == (t[k].toNat : Int)) = true := by rw [byte_eq]; simpa using h2
                have HN : Hid (Ga.okAt t k = false) := by
                  show _ = _
                  rw [HK.out, Bool.true_and, Bool.not_eq_false', List.contains_iff_mem]
                  exact List.mem_iff_getElem?.2 ⟨q, by rw [List.getElem?_take, if_pos hqk, List.getElem?_eq_getElem hqt, h2]⟩
                clear h2
                go_wp2_with (go_quiet (fail))
                go_ret
                exact ⟨ret_bool (specB_not t k hlt HN.out).symm, _, by first | rfl | exact World.drewN_drewN _ _ _⟩
              · have h2' : ((t[q].toNat : Int) == (t[k].toNat : Int)) = false := by rw [byte_eq]; simpa using h2
                have HN : Hid (∀ j, j < q + 1 → t[j]? ≠ t[k]?) := by
                  intro j hj
                  by_cases e : j = q
                  · subst e; rw [List.getElem?_eq_getElem hqt, List.getElem?_eq_getElem hlt]; simpa using h2
                  · exact HQ.out j (by omega)
                clear h2
                go_wp2_with (go_quiet (fail))
                exact ⟨⟨q + 1, _, by omega, by go_num, by first | rfl | exact World.drewN_drewN _ _ _, HN⟩, by simp [intOf]; omega⟩
            · have HN : Hid (Ga.okAt t k = true) := by
                show _ = _
                rw [HK.out, Bool.true_and, Bool.not_eq_true']
                cases hh : (t.take k).contains t[k] with
                | false => rfl
                | true =>
                  obtain ⟨j, hj⟩ := List.mem_iff_getElem?.1 (List.contains_iff_mem.1 hh)
                  rw [List.getElem?_take] at hj
                  split at hj
                  · exact absurd (hj.trans (List.getElem?_eq_getElem hlt).symm) (HQ.out j (by omega))
                  · cases hj
              go_wp2
              exact ⟨⟨k + 1, _, by omega, by go_num, rfl, okTo_succ HR.out HN.out⟩, by simp [intOf]; omega⟩
    · have HN : Hid (Ga.specB t = true) := specB_of t (by have : k = t.length := by omega
                                                          rw [← this]; exact HR.out)
      go_wp2
      go_ret
      exact ⟨ret_bool HN.out.symm, _, rfl⟩
end Go.Proofs.Ytgbkgfmljcfhoaa
