/- The plain answer's clause. Condition: a length that fits. -/
import Derived.Test.YtmminmdmhefefaaPq3
import Derived.Deep.DeepCutAuto
import Derived.Deep.LoopGhost
namespace Go.Proofs.Ytmminmdmhefefaa
open Go.RowKit
namespace Pm
def clN (old un now : Int) (s : List UInt8) : Int := (clB old un now s).getD 0
def clK (old un now : Int) (s : List UInt8) : Bool := (clB old un now s).isSome
theorem cl_no {old un now : Int} {s : List UInt8} (h : clB old un now s = none) : clN old un now s = 0 ∧ clK old un now s = false := ⟨by rw [clN, h]; rfl, by rw [clK, h]; rfl⟩
theorem cl_yes {old un now n : Int} {s : List UInt8} (h : clB old un now s = some n) : clN old un now s = n ∧ clK old un now s = true := ⟨by rw [clN, h]; rfl, by rw [clK, h]; rfl⟩
end Pm
theorem hidI {p : Prop} (h : p) : Hid p := h
attribute [local go_sem] get_eqc
set_option maxRecDepth 100000 in
set_option maxHeartbeats 4000000 in
theorem rClause (s : List UInt8) (old now umask : Int) (w : World) (hl : s.length ≤ 2 ^ 60) : Calls Try.prog 35 #[.string ⟨s.toArray⟩, .int .i64 old, .int .i64 now, .int .i64 umask] w fun e w' => e = .returned (.tuple #[.int .i64 (Pm.clN old (bits .andNot .i64 4095 umask) now s), .bool (Pm.clK old (bits .andNot .i64 4095 umask) now s)]) ∧ w' = w := by
  go_enter Try.func35, Try.ntmps35
  go_wp2
  go_loopg [10, 11] s.length (fun k a t wr => w = wr ∧ ∃ (i : Nat) (m : Int), i ≤ s.length ∧ k = s.length - i ∧ t = .int .i64 i ∧ a = .int .i64 m ∧ Hid (Pm.p1 m (s.drop i) = Pm.p1 0 s))
  case atStart => exact ⟨rfl, 0, 0, by omega, rfl, rfl, rfl, rfl⟩
  case round =>
    obtain ⟨rfl, i, m, hi, rfl, rfl, rfl, HP⟩ := hrel
    by_cases hlt : i < s.length
    · have hdr : s.drop i = s[i] :: s.drop (i + 1) := List.drop_eq_getElem_cons hlt
      cases hU : Pm.isU s[i] with
      | true =>
        have HP2 : Hid (Pm.p1 (bits .or .i64 m (Pm.whoR s[i])) (s.drop (i + 1)) = Pm.p1 0 s) := by
          show _ = _
          rw [← HP.out, hdr, Pm.p1, hU]
          rfl
        have HU : Hid (Pm.isU s[i] = true) := hU
        clear hdr HP hU
        go_wp2_with fail
        refine (rAmong s[i] [117, 103, 111, 97] true HU.out (by decide) _).mono ?_
        rintro e w1 ⟨rfl, hw1⟩
        rw [hw1]; clear hw1 w1
        go_wp2_with fail
        refine (rWho s[i] _).mono ?_
        rintro e w1 ⟨rfl, hw1⟩
        rw [hw1]; clear hw1 w1
        go_wp2_with fail
        go_roundg (s.length - (i + 1))
        case measure => omega
        case rel => exact ⟨rfl, i + 1, _, by omega, rfl, by go_num, rfl, HP2⟩
      | false =>
        have hp : Pm.p1 0 s = (m, s.drop i) := by rw [← HP.out, hdr, Pm.p1, hU]; rfl
        have hM : ∃ M : Int, ((i = 0 ∧ M = (bits .andNot .i64 4095 umask)) ∨ (¬ i = 0 ∧ M = m)) ∧ Pm.clB old (bits .andNot .i64 4095 umask) now s = Pm.acts old M s.length now (s.drop i) := by
          refine ⟨if i = 0 then (bits .andNot .i64 4095 umask) else m, by by_cases h0 : i = 0 <;> simp [h0], ?_⟩
          unfold Pm.clB
          rw [hp]
          simp only [List.length_drop]
          rw [if_neg (by rw [hdr]; exact List.cons_ne_nil _ _)]
          congr 1
          by_cases h0 : i = 0
          · subst h0; simp
          · rw [if_neg (by omega), if_neg h0]
        obtain ⟨M, hM1, hM2⟩ := hM
        have HM := hidI hM1
        have HR : Hid (Pm.clB old (bits .andNot .i64 4095 umask) now s = Pm.acts old M s.length now (s.drop i)) := hM2
        have HU : Hid (Pm.isU s[i] = false) := hU
        clear hp hdr HP hU hM1 hM2
        have hne : ((i : Int) == (s.length : Int)) = false := by simp; omega
        go_wp2_with fail
        refine (rAmong s[i] [117, 103, 111, 97] false HU.out (by decide) _).mono ?_
        rintro e w1 ⟨rfl, hw1⟩
        rw [hw1]; clear hw1 w1
        go_upto_if 33 with fail
        go_cut [10] (fun a wc => w = wc ∧ a = .int .i64 M)
        case first =>
          rcases HM.out with ⟨h0, rfl⟩ | ⟨h0, rfl⟩
          · subst h0
            go_wp2_with fail
            go_meet
            exact ⟨rfl, rfl⟩
          · have hz : ((i : Int) == 0) = false := by simp; omega
            go_wp2_with fail
            go_meet
            exact ⟨rfl, rfl⟩
        case rest =>
          obtain ⟨rfl, rfl⟩ := hcut
          clear HM HU
          go_wp2_with fail
          go_loopg [2, 11] s.length (fun k a t wr => w = wr ∧ ∃ (i : Nat) (nw : Int), i ≤ s.length ∧ t = .int .i64 i ∧ a = .int .i64 nw ∧ Hid (s.length - i ≤ k) ∧ Hid (Pm.clB old (bits .andNot .i64 4095 umask) now s = Pm.acts old M k nw (s.drop i)))
          case atStart => exact ⟨rfl, i, now, by omega, rfl, rfl, Nat.sub_le _ _, HR⟩
          case round =>
            clear HR hne hlt hi
            obtain ⟨rfl, i, nw, hi, rfl, rfl, HN, HR⟩ := hrel
            by_cases hlt : i < s.length
            · have hdr : s.drop i = s[i] :: s.drop (i + 1) := List.drop_eq_getElem_cons hlt
              obtain ⟨n', rfl⟩ : ∃ n', gk = n' + 1 := ⟨gk - 1, by have := HN.out; omega⟩
              cases hO : Pm.isO s[i] with
              | false =>
                have HK : Hid (Pm.clN old (bits .andNot .i64 4095 umask) now s = 0 ∧ Pm.clK old (bits .andNot .i64 4095 umask) now s = false) := Pm.cl_no (by rw [HR.out, hdr, Pm.acts, hO]; rfl)
                have HO : Hid (Pm.isO s[i] = false) := hO
                clear hdr hO HR
                go_wp2_with fail
                refine (rAmong s[i] [43, 45, 61] false HO.out (by decide) _).mono ?_
                rintro e w1 ⟨rfl, hw1⟩
                rw [hw1]; clear hw1 w1
                go_wp2_with fail
                go_ret2
                exact ⟨ret_nb HK.out.1 HK.out.2, rfl⟩
              | true =>
                have hR1 : Pm.clB old (bits .andNot .i64 4095 umask) now s = Pm.acts old M n' (Pm.appR s[i] nw (Pm.actR old nw (s.drop (i + 1))).1 M) (Pm.actR old nw (s.drop (i + 1))).2 := by
                  rw [HR.out, hdr, Pm.acts, hO]
                  rfl
                have hV : ∃ V : Bool, (V = true ∧ ∃ h : i + 1 < s.length, Pm.isV s[i + 1] = true ∧ Pm.clB old (bits .andNot .i64 4095 umask) now s = Pm.acts old M n' (Pm.appR s[i] nw (Pm.copR nw s[i + 1]) M) (s.drop (i + 2))) ∨ (V = false ∧ (∀ h : i + 1 < s.length, Pm.isV s[i + 1] = false) ∧ Pm.clB old (bits .andNot .i64 4095 umask) now s = Pm.acts old M n' (Pm.appR s[i] nw (Pm.p3 old 0 (s.drop (i + 1))).1 M) (Pm.p3 old 0 (s.drop (i + 1))).2) := by
                  by_cases hl2 : i + 1 < s.length
                  · have hdr2 : s.drop (i + 1) = s[i + 1] :: s.drop (i + 1 + 1) := List.drop_eq_getElem_cons hl2
                    cases hv : Pm.isV s[i + 1] with
                    | true =>
                      refine ⟨true, .inl ⟨rfl, hl2, hv, ?_⟩⟩
                      rw [hR1, hdr2]
                      simp only [Pm.actR, hv, if_true]
                    | false =>
                      refine ⟨false, .inr ⟨rfl, fun _ => hv, ?_⟩⟩
                      rw [hR1, hdr2]
                      simp only [Pm.actR, hv, Bool.false_eq_true, if_false]
                  · refine ⟨false, .inr ⟨rfl, fun h => absurd h hl2, ?_⟩⟩
                    rw [hR1, List.drop_eq_nil_of_le (by omega)]
                    rfl
                obtain ⟨V, hV⟩ := hV
                have HV := hidI hV
                have HO : Hid (Pm.isO s[i] = true) := hO
                have HN1 : Hid (s.length - (i + 1) ≤ n') := by have := HN.out; show _ ≤ _; omega
                have hop : (s[i] = 43 ∨ s[i] = 45 ∨ s[i] = 61) := by simpa [Pm.isO] using hO
                have hcase : ∃ E : Int → Int, (∀ b, Pm.appR s[i] nw b M = E b) ∧ ((((s[i].toNat : Int) == 43) = true ∧ E = fun b => bits .or .i64 nw (bits .and .i64 b M)) ∨ (((s[i].toNat : Int) == 43) = false ∧ ((s[i].toNat : Int) == 45) = true ∧ E = fun b => bits .andNot .i64 nw (bits .and .i64 b M)) ∨ (((s[i].toNat : Int) == 43) = false ∧ ((s[i].toNat : Int) == 45) = false ∧ E = fun b => bits .or .i64 (bits .andNot .i64 nw M) (bits .and .i64 b M))) := by
                  refine ⟨_, fun b => rfl, ?_⟩
                  unfold Pm.appR
                  rcases hop with h | h | h <;> rw [h]
                  · exact .inl ⟨rfl, rfl⟩
                  · exact .inr (.inl ⟨rfl, rfl, rfl⟩)
                  · exact .inr (.inr ⟨rfl, rfl, rfl⟩)
                obtain ⟨E, hE, hcase⟩ := hcase
                have HE : Hid (∀ b, Pm.appR s[i] nw b M = E b) := hE
                have HC := hidI hcase
                clear hE hop hdr hO HR HN hcase hV hR1
                go_wp2_with fail
                refine (rAmong s[i] [43, 45, 61] true HO.out (by decide) _).mono ?_
                rintro e w1 ⟨rfl, hw1⟩
                rw [hw1]; clear hw1 w1
                go_upto_region 15 with fail
                go_cut [61] (fun c wc => w = wc ∧ c = .bool V)
                case first =>
                  rcases HV.out with ⟨rfl, hl2, hv, -⟩ | ⟨rfl, hv, -⟩
                  · have HQ : Hid (Pm.isV s[i + 1] = true) := hv
                    clear hv HV HC
                    go_wp2_with fail
                    refine (rAmong s[i + 1] [117, 103, 111] true HQ.out (by decide) _).mono ?_
                    rintro e w1 ⟨rfl, hw1⟩
                    rw [hw1]; clear hw1 w1
                    go_wp2_with fail
                    go_meet
                    exact ⟨rfl, rfl⟩
                  · have HQ := hidI hv
                    clear hv HV HC
                    by_cases hl2 : i + 1 < s.length
                    · have HQ2 : Hid (Pm.isV s[i + 1] = false) := HQ.out hl2
                      go_wp2_with fail
                      refine (rAmong s[i + 1] [117, 103, 111] false HQ2.out (by decide) _).mono ?_
                      rintro e w1 ⟨rfl, hw1⟩
                      rw [hw1]; clear hw1 w1
                      go_wp2_with fail
                      go_meet
                      exact ⟨rfl, rfl⟩
                    · have hl3 : i + 1 = s.length := by omega
                      go_wp2_with fail
                      go_meet
                      exact ⟨rfl, rfl⟩
                case rest =>
                  obtain ⟨rfl, rfl⟩ := hcut
                  go_upto_if 61 with fail
                  go_cut [11, 13] (fun t bb wc => w = wc ∧ ∃ (j : Nat) (b : Int), i + 1 ≤ j ∧ j ≤ s.length ∧ t = .int .i64 j ∧ bb = .int .i64 b ∧ Hid (Pm.clB old (bits .andNot .i64 4095 umask) now s = Pm.acts old M n' (Pm.appR s[i] nw b M) (s.drop j)))
                  case first =>
                    rcases HV.out with ⟨rfl, hl2, hv, hr⟩ | ⟨rfl, hv, hr⟩
                    · have HR2 := hidI hr
                      clear hv HV HC hr
                      go_wp2_with fail
                      refine (rCop s[i + 1] nw _).mono ?_
                      rintro e w1 ⟨rfl, hw1⟩
                      rw [hw1]; clear hw1 w1
                      go_wp2_with fail
                      go_meet
                      exact ⟨rfl, i + 2, _, by omega, by omega, by first | rfl | go_num, rfl, HR2⟩
                    · have HR2 := hidI hr
                      clear hv HV HC hr
                      go_wp2_with fail
                      go_loopg [11, 13] (s.length - (i + 1)) (fun k t bb wr => w = wr ∧ ∃ (j : Nat) (b : Int), i + 1 ≤ j ∧ j ≤ s.length ∧ k = s.length - j ∧ t = .int .i64 j ∧ bb = .int .i64 b ∧ Hid (Pm.p3 old b (s.drop j) = Pm.p3 old 0 (s.drop (i + 1))))
                      case atStart => exact ⟨rfl, i + 1, 0, by omega, by omega, rfl, by first | rfl | go_num, rfl, rfl⟩
                      case round =>
                        obtain ⟨rfl, j, b, hj1, hj, rfl, rfl, rfl, HP⟩ := hrel
                        by_cases hjl : j < s.length
                        · have hdr : s.drop j = s[j] :: s.drop (j + 1) := List.drop_eq_getElem_cons hjl
                          cases hR : Pm.isR s[j] with
                          | true =>
                            have HP2 : Hid (Pm.p3 old (bits .or .i64 b (Pm.whatR old s[j])) (s.drop (j + 1)) = Pm.p3 old 0 (s.drop (i + 1))) := by
                              show _ = _
                              rw [← HP.out, hdr, Pm.p3, hR]
                              rfl
                            have HRR : Hid (Pm.isR s[j] = true) := hR
                            clear hdr HP hR
                            go_wp2_with fail
                            refine (rAmong s[j] [114, 119, 120, 88, 115, 116] true HRR.out (by decide) _).mono ?_
                            rintro e w1 ⟨rfl, hw1⟩
                            rw [hw1]; clear hw1 w1
                            go_wp2_with fail
                            refine (rWhat s[j] old _).mono ?_
                            rintro e w1 ⟨rfl, hw1⟩
                            rw [hw1]; clear hw1 w1
                            go_wp2_with fail
                            go_roundg (s.length - (j + 1))
                            case measure => omega
                            case rel => exact ⟨rfl, j + 1, _, by omega, by omega, rfl, by go_num, rfl, HP2⟩
                          | false =>
                            have HR3 : Hid (Pm.clB old (bits .andNot .i64 4095 umask) now s = Pm.acts old M n' (Pm.appR s[i] nw b M) (s.drop j)) := by
                              show _ = _
                              have hp : Pm.p3 old 0 (s.drop (i + 1)) = (b, s.drop j) := by rw [← HP.out, hdr, Pm.p3, hR]; rfl
                              rw [HR2.out, hp]
                            have HRR : Hid (Pm.isR s[j] = false) := hR
                            clear hdr HP hR HR2
                            go_wp2_with fail
                            refine (rAmong s[j] [114, 119, 120, 88, 115, 116] false HRR.out (by decide) _).mono ?_
                            rintro e w1 ⟨rfl, hw1⟩
                            rw [hw1]; clear hw1 w1
                            go_wp2_with fail
                            go_meet
                            exact ⟨rfl, j, b, by omega, by omega, rfl, rfl, HR3⟩
                        · have HR3 : Hid (Pm.clB old (bits .andNot .i64 4095 umask) now s = Pm.acts old M n' (Pm.appR s[i] nw b M) (s.drop j)) := by
                            show _ = _
                            have hp : Pm.p3 old 0 (s.drop (i + 1)) = (b, s.drop j) := by rw [← HP.out, List.drop_eq_nil_of_le (by omega)]; rfl
                            rw [HR2.out, hp]
                          clear HP HR2
                          go_wp2_with fail
                          go_meet
                          exact ⟨rfl, j, b, by omega, by omega, rfl, rfl, HR3⟩
                  case rest =>
                    obtain ⟨rfl, j, b, hj1, hj, rfl, rfl, HR3⟩ := hcut
                    clear HV HO
                    rcases HC.out with ⟨k1, rfl⟩ | ⟨k1, k2, rfl⟩ | ⟨k1, k2, rfl⟩
                    all_goals
                      clear HC
                      go_wp2_with fail
                      go_roundg n'
                      case measure => omega
                      case rel => exact ⟨rfl, j, _, by omega, by first | rfl | go_num, rfl, by have := HN1.out; show _ ≤ _; omega, by show _ = _; rw [HR3.out, HE.out]⟩
            · have hdr : s.drop i = [] := List.drop_eq_nil_of_le (by omega)
              have HK : Hid (Pm.clN old (bits .andNot .i64 4095 umask) now s = nw ∧ Pm.clK old (bits .andNot .i64 4095 umask) now s = true) := Pm.cl_yes (by rw [HR.out, hdr]; cases gk <;> rfl)
              clear hdr HR HN
              go_wp2_with fail
              go_ret2
              exact ⟨ret_nb HK.out.1 HK.out.2, rfl⟩
    · have hdr : s.drop i = [] := List.drop_eq_nil_of_le (by omega)
      have hii : i = s.length := by omega
      have HK : Hid (Pm.clN old (bits .andNot .i64 4095 umask) now s = 0 ∧ Pm.clK old (bits .andNot .i64 4095 umask) now s = false) := Pm.cl_no (by
        have hp : Pm.p1 0 s = (m, []) := by rw [← HP.out, hdr]; rfl
        unfold Pm.clB
        rw [hp]
        simp)
      clear hdr HP
      subst hii
      by_cases h0 : s.length = 0
      · go_wp2_with fail
        go_ret2
        exact ⟨ret_nb HK.out.1 HK.out.2, rfl⟩
      · have hz : ((s.length : Int) == 0) = false := by rw [beq_eq_false_iff_ne]; omega
        go_wp2_with fail
        go_ret2
        exact ⟨ret_nb HK.out.1 HK.out.2, rfl⟩
end Go.Proofs.Ytmminmdmhefefaa
