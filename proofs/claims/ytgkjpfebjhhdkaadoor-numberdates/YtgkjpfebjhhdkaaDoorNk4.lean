/- A stamp's digits are the date of its second: plain numbers, and the walk of digits. -/
import Derived.Test.YtgkjpfebjhhdkaaDoorNk3
import Derived.Test.YtgkjpfebjhhdkaaDoorNd4
import Derived.Test.YtgkjpfebjhhdkaaDoorNd7
namespace Go.Proofs.YtgkjpfebjhhdkaaDoor
open Go.RowKit
attribute [local go_sem] ext_eq app_eq get_eq
namespace Na
def isD (c : UInt8) : Bool := decide (48 ≤ (c.toNat : Int)) && decide ((c.toNat : Int) ≤ 57)
def digP (l : List UInt8) : List UInt8 := (l.take (l.length - 3)).filter isD ++ [46] ++ l.drop (l.length - 2)
theorem isD_ofNat {d : Nat} (h : d < 10) : isD (UInt8.ofNat (48 + d)) = true := by
  have e : (UInt8.ofNat (48 + d)).toNat = 48 + d := by rw [UInt8.toNat_ofNat']; omega
  unfold isD
  rw [e]
  simp
  omega
theorem two_eq {n : Int} (h0 : 0 ≤ n) (h1 : n < 100) : ∃ a b : UInt8, two n = [a, b] ∧ isD a = true ∧ isD b = true ∧ dig 10 a = true ∧ dig 10 b = true ∧ 10 * ((a.toNat : Int) - 48) + ((b.toNat : Int) - 48) = n := by
  have d1 : n.toNat / 10 < 10 := by omega
  have d2 : n.toNat % 10 < 10 := by omega
  refine ⟨_, _, rfl, isD_ofNat d1, isD_ofNat d2, (dig_ofNat d1).1, (dig_ofNat d2).1, ?_⟩
  rw [(dig_ofNat d1).2, (dig_ofNat d2).2]
  omega
theorem tw_two {n : Int} (h0 : 0 ≤ n) (h1 : n < 100) (r : List UInt8) : tw (two n ++ r) = n := by
  obtain ⟨a, b, e, -, -, -, -, hv⟩ := two_eq h0 h1
  rw [e]
  exact hv
theorem two_all {n : Int} (h0 : 0 ≤ n) (h1 : n < 100) : (two n).all (dig 10) = true := by
  obtain ⟨a, b, e, -, -, ha, hb, -⟩ := two_eq h0 h1
  rw [e, List.all_cons, List.all_cons, ha, hb]; rfl
def dgs (y m d h mi : Int) : List UInt8 := two (y / 100) ++ (two (y % 100) ++ (two m ++ (two d ++ (two h ++ two mi))))
theorem digP_stamp {y m d h mi s : Int} (hy : 0 ≤ y ∧ y ≤ 9999) (hm : 0 ≤ m ∧ m < 100) (hd : 0 ≤ d ∧ d < 100) (hh : 0 ≤ h ∧ h < 100) (hi : 0 ≤ mi ∧ mi < 100) : digP (stampT y m d h mi s) = dgs y m d h mi ++ 46 :: two s := by
  obtain ⟨a0, b0, e0, p0, q0, -⟩ := two_eq (n := y / 100) (by omega) (by omega)
  obtain ⟨a1, b1, e1, p1, q1, -⟩ := two_eq (n := y % 100) (by omega) (by omega)
  obtain ⟨a2, b2, e2, p2, q2, -⟩ := two_eq hm.1 hm.2
  obtain ⟨a3, b3, e3, p3, q3, -⟩ := two_eq hd.1 hd.2
  obtain ⟨a4, b4, e4, p4, q4, -⟩ := two_eq hh.1 hh.2
  obtain ⟨a5, b5, e5, p5, q5, -⟩ := two_eq hi.1 hi.2
  have n45 : isD 45 = false := by decide
  have n32 : isD 32 = false := by decide
  have n58 : isD 58 = false := by decide
  unfold digP stampT dgs
  rw [e0, e1, e2, e3, e4, e5]
  obtain ⟨a6, b6, e6⟩ : ∃ a b, two s = [a, b] := ⟨_, _, rfl⟩
  rw [e6]
  simp [List.filter, p0, q0, p1, q1, p2, q2, p3, q3, p4, q4, p5, q5, n45, n32, n58]
theorem stampT_len (y m d h mi s : Int) : (stampT y m d h mi s).length = 19 := by simp [stampT, two]
end Na
theorem date_back {t now : Int} {y : Int} {j : Nat} {v : Int × Int} (hc : Na.Cv ((t + 62167219200) / 86400) y j)
    (h : DtR (Na.dgs y ((j : Int) + 1) ((t + 62167219200) / 86400 - Na.yb y - Na.mb y j + 1) ((t + 62167219200) % 86400 / 3600) ((t + 62167219200) % 86400 / 60 % 60) ++ 46 :: Na.two ((t + 62167219200) % 86400 % 60)) now v) : v = (t, 0) := by
  obtain ⟨D, hD⟩ : ∃ D, (t + 62167219200) / 86400 = D := ⟨_, rfl⟩
  obtain ⟨R, hR⟩ : ∃ R, (t + 62167219200) % 86400 = R := ⟨_, rfl⟩
  obtain ⟨g0, g1⟩ := day_rng hc
  have hj := hc.j1
  have hy0 := hc.y0
  have hy1 := hc.y1
  have hml := hc.ml
  have hmh := hc.mh
  have hR0 : 0 ≤ R := by omega
  have hR1 : R < 86400 := by omega
  rw [hD] at h g0 g1 hml hmh
  rw [hR] at h
  have rt : (D - 719528) * 86400 + R = t := by omega
  clear hc hD hR
  obtain ⟨d, hd⟩ : ∃ d, D - Na.yb y - Na.mb y j + 1 = d := ⟨_, rfl⟩
  rw [hd] at h g0 g1
  have rA : 0 ≤ R / 3600 ∧ R / 3600 ≤ 23 := by omega
  have rB : 0 ≤ R / 60 % 60 ∧ R / 60 % 60 ≤ 59 := by omega
  have rC : 0 ≤ R % 60 ∧ R % 60 ≤ 59 := by omega
  have rS : R / 3600 * 3600 + R / 60 % 60 * 60 + R % 60 = R := by omega
  generalize R / 3600 = hh at *
  generalize R / 60 % 60 = mi at *
  generalize R % 60 = s at *
  have aA : (Na.dgs y ((j : Int) + 1) d hh mi).all (Na.dig 10) = true := by
    unfold Na.dgs
    simp only [List.all_append]
    rw [Na.two_all (n := y / 100) (by omega) (by omega), Na.two_all (n := y % 100) (by omega) (by omega), Na.two_all (n := (j : Int) + 1) (by omega) (by omega), Na.two_all (n := d) (by omega) (by omega), Na.two_all (n := hh) (by omega) (by omega), Na.two_all (n := mi) (by omega) (by omega)]
    rfl
  have n46 := Na.no_has (m := 46) (by decide) aA
  obtain ⟨c1, c2, c3⟩ := Na.cut_at (B := Na.two s) n46
  have hsec : Na.secOf (Na.dgs y ((j : Int) + 1) d hh mi ++ 46 :: Na.two s) = Na.two s := by unfold Na.secOf; rw [c3, if_pos rfl, c2]
  have hl12 : (Na.dgs y ((j : Int) + 1) d hh mi).length = 12 := by simp [Na.dgs, Na.two]
  have aS := Na.two_all (n := s) (by omega) (by omega)
  unfold DtR at h
  rw [hsec, c1] at h
  have hplA : Na.pl 10 (Na.dgs y ((j : Int) + 1) d hh mi) = true := by unfold Na.pl; rw [aA]; rfl
  have hplS : Na.pl 10 (Na.two s) = true := by unfold Na.pl; rw [aS]; rfl
  rw [if_pos ⟨rfl, hplS, hplA⟩] at h
  obtain ⟨Y, hY, rfl⟩ := h
  unfold Yr at hY
  rw [if_neg (by omega), if_neg (by omega), if_pos hl12] at hY
  have e1 : Na.tw (Na.dgs y ((j : Int) + 1) d hh mi) = y / 100 := Na.tw_two (by omega) (by omega) _
  have e2 : (Na.dgs y ((j : Int) + 1) d hh mi).drop 2 = Na.two (y % 100) ++ (Na.two ((j : Int) + 1) ++ (Na.two d ++ (Na.two hh ++ Na.two mi))) := rfl
  have e4 : (Na.dgs y ((j : Int) + 1) d hh mi).drop 4 = Na.two ((j : Int) + 1) ++ (Na.two d ++ (Na.two hh ++ Na.two mi)) := rfl
  rw [e1, e2, Na.tw_two (by omega) (by omega), show 100 * (y / 100) + y % 100 = y by omega] at hY
  subst hY
  rw [hl12, show (12 : Nat) - 8 = 4 from rfl, e4]
  dsimp only
  have f2 : (Na.two ((j : Int) + 1) ++ (Na.two d ++ (Na.two hh ++ Na.two mi))).drop 2 = Na.two d ++ (Na.two hh ++ Na.two mi) := rfl
  have f4 : (Na.two ((j : Int) + 1) ++ (Na.two d ++ (Na.two hh ++ Na.two mi))).drop 4 = Na.two hh ++ Na.two mi := rfl
  have f6 : (Na.two ((j : Int) + 1) ++ (Na.two d ++ (Na.two hh ++ Na.two mi))).drop 6 = Na.two mi ++ [] := rfl
  have fs : Na.two s = Na.two s ++ [] := rfl
  unfold Na.dRes
  rw [f2, f4, f6, fs, Na.tw_two (n := (j : Int) + 1) (by omega) (by omega), Na.tw_two (n := d) (by omega) (by omega), Na.tw_two (n := hh) (by omega) (by omega), Na.tw_two (n := mi) (by omega) (by omega), Na.tw_two (n := s) (by omega) (by omega)]
  have hex : Na.exB y ((j : Int) + 1) d hh mi s = true := by
    unfold Na.exB
    have ej : ((j : Int) + 1).toNat = j + 1 := by omega
    rw [ej, Nat.add_sub_cancel]
    simp
    omega
  rw [if_pos hex, show ((j : Int) + 1).toNat - 1 = j by omega]
  unfold Na.secP
  congr 1
  omega
set_option maxRecDepth 100000 in
set_option maxHeartbeats 2000000 in
theorem lDigits (l : List UInt8) (hl : 3 ≤ l.length) (hl2 : l.length ≤ 1048576) (w : World) : Calls Tryd.prog 30 #[.string ⟨l.toArray⟩] w fun e w' => e = .returned (.string ⟨(Na.digP l).toArray⟩) ∧ w' = w := by
  have HE : Hid (Na.digP l = (l.take (l.length - 3)).filter Na.isD ++ [46] ++ l.drop (l.length - 2)) := rfl
  go_enter Tryd.func30, Tryd.ntmps30
  go_wp2_with fail
  go_loop [3, 4] (fun o i => ∃ (k : Nat) (X : List UInt8), o = .string ⟨X.toArray⟩ ∧ i = .int .i64 k ∧ k ≤ l.length - 3 ∧ X.length ≤ k ∧ Hid ((l.take k).filter Na.isD = X)) (fun _ i => l.length - (intOf i).toNat)
  case atStart => exact ⟨0, [], rfl, rfl, Nat.zero_le _, Nat.le_refl _, rfl⟩
  case round =>
    obtain ⟨k, X, rfl, rfl, hk, hX, HX⟩ := hrel
    have hw3 : IntKind.i64.wrap ((k : Int) + 3) = (k : Int) + 3 := by rw [IntKind.wrap_i64]; omega
    by_cases hlt : k + 3 < l.length
    · have hc : decide ((k : Int) + 3 < (l.length : Int)) = true := by simp; omega
      have hkl : k < l.length := by omega
      have htk : l.take (k + 1) = l.take k ++ [l[k]] := List.take_succ_eq_append_getElem hkl
      have hsl : (l.take (k + 1)).drop k = [l[k]] := by rw [htk, List.drop_append_of_le_length (by simp; omega), List.drop_of_length_le (by simp; omega)]; simp
      have hw1 : IntKind.i64.wrap ((k : Int) + 1) = ((k + 1 : Nat) : Int) := by rw [IntKind.wrap_i64]; omega
      by_cases h1 : 48 ≤ (l[k].toNat : Int)
      · by_cases h2 : (l[k].toNat : Int) ≤ 57
        · have HX2 : Hid ((l.take (k + 1)).filter Na.isD = X ++ [l[k]]) := by
            show _ = _
            rw [htk, List.filter_append, HX.out]
            congr 1
            have : Na.isD l[k] = true := by unfold Na.isD; rw [decide_eq_true h1, decide_eq_true h2]; rfl
            simp [List.filter, this]
          clear HX htk
          go_wp2
          exact ⟨⟨k + 1, _, rfl, by go_num, by omega, by simp; omega, HX2⟩, by simp [intOf]; omega⟩
        · have HX2 : Hid ((l.take (k + 1)).filter Na.isD = X) := by
            show _ = _
            rw [htk, List.filter_append, HX.out]
            have : Na.isD l[k] = false := by unfold Na.isD; rw [decide_eq_false h2]; simp
            simp [List.filter, this]
          clear HX htk hsl
          go_wp2
          exact ⟨⟨k + 1, X, rfl, by go_num, by omega, by omega, HX2⟩, by simp [intOf]; omega⟩
      · have HX2 : Hid ((l.take (k + 1)).filter Na.isD = X) := by
          show _ = _
          rw [htk, List.filter_append, HX.out]
          have : Na.isD l[k] = false := by unfold Na.isD; rw [decide_eq_false h1]; rfl
          simp [List.filter, this]
        clear HX htk hsl
        go_wp2
        exact ⟨⟨k + 1, X, rfl, by go_num, by omega, by omega, HX2⟩, by simp [intOf]; omega⟩
    · have hc : decide ((k : Int) + 3 < (l.length : Int)) = false := by simp; omega
      obtain ⟨q, hq⟩ : ∃ q, l.length = q + 3 := ⟨l.length - 3, by omega⟩
      have hkq : k = q := by omega
      subst hkq
      have HF : Hid (Na.digP l = X ++ [46] ++ l.drop (k + 1)) := by
        show _ = _
        rw [HE.out, hq, show k + 3 - 3 = k by omega, show k + 3 - 2 = k + 1 by omega, HX.out]
      have hw2 : IntKind.i64.wrap ((k : Int) + 3 - 2) = ((k + 1 : Nat) : Int) := by rw [IntKind.wrap_i64]; omega
      have htl : List.take (k + 3) l = l := List.take_of_length_le (by omega)
      have hdl : (l.drop (k + 1)).length ≤ 2 := by rw [List.length_drop]; omega
      clear HX HE
      go_wp2
      go_ret
      exact ⟨by rw [HF.out]; simp [Array.getD], rfl⟩
end Go.Proofs.YtgkjpfebjhhdkaaDoor
