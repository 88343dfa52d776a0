/- The program's numberIn and Number. Condition: lengths that fit. -/
import Derived.Test.YtdjefinehabifaaDoorOa4
namespace Go.Proofs.YtdjefinehabifaaDoor
open Go.RowKit
attribute [local go_sem] ext_eq app_eq get_eq
theorem dec_pos (p q : Nat) : decide ((0 : Int) < (p : Int) + (q : Int)) = decide (0 < p + q) := by
  rw [Bool.eq_iff_iff]; simp only [decide_eq_true_eq]; omega
theorem Sr.cutT {W : World} {a : Option Addr} {c : Nat} {l : List UInt8} (h : Sr W a c l) (k : Nat) (hk : k ≤ l.length) : Sr W a c (l.take k) := (sl_to h k hk).2
set_option maxRecDepth 100000 in
set_option maxHeartbeats 4000000 in
theorem oNumberIn (l : List UInt8) (a : Option Addr) (c : Nat) (hl : l.length ≤ 2 ^ 60) (w : World) (hS : Sr w a c l) : Calls Tryd.prog 32 #[.slice a l.length c] w fun e w' => ∃ a1 c1 a2 c2, e = .returned (.tuple #[.bool (Od.nG l), .slice a1 (Od.LZ (Od.nW l)).length c1, .slice a2 (Od.RZ (Od.nD l)).length c2]) ∧ Sr w' a1 c1 (Od.LZ (Od.nW l)) ∧ Sr w' a2 c2 (Od.RZ (Od.nD l)) ∧ Below w.heap.size w w' := by
  obtain ⟨P, HP⟩ : ∃ P, Hid (P = Od.LZ (Od.nW l)) := ⟨_, hidA rfl⟩
  obtain ⟨Q, HQ⟩ : ∃ Q, Hid (Q = Od.RZ (Od.nD l)) := ⟨_, hidA rfl⟩
  have HG0 := hidA (show Od.nG l = (decide ((l.drop (Od.lead Od.bl l)).head? = some 45) && decide (0 < (Od.LZ (Od.nW l)).length + (Od.RZ (Od.nD l)).length)) from rfl)
  obtain ⟨G, HGG⟩ : ∃ G, Hid (G = Od.nG l) := ⟨_, hidA rfl⟩
  rw [← HP.out, ← HQ.out, ← HGG.out]
  have HG : Hid (G = (decide ((l.drop (Od.lead Od.bl l)).head? = some 45) && decide (0 < P.length + Q.length))) := by
    rw [HGG.out, HP.out, HQ.out]; exact HG0
  clear HG0 HGG
  have hB := Od.lead_le Od.bl l
  have HA := hidA (oLeadBlank l a c hl w hS.src)
  obtain ⟨a1, c1, hs1, hp1⟩ := sl_from hS (Od.lead Od.bl l) hB
  have h1l : (l.drop (Od.lead Od.bl l)).length ≤ 2 ^ 60 := by rw [List.length_drop]; omega
  have H2 := hidA (show Od.n2 l = Od.cp 45 (l.drop (Od.lead Od.bl l)) from rfl)
  generalize l.drop (Od.lead Od.bl l) = l1 at *
  generalize Od.lead Od.bl l = B at *
  have hb1 : Below w.heap.size w (w.alloc (.cells #[.int .u8 45] 5)) := (Below.refl w.heap.size w).alloc (Nat.le_refl _) _
  have hc45 : (w.alloc (.cells #[.int .u8 45] 5)).cell? ⟨w.heap.size, 0, none⟩ = some (.int .u8 ((45 : UInt8).toNat)) := World.cell?_alloc_at _ _ _ _ rfl
  have HC := hidA (oCut l1 a1 c1 w.heap.size 45 _ (hp1.grow hb1) hc45)
  clear hc45
  have HB1 := hidA hb1
  clear hb1
  rw [← H2.out] at HC
  go_enter Tryd.func32, Tryd.ntmps32
  go_upto_region 2 with (first | (go_at_call 55; with_reducible refine HA.out.mono ?_; rintro e w1 ⟨rfl, hw1⟩; rw [hw1]; clear hw1 w1) | (go_at_call 54; with_reducible refine HC.out.mono ?_; rintro e w2 ⟨hw2, a2, c2, rfl, hr2⟩; rw [hw2]; clear hw2 w2))
  have HR2 := hidA hr2
  have hyl : (Od.n2 l).length ≤ 2 ^ 60 := by rw [H2.out]; exact Nat.le_trans (Od.cp_len _ _) h1l
  clear HC HA hr2 hp1 H2 hs1
  generalize w.alloc (.cells #[.int .u8 45] 5) = W1 at *
  have HWd := hidA (show Od.nW l = (Od.n2 l).take (Od.lead Od.dg (Od.n2 l)) from rfl)
  have H3 := hidA (show Od.n3 l = (Od.n2 l).drop (Od.lead Od.dg (Od.n2 l)) from rfl)
  have HD := hidA (show Od.nD l = if (Od.n3 l).head? = some 46 then (Od.cp 46 (Od.n3 l)).take (Od.lead Od.dg (Od.cp 46 (Od.n3 l))) else [] from rfl)
  generalize Od.nW l = X at *
  generalize Od.n3 l = z at *
  generalize Od.nD l = Y at *
  generalize Od.n2 l = y at *
  generalize decide (l1.head? = some 45) = sg at *
  clear h1l hB
  have HA := hidA (oLeadDigit y a2 c2 hyl W1 HR2.out.src)
  have hnl := Od.lead_le Od.dg y
  generalize Od.lead Od.dg y = n at *
  obtain ⟨hs2, hx0⟩ := sl_to HR2.out n hnl
  rw [← HWd.out] at hs2 hx0
  have HX := hidA hx0
  obtain ⟨a3, c3, hs3, he0⟩ := sl_mid HR2.out n n (Nat.le_refl _) hnl
  have hnil : (y.take n).drop n = [] := List.drop_eq_nil_of_le (by simp; omega)
  rw [hnil] at hs3 he0
  have hs3' : ∀ W : World, (Instr.slice 22 (.slice a2 y.length c2) (some (.int .i64 n)) (some (.int .i64 n)) none).run Tryd.prog W = .ok (.slice a3 0 c3) W := hs3
  have HE := hidA he0
  obtain ⟨a4, c4, hs4, hz0⟩ := sl_from HR2.out n hnl
  rw [← H3.out] at hs4 hz0
  have HZ := hidA hz0
  have hXl : X.length ≤ 2 ^ 60 := by rw [HWd.out, List.length_take]; omega
  have hzl : z.length ≤ 2 ^ 60 := by rw [H3.out, List.length_drop]; omega
  have HWg := hidA HB1.out.size
  clear hx0 he0 hz0 hs3 hnil HWd H3 hnl HR2
  go_upto_region 3 with (go_at_call 55; with_reducible refine HA.out.mono ?_; rintro e w1 ⟨rfl, hw1⟩; rw [hw1]; clear hw1 w1)
  clear HA
  go_upto_region 4 with (go_region)
  have hd : Below W1.heap.size W1 W1.drew := bl_drew W1 1
  have HX2 := hidA (HX.out.grow hd)
  have HE2 := hidA (HE.out.grow hd)
  have HZ2 := hidA (HZ.out.grow hd)
  have HB2 := hidA (HB1.out.trans (hd.mono HB1.out.size))
  clear HX HE HZ HB1 hd HWg
  generalize W1.drew = W2 at *
  have hb1 : Below W2.heap.size W2 (W2.alloc (.cells #[.int .u8 46] 5)) := (Below.refl W2.heap.size W2).alloc (Nat.le_refl _) _
  have hc46 : (W2.alloc (.cells #[.int .u8 46] 5)).cell? ⟨W2.heap.size, 0, none⟩ = some (.int .u8 ((46 : UInt8).toNat)) := World.cell?_alloc_at _ _ _ _ rfl
  have HC := hidA (oCut z a4 c4 W2.heap.size 46 _ (HZ2.out.grow hb1) hc46)
  have HX3 := hidA (HX2.out.grow hb1)
  have HE3 := hidA (HE2.out.grow hb1)
  have HB3 := hidA (HB2.out.trans (hb1.mono HB2.out.size))
  have hcl := Od.cp_len 46 z
  clear HX2 HE2 HZ2 HB2 hb1 hc46
  go_upto_region 5 with (go_at_call 54; with_reducible refine HC.out.mono ?_; rintro e w2 ⟨hw2, a5, c5, rfl, hr5⟩; rw [hw2]; clear hw2 w2)
  have HR5 := hidA hr5
  clear hr5 HC hs4
  generalize W2.alloc (.cells #[.int .u8 46] 5) = W3 at *
  by_cases hp : z.head? = some 46
  · have hdp : decide (z.head? = some 46) = true := decide_eq_true hp
    have hY := HD.out
    rw [if_pos hp] at hY
    rw [hdp]
    generalize Od.cp 46 z = r at *
    have hrl : r.length ≤ 2 ^ 60 := by omega
    have HA := hidA (oLeadDigit r a5 c5 hrl W3 HR5.out.src)
    have hml := Od.lead_le Od.dg r
    obtain ⟨hs6, hy0⟩ := sl_to HR5.out (Od.lead Od.dg r) hml
    rw [← hY] at hs6 hy0
    have hYl : Y.length ≤ 2 ^ 60 := by rw [hY, List.length_take]; omega
    generalize Od.lead Od.dg r = m at *
    clear hY HD hdp hp HR5
    go_upto_region 7 with (go_at_call 55; with_reducible refine HA.out.mono ?_; rintro e w1 ⟨rfl, hw1⟩; rw [hw1]; clear hw1 w1)
    have HY := hidA hy0
    clear hy0
    have HL := hidA (oTrimL X a2 c2 hXl W3 HX3.out)
    have HRr := hidA (oTrimR Y a5 c5 hYl W3 HY.out)
    have hLl := Od.LZ_len X
    have hRl := Od.RZ_len Y
    clear HX3 HY HE3
    rw [← HP.out] at HL hLl
    rw [← HQ.out] at HRr hRl
    have hYl2 : Q.length ≤ 2 ^ 60 := by omega
    have hXl2 : P.length ≤ 2 ^ 60 := by omega
    clear hLl hRl hXl hYl
    go_upto_region 8 with (first | (go_at_call 58; with_reducible refine HL.out.mono ?_; rintro e w2 ⟨hw2, a7, c7, rfl, hr7⟩; rw [hw2]; clear hw2 w2) | (go_at_call 59; with_reducible refine HRr.out.mono ?_; rintro e w2 ⟨hw2, a8, c8, rfl, hr8⟩; rw [hw2]; clear hw2 w2))
    have HR7 := hidA hr7
    have HR8 := hidA hr8
    clear hr7 hr8 HL HRr
    have hG := HG.out
    clear HG
    cases sg with
    | false =>
      rw [Bool.false_and] at hG
      go_wp2_with (go_quiet (fail))
      go_ret3
      exact ⟨a7, c7, a8, c8, by rw [hG]; rfl, HR7.out, HR8.out, HB3.out⟩
    | true =>
      rw [Bool.true_and] at hG
      have hGG := hidA hG
      clear hG
      go_wp2_with (go_quiet (fail))
      go_ret3
      exact ⟨a7, c7, a8, c8, by rw [hGG.out, ← dec_pos]; rfl, HR7.out, HR8.out, HB3.out⟩
  · have hdp : decide (z.head? = some 46) = false := decide_eq_false hp
    have hY := HD.out
    rw [if_neg hp] at hY
    rw [hdp]
    clear HD hdp hp HR5
    have hYl : Y.length ≤ 2 ^ 60 := by rw [hY]; simp
    have HY := HE3
    rw [← hY] at HY
    have hz0 : (0 : Nat) = Y.length := by rw [hY]; rfl
    rw [hz0]
    clear hY
    go_upto_region 7 with fail
    have HL := hidA (oTrimL X a2 c2 hXl W3 HX3.out)
    have HRr := hidA (oTrimR Y a3 c3 hYl W3 HY.out)
    have hLl := Od.LZ_len X
    have hRl := Od.RZ_len Y
    clear HX3 HY HE3
    rw [← HP.out] at HL hLl
    rw [← HQ.out] at HRr hRl
    have hYl2 : Q.length ≤ 2 ^ 60 := by omega
    have hXl2 : P.length ≤ 2 ^ 60 := by omega
    clear hLl hRl hXl hYl
    go_upto_region 8 with (first | (go_at_call 58; with_reducible refine HL.out.mono ?_; rintro e w2 ⟨hw2, a7, c7, rfl, hr7⟩; rw [hw2]; clear hw2 w2) | (go_at_call 59; with_reducible refine HRr.out.mono ?_; rintro e w2 ⟨hw2, a8, c8, rfl, hr8⟩; rw [hw2]; clear hw2 w2))
    have HR7 := hidA hr7
    have HR8 := hidA hr8
    clear hr7 hr8 HL HRr
    have hG := HG.out
    clear HG
    cases sg with
    | false =>
      rw [Bool.false_and] at hG
      go_wp2_with (go_quiet (fail))
      go_ret3
      exact ⟨a7, c7, a8, c8, by rw [hG]; rfl, HR7.out, HR8.out, HB3.out⟩
    | true =>
      rw [Bool.true_and] at hG
      have hGG := hidA hG
      clear hG
      go_wp2_with (go_quiet (fail))
      go_ret3
      exact ⟨a7, c7, a8, c8, by rw [hGG.out, ← dec_pos]; rfl, HR7.out, HR8.out, HB3.out⟩
set_option maxRecDepth 100000 in
set_option maxHeartbeats 4000000 in
theorem oNumber (l : List UInt8) (a : Option Addr) (c : Nat) (hl : l.length ≤ 140737488355328) (w : World) (hS : Sr w a c l) : Calls Tryd.prog 11 #[.slice a l.length c] w fun e w' => ∃ v1 v2, e = .returned (.tuple #[.bool (Od.nG l), v1, v2]) ∧ By w.heap.size w' v1 (Od.LZ (Od.nW l)) ∧ By w.heap.size w' v2 (Od.RZ (Od.nD l)) ∧ Below w.heap.size w w' := by
  have hP : (Od.LZ (Od.nW l)).length ≤ l.length := by
    refine Nat.le_trans (Od.LZ_len _) ?_
    have h1 := Od.cp_len 45 (l.drop (Od.lead Od.bl l))
    rw [List.length_drop] at h1
    show ((Od.n2 l).take _).length ≤ _
    rw [List.length_take]
    have : (Od.n2 l).length ≤ l.length - Od.lead Od.bl l := h1
    omega
  have hQ : (Od.RZ (Od.nD l)).length ≤ l.length := by
    refine Nat.le_trans (Od.RZ_len _) ?_
    have h1 := Od.cp_len 45 (l.drop (Od.lead Od.bl l))
    rw [List.length_drop] at h1
    have h2 : (Od.n2 l).length ≤ l.length - Od.lead Od.bl l := h1
    have h3 : (Od.n3 l).length ≤ (Od.n2 l).length := by show ((Od.n2 l).drop _).length ≤ _; rw [List.length_drop]; omega
    have h4 := Od.cp_len 46 (Od.n3 l)
    unfold Od.nD
    split
    · rw [List.length_take]; omega
    · simp
  have HA := hidA (oNumberIn l a c (by omega) w hS)
  generalize Od.LZ (Od.nW l) = P at *
  generalize Od.RZ (Od.nD l) = Q at *
  clear hS
  go_enter Tryd.func11, Tryd.ntmps11
  go_wp2_with fail
  refine HA.out.mono ?_
  rintro e w1 ⟨a1, c1, a2, c2, rfl, h1, h2, b1⟩
  have HC1 := hidA (oClone P a1 c1 (by omega) w1 h1)
  have H2 := hidA h2
  have HB1 := hidA b1
  clear h1 h2 b1 HA
  go_wp2_with fail
  refine HC1.out.mono ?_
  rintro e w2 ⟨v1, rfl, hv1, b2⟩
  have HC2 := hidA (oClone Q a2 c2 (by omega) w2 (H2.out.grow b2))
  have HV1 := hidA hv1
  have HB2 := hidA (HB1.out.trans (b2.mono HB1.out.size))
  have hs1 := HB1.out.size
  have hs2 := HB2.out.size
  clear hv1 b2 HC1 H2 HB1
  go_wp2_with fail
  refine HC2.out.mono ?_
  rintro e w3 ⟨v2, rfl, hv2, b3⟩
  have HV2 := hidA hv2
  have HV1' := hidA (HV1.out.grow b3)
  have HB3 := hidA (HB2.out.trans (b3.mono hs2))
  obtain ⟨x1, y1, rfl⟩ := HV1.out.slice
  obtain ⟨x2, y2, rfl⟩ := HV2.out.slice
  clear hv2 b3 HV1 HB2 HC2
  go_wp2_with fail
  go_ret3
  exact ⟨_, _, rfl, HV1'.out.mono hs1, HV2.out.mono hs2, HB3.out⟩
end Go.Proofs.YtdjefinehabifaaDoor
