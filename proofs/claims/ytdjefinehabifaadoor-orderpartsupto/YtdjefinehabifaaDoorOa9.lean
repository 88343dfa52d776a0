/- The plain answer's Number. Condition: lengths that fit. -/
import Derived.Test.YtdjefinehabifaaDoorOa8
import Derived.Deep.DeepCutAuto
import Derived.Deep.LoopGhost
import Derived.Deep.CutBlock
namespace Go.Proofs.YtdjefinehabifaaDoor
open Go.RowKit
attribute [local go_sem] ext_eq app_eq get_eq
namespace Od
theorem cp_drop (x : UInt8) (l : List UInt8) (i : Nat) : cp x (l.drop i) = l.drop (i + if (l.drop i).head? = some x then 1 else 0) := by
  unfold cp
  split
  · rw [← List.drop_one, List.drop_drop]
  · rfl
theorem head_drop (l : List UInt8) (i : Nat) (h : i < l.length) : (l.drop i).head? = some l[i] := by rw [List.drop_eq_getElem_cons h]; rfl
theorem head_none (l : List UInt8) (i : Nat) (h : ¬ i < l.length) : (l.drop i).head? = none := by rw [List.drop_eq_nil_of_le (by omega)]; rfl
end Od
theorem cell_one_new (w : World) (x : Value) (t : TypeId) : ∀ j u, [x][j]? = some u → (w.alloc (.cells #[x] t)).cell? ((⟨w.heap.size, 0, none⟩ : Addr).add j) = some u := by
  intro j u hj
  match j, hj with
  | 0, hj => simp at hj; subst hj; simp [Addr.add]
theorem one_cell8 (x : Int) : ∀ u ∈ [Value.int .u8 x], u.oneCell' = true := one_u8 x
theorem By.sr {B : Nat} {W : World} {a : Option Addr} {c n : Nat} {bs : List UInt8} (h : By B W (.slice a n c) bs) : Sr W a c bs := by
  rcases h.2 with ⟨e, h0⟩ | ⟨g, cap, cur, e, hb, hg, hnc, hcm, hsz, ht⟩
  · injection e with e1 e2 e3
    have : bs = [] := List.length_eq_zero_iff.1 (by omega)
    subst e1 e3 this
    exact ⟨Src.nil _ _, by simp, fun _ => rfl⟩
  · obtain ⟨a', c', e', hs⟩ := h.src
    injection e' with f1 f2 f3
    injection e with e1 e2 e3
    subst f1
    subst e3
    exact ⟨hs, hnc, fun e => by rw [e1] at e; cases e⟩
theorem By.app1 {B : Nat} {W : World} {v : Value} {bs : List UInt8} {x : UInt8} (h : W.ownsRow B 5 1 v (bs.length + 1) (bCs bs ++ [.int .u8 x.toNat])) : By B W v (bs ++ [x]) := by
  have e : [Value.int .u8 (x.toNat : Int)] = bCs [x] := rfl
  rw [e] at h
  exact By.of_app (cs := [x]) h
set_option maxRecDepth 100000 in
set_option maxHeartbeats 8000000 in
theorem rNumber (l : List UInt8) (a : Option Addr) (c : Nat) (hl : l.length ≤ 1048577) (w : World) (hS : Sr w a c l) : Calls Tryd.prog 12 #[.slice a l.length c] w fun e w' => ∃ a1 c1 a2 c2, e = .returned (.tuple #[.bool (Od.nG l), .slice a1 (Od.LZ (Od.nW l)).length c1, .slice a2 (Od.RZ (Od.nD l)).length c2]) ∧ Sr w' a1 c1 (Od.LZ (Od.nW l)) ∧ Sr w' a2 c2 (Od.RZ (Od.nD l)) ∧ Below w.heap.size w w' := by
  obtain ⟨P, HP⟩ : ∃ P, Hid (P = Od.LZ (Od.nW l)) := ⟨_, hidA rfl⟩
  obtain ⟨Q, HQ⟩ : ∃ Q, Hid (Q = Od.RZ (Od.nD l)) := ⟨_, hidA rfl⟩
  have HG0 := hidA (show Od.nG l = (decide ((l.drop (Od.lead Od.bl l)).head? = some 45) && decide (0 < (Od.LZ (Od.nW l)).length + (Od.RZ (Od.nD l)).length)) from rfl)
  obtain ⟨G, HGG⟩ : ∃ G, Hid (G = Od.nG l) := ⟨_, hidA rfl⟩
  rw [← HP.out, ← HQ.out, ← HGG.out]
  have HG : Hid (G = (decide ((l.drop (Od.lead Od.bl l)).head? = some 45) && decide (0 < P.length + Q.length))) := by
    rw [HGG.out, HP.out, HQ.out]; exact HG0
  clear HG0 HGG
  have HS := hidA hS.src
  clear hS
  obtain ⟨iB, hiB, hz0, hz1, hz2⟩ := infoB
  obtain ⟨sg, Hsg⟩ : ∃ sg, Hid (sg = decide ((l.drop (Od.lead Od.bl l)).head? = some 45)) := ⟨_, hidA rfl⟩
  rw [← Hsg.out] at HG
  have hi0l := Od.lead_le Od.bl l
  have HN2 := hidA (show Od.n2 l = Od.cp 45 (l.drop (Od.lead Od.bl l)) from rfl)
  obtain ⟨i0, Hi0⟩ : ∃ i0, Hid (i0 = Od.lead Od.bl l) := ⟨_, hidA rfl⟩
  rw [← Hi0.out] at Hsg hi0l HN2
  go_enter Tryd.func12, Tryd.ntmps12
  go_upto_block 0 with fail
  go_cut [5] (fun v wc => w = wc ∧ v = .int .i64 i0)
  case first =>
    go_wp2_with fail
    go_loopg [5] l.length (fun gh s5 W => ∃ k : Nat, gh = l.length - k ∧ s5 = .int .i64 k ∧ k ≤ l.length ∧ Hid (k ≤ Od.lead Od.bl l) ∧ w = W)
    case atStart => exact ⟨0, rfl, rfl, Nat.zero_le _, hidA (Nat.zero_le _), rfl⟩
    case round =>
      obtain ⟨k, rfl, rfl, hk, HC, rfl⟩ := hrel
      by_cases hlt : k < l.length
      · obtain ⟨g, o, rfl, hg, hc⟩ := HS.out k hlt
        have HD := hidA (rBlank l[k] w)
        have hw1 : IntKind.i64.wrap ((k : Int) + 1) = ((k + 1 : Nat) : Int) := by rw [IntKind.wrap_i64]; omega
        cases hd : Od.bl l[k] with
        | true =>
          rw [hd] at HD
          have HC2 := hidA (Od.lead_yes HC.out hlt hd)
          clear HC HS hd
          generalize l[k] = x at *
          go_wp2_with (go_at_call 33; with_reducible refine HD.out.mono ?_; rintro e w1 ⟨rfl, hw1⟩; rw [hw1]; clear hw1 w1)
          go_roundg (l.length - (k + 1))
          case measure => omega
          case rel => exact ⟨k + 1, rfl, by go_num, hlt, HC2, rfl⟩
        | false =>
          rw [hd] at HD
          have HR := hidA (Hi0.out.trans (Od.lead_stop HC.out hlt hd))
          clear HC HS hd
          generalize l[k] = x at *
          go_wp2_with (go_at_call 33; with_reducible refine HD.out.mono ?_; rintro e w1 ⟨rfl, hw1⟩; rw [hw1]; clear hw1 w1)
          go_meet
          exact ⟨rfl, by rw [HR.out]⟩
      · have HR := hidA (Hi0.out.trans (Od.lead_end HC.out hlt))
        go_wp2_with fail
        go_meet
        exact ⟨rfl, by rw [HR.out]⟩
  case rest =>
  obtain ⟨rfl, rfl⟩ := hcut
  clear Hi0
  go_upto_region 4 with fail
  go_cut [6] (fun v wc => w = wc ∧ v = .bool sg)
  case first =>
    by_cases hlt : i0 < l.length
    · obtain ⟨g, o, rfl, hg, hc⟩ := HS.out i0 hlt
      have hs := Hsg.out
      rw [Od.head_drop l i0 hlt] at hs
      by_cases h45 : l[i0] = 45
      · have e1 := byte_yes _ 45 45 rfl h45
        have HR := hidA (show sg = true by rw [hs]; simp [h45])
        clear HS Hsg hs h45
        generalize l[i0] = x at *
        go_wp2_with fail
        go_meet
        exact ⟨rfl, by rw [HR.out]⟩
      · have e1 := byte_no _ 45 45 rfl h45
        have HR := hidA (show sg = false by rw [hs]; simp [h45])
        clear HS Hsg hs h45
        generalize l[i0] = x at *
        go_wp2_with fail
        go_meet
        exact ⟨rfl, by rw [HR.out]⟩
    · have hs := Hsg.out
      rw [Od.head_none l i0 hlt] at hs
      have HR := hidA (show sg = false by rw [hs]; simp)
      have hnl : ¬ ((i0 : Int) < (l.length : Int)) := by omega
      clear HS Hsg hs
      go_wp2_with fail
      go_meet
      exact ⟨rfl, by rw [HR.out]⟩
  case rest =>
  obtain ⟨rfl, rfl⟩ := hcut
  obtain ⟨i1, Hi1⟩ : ∃ i1, Hid (i1 = i0 + if sg then 1 else 0) := ⟨_, hidA rfl⟩
  have Hy : Hid (Od.n2 l = l.drop i1) := by
    show _ = _
    rw [HN2.out, Od.cp_drop, Hi1.out, Hsg.out]
    congr 2
    by_cases h : (l.drop i0).head? = some 45
    · simp [h]
    · simp
  have hi1l : i1 ≤ l.length := by
    have h1 := Hi1.out
    cases sg with
    | false => simp at h1; omega
    | true =>
      by_cases hlt : i0 < l.length
      · simp at h1; omega
      · have h2 := Hsg.out
        rw [Od.head_none l i0 hlt] at h2
        simp at h2
  clear HN2 Hsg
  go_upto_if 33 with fail
  go_cut [5] (fun v wc => w = wc ∧ v = .int .i64 i1)
  case first =>
    cases sg with
    | false =>
      have HR := hidA (show i1 = i0 by have := Hi1.out; simp at this; exact this)
      go_wp2_with fail
      go_meet
      exact ⟨rfl, by rw [HR.out]⟩
    | true =>
      have HR := hidA (show i1 = i0 + 1 by have := Hi1.out; simp at this; exact this)
      have hw1 : IntKind.i64.wrap ((i0 : Int) + 1) = ((i0 + 1 : Nat) : Int) := by rw [IntKind.wrap_i64]; omega
      go_wp2_with fail
      go_meet
      exact ⟨rfl, by rw [HR.out]; first | rfl | go_num⟩
  case rest =>
  obtain ⟨rfl, rfl⟩ := hcut
  clear Hi1 hi0l
  have Hyy := hidA Hy.out
  have hyl0 : (l.drop i1).length = l.length - i1 := List.length_drop
  have HX := hidA (show Od.nW l = (Od.n2 l).take (Od.lead Od.dg (Od.n2 l)) from rfl)
  have H3 := hidA (show Od.n3 l = (Od.n2 l).drop (Od.lead Od.dg (Od.n2 l)) from rfl)
  have HDd := hidA (show Od.nD l = if (Od.n3 l).head? = some 46 then (Od.cp 46 (Od.n3 l)).take (Od.lead Od.dg (Od.cp 46 (Od.n3 l))) else [] from rfl)
  generalize Od.nW l = X at *
  generalize Od.n3 l = z at *
  generalize Od.nD l = Y at *
  generalize Od.n2 l = y at *
  have Hyl : Hid (y.length = l.length - i1) := by
    show _ = _
    rw [Hyy.out]; exact hyl0
  have Hres := HX
  obtain ⟨i2, Hend⟩ : ∃ i2, Hid (i2 = i1 + Od.lead Od.dg y) := ⟨_, hidA rfl⟩
  clear hyl0 Hy HX
  go_upto_block 2 with fail
  go_cut [5, 7] (fun v5 v7 wc => v5 = .int .i64 i2 ∧ Hid (By w.heap.size wc v7 X) ∧ Hid (Below w.heap.size w wc))
  case first =>
    go_wp2_with fail
    go_loopg [5, 7] y.length (fun gh s5 s7 W => ∃ (k p : Nat), gh = y.length - k ∧ s5 = .int .i64 p ∧ k ≤ y.length ∧ Hid (p = i1 + k) ∧ Hid (k ≤ Od.lead Od.dg y) ∧ Hid (By w.heap.size W s7 (y.take k)) ∧ Hid (Below w.heap.size w W))
    case atStart => exact ⟨0, i1, rfl, rfl, Nat.zero_le _, hidA rfl, hidA (Nat.zero_le _), By.nil _ _, hidA (Below.refl _ _)⟩
    case round =>
      obtain ⟨k, p, rfl, rfl, hk, Hp, HC, HO, HB⟩ := hrel
      obtain ⟨ax, cx, hv⟩ := HO.out.slice
      subst hv
      have hO := hidA HO.out.own
      have hwsz := hidA HB.out.size
      have hTk : (y.take k).length = k := by rw [List.length_take]; omega
      have HTk := hidA hTk
      clear hTk
      by_cases hlt : k < y.length
      · have hpl : p < l.length := by have h1 := Hp.out; have h2 := Hyl.out; omega
        obtain ⟨g, o, rfl, hg, hc0⟩ := HS.out p hpl
        have hyk : l[p] = y[k] := by
          have h1 := Hyy.out
          have h2 := Hp.out
          subst h2
          simp [h1]
        rw [hyk] at hc0
        have hc : wr.cell? ⟨g, o + p, none⟩ = some (.int .u8 y[k].toNat) := (HB.out.cell (p := ⟨g, o + p, none⟩) (Nat.lt_of_lt_of_le hg (Nat.le_refl _))).trans (hc0)
        have hgw : g < wr.heap.size := Nat.lt_of_lt_of_le (Nat.lt_of_lt_of_le hg (Nat.le_refl _)) HB.out.size
        have HD := hidA (rDigit y[k] wr)
        have hw1 : IntKind.i64.wrap ((p : Int) + 1) = ((p + 1 : Nat) : Int) := by rw [IntKind.wrap_i64]; omega
        cases hd : Od.dg y[k] with
        | true =>
          rw [hd] at HD
          have HC2 := hidA (Od.lead_yes HC.out hlt hd)
          have HTT := hidA (List.take_succ_eq_append_getElem hlt)
          have Hp2 := hidA (show p + 1 = i1 + (k + 1) by have := Hp.out; omega)
          clear HC hyk hc0 hd Hp
          generalize y[k] = x at *
          generalize hTT : y.take k = TT at *
          have hTl : TT.length ≤ 1048577 := by have h1 := HTk.out; have h2 := Hyl.out; omega
          clear hTT
          go_wp2_with (first | (go_at_call 34; with_reducible refine HD.out.mono ?_; rintro e w1 ⟨rfl, hw1⟩; rw [hw1]; clear hw1 w1) | (at_builtin; refine wpList_append_own_at _ rfl _ _ 22 rfl w.heap.size 5 iB (.int .u8 0) 1 1 Tryd.underlying22 hiB hz0 hz1 hz2 rfl (by decide) _ _ _ rfl (hO.out.alloc _) ⟨wr.heap.size, 0, none⟩ 1 1 [.int .u8 x.toNat] rfl rfl (cell_one_new _ _ _) (one_u8 _) (by unfold maxLen; omega) (by omega) (by have := hwsz.out; simp; omega) ?_; intro v' w2 hown hg2 _ hat; have HO2 := hidA (By.app1 hown); have HB2 : Hid (Below w.heap.size w w2) := (HB.out.alloc hwsz.out _).grown hg2 (by have := hwsz.out; simp; omega) (fun k hk => (hO.out.lt k hk).1); clear hown hg2 hat))
          go_roundg (y.length - (k + 1))
          case measure => omega
          case rel => exact ⟨k + 1, p + 1, rfl, by go_num, hlt, Hp2, HC2, by rw [HTT.out]; exact HO2, HB2⟩
        | false =>
          rw [hd] at HD
          have HR := hidA (Od.lead_stop HC.out hlt hd)
          have HI := hidA (show p = i2 by have h1 := Hp.out; have h2 := HR.out; have h3 := Hend.out; omega)
          have HO3 : Hid (By w.heap.size wr (.slice ax (y.take k).length cx) X) := by
            have h1 := HO.out
            rw [show X = y.take k by rw [Hres.out, HR.out]]
            exact hidA h1
          clear HC hyk hc0 hd Hp HR HO hO
          generalize y[k] = x at *
          generalize (y.take k).length = TL at *
          go_wp2_with (go_at_call 34; with_reducible refine HD.out.mono ?_; rintro e w1 ⟨rfl, hw1⟩; rw [hw1]; clear hw1 w1)
          go_meet
          exact ⟨by rw [HI.out], HO3, HB⟩
      · have hpl : ¬ ((p : Int) < (l.length : Int)) := by have h1 := Hp.out; have h2 := Hyl.out; omega
        have HR := hidA (Od.lead_end HC.out hlt)
        have HI := hidA (show p = i2 by have h1 := Hp.out; have h2 := HR.out; have h3 := Hend.out; omega)
        have HO3 : Hid (By w.heap.size wr (.slice ax (y.take k).length cx) X) := by
          have h1 := HO.out
          rw [show X = y.take k by rw [Hres.out, HR.out]]
          exact hidA h1
        clear HC Hp HR HO hO
        generalize (y.take k).length = TL at *
        go_wp2_with fail
        go_meet
        exact ⟨by rw [HI.out], HO3, HB⟩
  case rest =>
  obtain ⟨rfl, HO2, HB2⟩ := hcut
  obtain ⟨a7, c7, hv7⟩ := HO2.out.slice
  subst hv7
  have Hz : Hid (z = l.drop i2) := by
    show _ = _
    rw [H3.out, Hyy.out, List.drop_drop, Hend.out, Hyy.out]
  have hi2l : i2 ≤ l.length := by
    have h1 := Hend.out
    have h2 := Od.lead_le Od.dg y
    have h3 := Hyl.out
    omega
  have hXl : X.length ≤ 1048577 := by
    have h1 := Hres.out
    have h3 := Hyl.out
    rw [h1, List.length_take]; omega
  obtain ⟨dt, Hdt⟩ : ∃ dt, Hid (dt = decide (z.head? = some 46)) := ⟨_, hidA rfl⟩
  clear H3 Hyy Hyl Hres Hend hi1l
  go_upto_region 11 with fail
  go_cut [66] (fun v wc' => wc = wc' ∧ v = .bool dt)
  case first =>
    by_cases hlt : i2 < l.length
    · obtain ⟨g, o, rfl, hg, hc0⟩ := HS.out i2 hlt
      have hc : wc.cell? ⟨g, o + i2, none⟩ = some (.int .u8 l[i2].toNat) := (HB2.out.cell (p := ⟨g, o + i2, none⟩) hg).trans hc0
      have hgw : g < wc.heap.size := Nat.lt_of_lt_of_le hg HB2.out.size
      have hs := Hdt.out
      rw [Hz.out, Od.head_drop l i2 hlt] at hs
      by_cases h46 : l[i2] = 46
      · have e1 := byte_yes _ 46 46 rfl h46
        have HR := hidA (show dt = true by rw [hs]; simp [h46])
        clear HS Hdt hs h46 hc0
        generalize l[i2] = x at *
        go_wp2_with fail
        go_meet
        exact ⟨rfl, by rw [HR.out]⟩
      · have e1 := byte_no _ 46 46 rfl h46
        have HR := hidA (show dt = false by rw [hs]; simp [h46])
        clear HS Hdt hs h46 hc0
        generalize l[i2] = x at *
        go_wp2_with fail
        go_meet
        exact ⟨rfl, by rw [HR.out]⟩
    · have hs := Hdt.out
      rw [Hz.out, Od.head_none l i2 hlt] at hs
      have HR := hidA (show dt = false by rw [hs]; simp)
      have hnl : ¬ ((i2 : Int) < (l.length : Int)) := by omega
      clear HS Hdt hs
      go_wp2_with fail
      go_meet
      exact ⟨rfl, by rw [HR.out]⟩
  case rest =>
  obtain ⟨rfl, rfl⟩ := hcut
  obtain ⟨b2, hb2⟩ : ∃ b2, b2 = wc.heap.size := ⟨_, rfl⟩
  have hb2w : w.heap.size ≤ b2 := by rw [hb2]; exact HB2.out.size
  have hBB : Below b2 wc wc := Below.refl _ _
  go_upto_if 66 with fail
  go_cut [8] (fun v8 wc' => Hid (By b2 wc' v8 Y) ∧ Hid (Below b2 wc wc') ∧ Y.length ≤ 1048577)
  case first =>
    have hdd := HDd.out
    cases dt with
    | false =>
      have hh : ¬ z.head? = some 46 := by have := Hdt.out; simpa using this
      rw [if_neg hh] at hdd
      have HYn := hidA hdd
      clear hdd HDd Hdt
      go_wp2_with fail
      go_meet
      exact ⟨by rw [HYn.out]; exact By.nil _ _, hBB, by rw [HYn.out]; simp⟩
    | true =>
      have hh : z.head? = some 46 := by have := Hdt.out; simpa using this
      rw [if_pos hh] at hdd
      have hlt : i2 < l.length := by
        by_cases h : i2 < l.length
        · exact h
        · rw [Hz.out, Od.head_none l i2 h] at hh; cases hh
      obtain ⟨i3, Hi3⟩ : ∃ i3, Hid (i3 = i2 + 1) := ⟨_, hidA rfl⟩
      obtain ⟨r, Hyy⟩ : ∃ r, Hid (r = l.drop i3) := ⟨_, hidA rfl⟩
      have hr : Od.cp 46 z = r := by
        have hh' := hh
        rw [Hz.out] at hh'
        rw [Hz.out, Od.cp_drop, if_pos hh', Hyy.out, Hi3.out]
      rw [hr] at hdd
      have Hres := hidA hdd
      have Hyl : Hid (r.length = l.length - i3) := by show _ = _; rw [Hyy.out, List.length_drop]
      obtain ⟨i4, Hend⟩ : ∃ i4, Hid (i4 = i3 + Od.lead Od.dg r) := ⟨_, hidA rfl⟩
      have hYl : Y.length ≤ 1048577 := by
        have h1 := Hres.out
        have h3 := Hyl.out
        rw [h1, List.length_take]; omega
      have hw3 : IntKind.i64.wrap ((i2 : Int) + 1) = ((i2 + 1 : Nat) : Int) := by rw [IntKind.wrap_i64]; omega
      clear hdd HDd Hdt hr hh
      go_wp2_with fail
      go_loopg [5, 8] r.length (fun gh s5 s7 W => ∃ (k p : Nat), gh = r.length - k ∧ s5 = .int .i64 p ∧ k ≤ r.length ∧ Hid (p = i3 + k) ∧ Hid (k ≤ Od.lead Od.dg r) ∧ Hid (By b2 W s7 (r.take k)) ∧ Hid (Below b2 wc W))
      case atStart => exact ⟨0, i3, rfl, by rw [Hi3.out]; first | rfl | go_num, Nat.zero_le _, hidA rfl, hidA (Nat.zero_le _), By.nil _ _, hidA (Below.refl _ _)⟩
      case round =>
        obtain ⟨k, p, rfl, rfl, hk, Hp, HC, HO, HB⟩ := hrel
        obtain ⟨ax, cx, hv⟩ := HO.out.slice
        subst hv
        have hO := hidA HO.out.own
        have hwsz := hidA (show b2 ≤ wr.heap.size by have := HB.out.size; omega)
        have hTk : (r.take k).length = k := by rw [List.length_take]; omega
        have HTk := hidA hTk
        clear hTk
        by_cases hlt : k < r.length
        · have hpl : p < l.length := by have h1 := Hp.out; have h2 := Hyl.out; omega
          obtain ⟨g, o, rfl, hg, hc0⟩ := HS.out p hpl
          have hyk : l[p] = r[k] := by
            have h1 := Hyy.out
            have h2 := Hp.out
            subst h2
            simp [h1]
          rw [hyk] at hc0
          have hc : wr.cell? ⟨g, o + p, none⟩ = some (.int .u8 r[k].toNat) := (HB.out.cell (p := ⟨g, o + p, none⟩) (Nat.lt_of_lt_of_le hg hb2w)).trans ((HB2.out.cell (p := ⟨g, o + p, none⟩) hg).trans hc0)
          have hgw : g < wr.heap.size := by have := HB.out.size; omega
          have HD := hidA (rDigit r[k] wr)
          have hw1 : IntKind.i64.wrap ((p : Int) + 1) = ((p + 1 : Nat) : Int) := by rw [IntKind.wrap_i64]; omega
          cases hd : Od.dg r[k] with
          | true =>
            rw [hd] at HD
            have HC2 := hidA (Od.lead_yes HC.out hlt hd)
            have HTT := hidA (List.take_succ_eq_append_getElem hlt)
            have Hp2 := hidA (show p + 1 = i3 + (k + 1) by have := Hp.out; omega)
            clear HC hyk hc0 hd Hp
            generalize r[k] = x at *
            generalize hTT : r.take k = TT at *
            have hTl : TT.length ≤ 1048577 := by have h1 := HTk.out; have h2 := Hyl.out; omega
            clear hTT
            go_wp2_with (first | (go_at_call 34; with_reducible refine HD.out.mono ?_; rintro e w1 ⟨rfl, hw1⟩; rw [hw1]; clear hw1 w1) | (at_builtin; refine wpList_append_own_at _ rfl _ _ 22 rfl b2 5 iB (.int .u8 0) 1 1 Tryd.underlying22 hiB hz0 hz1 hz2 rfl (by decide) _ _ _ rfl (hO.out.alloc _) ⟨wr.heap.size, 0, none⟩ 1 1 [.int .u8 x.toNat] rfl rfl (cell_one_new _ _ _) (one_u8 _) (by unfold maxLen; omega) (by omega) (by have := hwsz.out; simp; omega) ?_; intro v' w2 hown hg2 _ hat; have HO2 := hidA (By.app1 hown); have HB2 : Hid (Below b2 wc w2) := (HB.out.alloc hwsz.out _).grown hg2 (by have := hwsz.out; simp; omega) (fun k hk => (hO.out.lt k hk).1); clear hown hg2 hat))
            go_roundg (r.length - (k + 1))
            case measure => omega
            case rel => exact ⟨k + 1, p + 1, rfl, by go_num, hlt, Hp2, HC2, by rw [HTT.out]; exact HO2, HB2⟩
          | false =>
            rw [hd] at HD
            have HR := hidA (Od.lead_stop HC.out hlt hd)
            have HI := hidA (show p = i4 by have h1 := Hp.out; have h2 := HR.out; have h3 := Hend.out; omega)
            have HO3 : Hid (By b2 wr (.slice ax (r.take k).length cx) Y) := by
              have h1 := HO.out
              rw [show Y = r.take k by rw [Hres.out, HR.out]]
              exact hidA h1
            clear HC hyk hc0 hd Hp HR HO hO
            generalize r[k] = x at *
            generalize (r.take k).length = TL at *
            go_wp2_with (go_at_call 34; with_reducible refine HD.out.mono ?_; rintro e w1 ⟨rfl, hw1⟩; rw [hw1]; clear hw1 w1)
            go_meet
            exact ⟨HO3, HB, hYl⟩
        · have hpl : ¬ ((p : Int) < (l.length : Int)) := by have h1 := Hp.out; have h2 := Hyl.out; omega
          have HR := hidA (Od.lead_end HC.out hlt)
          have HI := hidA (show p = i4 by have h1 := Hp.out; have h2 := HR.out; have h3 := Hend.out; omega)
          have HO3 : Hid (By b2 wr (.slice ax (r.take k).length cx) Y) := by
            have h1 := HO.out
            rw [show Y = r.take k by rw [Hres.out, HR.out]]
            exact hidA h1
          clear HC Hp HR HO hO
          generalize (r.take k).length = TL at *
          go_wp2_with fail
          go_meet
          exact ⟨HO3, HB, hYl⟩
  case rest =>
  obtain ⟨HO3, HB3, hYl⟩ := hcut
  obtain ⟨a8, c8, hv8⟩ := HO3.out.slice
  subst hv8
  have HX7 := hidA ((HO2.out.grow (by rw [← hb2]; exact HB3.out)).sr)
  have HY8 := hidA HO3.out.sr
  have HB4 := hidA (HB2.out.trans (HB3.out.mono hb2w))
  have HPe := hidA HP.out.symm
  have HQe := hidA HQ.out.symm
  clear HO2 HO3 HB2 HB3 hBB hb2w hb2 HS Hdt HDd Hz
  go_upto_block 6 with fail
  go_cut [7] (fun v wc' => wc = wc' ∧ ∃ a c, v = .slice a P.length c ∧ Hid (Sr wc a c P) ∧ P.length ≤ 1048577)
  case first =>
    go_wp2_with fail
    go_loopg [7] X.length (fun gh s7 W => ∃ (x : List UInt8) (a' : Option Addr) (c' : Nat), gh = x.length ∧ s7 = .slice a' x.length c' ∧ x.length ≤ 1048577 ∧ Hid (Sr wc a' c' x) ∧ Hid (Od.LZ x = P) ∧ wc = W)
    case atStart => exact ⟨X, a7, c7, rfl, rfl, hXl, HX7, HPe, rfl⟩
    case round =>
      obtain ⟨x, a', c', rfl, rfl, hx, HX, HE, rfl⟩ := hrel
      cases x with
      | nil =>
        have HR : Hid (P = []) := HE.out.symm
        have HX2 := hidA HX.out
        clear HX HE
        go_wp2_with fail
        go_meet
        exact ⟨rfl, a', c', by rw [HR.out], by rw [HR.out]; exact HX2, by rw [HR.out]; simp⟩
      | cons u r =>
        obtain ⟨g, o, rfl, hg, hc⟩ := HX.out.src 0 (by simp)
        rw [show (u :: r)[0] = u from rfl, Nat.add_zero] at hc
        by_cases hu : u = 48
        · subst hu
          have hc8 : wc.cell? ⟨g, o, none⟩ = some (.int .u8 48) := hc
          clear hc
          obtain ⟨a2, c2, hs2, hr2⟩ := sl_from HX.out 1 (by simp)
          have HX2 := hidA hr2
          rw [show ((48 : UInt8) :: r).drop 1 = r from rfl] at HX2 hs2
          have HE2 : Hid (Od.LZ r = P) := by rw [← HE.out, Od.LZ_cons]; exact hidA rfl
          have hlr : r.length ≤ 1048577 := by simp at hx; omega
          have hn : 0 < (48 :: r : List UInt8).length := by simp
          have hln : r.length < (48 :: r : List UInt8).length := by simp
          have hln0 := hidA hln
          clear HX HE hr2
          obtain ⟨N, hN⟩ : ∃ N, N = (48 :: r : List UInt8).length := ⟨_, rfl⟩
          rw [← hN] at hx hs2 hn hln ⊢
          have hs3 : ∀ W : World, (Instr.slice 22 (.slice (some ⟨g, o, none⟩) N c') (some (.int .i64 1)) none none).run Tryd.prog W = .ok (.slice a2 r.length c2) W := hs2
          clear hN hs2
          go_wp2_with fail
          go_roundg r.length
          case measure => exact hln0.out
          case rel => exact ⟨r, a2, c2, rfl, rfl, hlr, HX2, HE2, rfl⟩
        · have e1 := byte_no u 48 48 rfl hu
          have HR : Hid (P = u :: r) := hidA (HE.out.symm.trans (Od.LZ_stop (by simp) (by simpa using hu)))
          have HX2 := hidA HX.out
          have hn : 0 < (u :: r).length := by simp
          clear HX HE
          generalize u :: r = y at *
          go_wp2_with fail
          go_meet
          exact ⟨rfl, _, _, by rw [HR.out], by rw [HR.out]; exact HX2, by rw [HR.out]; exact hx⟩
  case rest =>
  obtain ⟨rfl, aP, cP, rfl, HP7, hPl⟩ := hcut
  clear HX7 HP HPe hXl
  go_upto_block 8 with fail
  go_cut [8] (fun v wc' => wc = wc' ∧ ∃ a c, v = .slice a Q.length c ∧ Hid (Sr wc a c Q) ∧ Q.length ≤ 1048577)
  case first =>
    go_wp2_with fail
    go_loopg [8] Y.length (fun gh s8 W => ∃ (x : List UInt8) (a' : Option Addr) (c' : Nat), gh = x.length ∧ s8 = .slice a' x.length c' ∧ x.length ≤ 1048577 ∧ Hid (Sr wc a' c' x) ∧ Hid (Od.RZ x = Q) ∧ wc = W)
    case atStart => exact ⟨Y, a8, c8, rfl, rfl, hYl, HY8, HQe, rfl⟩
    case round =>
      obtain ⟨x, a', c', rfl, rfl, hx, HX, HE, rfl⟩ := hrel
      by_cases hn : 0 < x.length
      · obtain ⟨g, o, rfl, hg, hc⟩ := HX.out.src (x.length - 1) (by omega)
        obtain ⟨k, Hk⟩ : ∃ k, Hid (k = x.length - 1) := ⟨_, hidA rfl⟩
        have hkx : k < x.length := by have := Hk.out; omega
        have hsub : IntKind.i64.wrap ((x.length : Int) - 1) = (k : Int) := by have := Hk.out; rw [IntKind.wrap_i64]; omega
        have hsub2 : (x.length : Int) - 1 = (k : Int) := by have := Hk.out; omega
        have hc8 : wc.cell? ⟨g, o + k, none⟩ = some (.int .u8 (x[k]'hkx).toNat) := by
          have := Hk.out
          subst this; exact hc
        clear hc
        by_cases hu : x[k]'hkx = 48
        · rw [hu] at hc8
          have hc9 : wc.cell? ⟨g, o + k, none⟩ = some (.int .u8 48) := hc8
          obtain ⟨hs2, hr2⟩ := sl_to HX.out k (by omega)
          have HX2 := hidA hr2
          have HE2 : Hid (Od.RZ (x.take k) = Q) := by
            have h1 := Hk.out
            subst h1
            rw [← HE.out, Od.RZ_cut hn hu]; exact hidA rfl
          have hlen : (x.take k).length < x.length := by rw [List.length_take]; omega
          have hle2 : (x.take k).length ≤ 1048577 := by omega
          clear HX HE hr2 hu hc8 Hk
          generalize x.take k = r at *
          go_wp2_with fail
          go_roundg r.length
          case measure => exact hlen
          case rel => exact ⟨r, _, _, rfl, rfl, hle2, HX2, HE2, rfl⟩
        · have e1 := byte_no (x[k]'hkx) 48 48 rfl hu
          have HR : Hid (Q = x) := by
            have h1 := Hk.out
            subst h1
            rw [← HE.out, Od.RZ_stop hn hu]; exact hidA rfl
          have HX2 := hidA HX.out
          clear HX HE hu Hk
          generalize x[k]'hkx = u at *
          go_wp2_with fail
          go_meet
          exact ⟨rfl, _, _, by rw [HR.out], by rw [HR.out]; exact HX2, by rw [HR.out]; exact hx⟩
      · have hx0 : x = [] := List.length_eq_zero_iff.1 (by omega)
        subst hx0
        have HR : Hid (Q = []) := HE.out.symm
        have HX2 := hidA HX.out
        clear HX HE hn
        go_wp2_with fail
        go_meet
        exact ⟨rfl, _, _, by rw [HR.out], by rw [HR.out]; exact HX2, by rw [HR.out]; simp⟩
  case rest =>
  obtain ⟨rfl, aQ, cQ, rfl, HQ8, hQl⟩ := hcut
  clear HY8 HQ HQe hYl
  have hG := HG.out
  clear HG
  cases sg with
  | false =>
    rw [Bool.false_and] at hG
    have HGG := hidA hG
    clear hG
    go_wp2_with fail
    go_ret3
    exact ⟨aP, cP, aQ, cQ, by rw [HGG.out]; rfl, HP7.out, HQ8.out, HB4.out⟩
  | true =>
    rw [Bool.true_and] at hG
    have HGG := hidA hG
    clear hG
    go_wp2_with fail
    go_ret3
    exact ⟨aP, cP, aQ, cQ, by rw [HGG.out, ← dec_pos]; rfl, HP7.out, HQ8.out, HB4.out⟩
end Go.Proofs.YtdjefinehabifaaDoor
