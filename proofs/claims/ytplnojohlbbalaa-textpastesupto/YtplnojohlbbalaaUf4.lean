/- The plain answer's Serial. Condition: lengths that fit. -/
import Derived.Test.YtplnojohlbbalaaM8
namespace Go.Proofs.Ytplnojohlbbalaa
open Go.RowKit
attribute [local go_sem] ext_eq app_eq get_eq
set_option maxRecDepth 100000 in
set_option maxHeartbeats 8000000 in
theorem rSerial (L : List (List UInt8)) (d : List UInt8) (a : Option Addr) (c : Nat) (hL : L.flatten.length + L.length ≤ 1048577) (hd : d.length ≤ 1048577) (w : World) (hR : Rd w a L) : Calls Try.prog 18 #[.slice a L.length c, .string ⟨d.toArray⟩] w fun e w' => ∃ v, e = .returned v ∧ By w.heap.size w' v (Tl.ser d L L.length) ∧ Below w.heap.size w w' := by
  obtain ⟨iB, hiB, hb0, hb1, hb2⟩ := infoB
  have HR := hidA hR
  have HL := hidA (Tl.ser_len d L 1048577 hL)
  have HO0 := hidA (show By w.heap.size w (.slice none 0 0) (Tl.ser d L 0) by rw [Tl.ser_zero]; exact By.nil _ _)
  clear hR
  go_enter Try.func18, Try.ntmps18
  go_upto_region 3 with fail
  go_loopw [5, 14] (fun s5 s14 W => ∃ (k : Nat), s14 = .int .i64 k ∧ k ≤ L.length ∧ Hid (By w.heap.size W s5 (Tl.ser d L k)) ∧ Hid (Below w.heap.size w W)) (fun _ s14 _ => L.length - (intOf s14).toNat)
  case atStart => exact ⟨0, rfl, Nat.zero_le _, HO0, hidA (Below.refl _ _)⟩
  case round =>
    obtain ⟨m, rfl, hm, HOo, HBo⟩ := hrel
    clear HO0
    by_cases hlt : m < L.length
    · obtain ⟨g, o, a', c', rfl, hg, hc0, hs⟩ := HR.out m hlt
      have hc : wr.cell? ⟨g, o + m, none⟩ = some (.slice a' L[m].length c') := (HBo.out.cell (p := ⟨g, o + m, none⟩) hg).trans hc0
      have hgw : g < wr.heap.size := Nat.lt_of_lt_of_le hg HBo.out.size
      have hwm : IntKind.i64.wrap ((m : Int) + 1) = ((m + 1 : Nat) : Int) := by rw [IntKind.wrap_i64]; omega
      have hbl : L[m].length ≤ 1048577 := by have := Tl.flat_each (X := L) hlt; omega
      have HT := hidA (rLinesB L[m] a' c' hbl wr (hs.grow HBo.out).src)
      have hsu := Tl.ser_succ (d := d) hlt
      have hl1 := HL.out (m + 1)
      rw [hsu, List.length_append] at hl1
      have HSu : Hid (Tl.ser d L (m + 1) = Tl.ser d L m ++ (Tl.jn d 0 (Tl.ls L[m]) ++ [10])) := hsu
      have hyl := Tl.ls_len L[m]
      have hln : (Tl.lnj d (Tl.ls L[m])).length = (Tl.jn d 0 (Tl.ls L[m])).length + 1 := by unfold Tl.lnj; rw [List.length_append]; rfl
      rw [hln] at hl1
      clear hc0 hs hsu hln
      generalize Tl.ls L[m] = Y at *
      generalize L[m] = x0 at *
      have hlt0 := hidA hlt
      generalize Tl.ser d L m = p at *
      have hF2 : p.length + (Tl.jn d 0 Y).length + 1 ≤ 2 ^ 46 := by omega
      obtain ⟨a0, c0, hv0⟩ := HOo.out.slice
      subst hv0
      have hOlt := fun g (h : (Value.slice a0 p.length c0).ownBlock = some g) => (HOo.out.own.lt g h).2
      have HOl := hidA hOlt
      clear hOlt
      go_upto_region 7 with (go_at_call 8; (with_reducible refine HT.out.mono ?_); rintro e w3 ⟨v, rfl, h1, b1⟩; obtain ⟨aY, cY, hv⟩ := h1.slice; subst hv; have HRi := hidA h1.ri; have HO0 := hidA (show By w.heap.size w3 (.slice a0 p.length c0) (p ++ []) by rw [List.append_nil]; exact HOo.out.grow b1); have HB0 := hidA (HBo.out.trans (b1.mono HBo.out.size)); have HQ0 : Hid (∀ g, (Value.slice a0 p.length c0).ownBlock = some g → g < wr.heap.size ∨ w3.heap.size ≤ g) := (fun g h => .inl (HOl.out g h)); have HK0 : Hid (Kp wr.heap.size w3.heap.size w3 w3) := ⟨Nat.le_refl _, fun _ _ _ => rfl⟩; clear h1 b1)
      generalize wr.heap.size = lo at *
      generalize w3.heap.size = hi at *
      have HW0 := hidA (Tl.Jn.zero d Y)
      have hpl0 : (p ++ []).length = p.length := by simp
      have hv1 : Value.slice a0 p.length c0 = Value.slice a0 (p ++ []).length c0 := by rw [hpl0]
      clear hpl0 hc hgw
      go_loopw [5, 25] (fun s5 s25 W => ∃ (k : Nat) (q P : List UInt8), s25 = .int .i64 k ∧ k ≤ Y.length ∧ Hid (Tl.Jn d Y q k) ∧ Hid (P = p ++ q) ∧ Hid (By w.heap.size W s5 P) ∧ Hid (∀ g, s5.ownBlock = some g → g < lo ∨ hi ≤ g) ∧ Hid (Kp lo hi w3 W) ∧ Hid (Below w.heap.size w W)) (fun _ s25 _ => Y.length - (intOf s25).toNat)
      case atStart => exact ⟨0, [], p ++ [], rfl, Nat.zero_le _, HW0, hidA rfl, HO0, HQ0, HK0, HB0⟩
      case round =>
        obtain ⟨k, q, P, rfl, hk, HWh, HP, HO, HQ, HK, HB⟩ := hrel
        clear HB0 HO0 HW0 HQ0 HK0
        obtain ⟨a3, c3, hv3⟩ := HO.out.slice
        subst hv3
        have hpc := HO.out.sr.le
        have hwsz := hidA HB.out.size
        have hPl : P.length = p.length + q.length := by rw [HP.out, List.length_append]
        by_cases hlt : k < Y.length
        · obtain ⟨g, a', c', rfl, hgw, hc, hs⟩ := HRi.out.at HK.out hlt
          have hw1 : IntKind.i64.wrap ((k : Int) + 1) = ((k + 1 : Nat) : Int) := by rw [IntKind.wrap_i64]; omega
          have HSx := hidA (hs _ HK.out)
          have HS0 := hidA hs
          have HO3 := hidA HO.out.own
          clear hs
          by_cases hm : 0 < k ∧ d ≠ []
          · have HW2 := hidA (HWh.out.sep hlt hm.1 hm.2)
            have hle := HW2.out.le
            simp only [List.length_append, List.length_cons, List.length_nil] at hle
            have hkI : (0 : Int) < (k : Int) := by omega
            have hdl : 0 < d.length := List.length_pos_iff.2 hm.2
            have hie : d.isEmpty = false := by
              cases d with
              | nil => exact absurd rfl hm.2
              | cons x r => rfl
            have hsub : IntKind.i64.wrap ((k : Int) - 1) = ((k - 1 : Nat) : Int) := by rw [IntKind.wrap_i64]; omega
            have hmod : (((k - 1 : Nat) : Int)).tmod (d.length : Int) = (((k - 1) % d.length : Nat) : Int) := by exact (Int.ofNat_tmod _ _).symm
            have hml : (k - 1) % d.length < d.length := Nat.mod_lt _ hdl
            have hdz : ((d.length : Int) == 0) = false := beq_eq_false_iff_ne.2 (by omega)
            have hdn : ¬ (d.length : Int) = 0 := by omega
            have hgd : d.getD ((k - 1) % d.length) 0 = d[(k - 1) % d.length] := by rw [List.getD_eq_getElem?_getD, List.getElem?_eq_getElem hml]; rfl
            rw [hgd] at HW2
            generalize hj : (k - 1) % d.length = j at *
            clear hj hgd
            obtain ⟨y, hy⟩ : ∃ y, y = d[j] := ⟨_, rfl⟩
            rw [← hy] at HW2
            obtain ⟨q1, hq1⟩ : ∃ q1, q1 = P ++ [y] := ⟨_, rfl⟩
            have HQ1 := hidA hq1
            have hq1l : q1.length + Y[k].length ≤ 2 ^ 46 := by rw [hq1, List.length_append]; simp only [List.length_cons, List.length_nil]; omega
            have hq1p : 0 < q1.length := by rw [hq1, List.length_append]; simp
            have hP1 : P.length + 1 ≤ 2 ^ 46 := by omega
            have hgy : d[j] = y := hy.symm
            have HE : Hid (q1 ++ Y[k] = p ++ (q ++ [y] ++ Y[k])) := by show _ = _; rw [hq1, HP.out]; simp [List.append_assoc]
            clear hq1 hle HWh HP hPl hm hy
            generalize Y[k] = x at *
            cases a' with
            | none =>
              have hx0 : x = [] := List.length_eq_zero_iff.1 (by have h1 := HSx.out.nil rfl; have h2 := HSx.out.le; omega)
              subst hx0
              have hc'0 := HSx.out.nil rfl
              subst hc'0
              have hc9 : wr.cell? ⟨g, k, none⟩ = some (.slice none 0 0) := hc
              rw [List.append_nil] at HW2
              rw [List.append_nil, List.append_nil] at HE
              clear hc HSx HS0
              cases a3
              all_goals
                go_wp2_with (at_builtin; refine wpList_append_own_at _ rfl _ _ 22 rfl w.heap.size 5 iB (.int .u8 0) 1 1 Try.underlying22 hiB hb0 hb1 hb2 rfl (by decide) _ _ _ rfl (HO3.out.alloc _) ⟨wr.heap.size, 0, none⟩ 1 1 [.int .u8 y.toNat] rfl rfl (cell_one_new _ _ _) (one_u8 _) (by unfold maxLen; omega) (by omega) (by have := hwsz.out; simp; omega) ?_; intro v2 w2 hown hg2 _ hat; have HO2 : Hid (By w.heap.size w2 v2 q1) := (by rw [HQ1.out]; exact By.app1 hown); obtain ⟨kp2, oq2⟩ := (HK.out.alloc _).grown HQ.out hg2 hat; have HK2 := hidA kp2; have HQ2 := hidA oq2; clear kp2 oq2; have HB2 : Hid (Below w.heap.size w w2) := (HB.out.alloc hwsz.out _).grown hg2 (by have := hwsz.out; simp; omega) (fun k hk => (HO3.out.lt k hk).1); obtain ⟨g4, c4, hv4⟩ := HO2.out.some hq1p; subst hv4; have hpc5 := HO2.out.sr.le; clear hown hg2 hat)
                exact ⟨⟨k + 1, _, q1, by first | rfl | go_num, hlt, HW2, HE, HO2, HQ2, HK2, HB2⟩, by simp [intOf]; omega⟩
            | some ad =>
              go_wp2_with (first
                | (at_builtin; refine wpList_append_own_at _ rfl _ _ 22 rfl w.heap.size 5 iB (.int .u8 0) 1 1 Try.underlying22 hiB hb0 hb1 hb2 rfl (by decide) _ _ _ rfl (HO3.out.alloc _) ⟨wr.heap.size, 0, none⟩ 1 1 [.int .u8 y.toNat] rfl rfl (cell_one_new _ _ _) (one_u8 _) (by unfold maxLen; omega) (by omega) (by have := hwsz.out; simp; omega) ?_; intro v2 w2 hown hg2 _ hat; have HO2 : Hid (By w.heap.size w2 v2 q1) := (by rw [HQ1.out]; exact By.app1 hown); obtain ⟨kp2, oq2⟩ := (HK.out.alloc _).grown HQ.out hg2 hat; have HK2 := hidA kp2; have HQ2 := hidA oq2; clear kp2 oq2; have HB2 : Hid (Below w.heap.size w w2) := (HB.out.alloc hwsz.out _).grown hg2 (by have := hwsz.out; simp; omega) (fun k hk => (HO3.out.lt k hk).1); obtain ⟨a4, c4, hv4⟩ := HO2.out.slice; subst hv4; have HO4 := hidA HO2.out.own; have hwsz2 := hidA HB2.out.size; clear hown hg2 hat HO3)
                | (at_builtin; refine wpList_append_own_at _ rfl _ _ 22 rfl w.heap.size 5 iB (.int .u8 0) 1 1 Try.underlying22 hiB hb0 hb1 hb2 rfl (by decide) _ _ _ rfl HO4.out ad x.length c' (bCs x) rfl (by rw [bCs_len, Nat.mul_one]) (fun j u hj => (HS0.out _ HK2.out).src.cells_at j u hj) (bCs_one x) (by unfold maxLen; omega) (by omega) hwsz2.out ?_; intro v3 w3 hown hg2 _ hat; have HO5 := hidA (By.of_app hown); obtain ⟨kp5, oq5⟩ := HK2.out.grown HQ2.out hg2 hat; have HK5 := hidA kp5; have HQ5 := hidA oq5; clear kp5 oq5; have HB5 : Hid (Below w.heap.size w w3) := HB2.out.grown hg2 hwsz2.out (fun k hk => (HO4.out.lt k hk).1); clear hown hg2 hat))
              exact ⟨⟨k + 1, _, _, by first | rfl | go_num, hlt, HW2, HE, HO5, HQ5, HK5, HB5⟩, by simp [intOf]; omega⟩
          · have HW2 := hidA (HWh.out.bare hlt hm)
            have hle := HW2.out.le
            simp only [List.length_append] at hle
            have hPx : P.length + Y[k].length ≤ 2 ^ 46 := by omega
            have HE : Hid (P ++ Y[k] = p ++ (q ++ Y[k])) := by show _ = _; rw [HP.out]; simp [List.append_assoc]
            have hcs : ¬ (0 : Int) < (k : Int) ∨ ((0 : Int) < (k : Int) ∧ d.isEmpty = true) := by
              by_cases h9 : 0 < k
              · refine .inr ⟨by omega, ?_⟩
                cases d with
                | nil => rfl
                | cons x r => exact absurd ⟨h9, List.cons_ne_nil _ _⟩ hm
              · exact .inl (by omega)
            clear hle HWh HP hPl hm
            generalize Y[k] = x at *
            cases a' with
            | none =>
              have hx0 : x = [] := List.length_eq_zero_iff.1 (by have h1 := HSx.out.nil rfl; have h2 := HSx.out.le; omega)
              subst hx0
              have hc'0 := HSx.out.nil rfl
              subst hc'0
              have hc9 : wr.cell? ⟨g, k, none⟩ = some (.slice none 0 0) := hc
              rw [List.append_nil] at HW2
              rw [List.append_nil, List.append_nil] at HE
              clear hc HSx HS0
              rcases hcs with hcs | ⟨hcs, hcs2⟩ <;> cases a3
              all_goals
                go_wp2_with fail
                exact ⟨⟨k + 1, _, P, by first | rfl | go_num, hlt, HW2, HE, HO, HQ, HK, HB⟩, by simp [intOf]; omega⟩
            | some ad =>
              rcases hcs with hcs | ⟨hcs, hcs2⟩
              all_goals
                go_wp2_with (at_builtin; refine wpList_append_own_at _ rfl _ _ 22 rfl w.heap.size 5 iB (.int .u8 0) 1 1 Try.underlying22 hiB hb0 hb1 hb2 rfl (by decide) _ _ _ rfl HO3.out ad x.length c' (bCs x) rfl (by rw [bCs_len, Nat.mul_one]) (fun j u hj => HSx.out.src.cells_at j u hj) (bCs_one x) (by unfold maxLen; omega) (by omega) hwsz.out ?_; intro v3 w3 hown hg2 _ hat; have HO5 := hidA (By.of_app hown); obtain ⟨kp5, oq5⟩ := HK.out.grown HQ.out hg2 hat; have HK5 := hidA kp5; have HQ5 := hidA oq5; clear kp5 oq5; have HB5 : Hid (Below w.heap.size w w3) := HB.out.grown hg2 hwsz.out (fun k hk => (HO3.out.lt k hk).1); clear hown hg2 hat)
                exact ⟨⟨k + 1, _, _, by first | rfl | go_num, hlt, HW2, HE, HO5, HQ5, HK5, HB5⟩, by simp [intOf]; omega⟩
        · have HD := hidA (HWh.out.done hlt)
          have hP1 : P.length + 1 ≤ 2 ^ 46 := by rw [HD.out] at hF2; omega
          have HO3 := hidA HO.out.own
          clear HWh hPl
          go_wp2_with (at_builtin; refine wpList_append_own_at _ rfl _ _ 22 rfl w.heap.size 5 iB (.int .u8 0) 1 1 Try.underlying22 hiB hb0 hb1 hb2 rfl (by decide) _ _ _ rfl (HO3.out.alloc _) ⟨wr.heap.size, 0, none⟩ 1 1 [.int .u8 10] rfl rfl (cell_one_new _ _ _) (one_u8 _) (by unfold maxLen; omega) (by omega) (by have := hwsz.out; simp; omega) ?_; intro v2 w2 hown hg2 _ hat; have HO2 := hidA (By.app1 (x := 10) hown); have HB2 : Hid (Below w.heap.size w w2) := (HB.out.alloc hwsz.out _).grown hg2 (by have := hwsz.out; simp; omega) (fun k hk => (HO3.out.lt k hk).1); clear hown hg2 hat)
          have HE : Hid (P ++ [10] = p ++ (Tl.jn d 0 Y ++ [10])) := by show _ = _; rw [HD.out, HP.out, List.append_assoc]
          exact ⟨⟨m + 1, by first | rfl | go_num, hlt0.out, by rw [HSu.out, ← HE.out]; exact HO2, HB2⟩, by simp [intOf]; omega⟩
    · have EK : Hid (m = L.length) := by show _ = _; omega
      go_wp2_with fail
      go_ret
      exact ⟨_, rfl, by rw [← EK.out]; exact HOo.out, HBo.out⟩
end Go.Proofs.Ytplnojohlbbalaa
