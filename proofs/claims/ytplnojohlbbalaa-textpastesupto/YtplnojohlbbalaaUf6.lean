/- The plain answer's Paste. Condition: lengths that fit. -/
import Derived.Test.YtplnojohlbbalaaM9
namespace Go.Proofs.Ytplnojohlbbalaa
open Go.RowKit
attribute [local go_sem] ext_eq app_eq get_eq
set_option maxRecDepth 100000 in
set_option maxHeartbeats 16000000 in
/-- The second half, from the columns on. -/
theorem rPaste (L : List (List UInt8)) (d : List UInt8) (a : Option Addr) (c : Nat) (hL : L.flatten.length + L.length ≤ 1048577) (hd : d.length ≤ 1048577) (w : World) (hR : Rd w a L) : Calls Try.prog 16 #[.slice a L.length c, .string ⟨d.toArray⟩] w fun e w' => ∃ v B, e = .returned v ∧ By B w' v (Tl.pas d (L.map Tl.ls) (Tl.mx (L.map Tl.ls) L.length)) ∧ Below w.heap.size w w' := by
  obtain ⟨iB, hiB, hb0, hb1, hb2⟩ := infoB
  obtain ⟨iC, hiC, hr0, hr1, hr2⟩ := infoC
  have HR := hidA hR
  have HPl := hidA (fun m (hm : m ≤ 1048577) => Tl.pas_le hL d m hm)
  have hMx : Tl.mx (L.map Tl.ls) L.length ≤ 1048577 := by
    refine Tl.mx_le (fun c hc => ?_) _ (by rw [List.length_map]; exact Nat.le_refl _)
    obtain ⟨x, hx, rfl⟩ := List.mem_map.1 hc
    have h1 := Tl.ls_len x
    have h2 := (List.sublist_flatten_of_mem hx).length_le
    omega
  have hMk : ∀ k, k ≤ L.length → Tl.mx (L.map Tl.ls) k ≤ 1048577 := fun k hk => by
    refine Tl.mx_le (fun c hc => ?_) _ (by rw [List.length_map]; exact hk)
    obtain ⟨x, hx, rfl⟩ := List.mem_map.1 hc
    have h1 := Tl.ls_len x
    have h2 := (List.sublist_flatten_of_mem hx).length_le
    omega
  have HMk := hidA hMk
  have hCl : (L.map Tl.ls).length = L.length := List.length_map _
  have HCl := hidA hCl
  have HCk : Hid (∀ k (h : k < L.length) (h2 : k < (L.map Tl.ls).length), (L.map Tl.ls)[k]'h2 = Tl.ls L[k]) := fun k h h2 => by simp
  have hL2 : L.length ≤ 1048577 := by omega
  have HFe := hidA (fun k (h : k < L.length) => (show L[k].length ≤ 1048577 from by have := Tl.flat_each (X := L) h; omega))
  clear hR hMk hCl hL
  generalize L.map Tl.ls = C at *
  go_enter Try.func16, Try.ntmps16
  go_upto_region 4 with fail
  go_loopw [5, 6, 17] (fun s5 s6 s17 W => ∃ (k : Nat), s17 = .int .i64 k ∧ s6 = .int .i64 (Tl.mx C k) ∧ k ≤ L.length ∧ Hid (AC w.heap.size W s5 (C.take k)) ∧ Hid (Below w.heap.size w W)) (fun _ _ s17 _ => L.length - (intOf s17).toNat)
  case atStart => exact ⟨0, rfl, by rw [Tl.mx_zero]; rfl, Nat.zero_le _, hidA (AC.nil _ _), hidA (Below.refl _ _)⟩
  case round =>
    obtain ⟨k, rfl, rfl, hk, HA, HB⟩ := hrel
    by_cases hlt : k < L.length
    · obtain ⟨g, o, a', c', rfl, hg, hc0, hs⟩ := HR.out k hlt
      have hc : wr.cell? ⟨g, o + k, none⟩ = some (.slice a' L[k].length c') := (HB.out.cell (p := ⟨g, o + k, none⟩) hg).trans hc0
      have hgw : g < wr.heap.size := Nat.lt_of_lt_of_le hg HB.out.size
      have hw1 : IntKind.i64.wrap ((k : Int) + 1) = ((k + 1 : Nat) : Int) := by rw [IntKind.wrap_i64]; omega
      have HT := hidA (rLinesB L[k] a' c' (HFe.out k hlt) wr (hs.grow HB.out).src)
      have hltC : k < C.length := by rw [HCl.out]; exact hlt
      have hms := Tl.mx_succ hltC
      have htk : C.take (k + 1) = C.take k ++ [C[k]] := List.take_succ_eq_append_getElem hltC
      rw [HCk.out k hlt hltC] at hms htk
      have HTk := hidA htk
      obtain ⟨a5, c5, hv5⟩ := HA.out.slice
      subst hv5
      have hsz := hidA HB.out.size
      have htl : (C.take k).length ≤ 1048577 := by rw [List.length_take]; omega
      have hyl := Tl.ls_len L[k]
      have hbl := HFe.out k hlt
      have HMs := hidA hms
      clear hc0 hs htk HR hltC hms
      generalize Tl.ls L[k] = Y at *
      generalize L[k] = x0 at *
      generalize C.take k = C0 at *
      generalize Tl.mx C k = M at *
      have hmxs : Hid (Tl.mx C (k + 1) = max M Y.length) := HMs
      by_cases hgt : M < Y.length
      · have hmaxI : Hid (Tl.mx C (k + 1) = Y.length) := by show _ = _; rw [hmxs.out]; omega
        clear hmxs HMs
        go_wp2_with (first
          | (go_at_call 8; (with_reducible refine HT.out.mono ?_); rintro e w2 ⟨v, rfl, h1, b1⟩; obtain ⟨vs, o1, o2, o4⟩ := HA.out.grow b1; have HO := hidA o1; have HP := hidA (fun (v' : Value) (w' : World) (ob : Obj) hown hg => AC.push (v' := v') (w' := w') (u := v) o1 o2 o4 (h1.mono hsz.out) ob hown hg); have HB2 := hidA (HB.out.trans (b1.mono hsz.out)); have hsz2 := hidA HB2.out.size; obtain ⟨aY, cY, hv⟩ := h1.slice; subst hv; clear h1 b1)
          | (at_builtin; refine wpList_append_own_at _ rfl _ _ 47 rfl w.heap.size 23 iC (.slice none 0 0) 1 24 Try.underlying47 hiC hr0 hr1 hr2 rfl (by decide) _ _ _ rfl (HO.out.alloc _) ⟨w2.heap.size, 0, none⟩ 1 1 [.slice aY Y.length cY] rfl rfl (cell_one_new _ _ _) (by intro u hu; simp at hu; subst hu; rfl) (by unfold maxLen; omega) (by omega) (by have := hsz2.out; simp; omega) ?_; intro v3 w3 hown hg2 _ hat; have HA3 := hidA (HP.out v3 w3 _ hown hg2); have HB3 : Hid (Below w.heap.size w w3) := (HB2.out.alloc hsz2.out _).grown hg2 (by have := hsz2.out; simp; omega) (fun k hk => (HO.out.lt k hk).1); clear hown hg2 hat))
        exact ⟨⟨k + 1, by first | rfl | go_num, by rw [hmaxI.out], hlt, by rw [HTk.out]; exact HA3, HB3⟩, by simp [intOf]; omega⟩
      · have hmaxI : Hid (Tl.mx C (k + 1) = M) := by show _ = _; rw [hmxs.out]; omega
        clear hmxs HMs
        go_wp2_with (first
          | (go_at_call 8; (with_reducible refine HT.out.mono ?_); rintro e w2 ⟨v, rfl, h1, b1⟩; obtain ⟨vs, o1, o2, o4⟩ := HA.out.grow b1; have HO := hidA o1; have HP := hidA (fun (v' : Value) (w' : World) (ob : Obj) hown hg => AC.push (v' := v') (w' := w') (u := v) o1 o2 o4 (h1.mono hsz.out) ob hown hg); have HB2 := hidA (HB.out.trans (b1.mono hsz.out)); have hsz2 := hidA HB2.out.size; obtain ⟨aY, cY, hv⟩ := h1.slice; subst hv; clear h1 b1)
          | (at_builtin; refine wpList_append_own_at _ rfl _ _ 47 rfl w.heap.size 23 iC (.slice none 0 0) 1 24 Try.underlying47 hiC hr0 hr1 hr2 rfl (by decide) _ _ _ rfl (HO.out.alloc _) ⟨w2.heap.size, 0, none⟩ 1 1 [.slice aY Y.length cY] rfl rfl (cell_one_new _ _ _) (by intro u hu; simp at hu; subst hu; rfl) (by unfold maxLen; omega) (by omega) (by have := hsz2.out; simp; omega) ?_; intro v3 w3 hown hg2 _ hat; have HA3 := hidA (HP.out v3 w3 _ hown hg2); have HB3 : Hid (Below w.heap.size w w3) := (HB2.out.alloc hsz2.out _).grown hg2 (by have := hsz2.out; simp; omega) (fun k hk => (HO.out.lt k hk).1); clear hown hg2 hat))
        exact ⟨⟨k + 1, by first | rfl | go_num, by rw [hmaxI.out], hlt, by rw [HTk.out]; exact HA3, HB3⟩, by simp [intOf]; omega⟩
    · have EK : k = L.length := by omega
      rw [EK, ← HCl.out, List.take_length] at HA
      rw [EK]
      obtain ⟨a5, c5, hv5⟩ := HA.out.slice
      subst hv5
      have HCd := hidA HA.out.cd
      have HBw := hidA HB.out
      have hkf : ¬ (L.length : Int) < (L.length : Int) := by omega
      have hCl2 : C.length ≤ 1048577 := by rw [HCl.out]; exact hL2
      have HMI : Hid (Tl.mx C L.length = Tl.mx C L.length) := rfl
      clear HA HB hlt hk EK
      obtain ⟨w1, hww⟩ : ∃ w1, w1 = wr := ⟨_, rfl⟩
      subst hww
      generalize hM : Tl.mx C L.length = M at *
      have HM := hidA hM
      clear hM
      go_upto_region 13 with fail
      go_loopw [11, 12] (fun s11 s12 W => ∃ (i : Nat), s12 = .int .i64 i ∧ i ≤ M ∧ Hid (By w1.heap.size W s11 (Tl.pas d C i)) ∧ Hid (Below w1.heap.size w1 W)) (fun _ s12 _ => M - (intOf s12).toNat)
      case atStart => exact ⟨0, rfl, Nat.zero_le _, hidA (by show By _ _ _ _; rw [Tl.pas_zero]; exact By.nil _ _), hidA (Below.refl _ _)⟩
      case round =>
        obtain ⟨i, rfl, hi, HOo, HBo⟩ := hrel
        by_cases hiM : i < M
        · have hwi : IntKind.i64.wrap ((i : Int) + 1) = ((i + 1 : Nat) : Int) := by rw [IntKind.wrap_i64]; omega
          have hps := hidA (Tl.pas_succ d C i)
          have hpl1 := HPl.out (i + 1) (by omega)
          rw [hps.out, List.length_append] at hpl1
          have hXC := hidA (Tl.rw_len C i)
          have HXd : Hid (∀ k (h : k < (Tl.rw' C i).length), (Tl.rw' C i)[k] = (C[k]'(by rw [← hXC.out]; exact h)).getD i []) := fun k h => by simp [Tl.rw']
          have hln : (Tl.lnj d (Tl.rw' C i)).length = (Tl.jn d 0 (Tl.rw' C i)).length + 1 := by unfold Tl.lnj; rw [List.length_append]; rfl
          have hpe : Hid (Tl.pas d C (i + 1) = Tl.pas d C i ++ (Tl.jn d 0 (Tl.rw' C i) ++ [10])) := hps.out
          rw [hln] at hpl1
          clear hps hln
          generalize Tl.rw' C i = X at *
          generalize Tl.pas d C i = p at *
          have hF2 : p.length + (Tl.jn d 0 X).length + 1 ≤ 2 ^ 46 := by omega
          obtain ⟨a0, c0, hv0⟩ := HOo.out.slice
          subst hv0
          have HO0 := hidA (show By w1.heap.size wr (.slice a0 p.length c0) (p ++ []) by rw [List.append_nil]; exact HOo.out)
          have HB0 := HBo
          have HW0 := hidA (Tl.Jn.zero d X)
          have hiMI : (i : Int) < (M : Int) := by omega
          have HiM := hidA hiM
          clear HOo hiM
          go_upto_region 16 with fail
          go_loopw [11, 44] (fun s11 s44 W => ∃ (k : Nat) (q P : List UInt8), s44 = .int .i64 k ∧ k ≤ X.length ∧ Hid (Tl.Jn d X q k) ∧ Hid (P = p ++ q) ∧ Hid (By w1.heap.size W s11 P) ∧ Hid (Below w1.heap.size w1 W)) (fun _ s44 _ => X.length - (intOf s44).toNat)
          case atStart => exact ⟨0, [], p ++ [], rfl, Nat.zero_le _, HW0, hidA rfl, HO0, HB0⟩
          case round =>
            obtain ⟨k, q, P, rfl, hk, HWh, HP, HO, HB⟩ := hrel
            clear HB0 HO0 HW0
            obtain ⟨a3, c3, hv3⟩ := HO.out.slice
            subst hv3
            have hpc := HO.out.sr.le
            have hwsz := hidA HB.out.size
            have hPl : P.length = p.length + q.length := by rw [HP.out, List.length_append]
            by_cases hlt : k < X.length
            · have hltC : k < C.length := by rw [← hXC.out]; exact hlt
              obtain ⟨g, o, a2, c2, rfl, hg, hcc0, hrd⟩ := HCd.out k hltC
              have hcc : wr.cell? ⟨g, o + k, none⟩ = some (.slice a2 C[k].length c2) := (HB.out.cell (p := ⟨g, o + k, none⟩) hg).trans hcc0
              have hgw : g < wr.heap.size := Nat.lt_of_lt_of_le hg HB.out.size
              have hw1 : IntKind.i64.wrap ((k : Int) + 1) = ((k + 1 : Nat) : Int) := by rw [IntKind.wrap_i64]; omega
              have hltI : (k : Int) < (C.length : Int) := by omega
              have HO3 := hidA HO.out.own
              have hXk : X[k] = C[k].getD i [] := by rw [HXd.out k hlt]
              rcases (show (i < C[k].length ∧ ∃ g2 o2 a' c', a2 = some ⟨g2, o2, none⟩ ∧ g2 < w1.heap.size ∧ w1.cell? ⟨g2, o2 + i, none⟩ = some (.slice a' X[k].length c') ∧ Sr w1 a' c' X[k]) ∨ (¬ i < C[k].length ∧ X[k] = []) from by
                by_cases h9 : i < C[k].length
                · obtain ⟨g2, o2, a', c', e, q1, q2, q3⟩ := hrd i h9
                  have e9 : X[k] = C[k][i] := by rw [hXk, List.getD_eq_getElem?_getD, List.getElem?_eq_getElem h9]; rfl
                  rw [e9]
                  exact .inl ⟨h9, g2, o2, a', c', e, q1, q2, q3⟩
                · exact .inr ⟨h9, by rw [hXk, List.getD_eq_getElem?_getD, List.getElem?_eq_none (by omega)]; rfl⟩) with ⟨hil, g2, o2, a', c', rfl, hg2, hc0, hs⟩ | ⟨hil, hx0⟩
              · have hilI : (i : Int) < (C[k].length : Int) := by omega
                have hc : wr.cell? ⟨g2, o2 + i, none⟩ = some (.slice a' X[k].length c') := (HB.out.cell (p := ⟨g2, o2 + i, none⟩) hg2).trans hc0
                have hgw2 : g2 < wr.heap.size := Nat.lt_of_lt_of_le hg2 HB.out.size
                have HSx := hidA (hs.grow HB.out)
                have HS0 := hidA (fun W (b : Below w1.heap.size w1 W) => hs.grow b)
                have HC0 := hidA (fun W (b : Below w1.heap.size w1 W) => (b.cell (p := ⟨g2, o2 + i, none⟩) hg2).trans hc0)
                clear hs hc0 hrd hcc0 hXk
                generalize C[k].length = n at *
                by_cases hm : 0 < k ∧ d ≠ []
                · have HW2 := hidA (HWh.out.sep hlt hm.1 hm.2)
                  have hle := HW2.out.le
                  simp only [List.length_append, List.length_cons, List.length_nil] at hle
                  have hkI : (0 : Int) < (k : Int) := by omega
                  have hdl : 0 < d.length := List.length_pos_iff.2 hm.2
                  have hie : d.isEmpty = false := by
                    cases d with
                    | nil => exact absurd rfl hm.2
                    | cons x r => rfl
                  have hsub : IntKind.i64.wrap ((k : Int) - 1) = ((k - 1 : Nat) : Int) := by rw [IntKind.wrap_i64]; omega
                  have hmod : (((k - 1 : Nat) : Int)).tmod (d.length : Int) = (((k - 1) % d.length : Nat) : Int) := by exact (Int.ofNat_tmod _ _).symm
                  have hml : (k - 1) % d.length < d.length := Nat.mod_lt _ hdl
                  have hdz : ((d.length : Int) == 0) = false := beq_eq_false_iff_ne.2 (by omega)
                  have hdn : ¬ (d.length : Int) = 0 := by omega
                  have hgd : d.getD ((k - 1) % d.length) 0 = d[(k - 1) % d.length] := by rw [List.getD_eq_getElem?_getD, List.getElem?_eq_getElem hml]; rfl
                  rw [hgd] at HW2
                  generalize hj : (k - 1) % d.length = j at *
                  clear hj hgd
                  obtain ⟨y, hy⟩ : ∃ y, y = d[j] := ⟨_, rfl⟩
                  rw [← hy] at HW2
                  obtain ⟨q1, hq1⟩ : ∃ q1, q1 = P ++ [y] := ⟨_, rfl⟩
                  have HQ1 := hidA hq1
                  have hq1l : q1.length + X[k].length ≤ 2 ^ 46 := by rw [hq1, List.length_append]; simp only [List.length_cons, List.length_nil]; omega
                  have hq1p : 0 < q1.length := by rw [hq1, List.length_append]; simp
                  have hP1 : P.length + 1 ≤ 2 ^ 46 := by omega
                  have hgy : d[j] = y := hy.symm
                  have HE : Hid (q1 ++ X[k] = p ++ (q ++ [y] ++ X[k])) := by show _ = _; rw [hq1, HP.out]; simp [List.append_assoc]
                  clear hq1 hle HWh HP hPl hm hy
                  generalize X[k] = x at *
                  cases a' with
                  | none =>
                    have hx0 : x = [] := List.length_eq_zero_iff.1 (by have h1 := HSx.out.nil rfl; have h2 := HSx.out.le; omega)
                    subst hx0
                    have hc'0 := HSx.out.nil rfl
                    subst hc'0
                    have hc9 : wr.cell? ⟨g2, o2 + i, none⟩ = some (.slice none 0 0) := hc
                    clear hc HSx HS0
                    rw [List.append_nil] at HW2
                    rw [List.append_nil, List.append_nil] at HE
                    cases a3
                    all_goals
                      go_wp2_with (at_builtin; refine wpList_append_own_at _ rfl _ _ 22 rfl w1.heap.size 5 iB (.int .u8 0) 1 1 Try.underlying22 hiB hb0 hb1 hb2 rfl (by decide) _ _ _ rfl (HO3.out.alloc _) ⟨wr.heap.size, 0, none⟩ 1 1 [.int .u8 y.toNat] rfl rfl (cell_one_new _ _ _) (one_u8 _) (by unfold maxLen; omega) (by omega) (by have := hwsz.out; simp; omega) ?_; intro v2 w2 hown hg2 _ hat; have HO2 : Hid (By w1.heap.size w2 v2 q1) := (by rw [HQ1.out]; exact By.app1 hown); have HB2 : Hid (Below w1.heap.size w1 w2) := (HB.out.alloc hwsz.out _).grown hg2 (by have := hwsz.out; simp; omega) (fun k hk => (HO3.out.lt k hk).1); obtain ⟨g4, c4, hv4⟩ := HO2.out.some hq1p; subst hv4; have hpc5 := HO2.out.sr.le; have hcw : w2.cell? ⟨g2, o2 + i, none⟩ = some (.slice none 0 0) := HC0.out _ HB2.out; clear hown hg2 hat)
                      exact ⟨⟨k + 1, _, q1, by first | rfl | go_num, hlt, HW2, HE, HO2, HB2⟩, by simp [intOf]; omega⟩
                  | some ad =>
                    go_wp2_with (first
                      | (at_builtin; refine wpList_append_own_at _ rfl _ _ 22 rfl w1.heap.size 5 iB (.int .u8 0) 1 1 Try.underlying22 hiB hb0 hb1 hb2 rfl (by decide) _ _ _ rfl (HO3.out.alloc _) ⟨wr.heap.size, 0, none⟩ 1 1 [.int .u8 y.toNat] rfl rfl (cell_one_new _ _ _) (one_u8 _) (by unfold maxLen; omega) (by omega) (by have := hwsz.out; simp; omega) ?_; intro v2 w2 hown hg2 _ hat; have HO2 : Hid (By w1.heap.size w2 v2 q1) := (by rw [HQ1.out]; exact By.app1 hown); have HB2 : Hid (Below w1.heap.size w1 w2) := (HB.out.alloc hwsz.out _).grown hg2 (by have := hwsz.out; simp; omega) (fun k hk => (HO3.out.lt k hk).1); obtain ⟨g4, c4, hv4⟩ := HO2.out.some hq1p; subst hv4; have hpc5 := HO2.out.sr.le; have HO4 := hidA HO2.out.own; have hcw := HC0.out _ HB2.out; clear hown hg2 hat)
                      | (at_builtin; refine wpList_append_own_at _ rfl _ _ 22 rfl w1.heap.size 5 iB (.int .u8 0) 1 1 Try.underlying22 hiB hb0 hb1 hb2 rfl (by decide) _ _ _ rfl HO4.out ad x.length c' (bCs x) rfl (by rw [bCs_len, Nat.mul_one]) (fun j u hj => (HS0.out _ HB2.out).src.cells_at j u hj) (bCs_one x) (by unfold maxLen; omega) (by omega) (by have := HB2.out.size; omega) ?_; intro v3 w3 hown hg2 _ hat; have HO5 := hidA (By.of_app hown); have HB5 : Hid (Below w1.heap.size w1 w3) := HB2.out.grown hg2 HB2.out.size (fun k hk => (HO4.out.lt k hk).1); clear hown hg2 hat))
                    exact ⟨⟨k + 1, _, _, by first | rfl | go_num, hlt, HW2, HE, HO5, HB5⟩, by simp [intOf]; omega⟩
                · have HW2 := hidA (HWh.out.bare hlt hm)
                  have hle := HW2.out.le
                  simp only [List.length_append] at hle
                  have hPx : P.length + X[k].length ≤ 2 ^ 46 := by omega
                  have HE : Hid (P ++ X[k] = p ++ (q ++ X[k])) := by show _ = _; rw [HP.out]; simp [List.append_assoc]
                  have hcs : ¬ (0 : Int) < (k : Int) ∨ ((0 : Int) < (k : Int) ∧ d.isEmpty = true) := by
                    by_cases h9 : 0 < k
                    · refine .inr ⟨by omega, ?_⟩
                      cases d with
                      | nil => rfl
                      | cons x r => exact absurd ⟨h9, List.cons_ne_nil _ _⟩ hm
                    · exact .inl (by omega)
                  clear hle HWh HP hPl hm
                  generalize X[k] = x at *
                  cases a' with
                  | none =>
                    have hx0 : x = [] := List.length_eq_zero_iff.1 (by have h1 := HSx.out.nil rfl; have h2 := HSx.out.le; omega)
                    subst hx0
                    have hc'0 := HSx.out.nil rfl
                    subst hc'0
                    have hc9 : wr.cell? ⟨g2, o2 + i, none⟩ = some (.slice none 0 0) := hc
                    clear hc HSx HS0
                    rw [List.append_nil] at HW2
                    rw [List.append_nil, List.append_nil] at HE
                    rcases hcs with hcs | ⟨hcs, hcs2⟩ <;> cases a3
                    all_goals
                      go_wp2_with fail
                      exact ⟨⟨k + 1, _, P, by first | rfl | go_num, hlt, HW2, HE, HO, HB⟩, by simp [intOf]; omega⟩
                  | some ad =>
                    rcases hcs with hcs | ⟨hcs, hcs2⟩
                    all_goals
                      go_wp2_with (at_builtin; refine wpList_append_own_at _ rfl _ _ 22 rfl w1.heap.size 5 iB (.int .u8 0) 1 1 Try.underlying22 hiB hb0 hb1 hb2 rfl (by decide) _ _ _ rfl HO3.out ad x.length c' (bCs x) rfl (by rw [bCs_len, Nat.mul_one]) (fun j u hj => (HS0.out _ HB.out).src.cells_at j u hj) (bCs_one x) (by unfold maxLen; omega) (by omega) (by have := HB.out.size; omega) ?_; intro v3 w3 hown hg2 _ hat; have HO5 := hidA (By.of_app hown); have HB5 : Hid (Below w1.heap.size w1 w3) := HB.out.grown hg2 HB.out.size (fun k hk => (HO3.out.lt k hk).1); clear hown hg2 hat)
                      exact ⟨⟨k + 1, _, _, by first | rfl | go_num, hlt, HW2, HE, HO5, HB5⟩, by simp [intOf]; omega⟩
              · have hilI : ¬ (i : Int) < (C[k].length : Int) := by omega
                clear hrd hcc0 hXk
                generalize C[k].length = n at *
                by_cases hm : 0 < k ∧ d ≠ []
                · have HW2 := hidA (HWh.out.sep hlt hm.1 hm.2)
                  have hle := HW2.out.le
                  simp only [List.length_append, List.length_cons, List.length_nil] at hle
                  have hkI : (0 : Int) < (k : Int) := by omega
                  have hdl : 0 < d.length := List.length_pos_iff.2 hm.2
                  have hie : d.isEmpty = false := by
                    cases d with
                    | nil => exact absurd rfl hm.2
                    | cons x r => rfl
                  have hsub : IntKind.i64.wrap ((k : Int) - 1) = ((k - 1 : Nat) : Int) := by rw [IntKind.wrap_i64]; omega
                  have hmod : (((k - 1 : Nat) : Int)).tmod (d.length : Int) = (((k - 1) % d.length : Nat) : Int) := by exact (Int.ofNat_tmod _ _).symm
                  have hml : (k - 1) % d.length < d.length := Nat.mod_lt _ hdl
                  have hdz : ((d.length : Int) == 0) = false := beq_eq_false_iff_ne.2 (by omega)
                  have hdn : ¬ (d.length : Int) = 0 := by omega
                  have hgd : d.getD ((k - 1) % d.length) 0 = d[(k - 1) % d.length] := by rw [List.getD_eq_getElem?_getD, List.getElem?_eq_getElem hml]; rfl
                  rw [hgd] at HW2
                  generalize hj : (k - 1) % d.length = j at *
                  clear hj hgd
                  obtain ⟨y, hy⟩ : ∃ y, y = d[j] := ⟨_, rfl⟩
                  rw [← hy] at HW2
                  obtain ⟨q1, hq1⟩ : ∃ q1, q1 = P ++ [y] := ⟨_, rfl⟩
                  have HQ1 := hidA hq1
                  have hq1l : q1.length + X[k].length ≤ 2 ^ 46 := by rw [hq1, List.length_append]; simp only [List.length_cons, List.length_nil]; omega
                  have hq1p : 0 < q1.length := by rw [hq1, List.length_append]; simp
                  have hP1 : P.length + 1 ≤ 2 ^ 46 := by omega
                  have hgy : d[j] = y := hy.symm
                  have HE : Hid (q1 ++ X[k] = p ++ (q ++ [y] ++ X[k])) := by show _ = _; rw [hq1, HP.out]; simp [List.append_assoc]
                  clear hq1 hle HWh HP hPl hm hy
                  rw [hx0] at HE HW2
                  rw [List.append_nil] at HW2
                  rw [List.append_nil, List.append_nil] at HE
                  cases a3
                  all_goals
                    go_wp2_with (at_builtin; refine wpList_append_own_at _ rfl _ _ 22 rfl w1.heap.size 5 iB (.int .u8 0) 1 1 Try.underlying22 hiB hb0 hb1 hb2 rfl (by decide) _ _ _ rfl (HO3.out.alloc _) ⟨wr.heap.size, 0, none⟩ 1 1 [.int .u8 y.toNat] rfl rfl (cell_one_new _ _ _) (one_u8 _) (by unfold maxLen; omega) (by omega) (by have := hwsz.out; simp; omega) ?_; intro v2 w2 hown hg2 _ hat; have HO2 : Hid (By w1.heap.size w2 v2 q1) := (by rw [HQ1.out]; exact By.app1 hown); have HB2 : Hid (Below w1.heap.size w1 w2) := (HB.out.alloc hwsz.out _).grown hg2 (by have := hwsz.out; simp; omega) (fun k hk => (HO3.out.lt k hk).1); obtain ⟨g4, c4, hv4⟩ := HO2.out.some hq1p; subst hv4; have hpc5 := HO2.out.sr.le; clear hown hg2 hat)
                    exact ⟨⟨k + 1, _, q1, by first | rfl | go_num, hlt, HW2, HE, HO2, HB2⟩, by simp [intOf]; omega⟩
                · have HW2 := hidA (HWh.out.bare hlt hm)
                  have hle := HW2.out.le
                  simp only [List.length_append] at hle
                  have hPx : P.length + X[k].length ≤ 2 ^ 46 := by omega
                  have HE : Hid (P ++ X[k] = p ++ (q ++ X[k])) := by show _ = _; rw [HP.out]; simp [List.append_assoc]
                  have hcs : ¬ (0 : Int) < (k : Int) ∨ ((0 : Int) < (k : Int) ∧ d.isEmpty = true) := by
                    by_cases h9 : 0 < k
                    · refine .inr ⟨by omega, ?_⟩
                      cases d with
                      | nil => rfl
                      | cons x r => exact absurd ⟨h9, List.cons_ne_nil _ _⟩ hm
                    · exact .inl (by omega)
                  clear hle HWh HP hPl hm
                  rw [hx0] at HE HW2
                  rw [List.append_nil] at HW2
                  rw [List.append_nil, List.append_nil] at HE
                  rcases hcs with hcs | ⟨hcs, hcs2⟩ <;> cases a3
                  all_goals
                    go_wp2_with fail
                    exact ⟨⟨k + 1, _, P, by first | rfl | go_num, hlt, HW2, HE, HO, HB⟩, by simp [intOf]; omega⟩
            · have hltC : ¬ (k : Int) < (C.length : Int) := by have := hXC.out; omega
              have HD := hidA (HWh.out.done hlt)
              have hP1 : P.length + 1 ≤ 2 ^ 46 := by rw [HD.out] at hF2; omega
              have HO3 := hidA HO.out.own
              clear HWh hPl
              go_wp2_with (at_builtin; refine wpList_append_own_at _ rfl _ _ 22 rfl w1.heap.size 5 iB (.int .u8 0) 1 1 Try.underlying22 hiB hb0 hb1 hb2 rfl (by decide) _ _ _ rfl (HO3.out.alloc _) ⟨wr.heap.size, 0, none⟩ 1 1 [.int .u8 10] rfl rfl (cell_one_new _ _ _) (one_u8 _) (by unfold maxLen; omega) (by omega) (by have := hwsz.out; simp; omega) ?_; intro v2 w2 hown hg2 _ hat; have HO2 := hidA (By.app1 (x := 10) hown); have HB2 : Hid (Below w1.heap.size w1 w2) := (HB.out.alloc hwsz.out _).grown hg2 (by have := hwsz.out; simp; omega) (fun k hk => (HO3.out.lt k hk).1); clear hown hg2 hat)
              have HE : Hid (P ++ [10] = p ++ (Tl.jn d 0 X ++ [10])) := by show _ = _; rw [HD.out, HP.out, List.append_assoc]
              exact ⟨⟨i + 1, by first | rfl | go_num, HiM.out, by rw [hpe.out, ← HE.out]; exact HO2, HB2⟩, by have := HiM.out; simp [intOf]; omega⟩
        · have EI : Hid (i = M) := by show _ = _; omega
          have hiMI : ¬ (i : Int) < (M : Int) := by omega
          go_wp2_with fail
          go_ret
          exact ⟨_, rfl, ⟨w1.heap.size, by rw [HM.out, ← EI.out]; exact HOo.out⟩, HBw.out.trans (HBo.out.mono HBw.out.size)⟩
end Go.Proofs.Ytplnojohlbbalaa
