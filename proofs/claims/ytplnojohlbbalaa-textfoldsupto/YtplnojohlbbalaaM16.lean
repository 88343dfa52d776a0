/- Several texts of this claim, one behind the other, in their order. -/
import Derived.Test.YtplnojohlbbalaaM15
import Derived.Test.YtplnojohlbbalaaM11
import Derived.Test.YtplnojohlbbalaaM9
/- The plain answer's Fold. Condition: a length that fits. -/
namespace Go.Proofs.Ytplnojohlbbalaa
open Go.RowKit
attribute [local go_sem] ext_eq app_eq get_eq
theorem own_two {v2 : Value} {n r : Nat} {o : Option Nat} (h : v2.ownBlock = o ∨ v2.ownBlock = some n) (h1 : o ≠ some r) (h2 : r < n) : v2.ownBlock ≠ some r := by
  rcases h with h | h
  · rw [h]; exact h1
  · rw [h]; intro e; injection e with e; omega
set_option maxRecDepth 100000 in
set_option maxHeartbeats 8000000 in
theorem rFold (l : List UInt8) (a : Option Addr) (c : Nat) (wd : Int) (ws : Bool) (hl : l.length ≤ 1048576) (h1 : 1 ≤ wd) (w : World) (hS : Src w a l) : Calls Try.prog 20 #[.slice a l.length c, .int .i64 wd, .bool ws] w fun e w' => ∃ v, e = .returned (.tuple #[v, .int .i64 0]) ∧ By w.heap.size w' v (Fl.ft wd ws (Tl.prs l)) ∧ Below w.heap.size w w' := by
  have HL := hidA (rLinesB l a c (by omega) w hS)
  have hX := Tl.ls_le l
  have hXe := hidA (Tl.ls_each l (by omega))
  have HRs := hidA (fun i h => Fl.rho_step wd ws l i h)
  have hr0 : Fl.rho wd ws l 0 = [] := rfl
  have hrl : Fl.rho wd ws l (Tl.ls l).length = Fl.ft wd ws (Tl.prs l) := by
    unfold Fl.rho Tl.ls
    rw [List.length_map, List.take_length]
  have HRl := hidA (fun i => ft_le wd ws l i)
  have hre : ∀ i, Fl.ft wd ws ((Tl.prs l).take i) = Fl.rho wd ws l i := fun _ => rfl
  simp only [hre] at HRl
  rw [← hrl]
  have hn : ¬ wd < 1 := by omega
  clear hS hre hrl
  generalize Fl.rho wd ws l = ρ at *
  generalize Tl.eb l = y at *
  generalize Tl.ls l = X at *
  go_enter Try.func20, Try.ntmps20
  go_upto_region 6 with (go_at_call 8; (with_reducible refine HL.out.mono ?_); rintro e w1 ⟨v, rfl, h1, b1⟩; obtain ⟨aX, cX, hv⟩ := h1.slice; subst hv; have HR := hidA h1.rdr; have HB0 := hidA b1; clear h1 b1 HL)
  have HBr := hidA (Below.refl w1.heap.size w1)
  go_loopw [8, 28] (fun s8 s28 W => ∃ i : Nat, s28 = .int .i64 i ∧ i ≤ X.length ∧ Hid (By w1.heap.size W s8 (ρ i)) ∧ Hid (Below w1.heap.size w1 W)) (fun _ s28 _ => X.length - (intOf s28).toNat)
  case atStart => exact ⟨0, rfl, Nat.zero_le _, hidA (by show By _ _ _ _; rw [hr0]; exact By.nil _ _), HBr⟩
  case round =>
    obtain ⟨i, rfl, hi, HO, HB⟩ := hrel
    clear HBr
    by_cases hiX : i < X.length
    · obtain ⟨gX, oX, a', c', rfl, hgX, hcX, hs⟩ := HR.out i hiX
      have hcX2 : wr.cell? ⟨gX, oX + i, none⟩ = some (.slice a' X[i].length c') := (HB.out.cell (p := ⟨gX, oX + i, none⟩) hgX).trans hcX
      have hgw : gX < wr.heap.size := Nat.lt_of_lt_of_le hgX HB.out.size
      have hxl := hXe.out i hiX
      have hwi : IntKind.i64.wrap ((i : Int) + 1) = ((i + 1 : Nat) : Int) := by rw [IntKind.wrap_i64]; omega
      have hsub : IntKind.i64.wrap ((X.length : Int) - 1) = (X.length : Int) - 1 := by rw [IntKind.wrap_i64]; omega
      have HSx := hidA hs
      have hst := HRs.out i hiX
      have hrl := HRl.out i
      have HSt := hidA hst
      clear hs hst hcX HRs HRl hXe HR
      generalize X[i] = x at *
      have HFt := hidA (fun j (h : j < x.length) => Fl.fo_take (wd := wd) (ws := ws) (D := ρ i) h)
      have HFl := hidA (fun j => Fl.fo_len wd ws (ρ i) (x.take j))
      have hz : Fl.fo wd ws (ρ i) (x.take 0) = (ρ i, []) := rfl
      have hzx : Fl.fo wd ws (ρ i) (x.take x.length) = Fl.fo wd ws (ρ i) x := by rw [List.take_length]
      have HTl : Hid (Fl.tl wd ws (ρ i) x = (Fl.fo wd ws (ρ i) (x.take x.length)).1 ++ (Fl.fo wd ws (ρ i) (x.take x.length)).2) := by show _ = _; rw [hzx]; rfl
      clear hzx
      generalize hfo : (fun k => Fl.fo wd ws (ρ i) (x.take k)) = σ at *
      have hfo2 : ∀ k, Fl.fo wd ws (ρ i) (x.take k) = σ k := fun k => by rw [← hfo]
      simp only [hfo2] at HFl HFt hz HTl
      clear hfo hfo2
      go_upto_region 10 with fail
      go_loopw [8, 13, 35] (fun s8 s13 s35 W => ∃ (j : Nat) (D P : List UInt8), s35 = .int .i64 j ∧ j ≤ x.length ∧ Hid (σ j = (D, P)) ∧ Hid (FS w1.heap.size w1 W s8 s13 D P)) (fun _ _ s35 _ => x.length - (intOf s35).toNat)
      case atStart => exact ⟨0, ρ i, [], rfl, Nat.zero_le _, hidA hz, hidA (FS.start HO.out HB.out)⟩
      case round =>
        obtain ⟨j, D, P, rfl, hj, HS, HF⟩ := hrel
        clear HO HB
        by_cases hjx : j < x.length
        · obtain ⟨gx, ox, rfl, hgx, hcx⟩ := (HSx.out.grow (HF.out.bel (Nat.le_refl _))).src j hjx
          have hwj : IntKind.i64.wrap ((j : Int) + 1) = ((j + 1 : Nat) : Int) := by rw [IntKind.wrap_i64]; omega
          have hT := HFt.out j hjx
          have hL := HFl.out j
          rw [HS.out] at hT hL
          have htl : (x.take j).length = j := by rw [List.length_take]; omega
          rw [htl] at hL
          have hDP : D.length + 2 * P.length ≤ 2 ^ 44 := by dsimp only at hL; omega
          have HSt2 := hidA hT
          clear hT hL htl HFt HFl HTl HS HSt hrl
          generalize x[j] = z at *
          go_upto_region 12 with fail
          go_loopw [8, 13] (fun s8 s13 W => ∃ (D' P' : List UInt8), D'.length + 2 * P'.length ≤ 2 ^ 44 ∧ Hid (Fl.brk wd ws z D' P' = Fl.brk wd ws z D P) ∧ Hid (FS w1.heap.size w1 W s8 s13 D' P')) (fun _ s13 _ => slLen s13)
          case atStart => exact ⟨D, P, hDP, hidA rfl, HF⟩
          case round =>
            obtain ⟨D', P', hDP', HBr, HF'⟩ := hrel
            clear HF
            have hpc := HF'.out.pc (Nat.le_refl _)
            obtain ⟨a3, c3, hv3⟩ := hpc.slice
            subst hv3
            have hce := Fl.ce_le P'
            have HEn := hidA (rEnds P' a3 c3 (by omega) wr hpc.sr.src)
            have HCo := hidA (fun W => rColumn (Fl.ce P') z (by omega) W)
            by_cases hcN : ¬ 0 < Fl.ce P'
            · have hcI : ¬ (0 : Int) < ((Fl.ce P' : Nat) : Int) := by omega
              have hbr : Fl.brk wd ws z D' P' = (D', P') := Fl.brk_no (by omega)
              have hS2 : σ (j + 1) = (D', P' ++ [z]) := by
                rw [HSt2.out]
                unfold Fl.stp
                dsimp only
                rw [← HBr.out, hbr]
              have HS2 := hidA hS2
              obtain ⟨W0, f1, f2, f3, f4⟩ := HF'.out.at0
              have HFb := hidA (fun (w' : World) (u' : Value) (o : Obj) h5 hg => FS.byte (w' := w') (u' := u') (z := z) f1 f2 f3 f4 o h5 hg)
              have H4 := hidA f4
              have Hsz := hidA f3.size
              have hPl : P'.length + 1 ≤ 2 ^ 46 := by omega
              clear hbr hS2 HSt2 HBr HF' f1 f2 f3 f4 hpc
              go_wp2_with (first
                | (go_at_call 33; with_reducible refine HEn.out.mono ?_; rintro e w2 ⟨rfl, hw2⟩; rw [hw2]; clear hw2 w2)
                | (go_at_call 34; with_reducible refine (HCo.out _).mono ?_; rintro e w2 ⟨rfl, hw2⟩; rw [hw2]; clear hw2 w2)
                | (at_builtin; refine wpList_b1 rfl _ _ rfl W0.heap.size (.slice a3 P'.length c3) P' z rfl H4.out rfl hPl Hsz.out ?_; intro v2 w2 g1 g2; have HF2 := hidA (HFb.out w2 v2 _ g1 g2); clear g1 g2))
              exact ⟨⟨j + 1, D', P' ++ [z], by first | rfl | go_num, hjx, HS2, HF2⟩, by simp [intOf]; omega⟩
            · have hcI : (0 : Int) < ((Fl.ce P' : Nat) : Int) := by omega
              have hcN : 0 < Fl.ce P' := by omega
              by_cases hw9 : wd < ((Fl.col (Fl.ce P') z : Nat) : Int)
              · have hP0 := Fl.ce_pos hcN
                have hcp := Fl.cut_pos ws hP0
                have hcl := Fl.cut_le ws P'
                have hbr : Fl.brk wd ws z D' P' = _ := Fl.brk_yes ⟨hcN, hw9⟩
                rw [HBr.out] at hbr
                have hcut : Fl.cs ws P' P'.length = Fl.cut ws P' := rfl
                have hb2 : (D' ++ P'.take (Fl.cut ws P') ++ [10]).length + 2 * (P'.drop (Fl.cut ws P')).length ≤ 2 ^ 44 := by
                  simp only [List.length_append, List.length_take, List.length_drop, List.length_cons, List.length_nil]; omega
                have hl1 : D'.length + (P'.take (Fl.cut ws P')).length ≤ 2 ^ 46 := by rw [List.length_take]; omega
                have hl2 : (D' ++ P'.take (Fl.cut ws P')).length + 1 ≤ 2 ^ 46 := by rw [List.length_append, List.length_take]; omega
                have hl3 : ([] : List UInt8).length + (P'.drop (Fl.cut ws P')).length ≤ 2 ^ 46 := by rw [List.length_drop, List.length_nil]; omega
                have hms : (P'.drop (Fl.cut ws P')).length < P'.length := by rw [List.length_drop]; omega
                have hPl : P'.length ≤ 2 ^ 44 := by omega
                obtain ⟨hsl1, htk⟩ := sl_to hpc.sr (Fl.cut ws P') hcl
                obtain ⟨a4, c4, hsl2, hdr⟩ := sl_from2 hpc.sr (Fl.cut ws P') hcl
                have Hcs := hidA (fun k (h : k < P'.length) => (show Fl.cs ws P' (k + 1) = if (ws && Fl.bl P'[k]) = true then k + 1 else Fl.cs ws P' k from by
                  have hgd : P'.getD k 0 = P'[k] := by rw [List.getD_eq_getElem?_getD, List.getElem?_eq_getElem h]; rfl
                  show (if (ws && Fl.bl (P'.getD k 0)) = true then k + 1 else Fl.cs ws P' k) = _
                  rw [hgd]))
                have hc00 : Fl.cs ws P' 0 = P'.length := rfl
                have Hcle := hidA (fun k (h : k ≤ P'.length) => Fl.cs_le ws P' k h)
                have Htk := hidA htk
                have Hdr := hidA hdr
                have Hms := hidA hms
                have Hb2 := hidA hb2
                have Hbr := hidA hbr
                have Hbk := hidA HF'.out.blocks
                have Hto := hidA HF'.out.told
                have Hbl := hidA (HF'.out.bel (Nat.le_refl _))
                have Hpc := hidA hpc
                have Hsr := hidA hpc.sr.src
                clear hP0 hcp hcl hbr hb2 hms htk hdr HF' HBr hpc HSt2
                rw [← hcut] at hl1 hl2 hl3 hsl1 hsl2 Htk Hdr Hms Hb2 Hbr
                clear hcut
                generalize hκ : Fl.cs ws P' = κ at *
                clear hκ
                go_upto_region 15 with (first
                  | (go_at_call 33; with_reducible refine HEn.out.mono ?_; rintro e w2 ⟨rfl, hw2⟩; rw [hw2]; clear hw2 w2)
                  | (go_at_call 34; with_reducible refine (HCo.out _).mono ?_; rintro e w2 ⟨rfl, hw2⟩; rw [hw2]; clear hw2 w2))
                obtain ⟨wq, hwq⟩ : ∃ wq, wq = wr := ⟨_, rfl⟩
                subst hwq
                go_loopw [16, 54] (fun s16 s54 W => ∃ k : Nat, s54 = .int .i64 k ∧ s16 = .int .i64 (κ k : Nat) ∧ k ≤ P'.length ∧ W = wq) (fun _ s54 _ => P'.length - (intOf s54).toNat)
                case atStart => exact ⟨0, rfl, by rw [hc00], Nat.zero_le _, rfl⟩
                case round =>
                  obtain ⟨k, rfl, rfl, hk, rfl⟩ := hrel
                  by_cases hkl : k < P'.length
                  · obtain ⟨g3, o3, rfl, hg3, hc3⟩ := Hsr.out k hkl
                    have hwk : IntKind.i64.wrap ((k : Int) + 1) = ((k + 1 : Nat) : Int) := by rw [IntKind.wrap_i64]; omega
                    have hstep := Hcs.out k hkl
                    have HStep := hidA hstep
                    clear hstep Hcs Hsr
                    generalize P'[k] = q at *
                    cases ws with
                    | false =>
                      have hst : κ (k + 1) = κ k := by rw [HStep.out]; simp
                      have Hst := hidA hst
                      clear hst HStep
                      go_wp2_with fail
                      exact ⟨⟨k + 1, by first | rfl | go_num, by rw [Hst.out], hkl, by first | rfl | trivial⟩, by simp [intOf]; omega⟩
                    | true =>
                      by_cases q32 : q = 32
                      · have e1 := byte_yes _ 32 32 rfl q32
                        have hst : κ (k + 1) = k + 1 := by rw [HStep.out]; simp [Fl.bl, q32]
                        have Hst := hidA hst
                        clear hst HStep q32
                        go_wp2_with fail
                        exact ⟨⟨k + 1, by first | rfl | go_num, by rw [Hst.out]; first | rfl | go_num, hkl, by first | rfl | trivial⟩, by simp [intOf]; omega⟩
                      · have e1 := byte_no _ 32 32 rfl q32
                        by_cases q9 : q = 9
                        · have e2 := byte_yes _ 9 9 rfl q9
                          have hst : κ (k + 1) = k + 1 := by rw [HStep.out]; simp [Fl.bl, q9]
                          have Hst := hidA hst
                          clear hst HStep q32 q9
                          go_wp2_with fail
                          exact ⟨⟨k + 1, by first | rfl | go_num, by rw [Hst.out]; first | rfl | go_num, hkl, by first | rfl | trivial⟩, by simp [intOf]; omega⟩
                        · have e2 := byte_no _ 9 9 rfl q9
                          have hst : κ (k + 1) = κ k := by rw [HStep.out]; simp [Fl.bl, q9, q32]
                          have Hst := hidA hst
                          clear hst HStep q32 q9
                          go_wp2_with fail
                          exact ⟨⟨k + 1, by first | rfl | go_num, by rw [Hst.out], hkl, by first | rfl | trivial⟩, by simp [intOf]; omega⟩
                  · obtain rfl : k = P'.length := by omega
                    clear Hcs Hsr hkl hk Hcle hc00
                    generalize κ P'.length = m at *
                    obtain ⟨T1, hT1⟩ : ∃ T1, T1 = P'.take m := ⟨_, rfl⟩
                    obtain ⟨T2, hT2⟩ : ∃ T2, T2 = P'.drop m := ⟨_, rfl⟩
                    rw [← hT1] at hsl1 Htk hl1 hl2
                    rw [← hT2] at hsl2 Hdr hl3 Hms
                    rw [← hT1, ← hT2] at Hb2 Hbr
                    clear hT1 hT2
                    go_wp2_with (first
                      | (at_builtin; refine wpList_srF rfl _ _ rfl w3.heap.size (.slice (some ⟨w3.heap.size, 0, none⟩) 0 0) [] T2 a4 c4 rfl (By.fresh w3 _ (Nat.le_refl _)) rfl (Hdr.out _ (HP3.out.grow ((Below.refl w3.heap.size w3).alloc (Nat.le_refl _) _)).sr) hl3 (by simp) ?_; intro v5 w5 g1 g2 _; rw [List.nil_append] at g1; obtain ⟨a5, c5, hv5⟩ := g1.slice; subst hv5; have HF5 := hidA (FS.fresh HO3.out HB3.out (((Below.refl w3.heap.size w3).alloc (Nat.le_refl _) _).grown g2 (by simp) (fun k hk => by simp [Value.ownBlock] at hk; omega)) g1); clear g1 g2)
                      | (at_builtin; refine wpList_b1 rfl _ _ rfl w1.heap.size v2 (D' ++ T1) 10 rfl HO2.out rfl hl2 HB2.out.size ?_; intro v3 w3 g1 g2; have HO3 := hidA g1; have HB3 : Hid (Below w1.heap.size w1 w3) := (HB2.out.alloc HB2.out.size _).grown g2 (by have := HB2.out.size; simp; omega) (fun k hk => (HO2.out.own.lt k hk).1); have HP3 := hidA ((HP2.out.grow ((Below.refl w2.heap.size w2).alloc (Nat.le_refl _) _)).ne g2 (fun r e => own_two Hv2.out (Hbk.out r e).1 (Hbk.out r e).2)); clear g1 g2)
                      | (at_builtin; refine wpList_srF rfl _ _ rfl w1.heap.size _ D' T1 a3 c3 rfl Hto.out rfl Htk.out hl1 Hbl.out.size ?_; intro v2 w2 g1 g2 g3; have HO2 := hidA g1; have HB2 : Hid (Below w1.heap.size w1 w2) := Hbl.out.grown g2 Hbl.out.size (fun k hk => (Hto.out.own.lt k hk).1); have HP2 := hidA (Hpc.out.ne g2 (fun r e e2 => (Hbk.out r e).1 e2)); have Hv2 := hidA g3; clear g1 g2 g3))
                    exact ⟨⟨_, _, Hb2.out, hidA Hbr.out.symm, HF5⟩, by simp only [slLen]; exact Hms.out⟩
              · have hbr : Fl.brk wd ws z D' P' = (D', P') := Fl.brk_no (by omega)
                have hS2 : σ (j + 1) = (D', P' ++ [z]) := by
                  rw [HSt2.out]
                  unfold Fl.stp
                  dsimp only
                  rw [← HBr.out, hbr]
                have HS2 := hidA hS2
                obtain ⟨W0, f1, f2, f3, f4⟩ := HF'.out.at0
                have HFb := hidA (fun (w' : World) (u' : Value) (o : Obj) h5 hg => FS.byte (w' := w') (u' := u') (z := z) f1 f2 f3 f4 o h5 hg)
                have H4 := hidA f4
                have Hsz := hidA f3.size
                have hPl : P'.length + 1 ≤ 2 ^ 46 := by omega
                clear hbr hS2 HSt2 HBr HF' f1 f2 f3 f4 hpc
                go_wp2_with (first
                  | (go_at_call 33; with_reducible refine HEn.out.mono ?_; rintro e w2 ⟨rfl, hw2⟩; rw [hw2]; clear hw2 w2)
                  | (go_at_call 34; with_reducible refine (HCo.out _).mono ?_; rintro e w2 ⟨rfl, hw2⟩; rw [hw2]; clear hw2 w2)
                  | (at_builtin; refine wpList_b1 rfl _ _ rfl W0.heap.size (.slice a3 P'.length c3) P' z rfl H4.out rfl hPl Hsz.out ?_; intro v2 w2 g1 g2; have HF2 := hidA (HFb.out w2 v2 _ g1 g2); clear g1 g2))
                exact ⟨⟨j + 1, D', P' ++ [z], by first | rfl | go_num, hjx, HS2, HF2⟩, by simp [intOf]; omega⟩
        · obtain rfl : j = x.length := by omega
          have hpc := HF.out.pc (Nat.le_refl _)
          obtain ⟨a3, c3, hv3⟩ := hpc.slice
          subst hv3
          have Hpc := hidA hpc.sr
          have Hto := hidA HF.out.told
          have Hbl := hidA (HF.out.bel (Nat.le_refl _))
          have hL := HFl.out x.length
          rw [HS.out, List.take_length] at hL
          have hDP : D.length + P.length + 1 ≤ 2 ^ 46 := by dsimp only at hL; omega
          have hρ := HSt.out
          rw [HTl.out, HS.out] at hρ
          have hDPl : (D ++ P).length + 1 ≤ 2 ^ 46 := by rw [List.length_append]; exact hDP
          clear HSx HSt HFl HFt HTl HS HF hpc hL
          by_cases hm : i + 1 < X.length
          · have hcd : decide ((i : Int) < (X.length : Int) - 1) = true := decide_eq_true (by omega)
            rw [decide_eq_true hm, Bool.true_or] at hρ
            have Hρ := hidA hρ
            clear hρ
            go_wp2_with (first
              | (at_builtin; refine wpList_srF rfl _ _ rfl w1.heap.size _ D P a3 c3 rfl Hto.out rfl Hpc.out (by omega) Hbl.out.size ?_; intro v2 w2 g1 g2 _; have HO2 := hidA g1; have HB2 : Hid (Below w1.heap.size w1 w2) := Hbl.out.grown g2 Hbl.out.size (fun k hk => (Hto.out.own.lt k hk).1); clear g1 g2)
              | (at_builtin; refine wpList_b1 rfl _ _ rfl w1.heap.size v2 (D ++ P) 10 rfl HO2.out rfl hDPl HB2.out.size ?_; intro v3 w3 g1 g2; have HO3 := hidA g1; have HB3 : Hid (Below w1.heap.size w1 w3) := (HB2.out.alloc HB2.out.size _).grown g2 (by have := HB2.out.size; simp; omega) (fun k hk => (HO2.out.own.lt k hk).1); clear g1 g2))
            exact ⟨⟨i + 1, by first | rfl | go_num, hiX, hidA (by show By _ _ _ _; rw [Hρ.out]; exact HO3.out), HB3⟩, by simp [intOf]; omega⟩
          · have hcd : decide ((i : Int) < (X.length : Int) - 1) = false := decide_eq_false (by omega)
            rw [decide_eq_false hm, Bool.false_or] at hρ
            cases y with
            | true =>
              have Hρ := hidA hρ
              clear hρ
              go_wp2_with (first
                | (at_builtin; refine wpList_srF rfl _ _ rfl w1.heap.size _ D P a3 c3 rfl Hto.out rfl Hpc.out (by omega) Hbl.out.size ?_; intro v2 w2 g1 g2 _; have HO2 := hidA g1; have HB2 : Hid (Below w1.heap.size w1 w2) := Hbl.out.grown g2 Hbl.out.size (fun k hk => (Hto.out.own.lt k hk).1); clear g1 g2)
                | (at_builtin; refine wpList_b1 rfl _ _ rfl w1.heap.size v2 (D ++ P) 10 rfl HO2.out rfl hDPl HB2.out.size ?_; intro v3 w3 g1 g2; have HO3 := hidA g1; have HB3 : Hid (Below w1.heap.size w1 w3) := (HB2.out.alloc HB2.out.size _).grown g2 (by have := HB2.out.size; simp; omega) (fun k hk => (HO2.out.own.lt k hk).1); clear g1 g2))
              exact ⟨⟨i + 1, by first | rfl | go_num, hiX, hidA (by show By _ _ _ _; rw [Hρ.out]; exact HO3.out), HB3⟩, by simp [intOf]; omega⟩
            | false =>
              have Hρ := hidA hρ
              clear hρ
              go_wp2_with ((at_builtin; refine wpList_srF rfl _ _ rfl w1.heap.size _ D P a3 c3 rfl Hto.out rfl Hpc.out (by omega) Hbl.out.size ?_; intro v2 w2 g1 g2 _; have HO2 := hidA g1; have HB2 : Hid (Below w1.heap.size w1 w2) := Hbl.out.grown g2 Hbl.out.size (fun k hk => (Hto.out.own.lt k hk).1); clear g1 g2))
              exact ⟨⟨i + 1, by first | rfl | go_num, hiX, hidA (by show By _ _ _ _; rw [Hρ.out]; show By _ _ _ (D ++ P ++ []); rw [List.append_nil]; exact HO2.out), HB2⟩, by simp [intOf]; omega⟩
    · obtain rfl : i = X.length := by omega
      go_wp2_with fail
      go_ret2
      exact ⟨_, rfl, HO.out.mono HB0.out.size, HB0.out.trans (HB.out.mono HB0.out.size)⟩
end Go.Proofs.Ytplnojohlbbalaa
/- TextFolds' own function: it answers true. Condition: a length that fits. -/
namespace Go.Proofs.Ytplnojohlbbalaa
open Go.RowKit
attribute [local go_sem] ext_eq app_eq get_eq
set_option maxRecDepth 100000 in
set_option maxHeartbeats 2000000 in
theorem folds_walk (l : List UInt8) (a : Option Addr) (c : Nat) (wd : Int) (ws : Bool) (hl : l.length ≤ 1048576) (w : World) (hS : Sr w a c l) : Calls Try.prog 5 #[.slice a l.length c, .int .i64 wd, .bool ws] w fun e w' => e = .returned (.bool true) ∧ Below w.heap.size w w' := by
  have HAw := hidA awakes
  by_cases h1 : 1 ≤ wd
  · have HA := hidA (oFold l a c wd ws hl h1 w hS)
    have HB := hidA (fun W (b : Below w.heap.size w W) => rFold l a c wd ws hl h1 W (hS.grow b).src)
    clear hS
    generalize Fl.ft wd ws (Tl.prs l) = R at *
    go_enter Try.func5, Try.ntmps5
    go_wp2_with (first
      | (go_at_call 19; (with_reducible refine HA.out.mono ?_); rintro e w1 ⟨v1, rfl, g1, b1⟩; obtain ⟨a1, c1, hv1⟩ := g1.slice; subst hv1; have V1 := hidA g1.sr; have HW := hidA b1; clear g1 b1)
      | (go_at_call 20; (with_reducible refine (HB.out _ HW.out).mono ?_); rintro e w2 ⟨v2, rfl, g1, b1⟩; obtain ⟨a2, c2, hv2⟩ := g1.slice; subst hv2; have V1 := hidA (V1.out.grow b1); have V2 := hidA g1.sr; have HW := hidA (HW.out.trans (b1.mono HW.out.size)); clear g1 b1)
      | (go_at_call 10; (with_reducible refine (rSameS V1.out.src V2.out.src).mono ?_); rintro e w3 ⟨rfl, hw3⟩; rw [hw3]; clear hw3 w3)
      | (go_at_call 14; (with_reducible refine (HAw.out _).mono ?_); rintro e w4 ⟨rfl, b1⟩; have HW := hidA (HW.out.trans (b1.mono HW.out.size)); clear b1))
    go_ret
    exact ⟨rfl, HW.out⟩
  · have h2 : wd < 1 := by omega
    have HA := hidA (oFoldN l a c wd ws h2 w)
    have HB := hidA (rFoldN l a c wd ws h2 w)
    have HS0 : Hid (Calls Try.prog 10 #[.slice none 0 0, .slice none 0 0] w fun e w' => e = .returned (.bool true) ∧ w' = w) := hidA (rSameS (l := []) (Src.nil w none) (Src.nil w none))
    have HW := hidA (Below.refl w.heap.size w)
    clear hS
    go_enter Try.func5, Try.ntmps5
    go_wp2_with (first
      | (go_at_call 19; (with_reducible refine HA.out.mono ?_); rintro e w1 ⟨rfl, hw1⟩; rw [hw1]; clear hw1 w1)
      | (go_at_call 20; (with_reducible refine HB.out.mono ?_); rintro e w1 ⟨rfl, hw1⟩; rw [hw1]; clear hw1 w1)
      | (go_at_call 10; (with_reducible refine HS0.out.mono ?_); rintro e w1 ⟨rfl, hw1⟩; rw [hw1]; clear hw1 w1)
      | (go_at_call 14; (with_reducible refine (HAw.out _).mono ?_); rintro e w4 ⟨rfl, b1⟩; have HW := hidA (HW.out.trans (b1.mono HW.out.size)); clear b1))
    go_ret
    exact ⟨rfl, HW.out⟩
end Go.Proofs.Ytplnojohlbbalaa
