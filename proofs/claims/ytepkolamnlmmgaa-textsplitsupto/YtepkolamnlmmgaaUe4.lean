/- The plain answer's Split. Condition: lengths that fit. -/
import Derived.Test.YtepkolamnlmmgaaUe3
namespace Go.Proofs.Ytepkolamnlmmgaa
open Go.RowKit
attribute [local go_sem] ext_eq app_eq get_eq
theorem Tl.ps_mid (l : List UInt8) (i n : Nat) : (((Tl.ps l).drop i).take n).flatten = (l.take (Tl.en l (i + n))).drop (Tl.en l i) := by
  have h1 : ((Tl.ps l).take (i + n)).flatten = l.take (Tl.en l (i + n)) := Tl.en_take l (i + n)
  rw [← h1, List.take_add, List.flatten_append]
  have h2 : (((Tl.ps l).take i).flatten).length = Tl.en l i := rfl
  rw [← h2, List.drop_left]
set_option maxRecDepth 100000 in
set_option maxHeartbeats 8000000 in
theorem rSplitB (l p : List UInt8) (a : Option Addr) (c s : Nat) (hs : 0 < s) (hs2 : s < 2 ^ 63) (hl : l.length ≤ 1048576) (hp : p.length ≤ 1048577) (w : World) (hS : Sr w a c l) : Calls Try.prog 5 #[.slice a l.length c, .int .i64 0, .int .i64 s, .string ⟨p.toArray⟩] w fun e w' => Below w.heap.size w w' ∧ SpOut w' e p l (fun k => min k l.length) s l.length := by
  obtain ⟨iB, hiB, hb0, hb1, hb2⟩ := infoB
  obtain ⟨iR, hiR, hr0, hr1, hr2⟩ := infoRR
  obtain ⟨iS, hiS, hs0, hs1, hs3⟩ := infoStr
  have HS := hidA hS
  have hsp : (0 : Int) < (s : Int) := by omega
  have hsb : ((s : Int) == 0) = false := beq_eq_false_iff_ne.2 (by omega)
  clear hS
  go_enter Try.func5, Try.ntmps5
  go_upto_region 6 with fail
  go_loopw [11, 12] (fun s11 s12 W => ∃ (k : Nat), s12 = .int .i64 (Tl.cu s l.length k) ∧ k ≤ Tl.kk s l.length ∧ Hid (RR w.heap.size W s11 (Tl.SP l (fun k => min k l.length) s l.length k)) ∧ Hid (Below w.heap.size w W)) (fun _ s12 _ => l.length - (intOf s12).toNat)
  case atStart => exact ⟨0, by rw [Tl.cu_zero]; rfl, Nat.zero_le _, hidA (RR.nil _ _), hidA (Below.refl _ _)⟩
  case round =>
    obtain ⟨k, rfl, hk, HR, HB⟩ := hrel
    obtain ⟨a11, c11, hv11⟩ := HR.out.slice
    subst hv11
    have hcl := Tl.cu_lt hs l.length k
    have hDu := Tl.cu_le s l.length (k + 1)
    have hCu2 := Tl.cu_le s l.length k
    have hcs := Tl.cu_succ s l.length k
    have hkle := Tl.kk_le hs l.length
    have hlen := Tl.SP_len l (fun k => min k l.length) s l.length k
    by_cases hlt : k < Tl.kk s l.length
    · have hCu := hcl.2 hlt
      obtain ⟨a', c', hsl, hsp'⟩ := sl_mid HS.out (Tl.cu s l.length k) (Tl.cu s l.length (k + 1)) (Tl.cu_mono _ _ _) hDu
      have hxl : ((l.take (Tl.cu s l.length (k + 1))).drop (Tl.cu s l.length k)).length = Tl.cu s l.length (k + 1) - Tl.cu s l.length k := by rw [List.length_drop, List.length_take]; omega
      have hRs := hidA (Tl.SP_succ l (fun k => min k l.length) s l.length k)
      have hspe : Hid (Tl.sp l (fun k => min k l.length) s l.length k = (l.take (Tl.cu s l.length (k + 1))).drop (Tl.cu s l.length k)) := by
        show _ = _
        unfold Tl.sp
        simp only [Nat.min_eq_left hDu, Nat.min_eq_left hCu2]
      rw [hspe.out] at hRs
      clear hspe
      generalize (l.take (Tl.cu s l.length (k + 1))).drop (Tl.cu s l.length k) = x at *
      obtain ⟨gs, os, ea⟩ : ∃ gs os, a' = some ⟨gs, os, none⟩ := by
        obtain ⟨g1, o1, e1, _⟩ := hsp'.src 0 (by omega)
        exact ⟨g1, o1, e1⟩
      subst ea
      have HSx := hidA (fun W (b : Below w.heap.size w W) => hsp'.grow b)
      generalize hD : Tl.cu s l.length (k + 1) = D at *
      have HD := hidA hD
      clear hD hcl hsp'
      generalize Tl.cu s l.length k = C at *
      generalize Tl.SP l (fun k => min k l.length) s l.length k = R0 at *
      obtain ⟨vs, o1, o2, o3, o4⟩ := HR.out
      have HP := hidA (fun (W : World) (b : Below wr.heap.size wr W) (u v' : Value) (w' : World) (ob : Obj) (hx : Sq w.heap.size W u x) hu hown hg => RR.pushg (v' := v') (w' := w') b o1 o2 o3 o4 hx hu ob hown hg)
      have HO := hidA (fun (W : World) (b : Below wr.heap.size wr W) => own_grow o1 b)
      have HF := hidA (By.fresh wr wr.heap.size (Nat.le_refl _))
      have HBf := hidA ((Below.refl wr.heap.size wr).alloc (Nat.le_refl _) (.cells #[] 5))
      have HBf2 := hidA (HB.out.trans (HBf.out.mono HB.out.size))
      have hsz := hidA HB.out.size
      have hsubC : IntKind.i64.wrap ((l.length : Int) - (C : Int)) = (l.length : Int) - (C : Int) := by rw [IntKind.wrap_i64]; omega
      have hR1 : R0.length ≤ 1048577 := by omega
      have hx63 : 0 + x.length ≤ maxLen := by unfold maxLen; omega
      have hx47 : (0 + x.length) * 1 ≤ 140737488355328 := by omega
      have HK : Hid (R0.length = k) := hlen
      have hxle : x.length ≤ 1048577 := by omega
      clear o1 o2 o3 o4 hlen hxl
      by_cases hgt : s < l.length - C
      · have hgtI : (s : Int) < (l.length : Int) - (C : Int) := by omega
        have hDc : D = C + s := by omega
        have hadd : IntKind.i64.wrap ((C : Int) + (s : Int)) = (D : Int) := by rw [IntKind.wrap_i64]; omega
        have hCD : C < D := by omega
        clear hcs hDc
        go_wp2_with (first
          | (at_builtin; refine wpList_append_own_at _ rfl _ _ 22 rfl wr.heap.size 5 iB (.int .u8 0) 1 1 Try.underlying22 hiB hb0 hb1 hb2 rfl (by decide) _ _ _ rfl HF.out.own ⟨gs, os, none⟩ x.length c' (bCs x) rfl (by rw [bCs_len, Nat.mul_one]) (fun j u hj => (HSx.out _ HBf2.out).src.cells_at j u hj) (bCs_one x) hx63 hx47 HBf.out.size ?_; intro v2 w2 hown hg2 _ hat; have HO2 : Hid (By wr.heap.size w2 v2 x) := By.of_app (bs := []) hown; have HB2 : Hid (Below wr.heap.size wr w2) := HBf.out.grown hg2 HBf.out.size (fun k hk => (HF.out.own.lt k hk).1); obtain ⟨a2, c2, hv2⟩ := HO2.out.slice; subst hv2; clear hown hg2 hat)
          | (at_builtin; refine wpList_append_own_at _ rfl _ _ 26 rfl w.heap.size 22 iR (.slice none 0 0) 1 24 Try.underlying26 hiR hr0 hr1 hr2 rfl (by decide) _ _ _ rfl ((HO.out _ HB2.out).alloc _) ⟨w2.heap.size, 0, none⟩ 1 1 [.slice a2 x.length c2] rfl rfl (cell_one_new _ _ _) (by intro u hu; simp at hu; subst hu; rfl) (by unfold maxLen; omega) (by omega) (by have h1 := hsz.out; have h2 := HB2.out.size; simp; omega) ?_; intro v6 w6 hown hg2 _ hat; have HR6 := hidA (HP.out w2 HB2.out _ v6 w6 _ (Sq.of_by HO2.out) rfl hown hg2); have HB6 : Hid (Below w.heap.size w w6) := ((HB.out.trans (HB2.out.mono hsz.out)).alloc (by have h1 := hsz.out; have h2 := HB2.out.size; omega) _).grown hg2 (by have h1 := hsz.out; have h2 := HB2.out.size; simp; omega) (fun k hk => ((HO.out _ HB2.out).lt k hk).1); clear hown hg2 hat))
        exact ⟨⟨k + 1, by rw [HD.out], hlt, by rw [hRs.out]; exact HR6, HB6⟩, by simp [intOf]; omega⟩
      · have hgtI : ¬ (s : Int) < (l.length : Int) - (C : Int) := by omega
        have hDc : D = C + (l.length - C) := by omega
        have hadd : IntKind.i64.wrap ((C : Int) + ((l.length : Int) - (C : Int))) = (D : Int) := by rw [IntKind.wrap_i64]; omega
        have hCD : C < D := by omega
        clear hcs hDc
        go_wp2_with (first
          | (at_builtin; refine wpList_append_own_at _ rfl _ _ 22 rfl wr.heap.size 5 iB (.int .u8 0) 1 1 Try.underlying22 hiB hb0 hb1 hb2 rfl (by decide) _ _ _ rfl HF.out.own ⟨gs, os, none⟩ x.length c' (bCs x) rfl (by rw [bCs_len, Nat.mul_one]) (fun j u hj => (HSx.out _ HBf2.out).src.cells_at j u hj) (bCs_one x) hx63 hx47 HBf.out.size ?_; intro v2 w2 hown hg2 _ hat; have HO2 : Hid (By wr.heap.size w2 v2 x) := By.of_app (bs := []) hown; have HB2 : Hid (Below wr.heap.size wr w2) := HBf.out.grown hg2 HBf.out.size (fun k hk => (HF.out.own.lt k hk).1); obtain ⟨a2, c2, hv2⟩ := HO2.out.slice; subst hv2; clear hown hg2 hat)
          | (at_builtin; refine wpList_append_own_at _ rfl _ _ 26 rfl w.heap.size 22 iR (.slice none 0 0) 1 24 Try.underlying26 hiR hr0 hr1 hr2 rfl (by decide) _ _ _ rfl ((HO.out _ HB2.out).alloc _) ⟨w2.heap.size, 0, none⟩ 1 1 [.slice a2 x.length c2] rfl rfl (cell_one_new _ _ _) (by intro u hu; simp at hu; subst hu; rfl) (by unfold maxLen; omega) (by omega) (by have h1 := hsz.out; have h2 := HB2.out.size; simp; omega) ?_; intro v6 w6 hown hg2 _ hat; have HR6 := hidA (HP.out w2 HB2.out _ v6 w6 _ (Sq.of_by HO2.out) rfl hown hg2); have HB6 : Hid (Below w.heap.size w w6) := ((HB.out.trans (HB2.out.mono hsz.out)).alloc (by have h1 := hsz.out; have h2 := HB2.out.size; omega) _).grown hg2 (by have h1 := hsz.out; have h2 := HB2.out.size; simp; omega) (fun k hk => ((HO.out _ HB2.out).lt k hk).1); clear hown hg2 hat))
        exact ⟨⟨k + 1, by rw [HD.out], hlt, by rw [hRs.out]; exact HR6, HB6⟩, by simp [intOf]; omega⟩
    · have EK : Hid (k = Tl.kk s l.length) := by show _ = _; omega
      have hCu : ¬ Tl.cu s l.length k < l.length := fun h => hlt (hcl.1 h)
      have HR9 : Hid (RR w.heap.size wr (.slice a11 (Tl.kk s l.length) c11) (Tl.SP l (fun k => min k l.length) s l.length (Tl.kk s l.length))) := by rw [hlen] at HR; rw [← EK.out]; exact HR
      have hlen9 := Tl.SP_len l (fun k => min k l.length) s l.length (Tl.kk s l.length)
      have hkE : Tl.SP l (fun k => min k l.length) s l.length k = Tl.SP l (fun k => min k l.length) s l.length (Tl.kk s l.length) := by rw [EK.out]
      rw [hkE, hlen9]
      clear hcl hcs hlen HR hkE HS hDu hCu2
      by_cases hb : 676 < Tl.kk s l.length
      · have hbI : (676 : Int) < ((Tl.kk s l.length : Nat) : Int) := by omega
        go_wp2_with fail
        go_ret3
        exact ⟨HB.out, .inl ⟨hb, rfl⟩⟩
      · have hbI : ¬ (676 : Int) < ((Tl.kk s l.length : Nat) : Int) := by omega
        have hK : Tl.kk s l.length ≤ 676 := by omega
        have HN0 : Hid (SRow w.heap.size wr (.slice none 0 0) (Tl.NM p 0)) := SRow.nil _ _
        go_upto_region 23 with fail
        go_loopw [16, 87] (fun s16 s87 W => ∃ (i : Nat), s87 = .int .i64 i ∧ i ≤ Tl.kk s l.length ∧ Hid (SRow w.heap.size W s16 (Tl.NM p i)) ∧ Hid (RR w.heap.size W (.slice a11 (Tl.kk s l.length) c11) (Tl.SP l (fun k => min k l.length) s l.length (Tl.kk s l.length))) ∧ Hid (Below w.heap.size w W)) (fun _ s87 _ => Tl.kk s l.length - (intOf s87).toNat)
        case atStart => exact ⟨0, rfl, Nat.zero_le _, HN0, HR9, HB⟩
        case round =>
          obtain ⟨i, rfl, hi, HN, HR, HB1⟩ := hrel
          clear HN0 HR9 HB
          have hsz := hidA HB1.out.size
          obtain ⟨a16, c16, hv16, HSi⟩ := HN.out.src
          subst hv16
          have HNL := hidA (Tl.NM_len p i)
          have hnlb : (Tl.NM p i).length ≤ 1048577 := by rw [HNL.out]; omega
          by_cases hil : i < Tl.kk s l.length
          · have hw1 : IntKind.i64.wrap ((i : Int) + 1) = ((i + 1 : Nat) : Int) := by rw [IntKind.wrap_i64]; omega
            have h1 : (i : Int).tdiv 26 = ((i / 26 : Nat) : Int) := rfl
            have h2 : (i : Int).tmod 26 = ((i % 26 : Nat) : Int) := rfl
            have hx : ((UInt8.ofNat (97 + i / 26)).toNat : Int) = 97 + ((i / 26 : Nat) : Int) := by simp; omega
            have hy : ((UInt8.ofNat (97 + i % 26)).toNat : Int) = 97 + ((i % 26 : Nat) : Int) := by simp; omega
            have hcv := (let_src wr (UInt8.ofNat (97 + i / 26)) (UInt8.ofNat (97 + i % 26))).text 2
            rw [hx, hy] at hcv
            simp only [List.length_cons, List.length_nil, Nat.zero_add, Nat.reduceAdd] at hcv
            have hm : i / 26 < 26 := by omega
            have hn : i % 26 < 26 := by omega
            have hNs := hidA (Tl.NM_succ p i)
            have hnm : Hid (Tl.nm p i = p ++ [UInt8.ofNat (97 + i / 26), UInt8.ofNat (97 + i % 26)]) := rfl
            rw [hnm.out] at hNs
            have hpy : p.length + 2 ≤ 9223372036854775807 := by omega
            have hq1 : IntKind.i64.wrap ((i / 26 : Nat) : Int) = ((i / 26 : Nat) : Int) := by rw [IntKind.wrap_i64]; omega
            clear hnm HSi
            generalize i / 26 = m at *
            generalize i % 26 = n at *
            have hq2 : IntKind.i64.wrap (97 + (m : Int)) = 97 + (m : Int) := by rw [IntKind.wrap_i64]; omega
            have hq3 : IntKind.i64.wrap (97 + (n : Int)) = 97 + (n : Int) := by rw [IntKind.wrap_i64]; omega
            generalize UInt8.ofNat (97 + m) = x at *
            generalize UInt8.ofNat (97 + n) = y at *
            have HNo := hidA HN.out.own
            generalize Tl.NM p i = N0 at *
            go_wp2_with (at_builtin; refine wpList_append_own_at _ rfl _ _ 25 rfl w.heap.size 9 iS (.string ⟨#[]⟩) 1 16 Try.underlying25 hiS hs0 hs1 hs3 rfl (by decide) _ _ _ rfl ((HNo.out.alloc _).alloc _) ⟨wr.heap.size + 1, 0, none⟩ 1 1 [.string ⟨(p ++ [x, y]).toArray⟩] rfl rfl (cell_one_at _ _ _ _ (by simp)) (one_str _) (by unfold maxLen; omega) (by omega) (by have := hsz.out; simp; omega) ?_; intro v3 w3 hown hg2 _ hat; have HN3 := hidA (SRow.push (x := p ++ [x, y]) hown); have HR3 := hidA ((HR.out.grow (((Below.refl _ _).alloc (Nat.le_refl _) _).alloc (by simp) _)).other hg2 ((HNo.out.alloc _).alloc _) (Nat.le_refl _)); have HB3 : Hid (Below w.heap.size w w3) := ((HB1.out.alloc hsz.out _).alloc (by have := hsz.out; simp; omega) _).grown hg2 (by have := hsz.out; simp; omega) (fun k hk => (HNo.out.lt k hk).1); clear hown hg2 hat)
            exact ⟨⟨i + 1, by first | rfl | go_num, hil, by rw [hNs.out]; exact HN3, HR3, HB3⟩, by simp [intOf]; omega⟩
          · have EI : Hid (i = Tl.kk s l.length) := by show _ = _; omega
            go_wp2_with fail
            go_ret3
            refine ⟨HB1.out, .inr ⟨hK, a16, c16, a11, c11, ?_, by rw [← EI.out]; exact HSi, HR.out.rd.1⟩⟩
            simp only [Tl.NM_len, Tl.SP_len, EI.out]
            rfl
set_option maxRecDepth 100000 in
set_option maxHeartbeats 8000000 in
theorem rSplitL (l p : List UInt8) (a : Option Addr) (c s : Nat) (hs : 0 < s) (hs2 : s < 2 ^ 63) (hl : l.length ≤ 1048576) (hp : p.length ≤ 1048577) (w : World) (hS : Sr w a c l) : Calls Try.prog 5 #[.slice a l.length c, .int .i64 s, .int .i64 0, .string ⟨p.toArray⟩] w fun e w' => Below w.heap.size w w' ∧ SpOut w' e p l (Tl.en l) s (Tl.prs l).length := by
  obtain ⟨iB, hiB, hb0, hb1, hb2⟩ := infoB
  obtain ⟨iR, hiR, hr0, hr1, hr2⟩ := infoRR
  obtain ⟨iS, hiS, hs0, hs1, hs3⟩ := infoStr
  have HS := hidA hS
  have hsp : (0 : Int) < (s : Int) := by omega
  have hsb : ((s : Int) == 0) = false := beq_eq_false_iff_ne.2 (by omega)
  have hpl := Tl.ps_len l
  have hpl2 := Tl.ls_le l
  have hpr : (Tl.ps l).length = (Tl.prs l).length := by simp [Tl.ps]
  rw [← hpr]
  have HPc := hidA (rPieces l a c (by omega) w hS.src)
  have hfl : (Tl.ps l).flatten.length ≤ 2097155 := by rw [Tl.ps_flat]; omega
  have hPl : (Tl.ps l).length ≤ 1048576 := by omega
  have HJ := hidA (fun (i n : Nat) (a' : Option Addr) (c' : Nat) (W : World) (hn : i + n ≤ (Tl.ps l).length) (h : Rd W a' ((Tl.ps l).drop i)) => (show Calls Try.prog 14 #[.slice a' n c'] W fun e w' => ∃ v, e = .returned v ∧ By W.heap.size w' v ((l.take (Tl.en l (i + n))).drop (Tl.en l i)) ∧ Below W.heap.size W w' from by
    have hd : ((Tl.ps l).drop i).flatten.length ≤ 2097155 := by
      have e : (Tl.ps l).flatten = ((Tl.ps l).take i).flatten ++ ((Tl.ps l).drop i).flatten := by rw [← List.flatten_append, List.take_append_drop]
      rw [e, List.length_append] at hfl; omega
    have hj := rJoined (((Tl.ps l).drop i).take n) a' c' (by rw [List.length_take, List.length_drop]; omega) (flat_le hd n) W (h.pre n)
    rw [show (((Tl.ps l).drop i).take n).length = n by rw [List.length_take, List.length_drop]; omega, Tl.ps_mid] at hj
    exact hj))
  clear hS hpr hpl hpl2
  generalize hU : (Tl.ps l).length = U at *
  have HU := hidA hU
  go_enter Try.func5, Try.ntmps5
  go_upto_region 13 with (go_at_call 13; (with_reducible refine HPc.out.mono ?_); rintro e w1 ⟨aP, cP, rfl, h1, h2, h3, h4⟩; have HR1 := hidA h1; have hcP := h2; have HBw := hidA h4; clear h1 h2 h3 h4)
  go_loopw [11, 14] (fun s11 s14 W => ∃ (k : Nat) (aR : Option Addr) (cR : Nat), s14 = .slice aR (U - Tl.cu s U k) cR ∧ U - Tl.cu s U k ≤ cR ∧ k ≤ Tl.kk s U ∧ Hid (Rd w1 aR ((Tl.ps l).drop (Tl.cu s U k))) ∧ Hid (RR w1.heap.size W s11 (Tl.SP l (Tl.en l) s U k)) ∧ Hid (Below w1.heap.size w1 W)) (fun _ s14 _ => slLen s14)
  case atStart => exact ⟨0, aP, cP, by rw [Tl.cu_zero]; rfl, by rw [Tl.cu_zero]; exact hcP, Nat.zero_le _, by rw [Tl.cu_zero]; exact HR1, hidA (RR.nil _ _), hidA (Below.refl _ _)⟩
  case round =>
    obtain ⟨k, aR, cR, rfl, hcR, hk, HRd, HR, HB⟩ := hrel
    clear HR1
    obtain ⟨a11, c11, hv11⟩ := HR.out.slice
    subst hv11
    have hcl := Tl.cu_lt hs U k
    have hDu := Tl.cu_le s U (k + 1)
    have hCu2 := Tl.cu_le s U k
    have hcs := Tl.cu_succ s U k
    have hkle := Tl.kk_le hs U
    have hlen := Tl.SP_len l (Tl.en l) s U k
    by_cases hlt : k < Tl.kk s U
    · have hCu := hcl.2 hlt
      have hRs := hidA (Tl.SP_succ l (Tl.en l) s U k)
      have hspe : Hid (Tl.sp l (Tl.en l) s U k = (l.take (Tl.en l (Tl.cu s U (k + 1)))).drop (Tl.en l (Tl.cu s U k))) := rfl
      rw [hspe.out] at hRs
      have hxle : ((l.take (Tl.en l (Tl.cu s U (k + 1)))).drop (Tl.en l (Tl.cu s U k))).length ≤ 1048577 := by rw [List.length_drop, List.length_take]; omega
      clear hspe hcl
      generalize hD : Tl.cu s U (k + 1) = D at *
      have HD := hidA hD
      clear hD
      generalize Tl.cu s U k = C at *
      generalize Tl.SP l (Tl.en l) s U k = R0 at *
      obtain ⟨vs, o1, o2, o3, o4⟩ := HR.out
      have hsz := hidA HB.out.size
      have hR1 : R0.length ≤ 1048577 := by omega
      have HK : Hid (R0.length = k) := hlen
      have hVpos : 0 < U - C := by omega
      have hVle : U - C ≤ U := by omega
      have hVU : C + (U - C) = U := by omega
      generalize U - C = V at *
      clear hlen
      by_cases hgt : s < V
      · have hgtI : (s : Int) < (V : Int) := by omega
        have hDn : D = C + s := by omega
        have hV1 : s ≤ V := by omega
        have hT1 := rr_to aR hV1 hcR
        have hT2 := rr_from aR hV1 hcR
        have hVn : V - s = U - D := by omega
        have HJ1 := hidA (fun W (b : Below w1.heap.size w1 W) => HJ.out C s aR cR W (by omega) (HRd.out.grow b))
        have HRd2 := hidA (HRd.out.suf (c := cR) (by rw [List.length_drop, HU.out]; omega) s)
        rw [List.drop_drop, show C + s = D by omega] at HRd2
        rw [show C + s = D by omega] at HJ1
        have hcR2 : V - s ≤ cR - s := by omega
        generalize (if cR = s then aR else aR.map (·.add (s * 1))) = b' at *
        generalize (l.take (Tl.en l D)).drop (Tl.en l C) = x at *
        clear hcs hDn
        have hVs := hidA hVn
        clear hVn
        go_wp2_with (first
          | (go_at_call 14; (with_reducible refine (HJ1.out _ HB.out).mono ?_); rintro e w2 ⟨v2, rfl, h1, b1⟩; have HO2 := hidA h1; have HB2 := hidA (HB.out.trans (b1.mono HB.out.size)); have HO := hidA (own_grow o1 b1); have HP := hidA (fun (v' : Value) (w' : World) (ob : Obj) hown hg => RR.pushg (v' := v') (w' := w') b1 o1 o2 o3 o4 (Sq.of_by h1) h1.one ob hown hg); obtain ⟨a2, c2, hv2⟩ := h1.slice; subst hv2; clear h1 b1)
          | (at_builtin; refine wpList_append_own_at _ rfl _ _ 26 rfl w1.heap.size 22 iR (.slice none 0 0) 1 24 Try.underlying26 hiR hr0 hr1 hr2 rfl (by decide) _ _ _ rfl (HO.out.alloc _) ⟨w2.heap.size, 0, none⟩ 1 1 [.slice a2 x.length c2] rfl rfl (cell_one_new _ _ _) (by intro u hu; simp at hu; subst hu; rfl) (by unfold maxLen; omega) (by omega) (by have h1 := hsz.out; have h2 := HB2.out.size; simp; omega) ?_; intro v6 w6 hown hg2 _ hat; have HR6 := hidA (HP.out v6 w6 _ hown hg2); have HB6 : Hid (Below w1.heap.size w1 w6) := (HB2.out.alloc HB2.out.size _).grown hg2 (by have h1 := hsz.out; have h2 := HB2.out.size; simp; omega) (fun k hk => (HO.out.lt k hk).1); clear hown hg2 hat))
        exact ⟨⟨k + 1, b', cR - s, by rw [HD.out, ← hVs.out], by rw [HD.out, ← hVs.out]; exact hcR2, hlt, by rw [HD.out]; exact HRd2, by rw [hRs.out]; exact HR6, HB6⟩, by simp [slLen]; omega⟩
      · have hgtI : ¬ (s : Int) < (V : Int) := by omega
        have hDn : D = C + V := by omega
        have hV1 : V ≤ V := by omega
        have hT1 := rr_to aR hV1 hcR
        have hT2 := rr_from aR hV1 hcR
        have hVn : V - V = U - D := by omega
        have HJ1 := hidA (fun W (b : Below w1.heap.size w1 W) => HJ.out C V aR cR W (by omega) (HRd.out.grow b))
        have HRd2 := hidA (HRd.out.suf (c := cR) (by rw [List.length_drop, HU.out]; omega) V)
        rw [List.drop_drop, show C + V = D by omega] at HRd2
        rw [show C + V = D by omega] at HJ1
        have hcR2 : V - V ≤ cR - V := by omega
        generalize (if cR = V then aR else aR.map (·.add (V * 1))) = b' at *
        generalize (l.take (Tl.en l D)).drop (Tl.en l C) = x at *
        clear hcs hDn
        have hVs := hidA hVn
        clear hVn
        go_wp2_with (first
          | (go_at_call 14; (with_reducible refine (HJ1.out _ HB.out).mono ?_); rintro e w2 ⟨v2, rfl, h1, b1⟩; have HO2 := hidA h1; have HB2 := hidA (HB.out.trans (b1.mono HB.out.size)); have HO := hidA (own_grow o1 b1); have HP := hidA (fun (v' : Value) (w' : World) (ob : Obj) hown hg => RR.pushg (v' := v') (w' := w') b1 o1 o2 o3 o4 (Sq.of_by h1) h1.one ob hown hg); obtain ⟨a2, c2, hv2⟩ := h1.slice; subst hv2; clear h1 b1)
          | (at_builtin; refine wpList_append_own_at _ rfl _ _ 26 rfl w1.heap.size 22 iR (.slice none 0 0) 1 24 Try.underlying26 hiR hr0 hr1 hr2 rfl (by decide) _ _ _ rfl (HO.out.alloc _) ⟨w2.heap.size, 0, none⟩ 1 1 [.slice a2 x.length c2] rfl rfl (cell_one_new _ _ _) (by intro u hu; simp at hu; subst hu; rfl) (by unfold maxLen; omega) (by omega) (by have h1 := hsz.out; have h2 := HB2.out.size; simp; omega) ?_; intro v6 w6 hown hg2 _ hat; have HR6 := hidA (HP.out v6 w6 _ hown hg2); have HB6 : Hid (Below w1.heap.size w1 w6) := (HB2.out.alloc HB2.out.size _).grown hg2 (by have h1 := hsz.out; have h2 := HB2.out.size; simp; omega) (fun k hk => (HO.out.lt k hk).1); clear hown hg2 hat))
        exact ⟨⟨k + 1, b', cR - V, (by rw [HD.out, ← hVs.out]; simp), by rw [HD.out, ← hVs.out]; exact hcR2, hlt, by rw [HD.out]; exact HRd2, by rw [hRs.out]; exact HR6, HB6⟩, by simp [slLen]; omega⟩
    · have EK : Hid (k = Tl.kk s U) := by show _ = _; omega
      have hCu : Tl.cu s U k = U := by
        by_cases h9 : Tl.cu s U k < U
        · exact absurd (hcl.1 h9) hlt
        · omega
      have HR9 : Hid (RR w1.heap.size wr (.slice a11 (Tl.kk s U) c11) (Tl.SP l (Tl.en l) s U (Tl.kk s U))) := by rw [hlen] at HR; rw [← EK.out]; exact HR
      have hlen9 := Tl.SP_len l (Tl.en l) s U (Tl.kk s U)
      have hkE : Tl.SP l (Tl.en l) s U k = Tl.SP l (Tl.en l) s U (Tl.kk s U) := by rw [EK.out]
      rw [hkE, hlen9, hCu, Nat.sub_self]
      clear hcl hcs hlen HR hkE HS hDu hCu2 HRd hcR HJ HPc
      by_cases hb : 676 < Tl.kk s U
      · have hbI : (676 : Int) < ((Tl.kk s U : Nat) : Int) := by omega
        go_wp2_with fail
        go_ret3
        exact ⟨HBw.out.trans (HB.out.mono HBw.out.size), .inl ⟨hb, rfl⟩⟩
      · have hbI : ¬ (676 : Int) < ((Tl.kk s U : Nat) : Int) := by omega
        have hK : Tl.kk s U ≤ 676 := by omega
        have HN0 : Hid (SRow w1.heap.size wr (.slice none 0 0) (Tl.NM p 0)) := SRow.nil _ _
        go_upto_region 23 with fail
        go_loopw [16, 87] (fun s16 s87 W => ∃ (i : Nat), s87 = .int .i64 i ∧ i ≤ Tl.kk s U ∧ Hid (SRow w1.heap.size W s16 (Tl.NM p i)) ∧ Hid (RR w1.heap.size W (.slice a11 (Tl.kk s U) c11) (Tl.SP l (Tl.en l) s U (Tl.kk s U))) ∧ Hid (Below w1.heap.size w1 W)) (fun _ s87 _ => Tl.kk s U - (intOf s87).toNat)
        case atStart => exact ⟨0, rfl, Nat.zero_le _, HN0, HR9, HB⟩
        case round =>
          obtain ⟨i, rfl, hi, HN, HR, HB1⟩ := hrel
          clear HN0 HR9 HB
          have hsz := hidA HB1.out.size
          obtain ⟨a16, c16, hv16, HSi⟩ := HN.out.src
          subst hv16
          have HNL := hidA (Tl.NM_len p i)
          have hnlb : (Tl.NM p i).length ≤ 1048577 := by rw [HNL.out]; omega
          by_cases hil : i < Tl.kk s U
          · have hw1 : IntKind.i64.wrap ((i : Int) + 1) = ((i + 1 : Nat) : Int) := by rw [IntKind.wrap_i64]; omega
            have h1 : (i : Int).tdiv 26 = ((i / 26 : Nat) : Int) := rfl
            have h2 : (i : Int).tmod 26 = ((i % 26 : Nat) : Int) := rfl
            have hx : ((UInt8.ofNat (97 + i / 26)).toNat : Int) = 97 + ((i / 26 : Nat) : Int) := by simp; omega
            have hy : ((UInt8.ofNat (97 + i % 26)).toNat : Int) = 97 + ((i % 26 : Nat) : Int) := by simp; omega
            have hcv := (let_src wr (UInt8.ofNat (97 + i / 26)) (UInt8.ofNat (97 + i % 26))).text 2
            rw [hx, hy] at hcv
            simp only [List.length_cons, List.length_nil, Nat.zero_add, Nat.reduceAdd] at hcv
            have hm : i / 26 < 26 := by omega
            have hn : i % 26 < 26 := by omega
            have hNs := hidA (Tl.NM_succ p i)
            have hnm : Hid (Tl.nm p i = p ++ [UInt8.ofNat (97 + i / 26), UInt8.ofNat (97 + i % 26)]) := rfl
            rw [hnm.out] at hNs
            have hpy : p.length + 2 ≤ 9223372036854775807 := by omega
            have hq1 : IntKind.i64.wrap ((i / 26 : Nat) : Int) = ((i / 26 : Nat) : Int) := by rw [IntKind.wrap_i64]; omega
            clear hnm HSi
            generalize i / 26 = m at *
            generalize i % 26 = n at *
            have hq2 : IntKind.i64.wrap (97 + (m : Int)) = 97 + (m : Int) := by rw [IntKind.wrap_i64]; omega
            have hq3 : IntKind.i64.wrap (97 + (n : Int)) = 97 + (n : Int) := by rw [IntKind.wrap_i64]; omega
            generalize UInt8.ofNat (97 + m) = x at *
            generalize UInt8.ofNat (97 + n) = y at *
            have HNo := hidA HN.out.own
            generalize Tl.NM p i = N0 at *
            go_wp2_with (at_builtin; refine wpList_append_own_at _ rfl _ _ 25 rfl w1.heap.size 9 iS (.string ⟨#[]⟩) 1 16 Try.underlying25 hiS hs0 hs1 hs3 rfl (by decide) _ _ _ rfl ((HNo.out.alloc _).alloc _) ⟨wr.heap.size + 1, 0, none⟩ 1 1 [.string ⟨(p ++ [x, y]).toArray⟩] rfl rfl (cell_one_at _ _ _ _ (by simp)) (one_str _) (by unfold maxLen; omega) (by omega) (by have := hsz.out; simp; omega) ?_; intro v3 w3 hown hg2 _ hat; have HN3 := hidA (SRow.push (x := p ++ [x, y]) hown); have HR3 := hidA ((HR.out.grow (((Below.refl _ _).alloc (Nat.le_refl _) _).alloc (by simp) _)).other hg2 ((HNo.out.alloc _).alloc _) (Nat.le_refl _)); have HB3 : Hid (Below w1.heap.size w1 w3) := ((HB1.out.alloc hsz.out _).alloc (by have := hsz.out; simp; omega) _).grown hg2 (by have := hsz.out; simp; omega) (fun k hk => (HNo.out.lt k hk).1); clear hown hg2 hat)
            exact ⟨⟨i + 1, by first | rfl | go_num, hil, by rw [hNs.out]; exact HN3, HR3, HB3⟩, by simp [intOf]; omega⟩
          · have EI : Hid (i = Tl.kk s U) := by show _ = _; omega
            go_wp2_with fail
            go_ret3
            refine ⟨HBw.out.trans (HB1.out.mono HBw.out.size), .inr ⟨hK, a16, c16, a11, c11, ?_, by rw [← EI.out]; exact HSi, HR.out.rd.1⟩⟩
            simp only [Tl.NM_len, Tl.SP_len, EI.out]
            rfl
end Go.Proofs.Ytepkolamnlmmgaa
