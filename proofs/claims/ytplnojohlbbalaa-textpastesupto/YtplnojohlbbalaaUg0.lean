/- The program's Paste. Condition: lengths that fit. -/
import Derived.Test.YtplnojohlbbalaaUf9
namespace Go.Proofs.Ytplnojohlbbalaa
open Go.RowKit
attribute [local go_sem] ext_eq app_eq get_eq
namespace Tl
/-- The columns that the program still has ahead of the n-th line. -/
def cn (d : List UInt8) (C : List (List (List UInt8))) (n : Nat) : List (List (List UInt8)) := if d = [] then C.filter (fun c => decide (n ≤ c.length)) else C
theorem cn_zero (d : List UInt8) (C : List (List (List UInt8))) : cn d C 0 = C := by
  unfold cn
  split
  · exact List.filter_eq_self.2 (fun c _ => by simp)
  · rfl
theorem cn_mo (C : List (List (List UInt8))) (n : Nat) : mo n (cn [] C n) = cn [] C (n + 1) := by
  unfold cn mo
  rw [if_pos rfl, if_pos rfl, List.filter_filter]
  congr 1
  funext c
  rw [Bool.eq_iff_iff]
  simp
  omega
theorem cn_some {d : List UInt8} (h : d ≠ []) (C : List (List (List UInt8))) (n : Nat) : cn d C n = C := by unfold cn; rw [if_neg h]
theorem cn_len (d : List UInt8) (C : List (List (List UInt8))) (n : Nat) : (cn d C n).length ≤ C.length := by
  unfold cn
  split
  · exact List.length_filter_le _ _
  · exact Nat.le_refl _
theorem rw_filter (n : Nat) : ∀ C : List (List (List UInt8)), (rw' (C.filter fun c => decide (n + 1 ≤ c.length)) n).flatten = (rw' C n).flatten
  | [] => rfl
  | c :: r => by
    have ih := rw_filter n r
    by_cases h : n + 1 ≤ c.length
    · rw [List.filter_cons, if_pos (by simpa using h)]
      simp only [rw', List.map_cons, List.flatten_cons] at ih ⊢
      rw [ih]
    · rw [List.filter_cons, if_neg (by simpa using h)]
      have e : c.getD n [] = [] := by rw [List.getD_eq_getElem?_getD, List.getElem?_eq_none (by omega)]; rfl
      simp only [rw', List.map_cons, List.flatten_cons, e, List.nil_append] at ih ⊢
      exact ih
theorem cn_line (d : List UInt8) (C : List (List (List UInt8))) (n : Nat) : lnj d (rw' (cn d C (n + 1)) n) = lnj d (rw' C n) := by
  by_cases h : d = []
  · subst h
    unfold lnj cn
    rw [if_pos rfl, jn_nil, jn_nil, rw_filter]
  · rw [cn_some h]
end Tl
/-- Columns of one's own, of which the first k are filled. -/
def Fc (w0 : World) (B : Nat) (W : World) (v : Value) (C : List (List (List UInt8))) (k : Nat) : Prop := ∃ vs : List Value, W.ownsRow B 23 1 v C.length vs ∧ ∃ hl : vs.length = C.length, (∀ i (h : i < C.length), i < k → Ck w0 W (vs[i]'(by omega)) C[i]) ∧ ∀ i (h : i < C.length), k ≤ i → vs[i]'(by omega) = .slice none 0 0
theorem Fc.grow {w0 : World} {B : Nat} {W W' : World} {v : Value} {C : List (List (List UInt8))} {k : Nat} (h : Fc w0 B W v C k) (b : Below W.heap.size W W') : Fc w0 B W' v C k := by
  obtain ⟨vs, h1, h2, h3, h4⟩ := h
  exact ⟨vs, own_grow h1 b, h2, fun i hi hk => (h3 i hi hk).grow b, h4⟩
theorem Fc.pc {w0 : World} {B : Nat} {W : World} {v : Value} {C : List (List (List UInt8))} {k : Nat} (h : Fc w0 B W v C k) (hk : ¬ k < C.length) : PC w0 B W v C := by
  obtain ⟨vs, h1, h2, h3, _⟩ := h
  exact ⟨vs, h1, h2, fun i hi => h3 i hi (by omega)⟩
theorem Fc.cell {w0 : World} {B : Nat} {W : World} {g n cap : Nat} {C : List (List (List UInt8))} {k : Nat} (h : Fc w0 B W (.slice (some ⟨g, 0, none⟩) n cap) C k) (hk : k < C.length) : B ≤ g ∧ g < W.heap.size ∧ W.cell? ⟨g, k, none⟩ = some (.slice none 0 0) ∧ W.frozen? ⟨g, k, none⟩ = false := by
  obtain ⟨vs, h1, h2, h3, h4⟩ := h
  have en : n = C.length := by
    obtain ⟨a', c', e'⟩ := own_slice h1
    injection e' with _ e2 _
  subst en
  have hc := h1.cells (g := g) rfl k (vs[k]'(by omega)) (by simp [h2, hk])
  rw [add0, h4 k hk (Nat.le_refl _)] at hc
  exact ⟨(h1.lt g rfl).1, (h1.lt g rfl).2, hc, h1.frozenAt k⟩
theorem Fc.store {w0 : World} {B : Nat} {W : World} {g n cap : Nat} {C : List (List (List UInt8))} {k : Nat} (h : Fc w0 B W (.slice (some ⟨g, 0, none⟩) n cap) C k) (hk : k < C.length) {v : Value} (hv : Ck w0 W v C[k]) : Fc w0 B (W.setCell ⟨g, k, none⟩ v) (.slice (some ⟨g, 0, none⟩) n cap) C (k + 1) := by
  obtain ⟨vs, h1, h2, h3, h4⟩ := h
  have hkd := own_kind h1 g rfl
  have en : n = C.length := by
    obtain ⟨a', c', e'⟩ := own_slice h1
    injection e' with _ e2 _
  subst en
  refine ⟨vs.set k v, (h1.stored k _).1, by simp [h2], fun i hi hik => ?_, fun i hi hik => ?_⟩
  · rw [List.getElem_set]
    by_cases e : k = i
    · subst e
      rw [if_pos rfl]
      exact hv.setC hkd
    · rw [if_neg e]
      exact (h3 i hi (by omega)).setC hkd
  · rw [List.getElem_set, if_neg (by omega)]
    exact h4 i hi (by omega)
theorem RT.ck {w0 : World} {B : Nat} {W : World} {v : Value} {X : List (List UInt8)} (h : RT w0 B W v X) : Ck w0 W v X := by
  obtain ⟨a, c, rfl⟩ := h.slice
  refine ⟨a, c, rfl, ?_, h.rk⟩
  obtain ⟨vs, h1, _⟩ := h
  rcases h1.2 with ⟨e, h0⟩ | ⟨g, cap, cur, e, _, _, h9, _⟩
  · rw [h0]; exact Nat.zero_le _
  · injection e with _ _ e3
    subst e3; exact h9
theorem By.otherC {B B2 n : Nat} {W w' : World} {v r : Value} {x : List UInt8} {vs : List Value} (h : By B W v x) (hg : W.grownBy w' r.ownBlock) (hr : W.ownsRow B2 23 1 r n vs) : By B w' v x := by
  refine h.on (fun g c hc => hg.block g (heap_lt hc) (fun e => ?_))
  obtain ⟨c2, f2, h2⟩ := own_kind hr g e.symm
  exact absurd rfl (heap_ne hc h2 (by decide))
theorem PC.ko {w0 : World} {B B2 : Nat} {W w' : World} {v vo vo' : Value} {C : List (List (List UInt8))} {x : List UInt8} (h : PC w0 B W v C) (k : Ko W vo w' vo') (b : Below B2 W w') (ho : By B2 W vo x) : PC w0 B w' v C :=
  h.other (r := vo) ⟨b.os, b.tape, b.output, k.size, fun i hi hr => k.blk i hi hr⟩ ho.own
set_option maxRecDepth 100000 in
set_option maxHeartbeats 8000000 in
theorem oPaste (L : List (List UInt8)) (d : List UInt8) (a : Option Addr) (c : Nat) (hL : L.flatten.length + L.length ≤ 1048577) (hd : d.length ≤ 1048577) (w : World) (hR : Rd w a L) : Calls Try.prog 15 #[.slice a L.length c, .string ⟨d.toArray⟩] w fun e w' => ∃ v, e = .returned v ∧ By w.heap.size w' v (Tl.pas d (L.map Tl.ls) (Tl.mx (L.map Tl.ls) L.length)) ∧ Below w.heap.size w w' := by
  have HR := hidA hR
  have HPl := hidA (fun m (hm : m ≤ 1048577) => Tl.pas_le hL d m hm)
  have hMk : ∀ k, k ≤ L.length → Tl.mx (L.map Tl.ls) k ≤ 1048577 := fun k hk => by
    refine Tl.mx_le (fun c hc => ?_) _ (by rw [List.length_map]; exact hk)
    obtain ⟨x, hx, rfl⟩ := List.mem_map.1 hc
    have h1 := Tl.ls_len x
    have h2 := (List.sublist_flatten_of_mem hx).length_le
    omega
  have hMx := hMk L.length (Nat.le_refl _)
  have HMk := hidA hMk
  have hCl : (L.map Tl.ls).length = L.length := List.length_map _
  have HCl := hidA hCl
  have HCk : Hid (∀ k (h : k < L.length) (h2 : k < (L.map Tl.ls).length), (L.map Tl.ls)[k]'h2 = Tl.ls L[k]) := fun k h h2 => by simp
  have hL2 : L.length ≤ 1048577 := by omega
  have HFe := hidA (fun k (h : k < L.length) => (show L[k].length ≤ 1048577 from by have := Tl.flat_each (X := L) h; omega))
  have hmk := mk_cols L.length hL2 w
  have HF0 : Hid (Fc w w.heap.size (w.alloc (.cells (madeCells #[.slice none 0 0] L.length) 23)) (.slice (some ⟨w.heap.size, 0, none⟩) L.length L.length) (L.map Tl.ls) 0) := by
    refine ⟨List.replicate L.length (.slice none 0 0), ?_, by simp, fun i _ h => absurd h (Nat.not_lt_zero _), fun i h _ => by simp⟩
    rw [List.length_map]; exact made_own w w.heap.size L.length _ hL2 (Nat.le_refl _)
  have HB0 := hidA ((Below.refl w.heap.size w).alloc (Nat.le_refl _) (.cells (madeCells #[.slice none 0 0] L.length) 23))
  clear hR hMk hCl hL
  generalize L.map Tl.ls = C at *
  go_enter Try.func15, Try.ntmps15
  go_upto_region 3 with fail
  generalize w.alloc (.cells (madeCells #[.slice none 0 0] L.length) 23) = W0 at *
  clear hmk
  go_loopw [6, 16] (fun s6 s16 W => ∃ (k : Nat), s16 = .int .i64 k ∧ s6 = .int .i64 (Tl.mx C k) ∧ k ≤ L.length ∧ Hid (Fc w w.heap.size W (.slice (some ⟨w.heap.size, 0, none⟩) L.length L.length) C k) ∧ Hid (Below w.heap.size w W)) (fun _ s16 _ => L.length - (intOf s16).toNat)
  case atStart => exact ⟨0, rfl, by rw [Tl.mx_zero]; rfl, Nat.zero_le _, HF0, HB0⟩
  case round =>
    obtain ⟨k, rfl, rfl, hk, HF, HB⟩ := hrel
    clear HF0 HB0
    by_cases hlt : k < L.length
    · obtain ⟨g, o, a', c', rfl, hg, hc0, hs⟩ := HR.out k hlt
      have hc : wr.cell? ⟨g, o + k, none⟩ = some (.slice a' L[k].length c') := (HB.out.cell (p := ⟨g, o + k, none⟩) hg).trans hc0
      have hgw : g < wr.heap.size := Nat.lt_of_lt_of_le hg HB.out.size
      have hw1 : IntKind.i64.wrap ((k : Int) + 1) = ((k + 1 : Nat) : Int) := by rw [IntKind.wrap_i64]; omega
      have HT := hidA (oTextsT L[k] a' c' (HFe.out k hlt) w wr hs HB.out)
      have hltC : k < C.length := by rw [HCl.out]; exact hlt
      have hms := Tl.mx_succ hltC
      have HCe := HCk.out k hlt hltC
      have HSt := hidA (fun (W : World) (v : Value) (b : Below wr.heap.size wr W) (hv : Ck w W v (Tl.ls L[k])) => (show W.cell? ⟨w.heap.size, k, none⟩ = some (.slice none 0 0) ∧ W.frozen? ⟨w.heap.size, k, none⟩ = false ∧ Fc w w.heap.size (W.setCell ⟨w.heap.size, k, none⟩ v) (.slice (some ⟨w.heap.size, 0, none⟩) L.length L.length) C (k + 1) ∧ Below w.heap.size w (W.setCell ⟨w.heap.size, k, none⟩ v) ∧ (W.setCell ⟨w.heap.size, k, none⟩ v).cell? ⟨w.heap.size, k, none⟩ = some v from by
        have hF := HF.out.grow b
        obtain ⟨q1, q2, q3, q4⟩ := hF.cell hltC
        exact ⟨q3, q4, hF.store hltC (by rw [HCe]; exact hv), (HB.out.trans (b.mono HB.out.size)).setCell (Nat.le_refl _) _, World.cell?_setCell_same _ _ _ q3⟩))
      rw [HCe] at hms
      have hyl := Tl.ls_len L[k]
      have hbl := HFe.out k hlt
      have HMs := hidA hms
      have hM1 := HMk.out k hk
      clear hc0 hs HR hltC hms HCe HF
      generalize Tl.ls L[k] = Y at *
      generalize L[k] = x0 at *
      generalize hMM : Tl.mx C k = M at *
      have hmaxI : max (M : Int) (Y.length : Int) = ((max M Y.length : Nat) : Int) := by omega
      clear hMM
      go_wp2_with (go_at_call 21; (with_reducible refine HT.out.mono ?_); rintro e w2 ⟨v, rfl, h1, b1⟩; obtain ⟨aY, cY, hv⟩ := h1.slice; subst hv; obtain ⟨q1, q2, q3, q4, q5⟩ := HSt.out w2 _ b1 h1.ck; have HF3 := hidA q3; have HB3 := hidA q4; clear h1 b1 q3 q4)
      exact ⟨⟨k + 1, by first | rfl | go_num, by rw [HMs.out], hlt, HF3, HB3⟩, by simp [intOf]; omega⟩
    · have EK : k = L.length := by omega
      subst EK
      have HP := hidA (HF.out.pc (by rw [HCl.out]; omega))
      have HBw := hidA HB.out
      have hkf : ¬ (L.length : Int) < (L.length : Int) := by omega
      have hCl2 : C.length ≤ 1048577 := by rw [HCl.out]; exact hL2
      clear HF HB hlt hk
      obtain ⟨w1, hww⟩ : ∃ w1, w1 = wr := ⟨_, rfl⟩
      subst hww
      generalize hM : Tl.mx C L.length = M at *
      have HM := hidA hM
      clear hM
      have HP0 : Hid (PC w w.heap.size w1 (.slice (some ⟨w.heap.size, 0, none⟩) L.length L.length) (Tl.cn d C 0)) := by show PC _ _ _ _ _; rw [Tl.cn_zero]; exact HP.out
      go_upto_region 10 with fail
      go_loopw [5, 9, 35] (fun s5 s9 s35 W => ∃ (n : Nat), s35 = .int .i64 n ∧ n ≤ M ∧ Hid (PC w w.heap.size W s5 (Tl.cn d C n)) ∧ Hid (By w.heap.size W s9 (Tl.pas d C n)) ∧ Hid (Below w.heap.size w W)) (fun _ _ s35 _ => M - (intOf s35).toNat)
      case atStart => exact ⟨0, rfl, Nat.zero_le _, HP0, hidA (by show By _ _ _ _; rw [Tl.pas_zero]; exact By.nil _ _), HBw⟩
      case round =>
        obtain ⟨n, rfl, hn, HPn, HO, HB⟩ := hrel
        clear HP0 HP
        by_cases hnM : n < M
        · have hwn : IntKind.i64.wrap ((n : Int) + 1) = ((n + 1 : Nat) : Int) := by rw [IntKind.wrap_i64]; omega
          have hnI : (n : Int) < (M : Int) := by omega
          have HnM := hidA hnM
          obtain ⟨a5, c5, hv5⟩ := HPn.out.slice
          subst hv5
          have hcl := Tl.cn_len d C n
          have hcl1 := Tl.cn_len d C (n + 1)
          have hps := Tl.pas_succ d C n
          rw [← Tl.cn_line d C n] at hps
          have hpl1 := HPl.out (n + 1) (by omega)
          rw [hps, List.length_append] at hpl1
          have HPs := hidA hps
          have hbB := (Below.refl wr.heap.size wr).alloc (Nat.le_refl _) (.cells #[.int .i64 n] 3)
          have hbx : (wr.alloc (.cells #[.int .i64 n] 3)).cell? ⟨wr.heap.size, 0, none⟩ = some (.int .i64 n) := World.cell?_alloc_at _ _ _ _ rfl
          have HRow := hidA (fun (W : World) (a6 : Option Addr) (c6 : Nat) (h : PC w w.heap.size W (.slice a6 (Tl.cn d C (n + 1)).length c6) (Tl.cn d C (n + 1))) => oRow (Tl.cn d C (n + 1)) n a6 c6 (by omega) w W h.cq)
          have hXl := Tl.rw_len (Tl.cn d C (n + 1)) n
          have HJn := hidA (fun (W : World) (v : Value) (aR : Option Addr) (cR : Nat) (b : Below w.heap.size w W) (h1 : By w.heap.size W v (Tl.pas d C n)) (h2 : Rk w W aR (Tl.rw' (Tl.cn d C (n + 1)) n)) => oJoinedP d (Tl.pas d C n) (Tl.rw' (Tl.cn d C (n + 1)) n) v aR cR w.heap.size (by omega) hd (by omega) w W b h1 h2 (Nat.le_refl _) b.size)
          have hown : (Value.slice a5 (Tl.cn d C n).length c5).ownBlock ≠ some wr.heap.size := fun e => by
            obtain ⟨vs, o1, _⟩ := HPn.out
            have := (o1.lt _ e).2
            omega
          have HNe := hidA hown
          have HDel := hidA (oDelete (Tl.cn d C n) n wr.heap.size _ w.heap.size (by omega) w _ (HPn.out.grow hbB) hbx hown)
          have HO2 := hidA (HO.out.grow hbB)
          have HB2 := hidA (HB.out.trans (hbB.mono HB.out.size))
          have HPb := hidA (HPn.out.grow hbB)
          clear hps hXl hown hbB HO HB
          by_cases hd0 : d = []
          · have hie : d.isEmpty = true := by rw [hd0]; rfl
            have HMo : Hid (Tl.mo n (Tl.cn d C n) = Tl.cn d C (n + 1)) := by show _ = _; rw [hd0]; exact Tl.cn_mo C n
            clear hd0 HPn
            rw [HMo.out] at HDel
            generalize Tl.rw' (Tl.cn d C (n + 1)) n = X at *
            generalize hC1 : Tl.cn d C (n + 1) = C1 at *
            have HC1 := hidA hC1
            clear hC1
            generalize Tl.cn d C n = C0 at *
            generalize Tl.pas d C n = p at *
            go_upto_region 12 with fail
            generalize wr.alloc (.cells #[.int .i64 n] 3) = Wb at *
            go_wp2_with (first
              | (go_at_call 27; (with_reducible refine HDel.out.mono ?_); rintro e w2 ⟨v', rfl, h1, hg1, ho1⟩; obtain ⟨vs, o1, _⟩ := HPb.out; have HO2 := hidA (HO2.out.otherC hg1 o1); have HB2 := hidA (HB2.out.grown hg1 HB2.out.size (fun k hk => (o1.lt k hk).1)); have hbx2 := hg1.cell hbx (fun e => HNe.out e.symm); have HP2 := hidA h1; obtain ⟨a6, c6, hv6⟩ := h1.slice; subst hv6; clear h1 hg1 ho1 o1)
              | (go_at_call 30; (with_reducible refine (HRow.out _ _ _ HP2.out).mono ?_); rintro e w3 ⟨vR, rfl, h1, b1⟩; have HO3 := hidA (HO2.out.grow b1); have HP3 := hidA (HP2.out.grow b1); have HB3 := hidA (HB2.out.trans (b1.mono HB2.out.size)); obtain ⟨aR, cR, hvR⟩ := h1.slice; subst hvR; have HK3 := hidA h1.rk; clear h1 b1)
              | (go_at_call 29; (with_reducible refine (HJn.out _ _ _ _ HB3.out HO3.out HK3.out).mono ?_); rintro e w4 ⟨v4, rfl, h1, _, k1, b1⟩; have HO4 := hidA h1; have HP4 := hidA (HP3.out.ko k1 b1 HO3.out); have HB4 := hidA (HB3.out.trans b1); clear h1 k1 b1))
            exact ⟨⟨n + 1, by first | rfl | go_num, HnM.out, by rw [HC1.out]; exact HP4, by rw [HPs.out]; exact HO4, HB4⟩, by have := HnM.out; simp [intOf]; omega⟩
          · have hie : d.isEmpty = false := by
              cases d with
              | nil => exact absurd rfl hd0
              | cons x r => rfl
            have hCC : Tl.cn d C n = Tl.cn d C (n + 1) := by rw [Tl.cn_some hd0, Tl.cn_some hd0]
            rw [hCC] at HPb ⊢
            have HP2 := HPb
            clear hd0 HPn hCC HDel
            generalize Tl.rw' (Tl.cn d C (n + 1)) n = X at *
            generalize hC1 : Tl.cn d C (n + 1) = C1 at *
            have HC1 := hidA hC1
            clear hC1
            generalize Tl.pas d C n = p at *
            go_upto_region 12 with fail
            generalize wr.alloc (.cells #[.int .i64 n] 3) = Wb at *
            go_wp2_with (first
              | (go_at_call 30; (with_reducible refine (HRow.out _ _ _ HP2.out).mono ?_); rintro e w3 ⟨vR, rfl, h1, b1⟩; have HO3 := hidA (HO2.out.grow b1); have HP3 := hidA (HP2.out.grow b1); have HB3 := hidA (HB2.out.trans (b1.mono HB2.out.size)); obtain ⟨aR, cR, hvR⟩ := h1.slice; subst hvR; have HK3 := hidA h1.rk; clear h1 b1)
              | (go_at_call 29; (with_reducible refine (HJn.out _ _ _ _ HB3.out HO3.out HK3.out).mono ?_); rintro e w4 ⟨v4, rfl, h1, _, k1, b1⟩; have HO4 := hidA h1; have HP4 := hidA (HP3.out.ko k1 b1 HO3.out); have HB4 := hidA (HB3.out.trans b1); clear h1 k1 b1))
            exact ⟨⟨n + 1, by first | rfl | go_num, HnM.out, by rw [HC1.out]; exact HP4, by rw [HPs.out]; exact HO4, HB4⟩, by have := HnM.out; simp [intOf]; omega⟩
        · have EN : Hid (n = M) := by show _ = _; omega
          have hnI : ¬ (n : Int) < (M : Int) := by omega
          go_wp2_with fail
          go_ret
          exact ⟨_, rfl, by rw [HM.out, ← EN.out]; exact HO.out, HB.out⟩
end Go.Proofs.Ytplnojohlbbalaa
