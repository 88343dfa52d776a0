/- Several texts of this claim, one behind the other, in their order. -/
import Derived.Test.YtplnojohlbbalaaM11
import Derived.Test.YtplnojohlbbalaaM13
import Derived.BigQuiet
/- Rewriting a text line by line, by any teller: all the lines. Condition: lengths that fit. -/
namespace Go.Proofs.Ytplnojohlbbalaa
open Go.RowKit
attribute [local go_sem] ext_eq app_eq get_eq
theorem Tl.prs_at {l : List UInt8} {k : Nat} (h : k < (Tl.prs l).length) : (Tl.prs l)[k] = (Tl.hd (l.drop (Tl.en l k)), Tl.yes (l.drop (Tl.en l k))) := by
  have ih := Tl.prs_drop l k (Nat.le_of_lt h)
  have hc : (Tl.prs l).drop k = (Tl.prs l)[k] :: (Tl.prs l).drop (k + 1) := List.drop_eq_getElem_cons h
  have hr : l.drop (Tl.en l k) ≠ [] := Tl.prs_ne (by rw [ih, hc]; exact List.cons_ne_nil _ _)
  have hs := Tl.prs_step hr
  rw [ih, hc] at hs
  injection hs with h1 _
/-- What is told behind each of the lines, and what the world is then. -/
structure Telling (w0 : World) (F : FuncId) (pre post : Array Value) (B0 B : Nat) (m : Option Nat) (P : List (List UInt8 × Bool)) (I : Nat → World → Prop) (o q : Nat → List UInt8) : Prop where
  enter : ∀ args w, (callFunc F args).run Try.prog w = .ok (.enter F args) w
  tells : ∀ k (h : k < P.length), Tells w0 F pre post B0 B m (I k) (I (k + 1)) (o k) P[k].1 (q k)
  ends : ∀ k (h : k < P.length), o (k + 1) = q k ++ nl P[k].2
  firm : ∀ k, Firm B (I k)
  fits : ∀ k, k < P.length → (q k).length ≤ 2 ^ 46
set_option maxRecDepth 100000 in
set_option maxHeartbeats 4000000 in
theorem oEachB (F : FuncId) (pre post : Array Value) (B0 B gt : Nat) (m : Option Nat) (I : Nat → World → Prop) (o q : Nat → List UInt8) (l : List UInt8) (w0 w : World) (hTg : Telling w0 F pre post B0 B m (Tl.prs l) I o q) (a : Option Addr) (c : Nat) (v0 : Value) (hl : l.length ≤ 1048577) (hS : Sr w0 a c l) (h0 : Below w0.heap.size w0 w) (hO : By B w v0 (o 0)) (hI : I 0 w) (hw0 : w0.heap.size ≤ B0) (hB0 : B0 ≤ B) (hB : B ≤ w.heap.size) (hgt : w.cell? ⟨gt, 0, none⟩ = some (.func (.func F) pre post)) (hgB : gt < B) (hgm : some gt ≠ m) (hm : ∀ k, m = some k → k < w.heap.size) : Calls Try.prog 44 #[.slice a l.length c, v0, .func (.func 45) #[] #[.pointer (some ⟨gt, 0, none⟩)]] w fun e w' => ∃ v, e = .returned v ∧ By B w' v (o (Tl.prs l).length) ∧ I (Tl.prs l).length w' ∧ Below B0 w w' := by
  have H0 := hidA h0
  have HO0 := hidA hO
  have HI0 := hidA hI
  have HG0 := hidA hgt
  have HT := hidA hTg
  have HS0 := hidA (show Sr w0 a c (l.drop (Tl.en l 0)) by rw [Tl.en_zero]; exact hS)
  have hpl := Tl.prs_len l.length l (Nat.le_refl _)
  have Hb := hidA hw0
  have Hb0 := hidA hB0
  have Hb2 := hidA hB
  have Hgm := hidA hgm
  have HgB := hidA hgB
  have Hm := hidA hm
  clear h0 hI hS hB hB0 hO hgt hTg hw0 hgm hgB hm
  go_enter Try.func44, Try.ntmps44
  go_wp2_with fail
  go_loopw [0, 1] (fun s0 s1 W => ∃ (k : Nat) (aR : Option Addr) (cR : Nat), s0 = .slice aR (l.drop (Tl.en l k)).length cR ∧ k ≤ (Tl.prs l).length ∧ Hid (Sr w0 aR cR (l.drop (Tl.en l k))) ∧ Hid (By B W s1 (o k)) ∧ Hid (I k W) ∧ Hid (W.cell? ⟨gt, 0, none⟩ = some (.func (.func F) pre post)) ∧ Hid (Below B0 w W)) (fun s0 _ _ => slLen s0)
  case atStart => exact ⟨0, a, c, by rw [Tl.en_zero]; rfl, Nat.zero_le _, HS0, HO0, HI0, HG0, hidA (Below.refl _ _)⟩
  case round =>
    obtain ⟨k, aR, cR, rfl, hk, HS, HO, HI, HG, HB⟩ := hrel
    have hBb := hidA (H0.out.trans (HB.out.mono Hb.out))
    have hsz := hidA (Nat.le_trans Hb2.out HB.out.size)
    clear HI0 HS0 HO0 HG0
    have hrl : (l.drop (Tl.en l k)).length ≤ 1048577 := by rw [List.length_drop]; omega
    by_cases hr : l.drop (Tl.en l k) = []
    · have hkn := Tl.at_done hk hr
      rw [hr] at HS ⊢
      clear HS
      go_wp2_with fail
      go_ret
      exact ⟨_, rfl, by rw [← hkn]; exact HO.out, by rw [← hkn]; exact HI.out, HB.out⟩
    · obtain ⟨hk1, e1, e2⟩ := Tl.at_more hk hr
      have HE1 := hidA e1
      have hkl : k < (Tl.prs l).length := hk1
      have hpa := Tl.prs_at hkl
      have hlt := Tl.tl_lt hr
      have HC := hidA (fun W g (h1 : Below w0.heap.size w0 W) (h2 : W.cell? ⟨g, 0, none⟩ = some (.int .u8 10)) => oCutG (l.drop (Tl.en l k)) aR cR g (by omega) W (HS.out.grow h1) h2)
      have HK : Hid (∀ (W : World) (a1 : Option Addr) (c1 : Nat) (v : Value), By B W v (o k) → I k W → Sr w0 a1 c1 (Tl.hd (l.drop (Tl.en l k))) → Below w0.heap.size w0 W → wr.heap.size ≤ W.heap.size → W.cell? ⟨gt, 0, none⟩ = some (.func (.func F) pre post) → Calls Try.prog 45 #[v, .agg #[.slice a1 (Tl.hd (l.drop (Tl.en l k))).length c1, .bool (Tl.yes (l.drop (Tl.en l k)))], .pointer (some ⟨gt, 0, none⟩)] W fun y w' => ∃ v', y = .returned v' ∧ By B w' v' (o (k + 1)) ∧ I (k + 1) w' ∧ Below B0 W w' ∧ Km m W v w' v') := fun W a1 c1 v g1 g2 g3 g6 g4 g5 => by
        have ht := HT.out.tells k hkl
        have he := HT.out.ends k hkl
        rw [hpa] at ht he
        rw [he]
        exact oRewrite1 w0 F pre post B0 B gt m (I k) (I (k + 1)) (o k) _ (q k) HT.out.enter ht (HT.out.fits k hkl) (HT.out.firm k) (HT.out.firm (k + 1)) W v a1 c1 _ g2 g1 g3 g6 (Nat.le_trans hsz.out g4) Hb0.out (fun j hj => Nat.lt_of_lt_of_le (Hm.out j hj) (Nat.le_trans HB.out.size g4)) g5
      have hpos : 0 < (l.drop (Tl.en l k)).length := List.length_pos_iff.2 hr
      have HW := hidA (hBb.out.alloc hBb.out.size (.cells #[.int .u8 10] 5))
      have HTt : Hid (∀ W a2 c2, Sr W a2 c2 (Tl.tl (l.drop (Tl.en l k))) → Sr W a2 c2 (l.drop (Tl.en l (k + 1)))) := fun W a2 c2 h => by rw [← HE1.out]; exact h
      have HTl : Hid ((l.drop (Tl.en l (k + 1))).length = (Tl.tl (l.drop (Tl.en l k))).length) := by show _ = _; rw [HE1.out]
      clear HE1 e1 e2 hr hpa
      generalize Tl.hd (l.drop (Tl.en l k)) = h at *
      generalize Tl.tl (l.drop (Tl.en l k)) = t at *
      generalize Tl.yes (l.drop (Tl.en l k)) = y at *
      generalize l.drop (Tl.en l k) = r at *
      go_wp2_with (first
        | (go_at_call 50; (with_reducible refine (HC.out _ _ HW.out (World.cell?_alloc_at _ _ _ _ rfl)).mono ?_); rintro e w2 ⟨a1, c1, a2, c2, rfl, h1, h2⟩; have H1 := hidA h1; have HA := hidA ((Below.refl _ _).alloc (Nat.le_refl _) _ |>.trans (h2.mono (by simp))); clear h1 h2)
        | (go_at_call 45; (with_reducible refine (HK.out _ _ _ _ (HO.out.grow HA.out) ((HT.out.firm k).grow _ _ HI.out HA.out) (H1.out _ HS.out).1 (hBb.out.trans (HA.out.mono hBb.out.size)) HA.out.size ((HA.out.cell (p := ⟨gt, 0, none⟩) (block_lt_of_cell HG.out)).trans HG.out)).mono ?_); rintro e w3 ⟨v', rfl, h1, h2, h3, h4⟩; have HO2 := hidA h1; have HI2 := hidA h2; have HB3 := hidA (HB.out.trans ((HA.out.mono (Nat.le_trans Hb0.out hsz.out)).trans h3)); have HG3 : Hid (w3.cell? ⟨gt, 0, none⟩ = some (.func (.func F) pre post)) := h4.cell ((HA.out.cell (p := ⟨gt, 0, none⟩) (block_lt_of_cell HG.out)).trans HG.out) (fun e9 => by have := (by_at HO.out e9.symm).1; have := HgB.out; omega) Hgm.out; clear h1 h2 h3 h4))
      exact ⟨⟨k + 1, a2, c2, by rw [HTl.out], hk1, hidA (HTt.out _ _ _ (H1.out _ HS.out).2), HO2, HI2, HG3, HB3⟩, by simp [slLen]; omega⟩
end Go.Proofs.Ytplnojohlbbalaa
/- The program's rewrite, by any teller. Condition: lengths that fit. -/
namespace Go.Proofs.Ytplnojohlbbalaa
open Go.RowKit
attribute [local go_sem] ext_eq app_eq get_eq
set_option maxRecDepth 100000 in
set_option maxHeartbeats 2000000 in
theorem oRewrite (F : FuncId) (pre post : Array Value) (B0 : Nat) (m : Option Nat) (I : Nat → World → Prop) (o q : Nat → List UInt8) (l : List UInt8) (a : Option Addr) (c : Nat) (hl : l.length ≤ 1048577) (w0 w : World) (hTg : Telling w0 F pre post B0 (w.heap.size + 1) m (Tl.prs l) I o q) (h00 : o 0 = []) (hS : Sr w0 a c l) (h0 : Below w0.heap.size w0 w) (hI : I 0 w) (hw0 : w0.heap.size ≤ B0) (hB0 : B0 ≤ w.heap.size) (hm : ∀ k, m = some k → k < w.heap.size) : Calls Try.prog 31 #[.slice a l.length c, .func (.func F) pre post] w fun e w' => ∃ v, e = .returned v ∧ By w.heap.size w' v (o (Tl.prs l).length) ∧ I (Tl.prs l).length w' ∧ Below B0 w w' := by
  have hbW := (Below.refl w.heap.size w).alloc (Nat.le_refl _) (.cells #[.func (.func F) pre post] 55)
  have HE := hidA (oEachB F pre post B0 (w.heap.size + 1) w.heap.size m I o q l w0 (w.alloc (.cells #[.func (.func F) pre post] 55)) hTg a c (.slice none 0 0) hl hS (h0.trans (hbW.mono h0.size)) (by rw [h00]; exact By.nil _ _) ((hTg.firm 0).grow _ _ hI hbW) hw0 (by omega) (by simp) (World.cell?_alloc_at _ _ _ _ rfl) (by omega) (fun e => by have := hm _ e.symm; omega) (fun k hk => by have := hm k hk; simp; omega))
  have HBW := hidA ((Below.refl B0 w).alloc hB0 (.cells #[.func (.func F) pre post] 55))
  clear hTg hS h0 hI hw0 hB0 hm hbW
  go_enter Try.func31, Try.ntmps31
  go_wp2_with (go_at_call 44; (with_reducible refine HE.out.mono ?_); rintro e w1 ⟨v, rfl, h1, h2, h3⟩; have HO := hidA h1; have HI := hidA h2; have HB := hidA (HBW.out.trans h3); clear h1 h2 h3)
  go_ret
  exact ⟨_, rfl, HO.out.mono (Nat.le_succ _), HI.out, HB.out⟩
end Go.Proofs.Ytplnojohlbbalaa
/- Fold's teller: one line. Condition: lengths that fit. -/
namespace Go.Proofs.Ytplnojohlbbalaa
open Go.RowKit
attribute [local go_sem] ext_eq app_eq get_eq
theorem Km.bel (m : Option Nat) {w W : World} (v : Value) (b : Below w.heap.size w W) : Km m w v W v := ⟨fun k hk _ _ => b.block k hk, .inl rfl, b.size⟩
theorem put_mid (D P : List UInt8) (k : Nat) : put10 (D ++ P) (D.length + k) = D ++ P.take k ++ [10] ++ P.drop k := by
  unfold put10
  rw [List.take_length_add_append, List.drop_length_add_append]
set_option maxRecDepth 100000 in
set_option maxHeartbeats 8000000 in
theorem foldTells (w0 : World) (B0 B : Nat) (wd : Int) (ws : Bool) (p x : List UInt8) (hl : p.length + 2 * x.length ≤ 2 ^ 44) (hw0 : w0.heap.size ≤ B0) (hB0 : B0 ≤ B) : Tells w0 32 #[.agg #[.int .i64 wd, .bool ws]] #[] B0 B none (fun _ => True) (fun _ => True) p x (Fl.tl wd ws p x) := by
  intro w v a c _ hO hS hw hB
  obtain ⟨iB, hiB, hb0, hb1, hb2⟩ := infoB
  show Calls Try.prog 32 #[.agg #[.int .i64 wd, .bool ws], v, .slice a x.length c] w _
  have hbw := (Below.refl w.heap.size w).alloc (Nat.le_refl _) (.cells #[.int .i64 wd, .bool ws] 53)
  have hvo : ∀ k, v.ownBlock = some k → k < w.heap.size := fun k e => (by_at hO e).2
  have hO1 := hO.grow hbw
  obtain ⟨av, cv, hv⟩ := hO.slice
  have HSx := hidA (fun (W : World) (b : Below B0 (w.alloc (.cells #[.int .i64 wd, .bool ws] 53)) W) => (show Sr W a c x from hS.grow ((hw.trans (hbw.mono hw.size)).trans (b.mono hw0))))
  have HK0 := hidA (fun (W : World) (v' : Value) (h : Km none (w.alloc (.cells #[.int .i64 wd, .bool ws] 53)) v W v') => (show W.cell? ⟨w.heap.size, 0, none⟩ = some (.int .i64 wd) ∧ W.cell? ⟨w.heap.size, 1, none⟩ = some (.bool ws) from
    ⟨h.cell (World.cell?_alloc_at _ _ _ _ rfl) (fun e => by have := hvo _ e.symm; omega) (by simp), h.cell (World.cell?_alloc_at _ _ _ _ rfl) (fun e => by have := hvo _ e.symm; omega) (by simp)⟩))
  have HFin := hidA (fun (W : World) (v' : Value) (b : Below B0 (w.alloc (.cells #[.int .i64 wd, .bool ws] 53)) W) (h : Km none (w.alloc (.cells #[.int .i64 wd, .bool ws] 53)) v W v') => (show Below B0 w W ∧ Km none w v W v' from ⟨(hbw.mono (Nat.le_trans hB0 hB)).trans b, (Km.alloc none w v _).trans h⟩))
  have HO0 := hidA (show By B (w.alloc (.cells #[.int .i64 wd, .bool ws] 53)) v (p ++ []) by rw [List.append_nil]; exact hO1)
  have hBs : B ≤ (w.alloc (.cells #[.int .i64 wd, .bool ws] 53)).heap.size := Nat.le_trans hB hbw.size
  have HBs := hidA hBs
  have HB0 := hidA hB0
  have HL := hidA (fun k => Fl.fo_len wd ws p (x.take k))
  have HT := hidA (fun k (h : k < x.length) => Fl.fo_take (wd := wd) (ws := ws) (D := p) h)
  have hz : Fl.fo wd ws p (x.take 0) = (p, []) := rfl
  have hzx : Fl.fo wd ws p (x.take x.length) = Fl.fo wd ws p x := by rw [List.take_length]
  have HTl : Hid (Fl.tl wd ws p x = (Fl.fo wd ws p (x.take x.length)).1 ++ (Fl.fo wd ws p (x.take x.length)).2) := by show _ = _; rw [hzx]; rfl
  rw [HTl.out]
  clear hzx HTl hO hS hw hvo hO1 hbw hBs hB hw0 hB0
  generalize hfo : (fun k => Fl.fo wd ws p (x.take k)) = σ at *
  have hfo2 : ∀ k, Fl.fo wd ws p (x.take k) = σ k := fun k => by rw [← hfo]
  simp only [hfo2] at HL HT hz ⊢
  clear hfo hfo2
  subst hv
  go_enter Try.func32, Try.ntmps32
  go_upto_region 1 with fail
  generalize w.alloc (.cells #[.int .i64 wd, .bool ws] 53) = W1 at *
  have HBb0 := hidA (Below.refl B0 W1)
  have HKm0 := hidA (Km.refl none W1 (.slice av p.length cv))
  go_upto_region 3 with fail
  go_loopw [1, 7, 8, 15] (fun s1 s7 s8 s15 W => ∃ (k : Nat) (D P : List UInt8), s15 = .int .i64 k ∧ s7 = .int .i64 D.length ∧ s8 = .int .i64 (Fl.ce P : Nat) ∧ k ≤ x.length ∧ Hid (σ k = (D, P)) ∧ Hid (By B W s1 (D ++ P)) ∧ Hid (Below B0 W1 W) ∧ Hid (Km none W1 (.slice av p.length cv) W s1)) (fun _ _ _ s15 _ => x.length - (intOf s15).toNat)
  case atStart => exact ⟨0, p, [], rfl, rfl, rfl, Nat.zero_le _, hidA hz, HO0, HBb0, HKm0⟩
  case round =>
    obtain ⟨k, D, P, rfl, rfl, rfl, hk, HS, HO, HB, HK⟩ := hrel
    clear HO0 HBb0 HKm0
    by_cases hlt : k < x.length
    · obtain ⟨gx, ox, rfl, hgx, hcx⟩ := (HSx.out _ HB.out).src k hlt
      have hwk : IntKind.i64.wrap ((k : Int) + 1) = ((k + 1 : Nat) : Int) := by rw [IntKind.wrap_i64]; omega
      have hT := HT.out k hlt
      have hL := HL.out k
      rw [HS.out] at hT hL
      have htl : (x.take k).length = k := by rw [List.length_take]; omega
      rw [htl] at hL
      have hDP : D.length + 2 * P.length ≤ 2 ^ 44 := by dsimp only at hL; omega
      have HSt := hidA hT
      clear hT hL htl HS HT HL
      generalize x[k] = z at *
      go_upto_region 5 with fail
      go_loopw [1, 7, 8] (fun s1 s7 s8 W => ∃ (D' P' X : List UInt8), s7 = .int .i64 D'.length ∧ s8 = .int .i64 (Fl.ce P' : Nat) ∧ D'.length + 2 * P'.length ≤ 2 ^ 44 ∧ Hid (X = D' ++ P') ∧ Hid (Fl.brk wd ws z D' P' = Fl.brk wd ws z D P) ∧ Hid (By B W s1 X) ∧ Hid (Below B0 W1 W) ∧ Hid (Km none W1 (.slice av p.length cv) W s1)) (fun s1 s7 _ _ => slLen s1 - (intOf s7).toNat)
      case atStart => exact ⟨D, P, _, rfl, rfl, hDP, hidA rfl, hidA rfl, HO, HB, HK⟩
      case round =>
        obtain ⟨D', P', X, rfl, rfl, hDP', HX, HBr, HO', HB', HK'⟩ := hrel
        obtain ⟨a1, c1, hv1⟩ := HO'.out.slice
        subst hv1
        obtain ⟨r0, r1⟩ := HK0.out _ _ HK'.out
        have hce := Fl.ce_le P'
        have hcol := Fl.col_le (Fl.ce P') z
        have HBe := hidA (fun W => oBehind (Fl.ce P') z (by omega) W)
        by_cases hcN : ¬ 0 < Fl.ce P'
        · have hcI : ¬ (0 : Int) < ((Fl.ce P' : Nat) : Int) := by omega
          have hbr : Fl.brk wd ws z D' P' = (D', P') := Fl.brk_no (by omega)
          have hS2 : σ (k + 1) = (D', P' ++ [z]) := by
            rw [HSt.out]
            unfold Fl.stp
            dsimp only
            rw [← HBr.out, hbr]
          have HS2 := hidA hS2
          have HcS := hidA (Fl.ce_snoc P' z)
          clear hbr hS2 HSt HBr
          go_upto_region 10 with (go_quiet (fail))
          have HOq := hidA (HO'.out.grow (bl_drew wr nq))
          have HBq := hidA (HB'.out.trans ((bl_drew wr nq).mono (Nat.le_trans (Nat.le_trans HB0.out HBs.out) HB'.out.size)))
          have HKq := hidA (HK'.out.trans (Km.bel none _ (bl_drew wr nq)))
          clear HO' HB' HK' r0 r1
          generalize wr.drewN nq = wq at *
          have hwsz := hidA (Nat.le_trans HBs.out HBq.out.size)
          have HO3 := hidA HOq.out.own
          have hXl : X.length + 1 ≤ 2 ^ 46 := by rw [HX.out, List.length_append]; omega
          go_wp2_with (first
            | (at_builtin; refine wpList_append_own_at _ rfl _ _ 22 rfl B 5 iB (.int .u8 0) 1 1 Try.underlying22 hiB hb0 hb1 hb2 rfl (by decide) _ _ _ rfl (HO3.out.alloc _) ⟨wq.heap.size, 0, none⟩ 1 1 [.int .u8 z.toNat] rfl rfl (cell_one_new _ _ _) (one_u8 _) (by unfold maxLen; omega) (by omega) (by have := hwsz.out; simp; omega) ?_; intro v2 w2 hown hg2 _ hat; have HO2 := hidA (By.app1 (x := z) hown); have HB2 : Hid (Below B0 W1 w2) := (HBq.out.alloc (Nat.le_trans HB0.out hwsz.out) _).grown hg2 (by have := hwsz.out; have := HB0.out; simp; omega) (fun k hk => Nat.le_trans HB0.out (HO3.out.lt k hk).1); have HK2 := hidA ((HKq.out.trans (Km.alloc none wq _ _)).trans (Km.grown none hg2 hat)); clear hown hg2 hat)
            | (go_at_call 46; with_reducible refine (HBe.out _).mono ?_; rintro e w3 ⟨rfl, hw3⟩; rw [hw3]; clear hw3 w3))
          exact ⟨⟨k + 1, D', P' ++ [z], by first | rfl | go_num, rfl, by rw [HcS.out], hlt, HS2, hidA (by show By B w2 v2 (D' ++ (P' ++ [z])); rw [← List.append_assoc, ← HX.out]; exact HO2.out), HB2, HK2⟩, by simp [intOf]; omega⟩
        · have hcI : (0 : Int) < ((Fl.ce P' : Nat) : Int) := by omega
          have hcN : 0 < Fl.ce P' := by omega
          by_cases hw9 : wd < ((Fl.col (Fl.ce P') z : Nat) : Int)
          · have hP0 := Fl.ce_pos hcN
            have hcp := Fl.cut_pos ws hP0
            have hcl := Fl.cut_le ws P'
            have hbr : Fl.brk wd ws z D' P' = _ := Fl.brk_yes ⟨hcN, hw9⟩
            rw [HBr.out] at hbr
            obtain ⟨i0, hi0⟩ : ∃ i0, i0 = D'.length + Fl.cut ws P' := ⟨_, rfl⟩
            have hput : put10 X i0 = D' ++ P'.take (Fl.cut ws P') ++ [10] ++ P'.drop (Fl.cut ws P') := by rw [HX.out, hi0]; exact put_mid _ _ _
            obtain ⟨D2, hD2⟩ : ∃ D2, D2 = D' ++ P'.take (Fl.cut ws P') ++ [10] := ⟨_, rfl⟩
            obtain ⟨P2, hP2⟩ : ∃ P2, P2 = P'.drop (Fl.cut ws P') := ⟨_, rfl⟩
            rw [← hD2, ← hP2] at hput hbr
            have hXL : X.length = D'.length + P'.length := by rw [HX.out, List.length_append]
            have hD2l : D2.length = i0 + 1 := by rw [hD2]; simp only [List.length_append, List.length_take, List.length_cons, List.length_nil]; omega
            have hP2l : P2.length = P'.length - Fl.cut ws P' := by rw [hP2, List.length_drop]
            have hb2' : D2.length + 2 * P2.length ≤ 2 ^ 44 := by omega
            have hX2l : (put10 X i0).length = X.length + 1 := put10_len (by omega)
            have hdrop : (put10 X i0).drop (i0 + 1) = P2 := by rw [hput, ← hD2l, List.drop_left]
            go_upto_region 6 with (go_quiet ((go_at_call 46; exact Calls.quiet_of_same (HBe.out _))))
            have HOq := hidA (HO'.out.grow (bl_drew wr nq))
            have HBq := hidA (HB'.out.trans ((bl_drew wr nq).mono (Nat.le_trans (Nat.le_trans HB0.out HBs.out) HB'.out.size)))
            have HKq := hidA (HK'.out.trans (Km.bel none _ (bl_drew wr nq)))
            clear HO' HB' HK' r0 r1
            generalize wr.drewN nq = wq at *
            obtain ⟨r0, r1⟩ := HK0.out _ _ HKq.out
            have HPl := hidA (show Calls Try.prog 47 #[.agg #[.int .i64 wd, .bool ws], .slice a1 X.length c1, .int .i64 D'.length] wq fun e w' => e = .returned (.int .i64 (i0 : Nat)) ∧ Below wq.heap.size wq w' from by
              have h := oPlace wd ws D' P' a1 c1 (by rw [← HX.out]; omega) wq (by rw [← HX.out]; exact HOq.out.sr.src)
              rw [← HX.out, ← hi0] at h
              exact h)
            have HIn := hidA (fun (W : World) (v' : Value) (hO : By B W v' X) (hB : B ≤ W.heap.size) => oInsert X i0 v' B (by omega) (by omega) W hO hB)
            have hwi : IntKind.i64.wrap ((i0 : Int) + 1) = ((i0 + 1 : Nat) : Int) := by rw [IntKind.wrap_i64]; omega
            have Hput := hidA hput
            have Hbr := hidA hbr
            have Hlen := hidA (show (put10 X i0).length - (i0 + 1) < X.length - D'.length ∧ i0 + 1 ≤ (put10 X i0).length ∧ P2.length ≤ 2 ^ 46 by omega)
            have HD2 := hidA hD2l
            have Hdrop := hidA hdrop
            clear hP0 hcp hcl hbr hi0 hput hD2 hP2 hXL hD2l hP2l hX2l hdrop HBr HSt
            generalize put10 X i0 = X2 at *
            go_upto_region 9 with (first
              | (go_at_call 47; with_reducible refine HPl.out.mono ?_; rintro e w2 ⟨rfl, b2⟩; have HO2 := hidA (HOq.out.grow b2); have HB2 := hidA (HBq.out.trans (b2.mono (Nat.le_trans (Nat.le_trans HB0.out HBs.out) HBq.out.size))); have HK2 := hidA (HKq.out.trans (Km.bel none _ b2)); clear b2)
              | (go_at_call 48; with_reducible refine (HIn.out w2 _ HO2.out (Nat.le_trans HBs.out HB2.out.size)).mono ?_; rintro e w3 ⟨v3, rfl, g1, g2, g3⟩; have HO3 := hidA g1; have HB3 := hidA (HB2.out.trans (g2.mono HB0.out)); have HK3 := hidA (HK2.out.trans g3); clear g1 g2 g3))
            obtain ⟨a3, c3, hv3⟩ := HO3.out.slice
            subst hv3
            obtain ⟨a4, c4, hsl, hs4⟩ := sl_from HO3.out.sr (i0 + 1) Hlen.out.2.1
            rw [Hdrop.out] at hsl hs4
            have HWi := hidA (oWidth P2 a4 c4 Hlen.out.2.2 w3 hs4.src)
            have hsl2 := hsl
            push_cast at hsl2
            clear hsl hs4
            go_wp2_with (go_at_call 49; with_reducible refine HWi.out.mono ?_; rintro e w4 ⟨rfl, hw4⟩; rw [hw4]; clear hw4 w4)
            exact ⟨⟨D2, P2, X2, congrArg (Value.int IntKind.i64) (by have := HD2.out; omega), rfl, hb2', Hput, hidA Hbr.out.symm, HO3, HB3, HK3⟩, by have := Hlen.out.1; simp only [slLen, intOf]; omega⟩
          · have hbr : Fl.brk wd ws z D' P' = (D', P') := Fl.brk_no (by omega)
            have hS2 : σ (k + 1) = (D', P' ++ [z]) := by
              rw [HSt.out]
              unfold Fl.stp
              dsimp only
              rw [← HBr.out, hbr]
            have HS2 := hidA hS2
            have HcS := hidA (Fl.ce_snoc P' z)
            clear hbr hS2 HSt HBr
            go_upto_region 10 with (go_quiet ((go_at_call 46; exact Calls.quiet_of_same (HBe.out _))))
            have HOq := hidA (HO'.out.grow (bl_drew wr nq))
            have HBq := hidA (HB'.out.trans ((bl_drew wr nq).mono (Nat.le_trans (Nat.le_trans HB0.out HBs.out) HB'.out.size)))
            have HKq := hidA (HK'.out.trans (Km.bel none _ (bl_drew wr nq)))
            clear HO' HB' HK' r0 r1
            generalize wr.drewN nq = wq at *
            have hwsz := hidA (Nat.le_trans HBs.out HBq.out.size)
            have HO3 := hidA HOq.out.own
            have hXl : X.length + 1 ≤ 2 ^ 46 := by rw [HX.out, List.length_append]; omega
            go_wp2_with (first
              | (at_builtin; refine wpList_append_own_at _ rfl _ _ 22 rfl B 5 iB (.int .u8 0) 1 1 Try.underlying22 hiB hb0 hb1 hb2 rfl (by decide) _ _ _ rfl (HO3.out.alloc _) ⟨wq.heap.size, 0, none⟩ 1 1 [.int .u8 z.toNat] rfl rfl (cell_one_new _ _ _) (one_u8 _) (by unfold maxLen; omega) (by omega) (by have := hwsz.out; simp; omega) ?_; intro v2 w2 hown hg2 _ hat; have HO2 := hidA (By.app1 (x := z) hown); have HB2 : Hid (Below B0 W1 w2) := (HBq.out.alloc (Nat.le_trans HB0.out hwsz.out) _).grown hg2 (by have := hwsz.out; have := HB0.out; simp; omega) (fun k hk => Nat.le_trans HB0.out (HO3.out.lt k hk).1); have HK2 := hidA ((HKq.out.trans (Km.alloc none wq _ _)).trans (Km.grown none hg2 hat)); clear hown hg2 hat)
              | (go_at_call 46; with_reducible refine (HBe.out _).mono ?_; rintro e w3 ⟨rfl, hw3⟩; rw [hw3]; clear hw3 w3))
            exact ⟨⟨k + 1, D', P' ++ [z], by first | rfl | go_num, rfl, by rw [HcS.out], hlt, HS2, hidA (by show By B w2 v2 (D' ++ (P' ++ [z])); rw [← List.append_assoc, ← HX.out]; exact HO2.out), HB2, HK2⟩, by simp [intOf]; omega⟩
    · obtain rfl : k = x.length := by omega
      go_wp2_with fail
      go_ret
      exact ⟨_, rfl, by rw [HS.out]; exact HO.out, trivial, (HFin.out _ _ HB.out HK.out).1, (HFin.out _ _ HB.out HK.out).2⟩
end Go.Proofs.Ytplnojohlbbalaa
