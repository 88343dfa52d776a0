/- The program's texts: the lines' slices, one behind the other. Condition: a length that fits. -/
import Derived.Test.YtplnojohlbbalaaUd0
namespace Go.Proofs.Ytplnojohlbbalaa
open Go.RowKit
attribute [local go_sem] ext_eq app_eq get_eq
set_option maxRecDepth 100000 in
set_option maxHeartbeats 2000000 in
theorem oTexts1 (B : Nat) (v : Value) (X : List (List UInt8)) (x : List UInt8) (hX : X.length ≤ 1048577) (a : Option Addr) (c : Nat) (e : Bool) (w : World) (hR : RR B w v X) (hx : Sq B w (.slice a x.length c) x) (hB : B ≤ w.heap.size) : Calls Try.prog 36 #[v, .agg #[.slice a x.length c, .bool e]] w fun y w' => ∃ v', y = .returned v' ∧ RR B w' v' (X ++ [x]) ∧ Below B w w' := by
  obtain ⟨iR, hiR, hr0, hr1, hr2⟩ := infoRR
  have hb0 : Below w.heap.size w (w.alloc (.cells #[.slice a x.length c, .bool e] 60)) := (Below.refl w.heap.size w).alloc (Nat.le_refl _) _
  have HB0 := hidA (hb0.mono hB)
  have r0 : (w.alloc (.cells #[.slice a x.length c, .bool e] 60)).cell? ⟨w.heap.size, 0, none⟩ = some (.slice a x.length c) := World.cell?_alloc_at _ _ _ _ rfl
  obtain ⟨vs, o1, o2, o3, o4⟩ := hR.grow hb0
  have HO1 := hidA o1
  have Hsz := hidA (Nat.le_trans hB hb0.size)
  have HP := hidA (fun (v' : Value) (w' : World) (ob : Obj) hown hg => RR.push (v' := v') (w' := w') (u := .slice a x.length c) o1 o2 o3 o4 (hx.grow hb0) rfl ob hown hg)
  clear o1 o2 o3 o4 hb0 hR hx
  go_enter Try.func36, Try.ntmps36
  go_upto_region 1 with fail
  generalize w.alloc (.cells #[.slice a x.length c, .bool e] 60) = W0 at *
  go_wp2_with (at_builtin; refine wpList_append_own_at _ rfl _ _ 23 rfl B 22 iR (.slice none 0 0) 1 24 Try.underlying23 hiR hr0 hr1 hr2 rfl (by decide) _ _ _ rfl (HO1.out.alloc _) ⟨W0.heap.size, 0, none⟩ 1 1 [.slice a x.length c] rfl rfl (cell_one_new _ _ _) (by intro u hu; simp at hu; subst hu; rfl) (by unfold maxLen; omega) (by omega) (by have := Hsz.out; simp; omega) ?_; intro v' w2 hown hg2 _ hat; have HR2 := hidA (HP.out v' w2 _ hown hg2); have HB2 : Hid (Below B w w2) := (HB0.out.alloc Hsz.out _).grown hg2 (by have := Hsz.out; simp; omega) (fun k hk => (HO1.out.lt k hk).1); clear hown hg2 hat)
  go_ret
  exact ⟨_, rfl, HR2.out, HB2.out⟩
set_option maxRecDepth 100000 in
set_option maxHeartbeats 4000000 in
theorem oEachR (l : List UInt8) (a : Option Addr) (c B : Nat) (v0 : Value) (hl : l.length ≤ 1048577) (w0 w : World) (hS : Sr w0 a c l) (h0 : Below w0.heap.size w0 w) (hI : RR B w v0 []) (hB : w0.heap.size ≤ B) (hB2 : B ≤ w.heap.size) : Calls Try.prog 35 #[.slice a l.length c, v0, .func (.func 36) #[] #[]] w fun e w' => ∃ v, e = .returned v ∧ RR B w' v (Tl.ls l) ∧ Below B w w' := by
  have H0 := hidA h0
  have HI0 := hidA (show RR B w v0 (Tl.Tx l 0) by rw [Tl.Tx_zero]; exact hI)
  have HS0 := hidA (show Sr w0 a c (l.drop (Tl.en l 0)) by rw [Tl.en_zero]; exact hS)
  have hpl := Tl.prs_len l.length l (Nat.le_refl _)
  have Hb := hidA hB
  have Hb2 := hidA hB2
  clear h0 hI hS hB hB2
  go_enter Try.func35, Try.ntmps35
  go_wp2_with fail
  go_loopw [0, 1] (fun s0 s1 W => ∃ (k : Nat) (aR : Option Addr) (cR : Nat), s0 = .slice aR (l.drop (Tl.en l k)).length cR ∧ k ≤ (Tl.prs l).length ∧ Hid (Sr w0 aR cR (l.drop (Tl.en l k))) ∧ Hid (RR B W s1 (Tl.Tx l k)) ∧ Hid (Below B w W)) (fun s0 _ _ => slLen s0)
  case atStart => exact ⟨0, a, c, by rw [Tl.en_zero]; rfl, Nat.zero_le _, HS0, HI0, hidA (Below.refl _ _)⟩
  case round =>
    obtain ⟨k, aR, cR, rfl, hk, HS, HI, HB⟩ := hrel
    have hBb := hidA (H0.out.trans (HB.out.mono Hb.out))
    have hsz := hidA (Nat.le_trans Hb2.out HB.out.size)
    clear HI0 HS0
    have hrl : (l.drop (Tl.en l k)).length ≤ 1048577 := by rw [List.length_drop]; omega
    by_cases hr : l.drop (Tl.en l k) = []
    · have hkn := Tl.at_done hk hr
      rw [hr] at HS ⊢
      clear HS
      go_wp2_with fail
      go_ret
      exact ⟨_, rfl, by rw [← Tl.Tx_all, ← hkn]; exact HI.out, HB.out⟩
    · obtain ⟨hk1, e1, e2⟩ := Tl.at_more hk hr
      have HE1 := hidA e1
      have hlt := Tl.tl_lt hr
      have hel : (Tl.Tx l k).length = k := Tl.Tx_len l k hk
      have hsu := Tl.Tx_succ hk hr
      have HC := hidA (fun W g (h1 : Below w0.heap.size w0 W) (h2 : W.cell? ⟨g, 0, none⟩ = some (.int .u8 10)) => oCutG (l.drop (Tl.en l k)) aR cR g (by omega) W (HS.out.grow h1) h2)
      have HK : Hid (∀ (W : World) (v : Value) (a1 : Option Addr) (c1 : Nat), RR B W v (Tl.Tx l k) → Sq B W (.slice a1 (Tl.hd (l.drop (Tl.en l k))).length c1) (Tl.hd (l.drop (Tl.en l k))) → B ≤ W.heap.size → Calls Try.prog 36 #[v, .agg #[.slice a1 (Tl.hd (l.drop (Tl.en l k))).length c1, .bool (Tl.yes (l.drop (Tl.en l k)))]] W fun x w' => ∃ v', x = .returned v' ∧ RR B w' v' (Tl.Tx l (k + 1)) ∧ Below B W w') := fun W v a1 c1 h1 h2 h3 => by
        have h := oTexts1 B v (Tl.Tx l k) (Tl.hd (l.drop (Tl.en l k))) (by omega) a1 c1 (Tl.yes (l.drop (Tl.en l k))) W h1 h2 h3
        rw [hsu]; exact h
      have hpos : 0 < (l.drop (Tl.en l k)).length := List.length_pos_iff.2 hr
      have HW := hidA (hBb.out.alloc hBb.out.size (.cells #[.int .u8 10] 5))
      have HT : Hid (∀ W a2 c2, Sr W a2 c2 (Tl.tl (l.drop (Tl.en l k))) → Sr W a2 c2 (l.drop (Tl.en l (k + 1)))) := fun W a2 c2 h => by rw [← HE1.out]; exact h
      have HTl : Hid ((l.drop (Tl.en l (k + 1))).length = (Tl.tl (l.drop (Tl.en l k))).length) := by show _ = _; rw [HE1.out]
      clear HE1 e1 e2 hel hr hsu
      generalize Tl.Tx l k = S0 at *
      generalize Tl.hd (l.drop (Tl.en l k)) = h at *
      generalize Tl.tl (l.drop (Tl.en l k)) = t at *
      generalize Tl.yes (l.drop (Tl.en l k)) = y at *
      generalize l.drop (Tl.en l k) = r at *
      go_wp2_with (first
        | (go_at_call 50; with_reducible refine (HC.out _ _ HW.out (World.cell?_alloc_at _ _ _ _ rfl)).mono ?_; rintro e w2 ⟨a1, c1, a2, c2, rfl, h1, h2⟩; have H1 := hidA h1; have HA := hidA ((Below.refl _ _).alloc (Nat.le_refl _) _ |>.trans (h2.mono (by simp))); have HQ := hidA ((Sq.of_sr (h1 _ HS.out).1 Hb.out).grow (HW.out.trans (h2.mono HW.out.size))); clear h1 h2)
        | (go_at_call 36; with_reducible refine (HK.out _ _ _ _ (HI.out.grow HA.out) HQ.out (Nat.le_trans hsz.out HA.out.size)).mono ?_; rintro e w3 ⟨v', rfl, h1, h2⟩; have HI2 := hidA h1; have HB3 := hidA (HB.out.trans ((HA.out.mono hsz.out).trans h2)); clear h1 h2))
      exact ⟨⟨k + 1, a2, c2, by rw [HTl.out], hk1, hidA (HT.out _ _ _ (H1.out _ HS.out).2), HI2, HB3⟩, by simp [slLen]; omega⟩
set_option maxRecDepth 100000 in
set_option maxHeartbeats 1000000 in
theorem oTexts (l : List UInt8) (a : Option Addr) (c : Nat) (hl : l.length ≤ 1048577) (w : World) (hS : Sr w a c l) : Calls Try.prog 21 #[.slice a l.length c] w fun e w' => ∃ v, e = .returned v ∧ RR w.heap.size w' v (Tl.ls l) ∧ Below w.heap.size w w' := by
  have HE := hidA (oEachR l a c w.heap.size _ hl w _ hS (Below.refl _ _) (RR.nil w.heap.size w) (Nat.le_refl _) (Nat.le_refl _))
  clear hS
  go_enter Try.func21, Try.ntmps21
  go_wp2_with (go_at_call 35; with_reducible refine HE.out.mono ?_; rintro e w1 ⟨v, rfl, h1, h2⟩; have HI := hidA h1; have HB1 := hidA h2; clear h1 h2)
  go_ret
  exact ⟨_, rfl, HI.out, HB1.out⟩
end Go.Proofs.Ytplnojohlbbalaa
