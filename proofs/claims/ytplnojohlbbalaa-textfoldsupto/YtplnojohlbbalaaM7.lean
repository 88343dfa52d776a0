/- Several texts of this claim, one behind the other, in their order. -/
import Derived.Test.YtplnojohlbbalaaM6
import Derived.Lib.Join
/- The program's texts: the lines' slices, one behind the other. Condition: a length that fits. -/
namespace Go.Proofs.Ytplnojohlbbalaa
open Go.RowKit
attribute [local go_sem] ext_eq app_eq get_eq
set_option maxRecDepth 100000 in
set_option maxHeartbeats 2000000 in
theorem oTexts1 (B : Nat) (v : Value) (X : List (List UInt8)) (x : List UInt8) (hX : X.length ≤ 1048577) (a : Option Addr) (c : Nat) (e : Bool) (w : World) (hR : RR B w v X) (hx : Sq B w (.slice a x.length c) x) (hB : B ≤ w.heap.size) : Calls Try.prog 36 #[v, .agg #[.slice a x.length c, .bool e]] w fun y w' => ∃ v', y = .returned v' ∧ RR B w' v' (X ++ [x]) ∧ Below B w w' := by
  obtain ⟨iR, hiR, hr0, hr1, hr2⟩ := infoRR
  have hb0 : Below w.heap.size w (w.alloc (.cells #[.slice a x.length c, .bool e] 60)) := (Below.refl w.heap.size w).alloc (Nat.le_refl _) _
  have HB0 := hidA (hb0.mono hB)
  have r0 : (w.alloc (.cells #[.slice a x.length c, .bool e] 60)).cell? ⟨w.heap.size, 0, none⟩ = some (.slice a x.length c) := World.cell?_alloc_at _ _ _ _ rfl
  obtain ⟨vs, o1, o2, o3, o4⟩ := hR.grow hb0
  have HO1 := hidA o1
  have Hsz := hidA (Nat.le_trans hB hb0.size)
  have HP := hidA (fun (v' : Value) (w' : World) (ob : Obj) hown hg => RR.push (v' := v') (w' := w') (u := .slice a x.length c) o1 o2 o3 o4 (hx.grow hb0) rfl ob hown hg)
  clear o1 o2 o3 o4 hb0 hR hx
  go_enter Try.func36, Try.ntmps36
  go_upto_region 1 with fail
  generalize w.alloc (.cells #[.slice a x.length c, .bool e] 60) = W0 at *
  go_wp2_with (at_builtin; refine wpList_append_own_at _ rfl _ _ 23 rfl B 22 iR (.slice none 0 0) 1 24 Try.underlying23 hiR hr0 hr1 hr2 rfl (by decide) _ _ _ rfl (HO1.out.alloc _) ⟨W0.heap.size, 0, none⟩ 1 1 [.slice a x.length c] rfl rfl (cell_one_new _ _ _) (by intro u hu; simp at hu; subst hu; rfl) (by unfold maxLen; omega) (by omega) (by have := Hsz.out; simp; omega) ?_; intro v' w2 hown hg2 _ hat; have HR2 := hidA (HP.out v' w2 _ hown hg2); have HB2 : Hid (Below B w w2) := (HB0.out.alloc Hsz.out _).grown hg2 (by have := Hsz.out; simp; omega) (fun k hk => (HO1.out.lt k hk).1); clear hown hg2 hat)
  go_ret
  exact ⟨_, rfl, HR2.out, HB2.out⟩
set_option maxRecDepth 100000 in
set_option maxHeartbeats 4000000 in
theorem oEachR (l : List UInt8) (a : Option Addr) (c B : Nat) (v0 : Value) (hl : l.length ≤ 1048577) (w0 w : World) (hS : Sr w0 a c l) (h0 : Below w0.heap.size w0 w) (hI : RR B w v0 []) (hB : w0.heap.size ≤ B) (hB2 : B ≤ w.heap.size) : Calls Try.prog 35 #[.slice a l.length c, v0, .func (.func 36) #[] #[]] w fun e w' => ∃ v, e = .returned v ∧ RR B w' v (Tl.ls l) ∧ Below B w w' := by
  have H0 := hidA h0
  have HI0 := hidA (show RR B w v0 (Tl.Tx l 0) by rw [Tl.Tx_zero]; exact hI)
  have HS0 := hidA (show Sr w0 a c (l.drop (Tl.en l 0)) by rw [Tl.en_zero]; exact hS)
  have hpl := Tl.prs_len l.length l (Nat.le_refl _)
  have Hb := hidA hB
  have Hb2 := hidA hB2
  clear h0 hI hS hB hB2
  go_enter Try.func35, Try.ntmps35
  go_wp2_with fail
  go_loopw [0, 1] (fun s0 s1 W => ∃ (k : Nat) (aR : Option Addr) (cR : Nat), s0 = .slice aR (l.drop (Tl.en l k)).length cR ∧ k ≤ (Tl.prs l).length ∧ Hid (Sr w0 aR cR (l.drop (Tl.en l k))) ∧ Hid (RR B W s1 (Tl.Tx l k)) ∧ Hid (Below B w W)) (fun s0 _ _ => slLen s0)
  case atStart => exact ⟨0, a, c, by rw [Tl.en_zero]; rfl, Nat.zero_le _, HS0, HI0, hidA (Below.refl _ _)⟩
  case round =>
    obtain ⟨k, aR, cR, rfl, hk, HS, HI, HB⟩ := hrel
    have hBb := hidA (H0.out.trans (HB.out.mono Hb.out))
    have hsz := hidA (Nat.le_trans Hb2.out HB.out.size)
    clear HI0 HS0
    have hrl : (l.drop (Tl.en l k)).length ≤ 1048577 := by rw [List.length_drop]; omega
    by_cases hr : l.drop (Tl.en l k) = []
    · have hkn := Tl.at_done hk hr
      rw [hr] at HS ⊢
      clear HS
      go_wp2_with fail
      go_ret
      exact ⟨_, rfl, by rw [← Tl.Tx_all, ← hkn]; exact HI.out, HB.out⟩
    · obtain ⟨hk1, e1, e2⟩ := Tl.at_more hk hr
      have HE1 := hidA e1
      have hlt := Tl.tl_lt hr
      have hel : (Tl.Tx l k).length = k := Tl.Tx_len l k hk
      have hsu := Tl.Tx_succ hk hr
      have HC := hidA (fun W g (h1 : Below w0.heap.size w0 W) (h2 : W.cell? ⟨g, 0, none⟩ = some (.int .u8 10)) => oCutG (l.drop (Tl.en l k)) aR cR g (by omega) W (HS.out.grow h1) h2)
      have HK : Hid (∀ (W : World) (v : Value) (a1 : Option Addr) (c1 : Nat), RR B W v (Tl.Tx l k) → Sq B W (.slice a1 (Tl.hd (l.drop (Tl.en l k))).length c1) (Tl.hd (l.drop (Tl.en l k))) → B ≤ W.heap.size → Calls Try.prog 36 #[v, .agg #[.slice a1 (Tl.hd (l.drop (Tl.en l k))).length c1, .bool (Tl.yes (l.drop (Tl.en l k)))]] W fun x w' => ∃ v', x = .returned v' ∧ RR B w' v' (Tl.Tx l (k + 1)) ∧ Below B W w') := fun W v a1 c1 h1 h2 h3 => by
        have h := oTexts1 B v (Tl.Tx l k) (Tl.hd (l.drop (Tl.en l k))) (by omega) a1 c1 (Tl.yes (l.drop (Tl.en l k))) W h1 h2 h3
        rw [hsu]; exact h
      have hpos : 0 < (l.drop (Tl.en l k)).length := List.length_pos_iff.2 hr
      have HW := hidA (hBb.out.alloc hBb.out.size (.cells #[.int .u8 10] 5))
      have HT : Hid (∀ W a2 c2, Sr W a2 c2 (Tl.tl (l.drop (Tl.en l k))) → Sr W a2 c2 (l.drop (Tl.en l (k + 1)))) := fun W a2 c2 h => by rw [← HE1.out]; exact h
      have HTl : Hid ((l.drop (Tl.en l (k + 1))).length = (Tl.tl (l.drop (Tl.en l k))).length) := by show _ = _; rw [HE1.out]
      clear HE1 e1 e2 hel hr hsu
      generalize Tl.Tx l k = S0 at *
      generalize Tl.hd (l.drop (Tl.en l k)) = h at *
      generalize Tl.tl (l.drop (Tl.en l k)) = t at *
      generalize Tl.yes (l.drop (Tl.en l k)) = y at *
      generalize l.drop (Tl.en l k) = r at *
      go_wp2_with (first
        | (go_at_call 50; with_reducible refine (HC.out _ _ HW.out (World.cell?_alloc_at _ _ _ _ rfl)).mono ?_; rintro e w2 ⟨a1, c1, a2, c2, rfl, h1, h2⟩; have H1 := hidA h1; have HA := hidA ((Below.refl _ _).alloc (Nat.le_refl _) _ |>.trans (h2.mono (by simp))); have HQ := hidA ((Sq.of_sr (h1 _ HS.out).1 Hb.out).grow (HW.out.trans (h2.mono HW.out.size))); clear h1 h2)
        | (go_at_call 36; with_reducible refine (HK.out _ _ _ _ (HI.out.grow HA.out) HQ.out (Nat.le_trans hsz.out HA.out.size)).mono ?_; rintro e w3 ⟨v', rfl, h1, h2⟩; have HI2 := hidA h1; have HB3 := hidA (HB.out.trans ((HA.out.mono hsz.out).trans h2)); clear h1 h2))
      exact ⟨⟨k + 1, a2, c2, by rw [HTl.out], hk1, hidA (HT.out _ _ _ (H1.out _ HS.out).2), HI2, HB3⟩, by simp [slLen]; omega⟩
set_option maxRecDepth 100000 in
set_option maxHeartbeats 1000000 in
theorem oTexts (l : List UInt8) (a : Option Addr) (c : Nat) (hl : l.length ≤ 1048577) (w : World) (hS : Sr w a c l) : Calls Try.prog 21 #[.slice a l.length c] w fun e w' => ∃ v, e = .returned v ∧ RR w.heap.size w' v (Tl.ls l) ∧ Below w.heap.size w w' := by
  have HE := hidA (oEachR l a c w.heap.size _ hl w _ hS (Below.refl _ _) (RR.nil w.heap.size w) (Nat.le_refl _) (Nat.le_refl _))
  clear hS
  go_enter Try.func21, Try.ntmps21
  go_wp2_with (go_at_call 35; with_reducible refine HE.out.mono ?_; rintro e w1 ⟨v, rfl, h1, h2⟩; have HI := hidA h1; have HB1 := hidA h2; clear h1 h2)
  go_ret
  exact ⟨_, rfl, HI.out, HB1.out⟩
end Go.Proofs.Ytplnojohlbbalaa
/- The program's Lines: the lines, each a row of one's own; is the last one ended? Condition: a length that fits. -/
namespace Go.Proofs.Ytplnojohlbbalaa
open Go.RowKit
attribute [local go_sem] ext_eq app_eq get_eq
theorem Tl.ls_mem_le (l : List UInt8) : ∀ x ∈ Tl.ls l, x.length ≤ l.length := by
  intro x hx
  obtain ⟨p, hp, rfl⟩ := List.mem_map.1 hx
  have hm : Tl.pc p ∈ (Tl.prs l).map Tl.pc := List.mem_map.2 ⟨p, hp, rfl⟩
  have h := (List.sublist_flatten_of_mem hm).length_le
  rw [Tl.flat_all] at h
  unfold Tl.pc at h
  rw [List.length_append] at h
  omega
theorem Tl.ls_len (l : List UInt8) : (Tl.ls l).length ≤ l.length := by
  unfold Tl.ls; rw [List.length_map]; exact Tl.prs_len l.length l (Nat.le_refl _)
theorem RO.at {B : Nat} {W : World} {v : Value} {X : List (List UInt8)} {k : Nat} (h : RO B W v X k) (hk : k < X.length) : ∃ g cap a c, v = .slice (some ⟨g, 0, none⟩) X.length cap ∧ B ≤ g ∧ g < W.heap.size ∧ W.cell? ⟨g, k, none⟩ = some (.slice a X[k].length c) ∧ W.frozen? ⟨g, k, none⟩ = false ∧ Sr W a c X[k] := by
  obtain ⟨vs, o1, o2, o3, o4, o5⟩ := h
  obtain ⟨a, c, e, hs, _⟩ := (o4 k hk).sr
  rcases o1.2 with ⟨_, h0⟩ | ⟨g, cap, cur, e2, hb, hg, hnc, hcm, hsz, ht⟩
  · omega
  · subst e2
    have hc := o1.cells (g := g) rfl k (vs[k]'(by omega)) (by simp [o2, hk])
    rw [add0] at hc
    refine ⟨g, cap, a, c, rfl, hb, heap_lt hg, ?_, o1.frozenAt k, hs⟩
    rw [hc, e]
set_option maxRecDepth 100000 in
set_option maxHeartbeats 4000000 in
theorem oLines (l : List UInt8) (a : Option Addr) (c : Nat) (hl : l.length ≤ 1048577) (w : World) (hS : Sr w a c l) : Calls Try.prog 7 #[.slice a l.length c] w fun e w' => ∃ v, e = .returned (.tuple #[v, .bool (Tl.eb l)]) ∧ RO w.heap.size w' v (Tl.ls l) (Tl.ls l).length ∧ Below w.heap.size w w' := by
  have HT := hidA (oTexts l a c hl w hS)
  have hll := Tl.ls_mem_le l
  have hln := Tl.ls_len l
  have HS := hidA (fun W (b : Below w.heap.size w W) => hS.grow b)
  have HE := hidA (Tl.eb_at l.length l (Nat.le_refl _))
  have HE0 : Hid (l = [] → Tl.eb l = true) := fun h => by subst h; rfl
  clear hS
  generalize Tl.ls l = X at *
  generalize Tl.eb l = y at *
  go_enter Try.func7, Try.ntmps7
  go_upto_region 3 with (go_at_call 21; with_reducible refine HT.out.mono ?_; rintro e w1 ⟨v, rfl, h1, h2⟩; have HI := hidA h1.ro; have HB1 := hidA h2; obtain ⟨a1, c1, hv1⟩ := h1.slice; subst hv1; clear h1 h2)
  go_loopw [11] (fun s11 W => ∃ (k : Nat), s11 = .int .i64 k ∧ k ≤ X.length ∧ Hid (RO w.heap.size W (.slice a1 X.length c1) X k) ∧ Hid (Below w.heap.size w W)) (fun s11 _ => X.length - (intOf s11).toNat)
  case atStart => exact ⟨0, rfl, Nat.zero_le _, HI, HB1⟩
  case round =>
    obtain ⟨k, rfl, hk, HR, HB⟩ := hrel
    clear HI HB1 HT
    by_cases hlt : k < X.length
    · obtain ⟨g, cap, a', c', ev, hgB, hgw, hc, hf, hs⟩ := HR.out.at hlt
      injection ev with ev1 _ ev3
      subst ev1 ev3
      have hxl := hll X[k] (List.getElem_mem hlt)
      have HC := hidA (oClone X[k] a' c' (by omega) wr hs)
      have hw1 : IntKind.i64.wrap ((k : Int) + 1) = ((k + 1 : Nat) : Int) := by rw [IntKind.wrap_i64]; omega
      have HSt : Hid (∀ (W2 : World) (v2 : Value), By wr.heap.size W2 v2 X[k] → Below wr.heap.size wr W2 → RO w.heap.size (W2.setCell ⟨g, k, none⟩ v2) (.slice (some ⟨g, 0, none⟩) X.length c1) X (k + 1) ∧ Below w.heap.size w (W2.setCell ⟨g, k, none⟩ v2) ∧ W2.cell? ⟨g, k, none⟩ = some (.slice a' X[k].length c') ∧ W2.frozen? ⟨g, k, none⟩ = false) := fun W2 v2 h1 h2 => by
        refine ⟨(HR.out.grow h2).store hlt (h1.mono HB.out.size) h1.one, (HB.out.trans (h2.mono HB.out.size)).setCell hgB _, (h2.cell (p := ⟨g, k, none⟩) hgw).trans hc, ?_⟩
        have := h2.block g hgw
        rw [← hf]; simp [World.frozen?, this]
      clear hs
      generalize X[k] = x at *
      go_wp2_with (go_at_call 22; with_reducible refine HC.out.mono ?_; rintro e w2 ⟨v2, rfl, h1, h2⟩; obtain ⟨q1, q2, hc2, hf2⟩ := HSt.out w2 v2 h1 h2; have Q1 := hidA q1; have Q2 := hidA q2; obtain ⟨a2, c2, hv2⟩ := h1.slice; subst hv2; clear h1 h2 q1 q2)
      exact ⟨⟨k + 1, by first | rfl | go_num, hlt, Q1, Q2⟩, by simp [intOf]; omega⟩
    · have ek : k = X.length := by omega
      by_cases h0 : l = []
      · have h1 := HE0.out h0
        subst h1 h0
        go_wp2_with (go_region)
        go_ret2
        exact ⟨_, rfl, by rw [ek] at HR; exact HR.out.grow (bl_drew _ _), HB.out.trans ((bl_drew _ _).mono HB.out.size)⟩
      · have hpos : 0 < l.length := List.length_pos_iff.2 h0
        obtain ⟨m, hm⟩ : ∃ m, m + 1 = l.length := ⟨l.length - 1, by omega⟩
        have hml : m < l.length := by omega
        have h1 := HE.out m hml hm
        obtain ⟨gs, os, ea, hgs, hcs⟩ := (HS.out wr HB.out).src m hml
        subst ea
        have hsub : IntKind.i64.wrap ((l.length : Int) - 1) = (m : Int) := by rw [IntKind.wrap_i64]; omega
        have hne : ((l.length : Int) == 0) = false := beq_eq_false_iff_ne.2 (by omega)
        have hb10 : (((l[m]).toNat : Int) == 10) = decide (l[m] = 10) := byte_eq l[m] 10
        obtain ⟨z, hz⟩ : ∃ z, z = l[m] := ⟨_, rfl⟩
        rw [← hz] at h1 hcs hb10
        clear hz
        subst h1
        go_wp2_with (go_region)
        go_ret2
        exact ⟨_, rfl, by rw [ek] at HR; exact HR.out.grow (bl_drew _ _), HB.out.trans ((bl_drew _ _).mono HB.out.size)⟩
end Go.Proofs.Ytplnojohlbbalaa
/- The plain answer's Whole. Condition: lengths that fit. -/
namespace Go.Proofs.Ytplnojohlbbalaa
open Go.RowKit
attribute [local go_sem] ext_eq app_eq get_eq
namespace Tl
/-- Lines written as bytes; e: the last one is ended, too. -/
def wh : List (List UInt8) → Bool → List UInt8
  | [], _ => []
  | x :: r, e => x ++ ((if r ≠ [] ∨ e = true then [10] else []) ++ wh r e)
theorem wh_len (e : Bool) : ∀ X : List (List UInt8), (wh X e).length ≤ X.flatten.length + X.length
  | [] => by simp [wh]
  | x :: r => by
    have ih := wh_len e r
    simp only [wh, List.length_append, List.flatten_cons, List.length_cons]
    split <;> simp only [List.length_cons, List.length_nil] <;> omega
theorem wh_join (e : Bool) : ∀ (r : List (List UInt8)), Lib.joinTail [10] r ++ (if e = true then [10] else []) = (if r ≠ [] ∨ e = true then [10] else []) ++ wh r e
  | [] => by cases e <;> simp [Lib.joinTail, wh]
  | y :: r => by
    have ih := wh_join e r
    have e1 : Lib.joinTail [10] (y :: r) = [10] ++ y ++ Lib.joinTail [10] r := by simp [Lib.joinTail]
    have e2 : (if (y :: r) ≠ [] ∨ e = true then [10] else ([] : List UInt8)) = [10] := if_pos (.inl (List.cons_ne_nil _ _))
    rw [e1, e2]
    simp only [wh, List.append_assoc]
    rw [ih]
theorem wh_all (e : Bool) (X : List (List UInt8)) : wh X e = Lib.join X [10] ++ (if e = true ∧ X ≠ [] then [10] else []) := by
  cases X with
  | nil => simp [wh, Lib.join_nil]
  | cons x r =>
    have h := wh_join e r
    simp only [wh]
    rw [← h, Lib.join_cons, List.append_assoc]
    by_cases he : e = true
    · rw [if_pos he, if_pos ⟨he, List.cons_ne_nil _ _⟩]
    · rw [if_neg he, if_neg (fun h => he h.1)]
/-- What the plain answer's Whole has behind k lines. -/
def Wh (X : List (List UInt8)) (e : Bool) (p : List UInt8) (k : Nat) : Prop := wh X e = p ++ wh (X.drop k) e
theorem Wh.zero (X : List (List UInt8)) (e : Bool) : Wh X e [] 0 := by simp [Wh]
theorem Wh.done {X : List (List UInt8)} {e : Bool} {p : List UInt8} {k : Nat} (h : Wh X e p k) (hk : ¬ k < X.length) : wh X e = p := by
  unfold Wh at h
  rw [List.drop_eq_nil_of_le (by omega)] at h
  simpa [wh] using h
theorem Wh.mid {X : List (List UInt8)} {e : Bool} {p : List UInt8} {k : Nat} (h : Wh X e p k) (hk : k < X.length) (hm : k + 1 < X.length ∨ e = true) : Wh X e (p ++ X[k] ++ [10]) (k + 1) := by
  unfold Wh at h ⊢
  rw [h, List.drop_eq_getElem_cons hk]
  simp only [wh]
  rw [if_pos (by
    rcases hm with hm | hm
    · exact .inl (by intro e9; have := congrArg List.length e9; simp at this; omega)
    · exact .inr hm)]
  simp [List.append_assoc]
theorem Wh.last {X : List (List UInt8)} {e : Bool} {p : List UInt8} {k : Nat} (h : Wh X e p k) (hk : k < X.length) (hm : ¬ (k + 1 < X.length ∨ e = true)) : Wh X e (p ++ X[k]) (k + 1) := by
  unfold Wh at h ⊢
  rw [h, List.drop_eq_getElem_cons hk]
  simp only [wh]
  rw [if_neg (by
    rintro (h9 | h9)
    · exact hm (.inl (by
        have : (X.drop (k + 1)).length ≠ 0 := fun e9 => h9 (List.length_eq_zero_iff.1 e9)
        rw [List.length_drop] at this; omega))
    · exact hm (.inr h9))]
  simp [List.append_assoc]
theorem Wh.le {X : List (List UInt8)} {e : Bool} {p : List UInt8} {k : Nat} (h : Wh X e p k) : p.length ≤ (wh X e).length := by
  unfold Wh at h
  rw [h, List.length_append]; omega
end Tl
set_option maxRecDepth 100000 in
set_option maxHeartbeats 4000000 in
theorem rWholeG (X : List (List UInt8)) (e : Bool) (a : Option Addr) (c : Nat) (hX : X.length ≤ 2 ^ 40) (hF : (Tl.wh X e).length ≤ 2 ^ 44) (w : World) (hR : Rd w a X) : Calls Try.prog 12 #[.slice a X.length c, .bool e] w fun y w' => ∃ v, y = .returned v ∧ By w.heap.size w' v (Tl.wh X e) ∧ Below w.heap.size w w' := by
  obtain ⟨iB, hiB, hb0, hb1, hb2⟩ := infoB
  have HR := hidA hR
  have HB0 := hidA ((Below.refl w.heap.size w).alloc (Nat.le_refl _) (.cells #[] 5))
  have HO0 := hidA (By.fresh w w.heap.size (Nat.le_refl _))
  have HW0 := hidA (Tl.Wh.zero X e)
  clear hR
  go_enter Try.func12, Try.ntmps12
  go_wp2
  go_loopw [5, 11] (fun s5 s11 W => ∃ (k : Nat) (p : List UInt8), s11 = .int .i64 k ∧ k ≤ X.length ∧ Hid (Tl.Wh X e p k) ∧ Hid (By w.heap.size W s5 p) ∧ Hid (Below w.heap.size w W)) (fun _ s11 _ => X.length - (intOf s11).toNat)
  case atStart => exact ⟨0, [], rfl, Nat.zero_le _, HW0, HO0, HB0⟩
  case round =>
    obtain ⟨k, p, rfl, hk, HWh, HO, HB⟩ := hrel
    clear HB0 HO0 HW0
    obtain ⟨a3, c3, hv3⟩ := HO.out.slice
    subst hv3
    have hpc := HO.out.sr.le
    have hwsz := hidA HB.out.size
    by_cases hlt : k < X.length
    · obtain ⟨g, o, a', c', rfl, hg, hc0, hs⟩ := HR.out k hlt
      have hc : wr.cell? ⟨g, o + k, none⟩ = some (.slice a' X[k].length c') := (HB.out.cell (p := ⟨g, o + k, none⟩) hg).trans hc0
      have hgw : g < wr.heap.size := Nat.lt_of_lt_of_le hg hwsz.out
      have hw1 : IntKind.i64.wrap ((k : Int) + 1) = ((k + 1 : Nat) : Int) := by rw [IntKind.wrap_i64]; omega
      have hsub : IntKind.i64.wrap ((X.length : Int) - 1) = (X.length : Int) - 1 := by rw [IntKind.wrap_i64]; omega
      have HSx := hidA (hs.grow HB.out)
      have HO3 := hidA HO.out.own
      by_cases hm : k + 1 < X.length ∨ e = true
      · have HW2 := hidA (HWh.out.mid hlt hm)
        have hle := HW2.out.le
        simp only [List.length_append, List.length_singleton] at hle
        have hcond : decide ((k : Int) < (X.length : Int) - 1) = true ∨ (decide ((k : Int) < (X.length : Int) - 1) = false ∧ e = true) := by
          by_cases h9 : k + 1 < X.length
          · exact .inl (decide_eq_true (by omega))
          · exact .inr ⟨decide_eq_false (by omega), by rcases hm with h | h; exact absurd h h9; exact h⟩
        clear hc0 hs HR hm HWh
        generalize X[k] = x at *
        cases a' with
        | none =>
          have hx0 : x = [] := List.length_eq_zero_iff.1 (by have h1 := HSx.out.nil rfl; have h2 := HSx.out.le; omega)
          subst hx0
          have hc'0 := HSx.out.nil rfl
          subst hc'0
          have hc9 : wr.cell? ⟨g, o + k, none⟩ = some (.slice none 0 0) := hc
          rw [List.append_nil] at HW2
          clear hc HSx
          rcases hcond with hcd | ⟨hcd, rfl⟩ <;> cases a3
          all_goals
            go_wp2_with (at_builtin; refine wpList_append_own_at _ rfl _ _ 22 rfl w.heap.size 5 iB (.int .u8 0) 1 1 Try.underlying22 hiB hb0 hb1 hb2 rfl (by decide) _ _ _ rfl (HO3.out.alloc _) ⟨wr.heap.size, 0, none⟩ 1 1 [.int .u8 10] rfl rfl (cell_one_new _ _ _) (one_u8 _) (by unfold maxLen; omega) (by omega) (by have := hwsz.out; simp; omega) ?_; intro v' w2 hown hg2 _ hat; have HO2 := hidA (By.app1 (x := 10) hown); have HB2 : Hid (Below w.heap.size w w2) := (HB.out.alloc hwsz.out _).grown hg2 (by have := hwsz.out; simp; omega) (fun k hk => (HO3.out.lt k hk).1); clear hown hg2 hat)
            exact ⟨⟨k + 1, _, by first | rfl | go_num, hlt, HW2, HO2, HB2⟩, by simp [intOf]; omega⟩
        | some ad =>
          obtain ⟨q, hq⟩ : ∃ q, q = p ++ x := ⟨_, rfl⟩
          have hql : q.length + 1 ≤ 2 ^ 44 := by rw [hq, List.length_append]; omega
          rw [← hq] at HW2
          have HQ := hidA hq
          clear hq
          rcases hcond with hcd | ⟨hcd, rfl⟩
          all_goals
            go_wp2_with (first
              | (at_builtin; refine wpList_append_own_at _ rfl _ _ 22 rfl w.heap.size 5 iB (.int .u8 0) 1 1 Try.underlying22 hiB hb0 hb1 hb2 rfl (by decide) _ _ _ rfl HO3.out ad x.length c' (bCs x) rfl (by rw [bCs_len, Nat.mul_one]) (fun j u hj => HSx.out.src.cells_at j u hj) (bCs_one x) (by unfold maxLen; omega) (by omega) hwsz.out ?_; intro v2 w2 hown hg2 _ hat; have HO2 : Hid (By w.heap.size w2 v2 q) := (by rw [HQ.out]; exact By.of_app hown); have HB2 : Hid (Below w.heap.size w w2) := HB.out.grown hg2 hwsz.out (fun k hk => (HO3.out.lt k hk).1); obtain ⟨a4, c4, hv4⟩ := HO2.out.slice; subst hv4; have HO4 := hidA HO2.out.own; have hwsz2 := hidA HB2.out.size; clear hown hg2 hat HO3 HSx)
              | (at_builtin; refine wpList_append_own_at _ rfl _ _ 22 rfl w.heap.size 5 iB (.int .u8 0) 1 1 Try.underlying22 hiB hb0 hb1 hb2 rfl (by decide) _ _ _ rfl (HO4.out.alloc _) ⟨w2.heap.size, 0, none⟩ 1 1 [.int .u8 10] rfl rfl (cell_one_new _ _ _) (one_u8 _) (by unfold maxLen; omega) (by omega) (by have := hwsz2.out; simp; omega) ?_; intro v' w3 hown hg2 _ hat; have HO5 := hidA (By.app1 (x := 10) hown); have HB5 : Hid (Below w.heap.size w w3) := (HB2.out.alloc hwsz2.out _).grown hg2 (by have := hwsz2.out; simp; omega) (fun k hk => (HO4.out.lt k hk).1); clear hown hg2 hat))
            exact ⟨⟨k + 1, _, by first | rfl | go_num, hlt, HW2, HO5, HB5⟩, by simp [intOf]; omega⟩
      · have HW2 := hidA (HWh.out.last hlt hm)
        have hle := HW2.out.le
        simp only [List.length_append] at hle
        have he : e = false := by cases e; rfl; exact absurd (.inr rfl) hm
        subst he
        have hcd : decide ((k : Int) < (X.length : Int) - 1) = false := decide_eq_false (fun h => hm (.inl (by omega)))
        clear hc0 hs HR hm HWh
        generalize X[k] = x at *
        cases a' with
        | none =>
          have hx0 : x = [] := List.length_eq_zero_iff.1 (by have h1 := HSx.out.nil rfl; have h2 := HSx.out.le; omega)
          subst hx0
          have hc'0 := HSx.out.nil rfl
          subst hc'0
          have hc9 : wr.cell? ⟨g, o + k, none⟩ = some (.slice none 0 0) := hc
          rw [List.append_nil] at HW2
          clear hc HSx
          cases a3
          all_goals
            go_wp2_with fail
            exact ⟨⟨k + 1, _, by first | rfl | go_num, hlt, HW2, HO, HB⟩, by simp [intOf]; omega⟩
        | some ad =>
          go_wp2_with (at_builtin; refine wpList_append_own_at _ rfl _ _ 22 rfl w.heap.size 5 iB (.int .u8 0) 1 1 Try.underlying22 hiB hb0 hb1 hb2 rfl (by decide) _ _ _ rfl HO3.out ad x.length c' (bCs x) rfl (by rw [bCs_len, Nat.mul_one]) (fun j u hj => HSx.out.src.cells_at j u hj) (bCs_one x) (by unfold maxLen; omega) (by omega) hwsz.out ?_; intro v2 w2 hown hg2 _ hat; have HO2 := hidA (By.of_app hown); have HB2 : Hid (Below w.heap.size w w2) := HB.out.grown hg2 hwsz.out (fun k hk => (HO3.out.lt k hk).1); clear hown hg2 hat)
          exact ⟨⟨k + 1, _, by first | rfl | go_num, hlt, HW2, HO2, HB2⟩, by simp [intOf]; omega⟩
    · have HD := hidA (HWh.out.done hlt)
      go_wp2_with fail
      go_ret
      exact ⟨_, rfl, by rw [HD.out]; exact HO.out, HB.out⟩
theorem rWhole (X : List (List UInt8)) (e : Bool) (a : Option Addr) (c : Nat) (hX : X.length ≤ 2 ^ 40) (hF : (Tl.wh X e).length ≤ 2097155) (w : World) (hR : Rd w a X) : Calls Try.prog 12 #[.slice a X.length c, .bool e] w fun y w' => ∃ v, y = .returned v ∧ By w.heap.size w' v (Tl.wh X e) ∧ Below w.heap.size w w' :=
  rWholeG X e a c hX (Nat.le_trans hF (by decide)) w hR
end Go.Proofs.Ytplnojohlbbalaa
