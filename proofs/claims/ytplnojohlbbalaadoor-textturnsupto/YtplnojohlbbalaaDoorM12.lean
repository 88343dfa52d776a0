/- Several texts of this claim, one behind the other, in their order. -/
import Derived.Test.YtplnojohlbbalaaDoorM11
import Derived.Lib.ItoaNum
/- Rev's teller: a line backwards. Condition: lengths that fit. -/
namespace Go.Proofs.YtplnojohlbbalaaDoor
open Go.RowKit Go.Shelf
attribute [local go_sem] ext_eq app_eq get_eq Oper.semAt_some
theorem Km.setBox {m : Option Nat} {w W : World} {v v' : Value} (h : Km m w v W v') {g : Nat} (hg : w.heap.size ≤ g) (u : Value) : Km m w v (W.setCell ⟨g, 0, none⟩ u) v' :=
  ⟨fun b hb hr hm => (heap_setCell_other W ⟨g, 0, none⟩ b u (by show b ≠ g; omega)).trans (h.blk b hb hr hm), h.own, by simpa using h.size⟩
theorem Km.far {m : Option Nat} {w W W' : World} {v v' : Value} (h : Km m w v W v') {row : Option Nat} (hg : W.grownBy W' row) (hr : ∀ r, row = some r → w.heap.size ≤ r) : Km m w v W' v' :=
  ⟨fun b hb h1 h2 => (hg.block b (Nat.lt_of_lt_of_le hb h.size) (fun e => by have := hr b e.symm; omega)).trans (h.blk b hb h1 h2), h.own, Nat.le_trans h.size hg.size⟩
theorem by_far {B : Nat} {W W' : World} {v : Value} {x : List UInt8} (h : By B W v x) {row : Option Nat} (hg : W.grownBy W' row) (hr : ∀ r, row = some r → ∃ o : Obj, W.heap[r]? = some o ∧ o.isCells = false) : By B W' v x := by
  refine World.ownsRow.kept h.own hg ?_
  rcases h.2 with ⟨rfl, _⟩ | ⟨g, cap, cur, rfl, _, hgb, _⟩
  · exact .inl rfl
  · refine .inr fun e' => ?_
    obtain ⟨o, ho, hc⟩ := hr g (by simpa [Value.ownBlock] using e'.symm)
    rw [hgb] at ho; cases ho; cases hc
set_option maxRecDepth 100000 in
set_option maxHeartbeats 4000000 in
theorem revTells (w0 : World) (B0 B : Nat) (p x : List UInt8) (hl : p.length + x.length ≤ 2 ^ 46) (hw0 : w0.heap.size ≤ B0) (hB0 : B0 ≤ B) : Tells w0 34 #[] #[] B0 B none (fun _ => True) (fun _ => True) p x (p ++ x.reverse) := by
  intro w v a c _ hO hS hw hB
  obtain ⟨iB, hiB, hb0, hb1, hb2⟩ := infoB
  generalize hr : p ++ x.reverse = r
  show Calls Tryd.prog 34 #[v, .slice a x.length c] w _
  obtain ⟨av, cv, rfl⟩ := hO.slice
  refine (callsIn_wide (n := 5)).1 ?_
  refine callsIn_of_wp_marks Tryd.func34 rfl trivial ?_ rfl
  simp only [Tryd.ntmps34, List.size_toArray, List.length_cons, List.length_nil, Nat.reduceAdd, Nat.reduceSub, Array.replicate_succ, Array.replicate_zero, List.push_toArray, List.append_toArray, List.nil_append, List.cons_append]
  gi_wp2_with (refine ⟨trivial, ?_⟩; gi_at_call 35; refine (backward_in _ _ trivial rfl _ _ _ _).mono ?_; rintro e w' ⟨rfl, rfl⟩)
  have bO := (Boxed.new w 22 (.slice av p.length cv)).alloc (.cells #[.slice a x.length c] 22)
  have bS := Boxed.new (w.alloc (.cells #[.slice av p.length cv] 22)) 22 (.slice a x.length c)
  rw [World.size_alloc] at bS
  have hbw : Below w.heap.size w ((w.alloc (.cells #[.slice av p.length cv] 22)).alloc (.cells #[.slice a x.length c] 22)) := ((Below.refl _ w).alloc (Nat.le_refl _) _).alloc (by simp) _
  have hB0w : B0 ≤ w.heap.size := Nat.le_trans hB0 hB
  have hB00 := hbw.mono hB0w
  have hsz : ((w.alloc (.cells #[.slice av p.length cv] 22)).alloc (.cells #[.slice a x.length c] 22)).heap.size = w.heap.size + 1 + 1 := by simp
  have hO2 := hO.grow hbw
  have hK2 := ((Km.alloc none w (.slice av p.length cv) (.cells #[.slice av p.length cv] 22)).trans (Km.alloc none _ _ (.cells #[.slice a x.length c] 22)))
  have hsrc : ∀ j (h : j < x.length), ∃ g o, a = some ⟨g, o, none⟩ ∧ g < w0.heap.size ∧ ((w.alloc (.cells #[.slice av p.length cv] 22)).alloc (.cells #[.slice a x.length c] 22)).cell? ⟨g, o + j, none⟩ = some (.int .u8 x[j].toNat) := fun j h => by
    obtain ⟨g, o, e, hg, hc⟩ := hS.src j h
    exact ⟨g, o, e, hg, (hbw.cell (p := ⟨g, o + j, none⟩) (Nat.lt_of_lt_of_le hg hw.size)).trans ((hw.cell (p := ⟨g, o + j, none⟩) hg).trans hc)⟩
  obtain ⟨W1, hW1⟩ : ∃ W1, (w.alloc (.cells #[.slice av p.length cv] 22)).alloc (.cells #[.slice a x.length c] 22) = W1 := ⟨_, rfl⟩
  rw [hW1] at bO bS hbw hB00 hsz hO2 hK2 hsrc ⊢
  refine wpIn_rangeFunc_ownG rfl (by omega) (gf := 50) (lb := #[.pointer (some ⟨w.heap.size + 1, 0, none⟩)]) rfl trivial (enters_of Tryd.func50 (by kernel_rfl) rfl)
    (back_stops Fence.wide _ trivial rfl (by omega) (w.heap.size + 1) w0.heap.size a c x (by omega) W1 (by omega) (by have := hw.size; omega) bS.cell hsrc) kb_t (kb_b (by omega) (by have := hw.size; omega)) (Below.refl _ _) (fun _ => rfl)
    (fun pre W => ∃ v, Boxed W w.heap.size 22 v ∧ Boxed W (w.heap.size + 1) 22 (.slice a x.length c) ∧ By B W v (p ++ pre.map (·.2)) ∧ Below B0 w W ∧ Km none w (.slice av p.length cv) W v)
    (fun _ _ _ => False) ?hI (fun _ _ _ _ _ hs _ _ => hs) ⟨_, bO, bS, by simpa using hO2, hB00, hK2⟩
    (fun y => { tmps := #[.slice av p.length cv, .slice a x.length c, .pointer (some ⟨w.heap.size, 0, none⟩), undef, .slice none 0 0, undef, .int .u8 (y.2.toNat : Nat), .slice a x.length c, .func (.func 50) #[] #[.pointer (some ⟨w.heap.size + 1, 0, none⟩)], .int .i64 (y.1 : Nat), .int .u8 (y.2.toNat : Nat), undef, undef, undef, undef, undef], defers := [] }) ?assign ?body ?done ?stop
  case hI =>
    rintro s A A2 row ⟨v, h1, h2, h3, h4, h5⟩ hg hr
    exact ⟨v, h1.kept hg (fun e => by have := (hr _ e.symm).1; omega), h2.kept hg (fun e => by have := (hr _ e.symm).1; omega), by_far h3 hg (fun r e => (hr r e).2),
      h4.grown hg (Nat.le_trans hB0w h4.size) (fun k e => by have := (hr k e).1; omega), h5.far hg (fun r e => by have := (hr r e).1; omega)⟩
  case assign =>
    intro l y W K hK
    gi_wp2
    exact hK
  case body =>
    rintro l pre y W ⟨v, h1, h2, h3, h4, h5⟩ hlt
    obtain ⟨a3, c3, rfl⟩ := h3.slice
    have hpl : (p ++ pre.map (·.2)).length = p.length + pre.length := by simp
    have hc1 := h1.cell
    have hf1 := h1.frozen
    have hrow := h3.own
    have hBW : B ≤ W.heap.size := Nat.le_trans hB h4.size
    have hpe : p ++ (pre ++ [y]).map (·.2) = p ++ pre.map (·.2) ++ [y.2] := by simp
    generalize p ++ pre.map (·.2) = q at *
    have hql : q.length + 1 ≤ 2 ^ 46 := by omega
    clear hpl
    gi_wp2_with (gi_at_builtin; go_loud (refine wpListIn_append_own_at _ rfl _ _ 22 rfl B 5 iB (.int .u8 0) 1 1 Tryd.underlying22 hiB hb0 hb1 hb2 rfl (by decide) _ _ _ rfl (hrow.alloc _) ⟨W.heap.size, 0, none⟩ 1 1 [.int .u8 y.2.toNat] rfl rfl (cell_one_new _ _ _) (one_u8 _) (by unfold maxLen; omega) (by omega) (by simp; omega) ?_; intro v' w1 hown hgrow _ hat; obtain ⟨g', cap', rfl⟩ := ownsRow_succ hown; obtain ⟨hv1, hv2, hr2, hk2, hbl⟩ := h1.appended (by decide) hrow hBW hB hown hgrow; have hS2 := ((h2.alloc _).kept hgrow (h2.not_row (by decide) hrow)).other (show w.heap.size + 1 ≠ w.heap.size by omega) (.slice (some ⟨g', 0, none⟩) (q.length + 1) cap'); have hKm := ((h5.trans (Km.alloc none W _ _)).trans (Km.grown none hgrow hat)).setBox (Nat.le_refl _) (.slice (some ⟨g', 0, none⟩) (q.length + 1) cap'); have hc2 := hv1.cell; have hf2 := hv1.frozen))
    exact ⟨hk2.from _, ⟨fun u e => by rw [h2.cell] at e; cases e; exact hS2.cell, hbl.mono (Nat.le_trans hw0 hB0)⟩, _, hv2, hS2, by rw [hpe]; exact By.app1 hr2, h4.trans (hbl.mono hB0), hKm⟩
  case done =>
    rintro D ys W hD rfl ⟨v, h1, h2, h3, h4, h5⟩ hK
    rw [Tl.bk_rev x _ (Nat.le_refl _), Nat.sub_self, List.drop_zero, hr] at h3
    obtain ⟨a3, c3, rfl⟩ := h3.slice
    have hc1 := h1.cell
    have hgp := grownBy_putObj' W D (.deferred none)
    gi_wp2
    refine ⟨by simp, .inl ⟨_, _, rfl, run_takeDeferred hK, ?_⟩⟩
    exact ⟨.slice a3 r.length c3, (results_tmp (t := 4) rfl _ _ _).trans rfl, _, rfl, by_far h3 hgp (fun r e => by cases e; exact ⟨_, hK, rfl⟩), trivial, h4.grown hgp (Nat.le_trans hB0w h4.size) (fun k e => by cases e; omega), h5.far hgp (fun r e => by cases e; omega)⟩
  case stop =>
    rintro D c pre W _ _ h _
    exact h.elim
end Go.Proofs.YtplnojohlbbalaaDoor
/- The program's Rev. Condition: a length that fits. -/
namespace Go.Proofs.YtplnojohlbbalaaDoor
open Go.RowKit
attribute [local go_sem] ext_eq app_eq get_eq
namespace Tl
/-- Lines of which each is told as f says, ended as they are. -/
def lw (f : List UInt8 → List UInt8) (P : List (List UInt8 × Bool)) : List UInt8 := (P.map fun y => f y.1 ++ nl y.2).flatten
theorem lw_succ (f : List UInt8 → List UInt8) {P : List (List UInt8 × Bool)} {k : Nat} (h : k < P.length) : lw f (P.take (k + 1)) = lw f (P.take k) ++ f P[k].1 ++ nl P[k].2 := by
  unfold lw
  rw [List.take_succ_eq_append_getElem h, List.map_append, List.flatten_append]
  simp [List.append_assoc]
theorem lw_le (f : List UInt8 → List UInt8) (P : List (List UInt8 × Bool)) (k : Nat) : (lw f (P.take k)).length ≤ (lw f P).length := by
  have e : lw f P = lw f (P.take k) ++ lw f (P.drop k) := by
    unfold lw
    rw [← List.flatten_append, ← List.map_append, List.take_append_drop]
  rw [e, List.length_append]; omega
theorem lw_wh (f : List UInt8 → List UInt8) (e : Bool) : ∀ P : List (List UInt8 × Bool), (∀ i (h : i < P.length), P[i].2 = (decide (i + 1 < P.length) || e)) → lw f P = wh (P.map fun y => f y.1) e
  | [], _ => rfl
  | y :: r, h => by
    have ih := lw_wh f e r (fun i hi => by
      have := h (i + 1) (by simpa using hi)
      simp only [List.getElem_cons_succ, List.length_cons] at this
      rw [this]
      congr 1
      exact decide_eq_decide.2 (by omega))
    have h0 := h 0 (by simp)
    simp only [List.getElem_cons_zero, List.length_cons] at h0
    have e1 : lw f (y :: r) = f y.1 ++ nl y.2 ++ lw f r := by simp [lw]
    have e2 : nl y.2 = if (r.map fun y => f y.1) ≠ [] ∨ e = true then [10] else [] := by
      unfold nl
      rw [h0]
      by_cases h9 : r = []
      · subst h9; simp
      · have hl := List.length_pos_iff.2 h9
        have h8 : (r.map fun y => f y.1) ≠ [] := by simpa using h9
        have h7 : decide (0 + 1 < r.length + 1) = true := decide_eq_true (by omega)
        rw [h7, if_pos (show (r.map fun y => f y.1) ≠ [] ∨ e = true from .inl h8)]
        rfl
    rw [e1, ih, e2]
    simp only [List.map_cons, wh, List.append_assoc]
theorem prs_wh (f : List UInt8 → List UInt8) (l : List UInt8) : lw f (prs l) = wh ((ls l).map f) (eb l) := by
  rw [lw_wh f (eb l) (prs l) (fun i h => prs_ended l.length l (Nat.le_refl _) i h)]
  unfold ls
  rw [List.map_map]
  rfl
theorem rev_len (l : List UInt8) (hl : l.length ≤ 1048576) : (wh ((ls l).map List.reverse) (eb l)).length ≤ 2097155 := by
  have h1 := wh_len (eb l) ((ls l).map List.reverse)
  have h2 : ((ls l).map List.reverse).flatten.length = (ls l).flatten.length := by
    rw [List.length_flatten, List.length_flatten, List.map_map]
    congr 1
    apply List.map_congr_left
    intro x _
    simp
  have h3 : (ls l).flatten.length ≤ l.length := by
    have key : ∀ P : List (List UInt8 × Bool), (P.map (·.1)).flatten.length ≤ (P.map pc).flatten.length := by
      intro P
      induction P with
      | nil => simp
      | cons x r ih =>
        simp only [List.map_cons, List.flatten_cons, List.length_append, pc]
        omega
    have h4 := key (prs l)
    rw [flat_all] at h4
    exact h4
  have h5 := ls_le l
  rw [List.length_map] at h1
  omega
end Tl
theorem firm_true (B : Nat) : Firm B (fun _ => True) := ⟨fun _ _ _ _ => trivial, fun _ _ _ _ _ _ _ _ => trivial⟩
theorem revTelling (l : List UInt8) (w0 : World) (B0 B : Nat) (hl : l.length ≤ 1048576) (hw0 : w0.heap.size ≤ B0) (hB0 : B0 ≤ B) : Telling w0 34 #[] #[] B0 B none (Tl.prs l) (fun _ _ => True) (fun k => Tl.lw List.reverse ((Tl.prs l).take k)) (fun k => Tl.lw List.reverse ((Tl.prs l).take k) ++ ((Tl.prs l).getD k ([], false)).1.reverse) := by
  have hb := Tl.rev_len l hl
  rw [← Tl.prs_wh] at hb
  have hg : ∀ k (h : k < (Tl.prs l).length), (Tl.prs l).getD k ([], false) = (Tl.prs l)[k] := fun k h => by rw [List.getD_eq_getElem?_getD, List.getElem?_eq_getElem h]; rfl
  have hq : ∀ k (h : k < (Tl.prs l).length), (Tl.lw List.reverse ((Tl.prs l).take k)).length + (Tl.prs l)[k].1.length ≤ 2097155 := fun k h => by
    have h1 := Tl.lw_le List.reverse (Tl.prs l) (k + 1)
    rw [Tl.lw_succ _ h, List.length_append, List.length_append, List.length_reverse] at h1
    omega
  refine ⟨enters_of Tryd.func34 (by kernel_rfl) rfl, fun k h => ?_, fun k h => ?_, fun _ => firm_true _, fun k h => ?_⟩
  · have := hq k h
    show Tells _ _ _ _ _ _ _ _ _ _ _ (_ ++ ((Tl.prs l).getD k ([], false)).1.reverse)
    rw [hg k h]
    exact revTells w0 B0 B _ _ (by omega) hw0 hB0
  · show Tl.lw List.reverse ((Tl.prs l).take (k + 1)) = _
    rw [Tl.lw_succ _ h]
    show _ = _ ++ ((Tl.prs l).getD k ([], false)).1.reverse ++ _
    rw [hg k h]
  · have := hq k h
    show (_ ++ ((Tl.prs l).getD k ([], false)).1.reverse).length ≤ _
    rw [hg k h, List.length_append, List.length_reverse]
    omega
set_option maxRecDepth 100000 in
set_option maxHeartbeats 1000000 in
theorem oRev (l : List UInt8) (a : Option Addr) (c : Nat) (hl : l.length ≤ 1048576) (w : World) (hS : Sr w a c l) : Calls Tryd.prog 13 #[.slice a l.length c] w fun e w' => ∃ v, e = .returned v ∧ By w.heap.size w' v (Tl.wh ((Tl.ls l).map List.reverse) (Tl.eb l)) ∧ Below w.heap.size w w' := by
  have HE := hidA (oRewrite 34 #[] #[] w.heap.size none (fun _ _ => True) _ _ l a c (by omega) w w (revTelling l w w.heap.size (w.heap.size + 1) hl (Nat.le_refl _) (by omega)) rfl hS (Below.refl _ _) trivial (Nat.le_refl _) (Nat.le_refl _) (fun _ h => by cases h))
  rw [List.take_length, Tl.prs_wh] at HE
  clear hS
  go_enter Tryd.func13, Tryd.ntmps13
  go_wp2_with (go_at_call 33; (with_reducible refine HE.out.mono ?_); rintro e w1 ⟨v, rfl, h1, h2, h3⟩; have HO := hidA h1; have HB := hidA h3; clear h1 h2 h3)
  go_ret
  exact ⟨_, rfl, HO.out, HB.out⟩
end Go.Proofs.YtplnojohlbbalaaDoor
/- The plain answer's Text, Itoa and blanks. Condition: numbers that fit. -/
namespace Go.Proofs.YtplnojohlbbalaaDoor
open Go.RowKit
attribute [local go_sem] ext_eq app_eq get_eq
theorem dd_len (u : Nat) (h : u < 18446744073709551616) : (Lib.decDigits u).length ≤ 21 := by
  rw [Lib.decDigits_length]
  by_cases h1 : 1 ≤ u
  · have := Lib.numDigits_eq u h1 h; split at this <;> omega
  · rw [Lib.nDigits_small (by omega)]; omega
/-- The digits that are still to come. -/
def ddq (q : Int) : List UInt8 := if q ≤ 0 then [] else Lib.decDigits q.toNat
theorem dd_step (q : Int) (h : 0 ≤ q) : Lib.decDigits q.toNat = ddq (q / 10) ++ [UInt8.ofNat (48 + q.toNat % 10)] := by
  rw [Lib.decDigits]
  unfold ddq
  by_cases h1 : q.toNat < 10
  · rw [dif_pos h1, if_pos (by omega), List.nil_append, Nat.mod_eq_of_lt h1]
  · rw [dif_neg h1, if_neg (by omega), show (q / 10).toNat = q.toNat / 10 by omega]
theorem conv_one (w : World) (c : UInt8) : (convert 22 9 (.slice (some ⟨w.heap.size, 0, none⟩) 1 1)).run Tryd.prog (w.alloc (.cells #[.int .u8 c.toNat] 5)) = .ok (.string ⟨#[c]⟩) (w.alloc (.cells #[.int .u8 c.toNat] 5)) := by
  have h := run_convert_bytes_back (P := Tryd.prog) (w.alloc (.cells #[.int .u8 c.toNat] 5)) 22 9 5 ⟨w.heap.size, 0, none⟩ 1 [c] Tryd.underlying22 Tryd.underlying5 Tryd.underlying9 (fun j hj => by
    obtain rfl : j = 0 := by simp at hj; omega
    rw [Lib.add_plain, World.cell?_alloc_new]; rfl)
  exact h
set_option maxRecDepth 100000 in
set_option maxHeartbeats 1000000 in
theorem rText (s : Int) (h0 : 0 ≤ s) (h1 : s < 18446744073709551616) (w : World) : Calls Tryd.prog 57 #[.int .u64 s] w fun e w' => e = .returned (.string ⟨(Lib.decDigits s.toNat).toArray⟩) ∧ Below w.heap.size w w' := by
  have hd : (s / 10 : Int) < s + 1 := by omega
  have hqd : s.tdiv 10 = s / 10 := Int.tdiv_eq_ediv_of_nonneg h0
  have hqm : s.tmod 10 = s % 10 := Int.tmod_eq_emod_of_nonneg h0
  have hC : ∀ c : UInt8, (convert 22 9 (.slice (some ⟨w.heap.size, 0, none⟩) 1 1)).run Tryd.prog (w.alloc (.cells #[.int .u8 c.toNat] 5)) = .ok (.string ⟨#[c]⟩) (w.alloc (.cells #[.int .u8 c.toNat] 5)) := conv_one w
  have hcv := hC (UInt8.ofNat (48 + s.toNat % 10))
  have hct : ((UInt8.ofNat (48 + s.toNat % 10)).toNat : Int) = 48 + s % 10 := by rw [UInt8.toNat_ofNat']; omega
  rw [hct] at hcv
  have HX : Hid (Lib.decDigits s.toNat = ddq (s / 10) ++ [UInt8.ofNat (48 + s.toNat % 10)]) := dd_step s h0
  clear hC hct
  generalize UInt8.ofNat (48 + s.toNat % 10) = c0 at *
  go_enter Tryd.func57, Tryd.ntmps57
  go_wp2_with fail
  have HB0 : Hid (Below w.heap.size w (w.alloc (.cells #[.int .u8 (48 + s % 10)] 5))) := (Below.refl _ _).alloc (Nat.le_refl _) _
  have hq0 : 0 ≤ s / 10 := by omega
  clear hcv hqd hqm
  generalize w.alloc (.cells #[.int .u8 (48 + s % 10)] 5) = w0 at *
  go_loopw [0, 3] (fun n x w' => ∃ (q : Int) (X : List UInt8), n = .int .u64 q ∧ x = .string ⟨X.toArray⟩ ∧ 0 ≤ q ∧ q ≤ s ∧ X.length ≤ 21 ∧ Hid (Lib.decDigits s.toNat = ddq q ++ X) ∧ Hid (Below w.heap.size w w')) (fun n _ _ => (intOf n).toNat)
  case atStart => exact ⟨s / 10, _, rfl, rfl, hq0, by omega, by simp, HX, HB0⟩
  case round =>
    obtain ⟨q, X, rfl, rfl, hq1, hq2, hX, HQ, HB⟩ := hrel
    rename_i wr
    by_cases hz : 0 < q
    · have hqd : q.tdiv 10 = q / 10 := Int.tdiv_eq_ediv_of_nonneg hq1
      have hqm : q.tmod 10 = q % 10 := Int.tmod_eq_emod_of_nonneg hq1
      have hct : ((UInt8.ofNat (48 + q.toNat % 10)).toNat : Int) = 48 + q % 10 := by rw [UInt8.toNat_ofNat']; omega
      have hcv := conv_one wr (UInt8.ofNat (48 + q.toNat % 10))
      rw [hct] at hcv
      have HQ2 : Hid (Lib.decDigits s.toNat = ddq (q / 10) ++ ([UInt8.ofNat (48 + q.toNat % 10)] ++ X)) := by
        show _ = _
        rw [HQ.out, show ddq q = Lib.decDigits q.toNat from if_neg (by omega), dd_step q hq1, List.append_assoc]
      have hX2 : ([UInt8.ofNat (48 + q.toNat % 10)] ++ X).length ≤ 21 := by
        have h1 := congrArg List.length HQ2.out
        have h2 := dd_len s.toNat (by omega)
        rw [h1, List.length_append] at h2
        omega
      have HB2 : Hid (Below w.heap.size w (wr.alloc (.cells #[.int .u8 (48 + q % 10)] 5))) := HB.out.alloc HB.out.size _
      generalize UInt8.ofNat (48 + q.toNat % 10) = c at *
      clear HQ HB hct
      go_wp2
      exact ⟨⟨q / 10, _, rfl, rfl, by omega, by omega, hX2, HQ2, HB2⟩, by simp [intOf]; omega⟩
    · obtain rfl : q = 0 := by omega
      have HE : Hid (Lib.decDigits s.toNat = X) := HQ.out
      go_wp2
      go_ret
      exact ⟨by rw [HE.out]; rfl, HB.out⟩
set_option maxRecDepth 100000 in
set_option maxHeartbeats 1000000 in
theorem rItoa (n : Int) (h0 : -9223372036854775808 ≤ n) (h1 : n ≤ 9223372036854775807) (w : World) : Calls Tryd.prog 40 #[.int .i64 n] w fun e w' => e = .returned (.string ⟨(Lib.itoa n).toArray⟩) ∧ Below w.heap.size w w' := by
  by_cases hn : n < 0
  · have e1 : IntKind.i64.wrap (n + 1) = n + 1 := by rw [IntKind.wrap_i64]; omega
    have e2 : IntKind.i64.wrap (-(n + 1)) = -(n + 1) := by rw [IntKind.wrap_i64]; omega
    have e3 : IntKind.u64.wrap (-(n + 1)) = -(n + 1) := by rw [IntKind.wrap_u64]; omega
    have e4 : IntKind.u64.wrap (-(n + 1) + 1) = -n := by rw [IntKind.wrap_u64]; omega
    have HT := hidA (rText (-n) (by omega) (by omega) w)
    have HE : Hid (Lib.itoa n = 45 :: Lib.decDigits (-n).toNat) := by
      show _ = _
      unfold Lib.itoa
      rw [if_pos hn, show n.natAbs = (-n).toNat by omega]
    have hDl := dd_len (-n).toNat (by omega)
    generalize Lib.decDigits (-n).toNat = D at *
    go_enter Tryd.func40, Tryd.ntmps40
    go_wp2_with (go_at_call 57; (with_reducible refine HT.out.mono ?_); rintro e w1 ⟨rfl, h1⟩; have HB := hidA h1; clear h1)
    go_ret
    exact ⟨by rw [HE.out]; rfl, HB.out⟩
  · have e1 : IntKind.u64.wrap n = n := by rw [IntKind.wrap_u64]; omega
    have HT := hidA (rText n (by omega) (by omega) w)
    have HE : Hid (Lib.itoa n = Lib.decDigits n.toNat) := by
      show _ = _
      unfold Lib.itoa
      rw [if_neg hn]
    generalize Lib.decDigits n.toNat = D at *
    go_enter Tryd.func40, Tryd.ntmps40
    go_wp2_with (go_at_call 57; (with_reducible refine HT.out.mono ?_); rintro e w1 ⟨rfl, h1⟩; have HB := hidA h1; clear h1)
    go_ret
    exact ⟨by rw [HE.out]; rfl, HB.out⟩
end Go.Proofs.YtplnojohlbbalaaDoor
