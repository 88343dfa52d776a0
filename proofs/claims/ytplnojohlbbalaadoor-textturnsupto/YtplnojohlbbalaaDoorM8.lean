/- Several texts of this claim, one behind the other, in their order. -/
import Derived.Test.YtplnojohlbbalaaDoorM7
import Derived.Lib.Join
import Derived.ArgAppend
import Derived.Lib.SlFresh
/- TextLines: the lines so far, is the last line ended, rows of one's own rows. No condition. -/
namespace Go.Proofs.YtplnojohlbbalaaDoor
open Go.RowKit
attribute [local go_sem] ext_eq app_eq get_eq
namespace Tl
/-- The first k lines. -/
def Tx (l : List UInt8) (k : Nat) : List (List UInt8) := ((prs l).take k).map (·.1)
theorem Tx_zero (l : List UInt8) : Tx l 0 = [] := by simp [Tx]
theorem Tx_len (l : List UInt8) (k : Nat) (h : k ≤ (prs l).length) : (Tx l k).length = k := by
  unfold Tx; rw [List.length_map, List.length_take, Nat.min_eq_left h]
theorem Tx_all (l : List UInt8) : Tx l (prs l).length = ls l := by
  unfold Tx ls; rw [List.take_of_length_le (Nat.le_refl _)]
theorem Tx_succ {l : List UInt8} {k : Nat} (hk : k ≤ (prs l).length) (hr : l.drop (en l k) ≠ []) : Tx l (k + 1) = Tx l k ++ [hd (l.drop (en l k))] := by
  have ih := prs_drop l k hk
  have hs := prs_step hr
  rw [ih] at hs
  have hlt : k < (prs l).length := by
    rcases Nat.lt_or_ge k (prs l).length with h | h
    · exact h
    · rw [List.drop_eq_nil_of_le h] at hs; cases hs
  have hc : (prs l).drop k = (prs l)[k] :: (prs l).drop (k + 1) := List.drop_eq_getElem_cons hlt
  rw [hc] at hs
  injection hs with h1 h2
  unfold Tx
  rw [List.take_succ_eq_append_getElem hlt, List.map_append, h1]; rfl
theorem fx_min : ∀ (l : List UInt8) (j : Nat) (h : j < l.length), l[j] = 10 → fx l ≤ j
  | [], j, h, _ => by simp at h
  | c :: l, j, h, e => by
    by_cases hc : c = 10
    · have e0 : fx (c :: l) = 0 := if_pos hc
      omega
    · have e0 : fx (c :: l) = fx l + 1 := if_neg hc
      cases j with
      | zero => exact absurd e hc
      | succ j =>
        have := fx_min l j (by simpa using h) (by simpa using e)
        omega
theorem eb_at (n : Nat) : ∀ l : List UInt8, l.length ≤ n → ∀ m (hm : m < l.length), m + 1 = l.length → eb l = decide (l[m] = 10) := by
  induction n with
  | zero => intro l h m hm e; omega
  | succ n ih =>
    intro l h m hm e
    have h0 : l ≠ [] := by intro h0; subst h0; simp at hm
    by_cases hf : fx l < l.length
    · have eE : eb l = eb (l.drop (fx l + 1)) := by unfold eb; rw [prs_yes hf]; simp
      rw [eE]
      by_cases hd : fx l + 1 = l.length
      · have em : m = fx l := by omega
        subst em
        rw [List.drop_eq_nil_of_le (by omega), fx_at hf]; rfl
      · rw [ih (l.drop (fx l + 1)) (by rw [List.length_drop]; omega) (m - (fx l + 1)) (by rw [List.length_drop]; omega) (by rw [List.length_drop]; omega)]
        have e2 : fx l + 1 + (m - (fx l + 1)) = m := by omega
        simp only [List.getElem_drop, e2]
    · have e3 : eb l = false := by unfold eb; rw [prs_no hf h0]; rfl
      rw [e3]
      symm
      apply decide_eq_false
      intro h10
      have := fx_min l m hm h10
      omega
end Tl
/-- A row of one's own of slices of bytes; the first k of them are one's own, too. -/
def RO (B : Nat) (W : World) (v : Value) (X : List (List UInt8)) (k : Nat) : Prop := ∃ vs : List Value, W.ownsRow B 22 1 v X.length vs ∧ ∃ hl : vs.length = X.length, (∀ u ∈ vs, u.oneCell' = true) ∧ (∀ i (h : i < X.length), Sq B W (vs[i]'(by omega)) X[i]) ∧ ∀ i (h : i < X.length), i < k → By B W (vs[i]'(by omega)) X[i]
theorem RR.ro {B : Nat} {W : World} {v : Value} {X : List (List UInt8)} (h : RR B W v X) : RO B W v X 0 := by
  obtain ⟨vs, h1, h2, h3, h4⟩ := h
  exact ⟨vs, h1, h2, h3, h4, fun i _ hk => absurd hk (Nat.not_lt_zero _)⟩
theorem RO.rr {B : Nat} {W : World} {v : Value} {X : List (List UInt8)} {k : Nat} (h : RO B W v X k) : RR B W v X := by
  obtain ⟨vs, h1, h2, h3, h4, _⟩ := h
  exact ⟨vs, h1, h2, h3, h4⟩
theorem RO.grow {B k : Nat} {W W' : World} {v : Value} {X : List (List UInt8)} (h : RO B W v X k) (b : Below W.heap.size W W') : RO B W' v X k := by
  obtain ⟨vs, h1, h2, h3, h4, h5⟩ := h
  exact ⟨vs, own_grow h1 b, h2, h3, fun i hi => (h4 i hi).grow b, fun i hi hk => (h5 i hi hk).grow b⟩
theorem Sq.set {B : Nat} {W : World} {v : Value} {x : List UInt8} (h : Sq B W v x) {g j : Nat} {u : Value} (hg : B ≤ g) (hk : ∃ c fz, W.heap[g]? = some (.cells c 22 fz)) : Sq B (W.setCell ⟨g, j, none⟩ u) v x := by
  obtain ⟨a, c, e, hs, hkk⟩ := h.sr
  have key : ∀ g' o, a = some ⟨g', o, none⟩ → 0 < x.length → g' ≠ g := fun g' o ea hx hgg => by
    subst hgg
    obtain ⟨c2, f2, h2⟩ := hk
    rcases hkk g' o ea hx with h | ⟨cur, fz, h⟩
    · omega
    · rw [h] at h2
      injection h2 with h2
      injection h2 with _ h3 _
      exact absurd h3 (by decide)
  refine ⟨a, c, e, ⟨fun i hi => ?_, hs.le, hs.nil⟩, fun g' o ea hx => ?_⟩
  · obtain ⟨g', o, ea, hl, hc⟩ := hs.src i hi
    refine ⟨g', o, ea, by simpa using hl, ?_⟩
    rw [World.cell?_setCell_other _ _ _ _ (by intro e9; injection e9 with e9 _ _; exact key g' o ea (by omega) e9.symm)]; exact hc
  · rcases hkk g' o ea hx with h | ⟨cur, fz, h⟩
    · exact .inl h
    · refine .inr ⟨cur, fz, ?_⟩
      rw [heap_setCell_other W ⟨g, j, none⟩ g' u (by show g' ≠ g; exact key g' o ea hx)]; exact h
theorem By.setR {B' : Nat} {W : World} {v : Value} {x : List UInt8} (h : By B' W v x) {g j : Nat} {u : Value} (hk : ∃ c fz, W.heap[g]? = some (.cells c 22 fz)) : By B' (W.setCell ⟨g, j, none⟩ u) v x := by
  refine h.on (fun g' c hc => ?_)
  obtain ⟨c2, f2, h2⟩ := hk
  exact heap_setCell_other W ⟨g, j, none⟩ g' u (by show g' ≠ g; exact heap_ne hc h2 (by decide))
/-- One more of the row's slices is replaced by one's own with the same bytes. -/
theorem RO.store {B : Nat} {W : World} {X : List (List UInt8)} {k g n cap : Nat} {v2 : Value} (h : RO B W (.slice (some ⟨g, 0, none⟩) n cap) X k) (hk : k < X.length) (h2 : By B W v2 X[k]) (h3 : v2.oneCell' = true) : RO B (W.setCell ⟨g, k, none⟩ v2) (.slice (some ⟨g, 0, none⟩) n cap) X (k + 1) := by
  obtain ⟨vs, o1, o2, o3, o4, o5⟩ := h
  have hgB : B ≤ g := (o1.lt g rfl).1
  have hkd := own_kind o1 g rfl
  have en : n = X.length := by
    obtain ⟨a', c', e'⟩ := own_slice o1
    injection e' with _ e2 _
  subst en
  refine ⟨vs.set k v2, (o1.stored k v2).1, by simp [o2], fun u hu => ?_, fun i hi => ?_, fun i hi hik => ?_⟩
  · rcases List.mem_or_eq_of_mem_set hu with h | h
    · exact o3 u h
    · rw [h]; exact h3
  · rw [List.getElem_set]
    by_cases e : k = i
    · subst e
      rw [if_pos rfl]
      exact (Sq.of_by h2).set hgB hkd
    · rw [if_neg e]
      exact (o4 i hi).set hgB hkd
  · rw [List.getElem_set]
    by_cases e : k = i
    · subst e
      rw [if_pos rfl]
      exact h2.setR hkd
    · rw [if_neg e]
      exact (o5 i hi (by omega)).setR hkd
theorem By.one {B : Nat} {W : World} {v : Value} {x : List UInt8} (h : By B W v x) : v.oneCell' = true := by
  obtain ⟨a, c, rfl⟩ := h.slice
  rfl
end Go.Proofs.YtplnojohlbbalaaDoor
/- The program's texts: the lines' slices, one behind the other. Condition: a length that fits. -/
namespace Go.Proofs.YtplnojohlbbalaaDoor
open Go.RowKit
attribute [local go_sem] ext_eq app_eq get_eq
end Go.Proofs.YtplnojohlbbalaaDoor
/- The program's Lines: the lines, each a row of one's own; is the last one ended? Condition: a length that fits. -/
namespace Go.Proofs.YtplnojohlbbalaaDoor
open Go.RowKit
attribute [local go_sem] ext_eq app_eq get_eq
theorem Tl.ls_mem_le (l : List UInt8) : ∀ x ∈ Tl.ls l, x.length ≤ l.length := by
  intro x hx
  obtain ⟨p, hp, rfl⟩ := List.mem_map.1 hx
  have hm : Tl.pc p ∈ (Tl.prs l).map Tl.pc := List.mem_map.2 ⟨p, hp, rfl⟩
  have h := (List.sublist_flatten_of_mem hm).length_le
  rw [Tl.flat_all] at h
  unfold Tl.pc at h
  rw [List.length_append] at h
  omega
theorem Tl.ls_len (l : List UInt8) : (Tl.ls l).length ≤ l.length := by
  unfold Tl.ls; rw [List.length_map]; exact Tl.prs_len l.length l (Nat.le_refl _)
theorem RO.at {B : Nat} {W : World} {v : Value} {X : List (List UInt8)} {k : Nat} (h : RO B W v X k) (hk : k < X.length) : ∃ g cap a c, v = .slice (some ⟨g, 0, none⟩) X.length cap ∧ B ≤ g ∧ g < W.heap.size ∧ W.cell? ⟨g, k, none⟩ = some (.slice a X[k].length c) ∧ W.frozen? ⟨g, k, none⟩ = false ∧ Sr W a c X[k] := by
  obtain ⟨vs, o1, o2, o3, o4, o5⟩ := h
  obtain ⟨a, c, e, hs, _⟩ := (o4 k hk).sr
  rcases o1.2 with ⟨_, h0⟩ | ⟨g, cap, cur, e2, hb, hg, hnc, hcm, hsz, ht⟩
  · omega
  · subst e2
    have hc := o1.cells (g := g) rfl k (vs[k]'(by omega)) (by simp [o2, hk])
    rw [add0] at hc
    refine ⟨g, cap, a, c, rfl, hb, heap_lt hg, ?_, o1.frozenAt k, hs⟩
    rw [hc, e]
end Go.Proofs.YtplnojohlbbalaaDoor
/- The plain answer's Whole. Condition: lengths that fit. -/
namespace Go.Proofs.YtplnojohlbbalaaDoor
open Go.RowKit
attribute [local go_sem] ext_eq app_eq get_eq
namespace Tl
/-- Lines written as bytes; e: the last one is ended, too. -/
def wh : List (List UInt8) → Bool → List UInt8
  | [], _ => []
  | x :: r, e => x ++ ((if r ≠ [] ∨ e = true then [10] else []) ++ wh r e)
theorem wh_len (e : Bool) : ∀ X : List (List UInt8), (wh X e).length ≤ X.flatten.length + X.length
  | [] => by simp [wh]
  | x :: r => by
    have ih := wh_len e r
    simp only [wh, List.length_append, List.flatten_cons, List.length_cons]
    split <;> simp only [List.length_cons, List.length_nil] <;> omega
theorem wh_join (e : Bool) : ∀ (r : List (List UInt8)), Lib.joinTail [10] r ++ (if e = true then [10] else []) = (if r ≠ [] ∨ e = true then [10] else []) ++ wh r e
  | [] => by cases e <;> simp [Lib.joinTail, wh]
  | y :: r => by
    have ih := wh_join e r
    have e1 : Lib.joinTail [10] (y :: r) = [10] ++ y ++ Lib.joinTail [10] r := by simp [Lib.joinTail]
    have e2 : (if (y :: r) ≠ [] ∨ e = true then [10] else ([] : List UInt8)) = [10] := if_pos (.inl (List.cons_ne_nil _ _))
    rw [e1, e2]
    simp only [wh, List.append_assoc]
    rw [ih]
theorem wh_all (e : Bool) (X : List (List UInt8)) : wh X e = Lib.join X [10] ++ (if e = true ∧ X ≠ [] then [10] else []) := by
  cases X with
  | nil => simp [wh, Lib.join_nil]
  | cons x r =>
    have h := wh_join e r
    simp only [wh]
    rw [← h, Lib.join_cons, List.append_assoc]
    by_cases he : e = true
    · rw [if_pos he, if_pos ⟨he, List.cons_ne_nil _ _⟩]
    · rw [if_neg he, if_neg (fun h => he h.1)]
/-- What the plain answer's Whole has behind k lines. -/
def Wh (X : List (List UInt8)) (e : Bool) (p : List UInt8) (k : Nat) : Prop := wh X e = p ++ wh (X.drop k) e
theorem Wh.zero (X : List (List UInt8)) (e : Bool) : Wh X e [] 0 := by simp [Wh]
theorem Wh.done {X : List (List UInt8)} {e : Bool} {p : List UInt8} {k : Nat} (h : Wh X e p k) (hk : ¬ k < X.length) : wh X e = p := by
  unfold Wh at h
  rw [List.drop_eq_nil_of_le (by omega)] at h
  simpa [wh] using h
theorem Wh.mid {X : List (List UInt8)} {e : Bool} {p : List UInt8} {k : Nat} (h : Wh X e p k) (hk : k < X.length) (hm : k + 1 < X.length ∨ e = true) : Wh X e (p ++ X[k] ++ [10]) (k + 1) := by
  unfold Wh at h ⊢
  rw [h, List.drop_eq_getElem_cons hk]
  simp only [wh]
  rw [if_pos (by
    rcases hm with hm | hm
    · exact .inl (by intro e9; have := congrArg List.length e9; simp at this; omega)
    · exact .inr hm)]
  simp [List.append_assoc]
theorem Wh.last {X : List (List UInt8)} {e : Bool} {p : List UInt8} {k : Nat} (h : Wh X e p k) (hk : k < X.length) (hm : ¬ (k + 1 < X.length ∨ e = true)) : Wh X e (p ++ X[k]) (k + 1) := by
  unfold Wh at h ⊢
  rw [h, List.drop_eq_getElem_cons hk]
  simp only [wh]
  rw [if_neg (by
    rintro (h9 | h9)
    · exact hm (.inl (by
        have : (X.drop (k + 1)).length ≠ 0 := fun e9 => h9 (List.length_eq_zero_iff.1 e9)
        rw [List.length_drop] at this; omega))
    · exact hm (.inr h9))]
  simp [List.append_assoc]
theorem Wh.le {X : List (List UInt8)} {e : Bool} {p : List UInt8} {k : Nat} (h : Wh X e p k) : p.length ≤ (wh X e).length := by
  unfold Wh at h
  rw [h, List.length_append]; omega
end Tl
set_option maxRecDepth 100000 in
set_option maxHeartbeats 4000000 in
theorem rWholeG (X : List (List UInt8)) (e : Bool) (a : Option Addr) (c : Nat) (hX : X.length ≤ 2 ^ 40) (hF : (Tl.wh X e).length ≤ 2 ^ 44) (w : World) (hR : Rd w a X) : Calls Tryd.prog 28 #[.slice a X.length c, .bool e] w fun y w' => ∃ v, y = .returned v ∧ By w.heap.size w' v (Tl.wh X e) ∧ Below w.heap.size w w' := by
  obtain ⟨iB, hiB, hb0, hb1, hb2⟩ := infoB
  have HR := hidA hR
  have HB0 := hidA ((Below.refl w.heap.size w).alloc (Nat.le_refl _) (.cells #[] 5))
  have HO0 := hidA (By.fresh w w.heap.size (Nat.le_refl _))
  have HW0 := hidA (Tl.Wh.zero X e)
  clear hR
  go_enter Tryd.func28, Tryd.ntmps28
  go_wp2
  go_loopw [5, 11] (fun s5 s11 W => ∃ (k : Nat) (p : List UInt8), s11 = .int .i64 k ∧ k ≤ X.length ∧ Hid (Tl.Wh X e p k) ∧ Hid (By w.heap.size W s5 p) ∧ Hid (Below w.heap.size w W)) (fun _ s11 _ => X.length - (intOf s11).toNat)
  case atStart => exact ⟨0, [], rfl, Nat.zero_le _, HW0, HO0, HB0⟩
  case round =>
    obtain ⟨k, p, rfl, hk, HWh, HO, HB⟩ := hrel
    clear HB0 HO0 HW0
    obtain ⟨a3, c3, hv3⟩ := HO.out.slice
    subst hv3
    have hpc := HO.out.sr.le
    have hwsz := hidA HB.out.size
    by_cases hlt : k < X.length
    · obtain ⟨g, o, a', c', rfl, hg, hc0, hs⟩ := HR.out k hlt
      have hc : wr.cell? ⟨g, o + k, none⟩ = some (.slice a' X[k].length c') := (HB.out.cell (p := ⟨g, o + k, none⟩) hg).trans hc0
      have hgw : g < wr.heap.size := Nat.lt_of_lt_of_le hg hwsz.out
      have hw1 : IntKind.i64.wrap ((k : Int) + 1) = ((k + 1 : Nat) : Int) := by rw [IntKind.wrap_i64]; omega
      have hsub : IntKind.i64.wrap ((X.length : Int) - 1) = (X.length : Int) - 1 := by rw [IntKind.wrap_i64]; omega
      have HSx := hidA (hs.grow HB.out)
      have HO3 := hidA HO.out.own
      by_cases hm : k + 1 < X.length ∨ e = true
      · have HW2 := hidA (HWh.out.mid hlt hm)
        have hle := HW2.out.le
        simp only [List.length_append, List.length_singleton] at hle
        have hcond : decide ((k : Int) < (X.length : Int) - 1) = true ∨ (decide ((k : Int) < (X.length : Int) - 1) = false ∧ e = true) := by
          by_cases h9 : k + 1 < X.length
          · exact .inl (decide_eq_true (by omega))
          · exact .inr ⟨decide_eq_false (by omega), by rcases hm with h | h; exact absurd h h9; exact h⟩
        clear hc0 hs HR hm HWh
        generalize X[k] = x at *
        cases a' with
        | none =>
          have hx0 : x = [] := List.length_eq_zero_iff.1 (by have h1 := HSx.out.nil rfl; have h2 := HSx.out.le; omega)
          subst hx0
          have hc'0 := HSx.out.nil rfl
          subst hc'0
          have hc9 : wr.cell? ⟨g, o + k, none⟩ = some (.slice none 0 0) := hc
          rw [List.append_nil] at HW2
          clear hc HSx
          rcases hcond with hcd | ⟨hcd, rfl⟩ <;> cases a3
          all_goals
            go_wp2_with (at_builtin; refine wpList_append_own_at _ rfl _ _ 22 rfl w.heap.size 5 iB (.int .u8 0) 1 1 Tryd.underlying22 hiB hb0 hb1 hb2 rfl (by decide) _ _ _ rfl (HO3.out.alloc _) ⟨wr.heap.size, 0, none⟩ 1 1 [.int .u8 10] rfl rfl (cell_one_new _ _ _) (one_u8 _) (by unfold maxLen; omega) (by omega) (by have := hwsz.out; simp; omega) ?_; intro v' w2 hown hg2 _ hat; have HO2 := hidA (By.app1 (x := 10) hown); have HB2 : Hid (Below w.heap.size w w2) := (HB.out.alloc hwsz.out _).grown hg2 (by have := hwsz.out; simp; omega) (fun k hk => (HO3.out.lt k hk).1); clear hown hg2 hat)
            exact ⟨⟨k + 1, _, by first | rfl | go_num, hlt, HW2, HO2, HB2⟩, by simp [intOf]; omega⟩
        | some ad =>
          obtain ⟨q, hq⟩ : ∃ q, q = p ++ x := ⟨_, rfl⟩
          have hql : q.length + 1 ≤ 2 ^ 44 := by rw [hq, List.length_append]; omega
          rw [← hq] at HW2
          have HQ := hidA hq
          clear hq
          rcases hcond with hcd | ⟨hcd, rfl⟩
          all_goals
            go_wp2_with (first
              | (at_builtin; refine wpList_append_own_at _ rfl _ _ 22 rfl w.heap.size 5 iB (.int .u8 0) 1 1 Tryd.underlying22 hiB hb0 hb1 hb2 rfl (by decide) _ _ _ rfl HO3.out ad x.length c' (bCs x) rfl (by rw [bCs_len, Nat.mul_one]) (fun j u hj => HSx.out.src.cells_at j u hj) (bCs_one x) (by unfold maxLen; omega) (by omega) hwsz.out ?_; intro v2 w2 hown hg2 _ hat; have HO2 : Hid (By w.heap.size w2 v2 q) := (by rw [HQ.out]; exact By.of_app hown); have HB2 : Hid (Below w.heap.size w w2) := HB.out.grown hg2 hwsz.out (fun k hk => (HO3.out.lt k hk).1); obtain ⟨a4, c4, hv4⟩ := HO2.out.slice; subst hv4; have HO4 := hidA HO2.out.own; have hwsz2 := hidA HB2.out.size; clear hown hg2 hat HO3 HSx)
              | (at_builtin; refine wpList_append_own_at _ rfl _ _ 22 rfl w.heap.size 5 iB (.int .u8 0) 1 1 Tryd.underlying22 hiB hb0 hb1 hb2 rfl (by decide) _ _ _ rfl (HO4.out.alloc _) ⟨w2.heap.size, 0, none⟩ 1 1 [.int .u8 10] rfl rfl (cell_one_new _ _ _) (one_u8 _) (by unfold maxLen; omega) (by omega) (by have := hwsz2.out; simp; omega) ?_; intro v' w3 hown hg2 _ hat; have HO5 := hidA (By.app1 (x := 10) hown); have HB5 : Hid (Below w.heap.size w w3) := (HB2.out.alloc hwsz2.out _).grown hg2 (by have := hwsz2.out; simp; omega) (fun k hk => (HO4.out.lt k hk).1); clear hown hg2 hat))
            exact ⟨⟨k + 1, _, by first | rfl | go_num, hlt, HW2, HO5, HB5⟩, by simp [intOf]; omega⟩
      · have HW2 := hidA (HWh.out.last hlt hm)
        have hle := HW2.out.le
        simp only [List.length_append] at hle
        have he : e = false := by cases e; rfl; exact absurd (.inr rfl) hm
        subst he
        have hcd : decide ((k : Int) < (X.length : Int) - 1) = false := decide_eq_false (fun h => hm (.inl (by omega)))
        clear hc0 hs HR hm HWh
        generalize X[k] = x at *
        cases a' with
        | none =>
          have hx0 : x = [] := List.length_eq_zero_iff.1 (by have h1 := HSx.out.nil rfl; have h2 := HSx.out.le; omega)
          subst hx0
          have hc'0 := HSx.out.nil rfl
          subst hc'0
          have hc9 : wr.cell? ⟨g, o + k, none⟩ = some (.slice none 0 0) := hc
          rw [List.append_nil] at HW2
          clear hc HSx
          cases a3
          all_goals
            go_wp2_with fail
            exact ⟨⟨k + 1, _, by first | rfl | go_num, hlt, HW2, HO, HB⟩, by simp [intOf]; omega⟩
        | some ad =>
          go_wp2_with (at_builtin; refine wpList_append_own_at _ rfl _ _ 22 rfl w.heap.size 5 iB (.int .u8 0) 1 1 Tryd.underlying22 hiB hb0 hb1 hb2 rfl (by decide) _ _ _ rfl HO3.out ad x.length c' (bCs x) rfl (by rw [bCs_len, Nat.mul_one]) (fun j u hj => HSx.out.src.cells_at j u hj) (bCs_one x) (by unfold maxLen; omega) (by omega) hwsz.out ?_; intro v2 w2 hown hg2 _ hat; have HO2 := hidA (By.of_app hown); have HB2 : Hid (Below w.heap.size w w2) := HB.out.grown hg2 hwsz.out (fun k hk => (HO3.out.lt k hk).1); clear hown hg2 hat)
          exact ⟨⟨k + 1, _, by first | rfl | go_num, hlt, HW2, HO2, HB2⟩, by simp [intOf]; omega⟩
    · have HD := hidA (HWh.out.done hlt)
      go_wp2_with fail
      go_ret
      exact ⟨_, rfl, by rw [HD.out]; exact HO.out, HB.out⟩
theorem rWhole (X : List (List UInt8)) (e : Bool) (a : Option Addr) (c : Nat) (hX : X.length ≤ 2 ^ 40) (hF : (Tl.wh X e).length ≤ 2097155) (w : World) (hR : Rd w a X) : Calls Tryd.prog 28 #[.slice a X.length c, .bool e] w fun y w' => ∃ v, y = .returned v ∧ By w.heap.size w' v (Tl.wh X e) ∧ Below w.heap.size w w' :=
  rWholeG X e a c hX (Nat.le_trans hF (by decide)) w hR
end Go.Proofs.YtplnojohlbbalaaDoor
/- The program's Whole. Condition: lengths that fit. -/
namespace Go.Proofs.YtplnojohlbbalaaDoor
open Go.RowKit
attribute [local go_sem] ext_eq app_eq get_eq
/-- A slice of bytes that can be read, and appended to. -/
structure Ap (B : Nat) (W : World) (a : Option Addr) (c : Nat) (l : List UInt8) : Prop where
  src : Src W a l
  le : l.length ≤ c
  nil : a = none → c = 0
  at' : ∀ ad, a = some ad → ∃ g, ad = ⟨g, 0, none⟩ ∧ B ≤ g ∧ ∀ i, i < c → (W.cell? ⟨g, i, none⟩).isSome = true ∧ W.frozen? ⟨g, i, none⟩ = false
theorem Ap.sr {B : Nat} {W : World} {a : Option Addr} {c : Nat} {l : List UInt8} (h : Ap B W a c l) : Sr W a c l := ⟨h.src, h.le, h.nil⟩
theorem Ap.grow {B : Nat} {W W' : World} {a : Option Addr} {c : Nat} {l : List UInt8} (h : Ap B W a c l) (b : Below W.heap.size W W') : Ap B W' a c l := by
  refine ⟨h.src.grow b (Nat.le_refl _), h.le, h.nil, fun ad ea => ?_⟩
  obtain ⟨g, e, hB, hg⟩ := h.at' ad ea
  refine ⟨g, e, hB, fun i hi => ?_⟩
  obtain ⟨h1, h2⟩ := hg i hi
  have hlt : g < W.heap.size := by
    obtain ⟨u, hu⟩ := Option.isSome_iff_exists.1 h1
    exact block_lt_of_cell hu
  have hk := b.block g hlt
  exact ⟨by rw [World.cell?_of_block (w := W) hk]; exact h1, by rw [← h2]; simp [World.frozen?, hk]⟩
theorem Ap.fresh {B : Nat} {W : World} {v : Value} {l : List UInt8} (h : Lib.FreshBytes B W v l) : ∃ a c, v = .slice a l.length c ∧ Ap B W a c l := by
  obtain ⟨g, cap, zs, rfl, hB, h1, h2, h3, h4, h5, h6, h7⟩ := h
  refine ⟨_, _, rfl, fun j hj => ⟨g, 0, rfl, ?_, ?_⟩, h1, fun e => (by cases e), fun ad ea => ?_⟩
  · exact block_lt_of_cell (h6 j (by omega))
  · rw [Nat.zero_add, h6 j (by omega)]
    have hz : j < zs.length := by omega
    have e1 : zs.getD j 0 = zs[j] := by rw [List.getD_eq_getElem?_getD, List.getElem?_eq_getElem hz]; rfl
    have hb := h4 zs[j] (List.getElem_mem hz)
    have e2 : l[j] = UInt8.ofNat (zs[j]).toNat := by
      have := congrArg (fun q => q[j]?) h5
      simp only [Lib.bytesOf, List.getElem?_map, List.getElem?_take, hj, if_true] at this
      rw [List.getElem?_eq_getElem hz, List.getElem?_eq_getElem hj] at this
      simpa using this.symm
    rw [e1, e2]
    have e3 : (UInt8.ofNat (zs[j]).toNat).toNat = (zs[j]).toNat := by simp; omega
    rw [e3, Int.toNat_of_nonneg hb.1]
  · injection ea with ea
    exact ⟨g, ea.symm, hB, fun i hi => ⟨by rw [h6 i hi]; rfl, h7 i hi⟩⟩
theorem Ap.empty (B : Nat) (W : World) : Ap B W none 0 [] := ⟨Src.nil _ _, Nat.le_refl _, fun _ => rfl, fun _ e => (by cases e)⟩
theorem lens_eq : ∀ X : List (List UInt8), Lib.lens X = X.flatten.length
  | [] => by simp [Lib.lens]
  | x :: r => by
    have ih := lens_eq r
    simp only [Lib.lens, List.map_cons, List.sum_cons, List.flatten_cons, List.length_append] at ih ⊢
    rw [ih]
end Go.Proofs.YtplnojohlbbalaaDoor
/- The program's Whole. Condition: lengths that fit. -/
namespace Go.Proofs.YtplnojohlbbalaaDoor
open Go.RowKit
attribute [local go_sem] ext_eq app_eq get_eq
theorem Sr.app_set {B : Nat} {W : World} {g c : Nat} {l : List UInt8} {x : UInt8} (h : Ap B W (some ⟨g, 0, none⟩) c l) (hr : l.length + 1 ≤ c) : Sr (W.setCell ⟨g, l.length, none⟩ (.int .u8 x.toNat)) (some ⟨g, 0, none⟩) c (l ++ [x]) := by
  obtain ⟨g', e, hB, hg⟩ := h.at' _ rfl
  cases e
  have hlt : g < W.heap.size := by
    obtain ⟨u, hu⟩ := Option.isSome_iff_exists.1 (hg l.length (by omega)).1
    exact block_lt_of_cell hu
  refine ⟨fun j hj => ⟨g, 0, rfl, by simpa using hlt, ?_⟩, by rw [List.length_append]; simpa using hr, fun e => by cases e⟩
  rw [Nat.zero_add]
  by_cases e : j = l.length
  · subst e
    obtain ⟨u, hu⟩ := Option.isSome_iff_exists.1 (hg l.length (by omega)).1
    rw [World.cell?_setCell_same _ _ _ hu]
    simp
  · have hjl : j < l.length := by rw [List.length_append] at hj; simp at hj; omega
    rw [World.cell?_setCell_other _ _ _ _ (by intro e9; injection e9 with _ e9 _; exact e e9.symm)]
    obtain ⟨g1, o1, e1, _, hc⟩ := h.src j hjl
    cases e1
    rw [Nat.zero_add] at hc
    rw [hc, List.getElem_append_left hjl]
end Go.Proofs.YtplnojohlbbalaaDoor
