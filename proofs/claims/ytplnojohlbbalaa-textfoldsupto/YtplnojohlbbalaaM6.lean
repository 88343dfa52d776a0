/- Several texts of this claim, one behind the other, in their order. -/
import Derived.Test.YtplnojohlbbalaaM5
import Derived.Deep.RegionHeld3
/- The program's each over ints, with the closure of ends; ends, Head, Tail. Condition: a length that fits. -/
namespace Go.Proofs.Ytplnojohlbbalaa
open Go.RowKit
attribute [local go_sem] ext_eq app_eq get_eq
def slLen : Value → Nat
  | .slice _ n _ => n
  | _ => 0
theorem Tl.tl_lt {r : List UInt8} (h : r ≠ []) : (Tl.tl r).length < r.length := by
  have : 0 < r.length := List.length_pos_iff.2 h
  unfold Tl.tl; rw [List.length_drop]; omega
theorem Tl.hd_le (r : List UInt8) : (Tl.hd r).length ≤ r.length := by unfold Tl.hd; rw [List.length_take]; omega
set_option maxRecDepth 100000 in
set_option maxHeartbeats 4000000 in
theorem oEach (l : List UInt8) (a : Option Addr) (c B : Nat) (v0 : Value) (hl : l.length ≤ 1048577) (w0 w : World) (hS : Sr w0 a c l) (h0 : Below w0.heap.size w0 w) (hI : Ir B w v0 [0]) (hB : w0.heap.size ≤ B) (hB2 : B ≤ w.heap.size) : Calls Try.prog 52 #[.slice a l.length c, v0, .func (.func 53) #[] #[]] w fun e w' => ∃ v, e = .returned v ∧ Ir B w' v (Tl.Es l (Tl.prs l).length) ∧ Below B w w' := by
  have H0 := hidA h0
  have HI0 := hidA (show Ir B w v0 (Tl.Es l 0) by simpa [Tl.Es, Tl.en_zero] using hI)
  have HS0 := hidA (show Sr w0 a c (l.drop (Tl.en l 0)) by rw [Tl.en_zero]; exact hS)
  have hpl := Tl.prs_len l.length l (Nat.le_refl _)
  have Hb := hidA hB
  have Hb2 := hidA hB2
  clear h0 hI hS hB hB2
  go_enter Try.func52, Try.ntmps52
  go_wp2_with fail
  go_loopw [0, 1] (fun s0 s1 W => ∃ (k : Nat) (aR : Option Addr) (cR : Nat), s0 = .slice aR (l.drop (Tl.en l k)).length cR ∧ k ≤ (Tl.prs l).length ∧ Hid (Sr w0 aR cR (l.drop (Tl.en l k))) ∧ Hid (Ir B W s1 (Tl.Es l k)) ∧ Hid (Below B w W)) (fun s0 _ _ => slLen s0)
  case atStart => exact ⟨0, a, c, by rw [Tl.en_zero]; rfl, Nat.zero_le _, HS0, HI0, hidA (Below.refl _ _)⟩
  case round =>
    obtain ⟨k, aR, cR, rfl, hk, HS, HI, HB⟩ := hrel
    have hBb := hidA (H0.out.trans (HB.out.mono Hb.out))
    have hsz := hidA (Nat.le_trans Hb2.out HB.out.size)
    clear HI0 HS0
    have hrl : (l.drop (Tl.en l k)).length ≤ 1048577 := by rw [List.length_drop]; omega
    by_cases hr : l.drop (Tl.en l k) = []
    · have hkn := Tl.at_done hk hr
      rw [hr] at HS ⊢
      clear HS
      go_wp2_with fail
      go_ret
      exact ⟨_, rfl, by rw [← hkn]; exact HI.out, HB.out⟩
    · obtain ⟨hk1, e1, e2⟩ := Tl.at_more hk hr
      have HE1 := hidA e1
      have hlt := Tl.tl_lt hr
      have hhd := Tl.hd_le (l.drop (Tl.en l k))
      have hel : (Tl.Es l k).length = k + 1 := Tl.Es_len l k
      have hlast : (Tl.Es l k)[k]'(by omega) = Tl.en l k := Tl.Es_last l k _
      have hen : Tl.en l k ≤ 1048577 := Nat.le_trans (Tl.en_le l k) hl
      have HC := hidA (fun W g (h1 : Below w0.heap.size w0 W) (h2 : W.cell? ⟨g, 0, none⟩ = some (.int .u8 10)) => oCutG (l.drop (Tl.en l k)) aR cR g (by omega) W (HS.out.grow h1) h2)
      have HK : Hid (∀ (W : World) (v : Value) (a1 : Option Addr) (c1 : Nat), Ir B W v (Tl.Es l k) → B ≤ W.heap.size → Calls Try.prog 53 #[v, .agg #[.slice a1 (Tl.hd (l.drop (Tl.en l k))).length c1, .bool (Tl.yes (l.drop (Tl.en l k)))]] W fun x w' => ∃ v', x = .returned v' ∧ Ir B w' v' (Tl.Es l (k + 1)) ∧ Below B W w') := fun W v a1 c1 h1 h2 => by
        have h := oEnds1 B v (Tl.Es l k) k hel (by omega) a1 (Tl.hd (l.drop (Tl.en l k))).length c1 (Tl.yes (l.drop (Tl.en l k))) (by omega) (by omega) W h1 h2
        simp only [Tl.Es_last] at h
        rw [Tl.Es_succ, e2]; exact h
      have hpos : 0 < (l.drop (Tl.en l k)).length := List.length_pos_iff.2 hr
      have HW := hidA (hBb.out.alloc hBb.out.size (.cells #[.int .u8 10] 5))
      have HT : Hid (∀ W a2 c2, Sr W a2 c2 (Tl.tl (l.drop (Tl.en l k))) → Sr W a2 c2 (l.drop (Tl.en l (k + 1)))) := fun W a2 c2 h => by rw [← HE1.out]; exact h
      have HTl : Hid ((l.drop (Tl.en l (k + 1))).length = (Tl.tl (l.drop (Tl.en l k))).length) := by show _ = _; rw [HE1.out]
      clear HE1 e1 e2 hlast hel hen hr
      generalize Tl.Es l k = S0 at *
      generalize Tl.hd (l.drop (Tl.en l k)) = h at *
      generalize Tl.tl (l.drop (Tl.en l k)) = t at *
      generalize Tl.yes (l.drop (Tl.en l k)) = y at *
      generalize l.drop (Tl.en l k) = r at *
      go_wp2_with (first
        | (go_at_call 50; with_reducible refine (HC.out _ _ HW.out (World.cell?_alloc_at _ _ _ _ rfl)).mono ?_; rintro e w2 ⟨a1, c1, a2, c2, rfl, h1, h2⟩; have H1 := hidA h1; have HA := hidA ((Below.refl _ _).alloc (Nat.le_refl _) _ |>.trans (h2.mono (by simp))); clear h1 h2)
        | (go_at_call 53; with_reducible refine (HK.out _ _ _ _ (HI.out.grow HA.out) (Nat.le_trans hsz.out HA.out.size)).mono ?_; rintro e w3 ⟨v', rfl, h1, h2⟩; have HI2 := hidA h1; have HB3 := hidA (HB.out.trans ((HA.out.mono hsz.out).trans h2)); clear h1 h2))
      exact ⟨⟨k + 1, a2, c2, by rw [HTl.out], hk1, hidA (HT.out _ _ _ (H1.out _ HS.out).2), HI2, HB3⟩, by simp [slLen]; omega⟩
theorem Ir.one (W : World) (B : Nat) (hB : B ≤ W.heap.size) (x : Nat) : Ir B (W.alloc (.cells #[.int .i64 x] 3)) (.slice (some ⟨W.heap.size, 0, none⟩) 1 1) [x] := by
  refine ⟨?_, .inr ⟨W.heap.size, 1, #[.int .i64 x], rfl, hB, heap_new _ _, Nat.le_refl _, by unfold maxLen; omega, by simp, by simp [nC]⟩⟩
  simp [nC]
set_option maxRecDepth 100000 in
set_option maxHeartbeats 1000000 in
theorem oEnds (l : List UInt8) (a : Option Addr) (c : Nat) (hl : l.length ≤ 1048577) (w : World) (hS : Sr w a c l) : Calls Try.prog 41 #[.slice a l.length c] w fun e w' => ∃ v, e = .returned v ∧ Ir w.heap.size w' v (Tl.Es l (Tl.prs l).length) ∧ Below w.heap.size w w' := by
  have hb := (Below.refl w.heap.size w).alloc (Nat.le_refl _) (.cells #[.int .i64 0] 3)
  have HB := hidA hb
  have HE := hidA (oEach l a c w.heap.size _ hl w _ hS hb (Ir.one w w.heap.size (Nat.le_refl _) 0) (Nat.le_refl _) hb.size)
  clear hb hS
  go_enter Try.func41, Try.ntmps41
  go_wp2_with (go_at_call 52; with_reducible refine HE.out.mono ?_; rintro e w1 ⟨v, rfl, h1, h2⟩; have HI := hidA h1; have HB1 := hidA (HB.out.trans h2); clear h1 h2)
  go_ret
  exact ⟨_, rfl, HI.out, HB1.out⟩
theorem Tl.Es_at {B : Nat} {W : World} {v : Value} {l : List UInt8} (h : Ir B W v (Tl.Es l (Tl.prs l).length)) {i : Nat} (hi : i ≤ (Tl.prs l).length) : ∃ g cap, v = .slice (some ⟨g, 0, none⟩) ((Tl.prs l).length + 1) cap ∧ g < W.heap.size ∧ W.cell? ⟨g, i, none⟩ = some (.int .i64 (Tl.en l i)) := by
  obtain ⟨g, cap, hv, hg, hcg⟩ := h.at (j := i) (by rw [Tl.Es_len]; omega)
  rw [Tl.Es_len] at hv
  rw [Tl.Es_get] at hcg
  exact ⟨g, cap, hv, hg, hcg⟩
set_option maxRecDepth 100000 in
set_option maxHeartbeats 1000000 in
theorem oHead (l : List UInt8) (a : Option Addr) (c : Nat) (n : Int) (hn : -(2 ^ 63) ≤ n ∧ n < 2 ^ 63) (hl : l.length ≤ 1048577) (w : World) (hS : Sr w a c l) : Calls Try.prog 26 #[.slice a l.length c, .int .i64 n] w fun e w' => ∃ v, e = .returned v ∧ By w.heap.size w' v (l.take (Tl.en l (Tl.fst n (Tl.prs l).length))) ∧ Below w.heap.size w w' := by
  have hpl := Tl.prs_len l.length l (Nat.le_refl _)
  have HE := hidA (oEnds l a c hl w hS)
  have hk := Tl.fst_le n (Tl.prs l).length
  have HA := hidA (fun W => oFirst n (Tl.prs l).length hn (by omega) W)
  generalize Tl.fst n (Tl.prs l).length = i at *
  have hel : Tl.en l i ≤ l.length := Tl.en_le l i
  obtain ⟨hs1, hr1⟩ := sl_to hS (Tl.en l i) hel
  have HS := hidA (fun W (b : Below w.heap.size w W) => oClone (l.take (Tl.en l i)) a c (by rw [List.length_take]; omega) W (hr1.grow b))
  have hw1 : IntKind.i64.wrap (((Tl.prs l).length : Int) + 1 - 1) = ((Tl.prs l).length : Int) := by rw [IntKind.wrap_i64]; omega
  have hw2 : IntKind.i64.wrap ((Tl.prs l).length : Int) = ((Tl.prs l).length : Int) := by rw [IntKind.wrap_i64]; omega
  have hi1 : (0 : Int) ≤ (i : Int) := by omega
  have hi2 : (i : Int) < ((Tl.prs l).length : Int) + 1 := by omega
  clear hr1 hS
  generalize l.take (Tl.en l i) = p at *
  have HI := hidA (fun (W : World) (v : Value) (h : Ir w.heap.size W v (Tl.Es l (Tl.prs l).length)) => Tl.Es_at h (i := i) hk)
  generalize Tl.en l i = E at *
  generalize (Tl.Es l (Tl.prs l).length) = R at *
  generalize (Tl.prs l).length = N at *
  go_enter Try.func26, Try.ntmps26
  go_wp2_with (first
    | (go_at_call 41; with_reducible refine HE.out.mono ?_; rintro e w1 ⟨v, rfl, h1, h2⟩; obtain ⟨g, cap, hv, hg, hcg⟩ := HI.out _ _ h1; subst hv; have HB1 := hidA h2; clear h1 h2)
    | (go_at_call 42; with_reducible refine (HA.out _).mono ?_; rintro e w2 ⟨rfl, hw2⟩; rw [hw2]; clear hw2 w2)
    | (go_at_call 22; with_reducible refine (HS.out _ HB1.out).mono ?_; rintro e w3 ⟨v, rfl, h1, h2⟩; have H1 := hidA (By.mono h1 HB1.out.size); have H2 := hidA (HB1.out.trans (h2.mono HB1.out.size)); clear h1 h2))
  go_ret
  exact ⟨_, rfl, H1.out, H2.out⟩
end Go.Proofs.Ytplnojohlbbalaa
/- Tac of both sides. Condition: a length that fits. -/
namespace Go.Proofs.Ytplnojohlbbalaa
open Go.RowKit
attribute [local go_sem] ext_eq app_eq get_eq
namespace Tl
/-- The lines from the k-th on, the last one first. -/
def tc (l : List UInt8) (k : Nat) : List UInt8 := ((ps l).drop k).reverse.flatten
theorem tc_end (l : List UInt8) (k : Nat) (h : (ps l).length ≤ k) : tc l k = [] := by
  unfold tc; rw [List.drop_eq_nil_of_le h]; rfl
theorem tc_step {l : List UInt8} {k : Nat} (h : k < (ps l).length) : tc l k = tc l (k + 1) ++ (ps l)[k] := by
  unfold tc
  rw [List.drop_eq_getElem_cons h, List.reverse_cons, List.flatten_append]; simp
theorem tc_len (l : List UInt8) (k : Nat) : (tc l k).length ≤ l.length := by
  have h : (tc l k).length = ((ps l).drop k).flatten.length := by
    unfold tc
    rw [List.length_flatten, List.length_flatten, List.map_reverse, List.sum_reverse]
  have e : (ps l).flatten = ((ps l).take k).flatten ++ ((ps l).drop k).flatten := by rw [← List.flatten_append, List.take_append_drop]
  have h2 : (ps l).flatten = l := flat_all l
  rw [h]
  rw [h2] at e
  have := congrArg List.length e
  rw [List.length_append] at this
  omega
theorem ps_pos {l : List UInt8} {k : Nat} (h : k < (ps l).length) : 0 < (ps l)[k].length := by
  have hk : k < (prs l).length := by simpa [ps] using h
  have ih := prs_drop l k (Nat.le_of_lt hk)
  have hc : (prs l).drop k = (prs l)[k] :: (prs l).drop (k + 1) := List.drop_eq_getElem_cons hk
  have hr : l.drop (en l k) ≠ [] := prs_ne (by rw [ih, hc]; exact List.cons_ne_nil _ _)
  have hs := prs_step hr
  rw [ih, hc] at hs
  injection hs with h1 _
  have e : (ps l)[k] = pc (prs l)[k] := by simp [ps]
  rw [e, h1, pc_hd hr]
  by_cases hf : fx (l.drop (en l k)) < (l.drop (en l k)).length
  · have : yes (l.drop (en l k)) = true := decide_eq_true hf
    rw [this, if_pos rfl]; omega
  · rw [hd_no hf]
    have := List.length_pos_iff.2 hr
    omega
theorem ps_one {l : List UInt8} {k : Nat} (h : k < (ps l).length) : (l.take (en l (k + 1))).drop (en l k) = (ps l)[k] := by
  have h1 : ((ps l).take (k + 1)).flatten = l.take (en l (k + 1)) := en_take l (k + 1)
  rw [← h1, List.take_succ_eq_append_getElem h, List.flatten_append]
  have h2 : (((ps l).take k).flatten).length = en l k := rfl
  rw [← h2, List.drop_left]; simp
end Tl
theorem mk_cap (n : Nat) (hn : n ≤ 140737488355328) (w : World) : (Instr.makeSlice 22 (.int .i64 0) (.int .i64 n)).run Try.prog w = .ok (.slice (some ⟨w.heap.size, 0, none⟩) 0 n) (w.alloc (.cells (madeCells #[.int .u8 0] n) 5)) := by
  obtain ⟨i, hi, hz, hs, hb⟩ := infoB
  have h := run_make (P := Try.prog) w 22 5 i _ Try.underlying22 hi hz .i64 .i64 0 n (by omega) (by omega) (by rw [hb]; omega) (by omega)
  rw [hs] at h
  simpa [Value.cells] using h
theorem By.cap (W : World) (B n : Nat) (hB : B ≤ W.heap.size) (hn : n ≤ 140737488355328) : By B (W.alloc (.cells (madeCells #[.int .u8 0] n) 5)) (.slice (some ⟨W.heap.size, 0, none⟩) 0 n) [] := by
  refine ⟨by simp [bCs], .inr ⟨W.heap.size, n, _, rfl, hB, heap_new _ _, Nat.zero_le _, by unfold maxLen; omega, ?_, by simp [bCs]⟩⟩
  simpa using size_madeCells #[Value.int .u8 0] n
end Go.Proofs.Ytplnojohlbbalaa
/- TextLines: the lines so far, is the last line ended, rows of one's own rows. No condition. -/
namespace Go.Proofs.Ytplnojohlbbalaa
open Go.RowKit
attribute [local go_sem] ext_eq app_eq get_eq
namespace Tl
/-- The first k lines. -/
def Tx (l : List UInt8) (k : Nat) : List (List UInt8) := ((prs l).take k).map (·.1)
theorem Tx_zero (l : List UInt8) : Tx l 0 = [] := by simp [Tx]
theorem Tx_len (l : List UInt8) (k : Nat) (h : k ≤ (prs l).length) : (Tx l k).length = k := by
  unfold Tx; rw [List.length_map, List.length_take, Nat.min_eq_left h]
theorem Tx_all (l : List UInt8) : Tx l (prs l).length = ls l := by
  unfold Tx ls; rw [List.take_of_length_le (Nat.le_refl _)]
theorem Tx_succ {l : List UInt8} {k : Nat} (hk : k ≤ (prs l).length) (hr : l.drop (en l k) ≠ []) : Tx l (k + 1) = Tx l k ++ [hd (l.drop (en l k))] := by
  have ih := prs_drop l k hk
  have hs := prs_step hr
  rw [ih] at hs
  have hlt : k < (prs l).length := by
    rcases Nat.lt_or_ge k (prs l).length with h | h
    · exact h
    · rw [List.drop_eq_nil_of_le h] at hs; cases hs
  have hc : (prs l).drop k = (prs l)[k] :: (prs l).drop (k + 1) := List.drop_eq_getElem_cons hlt
  rw [hc] at hs
  injection hs with h1 h2
  unfold Tx
  rw [List.take_succ_eq_append_getElem hlt, List.map_append, h1]; rfl
theorem fx_min : ∀ (l : List UInt8) (j : Nat) (h : j < l.length), l[j] = 10 → fx l ≤ j
  | [], j, h, _ => by simp at h
  | c :: l, j, h, e => by
    by_cases hc : c = 10
    · have e0 : fx (c :: l) = 0 := if_pos hc
      omega
    · have e0 : fx (c :: l) = fx l + 1 := if_neg hc
      cases j with
      | zero => exact absurd e hc
      | succ j =>
        have := fx_min l j (by simpa using h) (by simpa using e)
        omega
theorem eb_at (n : Nat) : ∀ l : List UInt8, l.length ≤ n → ∀ m (hm : m < l.length), m + 1 = l.length → eb l = decide (l[m] = 10) := by
  induction n with
  | zero => intro l h m hm e; omega
  | succ n ih =>
    intro l h m hm e
    have h0 : l ≠ [] := by intro h0; subst h0; simp at hm
    by_cases hf : fx l < l.length
    · have eE : eb l = eb (l.drop (fx l + 1)) := by unfold eb; rw [prs_yes hf]; simp
      rw [eE]
      by_cases hd : fx l + 1 = l.length
      · have em : m = fx l := by omega
        subst em
        rw [List.drop_eq_nil_of_le (by omega), fx_at hf]; rfl
      · rw [ih (l.drop (fx l + 1)) (by rw [List.length_drop]; omega) (m - (fx l + 1)) (by rw [List.length_drop]; omega) (by rw [List.length_drop]; omega)]
        have e2 : fx l + 1 + (m - (fx l + 1)) = m := by omega
        simp only [List.getElem_drop, e2]
    · have e3 : eb l = false := by unfold eb; rw [prs_no hf h0]; rfl
      rw [e3]
      symm
      apply decide_eq_false
      intro h10
      have := fx_min l m hm h10
      omega
end Tl
/-- A row of one's own of slices of bytes; the first k of them are one's own, too. -/
def RO (B : Nat) (W : World) (v : Value) (X : List (List UInt8)) (k : Nat) : Prop := ∃ vs : List Value, W.ownsRow B 22 1 v X.length vs ∧ ∃ hl : vs.length = X.length, (∀ u ∈ vs, u.oneCell' = true) ∧ (∀ i (h : i < X.length), Sq B W (vs[i]'(by omega)) X[i]) ∧ ∀ i (h : i < X.length), i < k → By B W (vs[i]'(by omega)) X[i]
theorem RR.ro {B : Nat} {W : World} {v : Value} {X : List (List UInt8)} (h : RR B W v X) : RO B W v X 0 := by
  obtain ⟨vs, h1, h2, h3, h4⟩ := h
  exact ⟨vs, h1, h2, h3, h4, fun i _ hk => absurd hk (Nat.not_lt_zero _)⟩
theorem RO.rr {B : Nat} {W : World} {v : Value} {X : List (List UInt8)} {k : Nat} (h : RO B W v X k) : RR B W v X := by
  obtain ⟨vs, h1, h2, h3, h4, _⟩ := h
  exact ⟨vs, h1, h2, h3, h4⟩
theorem RO.grow {B k : Nat} {W W' : World} {v : Value} {X : List (List UInt8)} (h : RO B W v X k) (b : Below W.heap.size W W') : RO B W' v X k := by
  obtain ⟨vs, h1, h2, h3, h4, h5⟩ := h
  exact ⟨vs, own_grow h1 b, h2, h3, fun i hi => (h4 i hi).grow b, fun i hi hk => (h5 i hi hk).grow b⟩
theorem Sq.set {B : Nat} {W : World} {v : Value} {x : List UInt8} (h : Sq B W v x) {g j : Nat} {u : Value} (hg : B ≤ g) (hk : ∃ c fz, W.heap[g]? = some (.cells c 22 fz)) : Sq B (W.setCell ⟨g, j, none⟩ u) v x := by
  obtain ⟨a, c, e, hs, hkk⟩ := h.sr
  have key : ∀ g' o, a = some ⟨g', o, none⟩ → 0 < x.length → g' ≠ g := fun g' o ea hx hgg => by
    subst hgg
    obtain ⟨c2, f2, h2⟩ := hk
    rcases hkk g' o ea hx with h | ⟨cur, fz, h⟩
    · omega
    · rw [h] at h2
      injection h2 with h2
      injection h2 with _ h3 _
      exact absurd h3 (by decide)
  refine ⟨a, c, e, ⟨fun i hi => ?_, hs.le, hs.nil⟩, fun g' o ea hx => ?_⟩
  · obtain ⟨g', o, ea, hl, hc⟩ := hs.src i hi
    refine ⟨g', o, ea, by simpa using hl, ?_⟩
    rw [World.cell?_setCell_other _ _ _ _ (by intro e9; injection e9 with e9 _ _; exact key g' o ea (by omega) e9.symm)]; exact hc
  · rcases hkk g' o ea hx with h | ⟨cur, fz, h⟩
    · exact .inl h
    · refine .inr ⟨cur, fz, ?_⟩
      rw [heap_setCell_other W ⟨g, j, none⟩ g' u (by show g' ≠ g; exact key g' o ea hx)]; exact h
theorem By.setR {B' : Nat} {W : World} {v : Value} {x : List UInt8} (h : By B' W v x) {g j : Nat} {u : Value} (hk : ∃ c fz, W.heap[g]? = some (.cells c 22 fz)) : By B' (W.setCell ⟨g, j, none⟩ u) v x := by
  refine h.on (fun g' c hc => ?_)
  obtain ⟨c2, f2, h2⟩ := hk
  exact heap_setCell_other W ⟨g, j, none⟩ g' u (by show g' ≠ g; exact heap_ne hc h2 (by decide))
/-- One more of the row's slices is replaced by one's own with the same bytes. -/
theorem RO.store {B : Nat} {W : World} {X : List (List UInt8)} {k g n cap : Nat} {v2 : Value} (h : RO B W (.slice (some ⟨g, 0, none⟩) n cap) X k) (hk : k < X.length) (h2 : By B W v2 X[k]) (h3 : v2.oneCell' = true) : RO B (W.setCell ⟨g, k, none⟩ v2) (.slice (some ⟨g, 0, none⟩) n cap) X (k + 1) := by
  obtain ⟨vs, o1, o2, o3, o4, o5⟩ := h
  have hgB : B ≤ g := (o1.lt g rfl).1
  have hkd := own_kind o1 g rfl
  have en : n = X.length := by
    obtain ⟨a', c', e'⟩ := own_slice o1
    injection e' with _ e2 _
  subst en
  refine ⟨vs.set k v2, (o1.stored k v2).1, by simp [o2], fun u hu => ?_, fun i hi => ?_, fun i hi hik => ?_⟩
  · rcases List.mem_or_eq_of_mem_set hu with h | h
    · exact o3 u h
    · rw [h]; exact h3
  · rw [List.getElem_set]
    by_cases e : k = i
    · subst e
      rw [if_pos rfl]
      exact (Sq.of_by h2).set hgB hkd
    · rw [if_neg e]
      exact (o4 i hi).set hgB hkd
  · rw [List.getElem_set]
    by_cases e : k = i
    · subst e
      rw [if_pos rfl]
      exact h2.setR hkd
    · rw [if_neg e]
      exact (o5 i hi (by omega)).setR hkd
theorem By.one {B : Nat} {W : World} {v : Value} {x : List UInt8} (h : By B W v x) : v.oneCell' = true := by
  obtain ⟨a, c, rfl⟩ := h.slice
  rfl
end Go.Proofs.Ytplnojohlbbalaa
