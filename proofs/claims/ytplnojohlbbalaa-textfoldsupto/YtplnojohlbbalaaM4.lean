/- Several texts of this claim, one behind the other, in their order. -/
import Derived.Test.YtplnojohlbbalaaM3
/- The plain answer's Lines. Condition: lengths that fit. -/
namespace Go.Proofs.Ytplnojohlbbalaa
open Go.RowKit
attribute [local go_sem] ext_eq app_eq get_eq
namespace Tl
/-- Are all lines ended? -/
def eb (l : List UInt8) : Bool := (prs l).all (·.2)
def ls (l : List UInt8) : List (List UInt8) := (prs l).map (·.1)
/-- What the plain answer's Lines has, at the place k: lines that are ended, and an open one. -/
def At (l : List UInt8) (acc : List (List UInt8)) (cur : List UInt8) (k : Nat) : Prop := prs l = acc.map (fun x => (x, true)) ++ prs (cur ++ l.drop k) ∧ ∀ x ∈ cur, x ≠ 10
theorem At.zero (l : List UInt8) : At l [] [] 0 := ⟨rfl, fun x h => (by cases h)⟩
theorem At.feed {l : List UInt8} {acc : List (List UInt8)} {cur : List UInt8} {k : Nat} (h : At l acc cur k) (hk : k < l.length) (hc : l[k] = 10) : At l (acc ++ [cur]) [] (k + 1) := by
  refine ⟨?_, fun x h => (by cases h)⟩
  rw [h.1, List.drop_eq_getElem_cons hk, hc, prs_feed h.2]; simp
theorem At.more {l : List UInt8} {acc : List (List UInt8)} {cur : List UInt8} {k : Nat} (h : At l acc cur k) (hk : k < l.length) (hc : l[k] ≠ 10) : At l acc (cur ++ [l[k]]) (k + 1) := by
  refine ⟨?_, fun x hx => ?_⟩
  · rw [h.1, List.drop_eq_getElem_cons hk]; simp
  · rcases List.mem_append.1 hx with hx | hx
    · exact h.2 x hx
    · simp at hx; subst hx; exact hc
theorem map_fst (acc : List (List UInt8)) : (acc.map (fun x => (x, true))).map (·.1) = acc := by
  induction acc with
  | nil => rfl
  | cons x r ih => simp only [List.map_cons, ih]
theorem At.done {l : List UInt8} {acc : List (List UInt8)} {k : Nat} (h : At l acc [] k) (hk : ¬ k < l.length) : ls l = acc ∧ eb l = true := by
  have e := h.1
  rw [List.drop_eq_nil_of_le (by omega), List.append_nil, prs_nil, List.append_nil] at e
  unfold ls eb
  rw [e]
  exact ⟨map_fst acc, by simp⟩
theorem At.left {l : List UInt8} {acc : List (List UInt8)} {cur : List UInt8} {k : Nat} (h : At l acc cur k) (hk : ¬ k < l.length) (h0 : cur ≠ []) : ls l = acc ++ [cur] ∧ eb l = false := by
  have e := h.1
  rw [List.drop_eq_nil_of_le (by omega), List.append_nil, prs_open h.2 h0] at e
  unfold ls eb
  rw [e]
  exact ⟨by rw [List.map_append, map_fst]; rfl, by simp⟩
end Tl
/-- The plain answer's lines in memory: those that are ended, and the open one behind them. -/
structure LS (w W : World) (v4 v5 : Value) (acc : List (List UInt8)) (cur : List UInt8) : Prop where
  at0 : ∃ W0, RR w.heap.size W0 v4 acc ∧ Below w.heap.size w W0 ∧ Below W0.heap.size W0 W ∧ By W0.heap.size W v5 cur
theorem LS.bel {w W : World} {v4 v5 : Value} {acc : List (List UInt8)} {cur : List UInt8} (h : LS w W v4 v5 acc cur) : Below w.heap.size w W := by
  obtain ⟨W0, h1, h2, h3, h4⟩ := h.at0
  exact h2.trans (h3.mono h2.size)
theorem LS.rr {w W : World} {v4 v5 : Value} {acc : List (List UInt8)} {cur : List UInt8} (h : LS w W v4 v5 acc cur) : RR w.heap.size W v4 acc := by
  obtain ⟨W0, h1, h2, h3, h4⟩ := h.at0
  exact h1.grow h3
theorem LS.line {w W : World} {v4 v5 : Value} {acc : List (List UInt8)} {cur : List UInt8} (h : LS w W v4 v5 acc cur) : By w.heap.size W v5 cur := by
  obtain ⟨W0, h1, h2, h3, h4⟩ := h.at0
  exact h4.mono h2.size
/-- A fresh line behind rows. -/
theorem LS.fresh {w W : World} {v4 : Value} {acc : List (List UInt8)} (h : RR w.heap.size W v4 acc) (b : Below w.heap.size w W) : LS w (W.alloc (.cells #[] 5)) v4 (.slice (some ⟨W.heap.size, 0, none⟩) 0 0) acc [] :=
  ⟨W, h, b, (Below.refl _ _).alloc (Nat.le_refl _) _, By.fresh W _ (Nat.le_refl _)⟩
/-- The line grows by a byte. -/
theorem LS.byte {w W W0 w' : World} {v4 v5 v' : Value} {acc : List (List UInt8)} {cur : List UInt8} {x : UInt8} (h1 : RR w.heap.size W0 v4 acc) (h2 : Below w.heap.size w W0) (h3 : Below W0.heap.size W0 W) (h4 : By W0.heap.size W v5 cur) (o : Obj) (hown : w'.ownsRow W0.heap.size 5 1 v' (cur.length + 1) (bCs cur ++ [.int .u8 x.toNat])) (hg : (W.alloc o).grownBy w' v5.ownBlock) : LS w w' v4 v' acc (cur ++ [x]) :=
  ⟨W0, h1, h2, (h3.alloc h3.size o).grown hg (Nat.le_trans h3.size (by simp)) (fun k hk => (h4.own.lt k hk).1), By.app1 hown⟩
set_option maxRecDepth 100000 in
set_option maxHeartbeats 4000000 in
theorem rLines (l : List UInt8) (a : Option Addr) (c : Nat) (hl : l.length ≤ 1048577) (w : World) (hS : Src w a l) : Calls Try.prog 8 #[.slice a l.length c] w fun e w' => ∃ v, e = .returned (.tuple #[v, .bool (Tl.eb l)]) ∧ RR w.heap.size w' v (Tl.ls l) ∧ Below w.heap.size w w' := by
  obtain ⟨iB, hiB, hb0, hb1, hb2⟩ := infoB
  obtain ⟨iR, hiR, hr0, hr1, hr2⟩ := infoRR
  have HS := hidA hS
  have HL0 := hidA (LS.fresh (RR.nil w.heap.size w) (Below.refl _ w))
  clear hS
  go_enter Try.func8, Try.ntmps8
  go_wp2
  go_loopw [4, 5, 6, 12] (fun s4 s5 s6 s12 W => ∃ (k : Nat) (acc : List (List UInt8)) (cur : List UInt8), s12 = .int .i64 k ∧ s6 = .bool (decide (cur ≠ [])) ∧ k ≤ l.length ∧ acc.length ≤ k ∧ cur.length ≤ k ∧ Hid (LS w W s4 s5 acc cur) ∧ Hid (Tl.At l acc cur k)) (fun _ _ _ s12 _ => l.length - (intOf s12).toNat)
  case atStart => exact ⟨0, [], [], rfl, rfl, Nat.zero_le _, Nat.le_refl _, Nat.le_refl _, HL0, hidA (Tl.At.zero l)⟩
  case round =>
    obtain ⟨k, acc, cur, rfl, rfl, hk, hac, hcu, HL, HA⟩ := hrel
    clear HL0
    obtain ⟨a4, c4, hv4⟩ := HL.out.rr.slice
    obtain ⟨a5, c5, hv5⟩ := HL.out.line.slice
    subst hv4 hv5
    have hB := hidA HL.out.bel
    have hwsz := hidA HL.out.bel.size
    by_cases hlt : k < l.length
    · obtain ⟨g, o, rfl, hg, hc0⟩ := HS.out k hlt
      have hc : wr.cell? ⟨g, o + k, none⟩ = some (.int .u8 l[k].toNat) := (hB.out.cell (p := ⟨g, o + k, none⟩) hg).trans hc0
      have hw1 : IntKind.i64.wrap ((k : Int) + 1) = ((k + 1 : Nat) : Int) := by rw [IntKind.wrap_i64]; omega
      have hgw : g < wr.heap.size := Nat.lt_of_lt_of_le hg hwsz.out
      by_cases h10 : l[k] = 10
      · have e1 := byte_yes _ 10 10 rfl h10
        have HA2 := hidA (HA.out.feed hlt h10)
        obtain ⟨vs, o1, o2, o3, o4⟩ := HL.out.rr
        have HO1 := hidA o1
        have HP := hidA (fun (v' : Value) (w' : World) (ob : Obj) hown hg => RR.push (v' := v') (w' := w') (u := .slice a5 cur.length c5) o1 o2 o3 o4 (Sq.of_by HL.out.line) rfl ob hown hg)
        clear HA HS hc0 h10 o1 o2 o3 o4
        generalize l[k] = x at *
        have hal : (acc ++ [cur]).length ≤ k + 1 := by simp; omega
        go_wp2_with (at_builtin; refine wpList_append_own_at _ rfl _ _ 23 rfl w.heap.size 22 iR (.slice none 0 0) 1 24 Try.underlying23 hiR hr0 hr1 hr2 rfl (by decide) _ _ _ rfl (HO1.out.alloc _) ⟨wr.heap.size, 0, none⟩ 1 1 [.slice a5 cur.length c5] rfl rfl (cell_one_new _ _ _) (by intro u hu; simp at hu; subst hu; rfl) (by unfold maxLen; omega) (by omega) (by have := hwsz.out; simp; omega) ?_; intro v' w2 hown hg2 _ hat; have HR2 := hidA (HP.out v' w2 _ hown hg2); have HB2 : Hid (Below w.heap.size w w2) := (hB.out.alloc hwsz.out _).grown hg2 (by have := hwsz.out; simp; omega) (fun k hk => (HO1.out.lt k hk).1); clear hown hg2 hat)
        exact ⟨⟨k + 1, acc ++ [cur], [], by first | rfl | go_num, rfl, hlt, hal, by simp, hidA (LS.fresh HR2.out HB2.out), HA2⟩, by simp [intOf]; omega⟩
      · have e1 := byte_no _ 10 10 rfl h10
        have HA2 := hidA (HA.out.more hlt h10)
        clear HA HS hc0 h10
        generalize l[k] = x at *
        obtain ⟨W0, q1, q2, q3, q4⟩ := HL.out.at0
        have HO5 := hidA q4.own
        have Hq3 := hidA q3.size
        have HP := hidA (fun (v' : Value) (w' : World) (ob : Obj) hown hg => LS.byte (x := x) (w' := w') (v' := v') q1 q2 q3 q4 ob hown hg)
        have hdec : decide (cur ++ [x] ≠ []) = true := by simp
        have hcl : (cur ++ [x]).length ≤ k + 1 := by simp; omega
        clear HL q1 q2 q3 q4
        go_wp2_with (at_builtin; refine wpList_append_own_at _ rfl _ _ 22 rfl W0.heap.size 5 iB (.int .u8 0) 1 1 Try.underlying22 hiB hb0 hb1 hb2 rfl (by decide) _ _ _ rfl (HO5.out.alloc _) ⟨wr.heap.size, 0, none⟩ 1 1 [.int .u8 x.toNat] rfl rfl (cell_one_new _ _ _) (one_u8 _) (by unfold maxLen; omega) (by omega) (by have := Hq3.out; simp; omega) ?_; intro v' w2 hown hg2 _ hat; have HL2 := hidA (HP.out v' w2 _ hown hg2); clear hown hg2 hat)
        exact ⟨⟨k + 1, acc, cur ++ [x], by first | rfl | go_num, by rw [hdec], hlt, by omega, hcl, HL2, HA2⟩, by simp [intOf]; omega⟩
    · by_cases h0 : cur = []
      · subst h0
        have HD := hidA (HA.out.done hlt)
        have HR := hidA HL.out.rr
        clear HA HS HL
        go_wp2_with fail
        go_ret2
        exact ⟨_, by rw [HD.out.2]; rfl, by rw [HD.out.1]; exact HR.out, hB.out⟩
      · have HD := hidA (HA.out.left hlt h0)
        have hdec : decide (cur ≠ []) = true := decide_eq_true h0
        obtain ⟨vs, o1, o2, o3, o4⟩ := HL.out.rr
        have HO1 := hidA o1
        have HP := hidA (fun (v' : Value) (w' : World) (ob : Obj) hown hg => RR.push (v' := v') (w' := w') (u := .slice a5 cur.length c5) o1 o2 o3 o4 (Sq.of_by HL.out.line) rfl ob hown hg)
        rw [hdec]
        clear HA HS HL h0 o1 o2 o3 o4 hdec
        go_wp2_with (at_builtin; refine wpList_append_own_at _ rfl _ _ 23 rfl w.heap.size 22 iR (.slice none 0 0) 1 24 Try.underlying23 hiR hr0 hr1 hr2 rfl (by decide) _ _ _ rfl (HO1.out.alloc _) ⟨wr.heap.size, 0, none⟩ 1 1 [.slice a5 cur.length c5] rfl rfl (cell_one_new _ _ _) (by intro u hu; simp at hu; subst hu; rfl) (by unfold maxLen; omega) (by omega) (by have := hwsz.out; simp; omega) ?_; intro v' w2 hown hg2 _ hat; have HR2 := hidA (HP.out v' w2 _ hown hg2); have HB2 : Hid (Below w.heap.size w w2) := (hB.out.alloc hwsz.out _).grown hg2 (by have := hwsz.out; simp; omega) (fun k hk => (HO1.out.lt k hk).1); clear hown hg2 hat)
        go_ret2
        exact ⟨_, by rw [HD.out.2]; rfl, by rw [HD.out.1]; exact HR2.out, HB2.out⟩
end Go.Proofs.Ytplnojohlbbalaa
/- The plain answer's joined and pieces. Condition: lengths that fit. -/
namespace Go.Proofs.Ytplnojohlbbalaa
open Go.RowKit
attribute [local go_sem] ext_eq app_eq get_eq
namespace Tl
theorem prs_ended (n : Nat) : ∀ l : List UInt8, l.length ≤ n → ∀ i (h : i < (prs l).length), ((prs l)[i]).2 = (decide (i + 1 < (prs l).length) || eb l) := by
  induction n with
  | zero =>
    intro l h i hi
    have : l = [] := List.length_eq_zero_iff.1 (by omega)
    subst this; simp [prs_nil] at hi
  | succ n ih =>
    intro l h i hi
    by_cases h0 : l = []
    · subst h0; simp [prs_nil] at hi
    · by_cases hf : fx l < l.length
      · have e := prs_yes hf
        have ihr := ih (l.drop (fx l + 1)) (by rw [List.length_drop]; omega)
        have eE : eb l = eb (l.drop (fx l + 1)) := by unfold eb; rw [e]; simp
        rw [eE]
        cases i with
        | zero =>
          simp only [e, List.getElem_cons_zero, List.length_cons]
          cases hp : prs (l.drop (fx l + 1)) with
          | nil => simp [eb, hp]
          | cons x r => simp
        | succ i =>
          have hi' : i < (prs (l.drop (fx l + 1))).length := by rw [e, List.length_cons] at hi; omega
          have := ihr i hi'
          simp only [e, List.getElem_cons_succ, List.length_cons]
          rw [this]
          congr 1
          simp
      · have e := prs_no hf h0
        have hi0 : i = 0 := by rw [e] at hi; simp at hi; omega
        subst hi0
        unfold eb
        simp [e]
end Tl
/-- Rows of bytes that are read, told one behind the other. -/
def Rd (W : World) (a : Option Addr) (X : List (List UInt8)) : Prop := ∀ i (h : i < X.length), ∃ g o a' c', a = some ⟨g, o, none⟩ ∧ g < W.heap.size ∧ W.cell? ⟨g, o + i, none⟩ = some (.slice a' X[i].length c') ∧ Sr W a' c' X[i]
theorem Rd.grow {W W' : World} {a : Option Addr} {X : List (List UInt8)} (h : Rd W a X) (b : Below W.heap.size W W') : Rd W' a X := fun i hi => by
  obtain ⟨g, o, a', c', e, hg, hc, hs⟩ := h i hi
  exact ⟨g, o, a', c', e, Nat.lt_of_lt_of_le hg b.size, (b.cell (p := ⟨g, o + i, none⟩) hg).trans hc, hs.grow b⟩
theorem RR.rd {B : Nat} {W : World} {a : Option Addr} {n c : Nat} {X : List (List UInt8)} (h : RR B W (.slice a n c) X) : Rd W a X ∧ n = X.length ∧ n ≤ c ∧ (a = none → c = 0) := by
  obtain ⟨vs, h1, h2, h3, h4⟩ := h
  rcases h1.2 with ⟨e, h0⟩ | ⟨g, cap, cur, e, hb, hg, hnc, hcm, hsz, ht⟩
  · injection e with e1 e2 e3
    exact ⟨fun i hi => (by omega), by omega, by omega, fun _ => e3⟩
  · injection e with e1 e2 e3
    subst e1 e3
    refine ⟨fun i hi => ?_, by omega, by omega, fun e => by cases e⟩
    obtain ⟨a', c', ev, hs, _⟩ := (h4 i hi).sr
    refine ⟨g, 0, a', c', rfl, heap_lt hg, ?_, hs⟩
    have := h1.cells (g := g) (by rfl) i (vs[i]'(by omega)) (by simp [h2, hi])
    rw [show (⟨g, 0 + i, none⟩ : Addr) = (⟨g, 0, none⟩ : Addr).add i by simp [Addr.add], ← ev]; exact this
theorem Rd.pre {W : World} {a : Option Addr} {X : List (List UInt8)} (h : Rd W a X) (k : Nat) : Rd W a (X.take k) := fun i hi => by
  rw [List.length_take] at hi
  obtain ⟨g, o, a', c', e, hg, hc, hs⟩ := h i (by omega)
  exact ⟨g, o, a', c', e, hg, by rw [hc]; simp, by rw [List.getElem_take]; exact hs⟩
theorem Rd.suf {W : World} {a : Option Addr} {X : List (List UInt8)} {c : Nat} (h : Rd W a X) (hc : X.length ≤ c) (k : Nat) : Rd W (if c = k then a else a.map (·.add (k * 1))) (X.drop k) := fun i hi => by
  rw [List.length_drop] at hi
  obtain ⟨g, o, a', c', e, hg, hcell, hs⟩ := h (k + i) (by omega)
  rw [if_neg (by omega)]
  refine ⟨g, o + k, a', c', by rw [e]; simp [Addr.add], hg, ?_, by rw [List.getElem_drop]; exact hs⟩
  rw [show o + k + i = o + (k + i) by omega, hcell]; simp
theorem joined_take {X : List (List UInt8)} {k : Nat} (h : k < X.length) : (X.take (k + 1)).flatten = (X.take k).flatten ++ X[k] := by
  rw [List.take_succ_eq_append_getElem h, List.flatten_append]; simp
theorem flat_le {X : List (List UInt8)} {n : Nat} (h : X.flatten.length ≤ n) (k : Nat) : (X.take k).flatten.length ≤ n := by
  have e : X.flatten = (X.take k).flatten ++ (X.drop k).flatten := by rw [← List.flatten_append, List.take_append_drop]
  rw [e, List.length_append] at h; omega
end Go.Proofs.Ytplnojohlbbalaa
/- HeadBytes and TailBytes of both sides. Condition: lengths that fit. -/
namespace Go.Proofs.Ytplnojohlbbalaa
open Go.RowKit
attribute [local go_sem] ext_eq app_eq get_eq
end Go.Proofs.Ytplnojohlbbalaa
/- The plain answer's pieces. Condition: a length that fits. -/
namespace Go.Proofs.Ytplnojohlbbalaa
open Go.RowKit
attribute [local go_sem] ext_eq app_eq get_eq
theorem RR.pushg {B : Nat} {W0 W w' : World} {v v' u : Value} {X : List (List UInt8)} {x : List UInt8} {vs : List Value} (b : Below W0.heap.size W0 W) (h1 : W0.ownsRow B 22 1 v X.length vs) (h2 : vs.length = X.length) (h3 : ∀ u ∈ vs, u.oneCell' = true) (h4 : ∀ i (h : i < X.length), Sq B W0 (vs[i]'(by omega)) X[i]) (hx : Sq B W u x) (hu : u.oneCell' = true) (o : Obj) (hown : w'.ownsRow B 22 1 v' (X.length + 1) (vs ++ [u])) (hg : (W.alloc o).grownBy w' v.ownBlock) : RR B w' v' (X ++ [x]) :=
  RR.push (own_grow h1 b) h2 h3 (fun i h => (h4 i h).grow b) hx hu o hown hg
theorem cell_one_at (w : World) (x : Value) (t : TypeId) (g : Nat) (hg : w.heap.size = g) : ∀ j u, [x][j]? = some u → (w.alloc (.cells #[x] t)).cell? ((⟨g, 0, none⟩ : Addr).add j) = some u := by
  subst hg; exact cell_one_new w x t
namespace Tl
def ps (l : List UInt8) : List (List UInt8) := (prs l).map pc
theorem ps_len (l : List UInt8) : (ps l).length = (ls l).length := by simp [ps, ls]
theorem ls_le (l : List UInt8) : (ls l).length ≤ l.length := by simp only [ls, List.length_map]; exact prs_len l.length l (Nat.le_refl _)
theorem flat_each : ∀ {X : List (List UInt8)} {k : Nat} (h : k < X.length), X[k].length ≤ X.flatten.length
  | x :: r, 0, _ => by simp
  | x :: r, k + 1, h => by
    have := flat_each (X := r) (k := k) (by simpa using h)
    simp at this ⊢; omega
theorem ls_each (l : List UInt8) (hl : l.length ≤ 1048577) : ∀ k (h : k < (ls l).length), (ls l)[k].length ≤ 1048577 := fun k h => by
  have hp : k < (prs l).length := by simpa [ls] using h
  have h2 := flat_each (X := (prs l).map pc) (k := k) (by simpa using hp)
  rw [flat_all] at h2
  simp only [ls, List.getElem_map, pc, List.length_append] at h2 ⊢
  omega
theorem ps_take (l : List UInt8) (k : Nat) (h : k < (ls l).length) : (ps l).take (k + 1) = (ps l).take k ++ [(ls l)[k] ++ if (decide (k + 1 < (ls l).length) || eb l) then [10] else []] := by
  have hp : k < (prs l).length := by simpa [ls] using h
  have e := prs_ended l.length l (Nat.le_refl _) k hp
  rw [List.take_succ_eq_append_getElem (by rw [ps_len]; exact h)]
  congr 1
  simp only [ps, ls, List.getElem_map, List.length_map, pc, ← e]
end Tl
end Go.Proofs.Ytplnojohlbbalaa
/- Head and Tail of the plain answer. Condition: a length that fits. -/
namespace Go.Proofs.Ytplnojohlbbalaa
open Go.RowKit
attribute [local go_sem] ext_eq app_eq get_eq
theorem htRR : Try.prog.underlying 23 = some (.slice (Try.prog.elem 23)) := by kernel_rfl
theorem szRR (W : World) : (sizeOf (Try.prog.elem 23)).run Try.prog W = .ok 1 W := by
  have e : Try.prog.elem 23 = 22 := by kernel_rfl
  rw [e]
  simp [sizeOf, go_sem]
  rfl
theorem rr_to (a : Option Addr) {n c k : Nat} (hk : k ≤ n) (hc : n ≤ c) (W : World) : (Instr.slice 23 (.slice a n c) none (some (.int .i64 k)) none).run Try.prog W = .ok (.slice a k c) W := by
  rw [run_slice_h (P := Try.prog) (w := W) 23 a n c htRR .i64 k (by omega) (by omega), szRR]
  cases a <;> simp [Result.andThen, sliced, Addr.add]
theorem rr_from (a : Option Addr) {n c i : Nat} (hi : i ≤ n) (_ : n ≤ c) (W : World) : (Instr.slice 23 (.slice a n c) (some (.int .i64 i)) none none).run Try.prog W = .ok (.slice (if c = i then a else a.map (·.add (i * 1))) (n - i) (c - i)) W := by
  rw [run_slice_l (P := Try.prog) (w := W) 23 a n c htRR .i64 i (by omega) (by omega), szRR]
  simp [Result.andThen, sliced]
theorem Tl.ps_flat (l : List UInt8) : (Tl.ps l).flatten = l := Tl.flat_all l
end Go.Proofs.Ytplnojohlbbalaa
