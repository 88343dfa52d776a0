/- Several texts of this claim, one behind the other, in their order. -/
import Derived.Test.YtplnojohlbbalaaUf1
/- The plain answer's Lines, told of rows of one's own. Condition: lengths that fit. -/
namespace Go.Proofs.Ytplnojohlbbalaa
open Go.RowKit
attribute [local go_sem] ext_eq app_eq get_eq
/-- A row of one's own of rows of bytes of one's own. -/
def RB (B : Nat) (W : World) (v : Value) (X : List (List UInt8)) : Prop := ∃ vs : List Value, W.ownsRow B 22 1 v X.length vs ∧ ∃ hl : vs.length = X.length, (∀ u ∈ vs, u.oneCell' = true) ∧ ∀ i (h : i < X.length), By B W (vs[i]'(by omega)) X[i]
theorem RB.nil (B : Nat) (W : World) : RB B W (.slice none 0 0) [] := ⟨[], World.ownsRow_nil _ _ _ _, rfl, fun u h => (by cases h), fun i h => (by simp at h)⟩
theorem RB.grow {B : Nat} {W W' : World} {v : Value} {X : List (List UInt8)} (h : RB B W v X) (b : Below W.heap.size W W') : RB B W' v X := by
  obtain ⟨vs, h1, h2, h3, h4⟩ := h
  exact ⟨vs, own_grow h1 b, h2, h3, fun i hi => (h4 i hi).grow b⟩
theorem RB.slice {B : Nat} {W : World} {v : Value} {X : List (List UInt8)} (h : RB B W v X) : ∃ a c, v = .slice a X.length c := by
  obtain ⟨vs, h1, _⟩ := h
  exact own_slice h1
theorem By.otherR {B B2 n : Nat} {W w' : World} {v r : Value} {x : List UInt8} {vs : List Value} (h : By B W v x) (hg : W.grownBy w' r.ownBlock) (hr : W.ownsRow B2 22 1 r n vs) : By B w' v x := by
  refine h.on (fun g c hc => hg.block g (heap_lt hc) (fun e => ?_))
  obtain ⟨c2, f2, h2⟩ := own_kind hr g e.symm
  exact absurd rfl (heap_ne hc h2 (by decide))
theorem RB.push {B : Nat} {W w' : World} {v v' u : Value} {X : List (List UInt8)} {x : List UInt8} {vs : List Value} (h1 : W.ownsRow B 22 1 v X.length vs) (h2 : vs.length = X.length) (h3 : ∀ u ∈ vs, u.oneCell' = true) (h4 : ∀ i (h : i < X.length), By B W (vs[i]'(by omega)) X[i]) (hx : By B W u x) (hu : u.oneCell' = true) (o : Obj) (hown : w'.ownsRow B 22 1 v' (X.length + 1) (vs ++ [u])) (hg : (W.alloc o).grownBy w' v.ownBlock) : RB B w' v' (X ++ [x]) := by
  have hB := (Below.refl W.heap.size W).alloc (Nat.le_refl _) o
  have ho := own_grow h1 hB
  refine ⟨vs ++ [u], by rw [List.length_append]; exact hown, by simp [h2], fun y hy => ?_, fun i hi => ?_⟩
  · rcases List.mem_append.1 hy with hy | hy
    · exact h3 y hy
    · simp at hy; subst hy; exact hu
  · by_cases hlt : i < X.length
    · rw [List.getElem_append_left (by omega), List.getElem_append_left hlt]
      exact ((h4 i hlt).grow hB).otherR hg ho
    · have e : i = X.length := by simp at hi; omega
      subst e
      have e1 : (vs ++ [u])[X.length]'(by simp; omega) = u := by
        rw [List.getElem_append_right (by omega)]; simp [h2]
      have e2 : (X ++ [x])[X.length]'(by simp) = x := by simp
      rw [e1, e2]
      exact (hx.grow hB).otherR hg ho
/-- The plain answer's lines in memory: those that are ended, and the open one behind them. -/
structure LSB (w W : World) (v4 v5 : Value) (acc : List (List UInt8)) (cur : List UInt8) : Prop where
  at0 : ∃ W0, RB w.heap.size W0 v4 acc ∧ Below w.heap.size w W0 ∧ Below W0.heap.size W0 W ∧ By W0.heap.size W v5 cur
theorem LSB.bel {w W : World} {v4 v5 : Value} {acc : List (List UInt8)} {cur : List UInt8} (h : LSB w W v4 v5 acc cur) : Below w.heap.size w W := by
  obtain ⟨W0, h1, h2, h3, h4⟩ := h.at0
  exact h2.trans (h3.mono h2.size)
theorem LSB.rr {w W : World} {v4 v5 : Value} {acc : List (List UInt8)} {cur : List UInt8} (h : LSB w W v4 v5 acc cur) : RB w.heap.size W v4 acc := by
  obtain ⟨W0, h1, h2, h3, h4⟩ := h.at0
  exact h1.grow h3
theorem LSB.line {w W : World} {v4 v5 : Value} {acc : List (List UInt8)} {cur : List UInt8} (h : LSB w W v4 v5 acc cur) : By w.heap.size W v5 cur := by
  obtain ⟨W0, h1, h2, h3, h4⟩ := h.at0
  exact h4.mono h2.size
/-- A fresh line behind rows. -/
theorem LSB.fresh {w W : World} {v4 : Value} {acc : List (List UInt8)} (h : RB w.heap.size W v4 acc) (b : Below w.heap.size w W) : LSB w (W.alloc (.cells #[] 5)) v4 (.slice (some ⟨W.heap.size, 0, none⟩) 0 0) acc [] :=
  ⟨W, h, b, (Below.refl _ _).alloc (Nat.le_refl _) _, By.fresh W _ (Nat.le_refl _)⟩
/-- The line grows by a byte. -/
theorem LSB.byte {w W W0 w' : World} {v4 v5 v' : Value} {acc : List (List UInt8)} {cur : List UInt8} {x : UInt8} (h1 : RB w.heap.size W0 v4 acc) (h2 : Below w.heap.size w W0) (h3 : Below W0.heap.size W0 W) (h4 : By W0.heap.size W v5 cur) (o : Obj) (hown : w'.ownsRow W0.heap.size 5 1 v' (cur.length + 1) (bCs cur ++ [.int .u8 x.toNat])) (hg : (W.alloc o).grownBy w' v5.ownBlock) : LSB w w' v4 v' acc (cur ++ [x]) :=
  ⟨W0, h1, h2, (h3.alloc h3.size o).grown hg (Nat.le_trans h3.size (by simp)) (fun k hk => (h4.own.lt k hk).1), By.app1 hown⟩
set_option maxRecDepth 100000 in
set_option maxHeartbeats 4000000 in
theorem rLinesB (l : List UInt8) (a : Option Addr) (c : Nat) (hl : l.length ≤ 1048577) (w : World) (hS : Src w a l) : Calls Try.prog 8 #[.slice a l.length c] w fun e w' => ∃ v, e = .returned (.tuple #[v, .bool (Tl.eb l)]) ∧ RB w.heap.size w' v (Tl.ls l) ∧ Below w.heap.size w w' := by
  obtain ⟨iB, hiB, hb0, hb1, hb2⟩ := infoB
  obtain ⟨iR, hiR, hr0, hr1, hr2⟩ := infoRR
  have HS := hidA hS
  have HL0 := hidA (LSB.fresh (RB.nil w.heap.size w) (Below.refl _ w))
  clear hS
  go_enter Try.func8, Try.ntmps8
  go_wp2
  go_loopw [4, 5, 6, 12] (fun s4 s5 s6 s12 W => ∃ (k : Nat) (acc : List (List UInt8)) (cur : List UInt8), s12 = .int .i64 k ∧ s6 = .bool (decide (cur ≠ [])) ∧ k ≤ l.length ∧ acc.length ≤ k ∧ cur.length ≤ k ∧ Hid (LSB w W s4 s5 acc cur) ∧ Hid (Tl.At l acc cur k)) (fun _ _ _ s12 _ => l.length - (intOf s12).toNat)
  case atStart => exact ⟨0, [], [], rfl, rfl, Nat.zero_le _, Nat.le_refl _, Nat.le_refl _, HL0, hidA (Tl.At.zero l)⟩
  case round =>
    obtain ⟨k, acc, cur, rfl, rfl, hk, hac, hcu, HL, HA⟩ := hrel
    clear HL0
    obtain ⟨a4, c4, hv4⟩ := HL.out.rr.slice
    obtain ⟨a5, c5, hv5⟩ := HL.out.line.slice
    subst hv4 hv5
    have hB := hidA HL.out.bel
    have hwsz := hidA HL.out.bel.size
    by_cases hlt : k < l.length
    · obtain ⟨g, o, rfl, hg, hc0⟩ := HS.out k hlt
      have hc : wr.cell? ⟨g, o + k, none⟩ = some (.int .u8 l[k].toNat) := (hB.out.cell (p := ⟨g, o + k, none⟩) hg).trans hc0
      have hw1 : IntKind.i64.wrap ((k : Int) + 1) = ((k + 1 : Nat) : Int) := by rw [IntKind.wrap_i64]; omega
      have hgw : g < wr.heap.size := Nat.lt_of_lt_of_le hg hwsz.out
      by_cases h10 : l[k] = 10
      · have e1 := byte_yes _ 10 10 rfl h10
        have HA2 := hidA (HA.out.feed hlt h10)
        obtain ⟨vs, o1, o2, o3, o4⟩ := HL.out.rr
        have HO1 := hidA o1
        have HP := hidA (fun (v' : Value) (w' : World) (ob : Obj) hown hg => RB.push (v' := v') (w' := w') (u := .slice a5 cur.length c5) o1 o2 o3 o4 HL.out.line rfl ob hown hg)
        clear HA HS hc0 h10 o1 o2 o3 o4
        generalize l[k] = x at *
        have hal : (acc ++ [cur]).length ≤ k + 1 := by simp; omega
        go_wp2_with (at_builtin; refine wpList_append_own_at _ rfl _ _ 23 rfl w.heap.size 22 iR (.slice none 0 0) 1 24 Try.underlying23 hiR hr0 hr1 hr2 rfl (by decide) _ _ _ rfl (HO1.out.alloc _) ⟨wr.heap.size, 0, none⟩ 1 1 [.slice a5 cur.length c5] rfl rfl (cell_one_new _ _ _) (by intro u hu; simp at hu; subst hu; rfl) (by unfold maxLen; omega) (by omega) (by have := hwsz.out; simp; omega) ?_; intro v' w2 hown hg2 _ hat; have HR2 := hidA (HP.out v' w2 _ hown hg2); have HB2 : Hid (Below w.heap.size w w2) := (hB.out.alloc hwsz.out _).grown hg2 (by have := hwsz.out; simp; omega) (fun k hk => (HO1.out.lt k hk).1); clear hown hg2 hat)
        exact ⟨⟨k + 1, acc ++ [cur], [], by first | rfl | go_num, rfl, hlt, hal, by simp, hidA (LSB.fresh HR2.out HB2.out), HA2⟩, by simp [intOf]; omega⟩
      · have e1 := byte_no _ 10 10 rfl h10
        have HA2 := hidA (HA.out.more hlt h10)
        clear HA HS hc0 h10
        generalize l[k] = x at *
        obtain ⟨W0, q1, q2, q3, q4⟩ := HL.out.at0
        have HO5 := hidA q4.own
        have Hq3 := hidA q3.size
        have HP := hidA (fun (v' : Value) (w' : World) (ob : Obj) hown hg => LSB.byte (x := x) (w' := w') (v' := v') q1 q2 q3 q4 ob hown hg)
        have hdec : decide (cur ++ [x] ≠ []) = true := by simp
        have hcl : (cur ++ [x]).length ≤ k + 1 := by simp; omega
        clear HL q1 q2 q3 q4
        go_wp2_with (at_builtin; refine wpList_append_own_at _ rfl _ _ 22 rfl W0.heap.size 5 iB (.int .u8 0) 1 1 Try.underlying22 hiB hb0 hb1 hb2 rfl (by decide) _ _ _ rfl (HO5.out.alloc _) ⟨wr.heap.size, 0, none⟩ 1 1 [.int .u8 x.toNat] rfl rfl (cell_one_new _ _ _) (one_u8 _) (by unfold maxLen; omega) (by omega) (by have := Hq3.out; simp; omega) ?_; intro v' w2 hown hg2 _ hat; have HL2 := hidA (HP.out v' w2 _ hown hg2); clear hown hg2 hat)
        exact ⟨⟨k + 1, acc, cur ++ [x], by first | rfl | go_num, by rw [hdec], hlt, by omega, hcl, HL2, HA2⟩, by simp [intOf]; omega⟩
    · by_cases h0 : cur = []
      · subst h0
        have HD := hidA (HA.out.done hlt)
        have HR := hidA HL.out.rr
        clear HA HS HL
        go_wp2_with fail
        go_ret2
        exact ⟨_, by rw [HD.out.2]; rfl, by rw [HD.out.1]; exact HR.out, hB.out⟩
      · have HD := hidA (HA.out.left hlt h0)
        have hdec : decide (cur ≠ []) = true := decide_eq_true h0
        obtain ⟨vs, o1, o2, o3, o4⟩ := HL.out.rr
        have HO1 := hidA o1
        have HP := hidA (fun (v' : Value) (w' : World) (ob : Obj) hown hg => RB.push (v' := v') (w' := w') (u := .slice a5 cur.length c5) o1 o2 o3 o4 HL.out.line rfl ob hown hg)
        rw [hdec]
        clear HA HS HL h0 o1 o2 o3 o4 hdec
        go_wp2_with (at_builtin; refine wpList_append_own_at _ rfl _ _ 23 rfl w.heap.size 22 iR (.slice none 0 0) 1 24 Try.underlying23 hiR hr0 hr1 hr2 rfl (by decide) _ _ _ rfl (HO1.out.alloc _) ⟨wr.heap.size, 0, none⟩ 1 1 [.slice a5 cur.length c5] rfl rfl (cell_one_new _ _ _) (by intro u hu; simp at hu; subst hu; rfl) (by unfold maxLen; omega) (by omega) (by have := hwsz.out; simp; omega) ?_; intro v' w2 hown hg2 _ hat; have HR2 := hidA (HP.out v' w2 _ hown hg2); have HB2 : Hid (Below w.heap.size w w2) := (hB.out.alloc hwsz.out _).grown hg2 (by have := hwsz.out; simp; omega) (fun k hk => (HO1.out.lt k hk).1); clear hown hg2 hat)
        go_ret2
        exact ⟨_, by rw [HD.out.2]; rfl, by rw [HD.out.1]; exact HR2.out, HB2.out⟩
end Go.Proofs.Ytplnojohlbbalaa
/- Serial of both sides. Condition: lengths that fit. -/
namespace Go.Proofs.Ytplnojohlbbalaa
open Go.RowKit
attribute [local go_sem] ext_eq app_eq get_eq
namespace Tl
theorem fst_flat : ∀ P : List (List UInt8 × Bool), (P.map (·.1)).flatten.length ≤ (P.map pc).flatten.length
  | [] => by simp
  | x :: r => by
    have ih := fst_flat r
    simp only [List.map_cons, List.flatten_cons, List.length_append, pc]
    omega
theorem ls_flat (l : List UInt8) : (ls l).flatten.length ≤ l.length := by
  have h := fst_flat (prs l)
  rw [flat_all] at h
  exact h
theorem lnj_len (d l : List UInt8) : (lnj d (ls l)).length ≤ 2 * l.length + 1 := by
  have h1 := jn_len d (ls l) 0
  have h2 := ls_flat l
  have h3 := ls_len l
  unfold lnj
  rw [List.length_append]
  simp only [List.length_cons, List.length_nil]
  omega
/-- What Serial has behind k texts. -/
def ser (d : List UInt8) (L : List (List UInt8)) (k : Nat) : List UInt8 := ((L.take k).map fun b => lnj d (ls b)).flatten
theorem ser_zero (d : List UInt8) (L : List (List UInt8)) : ser d L 0 = [] := by simp [ser]
theorem ser_succ {d : List UInt8} {L : List (List UInt8)} {k : Nat} (h : k < L.length) : ser d L (k + 1) = ser d L k ++ lnj d (ls L[k]) := by
  unfold ser
  rw [List.take_succ_eq_append_getElem h, List.map_append, List.flatten_append]; simp
theorem ser_len (d : List UInt8) (L : List (List UInt8)) (n : Nat) (hn : L.flatten.length + L.length ≤ n) (k : Nat) : (ser d L k).length ≤ 2 * n := by
  have key : ∀ M : List (List UInt8), ((M.map fun b => lnj d (ls b)).flatten).length ≤ 2 * (M.flatten.length + M.length) := by
    intro M
    induction M with
    | nil => simp
    | cons x r ih =>
      have := lnj_len d x
      simp only [List.map_cons, List.flatten_cons, List.length_append, List.length_cons]
      omega
  have h1 := key (L.take k)
  have h2 : L.flatten = (L.take k).flatten ++ (L.drop k).flatten := by rw [← List.flatten_append, List.take_append_drop]
  have h3 : L.flatten.length = (L.take k).flatten.length + (L.drop k).flatten.length := by rw [h2, List.length_append]
  have h4 : (L.take k).length ≤ L.length := by rw [List.length_take]; omega
  unfold ser
  omega
end Tl
set_option maxRecDepth 100000 in
set_option maxHeartbeats 4000000 in
theorem oSerial (L : List (List UInt8)) (d : List UInt8) (a : Option Addr) (c : Nat) (hL : L.flatten.length + L.length ≤ 1048577) (hd : d.length ≤ 1048577) (w : World) (hR : Rd w a L) : Calls Try.prog 17 #[.slice a L.length c, .string ⟨d.toArray⟩] w fun e w' => ∃ v, e = .returned v ∧ By w.heap.size w' v (Tl.ser d L L.length) ∧ Below w.heap.size w w' := by
  have HR := hidA hR
  have HL := hidA (Tl.ser_len d L 1048577 hL)
  have HO0 := hidA (show By w.heap.size w (.slice none 0 0) (Tl.ser d L 0) by rw [Tl.ser_zero]; exact By.nil _ _)
  clear hR
  go_enter Try.func17, Try.ntmps17
  go_upto_region 3 with fail
  go_loopw [5, 10] (fun s5 s10 W => ∃ (k : Nat), s10 = .int .i64 k ∧ k ≤ L.length ∧ Hid (By w.heap.size W s5 (Tl.ser d L k)) ∧ Hid (Below w.heap.size w W)) (fun _ s10 _ => L.length - (intOf s10).toNat)
  case atStart => exact ⟨0, rfl, Nat.zero_le _, HO0, hidA (Below.refl _ _)⟩
  case round =>
    obtain ⟨k, rfl, hk, HO, HB⟩ := hrel
    clear HO0
    by_cases hlt : k < L.length
    · obtain ⟨g, o, a', c', rfl, hg, hc0, hs⟩ := HR.out k hlt
      have hc : wr.cell? ⟨g, o + k, none⟩ = some (.slice a' L[k].length c') := (HB.out.cell (p := ⟨g, o + k, none⟩) hg).trans hc0
      have hgw : g < wr.heap.size := Nat.lt_of_lt_of_le hg HB.out.size
      have hw1 : IntKind.i64.wrap ((k : Int) + 1) = ((k + 1 : Nat) : Int) := by rw [IntKind.wrap_i64]; omega
      have hbl : L[k].length ≤ 1048577 := by have := Tl.flat_each (X := L) hlt; omega
      have HT := hidA (oTextsT L[k] a' c' hbl w wr hs HB.out)
      have hsu := Tl.ser_succ (d := d) hlt
      have hl1 := HL.out (k + 1)
      rw [hsu, List.length_append] at hl1
      have HSu := hidA hsu
      have hyl := Tl.ls_len L[k]
      have HJ := hidA (fun (W : World) (v : Value) (aT : Option Addr) (cT : Nat) (b : Below w.heap.size w W) (h1 : By w.heap.size W v (Tl.ser d L k)) (h2 : Rk w W aT (Tl.ls L[k])) => oJoinedP d (Tl.ser d L k) (Tl.ls L[k]) v aT cT w.heap.size (by omega) hd (by omega) w W b h1 h2 (Nat.le_refl _) b.size)
      clear hc0 hs HR hsu
      generalize Tl.lnj d (Tl.ls L[k]) = z at *
      generalize Tl.ls L[k] = Y at *
      generalize L[k] = x at *
      generalize Tl.ser d L k = P at *
      go_wp2_with (first
        | (go_at_call 21; (with_reducible refine HT.out.mono ?_); rintro e w2 ⟨v, rfl, h1, b1⟩; obtain ⟨aT, cT, hv⟩ := h1.slice; subst hv; have HK := hidA h1.rk; have HO2 := hidA (HO.out.grow b1); have HB2 := hidA (HB.out.trans (b1.mono HB.out.size)); clear h1 b1)
        | (go_at_call 29; (with_reducible refine (HJ.out _ _ _ _ HB2.out HO2.out HK.out).mono ?_); rintro e w3 ⟨v', rfl, h1, _, _, b1⟩; have HO3 := hidA h1; have HB3 := hidA (HB2.out.trans b1); clear h1 b1))
      exact ⟨⟨k + 1, by first | rfl | go_num, hlt, by rw [HSu.out]; exact HO3, HB3⟩, by simp [intOf]; omega⟩
    · have EK : Hid (k = L.length) := by show _ = _; omega
      go_wp2_with fail
      go_ret
      exact ⟨_, rfl, by rw [← EK.out]; exact HO.out, HB.out⟩
/-- Lines that are read, which lie in blocks from lo up to hi. -/
def Ri (lo hi : Nat) (w3 : World) (a : Option Addr) (X : List (List UInt8)) : Prop := ∀ i (h : i < X.length), ∃ g a' c', a = some ⟨g, 0, none⟩ ∧ lo ≤ g ∧ g < hi ∧ w3.cell? ⟨g, i, none⟩ = some (.slice a' X[i].length c') ∧ Sr w3 a' c' X[i] ∧ ∀ g2 o2, a' = some ⟨g2, o2, none⟩ → lo ≤ g2 ∧ g2 < hi
theorem RB.ri {B : Nat} {W : World} {a : Option Addr} {n c : Nat} {X : List (List UInt8)} (h : RB B W (.slice a n c) X) : Ri B W.heap.size W a X := fun i hi => by
  obtain ⟨vs, h1, h2, h3, h4⟩ := h
  rcases h1.2 with ⟨e, h0⟩ | ⟨g, cap, cur, e, hb, hg, hnc, hcm, hsz, ht⟩
  · omega
  · injection e with e1 e2 e3
    subst e1 e3
    have hb4 := h4 i hi
    obtain ⟨a', c', ev⟩ := hb4.slice
    have := h1.cells (g := g) (by rfl) i (vs[i]'(by omega)) (by simp [h2, hi])
    rw [add0] at this
    rw [ev] at hb4
    refine ⟨g, a', c', rfl, hb, heap_lt hg, by rw [this, ev], hb4.sr, fun g2 o2 ea => ?_⟩
    rcases hb4.2 with ⟨e, _⟩ | ⟨g3, cap3, cur3, e, hb3, hg3, _⟩
    · injection e with e _ _
      rw [ea] at e; cases e
    · injection e with e _ _
      rw [ea] at e
      injection e with e
      injection e with e _ _
      subst e
      exact ⟨hb3, heap_lt hg3⟩
/-- The blocks from lo up to hi are as they were. -/
def Kp (lo hi : Nat) (w3 W : World) : Prop := hi ≤ W.heap.size ∧ ∀ b, lo ≤ b → b < hi → W.heap[b]? = w3.heap[b]?
theorem Ri.at {lo hi : Nat} {w3 W : World} {a : Option Addr} {X : List (List UInt8)} (h : Ri lo hi w3 a X) (k : Kp lo hi w3 W) {i : Nat} (hil : i < X.length) : ∃ g a' c', a = some ⟨g, 0, none⟩ ∧ g < W.heap.size ∧ W.cell? ⟨g, i, none⟩ = some (.slice a' X[i].length c') ∧ ∀ W2, Kp lo hi w3 W2 → Sr W2 a' c' X[i] := by
  obtain ⟨g, a', c', e, h1, h2, h3, h4, h5⟩ := h i hil
  refine ⟨g, a', c', e, Nat.lt_of_lt_of_le h2 k.1, by rw [← h3]; exact World.cell?_of_block (w := w3) (a := ⟨g, i, none⟩) (k.2 g h1 h2), fun W2 k2 => ⟨fun j hj => ?_, h4.le, h4.nil⟩⟩
  obtain ⟨g2, o2, ea, _, hc⟩ := h4.src j hj
  obtain ⟨q1, q2⟩ := h5 g2 o2 ea
  exact ⟨g2, o2, ea, Nat.lt_of_lt_of_le q2 k2.1, by rw [← hc]; exact World.cell?_of_block (w := w3) (a := ⟨g2, o2 + j, none⟩) (k2.2 g2 q1 q2)⟩
/-- A row of one's own outside of those blocks grows: they stay as they are, and it stays outside. -/
theorem Kp.grown {lo hi : Nat} {w3 W w' : World} {v v' : Value} (h : Kp lo hi w3 W) (hv : ∀ g, v.ownBlock = some g → g < lo ∨ hi ≤ g) (hg : W.grownBy w' v.ownBlock) (hat : v'.ownBlock = v.ownBlock ∨ v'.ownBlock = some W.heap.size) : Kp lo hi w3 w' ∧ ∀ g, v'.ownBlock = some g → g < lo ∨ hi ≤ g := by
  refine ⟨⟨Nat.le_trans h.1 hg.size, fun b h1 h2 => ?_⟩, fun g e => ?_⟩
  · rw [← h.2 b h1 h2]
    refine hg.block b (Nat.lt_of_lt_of_le h2 h.1) (fun e => ?_)
    rcases hv b e.symm with h | h <;> omega
  · rcases hat with h9 | h9
    · exact hv g (by rw [← h9]; exact e)
    · rw [h9] at e
      injection e with e
      exact .inr (by have := h.1; omega)
theorem Kp.alloc {lo hi : Nat} {w3 W : World} (h : Kp lo hi w3 W) (o : Obj) : Kp lo hi w3 (W.alloc o) := by
  refine ⟨Nat.le_trans h.1 (by simp), fun b h1 h2 => ?_⟩
  rw [← h.2 b h1 h2]
  exact Lib.alloc_old W o b (Nat.lt_of_lt_of_le h2 h.1)
end Go.Proofs.Ytplnojohlbbalaa
