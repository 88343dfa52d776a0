/- Several texts of this claim, one behind the other, in their order. -/
import Derived.Test.YtplnojohlbbalaaM9
/- The program's joined: texts with the bytes of delims between them, and a line feed. Condition: lengths that fit. -/
namespace Go.Proofs.Ytplnojohlbbalaa
open Go.RowKit
attribute [local go_sem] ext_eq app_eq get_eq
/-- A row v that became v': what lay elsewhere in w is as it was; v' lies where v lay, or in a new block. -/
structure Ko (w : World) (v : Value) (W : World) (v' : Value) : Prop where
  blk : ∀ b, b < w.heap.size → some b ≠ v.ownBlock → W.heap[b]? = w.heap[b]?
  own : v'.ownBlock = v.ownBlock ∨ ∃ k, w.heap.size ≤ k ∧ v'.ownBlock = some k
  size : w.heap.size ≤ W.heap.size
theorem Ko.refl (w : World) (v : Value) : Ko w v w v := ⟨fun _ _ _ => rfl, .inl rfl, Nat.le_refl _⟩
theorem Ko.alloc {w W : World} {v v' : Value} (h : Ko w v W v') (o : Obj) : Ko w v (W.alloc o) v' :=
  ⟨fun b hb hr => (Lib.alloc_old W o b (Nat.lt_of_lt_of_le hb h.size)).trans (h.blk b hb hr), h.own, Nat.le_trans h.size (by simp)⟩
theorem Ko.grown {w W w' : World} {v v' v2 : Value} (h : Ko w v W v') (hg : W.grownBy w' v'.ownBlock) (hat : v2.ownBlock = v'.ownBlock ∨ v2.ownBlock = some W.heap.size) : Ko w v w' v2 := by
  refine ⟨fun b hb hr => ?_, ?_, Nat.le_trans h.size hg.size⟩
  · refine (hg.block b (Nat.lt_of_lt_of_le hb h.size) (fun e => ?_)).trans (h.blk b hb hr)
    rcases h.own with h9 | ⟨k, hk, h9⟩
    · exact hr (by rw [e, h9])
    · rw [h9] at e
      injection e with e
      omega
  · rcases hat with h9 | h9
    · rcases h.own with h8 | ⟨k, hk, h8⟩
      · exact .inl (h9.trans h8)
      · exact .inr ⟨k, hk, h9.trans h8⟩
    · exact .inr ⟨_, h.size, h9⟩
theorem By.some {B : Nat} {W : World} {v : Value} {bs : List UInt8} (h : By B W v bs) (hp : 0 < bs.length) : ∃ g c, v = .slice (some ⟨g, 0, none⟩) bs.length c := by
  rcases h.2 with ⟨_, h0⟩ | ⟨g, cap, cur, e, _⟩
  · omega
  · exact ⟨g, cap, e⟩
set_option maxRecDepth 100000 in
set_option maxHeartbeats 8000000 in
theorem oJoinedP (d p : List UInt8) (X : List (List UInt8)) (v : Value) (a : Option Addr) (c B : Nat) (hX : X.length ≤ 2 ^ 40) (hd : d.length ≤ 1048577) (hF : p.length + (Tl.lnj d X).length ≤ 2 ^ 46) (w0 w : World) (h0 : Below w0.heap.size w0 w) (hO : By B w v p) (hR : Rk w0 w a X) (hB : w0.heap.size ≤ B) (hB2 : B ≤ w.heap.size) : Calls Try.prog 29 #[v, .slice a X.length c, .string ⟨d.toArray⟩] w fun e w' => ∃ v', e = .returned v' ∧ By B w' v' (p ++ Tl.lnj d X) ∧ Rk w0 w' a X ∧ Ko w v w' v' ∧ Below B w w' := by
  obtain ⟨iB, hiB, hb0, hb1, hb2⟩ := infoB
  have hF2 : p.length + (Tl.jn d 0 X).length + 1 ≤ 2 ^ 46 := by unfold Tl.lnj at hF; rw [List.length_append] at hF; simp only [List.length_cons, List.length_nil] at hF; omega
  have H0 := hidA (fun W (b : Below B w W) => h0.trans (b.mono hB))
  have HO0 := hidA (show By B w v (p ++ []) by rw [List.append_nil]; exact hO)
  have HR0 := hidA hR
  have HW0 := hidA (Tl.Jn.zero d X)
  have HB0 := hidA (Below.refl B w)
  have Hb2 := hidA hB2
  clear hO hR h0 hB hF hB2
  go_enter Try.func29, Try.ntmps29
  go_upto_region 2 with fail
  go_loopw [0, 11] (fun s0 s11 W => ∃ (k : Nat) (q P : List UInt8), s11 = .int .i64 k ∧ k ≤ X.length ∧ Hid (Tl.Jn d X q k) ∧ Hid (P = p ++ q) ∧ Hid (By B W s0 P) ∧ Hid (Rk w0 W a X) ∧ Hid (Ko w v W s0) ∧ Hid (Below B w W)) (fun _ s11 _ => X.length - (intOf s11).toNat)
  case atStart => exact ⟨0, [], p ++ [], rfl, Nat.zero_le _, HW0, hidA rfl, HO0, HR0, hidA (Ko.refl w v), HB0⟩
  case round =>
    obtain ⟨k, q, P, rfl, hk, HWh, HP, HO, HR, HKo, HB⟩ := hrel
    clear HB0 HO0 HW0 HR0
    obtain ⟨a3, c3, hv3⟩ := HO.out.slice
    subst hv3
    have hpc := HO.out.sr.le
    have hwsz := hidA (Nat.le_trans Hb2.out HB.out.size)
    have hPl : P.length = p.length + q.length := by rw [HP.out, List.length_append]
    by_cases hlt : k < X.length
    · obtain ⟨g, o, a', c', rfl, hc, hkd, hs⟩ := HR.out k hlt
      have hgw : g < wr.heap.size := by obtain ⟨cc, fz, h9⟩ := hkd; exact heap_lt h9
      have hw1 : IntKind.i64.wrap ((k : Int) + 1) = ((k + 1 : Nat) : Int) := by rw [IntKind.wrap_i64]; omega
      have HSx := hidA (hs.grow (H0.out _ HB.out))
      have HS0 := hidA (fun W (b : Below B w W) => hs.grow (H0.out W b))
      have HO3 := hidA HO.out.own
      clear hs hkd
      by_cases hm : 0 < k ∧ d ≠ []
      · have HW2 := hidA (HWh.out.sep hlt hm.1 hm.2)
        have hle := HW2.out.le
        simp only [List.length_append, List.length_cons, List.length_nil] at hle
        have hkI : (0 : Int) < (k : Int) := by omega
        have hdl : 0 < d.length := List.length_pos_iff.2 hm.2
        have hie : d.isEmpty = false := by
          cases d with
          | nil => exact absurd rfl hm.2
          | cons x r => rfl
        have hsub : IntKind.i64.wrap ((k : Int) - 1) = ((k - 1 : Nat) : Int) := by rw [IntKind.wrap_i64]; omega
        have hmod : (((k - 1 : Nat) : Int)).tmod (d.length : Int) = (((k - 1) % d.length : Nat) : Int) := by exact (Int.ofNat_tmod _ _).symm
        have hml : (k - 1) % d.length < d.length := Nat.mod_lt _ hdl
        have hdz : ((d.length : Int) == 0) = false := beq_eq_false_iff_ne.2 (by omega)
        have hdn : ¬ (d.length : Int) = 0 := by omega
        have hgd : d.getD ((k - 1) % d.length) 0 = d[(k - 1) % d.length] := by rw [List.getD_eq_getElem?_getD, List.getElem?_eq_getElem hml]; rfl
        rw [hgd] at HW2
        generalize hj : (k - 1) % d.length = j at *
        clear hj hgd
        obtain ⟨y, hy⟩ : ∃ y, y = d[j] := ⟨_, rfl⟩
        rw [← hy] at HW2
        obtain ⟨q1, hq1⟩ : ∃ q1, q1 = P ++ [y] := ⟨_, rfl⟩
        have HQ1 := hidA hq1
        have hq1l : q1.length + X[k].length ≤ 2 ^ 46 := by rw [hq1, List.length_append]; simp only [List.length_cons, List.length_nil]; omega
        have hq1p : 0 < q1.length := by rw [hq1, List.length_append]; simp
        have hP1 : P.length + 1 ≤ 2 ^ 46 := by omega
        have hgy : d[j] = y := hy.symm
        have HE : Hid (q1 ++ X[k] = p ++ (q ++ [y] ++ X[k])) := by show _ = _; rw [hq1, HP.out]; simp [List.append_assoc]
        clear hq1 hle HWh HP hPl hm hy
        generalize X[k] = x at *
        cases a' with
        | none =>
          have hx0 : x = [] := List.length_eq_zero_iff.1 (by have h1 := HSx.out.nil rfl; have h2 := HSx.out.le; omega)
          subst hx0
          have hc'0 := HSx.out.nil rfl
          subst hc'0
          have hc9 : wr.cell? ⟨g, o + k, none⟩ = some (.slice none 0 0) := hc
          rw [List.append_nil] at HW2
          rw [List.append_nil, List.append_nil] at HE
          clear hc HSx HS0
          cases a3
          all_goals
            go_wp2_with (at_builtin; refine wpList_append_own_at _ rfl _ _ 22 rfl B 5 iB (.int .u8 0) 1 1 Try.underlying22 hiB hb0 hb1 hb2 rfl (by decide) _ _ _ rfl (HO3.out.alloc _) ⟨wr.heap.size, 0, none⟩ 1 1 [.int .u8 y.toNat] rfl rfl (cell_one_new _ _ _) (one_u8 _) (by unfold maxLen; omega) (by omega) (by have := hwsz.out; simp; omega) ?_; intro v2 w2 hown hg2 _ hat; have HO2 : Hid (By B w2 v2 q1) := (by rw [HQ1.out]; exact By.app1 hown); have HK2 := hidA ((HKo.out.alloc _).grown hg2 hat); have HR2 := hidA ((HR.out.grow ((Below.refl _ _).alloc (Nat.le_refl _) _)).other hg2 (HO3.out.alloc _)); have HB2 : Hid (Below B w w2) := (HB.out.alloc hwsz.out _).grown hg2 (by have := hwsz.out; simp; omega) (fun k hk => (HO3.out.lt k hk).1); obtain ⟨g4, c4, hv4⟩ := HO2.out.some hq1p; subst hv4; have hpc5 := HO2.out.sr.le; clear hown hg2 hat)
            exact ⟨⟨k + 1, _, q1, by first | rfl | go_num, hlt, HW2, HE, HO2, HR2, HK2, HB2⟩, by simp [intOf]; omega⟩
        | some ad =>
          go_wp2_with (first
            | (at_builtin; refine wpList_append_own_at _ rfl _ _ 22 rfl B 5 iB (.int .u8 0) 1 1 Try.underlying22 hiB hb0 hb1 hb2 rfl (by decide) _ _ _ rfl (HO3.out.alloc _) ⟨wr.heap.size, 0, none⟩ 1 1 [.int .u8 y.toNat] rfl rfl (cell_one_new _ _ _) (one_u8 _) (by unfold maxLen; omega) (by omega) (by have := hwsz.out; simp; omega) ?_; intro v2 w2 hown hg2 _ hat; have HO2 : Hid (By B w2 v2 q1) := (by rw [HQ1.out]; exact By.app1 hown); have HK2 := hidA ((HKo.out.alloc _).grown hg2 hat); have HR2 := hidA ((HR.out.grow ((Below.refl _ _).alloc (Nat.le_refl _) _)).other hg2 (HO3.out.alloc _)); have HB2 : Hid (Below B w w2) := (HB.out.alloc hwsz.out _).grown hg2 (by have := hwsz.out; simp; omega) (fun k hk => (HO3.out.lt k hk).1); obtain ⟨a4, c4, hv4⟩ := HO2.out.slice; subst hv4; have HO4 := hidA HO2.out.own; have hwsz2 := hidA (Nat.le_trans Hb2.out HB2.out.size); clear hown hg2 hat HO3)
            | (at_builtin; refine wpList_append_own_at _ rfl _ _ 22 rfl B 5 iB (.int .u8 0) 1 1 Try.underlying22 hiB hb0 hb1 hb2 rfl (by decide) _ _ _ rfl HO4.out ad x.length c' (bCs x) rfl (by rw [bCs_len, Nat.mul_one]) (fun j u hj => (HS0.out _ HB2.out).src.cells_at j u hj) (bCs_one x) (by unfold maxLen; omega) (by omega) hwsz2.out ?_; intro v3 w3 hown hg2 _ hat; have HO5 := hidA (By.of_app hown); have HK5 := hidA (HK2.out.grown hg2 hat); have HR5 := hidA (HR2.out.other hg2 HO4.out); have HB5 : Hid (Below B w w3) := HB2.out.grown hg2 hwsz2.out (fun k hk => (HO4.out.lt k hk).1); clear hown hg2 hat))
          exact ⟨⟨k + 1, _, _, by first | rfl | go_num, hlt, HW2, HE, HO5, HR5, HK5, HB5⟩, by simp [intOf]; omega⟩
      · have HW2 := hidA (HWh.out.bare hlt hm)
        have hle := HW2.out.le
        simp only [List.length_append] at hle
        have hPx : P.length + X[k].length ≤ 2 ^ 46 := by omega
        have HE : Hid (P ++ X[k] = p ++ (q ++ X[k])) := by show _ = _; rw [HP.out]; simp [List.append_assoc]
        have hcs : ¬ (0 : Int) < (k : Int) ∨ ((0 : Int) < (k : Int) ∧ d.isEmpty = true) := by
          by_cases h9 : 0 < k
          · refine .inr ⟨by omega, ?_⟩
            cases d with
            | nil => rfl
            | cons x r => exact absurd ⟨h9, List.cons_ne_nil _ _⟩ hm
          · exact .inl (by omega)
        clear hle HWh HP hPl hm
        generalize X[k] = x at *
        cases a' with
        | none =>
          have hx0 : x = [] := List.length_eq_zero_iff.1 (by have h1 := HSx.out.nil rfl; have h2 := HSx.out.le; omega)
          subst hx0
          have hc'0 := HSx.out.nil rfl
          subst hc'0
          have hc9 : wr.cell? ⟨g, o + k, none⟩ = some (.slice none 0 0) := hc
          rw [List.append_nil] at HW2
          rw [List.append_nil, List.append_nil] at HE
          clear hc HSx HS0
          rcases hcs with hcs | ⟨hcs, hcs2⟩ <;> cases a3
          all_goals
            go_wp2_with fail
            exact ⟨⟨k + 1, _, P, by first | rfl | go_num, hlt, HW2, HE, HO, HR, HKo, HB⟩, by simp [intOf]; omega⟩
        | some ad =>
          rcases hcs with hcs | ⟨hcs, hcs2⟩
          all_goals
            go_wp2_with (at_builtin; refine wpList_append_own_at _ rfl _ _ 22 rfl B 5 iB (.int .u8 0) 1 1 Try.underlying22 hiB hb0 hb1 hb2 rfl (by decide) _ _ _ rfl HO3.out ad x.length c' (bCs x) rfl (by rw [bCs_len, Nat.mul_one]) (fun j u hj => HSx.out.src.cells_at j u hj) (bCs_one x) (by unfold maxLen; omega) (by omega) hwsz.out ?_; intro v3 w3 hown hg2 _ hat; have HO5 := hidA (By.of_app hown); have HK5 := hidA (HKo.out.grown hg2 hat); have HR5 := hidA (HR.out.other hg2 HO3.out); have HB5 : Hid (Below B w w3) := HB.out.grown hg2 hwsz.out (fun k hk => (HO3.out.lt k hk).1); clear hown hg2 hat)
            exact ⟨⟨k + 1, _, _, by first | rfl | go_num, hlt, HW2, HE, HO5, HR5, HK5, HB5⟩, by simp [intOf]; omega⟩
    · have HD := hidA (HWh.out.done hlt)
      have hP1 : P.length + 1 ≤ 2 ^ 46 := by rw [HD.out] at hF2; omega
      have HO3 := hidA HO.out.own
      clear HWh hPl
      go_wp2_with (at_builtin; refine wpList_append_own_at _ rfl _ _ 22 rfl B 5 iB (.int .u8 0) 1 1 Try.underlying22 hiB hb0 hb1 hb2 rfl (by decide) _ _ _ rfl (HO3.out.alloc _) ⟨wr.heap.size, 0, none⟩ 1 1 [.int .u8 10] rfl rfl (cell_one_new _ _ _) (one_u8 _) (by unfold maxLen; omega) (by omega) (by have := hwsz.out; simp; omega) ?_; intro v2 w2 hown hg2 _ hat; have HO2 := hidA (By.app1 (x := 10) hown); have HK2 := hidA ((HKo.out.alloc _).grown hg2 hat); have HR2 := hidA ((HR.out.grow ((Below.refl _ _).alloc (Nat.le_refl _) _)).other hg2 (HO3.out.alloc _)); have HB2 : Hid (Below B w w2) := (HB.out.alloc hwsz.out _).grown hg2 (by have := hwsz.out; simp; omega) (fun k hk => (HO3.out.lt k hk).1); clear hown hg2 hat)
      go_ret
      refine ⟨_, rfl, ?_, HR2.out, HK2.out, HB2.out⟩
      unfold Tl.lnj
      rw [HD.out, ← List.append_assoc, ← HP.out]
      exact HO2.out
end Go.Proofs.Ytplnojohlbbalaa
/- The plain answer's Lines, told of rows of one's own. Condition: lengths that fit. -/
namespace Go.Proofs.Ytplnojohlbbalaa
open Go.RowKit
attribute [local go_sem] ext_eq app_eq get_eq
/-- A row of one's own of rows of bytes of one's own. -/
def RB (B : Nat) (W : World) (v : Value) (X : List (List UInt8)) : Prop := ∃ vs : List Value, W.ownsRow B 22 1 v X.length vs ∧ ∃ hl : vs.length = X.length, (∀ u ∈ vs, u.oneCell' = true) ∧ ∀ i (h : i < X.length), By B W (vs[i]'(by omega)) X[i]
theorem RB.nil (B : Nat) (W : World) : RB B W (.slice none 0 0) [] := ⟨[], World.ownsRow_nil _ _ _ _, rfl, fun u h => (by cases h), fun i h => (by simp at h)⟩
theorem RB.grow {B : Nat} {W W' : World} {v : Value} {X : List (List UInt8)} (h : RB B W v X) (b : Below W.heap.size W W') : RB B W' v X := by
  obtain ⟨vs, h1, h2, h3, h4⟩ := h
  exact ⟨vs, own_grow h1 b, h2, h3, fun i hi => (h4 i hi).grow b⟩
theorem RB.slice {B : Nat} {W : World} {v : Value} {X : List (List UInt8)} (h : RB B W v X) : ∃ a c, v = .slice a X.length c := by
  obtain ⟨vs, h1, _⟩ := h
  exact own_slice h1
theorem By.otherR {B B2 n : Nat} {W w' : World} {v r : Value} {x : List UInt8} {vs : List Value} (h : By B W v x) (hg : W.grownBy w' r.ownBlock) (hr : W.ownsRow B2 22 1 r n vs) : By B w' v x := by
  refine h.on (fun g c hc => hg.block g (heap_lt hc) (fun e => ?_))
  obtain ⟨c2, f2, h2⟩ := own_kind hr g e.symm
  exact absurd rfl (heap_ne hc h2 (by decide))
theorem RB.push {B : Nat} {W w' : World} {v v' u : Value} {X : List (List UInt8)} {x : List UInt8} {vs : List Value} (h1 : W.ownsRow B 22 1 v X.length vs) (h2 : vs.length = X.length) (h3 : ∀ u ∈ vs, u.oneCell' = true) (h4 : ∀ i (h : i < X.length), By B W (vs[i]'(by omega)) X[i]) (hx : By B W u x) (hu : u.oneCell' = true) (o : Obj) (hown : w'.ownsRow B 22 1 v' (X.length + 1) (vs ++ [u])) (hg : (W.alloc o).grownBy w' v.ownBlock) : RB B w' v' (X ++ [x]) := by
  have hB := (Below.refl W.heap.size W).alloc (Nat.le_refl _) o
  have ho := own_grow h1 hB
  refine ⟨vs ++ [u], by rw [List.length_append]; exact hown, by simp [h2], fun y hy => ?_, fun i hi => ?_⟩
  · rcases List.mem_append.1 hy with hy | hy
    · exact h3 y hy
    · simp at hy; subst hy; exact hu
  · by_cases hlt : i < X.length
    · rw [List.getElem_append_left (by omega), List.getElem_append_left hlt]
      exact ((h4 i hlt).grow hB).otherR hg ho
    · have e : i = X.length := by simp at hi; omega
      subst e
      have e1 : (vs ++ [u])[X.length]'(by simp; omega) = u := by
        rw [List.getElem_append_right (by omega)]; simp [h2]
      have e2 : (X ++ [x])[X.length]'(by simp) = x := by simp
      rw [e1, e2]
      exact (hx.grow hB).otherR hg ho
/-- The plain answer's lines in memory: those that are ended, and the open one behind them. -/
structure LSB (w W : World) (v4 v5 : Value) (acc : List (List UInt8)) (cur : List UInt8) : Prop where
  at0 : ∃ W0, RB w.heap.size W0 v4 acc ∧ Below w.heap.size w W0 ∧ Below W0.heap.size W0 W ∧ By W0.heap.size W v5 cur
theorem LSB.bel {w W : World} {v4 v5 : Value} {acc : List (List UInt8)} {cur : List UInt8} (h : LSB w W v4 v5 acc cur) : Below w.heap.size w W := by
  obtain ⟨W0, h1, h2, h3, h4⟩ := h.at0
  exact h2.trans (h3.mono h2.size)
theorem LSB.rr {w W : World} {v4 v5 : Value} {acc : List (List UInt8)} {cur : List UInt8} (h : LSB w W v4 v5 acc cur) : RB w.heap.size W v4 acc := by
  obtain ⟨W0, h1, h2, h3, h4⟩ := h.at0
  exact h1.grow h3
theorem LSB.line {w W : World} {v4 v5 : Value} {acc : List (List UInt8)} {cur : List UInt8} (h : LSB w W v4 v5 acc cur) : By w.heap.size W v5 cur := by
  obtain ⟨W0, h1, h2, h3, h4⟩ := h.at0
  exact h4.mono h2.size
/-- A fresh line behind rows. -/
theorem LSB.fresh {w W : World} {v4 : Value} {acc : List (List UInt8)} (h : RB w.heap.size W v4 acc) (b : Below w.heap.size w W) : LSB w (W.alloc (.cells #[] 5)) v4 (.slice (some ⟨W.heap.size, 0, none⟩) 0 0) acc [] :=
  ⟨W, h, b, (Below.refl _ _).alloc (Nat.le_refl _) _, By.fresh W _ (Nat.le_refl _)⟩
/-- The line grows by a byte. -/
theorem LSB.byte {w W W0 w' : World} {v4 v5 v' : Value} {acc : List (List UInt8)} {cur : List UInt8} {x : UInt8} (h1 : RB w.heap.size W0 v4 acc) (h2 : Below w.heap.size w W0) (h3 : Below W0.heap.size W0 W) (h4 : By W0.heap.size W v5 cur) (o : Obj) (hown : w'.ownsRow W0.heap.size 5 1 v' (cur.length + 1) (bCs cur ++ [.int .u8 x.toNat])) (hg : (W.alloc o).grownBy w' v5.ownBlock) : LSB w w' v4 v' acc (cur ++ [x]) :=
  ⟨W0, h1, h2, (h3.alloc h3.size o).grown hg (Nat.le_trans h3.size (by simp)) (fun k hk => (h4.own.lt k hk).1), By.app1 hown⟩
set_option maxRecDepth 100000 in
set_option maxHeartbeats 4000000 in
theorem rLinesB (l : List UInt8) (a : Option Addr) (c : Nat) (hl : l.length ≤ 1048577) (w : World) (hS : Src w a l) : Calls Try.prog 8 #[.slice a l.length c] w fun e w' => ∃ v, e = .returned (.tuple #[v, .bool (Tl.eb l)]) ∧ RB w.heap.size w' v (Tl.ls l) ∧ Below w.heap.size w w' := by
  obtain ⟨iB, hiB, hb0, hb1, hb2⟩ := infoB
  obtain ⟨iR, hiR, hr0, hr1, hr2⟩ := infoRR
  have HS := hidA hS
  have HL0 := hidA (LSB.fresh (RB.nil w.heap.size w) (Below.refl _ w))
  clear hS
  go_enter Try.func8, Try.ntmps8
  go_wp2
  go_loopw [4, 5, 6, 12] (fun s4 s5 s6 s12 W => ∃ (k : Nat) (acc : List (List UInt8)) (cur : List UInt8), s12 = .int .i64 k ∧ s6 = .bool (decide (cur ≠ [])) ∧ k ≤ l.length ∧ acc.length ≤ k ∧ cur.length ≤ k ∧ Hid (LSB w W s4 s5 acc cur) ∧ Hid (Tl.At l acc cur k)) (fun _ _ _ s12 _ => l.length - (intOf s12).toNat)
  case atStart => exact ⟨0, [], [], rfl, rfl, Nat.zero_le _, Nat.le_refl _, Nat.le_refl _, HL0, hidA (Tl.At.zero l)⟩
  case round =>
    obtain ⟨k, acc, cur, rfl, rfl, hk, hac, hcu, HL, HA⟩ := hrel
    clear HL0
    obtain ⟨a4, c4, hv4⟩ := HL.out.rr.slice
    obtain ⟨a5, c5, hv5⟩ := HL.out.line.slice
    subst hv4 hv5
    have hB := hidA HL.out.bel
    have hwsz := hidA HL.out.bel.size
    by_cases hlt : k < l.length
    · obtain ⟨g, o, rfl, hg, hc0⟩ := HS.out k hlt
      have hc : wr.cell? ⟨g, o + k, none⟩ = some (.int .u8 l[k].toNat) := (hB.out.cell (p := ⟨g, o + k, none⟩) hg).trans hc0
      have hw1 : IntKind.i64.wrap ((k : Int) + 1) = ((k + 1 : Nat) : Int) := by rw [IntKind.wrap_i64]; omega
      have hgw : g < wr.heap.size := Nat.lt_of_lt_of_le hg hwsz.out
      by_cases h10 : l[k] = 10
      · have e1 := byte_yes _ 10 10 rfl h10
        have HA2 := hidA (HA.out.feed hlt h10)
        obtain ⟨vs, o1, o2, o3, o4⟩ := HL.out.rr
        have HO1 := hidA o1
        have HP := hidA (fun (v' : Value) (w' : World) (ob : Obj) hown hg => RB.push (v' := v') (w' := w') (u := .slice a5 cur.length c5) o1 o2 o3 o4 HL.out.line rfl ob hown hg)
        clear HA HS hc0 h10 o1 o2 o3 o4
        generalize l[k] = x at *
        have hal : (acc ++ [cur]).length ≤ k + 1 := by simp; omega
        go_wp2_with (at_builtin; refine wpList_append_own_at _ rfl _ _ 23 rfl w.heap.size 22 iR (.slice none 0 0) 1 24 Try.underlying23 hiR hr0 hr1 hr2 rfl (by decide) _ _ _ rfl (HO1.out.alloc _) ⟨wr.heap.size, 0, none⟩ 1 1 [.slice a5 cur.length c5] rfl rfl (cell_one_new _ _ _) (by intro u hu; simp at hu; subst hu; rfl) (by unfold maxLen; omega) (by omega) (by have := hwsz.out; simp; omega) ?_; intro v' w2 hown hg2 _ hat; have HR2 := hidA (HP.out v' w2 _ hown hg2); have HB2 : Hid (Below w.heap.size w w2) := (hB.out.alloc hwsz.out _).grown hg2 (by have := hwsz.out; simp; omega) (fun k hk => (HO1.out.lt k hk).1); clear hown hg2 hat)
        exact ⟨⟨k + 1, acc ++ [cur], [], by first | rfl | go_num, rfl, hlt, hal, by simp, hidA (LSB.fresh HR2.out HB2.out), HA2⟩, by simp [intOf]; omega⟩
      · have e1 := byte_no _ 10 10 rfl h10
        have HA2 := hidA (HA.out.more hlt h10)
        clear HA HS hc0 h10
        generalize l[k] = x at *
        obtain ⟨W0, q1, q2, q3, q4⟩ := HL.out.at0
        have HO5 := hidA q4.own
        have Hq3 := hidA q3.size
        have HP := hidA (fun (v' : Value) (w' : World) (ob : Obj) hown hg => LSB.byte (x := x) (w' := w') (v' := v') q1 q2 q3 q4 ob hown hg)
        have hdec : decide (cur ++ [x] ≠ []) = true := by simp
        have hcl : (cur ++ [x]).length ≤ k + 1 := by simp; omega
        clear HL q1 q2 q3 q4
        go_wp2_with (at_builtin; refine wpList_append_own_at _ rfl _ _ 22 rfl W0.heap.size 5 iB (.int .u8 0) 1 1 Try.underlying22 hiB hb0 hb1 hb2 rfl (by decide) _ _ _ rfl (HO5.out.alloc _) ⟨wr.heap.size, 0, none⟩ 1 1 [.int .u8 x.toNat] rfl rfl (cell_one_new _ _ _) (one_u8 _) (by unfold maxLen; omega) (by omega) (by have := Hq3.out; simp; omega) ?_; intro v' w2 hown hg2 _ hat; have HL2 := hidA (HP.out v' w2 _ hown hg2); clear hown hg2 hat)
        exact ⟨⟨k + 1, acc, cur ++ [x], by first | rfl | go_num, by rw [hdec], hlt, by omega, hcl, HL2, HA2⟩, by simp [intOf]; omega⟩
    · by_cases h0 : cur = []
      · subst h0
        have HD := hidA (HA.out.done hlt)
        have HR := hidA HL.out.rr
        clear HA HS HL
        go_wp2_with fail
        go_ret2
        exact ⟨_, by rw [HD.out.2]; rfl, by rw [HD.out.1]; exact HR.out, hB.out⟩
      · have HD := hidA (HA.out.left hlt h0)
        have hdec : decide (cur ≠ []) = true := decide_eq_true h0
        obtain ⟨vs, o1, o2, o3, o4⟩ := HL.out.rr
        have HO1 := hidA o1
        have HP := hidA (fun (v' : Value) (w' : World) (ob : Obj) hown hg => RB.push (v' := v') (w' := w') (u := .slice a5 cur.length c5) o1 o2 o3 o4 HL.out.line rfl ob hown hg)
        rw [hdec]
        clear HA HS HL h0 o1 o2 o3 o4 hdec
        go_wp2_with (at_builtin; refine wpList_append_own_at _ rfl _ _ 23 rfl w.heap.size 22 iR (.slice none 0 0) 1 24 Try.underlying23 hiR hr0 hr1 hr2 rfl (by decide) _ _ _ rfl (HO1.out.alloc _) ⟨wr.heap.size, 0, none⟩ 1 1 [.slice a5 cur.length c5] rfl rfl (cell_one_new _ _ _) (by intro u hu; simp at hu; subst hu; rfl) (by unfold maxLen; omega) (by omega) (by have := hwsz.out; simp; omega) ?_; intro v' w2 hown hg2 _ hat; have HR2 := hidA (HP.out v' w2 _ hown hg2); have HB2 : Hid (Below w.heap.size w w2) := (hB.out.alloc hwsz.out _).grown hg2 (by have := hwsz.out; simp; omega) (fun k hk => (HO1.out.lt k hk).1); clear hown hg2 hat)
        go_ret2
        exact ⟨_, by rw [HD.out.2]; rfl, by rw [HD.out.1]; exact HR2.out, HB2.out⟩
end Go.Proofs.Ytplnojohlbbalaa
