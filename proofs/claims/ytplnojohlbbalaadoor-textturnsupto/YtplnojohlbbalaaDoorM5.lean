/- Several texts of this claim, one behind the other, in their order. -/
import Derived.Test.YtplnojohlbbalaaDoorM4
/- The plain answer's pieces. Condition: a length that fits. -/
namespace Go.Proofs.YtplnojohlbbalaaDoor
open Go.RowKit
attribute [local go_sem] ext_eq app_eq get_eq
theorem RR.pushg {B : Nat} {W0 W w' : World} {v v' u : Value} {X : List (List UInt8)} {x : List UInt8} {vs : List Value} (b : Below W0.heap.size W0 W) (h1 : W0.ownsRow B 22 1 v X.length vs) (h2 : vs.length = X.length) (h3 : ∀ u ∈ vs, u.oneCell' = true) (h4 : ∀ i (h : i < X.length), Sq B W0 (vs[i]'(by omega)) X[i]) (hx : Sq B W u x) (hu : u.oneCell' = true) (o : Obj) (hown : w'.ownsRow B 22 1 v' (X.length + 1) (vs ++ [u])) (hg : (W.alloc o).grownBy w' v.ownBlock) : RR B w' v' (X ++ [x]) :=
  RR.push (own_grow h1 b) h2 h3 (fun i h => (h4 i h).grow b) hx hu o hown hg
theorem cell_one_at (w : World) (x : Value) (t : TypeId) (g : Nat) (hg : w.heap.size = g) : ∀ j u, [x][j]? = some u → (w.alloc (.cells #[x] t)).cell? ((⟨g, 0, none⟩ : Addr).add j) = some u := by
  subst hg; exact cell_one_new w x t
namespace Tl
def ps (l : List UInt8) : List (List UInt8) := (prs l).map pc
theorem ps_len (l : List UInt8) : (ps l).length = (ls l).length := by simp [ps, ls]
theorem ls_le (l : List UInt8) : (ls l).length ≤ l.length := by simp only [ls, List.length_map]; exact prs_len l.length l (Nat.le_refl _)
theorem flat_each : ∀ {X : List (List UInt8)} {k : Nat} (h : k < X.length), X[k].length ≤ X.flatten.length
  | x :: r, 0, _ => by simp
  | x :: r, k + 1, h => by
    have := flat_each (X := r) (k := k) (by simpa using h)
    simp at this ⊢; omega
theorem ls_each (l : List UInt8) (hl : l.length ≤ 1048577) : ∀ k (h : k < (ls l).length), (ls l)[k].length ≤ 1048577 := fun k h => by
  have hp : k < (prs l).length := by simpa [ls] using h
  have h2 := flat_each (X := (prs l).map pc) (k := k) (by simpa using hp)
  rw [flat_all] at h2
  simp only [ls, List.getElem_map, pc, List.length_append] at h2 ⊢
  omega
theorem ps_take (l : List UInt8) (k : Nat) (h : k < (ls l).length) : (ps l).take (k + 1) = (ps l).take k ++ [(ls l)[k] ++ if (decide (k + 1 < (ls l).length) || eb l) then [10] else []] := by
  have hp : k < (prs l).length := by simpa [ls] using h
  have e := prs_ended l.length l (Nat.le_refl _) k hp
  rw [List.take_succ_eq_append_getElem (by rw [ps_len]; exact h)]
  congr 1
  simp only [ps, ls, List.getElem_map, List.length_map, pc, ← e]
end Tl
set_option maxRecDepth 100000 in
set_option maxHeartbeats 4000000 in
theorem rPieces (l : List UInt8) (a : Option Addr) (c : Nat) (hl : l.length ≤ 1048577) (w : World) (hS : Src w a l) : Calls Tryd.prog 37 #[.slice a l.length c] w fun e w' => ∃ a' c', e = .returned (.slice a' (Tl.ps l).length c') ∧ Rd w' a' (Tl.ps l) ∧ (Tl.ps l).length ≤ c' ∧ (a' = none → c' = 0) ∧ Below w.heap.size w w' := by
  obtain ⟨iB, hiB, hb0, hb1, hb2⟩ := infoB
  obtain ⟨iR, hiR, hr0, hr1, hr2⟩ := infoRR
  have HL := hidA (rLines l a c hl w hS)
  have HT := hidA (Tl.ps_take l)
  have hn := Tl.ls_le l
  have hpl := Tl.ps_len l
  have HXl := hidA (Tl.ls_each l hl)
  generalize Tl.eb l = E at *
  generalize Tl.ps l = P at *
  generalize Tl.ls l = X at *
  clear hS
  go_enter Tryd.func37, Tryd.ntmps37
  go_wp2_with (go_at_call 23; with_reducible refine HL.out.mono ?_; rintro e w1 ⟨v, rfl, h1, h2⟩; obtain ⟨aL, cL, hv⟩ := h1.slice; subst hv; have HR := hidA h1.rd.1; have HB0 := hidA h2; clear h1 h2 HL)
  go_loopw [5, 16] (fun s5 s16 W => ∃ (k : Nat), s16 = .int .i64 k ∧ k ≤ X.length ∧ Hid (RR w1.heap.size W s5 (P.take k)) ∧ Hid (Below w1.heap.size w1 W)) (fun _ s16 _ => X.length - (intOf s16).toNat)
  case atStart => exact ⟨0, rfl, Nat.zero_le _, hidA (RR.nil _ _), hidA (Below.refl _ _)⟩
  case round =>
    obtain ⟨k, rfl, hk, HO, HB⟩ := hrel
    obtain ⟨a5, c5, hv5⟩ := HO.out.slice
    subst hv5
    have hwsz := hidA HB.out.size
    have HF := hidA (By.fresh wr wr.heap.size (Nat.le_refl _))
    have HBf := hidA ((Below.refl wr.heap.size wr).alloc (Nat.le_refl _) (.cells #[] 5))
    by_cases hlt : k < X.length
    · obtain ⟨g, o, a', c', rfl, hg, hc0, hs⟩ := HR.out k hlt
      have hc : wr.cell? ⟨g, o + k, none⟩ = some (.slice a' X[k].length c') := (HB.out.cell (p := ⟨g, o + k, none⟩) hg).trans hc0
      have hgw : g < wr.heap.size := Nat.lt_of_lt_of_le hg hwsz.out
      have hw1 : IntKind.i64.wrap ((k : Int) + 1) = ((k + 1 : Nat) : Int) := by rw [IntKind.wrap_i64]; omega
      have hwn : IntKind.i64.wrap ((X.length : Int) - 1) = (X.length : Int) - 1 := by rw [IntKind.wrap_i64]; omega
      have hs1 := hs.grow HB.out
      have HSx := hidA (hs1.grow HBf.out)
      have hxc := hs.le
      have HN := hidA hs.nil
      have HTk := hidA (HT.out k hlt)
      have hqb : (P.take k).length ≤ 1048577 := by rw [List.length_take]; omega
      obtain ⟨vs, o1, o2, o3, o4⟩ := HO.out
      have HK := hidA (fun k hk => (o1.lt k hk).1)
      have HO1 := hidA (fun W (b : Below wr.heap.size wr W) => own_grow o1 b)
      have HP := hidA (fun W w' p v' x (b : Below wr.heap.size wr W) hx hu ob hown hg => RR.pushg (W := W) (w' := w') (u := p) (v' := v') (x := x) b o1 o2 o3 o4 hx hu ob hown hg)
      have hxl : X[k].length ≤ 1048577 := HXl.out k hlt
      clear hc0 hs hs1 HR HO HT HXl o1 o2 o3 o4
      generalize X[k] = x at *
      generalize P.take k = q at *
      by_cases hk1 : k + 1 < X.length
      · rw [decide_eq_true hk1, Bool.true_or, if_pos rfl] at HTk
        have hk2 : (k : Int) < (X.length : Int) - 1 := by omega
        cases a' with
        | none =>
          have hx0 : x = [] := List.length_eq_zero_iff.1 (by have h1 := HN.out rfl; omega)
          have hc'0 := HN.out rfl
          subst hx0 hc'0
          have HPy := HF
          have HBp := HBf
          have hc9 : wr.cell? ⟨g, o + k, none⟩ = some (.slice none 0 0) := hc
          clear hc HF HBf HSx HN hxc
          go_wp2_with (first
            | (at_builtin; refine wpList_append_own_at _ rfl _ _ 22 rfl wr.heap.size 5 iB (.int .u8 0) 1 1 Tryd.underlying22 hiB hb0 hb1 hb2 rfl (by decide) _ _ _ rfl (HPy.out.own.alloc _) ⟨_, 0, none⟩ 1 1 [.int .u8 10] rfl rfl (cell_one_at _ _ _ _ (by first | rfl | simp)) (one_u8 _) (by unfold maxLen; (try simp only [List.length_nil]); omega) (by (try simp only [List.length_nil]); omega) (HBp.out.alloc HBp.out.size _).size ?_; intro v' w3 hown hg2 _ hat; have HBq : Hid (Below wr.heap.size wr w3) := (HBp.out.alloc HBp.out.size _).grown hg2 (HBp.out.alloc HBp.out.size _).size (fun k hk => (HPy.out.own.lt k hk).1); have HPz := hidA (By.app1 (x := 10) hown); obtain ⟨az, cz, hvz⟩ := HPz.out.slice; subst hvz; have HPz : Hid (By wr.heap.size w3 (.slice az (([] : List UInt8).length + 1) cz) (([] : List UInt8) ++ [10])) := (by have h := HPz.out; rw [List.length_append] at h; exact hidA h); clear hown hg2 hat)
            | (at_builtin; refine wpList_append_own_at _ rfl _ _ 46 rfl w1.heap.size 22 iR (.slice none 0 0) 1 24 Tryd.underlying46 hiR hr0 hr1 hr2 rfl (by decide) _ _ _ rfl (HO1.out _ (HBq.out.alloc HBq.out.size _)) ⟨_, 0, none⟩ 1 1 [_] rfl rfl (cell_one_at _ _ _ _ (by first | rfl | simp)) (by intro u hu; simp at hu; subst hu; rfl) (by unfold maxLen; omega) (by omega) (Nat.le_trans hwsz.out (HBq.out.alloc HBq.out.size _).size) ?_; intro v' w4 hown hg2 _ hat; have HR2 := hidA (HP.out _ w4 _ v' _ HBq.out (Sq.of_by HPz.out) rfl _ hown hg2); have HB2 : Hid (Below w1.heap.size w1 w4) := (HB.out.trans ((HBq.out.alloc HBq.out.size _).mono hwsz.out)).grown hg2 (Nat.le_trans hwsz.out (HBq.out.alloc HBq.out.size _).size) HK.out; clear hown hg2 hat))
          exact ⟨⟨k + 1, by first | rfl | go_num, hlt, by rw [HTk.out]; exact HR2, HB2⟩, by simp [intOf]; omega⟩
        | some ad =>
          go_wp2_with (first
            | (at_builtin; refine wpList_append_own_at _ rfl _ _ 22 rfl wr.heap.size 5 iB (.int .u8 0) 1 1 Tryd.underlying22 hiB hb0 hb1 hb2 rfl (by decide) _ _ _ rfl HF.out.own ad x.length c' (bCs x) rfl (by rw [bCs_len, Nat.mul_one]) (fun j u hj => HSx.out.src.cells_at j u hj) (bCs_one x) (by unfold maxLen; simp only [List.length_nil]; omega) (by simp only [List.length_nil]; omega) HBf.out.size ?_; intro v' w2 hown hg2 _ hat; have HPy : Hid (By wr.heap.size w2 v' x) := By.of_app (bs := []) hown; obtain ⟨ap, cp, hvp⟩ := HPy.out.slice; subst hvp; have HBp : Hid (Below wr.heap.size wr w2) := HBf.out.grown hg2 HBf.out.size (fun k hk => (HF.out.own.lt k hk).1); clear hown hg2 hat)
            | (at_builtin; refine wpList_append_own_at _ rfl _ _ 22 rfl wr.heap.size 5 iB (.int .u8 0) 1 1 Tryd.underlying22 hiB hb0 hb1 hb2 rfl (by decide) _ _ _ rfl (HPy.out.own.alloc _) ⟨_, 0, none⟩ 1 1 [.int .u8 10] rfl rfl (cell_one_at _ _ _ _ (by first | rfl | simp)) (one_u8 _) (by unfold maxLen; (try simp only [List.length_nil]); omega) (by (try simp only [List.length_nil]); omega) (HBp.out.alloc HBp.out.size _).size ?_; intro v' w3 hown hg2 _ hat; have HBq : Hid (Below wr.heap.size wr w3) := (HBp.out.alloc HBp.out.size _).grown hg2 (HBp.out.alloc HBp.out.size _).size (fun k hk => (HPy.out.own.lt k hk).1); have HPz := hidA (By.app1 (x := 10) hown); obtain ⟨az, cz, hvz⟩ := HPz.out.slice; subst hvz; have HPz : Hid (By wr.heap.size w3 (.slice az (x.length + 1) cz) (x ++ [10])) := (by have h := HPz.out; rw [List.length_append] at h; exact hidA h); clear hown hg2 hat)
            | (at_builtin; refine wpList_append_own_at _ rfl _ _ 46 rfl w1.heap.size 22 iR (.slice none 0 0) 1 24 Tryd.underlying46 hiR hr0 hr1 hr2 rfl (by decide) _ _ _ rfl (HO1.out _ (HBq.out.alloc HBq.out.size _)) ⟨_, 0, none⟩ 1 1 [_] rfl rfl (cell_one_at _ _ _ _ (by first | rfl | simp)) (by intro u hu; simp at hu; subst hu; rfl) (by unfold maxLen; omega) (by omega) (Nat.le_trans hwsz.out (HBq.out.alloc HBq.out.size _).size) ?_; intro v' w4 hown hg2 _ hat; have HR2 := hidA (HP.out _ w4 _ v' _ HBq.out (Sq.of_by HPz.out) rfl _ hown hg2); have HB2 : Hid (Below w1.heap.size w1 w4) := (HB.out.trans ((HBq.out.alloc HBq.out.size _).mono hwsz.out)).grown hg2 (Nat.le_trans hwsz.out (HBq.out.alloc HBq.out.size _).size) HK.out; clear hown hg2 hat))
          exact ⟨⟨k + 1, by first | rfl | go_num, hlt, by rw [HTk.out]; exact HR2, HB2⟩, by simp [intOf]; omega⟩
      · rw [decide_eq_false hk1, Bool.false_or] at HTk
        have hk2 : ¬ (k : Int) < (X.length : Int) - 1 := by omega
        cases E
        · rw [if_neg (by simp), List.append_nil] at HTk
          cases a' with
          | none =>
            have hx0 : x = [] := List.length_eq_zero_iff.1 (by have h1 := HN.out rfl; omega)
            have hc'0 := HN.out rfl
            subst hx0 hc'0
            have HPy := HF
            have HBp := HBf
            have hc9 : wr.cell? ⟨g, o + k, none⟩ = some (.slice none 0 0) := hc
            clear hc HF HBf HSx HN hxc
            go_wp2_with (first
              | (at_builtin; refine wpList_append_own_at _ rfl _ _ 46 rfl w1.heap.size 22 iR (.slice none 0 0) 1 24 Tryd.underlying46 hiR hr0 hr1 hr2 rfl (by decide) _ _ _ rfl (HO1.out _ (HBp.out.alloc HBp.out.size _)) ⟨_, 0, none⟩ 1 1 [_] rfl rfl (cell_one_at _ _ _ _ (by first | rfl | simp)) (by intro u hu; simp at hu; subst hu; rfl) (by unfold maxLen; omega) (by omega) (Nat.le_trans hwsz.out (HBp.out.alloc HBp.out.size _).size) ?_; intro v' w4 hown hg2 _ hat; have HR2 := hidA (HP.out _ w4 _ v' _ HBp.out (Sq.of_by HPy.out) rfl _ hown hg2); have HB2 : Hid (Below w1.heap.size w1 w4) := (HB.out.trans ((HBp.out.alloc HBp.out.size _).mono hwsz.out)).grown hg2 (Nat.le_trans hwsz.out (HBp.out.alloc HBp.out.size _).size) HK.out; clear hown hg2 hat))
            exact ⟨⟨k + 1, by first | rfl | go_num, hlt, by rw [HTk.out]; exact HR2, HB2⟩, by simp [intOf]; omega⟩
          | some ad =>
            go_wp2_with (first
              | (at_builtin; refine wpList_append_own_at _ rfl _ _ 22 rfl wr.heap.size 5 iB (.int .u8 0) 1 1 Tryd.underlying22 hiB hb0 hb1 hb2 rfl (by decide) _ _ _ rfl HF.out.own ad x.length c' (bCs x) rfl (by rw [bCs_len, Nat.mul_one]) (fun j u hj => HSx.out.src.cells_at j u hj) (bCs_one x) (by unfold maxLen; simp only [List.length_nil]; omega) (by simp only [List.length_nil]; omega) HBf.out.size ?_; intro v' w2 hown hg2 _ hat; have HPy : Hid (By wr.heap.size w2 v' x) := By.of_app (bs := []) hown; obtain ⟨ap, cp, hvp⟩ := HPy.out.slice; subst hvp; have HBp : Hid (Below wr.heap.size wr w2) := HBf.out.grown hg2 HBf.out.size (fun k hk => (HF.out.own.lt k hk).1); clear hown hg2 hat)
              | (at_builtin; refine wpList_append_own_at _ rfl _ _ 46 rfl w1.heap.size 22 iR (.slice none 0 0) 1 24 Tryd.underlying46 hiR hr0 hr1 hr2 rfl (by decide) _ _ _ rfl (HO1.out _ (HBp.out.alloc HBp.out.size _)) ⟨_, 0, none⟩ 1 1 [_] rfl rfl (cell_one_at _ _ _ _ (by first | rfl | simp)) (by intro u hu; simp at hu; subst hu; rfl) (by unfold maxLen; omega) (by omega) (Nat.le_trans hwsz.out (HBp.out.alloc HBp.out.size _).size) ?_; intro v' w4 hown hg2 _ hat; have HR2 := hidA (HP.out _ w4 _ v' _ HBp.out (Sq.of_by HPy.out) rfl _ hown hg2); have HB2 : Hid (Below w1.heap.size w1 w4) := (HB.out.trans ((HBp.out.alloc HBp.out.size _).mono hwsz.out)).grown hg2 (Nat.le_trans hwsz.out (HBp.out.alloc HBp.out.size _).size) HK.out; clear hown hg2 hat))
            exact ⟨⟨k + 1, by first | rfl | go_num, hlt, by rw [HTk.out]; exact HR2, HB2⟩, by simp [intOf]; omega⟩
        · rw [if_pos rfl] at HTk
          cases a' with
          | none =>
            have hx0 : x = [] := List.length_eq_zero_iff.1 (by have h1 := HN.out rfl; omega)
            have hc'0 := HN.out rfl
            subst hx0 hc'0
            have HPy := HF
            have HBp := HBf
            have hc9 : wr.cell? ⟨g, o + k, none⟩ = some (.slice none 0 0) := hc
            clear hc HF HBf HSx HN hxc
            go_wp2_with (first
              | (at_builtin; refine wpList_append_own_at _ rfl _ _ 22 rfl wr.heap.size 5 iB (.int .u8 0) 1 1 Tryd.underlying22 hiB hb0 hb1 hb2 rfl (by decide) _ _ _ rfl (HPy.out.own.alloc _) ⟨_, 0, none⟩ 1 1 [.int .u8 10] rfl rfl (cell_one_at _ _ _ _ (by first | rfl | simp)) (one_u8 _) (by unfold maxLen; (try simp only [List.length_nil]); omega) (by (try simp only [List.length_nil]); omega) (HBp.out.alloc HBp.out.size _).size ?_; intro v' w3 hown hg2 _ hat; have HBq : Hid (Below wr.heap.size wr w3) := (HBp.out.alloc HBp.out.size _).grown hg2 (HBp.out.alloc HBp.out.size _).size (fun k hk => (HPy.out.own.lt k hk).1); have HPz := hidA (By.app1 (x := 10) hown); obtain ⟨az, cz, hvz⟩ := HPz.out.slice; subst hvz; have HPz : Hid (By wr.heap.size w3 (.slice az (([] : List UInt8).length + 1) cz) (([] : List UInt8) ++ [10])) := (by have h := HPz.out; rw [List.length_append] at h; exact hidA h); clear hown hg2 hat)
              | (at_builtin; refine wpList_append_own_at _ rfl _ _ 46 rfl w1.heap.size 22 iR (.slice none 0 0) 1 24 Tryd.underlying46 hiR hr0 hr1 hr2 rfl (by decide) _ _ _ rfl (HO1.out _ (HBq.out.alloc HBq.out.size _)) ⟨_, 0, none⟩ 1 1 [_] rfl rfl (cell_one_at _ _ _ _ (by first | rfl | simp)) (by intro u hu; simp at hu; subst hu; rfl) (by unfold maxLen; omega) (by omega) (Nat.le_trans hwsz.out (HBq.out.alloc HBq.out.size _).size) ?_; intro v' w4 hown hg2 _ hat; have HR2 := hidA (HP.out _ w4 _ v' _ HBq.out (Sq.of_by HPz.out) rfl _ hown hg2); have HB2 : Hid (Below w1.heap.size w1 w4) := (HB.out.trans ((HBq.out.alloc HBq.out.size _).mono hwsz.out)).grown hg2 (Nat.le_trans hwsz.out (HBq.out.alloc HBq.out.size _).size) HK.out; clear hown hg2 hat))
            exact ⟨⟨k + 1, by first | rfl | go_num, hlt, by rw [HTk.out]; exact HR2, HB2⟩, by simp [intOf]; omega⟩
          | some ad =>
            go_wp2_with (first
              | (at_builtin; refine wpList_append_own_at _ rfl _ _ 22 rfl wr.heap.size 5 iB (.int .u8 0) 1 1 Tryd.underlying22 hiB hb0 hb1 hb2 rfl (by decide) _ _ _ rfl HF.out.own ad x.length c' (bCs x) rfl (by rw [bCs_len, Nat.mul_one]) (fun j u hj => HSx.out.src.cells_at j u hj) (bCs_one x) (by unfold maxLen; simp only [List.length_nil]; omega) (by simp only [List.length_nil]; omega) HBf.out.size ?_; intro v' w2 hown hg2 _ hat; have HPy : Hid (By wr.heap.size w2 v' x) := By.of_app (bs := []) hown; obtain ⟨ap, cp, hvp⟩ := HPy.out.slice; subst hvp; have HBp : Hid (Below wr.heap.size wr w2) := HBf.out.grown hg2 HBf.out.size (fun k hk => (HF.out.own.lt k hk).1); clear hown hg2 hat)
              | (at_builtin; refine wpList_append_own_at _ rfl _ _ 22 rfl wr.heap.size 5 iB (.int .u8 0) 1 1 Tryd.underlying22 hiB hb0 hb1 hb2 rfl (by decide) _ _ _ rfl (HPy.out.own.alloc _) ⟨_, 0, none⟩ 1 1 [.int .u8 10] rfl rfl (cell_one_at _ _ _ _ (by first | rfl | simp)) (one_u8 _) (by unfold maxLen; (try simp only [List.length_nil]); omega) (by (try simp only [List.length_nil]); omega) (HBp.out.alloc HBp.out.size _).size ?_; intro v' w3 hown hg2 _ hat; have HBq : Hid (Below wr.heap.size wr w3) := (HBp.out.alloc HBp.out.size _).grown hg2 (HBp.out.alloc HBp.out.size _).size (fun k hk => (HPy.out.own.lt k hk).1); have HPz := hidA (By.app1 (x := 10) hown); obtain ⟨az, cz, hvz⟩ := HPz.out.slice; subst hvz; have HPz : Hid (By wr.heap.size w3 (.slice az (x.length + 1) cz) (x ++ [10])) := (by have h := HPz.out; rw [List.length_append] at h; exact hidA h); clear hown hg2 hat)
              | (at_builtin; refine wpList_append_own_at _ rfl _ _ 46 rfl w1.heap.size 22 iR (.slice none 0 0) 1 24 Tryd.underlying46 hiR hr0 hr1 hr2 rfl (by decide) _ _ _ rfl (HO1.out _ (HBq.out.alloc HBq.out.size _)) ⟨_, 0, none⟩ 1 1 [_] rfl rfl (cell_one_at _ _ _ _ (by first | rfl | simp)) (by intro u hu; simp at hu; subst hu; rfl) (by unfold maxLen; omega) (by omega) (Nat.le_trans hwsz.out (HBq.out.alloc HBq.out.size _).size) ?_; intro v' w4 hown hg2 _ hat; have HR2 := hidA (HP.out _ w4 _ v' _ HBq.out (Sq.of_by HPz.out) rfl _ hown hg2); have HB2 : Hid (Below w1.heap.size w1 w4) := (HB.out.trans ((HBq.out.alloc HBq.out.size _).mono hwsz.out)).grown hg2 (Nat.le_trans hwsz.out (HBq.out.alloc HBq.out.size _).size) HK.out; clear hown hg2 hat))
            exact ⟨⟨k + 1, by first | rfl | go_num, hlt, by rw [HTk.out]; exact HR2, HB2⟩, by simp [intOf]; omega⟩
    · have hP : P.take k = P := List.take_of_length_le (by omega)
      generalize P.take k = q at *
      subst hP
      obtain ⟨h1, h2, h3, h4⟩ := HO.out.rd
      have HX := hidA h1
      have HB4 := hidA (HB0.out.trans (HB.out.mono HB0.out.size))
      clear h1 HT HR HXl HF HBf
      go_wp2_with fail
      go_ret
      exact ⟨a5, c5, rfl, HX.out, by omega, h4, HB4.out⟩
end Go.Proofs.YtplnojohlbbalaaDoor
/- Head and Tail of the plain answer. Condition: a length that fits. -/
namespace Go.Proofs.YtplnojohlbbalaaDoor
open Go.RowKit
attribute [local go_sem] ext_eq app_eq get_eq
theorem htRR : Tryd.prog.underlying 46 = some (.slice (Tryd.prog.elem 46)) := by kernel_rfl
theorem szRR (W : World) : (sizeOf (Tryd.prog.elem 46)).run Tryd.prog W = .ok 1 W := by
  have e : Tryd.prog.elem 46 = 22 := by kernel_rfl
  rw [e]
  simp [sizeOf, go_sem]
  rfl
theorem rr_to (a : Option Addr) {n c k : Nat} (hk : k ≤ n) (hc : n ≤ c) (W : World) : (Instr.slice 46 (.slice a n c) none (some (.int .i64 k)) none).run Tryd.prog W = .ok (.slice a k c) W := by
  rw [run_slice_h (P := Tryd.prog) (w := W) 46 a n c htRR .i64 k (by omega) (by omega), szRR]
  cases a <;> simp [Result.andThen, sliced, Addr.add]
theorem rr_from (a : Option Addr) {n c i : Nat} (hi : i ≤ n) (_ : n ≤ c) (W : World) : (Instr.slice 46 (.slice a n c) (some (.int .i64 i)) none none).run Tryd.prog W = .ok (.slice (if c = i then a else a.map (·.add (i * 1))) (n - i) (c - i)) W := by
  rw [run_slice_l (P := Tryd.prog) (w := W) 46 a n c htRR .i64 i (by omega) (by omega), szRR]
  simp [Result.andThen, sliced]
theorem Tl.ps_flat (l : List UInt8) : (Tl.ps l).flatten = l := Tl.flat_all l
end Go.Proofs.YtplnojohlbbalaaDoor
