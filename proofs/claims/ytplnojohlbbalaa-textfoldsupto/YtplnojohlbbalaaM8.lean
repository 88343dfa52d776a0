/- Several texts of this claim, one behind the other, in their order. -/
import Derived.Test.YtplnojohlbbalaaM7
import Derived.ArgAppend
import Derived.Lib.SlFresh
/- The program's Whole. Condition: lengths that fit. -/
namespace Go.Proofs.Ytplnojohlbbalaa
open Go.RowKit
attribute [local go_sem] ext_eq app_eq get_eq
/-- A slice of bytes that can be read, and appended to. -/
structure Ap (B : Nat) (W : World) (a : Option Addr) (c : Nat) (l : List UInt8) : Prop where
  src : Src W a l
  le : l.length ≤ c
  nil : a = none → c = 0
  at' : ∀ ad, a = some ad → ∃ g, ad = ⟨g, 0, none⟩ ∧ B ≤ g ∧ ∀ i, i < c → (W.cell? ⟨g, i, none⟩).isSome = true ∧ W.frozen? ⟨g, i, none⟩ = false
theorem Ap.sr {B : Nat} {W : World} {a : Option Addr} {c : Nat} {l : List UInt8} (h : Ap B W a c l) : Sr W a c l := ⟨h.src, h.le, h.nil⟩
theorem Ap.grow {B : Nat} {W W' : World} {a : Option Addr} {c : Nat} {l : List UInt8} (h : Ap B W a c l) (b : Below W.heap.size W W') : Ap B W' a c l := by
  refine ⟨h.src.grow b (Nat.le_refl _), h.le, h.nil, fun ad ea => ?_⟩
  obtain ⟨g, e, hB, hg⟩ := h.at' ad ea
  refine ⟨g, e, hB, fun i hi => ?_⟩
  obtain ⟨h1, h2⟩ := hg i hi
  have hlt : g < W.heap.size := by
    obtain ⟨u, hu⟩ := Option.isSome_iff_exists.1 h1
    exact block_lt_of_cell hu
  have hk := b.block g hlt
  exact ⟨by rw [World.cell?_of_block (w := W) hk]; exact h1, by rw [← h2]; simp [World.frozen?, hk]⟩
theorem Ap.fresh {B : Nat} {W : World} {v : Value} {l : List UInt8} (h : Lib.FreshBytes B W v l) : ∃ a c, v = .slice a l.length c ∧ Ap B W a c l := by
  obtain ⟨g, cap, zs, rfl, hB, h1, h2, h3, h4, h5, h6, h7⟩ := h
  refine ⟨_, _, rfl, fun j hj => ⟨g, 0, rfl, ?_, ?_⟩, h1, fun e => (by cases e), fun ad ea => ?_⟩
  · exact block_lt_of_cell (h6 j (by omega))
  · rw [Nat.zero_add, h6 j (by omega)]
    have hz : j < zs.length := by omega
    have e1 : zs.getD j 0 = zs[j] := by rw [List.getD_eq_getElem?_getD, List.getElem?_eq_getElem hz]; rfl
    have hb := h4 zs[j] (List.getElem_mem hz)
    have e2 : l[j] = UInt8.ofNat (zs[j]).toNat := by
      have := congrArg (fun q => q[j]?) h5
      simp only [Lib.bytesOf, List.getElem?_map, List.getElem?_take, hj, if_true] at this
      rw [List.getElem?_eq_getElem hz, List.getElem?_eq_getElem hj] at this
      simpa using this.symm
    rw [e1, e2]
    have e3 : (UInt8.ofNat (zs[j]).toNat).toNat = (zs[j]).toNat := by simp; omega
    rw [e3, Int.toNat_of_nonneg hb.1]
  · injection ea with ea
    exact ⟨g, ea.symm, hB, fun i hi => ⟨by rw [h6 i hi]; rfl, h7 i hi⟩⟩
theorem Ap.empty (B : Nat) (W : World) : Ap B W none 0 [] := ⟨Src.nil _ _, Nat.le_refl _, fun _ => rfl, fun _ e => (by cases e)⟩
theorem lens_eq : ∀ X : List (List UInt8), Lib.lens X = X.flatten.length
  | [] => by simp [Lib.lens]
  | x :: r => by
    have ih := lens_eq r
    simp only [Lib.lens, List.map_cons, List.sum_cons, List.flatten_cons, List.length_append] at ih ⊢
    rw [ih]
/-- Join of rows that are read, with a line feed between. -/
theorem oJoin (X : List (List UInt8)) (a : Option Addr) (c g : Nat) (hX : X.length ≤ 1048577) (hF : X.flatten.length ≤ 1048577) (hc : X.length ≤ c) (w : World) (hR : Rd w a X) (hg : w.cell? ⟨g, 0, none⟩ = some (.int .u8 10)) : Calls Try.prog 24 #[.slice a X.length c, .slice (some ⟨g, 0, none⟩) 1 1] w fun e w' => ∃ a' c', e = .returned (.slice a' (Lib.join X [10]).length c') ∧ Ap w.heap.size w' a' c' (Lib.join X [10]) ∧ Below w.heap.size w w' := by
  match X, hX, hF, hc, hR with
  | [], _, _, _, _ =>
    refine (Try.bytes_Join_none a c _ w).mono ?_
    rintro e w' ⟨rfl, rfl⟩
    refine ⟨_, 0, rfl, ⟨Src.nil _ _, Nat.le_refl _, fun e => (by cases e), fun ad ea => ?_⟩, (Below.refl _ _).alloc (Nat.le_refl _) _⟩
    injection ea with ea
    exact ⟨_, ea.symm, Nat.le_refl _, fun i hi => absurd hi (Nat.not_lt_zero _)⟩
  | [x], _, hF, _, hR =>
    obtain ⟨g0, o, a', c', rfl, hg0, hc0, hs⟩ := hR 0 (by simp)
    rw [Lib.join_one]
    have hx0 : x.length ≤ 1048577 := by simpa using hF
    have hcell : w.cell? ⟨g0, o, none⟩ = some (.slice a' x.length c') := hc0
    have hs' : Sr w a' c' x := hs
    by_cases h0 : x.length = 0
    · rw [h0] at hcell
      refine (Try.bytes_Join_one_empty g0 o c a' c' _ w hcell).mono ?_
      rintro e w' ⟨rfl, rfl⟩
      have ex : x = [] := List.length_eq_zero_iff.1 h0
      subst ex
      exact ⟨none, 0, rfl, Ap.empty _ _, Below.refl _ _⟩
    · obtain ⟨gs, os, ea, _, _⟩ := hs'.src 0 (by omega)
      subst ea
      refine (Try.bytes_Join_one g0 o c ⟨gs, os, none⟩ c' x _ w hcell (fun i u hu => ?_) (by omega) (by omega)).mono ?_
      · have hi := (List.getElem?_eq_some_iff.1 hu)
        obtain ⟨hi1, hi2⟩ := hi
        subst hi2
        obtain ⟨_, _, e2, _, hc2⟩ := hs'.src i hi1
        cases e2
        rw [show (⟨gs, os, none⟩ : Addr).add i = ⟨gs, os + i, none⟩ by simp [Addr.add]]; exact hc2
      · rintro e w' ⟨v, rfl, hf, hb⟩
        obtain ⟨a2, c2, rfl, hA⟩ := Ap.fresh hf
        exact ⟨a2, c2, rfl, hA, hb⟩
  | x :: y :: r, hX, hF, hc, hR =>
    obtain ⟨g0, o, _, _, rfl, _, _, _⟩ := hR 0 (by simp)
    have hex : ∀ i, i < (x :: y :: r).length → ∃ v, w.cell? ⟨g0, o + i, none⟩ = some v ∧ ∀ h : i < (x :: y :: r).length, Lib.HoldsBytes w v ((x :: y :: r)[i]) := fun i hi => by
      obtain ⟨g1, o1, a', c', e, hg1, hc1, hs⟩ := hR i hi
      cases e
      refine ⟨_, hc1, fun h => ⟨a', c', rfl, fun e => List.length_eq_zero_iff.1 (by have h1 := hs.nil e; have h2 := hs.le; omega), fun ad ea j u hu => ?_⟩⟩
      obtain ⟨hj1, hj2⟩ := List.getElem?_eq_some_iff.1 hu
      subst hj2
      obtain ⟨gs, os, e2, _, hc2⟩ := hs.src j hj1
      rw [ea] at e2
      cases e2
      rw [show (⟨gs, os, none⟩ : Addr).add j = ⟨gs, os + j, none⟩ by simp [Addr.add]]; exact hc2
    obtain ⟨vs, hvl, hvq⟩ : ∃ vs : List Value, vs.length = (x :: y :: r).length ∧ ∀ i v, vs[i]? = some v → w.cell? ⟨g0, o + i, none⟩ = some v ∧ ∀ h : i < (x :: y :: r).length, Lib.HoldsBytes w v ((x :: y :: r)[i]) := by
      have := fun n (hn : n ≤ (x :: y :: r).length) => (show ∃ vs : List Value, vs.length = n ∧ ∀ i v, vs[i]? = some v → w.cell? ⟨g0, o + i, none⟩ = some v ∧ ∀ h : i < (x :: y :: r).length, Lib.HoldsBytes w v ((x :: y :: r)[i]) by
        induction n with
        | zero => exact ⟨[], rfl, fun i v h => by simp at h⟩
        | succ n ih =>
          obtain ⟨vs, h1, h2⟩ := ih (by omega)
          obtain ⟨v, h3, h4⟩ := hex n (by omega)
          refine ⟨vs ++ [v], by simp [h1], fun i u hu => ?_⟩
          by_cases hi : i < vs.length
          · rw [List.getElem?_append_left hi] at hu; exact h2 i u hu
          · rw [List.getElem?_append_right (by omega)] at hu
            have hin : i = n := by
              rcases Nat.lt_or_ge (i - vs.length) 1 with h | h
              · omega
              · rw [List.getElem?_eq_none (by simpa using h)] at hu; cases hu
            subst hin
            rw [show i - vs.length = 0 by omega] at hu
            simp at hu; subst hu
            exact ⟨h3, h4⟩)
      exact this _ (Nat.le_refl _)
    refine (Try.bytes_Join_many g0 o (x :: y :: r).length c vs (x :: y :: r) _ [10] w rfl (by simp) ⟨hvl, fun i v hv => ?_, fun i v l hv hl => ?_⟩ hc ⟨some ⟨g, 0, none⟩, 1, rfl, fun e => (by cases e), fun ad ea i u hu => ?_⟩ (by omega) (by rw [lens_eq]; simp only [List.length_cons, List.length_nil] at hX ⊢; omega)).mono ?_
    · rw [show (⟨g0, o, none⟩ : Addr).add i = ⟨g0, o + i, none⟩ by simp [Addr.add]]; exact (hvq i v hv).1
    · obtain ⟨hi1, hi2⟩ := List.getElem?_eq_some_iff.1 hl
      subst hi2
      exact (hvq i v hv).2 hi1
    · injection ea with ea
      subst ea
      match i, hu with
      | 0, hu => simp at hu; subst hu; simpa [Addr.add] using hg
    · rintro e w' ⟨v, rfl, hf, hb⟩
      obtain ⟨a2, c2, rfl, hA⟩ := Ap.fresh hf
      exact ⟨a2, c2, rfl, hA, hb⟩
end Go.Proofs.Ytplnojohlbbalaa
/- The program's Whole. Condition: lengths that fit. -/
namespace Go.Proofs.Ytplnojohlbbalaa
open Go.RowKit
attribute [local go_sem] ext_eq app_eq get_eq
theorem Sr.app_set {B : Nat} {W : World} {g c : Nat} {l : List UInt8} {x : UInt8} (h : Ap B W (some ⟨g, 0, none⟩) c l) (hr : l.length + 1 ≤ c) : Sr (W.setCell ⟨g, l.length, none⟩ (.int .u8 x.toNat)) (some ⟨g, 0, none⟩) c (l ++ [x]) := by
  obtain ⟨g', e, hB, hg⟩ := h.at' _ rfl
  cases e
  have hlt : g < W.heap.size := by
    obtain ⟨u, hu⟩ := Option.isSome_iff_exists.1 (hg l.length (by omega)).1
    exact block_lt_of_cell hu
  refine ⟨fun j hj => ⟨g, 0, rfl, by simpa using hlt, ?_⟩, by rw [List.length_append]; simpa using hr, fun e => by cases e⟩
  rw [Nat.zero_add]
  by_cases e : j = l.length
  · subst e
    obtain ⟨u, hu⟩ := Option.isSome_iff_exists.1 (hg l.length (by omega)).1
    rw [World.cell?_setCell_same _ _ _ hu]
    simp
  · have hjl : j < l.length := by rw [List.length_append] at hj; simp at hj; omega
    rw [World.cell?_setCell_other _ _ _ _ (by intro e9; injection e9 with _ e9 _; exact e e9.symm)]
    obtain ⟨g1, o1, e1, _, hc⟩ := h.src j hjl
    cases e1
    rw [Nat.zero_add] at hc
    rw [hc, List.getElem_append_left hjl]
set_option maxRecDepth 100000 in
set_option maxHeartbeats 2000000 in
theorem oWhole (X : List (List UInt8)) (e : Bool) (a : Option Addr) (c : Nat) (hX : X.length ≤ 1048577) (hF : X.flatten.length ≤ 1048577) (hc : X.length ≤ c) (w : World) (hR : Rd w a X) : Calls Try.prog 11 #[.slice a X.length c, .bool e] w fun y w' => ∃ a' c', y = .returned (.slice a' (Tl.wh X e).length c') ∧ Sr w' a' c' (Tl.wh X e) ∧ Below w.heap.size w w' := by
  obtain ⟨iB, hiB, hb0, hb1, hb2⟩ := infoB
  have HB0 := hidA ((Below.refl w.heap.size w).alloc (Nat.le_refl _) (.cells #[.int .u8 10] 5))
  have HJ := hidA (oJoin X a c w.heap.size hX hF hc (w.alloc (.cells #[.int .u8 10] 5)) (hR.grow HB0.out) (World.cell?_alloc_at _ _ _ _ rfl))
  have hW := Tl.wh_all e X
  have hwl := Tl.wh_len e X
  clear hR
  have HB1 : Hid (∀ W', Below (w.alloc (.cells #[.int .u8 10] 5)).heap.size (w.alloc (.cells #[.int .u8 10] 5)) W' → Below w.heap.size w W') := fun W' b => HB0.out.trans (b.mono HB0.out.size)
  have hsz := HB0.out.size
  generalize Lib.join X [10] = J at *
  by_cases hE : e = true ∧ X ≠ []
  · rw [if_pos hE] at hW
    obtain ⟨rfl, h0⟩ := hE
    have hpos : 0 < X.length := List.length_pos_iff.2 h0
    have hJl : J.length + 1 ≤ 2097154 := by rw [hW, List.length_append] at hwl; simp only [List.length_cons, List.length_nil] at hwl; omega
    rw [hW]
    clear hW hwl
    go_enter Try.func11, Try.ntmps11
    go_upto_region 3 with (go_at_call 24; with_reducible refine HJ.out.mono ?_; rintro y w1 ⟨a1, c1, rfl, h1, h2⟩; have HA := hidA (h1.grow ((Below.refl _ _).alloc (Nat.le_refl _) (.cells #[.int .u8 10] 5))); have HB2 := hidA (HB1.out _ h2); clear h1 h2)
    cases a1 with
    | none =>
      have e0 : J = [] := List.length_eq_zero_iff.1 (by have h1 := HA.out.nil rfl; have h2 := HA.out.le; omega)
      subst e0
      have ec := HA.out.nil rfl
      subst ec
      go_wp2_with (at_builtin; refine wpList_append_own_at _ rfl _ _ 22 rfl w.heap.size 5 iB (.int .u8 0) 1 1 Try.underlying22 hiB hb0 hb1 hb2 rfl (by decide) _ _ _ rfl (By.nil w.heap.size _).own ⟨w1.heap.size, 0, none⟩ 1 1 [.int .u8 10] rfl rfl (cell_one_new _ _ _) (one_u8 _) (by unfold maxLen; omega) (by omega) (by have := HB2.out.size; simp; omega) ?_; intro v' w2 hown hg2 _ hat; have HO2 := hidA (By.app1 (bs := []) (x := 10) hown); have HB3 : Hid (Below w.heap.size w w2) := (HB2.out.alloc HB2.out.size _).grown hg2 (by have := HB2.out.size; simp; omega) (fun k hk => by cases hk); clear hown hg2 hat)
      go_ret
      obtain ⟨a2, c2, rfl⟩ := HO2.out.slice
      exact ⟨a2, c2, rfl, HO2.out.sr, HB3.out⟩
    | some ad =>
      obtain ⟨g, rfl, hgB, hgc⟩ := HA.out.at' ad rfl
      have HG := hidA hgc
      have HC := hidA HA.out.src
      clear hgc
      by_cases hr : J.length + 1 ≤ c1
      · go_wp2_with (at_builtin; refine wpList_append_arg _ rfl _ _ 22 rfl 5 iB (.int .u8 0) 1 1 Try.underlying22 hiB hb0 hb1 hb2 rfl (by decide) g 0 J.length c1 (bCs J) rfl (by rw [bCs_len, Nat.mul_one]) (fun j u hj => by have := HC.out.cells_at j u hj; rw [add0] at this; rw [Nat.zero_add]; exact this) ⟨w1.heap.size, 0, none⟩ 1 1 [.int .u8 10] rfl rfl (cell_one_new _ _ _) (one_u8 _) (fun hr j hj => by have hj0 : j = 0 := (by simpa using hj); subst hj0; have := HG.out J.length (by omega); simpa using this) (by unfold maxLen; omega) (by omega) (fun _ => ?_) (fun h => absurd h (by omega)))
        go_ret
        have HS2 := Sr.app_set (x := 10) HA.out hr
        refine ⟨_, _, by simp, HS2, (HB2.out.alloc HB2.out.size _).setCell (Nat.le_trans hsz hgB) _⟩
      · go_wp2_with (at_builtin; refine wpList_append_arg _ rfl _ _ 22 rfl 5 iB (.int .u8 0) 1 1 Try.underlying22 hiB hb0 hb1 hb2 rfl (by decide) g 0 J.length c1 (bCs J) rfl (by rw [bCs_len, Nat.mul_one]) (fun j u hj => by have := HC.out.cells_at j u hj; rw [add0] at this; rw [Nat.zero_add]; exact this) ⟨w1.heap.size, 0, none⟩ 1 1 [.int .u8 10] rfl rfl (cell_one_new _ _ _) (one_u8 _) (fun hr j hj => by have hj0 : j = 0 := (by simpa using hj); subst hj0; have := HG.out J.length (by omega); simpa using this) (by unfold maxLen; omega) (by omega) ?_ ?_; exact fun h => absurd h hr; intro _ v2 w2 hown hg2)
        go_ret
        have HO2 := By.app1 (x := 10) hown
        obtain ⟨a2, c2, rfl⟩ := HO2.slice
        exact ⟨a2, c2, rfl, HO2.sr, (HB2.out.alloc HB2.out.size _).grown hg2 (HB2.out.alloc HB2.out.size _).size (fun k hk => by cases hk)⟩
  · rw [if_neg hE, List.append_nil] at hW
    rw [hW]
    clear hW hwl
    have HE : Hid (e = false ∨ (e = true ∧ ¬ (0 : Int) < (X.length : Int))) := by
      cases e with
      | false => exact .inl rfl
      | true => exact .inr ⟨rfl, by
          by_cases h0 : X = []
          · subst h0; simp
          · exact absurd ⟨rfl, h0⟩ hE⟩
    clear hE
    rcases HE.out with rfl | ⟨rfl, hn⟩
    all_goals
      go_enter Try.func11, Try.ntmps11
      go_wp2_with (go_at_call 24; with_reducible refine HJ.out.mono ?_; rintro y w1 ⟨a1, c1, rfl, h1, h2⟩; have HA := hidA h1.sr; have HB2 := hidA (HB1.out _ h2); clear h1 h2)
      go_ret
      exact ⟨a1, c1, rfl, HA.out, HB2.out⟩
end Go.Proofs.Ytplnojohlbbalaa
