/- The program's Whole. Condition: lengths that fit. -/
import Derived.Test.YtplnojohlbbalaaM6
namespace Go.Proofs.Ytplnojohlbbalaa
open Go.RowKit
attribute [local go_sem] ext_eq app_eq get_eq
theorem Sr.app_set {B : Nat} {W : World} {g c : Nat} {l : List UInt8} {x : UInt8} (h : Ap B W (some ⟨g, 0, none⟩) c l) (hr : l.length + 1 ≤ c) : Sr (W.setCell ⟨g, l.length, none⟩ (.int .u8 x.toNat)) (some ⟨g, 0, none⟩) c (l ++ [x]) := by
  obtain ⟨g', e, hB, hg⟩ := h.at' _ rfl
  cases e
  have hlt : g < W.heap.size := by
    obtain ⟨u, hu⟩ := Option.isSome_iff_exists.1 (hg l.length (by omega)).1
    exact block_lt_of_cell hu
  refine ⟨fun j hj => ⟨g, 0, rfl, by simpa using hlt, ?_⟩, by rw [List.length_append]; simpa using hr, fun e => by cases e⟩
  rw [Nat.zero_add]
  by_cases e : j = l.length
  · subst e
    obtain ⟨u, hu⟩ := Option.isSome_iff_exists.1 (hg l.length (by omega)).1
    rw [World.cell?_setCell_same _ _ _ hu]
    simp
  · have hjl : j < l.length := by rw [List.length_append] at hj; simp at hj; omega
    rw [World.cell?_setCell_other _ _ _ _ (by intro e9; injection e9 with _ e9 _; exact e e9.symm)]
    obtain ⟨g1, o1, e1, _, hc⟩ := h.src j hjl
    cases e1
    rw [Nat.zero_add] at hc
    rw [hc, List.getElem_append_left hjl]
set_option maxRecDepth 100000 in
set_option maxHeartbeats 2000000 in
theorem oWhole (X : List (List UInt8)) (e : Bool) (a : Option Addr) (c : Nat) (hX : X.length ≤ 1048577) (hF : X.flatten.length ≤ 1048577) (hc : X.length ≤ c) (w : World) (hR : Rd w a X) : Calls Try.prog 11 #[.slice a X.length c, .bool e] w fun y w' => ∃ a' c', y = .returned (.slice a' (Tl.wh X e).length c') ∧ Sr w' a' c' (Tl.wh X e) ∧ Below w.heap.size w w' := by
  obtain ⟨iB, hiB, hb0, hb1, hb2⟩ := infoB
  have HB0 := hidA ((Below.refl w.heap.size w).alloc (Nat.le_refl _) (.cells #[.int .u8 10] 5))
  have HJ := hidA (oJoin X a c w.heap.size hX hF hc (w.alloc (.cells #[.int .u8 10] 5)) (hR.grow HB0.out) (World.cell?_alloc_at _ _ _ _ rfl))
  have hW := Tl.wh_all e X
  have hwl := Tl.wh_len e X
  clear hR
  have HB1 : Hid (∀ W', Below (w.alloc (.cells #[.int .u8 10] 5)).heap.size (w.alloc (.cells #[.int .u8 10] 5)) W' → Below w.heap.size w W') := fun W' b => HB0.out.trans (b.mono HB0.out.size)
  have hsz := HB0.out.size
  generalize Lib.join X [10] = J at *
  by_cases hE : e = true ∧ X ≠ []
  · rw [if_pos hE] at hW
    obtain ⟨rfl, h0⟩ := hE
    have hpos : 0 < X.length := List.length_pos_iff.2 h0
    have hJl : J.length + 1 ≤ 2097154 := by rw [hW, List.length_append] at hwl; simp only [List.length_cons, List.length_nil] at hwl; omega
    rw [hW]
    clear hW hwl
    go_enter Try.func11, Try.ntmps11
    go_upto_region 3 with (go_at_call 24; with_reducible refine HJ.out.mono ?_; rintro y w1 ⟨a1, c1, rfl, h1, h2⟩; have HA := hidA (h1.grow ((Below.refl _ _).alloc (Nat.le_refl _) (.cells #[.int .u8 10] 5))); have HB2 := hidA (HB1.out _ h2); clear h1 h2)
    cases a1 with
    | none =>
      have e0 : J = [] := List.length_eq_zero_iff.1 (by have h1 := HA.out.nil rfl; have h2 := HA.out.le; omega)
      subst e0
      have ec := HA.out.nil rfl
      subst ec
      go_wp2_with (at_builtin; refine wpList_append_own_at _ rfl _ _ 22 rfl w.heap.size 5 iB (.int .u8 0) 1 1 Try.underlying22 hiB hb0 hb1 hb2 rfl (by decide) _ _ _ rfl (By.nil w.heap.size _).own ⟨w1.heap.size, 0, none⟩ 1 1 [.int .u8 10] rfl rfl (cell_one_new _ _ _) (one_u8 _) (by unfold maxLen; omega) (by omega) (by have := HB2.out.size; simp; omega) ?_; intro v' w2 hown hg2 _ hat; have HO2 := hidA (By.app1 (bs := []) (x := 10) hown); have HB3 : Hid (Below w.heap.size w w2) := (HB2.out.alloc HB2.out.size _).grown hg2 (by have := HB2.out.size; simp; omega) (fun k hk => by cases hk); clear hown hg2 hat)
      go_ret
      obtain ⟨a2, c2, rfl⟩ := HO2.out.slice
      exact ⟨a2, c2, rfl, HO2.out.sr, HB3.out⟩
    | some ad =>
      obtain ⟨g, rfl, hgB, hgc⟩ := HA.out.at' ad rfl
      have HG := hidA hgc
      have HC := hidA HA.out.src
      clear hgc
      by_cases hr : J.length + 1 ≤ c1
      · go_wp2_with (at_builtin; refine wpList_append_arg _ rfl _ _ 22 rfl 5 iB (.int .u8 0) 1 1 Try.underlying22 hiB hb0 hb1 hb2 rfl (by decide) g 0 J.length c1 (bCs J) rfl (by rw [bCs_len, Nat.mul_one]) (fun j u hj => by have := HC.out.cells_at j u hj; rw [add0] at this; rw [Nat.zero_add]; exact this) ⟨w1.heap.size, 0, none⟩ 1 1 [.int .u8 10] rfl rfl (cell_one_new _ _ _) (one_u8 _) (fun hr j hj => by have hj0 : j = 0 := (by simpa using hj); subst hj0; have := HG.out J.length (by omega); simpa using this) (by unfold maxLen; omega) (by omega) (fun _ => ?_) (fun h => absurd h (by omega)))
        go_ret
        have HS2 := Sr.app_set (x := 10) HA.out hr
        refine ⟨_, _, by simp, HS2, (HB2.out.alloc HB2.out.size _).setCell (Nat.le_trans hsz hgB) _⟩
      · go_wp2_with (at_builtin; refine wpList_append_arg _ rfl _ _ 22 rfl 5 iB (.int .u8 0) 1 1 Try.underlying22 hiB hb0 hb1 hb2 rfl (by decide) g 0 J.length c1 (bCs J) rfl (by rw [bCs_len, Nat.mul_one]) (fun j u hj => by have := HC.out.cells_at j u hj; rw [add0] at this; rw [Nat.zero_add]; exact this) ⟨w1.heap.size, 0, none⟩ 1 1 [.int .u8 10] rfl rfl (cell_one_new _ _ _) (one_u8 _) (fun hr j hj => by have hj0 : j = 0 := (by simpa using hj); subst hj0; have := HG.out J.length (by omega); simpa using this) (by unfold maxLen; omega) (by omega) ?_ ?_; exact fun h => absurd h hr; intro _ v2 w2 hown hg2)
        go_ret
        have HO2 := By.app1 (x := 10) hown
        obtain ⟨a2, c2, rfl⟩ := HO2.slice
        exact ⟨a2, c2, rfl, HO2.sr, (HB2.out.alloc HB2.out.size _).grown hg2 (HB2.out.alloc HB2.out.size _).size (fun k hk => by cases hk)⟩
  · rw [if_neg hE, List.append_nil] at hW
    rw [hW]
    clear hW hwl
    have HE : Hid (e = false ∨ (e = true ∧ ¬ (0 : Int) < (X.length : Int))) := by
      cases e with
      | false => exact .inl rfl
      | true => exact .inr ⟨rfl, by
          by_cases h0 : X = []
          · subst h0; simp
          · exact absurd ⟨rfl, h0⟩ hE⟩
    clear hE
    rcases HE.out with rfl | ⟨rfl, hn⟩
    all_goals
      go_enter Try.func11, Try.ntmps11
      go_wp2_with (go_at_call 24; with_reducible refine HJ.out.mono ?_; rintro y w1 ⟨a1, c1, rfl, h1, h2⟩; have HA := hidA h1.sr; have HB2 := hidA (HB1.out _ h2); clear h1 h2)
      go_ret
      exact ⟨a1, c1, rfl, HA.out, HB2.out⟩
end Go.Proofs.Ytplnojohlbbalaa
