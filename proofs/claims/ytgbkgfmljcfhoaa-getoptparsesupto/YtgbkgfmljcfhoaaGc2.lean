/- The walk of the plain answer Join. Conditions: the lists' cells are as said; lengths that fit. -/
import Derived.Test.YtgbkgfmljcfhoaaGc1
namespace Go.Proofs.Ytgbkgfmljcfhoaa
open Go.RowKit
attribute [local go_sem] ext_eq app_eq get_eq
set_option maxRecDepth 100000 in
set_option maxHeartbeats 4000000 in
theorem rJoin (spec : List UInt8) (opts : List Ga.Opt) (rest : List (List UInt8)) (oa ra : Option Addr) (oc rc : Nat) (w : World) (hs : spec.length ≤ 2 ^ 47) (hO : Opts w oa opts) (hS : Strs w ra rest) (hrn : ra = none → rc = 0 ∧ rest = []) (hn : ∀ o ∈ opts, o.1.length ≤ 2 ^ 47) (hM : opts.length * 2 + rest.length ≤ 2 ^ 40) :
    Calls Try.prog 14 #[.string ⟨spec.toArray⟩, .slice oa opts.length oc, .slice ra rest.length rc] w fun e W => OutJ w W e (joinR spec opts rest) ∧ Below w.heap.size w W := by
  obtain ⟨i0, hi, hz0, hz1, hz2⟩ := infoS
  have HO : Hid (Opts w oa opts) := hO
  have HS : Hid (Strs w ra rest) := hS
  have HN : Hid (∀ o ∈ opts, o.1.length ≤ 2 ^ 47) := hn
  have HRN : Hid (ra = none → rc = 0 ∧ rest = []) := hrn
  clear hO hS hn hrn
  have HSp : Hid (Calls Try.prog 29 #[.string ⟨spec.toArray⟩] w fun e w' => e = .returned (.bool (Ga.specB (Ga.bare spec))) ∧ ∃ m, w' = w.drewN m) := rSpec spec w hs
  have HD : Hid (∀ n, Below w.heap.size w (w.drewN n)) := fun n => ⟨rfl, rfl, rfl, Nat.le_refl _, fun _ _ => rfl⟩
  cases hsp : Ga.specB (Ga.bare spec) with
  | false =>
    rw [hsp] at HSp
    have HX : Hid (joinR spec opts rest = none) := by show _ = _; rw [joinR, hsp]; rfl
    generalize joinR spec opts rest = R at *
    clear hsp
    go_enter Try.func14, Try.ntmps14
    go_wp2_with fail
    refine HSp.out.mono ?_
    rintro e w1 ⟨rfl, m, hw1⟩
    rw [hw1]
    clear hw1 w1
    go_wp2
    go_ret2
    exact ⟨by rw [HX.out]; rfl, HD.out _⟩
  | true =>
    rw [hsp] at HSp
    have HK : Hid (joinR spec opts rest = (jns (oneS (Ga.tks (Ga.bare spec))) opts []).map (fun l => l ++ [[45, 45]] ++ rest)) := by show _ = _; rw [joinR, if_pos hsp]
    generalize joinR spec opts rest = R at *
    clear hsp
    go_enter Try.func14, Try.ntmps14
    go_wp2_with fail
    refine HSp.out.mono ?_
    rintro e w1 ⟨rfl, m, hw1⟩
    rw [hw1]
    clear hw1 w1
    have HC : Hid (∀ V, Below w.heap.size w V → Opts V oa opts ∧ Strs V ra rest) := fun V hV => ⟨HO.out.grow hV, HS.out.grow hV⟩
    go_wp2_with fail
    go_loopw [8, 18] (fun v i V => ∃ (k : Nat) (ws : List (List UInt8)), i = .int .i64 k ∧ k ≤ opts.length ∧ ws.length ≤ k * 2 ∧ w.heap.size ≤ V.heap.size ∧ Hid (Below w.heap.size w V) ∧ Hid (V.ownsRow w.heap.size 9 1 v ws.length (ws.map sv)) ∧ Hid (R = (jns (oneS (Ga.tks (Ga.bare spec))) (opts.drop k) ws).map (fun l => l ++ [[45, 45]] ++ rest))) (fun _ i _ => opts.length - (intOf i).toNat)
    case atStart => exact ⟨0, [], rfl, Nat.zero_le _, Nat.le_refl _, Nat.le_refl _, HD.out _, World.ownsRow_nil _ _ _ _, HK⟩
    case round =>
      obtain ⟨k, ws, rfl, hk, hwl, hbs, HBV, HOw, HE⟩ := hrel
      obtain ⟨hOV, hSV⟩ := HC.out _ HBV.out
      by_cases hlt : k < opts.length
      · obtain ⟨bk, o, hoa, hbk, hc1, hc2⟩ := hOV k opts[k] (List.getElem?_eq_getElem hlt)
        have HJ : Hid (jns (oneS (Ga.tks (Ga.bare spec))) (opts.drop k) ws = _) := jns_drop (oneS (Ga.tks (Ga.bare spec))) opts k hlt ws
        have hnl : opts[k].1.length ≤ 2 ^ 47 := HN.out _ (List.getElem_mem hlt)
        clear hOV hSV
        subst hoa
        generalize opts[k] = op at *
        obtain ⟨nm, ar⟩ := op
        dsimp only at hc1 hc2 HJ hnl
        by_cases hone : nm.length = 1
        · obtain ⟨ch, rfl⟩ : ∃ ch, nm = [ch] := List.length_eq_one_iff.1 hone
          have HVL : Hid (∀ k, Value.ownBlock u8 = some k → w.heap.size ≤ k ∧ k < wr.heap.size) := HOw.out.lt
          have hwl2 : ws.length ≤ 2 ^ 40 - 2 := by omega
          clear hone hnl
          rw [show oneS (Ga.tks (Ga.bare spec)) [ch] = Ga.tks (Ga.bare spec) ch from rfl] at HJ
          cases hkk : Ga.tks (Ga.bare spec) ch with
          | none =>
            rw [hkk] at HJ
            have HX : Hid (R = none) := by show _ = _; rw [HE.out, HJ.out]; rfl
            have HQ : Hid (∀ V, Calls Try.prog 30 #[.string ⟨spec.toArray⟩, .int .u8 ch.toNat] V fun e w' => e = .returned (.tuple #[.bool false, .bool false]) ∧ ∃ m, w' = V.drewN m) := fun V => by
              have := rTakes spec ch V hs; rw [hkk] at this; exact this
            clear hkk
            go_wp2_with (go_at_call 30; refine (HQ.out _).mono ?_; rintro e w4' ⟨rfl, m4, hw4⟩; obtain ⟨w4, hw4e⟩ : ∃ w4, w4 = w4' := ⟨_, rfl⟩; rw [← hw4e]; rw [← hw4e] at hw4; clear hw4e w4'; have hB4 : Below (wr.heap.size + 1) (wr.alloc (.cells #[.string ⟨#[ch]⟩, .string ⟨ar.toArray⟩] 67)) w4 := (by rw [hw4]; exact ⟨rfl, rfl, rfl, Nat.le_refl _, fun _ _ => rfl⟩); clear hw4; have hz4 := hB4.size; rw [World.size_alloc] at hz4; have HB4 : Hid (Below w.heap.size w w4) := (HBV.out.alloc (by omega) _).trans (hB4.mono (by omega)); have d0 : w4.cell? ⟨wr.heap.size, 0, none⟩ = some (.string ⟨#[ch]⟩) := (hB4.cell (p := ⟨wr.heap.size, 0, none⟩) (by simp)).trans (World.cell?_alloc_at _ _ _ _ rfl); have d1 : w4.cell? ⟨wr.heap.size, 1, none⟩ = some (.string ⟨ar.toArray⟩) := (hB4.cell (p := ⟨wr.heap.size, 1, none⟩) (by simp)).trans (World.cell?_alloc_at _ _ _ _ rfl); have HO4 : Hid (w4.ownsRow w.heap.size 9 1 u8 ws.length (ws.map sv)) := own_grow (HOw.out.alloc _) (by rw [World.size_alloc]; exact hB4); clear hB4)
            go_ret2
            exact ⟨by rw [HX.out]; rfl, HB4.out⟩
          | some b =>
            cases b with
            | false =>
              rw [hkk] at HJ
              dsimp only at HJ
              have HQ : Hid (∀ V, Calls Try.prog 30 #[.string ⟨spec.toArray⟩, .int .u8 ch.toNat] V fun e w' => e = .returned (.tuple #[.bool true, .bool false]) ∧ ∃ m, w' = V.drewN m) := fun V => by
                have := rTakes spec ch V hs; rw [hkk] at this; exact this
              clear hkk
              by_cases har : ar = []
              · subst har
                rw [if_pos rfl] at HJ
                have HX : Hid (R = (jns (oneS (Ga.tks (Ga.bare spec))) (opts.drop (k + 1)) (ws ++ [[45, ch]])).map (fun l => l ++ [[45, 45]] ++ rest)) := by show _ = _; rw [HE.out, HJ.out]
                go_wp2_with (first
                  | (go_at_call 30; refine (HQ.out _).mono ?_; rintro e w4' ⟨rfl, m4, hw4⟩; obtain ⟨w4, hw4e⟩ : ∃ w4, w4 = w4' := ⟨_, rfl⟩; rw [← hw4e]; rw [← hw4e] at hw4; clear hw4e w4'; have hB4 : Below (wr.heap.size + 1) (wr.alloc (.cells #[.string ⟨#[ch]⟩, .string ⟨#[]⟩] 67)) w4 := (by rw [hw4]; exact ⟨rfl, rfl, rfl, Nat.le_refl _, fun _ _ => rfl⟩); clear hw4; have hz4 := hB4.size; rw [World.size_alloc] at hz4; have HB4 : Hid (Below w.heap.size w w4) := (HBV.out.alloc (by omega) _).trans (hB4.mono (by omega)); have d0 : w4.cell? ⟨wr.heap.size, 0, none⟩ = some (.string ⟨#[ch]⟩) := (hB4.cell (p := ⟨wr.heap.size, 0, none⟩) (by simp)).trans (World.cell?_alloc_at _ _ _ _ rfl); have d1 : w4.cell? ⟨wr.heap.size, 1, none⟩ = some (.string ⟨#[]⟩) := (hB4.cell (p := ⟨wr.heap.size, 1, none⟩) (by simp)).trans (World.cell?_alloc_at _ _ _ _ rfl); have HO4 : Hid (w4.ownsRow w.heap.size 9 1 u8 ws.length (ws.map sv)) := own_grow (HOw.out.alloc _) (by rw [World.size_alloc]; exact hB4); clear hB4)
                  | (at_builtin; refine wpList_append_own_at _ rfl _ _ 22 rfl w.heap.size 9 i0 (.string ⟨#[]⟩) 1 16 Try.underlying22 hi hz0 hz1 hz2 rfl (by decide) _ _ _ rfl (HO4.out.alloc _) ⟨w4.heap.size, 0, none⟩ 1 1 [.string ⟨([45, ch]).toArray⟩] rfl rfl (cell_one_new _ _ _) (one_cell ([45, ch])) (by unfold maxLen; omega) (by omega) (by simp; omega) ?_; intro v5 w5 hown hg _ hat; have HO5 : Hid (w5.ownsRow w.heap.size 9 1 v5 (ws ++ [[45, ch]]).length ((ws ++ [[45, ch]]).map sv)) := own_snoc hown; have hz5 := hg.size; rw [World.size_alloc] at hz5; have HZ5 : Hid (w.heap.size ≤ w5.heap.size) := (by show _ ≤ _; omega); have HB5 : Hid (Below w.heap.size w w5) := (HB4.out.alloc (by omega) _).grown hg (by simp; omega) (fun k hk => (HVL.out k hk).1); have d1' : w5.cell? ⟨wr.heap.size, 1, none⟩ = w4.cell? ⟨wr.heap.size, 1, none⟩ := World.cell?_of_block (a := ⟨wr.heap.size, 1, none⟩) ((hg.block wr.heap.size (by simp; omega) (fun e => by have := (HVL.out _ e.symm).2; omega)).trans (Below.heap_alloc _ _ _ (by omega))); rw [d1] at d1'; clear hown hg hat))
                exact ⟨⟨k + 1, ws ++ [[45, ch]], by go_num, by omega, by simp; omega, HZ5.out, HB5, HO5, HX⟩, by simp [intOf]; omega⟩
              · rw [if_neg har] at HJ
                have har' : (ar == []) = false := by simpa using har
                have har2 : ar.isEmpty = false := by simpa using har
                have HX : Hid (R = none) := by show _ = _; rw [HE.out, HJ.out]; rfl
                clear har
                go_wp2_with (go_at_call 30; refine (HQ.out _).mono ?_; rintro e w4' ⟨rfl, m4, hw4⟩; obtain ⟨w4, hw4e⟩ : ∃ w4, w4 = w4' := ⟨_, rfl⟩; rw [← hw4e]; rw [← hw4e] at hw4; clear hw4e w4'; have hB4 : Below (wr.heap.size + 1) (wr.alloc (.cells #[.string ⟨#[ch]⟩, .string ⟨ar.toArray⟩] 67)) w4 := (by rw [hw4]; exact ⟨rfl, rfl, rfl, Nat.le_refl _, fun _ _ => rfl⟩); clear hw4; have hz4 := hB4.size; rw [World.size_alloc] at hz4; have HB4 : Hid (Below w.heap.size w w4) := (HBV.out.alloc (by omega) _).trans (hB4.mono (by omega)); have d0 : w4.cell? ⟨wr.heap.size, 0, none⟩ = some (.string ⟨#[ch]⟩) := (hB4.cell (p := ⟨wr.heap.size, 0, none⟩) (by simp)).trans (World.cell?_alloc_at _ _ _ _ rfl); have d1 : w4.cell? ⟨wr.heap.size, 1, none⟩ = some (.string ⟨ar.toArray⟩) := (hB4.cell (p := ⟨wr.heap.size, 1, none⟩) (by simp)).trans (World.cell?_alloc_at _ _ _ _ rfl); have HO4 : Hid (w4.ownsRow w.heap.size 9 1 u8 ws.length (ws.map sv)) := own_grow (HOw.out.alloc _) (by rw [World.size_alloc]; exact hB4); clear hB4)
                go_ret2
                exact ⟨by rw [HX.out]; rfl, HB4.out⟩
            | true =>
              rw [hkk] at HJ
              dsimp only at HJ
              have HQ : Hid (∀ V, Calls Try.prog 30 #[.string ⟨spec.toArray⟩, .int .u8 ch.toNat] V fun e w' => e = .returned (.tuple #[.bool true, .bool true]) ∧ ∃ m, w' = V.drewN m) := fun V => by
                have := rTakes spec ch V hs; rw [hkk] at this; exact this
              clear hkk
              have HL5 : Hid ((ws ++ [[45, ch]]).length ≤ 2 ^ 40 - 1) := by show _ ≤ _; simp; omega
              have HX : Hid (R = (jns (oneS (Ga.tks (Ga.bare spec))) (opts.drop (k + 1)) (ws ++ [[45, ch]] ++ [ar])).map (fun l => l ++ [[45, 45]] ++ rest)) := by show _ = _; rw [HE.out, HJ.out]
              go_wp2_with (first
                | (go_at_call 30; refine (HQ.out _).mono ?_; rintro e w4' ⟨rfl, m4, hw4⟩; obtain ⟨w4, hw4e⟩ : ∃ w4, w4 = w4' := ⟨_, rfl⟩; rw [← hw4e]; rw [← hw4e] at hw4; clear hw4e w4'; have hB4 : Below (wr.heap.size + 1) (wr.alloc (.cells #[.string ⟨#[ch]⟩, .string ⟨ar.toArray⟩] 67)) w4 := (by rw [hw4]; exact ⟨rfl, rfl, rfl, Nat.le_refl _, fun _ _ => rfl⟩); clear hw4; have hz4 := hB4.size; rw [World.size_alloc] at hz4; have HB4 : Hid (Below w.heap.size w w4) := (HBV.out.alloc (by omega) _).trans (hB4.mono (by omega)); have d0 : w4.cell? ⟨wr.heap.size, 0, none⟩ = some (.string ⟨#[ch]⟩) := (hB4.cell (p := ⟨wr.heap.size, 0, none⟩) (by simp)).trans (World.cell?_alloc_at _ _ _ _ rfl); have d1 : w4.cell? ⟨wr.heap.size, 1, none⟩ = some (.string ⟨ar.toArray⟩) := (hB4.cell (p := ⟨wr.heap.size, 1, none⟩) (by simp)).trans (World.cell?_alloc_at _ _ _ _ rfl); have HO4 : Hid (w4.ownsRow w.heap.size 9 1 u8 ws.length (ws.map sv)) := own_grow (HOw.out.alloc _) (by rw [World.size_alloc]; exact hB4); clear hB4)
                | (at_builtin; refine wpList_append_own_at _ rfl _ _ 22 rfl w.heap.size 9 i0 (.string ⟨#[]⟩) 1 16 Try.underlying22 hi hz0 hz1 hz2 rfl (by decide) _ _ _ rfl (HO4.out.alloc _) ⟨w4.heap.size, 0, none⟩ 1 1 [.string ⟨([45, ch]).toArray⟩] rfl rfl (cell_one_new _ _ _) (one_cell ([45, ch])) (by unfold maxLen; omega) (by omega) (by simp; omega) ?_; intro v5 w5 hown hg _ hat; have HO5 : Hid (w5.ownsRow w.heap.size 9 1 v5 (ws ++ [[45, ch]]).length ((ws ++ [[45, ch]]).map sv)) := own_snoc hown; have hz5 := hg.size; rw [World.size_alloc] at hz5; have HZ5 : Hid (w.heap.size ≤ w5.heap.size) := (by show _ ≤ _; omega); have HB5 : Hid (Below w.heap.size w w5) := (HB4.out.alloc (by omega) _).grown hg (by simp; omega) (fun k hk => (HVL.out k hk).1); have d1' : w5.cell? ⟨wr.heap.size, 1, none⟩ = w4.cell? ⟨wr.heap.size, 1, none⟩ := World.cell?_of_block (a := ⟨wr.heap.size, 1, none⟩) ((hg.block wr.heap.size (by simp; omega) (fun e => by have := (HVL.out _ e.symm).2; omega)).trans (Below.heap_alloc _ _ _ (by omega))); rw [d1] at d1'; clear hown hg hat)
                | (at_builtin; refine wpList_append_own_at _ rfl _ _ 22 rfl w.heap.size 9 i0 (.string ⟨#[]⟩) 1 16 Try.underlying22 hi hz0 hz1 hz2 rfl (by decide) _ _ _ rfl (HO5.out.alloc _) ⟨w5.heap.size, 0, none⟩ 1 1 [.string ⟨(ar).toArray⟩] rfl rfl (cell_one_new _ _ _) (one_cell (ar)) (by have h := HL5.out; unfold maxLen; omega) (by have h := HL5.out; omega) (by simp; omega) ?_; intro v6 w6 hown hg _ hat; have HO6 : Hid (w6.ownsRow w.heap.size 9 1 v6 (ws ++ [[45, ch]] ++ [ar]).length ((ws ++ [[45, ch]] ++ [ar]).map sv)) := own_snoc hown; have hz6 := hg.size; rw [World.size_alloc] at hz6; have HZ6 : Hid (w.heap.size ≤ w6.heap.size) := (by show _ ≤ _; omega); have HB6 : Hid (Below w.heap.size w w6) := (HB5.out.alloc (by omega) _).grown hg (by simp; omega) (fun k hk => (HO5.out.lt k hk).1); clear hown hg hat))
              exact ⟨⟨k + 1, ws ++ [[45, ch]] ++ [ar], by go_num, by omega, by simp; omega, HZ6.out, HB6, HO6, HX⟩, by simp [intOf]; omega⟩
        · have hone' : (((nm.length : Nat) : Int) != 1) = true := by simp; omega
          have HZ : Hid (oneS (Ga.tks (Ga.bare spec)) nm = none) := by
            show _ = _
            cases nm with
            | nil => rfl
            | cons c r => cases r with
              | nil => exact absurd rfl hone
              | cons d r => rfl
          rw [HZ.out] at HJ
          have HX : Hid (R = none) := by show _ = _; rw [HE.out, HJ.out]; rfl
          clear hone
          go_wp2
          go_ret2
          exact ⟨by rw [HX.out]; rfl, HBV.out.alloc (by omega) _⟩
      · have HK0 : Hid (R = some (ws ++ [[45, 45]] ++ rest)) := by show _ = _; rw [HE.out, List.drop_of_length_le (by omega)]; rfl
        have hwl2 : ws.length ≤ 2 ^ 40 - rest.length := by omega
        have HL5 : Hid ((ws ++ [[45, 45]]).length ≤ 2 ^ 40 + 1 - rest.length) := by show _ ≤ _; simp; omega
        have HVL : Hid (∀ k, Value.ownBlock u8 = some k → w.heap.size ≤ k ∧ k < wr.heap.size) := HOw.out.lt
        have hrl : rest.length ≤ 2 ^ 40 := by omega
        clear hOV hSV
        cases ra with
        | none =>
          obtain ⟨hrc, hre⟩ := HRN.out rfl
          subst hrc
          subst hre
          go_wp2_with (first
            | (at_builtin; refine wpList_append_own_at _ rfl _ _ 22 rfl (w.heap.size) 9 i0 (.string ⟨#[]⟩) 1 16 Try.underlying22 hi hz0 hz1 hz2 rfl (by decide) _ _ _ rfl (HOw.out.alloc _) ⟨wr.heap.size, 0, none⟩ 1 1 [.string ⟨([45, 45] : List UInt8).toArray⟩] rfl rfl (cell_one_new _ _ _) (one_cell [45, 45]) (by unfold maxLen; omega) (by omega) (by simp; omega) ?_; intro v5 w5 hown hg _ hat; have HO5 : Hid (w5.ownsRow (w.heap.size) 9 1 v5 (ws ++ [[45, 45]]).length ((ws ++ [[45, 45]]).map sv)) := own_snoc hown; have HB5 : Hid (Below w.heap.size w w5) := (HBV.out.alloc (by omega) _).grown hg (by simp; omega) (fun k hk => by have := (HVL.out k hk).1; omega); clear hown hg hat)
            | (at_builtin; refine wpList_append_own_none rfl _ _ 22 rfl (w.heap.size) 9 i0 1 Try.underlying22 hi _ _ _ rfl HO5.out rfl ?_))
          go_ret2
          refine ⟨?_, HB5.out⟩
          rw [HK0.out, List.append_nil]
          exact ⟨_, rfl, own_base HO5.out (by omega)⟩
        | some ad =>
          go_wp2_with (first
            | (at_builtin; refine wpList_append_own_at _ rfl _ _ 22 rfl (w.heap.size) 9 i0 (.string ⟨#[]⟩) 1 16 Try.underlying22 hi hz0 hz1 hz2 rfl (by decide) _ _ _ rfl (HOw.out.alloc _) ⟨wr.heap.size, 0, none⟩ 1 1 [.string ⟨([45, 45] : List UInt8).toArray⟩] rfl rfl (cell_one_new _ _ _) (one_cell [45, 45]) (by unfold maxLen; omega) (by omega) (by simp; omega) ?_; intro v5 w5 hown hg _ hat; have HO5 : Hid (w5.ownsRow (w.heap.size) 9 1 v5 (ws ++ [[45, 45]]).length ((ws ++ [[45, 45]]).map sv)) := own_snoc hown; have hz5 := hg.size; rw [World.size_alloc] at hz5; have HB5' : Hid (Below w.heap.size w w5) := (HBV.out.alloc (by omega) _).grown hg (by simp; omega) (fun k hk => (HVL.out k hk).1); have HS5 : Hid (Strs w5 (some ad) rest) := (HC.out _ HB5'.out).2; have HB5 : Hid (Below w.heap.size w w5) := HB5'; clear hown hg hat)
            | (at_builtin; refine wpList_append_own_at _ rfl _ _ 22 rfl (w.heap.size) 9 i0 (.string ⟨#[]⟩) 1 16 Try.underlying22 hi hz0 hz1 hz2 rfl (by decide) _ _ _ rfl HO5.out ad rest.length rc (rest.map sv) rfl (by simp) (strs_news HS5.out) (one_cells rest) (by have h := HL5.out; unfold maxLen; omega) (by have h := HL5.out; omega) (by omega) ?_; intro v6 w6 hown hg _ hat; have HO6 : Hid (w6.ownsRow (w.heap.size) 9 1 v6 (ws ++ [[45, 45]] ++ rest).length ((ws ++ [[45, 45]] ++ rest).map sv)) := own_app hown; have HB6 : Hid (Below w.heap.size w w6) := HB5.out.grown hg (by omega) (fun k hk => by have := (HO5.out.lt k hk).1; omega); clear hown hg hat))
          go_ret2
          refine ⟨?_, HB6.out⟩
          rw [HK0.out]
          exact ⟨_, rfl, own_base HO6.out (by omega)⟩
end Go.Proofs.Ytgbkgfmljcfhoaa
