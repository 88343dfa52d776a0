/- The walk of the program's Join. Conditions: the lists' cells are as said; lengths that fit. -/
import Derived.Test.YtgbkgfmljcfhoaaGb2
import Derived.Laws.AppendOwnNone
namespace Go.Proofs.Ytgbkgfmljcfhoaa
open Go.RowKit
attribute [local go_sem] ext_eq app_eq get_eq
/-- The arguments of options, behind those that are there already. -/
def jns (ks : List UInt8 → Option Bool) : List Ga.Opt → List (List UInt8) → Option (List (List UInt8))
  | [], ws => some ws
  | o :: r, ws => match ks o.1 with
    | none => none
    | some false => if o.2 = [] then jns ks r (ws ++ [45 :: o.1]) else none
    | some true => jns ks r (ws ++ [45 :: o.1] ++ [o.2])
def oneS (k : UInt8 → Option Bool) : List UInt8 → Option Bool
  | [c] => k c
  | _ => none
def joinR (spec : List UInt8) (opts : List Ga.Opt) (rest : List (List UInt8)) : Option (List (List UInt8)) :=
  if Ga.specB (Ga.bare spec) then (jns (oneS (Ga.tks (Ga.bare spec))) opts []).map (fun l => l ++ [[45, 45]] ++ rest) else none
def OutJ (w W : World) (e : Ending) : Option (List (List UInt8)) → Prop
  | none => e = .returned (.tuple #[.slice none 0 0, .int .i64 22])
  | some l => ∃ v, e = .returned (.tuple #[v, .int .i64 0]) ∧ W.ownsRow w.heap.size 9 1 v l.length (l.map sv)
theorem kndS_one' (al tk : List UInt8) : kndS al tk = oneS (Ga.knd al tk) := by
  funext n
  cases n with
  | nil => rfl
  | cons c r => cases r <;> rfl
theorem jns_drop (ks : List UInt8 → Option Bool) (opts : List Ga.Opt) (k : Nat) (h : k < opts.length) (ws : List (List UInt8)) : jns ks (opts.drop k) ws = match ks opts[k].1 with
    | none => none
    | some false => if opts[k].2 = [] then jns ks (opts.drop (k + 1)) (ws ++ [45 :: opts[k].1]) else none
    | some true => jns ks (opts.drop (k + 1)) (ws ++ [45 :: opts[k].1] ++ [opts[k].2]) := by
  rw [List.drop_eq_getElem_cons h, jns]
theorem kndS_some {al tk n : List UInt8} {b : Bool} (h : kndS al tk n = some b) : ∃ c, n = [c] := by
  match n, h with
  | [c], _ => exact ⟨c, rfl⟩
theorem own_base {W : World} {B B' k n : Nat} {T : TypeId} {v : Value} {xs : List Value} (h : W.ownsRow B T k v n xs) (hb : B' ≤ B) : W.ownsRow B' T k v n xs := by
  refine ⟨h.1, ?_⟩
  rcases h.2 with h2 | ⟨g, cap, cur, h1, h3, r⟩
  · exact .inl h2
  · exact .inr ⟨g, cap, cur, h1, by omega, r⟩
theorem own_grow {W W' : World} {B k n : Nat} {T : TypeId} {v : Value} {xs : List Value} (h : W.ownsRow B T k v n xs) (hB : Below W.heap.size W W') : W'.ownsRow B T k v n xs :=
  h.kept (row := none) ⟨hB.os, hB.tape, hB.output, hB.size, fun k hk _ => hB.block k hk⟩ (by cases v.ownBlock <;> simp)
theorem own_snoc {W : World} {B : Nat} {T : TypeId} {v : Value} {ws : List (List UInt8)} {x : List UInt8} (h : W.ownsRow B T 1 v (ws.length + 1) (ws.map sv ++ [.string ⟨x.toArray⟩])) : W.ownsRow B T 1 v (ws ++ [x]).length ((ws ++ [x]).map sv) := by
  rw [List.map_append, List.length_append]; exact h
theorem own_app {W : World} {B : Nat} {T : TypeId} {v : Value} {ws xs : List (List UInt8)} (h : W.ownsRow B T 1 v (ws.length + xs.length) (ws.map sv ++ xs.map sv)) : W.ownsRow B T 1 v (ws ++ xs).length ((ws ++ xs).map sv) := by
  rw [List.map_append, List.length_append]; exact h
theorem strs_news {W : World} {ad : Addr} {ys : List (List UInt8)} (h : Strs W (some ad) ys) : ∀ j u, (ys.map sv)[j]? = some u → W.cell? (ad.add j) = some u := by
  intro j u hu
  rw [List.getElem?_map] at hu
  obtain ⟨x, hx, rfl⟩ := Option.map_eq_some_iff.1 hu
  obtain ⟨bk, o, he, hlt, hc⟩ := h j x hx
  cases he
  have hadd : (⟨bk, o, none⟩ : Addr).add j = ⟨bk, o + j, none⟩ := by unfold Addr.add; split <;> simp_all
  rw [hadd]; exact hc
theorem one_cells (ys : List (List UInt8)) : ∀ u ∈ ys.map sv, u.oneCell' = true := by
  intro u hu; simp at hu; obtain ⟨x, _, rfl⟩ := hu; rfl
set_option maxRecDepth 100000 in
set_option maxHeartbeats 4000000 in
theorem gJoin (spec : List UInt8) (opts : List Ga.Opt) (rest : List (List UInt8)) (oa ra : Option Addr) (oc rc : Nat) (w : World) (hs : spec.length ≤ 2 ^ 47) (hO : Opts w oa opts) (hS : Strs w ra rest) (hrn : ra = none → rc = 0 ∧ rest = []) (hn : ∀ o ∈ opts, o.1.length ≤ 2 ^ 47) (hM : opts.length * 2 + rest.length ≤ 2 ^ 40) :
    Calls Try.prog 13 #[.string ⟨spec.toArray⟩, .slice oa opts.length oc, .slice ra rest.length rc] w fun e W => OutJ w W e (joinR spec opts rest) ∧ Below w.heap.size w W := by
  obtain ⟨i0, hi, hz0, hz1, hz2⟩ := infoS
  have HO : Hid (Opts w oa opts) := hO
  have HS : Hid (Strs w ra rest) := hS
  have HN : Hid (∀ o ∈ opts, o.1.length ≤ 2 ^ 47) := hn
  have HRN : Hid (ra = none → rc = 0 ∧ rest = []) := hrn
  clear hO hS hn hrn
  have HRd : Hid (∀ W, Calls Try.prog 26 #[.string ⟨spec.toArray⟩] W fun e w' => e = .returned (.tuple #[rdV (Ga.plus spec) (Ga.bare spec), .bool (Ga.specB (Ga.bare spec))]) ∧ Below W.heap.size W w') := fun W => gRead spec W hs
  cases hsp : Ga.specB (Ga.bare spec) with
  | false =>
    rw [hsp, rdV_no hsp] at HRd
    have HX : Hid (joinR spec opts rest = none) := by show _ = _; rw [joinR, hsp]; rfl
    generalize joinR spec opts rest = R at *
    clear hsp
    go_enter Try.func13, Try.ntmps13
    go_wp2_with fail
    refine (HRd.out _).mono ?_
    rintro e w1 ⟨rfl, hB1⟩
    have HB : Hid (Below w.heap.size w w1) := hB1
    clear hB1
    go_wp2
    go_ret2
    exact ⟨by rw [HX.out]; rfl, HB.out.alloc HB.out.size _⟩
  | true =>
    rw [hsp, rdV_ok hsp] at HRd
    have HK : Hid (joinR spec opts rest = (jns (kndS (Ga.alP (Ga.bare spec) (Ga.bare spec).length) (Ga.tkP (Ga.bare spec) (Ga.bare spec).length)) opts []).map (fun l => l ++ [[45, 45]] ++ rest)) := by
      show _ = _
      rw [joinR, if_pos hsp, kndS_one']
      congr 3
      funext x
      exact (Ga.knd_tks _ hsp x).symm
    generalize Ga.alP (Ga.bare spec) (Ga.bare spec).length = al at *
    generalize Ga.tkP (Ga.bare spec) (Ga.bare spec).length = tk at *
    generalize Ga.plus spec = st at *
    generalize joinR spec opts rest = R at *
    clear hsp
    go_enter Try.func13, Try.ntmps13
    go_wp2_with fail
    refine (HRd.out _).mono ?_
    rintro e w1 ⟨rfl, hB1⟩
    have hsz : w.heap.size ≤ w1.heap.size := hB1.size
    have HB : Hid (Below w.heap.size w w1) := hB1
    have HC : Hid (∀ V, Below (w1.heap.size + 1) (w1.alloc (.cells #[.bool st, .string ⟨al.toArray⟩, .string ⟨tk.toArray⟩] 53)) V → V.cell? ⟨w1.heap.size, 0, none⟩ = some (.bool st) ∧ V.cell? ⟨w1.heap.size, 1, none⟩ = some (.string ⟨al.toArray⟩) ∧ V.cell? ⟨w1.heap.size, 2, none⟩ = some (.string ⟨tk.toArray⟩) ∧ Opts V oa opts ∧ Strs V ra rest ∧ Below w.heap.size w V) := by
      intro V hV
      have hg : Below (w1.heap.size + 1) (w1.alloc (.cells #[.bool st, .string ⟨al.toArray⟩, .string ⟨tk.toArray⟩] 53)) V := hV
      have e : (w1.alloc (.cells #[.bool st, .string ⟨al.toArray⟩, .string ⟨tk.toArray⟩] 53)).heap.size = w1.heap.size + 1 := by simp
      rw [← e] at hg
      have h1 : Below w1.heap.size w1 (w1.alloc (.cells #[.bool st, .string ⟨al.toArray⟩, .string ⟨tk.toArray⟩] 53)) := (Below.refl _ _).alloc (Nat.le_refl _) _
      refine ⟨(hV.cell (p := ⟨w1.heap.size, 0, none⟩) (by simp)).trans (World.cell?_alloc_at _ _ _ _ rfl), (hV.cell (p := ⟨w1.heap.size, 1, none⟩) (by simp)).trans (World.cell?_alloc_at _ _ _ _ rfl), (hV.cell (p := ⟨w1.heap.size, 2, none⟩) (by simp)).trans (World.cell?_alloc_at _ _ _ _ rfl), ((HO.out.grow HB.out).grow h1).grow hg, ((HS.out.grow HB.out).grow h1).grow hg, (HB.out.alloc (by omega) _).trans (hV.mono (by omega))⟩
    have HW : Hid ((w1.alloc (.cells #[.bool st, .string ⟨al.toArray⟩, .string ⟨tk.toArray⟩] 53)).heap.size = w1.heap.size + 1) := by show _ = _; simp
    clear hB1
    go_wp2_with fail
    generalize w1.alloc (.cells #[.bool st, .string ⟨al.toArray⟩, .string ⟨tk.toArray⟩] 53) = w2 at *
    go_loopw [10, 23] (fun v i V => ∃ (k : Nat) (ws : List (List UInt8)), i = .int .i64 k ∧ k ≤ opts.length ∧ ws.length ≤ k * 2 ∧ w1.heap.size + 1 ≤ V.heap.size ∧ Hid (Below (w1.heap.size + 1) w2 V) ∧ Hid (V.ownsRow (w1.heap.size + 1) 9 1 v ws.length (ws.map sv)) ∧ Hid (R = (jns (kndS al tk) (opts.drop k) ws).map (fun l => l ++ [[45, 45]] ++ rest))) (fun _ i _ => opts.length - (intOf i).toNat)
    case atStart => exact ⟨0, [], rfl, Nat.zero_le _, Nat.le_refl _, by rw [HW.out]; exact Nat.le_refl _, Below.refl _ _, World.ownsRow_nil _ _ _ _, HK⟩
    case round =>
      obtain ⟨k, ws, rfl, hk, hwl, hbs, HBV, HOw, HE⟩ := hrel
      obtain ⟨c0, c1, c2, hOV, hSV, hBw⟩ := HC.out _ HBV.out
      have HSV : Hid (Strs wr ra rest) := hSV
      have HBw : Hid (Below w.heap.size w wr) := hBw
      by_cases hlt : k < opts.length
      · obtain ⟨bk, o, hoa, hbk, hc1, hc2⟩ := hOV k opts[k] (List.getElem?_eq_getElem hlt)
        have HJ : Hid (jns (kndS al tk) (opts.drop k) ws = _) := jns_drop (kndS al tk) opts k hlt ws
        have hnl : opts[k].1.length ≤ 2 ^ 47 := HN.out _ (List.getElem_mem hlt)
        clear hOV hSV hBw
        subst hoa
        generalize opts[k] = op at *
        obtain ⟨nm, ar⟩ := op
        dsimp only at hc1 hc2 HJ hnl
        cases hkk : kndS al tk nm with
        | none =>
          rw [hkk] at HJ
          have HX : Hid (R = none) := by show _ = _; rw [HE.out, HJ.out]; rfl
          have HQ : Hid (∀ V, Calls Try.prog 32 #[.agg #[.bool st, .string ⟨al.toArray⟩, .string ⟨tk.toArray⟩], .string ⟨nm.toArray⟩] V fun e w' => e = .returned (.int .i64 0) ∧ Below V.heap.size V w') := fun V => by
            have := gKind st al tk nm V hnl; rw [hkk] at this; exact this
          clear hkk
          have hw1l : w1.heap.size < wr.heap.size := by omega
          go_wp2_with (go_at_call 32; refine (HQ.out _).mono ?_; rintro e w4 ⟨rfl, hB4⟩; have HB4 : Hid (Below w.heap.size w w4) := (HBw.out.alloc (by omega) _).trans (hB4.mono (by simp; omega)); clear hB4)
          go_ret2
          exact ⟨by rw [HX.out]; rfl, HB4.out⟩
        | some b =>
          obtain ⟨ch, rfl⟩ := kndS_some hkk
          have hvl := HOw.out.lt
          have HVL : Hid (∀ k, Value.ownBlock u10 = some k → w1.heap.size + 1 ≤ k ∧ k < wr.heap.size) := hvl
          have hw1l : w1.heap.size < wr.heap.size := by omega
          have hwl2 : ws.length ≤ 2 ^ 40 - 2 := by omega
          clear hvl
          cases b with
          | false =>
            rw [hkk] at HJ
            dsimp only at HJ
            have HQ : Hid (∀ V, Calls Try.prog 32 #[.agg #[.bool st, .string ⟨al.toArray⟩, .string ⟨tk.toArray⟩], .string ⟨#[ch]⟩] V fun e w' => e = .returned (.int .i64 1) ∧ Below V.heap.size V w') := fun V => by
              have := gKind st al tk [ch] V hnl; rw [hkk] at this; exact this
            clear hkk
            by_cases har : ar = []
            · subst har
              rw [if_pos rfl] at HJ
              have HX : Hid (R = (jns (kndS al tk) (opts.drop (k + 1)) (ws ++ [[45, ch]])).map (fun l => l ++ [[45, 45]] ++ rest)) := by show _ = _; rw [HE.out, HJ.out]
              go_wp2_with (first
                | (go_at_call 32; refine (HQ.out _).mono ?_; rintro e w4 ⟨rfl, hB4⟩; have hz4 := hB4.size; rw [World.size_alloc] at hz4; have HB4 : Hid (Below (w1.heap.size + 1) w2 w4) := (HBV.out.alloc (by omega) _).trans (hB4.mono (by simp; omega)); have d0 : w4.cell? ⟨wr.heap.size, 0, none⟩ = some (.string ⟨#[ch]⟩) := (hB4.cell (p := ⟨wr.heap.size, 0, none⟩) (by simp)).trans (World.cell?_alloc_at _ _ _ _ rfl); have d1 : w4.cell? ⟨wr.heap.size, 1, none⟩ = some (.string ⟨#[]⟩) := (hB4.cell (p := ⟨wr.heap.size, 1, none⟩) (by simp)).trans (World.cell?_alloc_at _ _ _ _ rfl); have HO4 : Hid (w4.ownsRow (w1.heap.size + 1) 9 1 u10 ws.length (ws.map sv)) := own_grow (HOw.out.alloc _) hB4; clear hB4)
                | (at_builtin; refine wpList_append_own_at _ rfl _ _ 22 rfl (w1.heap.size + 1) 9 i0 (.string ⟨#[]⟩) 1 16 Try.underlying22 hi hz0 hz1 hz2 rfl (by decide) _ _ _ rfl (HO4.out.alloc _) ⟨w4.heap.size, 0, none⟩ 1 1 [.string ⟨([45, ch]).toArray⟩] rfl rfl (cell_one_new _ _ _) (one_cell ([45, ch])) (by unfold maxLen; omega) (by omega) (by simp; omega) ?_; intro v5 w5 hown hg _ hat; have HO5 : Hid (w5.ownsRow (w1.heap.size + 1) 9 1 v5 (ws ++ [[45, ch]]).length ((ws ++ [[45, ch]]).map sv)) := own_snoc hown; have hz5 := hg.size; rw [World.size_alloc] at hz5; have HZ5 : Hid (w1.heap.size + 1 ≤ w5.heap.size) := (by show _ ≤ _; omega); have HB5 : Hid (Below (w1.heap.size + 1) w2 w5) := (HB4.out.alloc (by omega) _).grown hg (by simp; omega) (fun k hk => (HVL.out k hk).1); have d1' : w5.cell? ⟨wr.heap.size, 1, none⟩ = w4.cell? ⟨wr.heap.size, 1, none⟩ := World.cell?_of_block (a := ⟨wr.heap.size, 1, none⟩) ((hg.block wr.heap.size (by simp; omega) (fun e => by have := (HVL.out _ e.symm).2; omega)).trans (Below.heap_alloc _ _ _ (by omega))); rw [d1] at d1'; have HAT : Hid (v5.ownBlock = Value.ownBlock u10 ∨ v5.ownBlock = some (w4.heap.size + 1)) := (by rw [World.size_alloc] at hat; exact hat); clear hown hg hat))
              exact ⟨⟨k + 1, ws ++ [[45, ch]], by go_num, by omega, by simp; omega, HZ5.out, HB5, HO5, HX⟩, by simp [intOf]; omega⟩
            · rw [if_neg har] at HJ
              have har' : (ar == []) = false := by simpa using har
              have har2 : ar.isEmpty = false := by simpa using har
              have HX : Hid (R = none) := by show _ = _; rw [HE.out, HJ.out]; rfl
              clear har
              go_wp2_with (go_at_call 32; refine (HQ.out _).mono ?_; rintro e w4 ⟨rfl, hB4⟩; have hz4 := hB4.size; rw [World.size_alloc] at hz4; have HB4 : Hid (Below (w1.heap.size + 1) w2 w4) := (HBV.out.alloc (by omega) _).trans (hB4.mono (by simp; omega)); have d0 : w4.cell? ⟨wr.heap.size, 0, none⟩ = some (.string ⟨#[ch]⟩) := (hB4.cell (p := ⟨wr.heap.size, 0, none⟩) (by simp)).trans (World.cell?_alloc_at _ _ _ _ rfl); have d1 : w4.cell? ⟨wr.heap.size, 1, none⟩ = some (.string ⟨ar.toArray⟩) := (hB4.cell (p := ⟨wr.heap.size, 1, none⟩) (by simp)).trans (World.cell?_alloc_at _ _ _ _ rfl); have HO4 : Hid (w4.ownsRow (w1.heap.size + 1) 9 1 u10 ws.length (ws.map sv)) := own_grow (HOw.out.alloc _) hB4; clear hB4)
              go_ret2
              exact ⟨by rw [HX.out]; rfl, (HC.out _ HB4.out).2.2.2.2.2⟩
          | true =>
            rw [hkk] at HJ
            dsimp only at HJ
            have HQ : Hid (∀ V, Calls Try.prog 32 #[.agg #[.bool st, .string ⟨al.toArray⟩, .string ⟨tk.toArray⟩], .string ⟨#[ch]⟩] V fun e w' => e = .returned (.int .i64 2) ∧ Below V.heap.size V w') := fun V => by
              have := gKind st al tk [ch] V hnl; rw [hkk] at this; exact this
            clear hkk
            have HL5 : Hid ((ws ++ [[45, ch]]).length ≤ 2 ^ 40 - 1) := by show _ ≤ _; simp; omega
            have HX : Hid (R = (jns (kndS al tk) (opts.drop (k + 1)) (ws ++ [[45, ch]] ++ [ar])).map (fun l => l ++ [[45, 45]] ++ rest)) := by show _ = _; rw [HE.out, HJ.out]
            go_wp2_with (first
              | (go_at_call 32; refine (HQ.out _).mono ?_; rintro e w4 ⟨rfl, hB4⟩; have hz4 := hB4.size; rw [World.size_alloc] at hz4; have HB4 : Hid (Below (w1.heap.size + 1) w2 w4) := (HBV.out.alloc (by omega) _).trans (hB4.mono (by simp; omega)); have d0 : w4.cell? ⟨wr.heap.size, 0, none⟩ = some (.string ⟨#[ch]⟩) := (hB4.cell (p := ⟨wr.heap.size, 0, none⟩) (by simp)).trans (World.cell?_alloc_at _ _ _ _ rfl); have d1 : w4.cell? ⟨wr.heap.size, 1, none⟩ = some (.string ⟨ar.toArray⟩) := (hB4.cell (p := ⟨wr.heap.size, 1, none⟩) (by simp)).trans (World.cell?_alloc_at _ _ _ _ rfl); have HO4 : Hid (w4.ownsRow (w1.heap.size + 1) 9 1 u10 ws.length (ws.map sv)) := own_grow (HOw.out.alloc _) hB4; clear hB4)
              | (at_builtin; refine wpList_append_own_at _ rfl _ _ 22 rfl (w1.heap.size + 1) 9 i0 (.string ⟨#[]⟩) 1 16 Try.underlying22 hi hz0 hz1 hz2 rfl (by decide) _ _ _ rfl (HO4.out.alloc _) ⟨w4.heap.size, 0, none⟩ 1 1 [.string ⟨([45, ch]).toArray⟩] rfl rfl (cell_one_new _ _ _) (one_cell ([45, ch])) (by unfold maxLen; omega) (by omega) (by simp; omega) ?_; intro v5 w5 hown hg _ hat; have HO5 : Hid (w5.ownsRow (w1.heap.size + 1) 9 1 v5 (ws ++ [[45, ch]]).length ((ws ++ [[45, ch]]).map sv)) := own_snoc hown; have hz5 := hg.size; rw [World.size_alloc] at hz5; have HZ5 : Hid (w1.heap.size + 1 ≤ w5.heap.size) := (by show _ ≤ _; omega); have HB5 : Hid (Below (w1.heap.size + 1) w2 w5) := (HB4.out.alloc (by omega) _).grown hg (by simp; omega) (fun k hk => (HVL.out k hk).1); have d1' : w5.cell? ⟨wr.heap.size, 1, none⟩ = w4.cell? ⟨wr.heap.size, 1, none⟩ := World.cell?_of_block (a := ⟨wr.heap.size, 1, none⟩) ((hg.block wr.heap.size (by simp; omega) (fun e => by have := (HVL.out _ e.symm).2; omega)).trans (Below.heap_alloc _ _ _ (by omega))); rw [d1] at d1'; have HAT : Hid (v5.ownBlock = Value.ownBlock u10 ∨ v5.ownBlock = some (w4.heap.size + 1)) := (by rw [World.size_alloc] at hat; exact hat); clear hown hg hat)
              | (at_builtin; refine wpList_append_own_at _ rfl _ _ 22 rfl (w1.heap.size + 1) 9 i0 (.string ⟨#[]⟩) 1 16 Try.underlying22 hi hz0 hz1 hz2 rfl (by decide) _ _ _ rfl (HO5.out.alloc _) ⟨w5.heap.size, 0, none⟩ 1 1 [.string ⟨(ar).toArray⟩] rfl rfl (cell_one_new _ _ _) (one_cell (ar)) (by have h := HL5.out; unfold maxLen; omega) (by have h := HL5.out; omega) (by simp; omega) ?_; intro v6 w6 hown hg _ hat; have HO6 : Hid (w6.ownsRow (w1.heap.size + 1) 9 1 v6 (ws ++ [[45, ch]] ++ [ar]).length ((ws ++ [[45, ch]] ++ [ar]).map sv)) := own_snoc hown; have hz6 := hg.size; rw [World.size_alloc] at hz6; have HZ6 : Hid (w1.heap.size + 1 ≤ w6.heap.size) := (by show _ ≤ _; omega); have HB6 : Hid (Below (w1.heap.size + 1) w2 w6) := (HB5.out.alloc (by omega) _).grown hg (by simp; omega) (fun k hk => (HO5.out.lt k hk).1); clear hown hg hat))
            exact ⟨⟨k + 1, ws ++ [[45, ch]] ++ [ar], by go_num, by omega, by simp; omega, HZ6.out, HB6, HO6, HX⟩, by simp [intOf]; omega⟩
      · have HK0 : Hid (R = some (ws ++ [[45, 45]] ++ rest)) := by show _ = _; rw [HE.out, List.drop_of_length_le (by omega)]; rfl
        have hwl2 : ws.length ≤ 2 ^ 40 - rest.length := by omega
        have HL5 : Hid ((ws ++ [[45, 45]]).length ≤ 2 ^ 40 + 1 - rest.length) := by show _ ≤ _; simp; omega
        have HVL : Hid (∀ k, Value.ownBlock u10 = some k → w1.heap.size + 1 ≤ k ∧ k < wr.heap.size) := HOw.out.lt
        have hrl : rest.length ≤ 2 ^ 40 := by omega
        clear hOV hSV hBw c0 c1 c2
        cases ra with
        | none =>
          obtain ⟨hrc, hre⟩ := HRN.out rfl
          subst hrc
          subst hre
          go_wp2_with (first
            | (at_builtin; refine wpList_append_own_at _ rfl _ _ 22 rfl (w1.heap.size + 1) 9 i0 (.string ⟨#[]⟩) 1 16 Try.underlying22 hi hz0 hz1 hz2 rfl (by decide) _ _ _ rfl (HOw.out.alloc _) ⟨wr.heap.size, 0, none⟩ 1 1 [.string ⟨([45, 45] : List UInt8).toArray⟩] rfl rfl (cell_one_new _ _ _) (one_cell [45, 45]) (by unfold maxLen; omega) (by omega) (by simp; omega) ?_; intro v5 w5 hown hg _ hat; have HO5 : Hid (w5.ownsRow (w1.heap.size + 1) 9 1 v5 (ws ++ [[45, 45]]).length ((ws ++ [[45, 45]]).map sv)) := own_snoc hown; have HB5 : Hid (Below w.heap.size w w5) := (HBw.out.alloc (by omega) _).grown hg (by simp; omega) (fun k hk => by have := (HVL.out k hk).1; omega); clear hown hg hat)
            | (at_builtin; refine wpList_append_own_none rfl _ _ 22 rfl (w1.heap.size + 1) 9 i0 1 Try.underlying22 hi _ _ _ rfl HO5.out rfl ?_))
          go_ret2
          refine ⟨?_, HB5.out⟩
          rw [HK0.out, List.append_nil]
          exact ⟨_, rfl, own_base HO5.out (by omega)⟩
        | some ad =>
          go_wp2_with (first
            | (at_builtin; refine wpList_append_own_at _ rfl _ _ 22 rfl (w1.heap.size + 1) 9 i0 (.string ⟨#[]⟩) 1 16 Try.underlying22 hi hz0 hz1 hz2 rfl (by decide) _ _ _ rfl (HOw.out.alloc _) ⟨wr.heap.size, 0, none⟩ 1 1 [.string ⟨([45, 45] : List UInt8).toArray⟩] rfl rfl (cell_one_new _ _ _) (one_cell [45, 45]) (by unfold maxLen; omega) (by omega) (by simp; omega) ?_; intro v5 w5 hown hg _ hat; have HO5 : Hid (w5.ownsRow (w1.heap.size + 1) 9 1 v5 (ws ++ [[45, 45]]).length ((ws ++ [[45, 45]]).map sv)) := own_snoc hown; have hz5 := hg.size; rw [World.size_alloc] at hz5; have HB5' : Hid (Below (w1.heap.size + 1) w2 w5) := (HBV.out.alloc (by omega) _).grown hg (by simp; omega) (fun k hk => (HVL.out k hk).1); have HS5 : Hid (Strs w5 (some ad) rest) := (HC.out _ HB5'.out).2.2.2.2.1; have HB5 : Hid (Below w.heap.size w w5) := (HC.out _ HB5'.out).2.2.2.2.2; clear hown hg hat)
            | (at_builtin; refine wpList_append_own_at _ rfl _ _ 22 rfl (w1.heap.size + 1) 9 i0 (.string ⟨#[]⟩) 1 16 Try.underlying22 hi hz0 hz1 hz2 rfl (by decide) _ _ _ rfl HO5.out ad rest.length rc (rest.map sv) rfl (by simp) (strs_news HS5.out) (one_cells rest) (by have h := HL5.out; unfold maxLen; omega) (by have h := HL5.out; omega) (by omega) ?_; intro v6 w6 hown hg _ hat; have HO6 : Hid (w6.ownsRow (w1.heap.size + 1) 9 1 v6 (ws ++ [[45, 45]] ++ rest).length ((ws ++ [[45, 45]] ++ rest).map sv)) := own_app hown; have HB6 : Hid (Below w.heap.size w w6) := HB5.out.grown hg (by omega) (fun k hk => by have := (HO5.out.lt k hk).1; omega); clear hown hg hat))
          go_ret2
          refine ⟨?_, HB6.out⟩
          rw [HK0.out]
          exact ⟨_, rfl, own_base HO6.out (by omega)⟩
end Go.Proofs.Ytgbkgfmljcfhoaa
