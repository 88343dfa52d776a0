/- Several texts of this claim, one behind the other, in their order. -/
import Derived.Test.YtgplmgliockbcaaDoorPrn1
import Derived.Test.YtgplmgliockbcaaDoorSt
/- The walk of prune, of 256 places. Conditions: the store lies in memory as 'St' says, the table's first cell leads to it, the ref lies in a block of its own. -/
namespace Go.Proofs.YtgplmgliockbcaaDoor
open Go.RowKit
set_option maxRecDepth 8000 in
set_option maxHeartbeats 4000000 in
theorem prune_row2 {w : World} {b c n : Nat} {u : Nat → Bool} {D : Nat → Nat} (S : St w b c n u D) (t ab ao r : Nat) (keep : Int) (ht : w.cell? ⟨t, 0, none⟩ = some (.pointer (some ⟨b, 0, none⟩))) (ha : w.cell? ⟨ab, ao, none⟩ = some (.int .i64 (r : Nat))) (hf : w.frozen? ⟨ab, ao, none⟩ = false) (hA : Apart b c t ab) (hr : r < 4294967296) (hr0 : r ≠ 0) (hk : keep < 256) (hkl : -40000 ≤ keep) (y : (Nat → Bool) × (Nat → Nat) × (Nat → Nat)) (hy : prRow (pr 1) 16 keep 16 (u, D, ptr u D r) = y) (zz : PS) (hzz : zz = if allZ y.2.2 then (freeU y.1 r, freeD y.1 y.2.1 r, 0) else (y.1, saved y.1 y.2.1 r y.2.2, r)) :
    Calls Tryd.prog 68 #[.pointer (some ⟨t, 0, none⟩), .pointer (some ⟨ab, ao, none⟩), .int .i64 256, .int .i64 keep] w (PrPost b c n t ab ao w zz) := by
  have hrb : ((r : Int) == 0) = false := by simpa using hr0
  have hz := zvP
  have hab := block_lt_of_cell ha
  have htl := block_lt_of_cell ht
  have hge : ¬ 256 ≤ keep := by omega
  have HS : Hid (St w b c n u D) := S
  have HT : Hid (w.cell? ⟨t, 0, none⟩ = some (.pointer (some ⟨b, 0, none⟩))) := ht
  have HA : Hid (Apart b c t ab ∧ w.frozen? ⟨ab, ao, none⟩ = false ∧ w.cell? ⟨ab, ao, none⟩ = some (.int .i64 (r : Nat))) := ⟨hA, hf, ha⟩
  have HD : Hid (∀ j, D j < 256) := S.dl
  have HBC : Hid (b < w.heap.size ∧ c < w.heap.size) := ⟨S.lt_b, S.lt_c⟩
  have HY : Hid (prRow (pr 1) 16 keep 16 (u, D, ptr u D r) = y) := hy
  have HZZ : Hid (zz = if allZ y.2.2 then (freeU y.1 r, freeD y.1 y.2.1 r, 0) else (y.1, saved y.1 y.2.1 r y.2.2, r)) := hzz
  clear S ht hA hf hr0 hy hzz
  go_enter Tryd.func68, Tryd.ntmps68
  go_wp2_with (first | (go_at_call 71; refine (load_row HS.out t r HT.out hr).mono ?_; rintro e w1 ⟨A, rfl, hsz, -, HO, HJ, HM⟩; have hTh : Hid ((w1.alloc (.cells zeroP 134)).there w1.heap.size 0 A.size) := by (show World.there _ _ _ _; rw [hsz]; exact there_new w1 134 zeroP sizeP)) | (refine wpList_store_mid rfl 134 _ _ rfl w1.heap.size 0 A rfl rfl hTh.out (by rw [hsz]; exact infP) HO.out ?_; rw [set_row w1 A hsz HO.out]))
  have HM2 : Hid (Mod (fun _ => False) w (w1.alloc (.cells A 134))) := HM.out.alloc _
  have HQ : Hid (PQ b c n t ab ao r w1.heap.size u D (ptr u D r) (w1.alloc (.cells A 134))) := by
    have h1 := HM.out.size
    refine ⟨HS.out.mod HM2.out (fun h => h) (fun h => h) (fun h => h), (HM2.out.cell (p := ⟨t, 0, none⟩) htl (fun h => h)).trans HT.out, (HM2.out.cell (p := ⟨ab, ao, none⟩) hab (fun h => h)).trans HA.out.2.2, (HM2.out.frozen (p := ⟨ab, ao, none⟩) hab (fun h => h)).trans HA.out.2.1, fun j hj => ?_, fun o _ => World.frozen?_alloc_at _ _ _ _ rfl, fun j => ptr_lt _ _ HD.out _ _, HA.out.1, ⟨?_, ?_, ?_, HA.out.1.tb, HA.out.1.tc, ?_⟩, ?_⟩
    · rw [World.cell?_alloc_at _ _ _ _ rfl]; exact HJ.out j hj
    · have := HS.out.tab.lt; omega
    · have := HBC.out.1; omega
    · have := HBC.out.2; omega
    · omega
    · omega
  have HPl : Hid (w.heap.size ≤ w1.heap.size) := HM.out.size
  have HF2 : Hid (Fr b c ab ao w (w1.alloc (.cells A 134))) := Fr.of_mod HM2.out hab (fun _ h => h.elim) HA.out.1.nb HA.out.1.nc
  generalize hw2 : w1.alloc (.cells A 134) = w2 at *
  generalize w1.heap.size = Pb at *
  clear hw2 HM2 hTh HM HJ HO hsz
  go_loopw [29] (fun x wx => ∃ i : Nat, i ≤ 16 ∧ x = .int .i64 i ∧ ∃ (us : Nat → Bool) (Ds : Nat → Nat) (qs : Nat → Nat), Hid (PQ b c n t ab ao r Pb us Ds qs wx) ∧ Hid (Fr b c ab ao w wx) ∧ Hid (prRow (pr 1) 16 keep i (u, D, ptr u D r) = (us, Ds, qs))) (fun x _ => 16 - (intOf x).toNat)
  case atStart => exact ⟨0, by omega, rfl, u, D, ptr u D r, HQ, HF2, rfl⟩
  case round =>
    obtain ⟨i, hi, rfl, us, Ds, qs, HQi, HFi, HEi⟩ := hrel
    by_cases hlt : i < 16
    · have HK : Hid (keep - (i : Int) * 16 = keep - ((i * 16 : Nat) : Int)) := by show _ = _; omega
      have HN : Hid (prRow (pr 1) 16 keep (i + 1) (u, D, ptr u D r) = ((pr 1 us Ds (qs i) (keep - ((i * 16 : Nat) : Int))).1, (pr 1 us Ds (qs i) (keep - ((i * 16 : Nat) : Int))).2.1, upd qs i (pr 1 us Ds (qs i) (keep - ((i * 16 : Nat) : Int))).2.2)) := by
        show _ = _
        rw [prRow, HEi.out]
      go_wp2_with (go_at_call 68; rw [HK.out]; refine (prune1 HQi.out.S t Pb i (qs i) (keep - ((i * 16 : Nat) : Int)) HQi.out.ct (HQi.out.at_ i hlt) (HQi.out.fr i hlt) HQi.out.P (HQi.out.ql i) (by omega)).mono ?_; rintro e w3 ⟨rfl, H3, C3, F3, T3⟩; have HQ3 : Hid (PQ b c n t ab ao r Pb (pr 1 us Ds (qs i) (keep - ((i * 16 : Nat) : Int))).1 (pr 1 us Ds (qs i) (keep - ((i * 16 : Nat) : Int))).2.1 (upd qs i (pr 1 us Ds (qs i) (keep - ((i * 16 : Nat) : Int))).2.2) w3) := HQi.out.next i _ (Nat.lt_of_le_of_lt (pr_le _ _ _ _ _) (HQi.out.ql i)) H3 C3 F3 T3; have HF3 : Hid (Fr b c ab ao w w3) := fr_sub0 F3 (block_lt_of_cell HQi.out.ca) HQi.out.A.nb HQi.out.A.nc HQi.out.ne HPl.out HFi.out; clear H3 C3 F3 T3)
      exact ⟨⟨i + 1, by omega, by go_num, _, _, _, HQ3, HF3, HN⟩, by simp [intOf]; omega⟩
    · have HYi : Hid (y = (us, Ds, qs)) := by
        show _ = _
        rw [← HY.out, ← HEi.out, show i = 16 by omega]
      obtain ⟨L, hlen, HL, HR⟩ : ∃ L : List Value, L.length = 16 ∧ Hid (L.toArray = refsV qs) ∧ Hid (wr.rangeAt Pb 0 L) := by
        have := row_of (x := 0) (p := qs 0) (w5 := wr) HQi.out.at_ (HQi.out.at_ 0 (by omega)) (fun _ _ => rfl)
        rwa [show upd qs 0 (qs 0) = qs by funext k; unfold upd; split; rename_i h; rw [h]; rfl] at this
      have hIL : (Tryd.prog.info? 134).map (·.size) = some L.length := by rw [hlen]; exact infP
      have hca := HQi.out.ca
      cases hb : allZ qs with
      | false =>
        have hneq : ∀ W, (binOp .neq 134 (.agg L.toArray) (.agg zeroP)).run Tryd.prog W = .ok (.bool true) W := fun W => by rw [HL.out, run_neqP, hb]; rfl
        have HB : Hid (allZ qs = false) := hb
        have hUL := undP
        have HS9 : Hid ((wr.drewN 1).cell? ⟨ab, ao, none⟩ = some (.int .i64 (r : Nat)) ∧ (wr.drewN 1).rangeAt Pb 0 L) := ⟨HQi.out.ca, HR.out⟩
        clear hb
        go_wp2_with (first | (refine wpList_load_mid rfl 134 _ rfl Pb 0 rfl L _ HR.out undP rfl hIL ?_))
        go_region_held (fun W' => W'.cell? ⟨ab, ao, none⟩ = some (.int .i64 (r : Nat)) ∧ W'.rangeAt Pb 0 L) (first | exact hS10 | exact HS9.out) (first | (go_at_call 77; rw [HL.out]; refine (save_any (HQi.out.S.drewN 1) t r qs HQi.out.ql HQi.out.ct HQi.out.A.tc hr).mono ?_; rintro e w6 ⟨rfl, H6, M6⟩; have M6' := ((Mod.refl (fun k => k = c) wr).drewN 1).trans M6; have HS6 : Hid (St w6 b c n us (saved us Ds r qs)) := H6; have HF6 : Hid (Fr b c ab ao w w6) := HFi.out.trans (Fr.of_mod M6' (block_lt_of_cell HQi.out.ca) (fun _ e => .inr e) HQi.out.A.nb HQi.out.A.nc); have HT6 : Hid (w6.cell? ⟨t, 0, none⟩ = some (.pointer (some ⟨b, 0, none⟩))) := (M6'.cell (p := ⟨t, 0, none⟩) (block_lt_of_cell HQi.out.ct) HQi.out.A.tc).trans HQi.out.ct; have hS10 : w6.cell? ⟨ab, ao, none⟩ = some (.int .i64 (r : Nat)) ∧ w6.rangeAt Pb 0 L := ⟨(M6'.cell (p := ⟨ab, ao, none⟩) (block_lt_of_cell HQi.out.ca) HQi.out.A.nc).trans HQi.out.ca, range_mod M6 HR.out (block_lt_of_cell (HQi.out.at_ 0 (by omega))) HQi.out.P.nc⟩; clear H6 M6 M6'))
        go_wp2
        refine bodyPost_ret (results_none rfl _ _ _) rfl ?_
        have e := HZZ.out
        rw [HYi.out, if_neg (by rw [HB.out]; simp)] at e
        rw [e]
        exact ⟨rfl, HS6.out, hS10.1, HF6.out, HT6.out⟩
      | true =>
        have hneq : ∀ W, (binOp .neq 134 (.agg L.toArray) (.agg zeroP)).run Tryd.prog W = .ok (.bool false) W := fun W => by rw [HL.out, run_neqP, hb]; rfl
        have HB : Hid (allZ qs = true) := hb
        clear hb
        go_wp2_with (first | (refine wpList_load_mid rfl 134 _ rfl Pb 0 rfl L _ HR.out undP rfl hIL ?_) | (go_at_call 76; refine (free_any HQi.out.S t ab ao r HQi.out.ct HQi.out.ca HQi.out.fa HQi.out.A.a0 HQi.out.A.nb HQi.out.A.nc HQi.out.A.tb HQi.out.A.tc hr).mono ?_; rintro e w6 ⟨rfl, H6, C6, F6⟩; have HH : Hid (St w6 b c n (freeU us r) (freeD us Ds r) ∧ w6.cell? ⟨ab, ao, none⟩ = some (.int .i64 0) ∧ Fr b c ab ao w w6 ∧ w6.cell? ⟨t, 0, none⟩ = some (.pointer (some ⟨b, 0, none⟩))) := ⟨H6, C6, HFi.out.trans F6, (F6.mod.cell (p := ⟨t, 0, none⟩) (block_lt_of_cell HQi.out.ct) (fun e => e.elim HQi.out.A.tb (fun e => e.elim HQi.out.A.tc HQi.out.A.ta))).trans HQi.out.ct⟩; clear H6 C6 F6))
        refine ⟨rfl, _, results_none rfl _ _ _, ?_⟩
        have e := HZZ.out
        rw [HYi.out, if_pos HB.out] at e
        rw [e]
        exact ⟨rfl, HH.out⟩
/-- prune of 256 places. -/
theorem prune2 {w : World} {b c n : Nat} {u : Nat → Bool} {D : Nat → Nat} (S : St w b c n u D) (t ab ao r : Nat) (keep : Int) (ht : w.cell? ⟨t, 0, none⟩ = some (.pointer (some ⟨b, 0, none⟩))) (ha : w.cell? ⟨ab, ao, none⟩ = some (.int .i64 (r : Nat))) (hf : w.frozen? ⟨ab, ao, none⟩ = false) (hA : Apart b c t ab) (hr : r < 4294967296) (hkl : -40000 ≤ keep) :
    Calls Tryd.prog 68 #[.pointer (some ⟨t, 0, none⟩), .pointer (some ⟨ab, ao, none⟩), .int .i64 256, .int .i64 keep] w (PrPost b c n t ab ao w (pr 2 u D r keep)) := by
  rw [pr]
  by_cases h0 : r = 0
  · subst h0
    rw [if_pos (.inl rfl)]
    exact (prune_hole t ab ao 256 keep ha).mono fun e w' ⟨h1, h2⟩ => by subst h2; exact ⟨h1, S, ha, Fr.refl _ _ _ _ _, ht⟩
  · by_cases hk : ((256 : Nat) : Int) ≤ keep
    · rw [if_pos (.inr hk)]
      exact (prune_keeps t ab ao r 256 keep ha h0 hk).mono fun e w' ⟨h1, h2⟩ => by subst h2; exact ⟨h1, S, ha, Fr.refl _ _ _ _ _, ht⟩
    · rw [if_neg (fun h => h.elim h0 hk)]
      exact prune_row2 S t ab ao r keep ht ha hf hA hr h0 (by omega) (by omega) _ rfl _ rfl
end Go.Proofs.YtgplmgliockbcaaDoor
/- The walk of Used: the blocks in use, rising, in new memory. Condition: the store lies in memory as 'St' says. -/
namespace Go.Proofs.YtgplmgliockbcaaDoor
open Go.RowKit
theorem Mod.grown {s : Nat → Prop} {a w w' : World} {row : Option Nat} (h : Mod s a w) (hg : w.grownBy w' row) (hr : ∀ k, row = some k → a.heap.size ≤ k) : Mod s a w' :=
  ⟨hg.os.trans h.os, hg.tape.trans h.tape, hg.output.trans h.output, Nat.le_trans h.size hg.size, fun k hk hs =>
    (hg.block k (Nat.lt_of_lt_of_le hk h.size) (fun e => by have := hr k e.symm; omega)).trans (h.block k hk hs)⟩
def usedL (u : Nat → Bool) (k : Nat) : List Nat := (List.range k).filter u
def intV (x : Nat) : Value := .int .i64 x
theorem usedL_yes (u : Nat → Bool) (k : Nat) (h : u k = true) : usedL u (k + 1) = usedL u k ++ [k] := by
  simp [usedL, List.range_succ, List.filter_append, h]
theorem usedL_no (u : Nat → Bool) (k : Nat) (h : u k = false) : usedL u (k + 1) = usedL u k := by
  simp [usedL, List.range_succ, List.filter_append, h]
theorem usedL_le (u : Nat → Bool) (k : Nat) : (usedL u k).length ≤ k := by
  have := List.length_filter_le u (List.range k)
  simpa [usedL] using this
theorem usedL_cnt (u : Nat → Bool) : ∀ k, (usedL u k).length = Bt.cnt u k
  | 0 => rfl
  | k + 1 => by
    have ih := usedL_cnt u k
    cases h : u k with
    | false => rw [usedL_no u k h, ih]; simp [Bt.cnt, h]
    | true => rw [usedL_yes u k h, List.length_append, ih]; simp [Bt.cnt, h]
theorem info3 : ∃ i, Tryd.prog.info? 3 = some i ∧ i.zero = some (.int .i64 0) ∧ i.size = 1 ∧ i.bytes = 8 := info_of (by kernel_rfl)
theorem und43 : Tryd.prog.underlying 33 = some (.slice 3) := by kernel_rfl
set_option maxHeartbeats 1000000 in
theorem used_any {w : World} {b c n : Nat} {u : Nat → Bool} {D : Nat → Nat} (S : St w b c n u D) :
    Calls Tryd.prog 38 #[.pointer (some ⟨b, 0, none⟩)] w fun e w' => ∃ v, e = .returned v ∧ w'.ownsRow w.heap.size 3 1 v (usedL u n).length ((usedL u n).map intV) ∧ Mod (fun _ => False) w w' := by
  obtain ⟨i3, hi, hz0, hz1, hz2⟩ := info3
  have hn1 := S.n1
  have hn2 := S.n2
  obtain ⟨cc, hsl⟩ := S.sl
  have HS : Hid (St w b c n u D) := S
  have HI : Hid (Tryd.prog.info? 3 = some i3 ∧ i3.zero = some (.int .i64 0) ∧ i3.size = 1 ∧ i3.bytes = 8) := ⟨hi, hz0, hz1, hz2⟩
  clear S hi hz0 hz1 hz2
  go_enter Tryd.func38, Tryd.ntmps38
  go_wp2_with (go_at_call 57; refine (made_yes b _ n cc _ hsl hn1).mono ?_; rintro e w' ⟨rfl, hw'⟩; rw [hw']; clear hw' w')
  go_loopw [3, 13] (fun v i wr => ∃ k : Nat, k ≤ n ∧ i = .int .i64 k ∧ Hid (wr.ownsRow w.heap.size 3 1 v (usedL u k).length ((usedL u k).map intV)) ∧ Hid (Mod (fun _ => False) w wr)) (fun _ i _ => n - (intOf i).toNat)
  case atStart => exact ⟨0, Nat.zero_le _, rfl, World.ownsRow_nil _ _ _ _, Mod.refl _ _⟩
  case round =>
    obtain ⟨k, hk, rfl, hown, hmod⟩ := hrel
    by_cases hlt : k < n
    · have HSr : Hid (St wr b c n u D) := HS.out.mod hmod.out (fun h => h) (fun h => h) (fun h => h)
      cases hu : u k with
      | false =>
        have hU : Hid (u k = false) := hu
        clear hu
        go_wp2_with (go_at_call 58; refine (HSr.out.is_in k hlt).mono ?_; rw [hU.out]; rintro e w' ⟨rfl, m, rfl⟩)
        exact ⟨⟨k + 1, hlt, by go_num, by rw [usedL_no u k hU.out]; exact hown, hmod.out.drewN m⟩, by simp [intOf]; omega⟩
      | true =>
        have hU : Hid (u k = true) := hu
        clear hu
        have hle := usedL_le u k
        have hO : Hid ((wr.alloc (.cells #[.int .i64 k] 3)).ownsRow w.heap.size 3 1 u3 (usedL u k).length ((usedL u k).map intV)) := hown.out.alloc _
        have hsz := hmod.out.size
        go_wp2_with (first | (go_at_call 58; refine (HSr.out.is_in k hlt).mono ?_; rw [hU.out]; rintro e w' ⟨rfl, m, rfl⟩) | (at_builtin; refine wpList_append_own _ rfl _ _ 33 rfl w.heap.size 3 i3 (.int .i64 0) 1 8 und43 HI.out.1 HI.out.2.1 HI.out.2.2.1 HI.out.2.2.2 rfl (by decide) _ _ _ rfl hO.out ⟨wr.heap.size, 0, none⟩ 1 1 [intV k] rfl rfl ?c1 ?c2 ?c3 ?c4 ?c5 ?_))
        case c1 =>
          intro j x hj
          match j, hj with
          | 0, hj =>
            simp at hj; subst hj
            show ((wr.alloc (.cells #[.int .i64 k] 3)).cell? _) = _
            rw [show (⟨wr.heap.size, 0, none⟩ : Addr).add 0 = ⟨wr.heap.size, 0, none⟩ from rfl, World.cell?_alloc_at _ _ _ _ rfl]; rfl
        case c2 => intro x hx; simp at hx; subst hx; rfl
        case c3 => unfold maxLen; omega
        case c4 => omega
        case c5 => simp; omega
        intro v' w1 hown' hgrow _
        have hO' : Hid (w1.ownsRow w.heap.size 3 1 v' (usedL u (k + 1)).length ((usedL u (k + 1)).map intV)) := by
          show w1.ownsRow _ _ _ _ _ _
          rw [usedL_yes u k hU.out, List.length_append, List.map_append]; exact hown'
        have hM' : Hid (Mod (fun _ => False) w w1) := (((hmod.out.alloc (.cells #[.int .i64 k] 3)).drewN _).grown hgrow (fun j hj => (hown.out.lt j hj).1))
        clear hown' hgrow
        go_wp2
        first | exact ⟨⟨k + 1, hlt, by go_num, hO', hM'⟩, by simp [intOf]; omega⟩ | ((repeat apply Exists.intro); exact ⟨⟨k + 1, hlt, by go_num, hO', hM'⟩, rfl⟩)
    · obtain rfl : k = n := by omega
      go_wp2
      go_ret
      exact ⟨_, rfl, hown, hmod⟩
end Go.Proofs.YtgplmgliockbcaaDoor
