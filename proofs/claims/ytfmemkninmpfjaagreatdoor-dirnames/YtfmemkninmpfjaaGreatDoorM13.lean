/- Several texts of this claim, one behind the other, in their order. -/
import Derived.Test.YtfmemkninmpfjaaGreatDoorM12
/- The walk of prune, of 16 places. Conditions: the store lies in memory as 'St' says, the table's first cell leads to it, the ref lies in a block of its own. -/
namespace Go.Proofs.YtfmemkninmpfjaaGreatDoor
open Go.RowKit
set_option maxRecDepth 8000 in
set_option maxHeartbeats 4000000 in
theorem prune_row1 {w : World} {b c n : Nat} {u : Nat → Bool} {D : Nat → Nat} (S : St w b c n u D) (t ab ao r : Nat) (keep : Int) (ht : w.cell? ⟨t, 0, none⟩ = some (.pointer (some ⟨b, 0, none⟩))) (ha : w.cell? ⟨ab, ao, none⟩ = some (.int .i64 (r : Nat))) (hf : w.frozen? ⟨ab, ao, none⟩ = false) (hA : Apart b c t ab) (hr : r < 4294967296) (hr0 : r ≠ 0) (hk : keep < 16) (hkl : -50000 ≤ keep) (y : (Nat → Bool) × (Nat → Nat) × (Nat → Nat)) (hy : prRow (pr 0) 1 keep 16 (u, D, ptr u D r) = y) (zz : PS) (hzz : zz = if allZ y.2.2 then (freeU y.1 r, freeD y.1 y.2.1 r, 0) else (y.1, saved y.1 y.2.1 r y.2.2, r)) :
    Calls Tryz.prog 121 #[.pointer (some ⟨t, 0, none⟩), .pointer (some ⟨ab, ao, none⟩), .int .i64 16, .int .i64 keep] w (PrPost b c n t ab ao w zz) := by
  have hrb : ((r : Int) == 0) = false := by simpa using hr0
  have hz := zvP
  have hab := block_lt_of_cell ha
  have htl := block_lt_of_cell ht
  have hge : ¬ 16 ≤ keep := by omega
  have HS : Hid (St w b c n u D) := S
  have HT : Hid (w.cell? ⟨t, 0, none⟩ = some (.pointer (some ⟨b, 0, none⟩))) := ht
  have HA : Hid (Apart b c t ab ∧ w.frozen? ⟨ab, ao, none⟩ = false ∧ w.cell? ⟨ab, ao, none⟩ = some (.int .i64 (r : Nat))) := ⟨hA, hf, ha⟩
  have HD : Hid (∀ j, D j < 256) := S.dl
  have HBC : Hid (b < w.heap.size ∧ c < w.heap.size) := ⟨S.lt_b, S.lt_c⟩
  have HY : Hid (prRow (pr 0) 1 keep 16 (u, D, ptr u D r) = y) := hy
  have HZZ : Hid (zz = if allZ y.2.2 then (freeU y.1 r, freeD y.1 y.2.1 r, 0) else (y.1, saved y.1 y.2.1 r y.2.2, r)) := hzz
  clear S ht hA hf hr0 hy hzz
  go_enter Tryz.func121, Tryz.ntmps121
  go_wp2_with (first | (go_at_call 127; refine (load_row HS.out t r HT.out hr).mono ?_; rintro e w1 ⟨A, rfl, hsz, -, HO, HJ, HM⟩; have hTh : Hid ((w1.alloc (.cells zeroP 198)).there w1.heap.size 0 A.size) := by (show World.there _ _ _ _; rw [hsz]; exact there_new w1 198 zeroP sizeP)) | (refine wpList_store_mid rfl 198 _ _ rfl w1.heap.size 0 A rfl rfl hTh.out (by rw [hsz]; exact infP) HO.out ?_; rw [set_row w1 A hsz HO.out]))
  have HM2 : Hid (Mod (fun _ => False) w (w1.alloc (.cells A 198))) := HM.out.alloc _
  have HQ : Hid (PQ b c n t ab ao r w1.heap.size u D (ptr u D r) (w1.alloc (.cells A 198))) := by
    have h1 := HM.out.size
    refine ⟨HS.out.mod HM2.out (fun h => h) (fun h => h) (fun h => h), (HM2.out.cell (p := ⟨t, 0, none⟩) htl (fun h => h)).trans HT.out, (HM2.out.cell (p := ⟨ab, ao, none⟩) hab (fun h => h)).trans HA.out.2.2, (HM2.out.frozen (p := ⟨ab, ao, none⟩) hab (fun h => h)).trans HA.out.2.1, fun j hj => ?_, fun o _ => World.frozen?_alloc_at _ _ _ _ rfl, fun j => ptr_lt _ _ HD.out _ _, HA.out.1, ⟨?_, ?_, ?_, HA.out.1.tb, HA.out.1.tc, ?_⟩, ?_⟩
    · rw [World.cell?_alloc_at _ _ _ _ rfl]; exact HJ.out j hj
    · have := HS.out.tab.lt; omega
    · have := HBC.out.1; omega
    · have := HBC.out.2; omega
    · omega
    · omega
  have HPl : Hid (w.heap.size ≤ w1.heap.size) := HM.out.size
  have HF2 : Hid (Fr b c ab ao w (w1.alloc (.cells A 198))) := Fr.of_mod HM2.out hab (fun _ h => h.elim) HA.out.1.nb HA.out.1.nc
  generalize hw2 : w1.alloc (.cells A 198) = w2 at *
  generalize w1.heap.size = Pb at *
  clear hw2 HM2 hTh HM HJ HO hsz
  go_loopw [29] (fun x wx => ∃ i : Nat, i ≤ 16 ∧ x = .int .i64 i ∧ ∃ (us : Nat → Bool) (Ds : Nat → Nat) (qs : Nat → Nat), Hid (PQ b c n t ab ao r Pb us Ds qs wx) ∧ Hid (Fr b c ab ao w wx) ∧ Hid (prRow (pr 0) 1 keep i (u, D, ptr u D r) = (us, Ds, qs))) (fun x _ => 16 - (intOf x).toNat)
  case atStart => exact ⟨0, by omega, rfl, u, D, ptr u D r, HQ, HF2, rfl⟩
  case round =>
    obtain ⟨i, hi, rfl, us, Ds, qs, HQi, HFi, HEi⟩ := hrel
    by_cases hlt : i < 16
    · have HK : Hid (keep - (i : Int) = keep - ((i * 1 : Nat) : Int)) := by show _ = _; omega
      have HN : Hid (prRow (pr 0) 1 keep (i + 1) (u, D, ptr u D r) = ((pr 0 us Ds (qs i) (keep - ((i * 1 : Nat) : Int))).1, (pr 0 us Ds (qs i) (keep - ((i * 1 : Nat) : Int))).2.1, upd qs i (pr 0 us Ds (qs i) (keep - ((i * 1 : Nat) : Int))).2.2)) := by
        show _ = _
        rw [prRow, HEi.out]
      go_wp2_with (go_at_call 121; rw [HK.out]; refine (prune0 HQi.out.S t Pb i (qs i) (keep - ((i * 1 : Nat) : Int)) HQi.out.ct (HQi.out.at_ i hlt) (HQi.out.fr i hlt) HQi.out.P (HQi.out.ql i)).mono ?_; rintro e w3 ⟨rfl, H3, C3, F3, T3⟩; have HQ3 : Hid (PQ b c n t ab ao r Pb (pr 0 us Ds (qs i) (keep - ((i * 1 : Nat) : Int))).1 (pr 0 us Ds (qs i) (keep - ((i * 1 : Nat) : Int))).2.1 (upd qs i (pr 0 us Ds (qs i) (keep - ((i * 1 : Nat) : Int))).2.2) w3) := HQi.out.next i _ (Nat.lt_of_le_of_lt (pr_le _ _ _ _ _) (HQi.out.ql i)) H3 C3 F3 T3; have HF3 : Hid (Fr b c ab ao w w3) := fr_sub0 F3 (block_lt_of_cell HQi.out.ca) HQi.out.A.nb HQi.out.A.nc HQi.out.ne HPl.out HFi.out; clear H3 C3 F3 T3)
      exact ⟨⟨i + 1, by omega, by go_num, _, _, _, HQ3, HF3, HN⟩, by simp [intOf]; omega⟩
    · have HYi : Hid (y = (us, Ds, qs)) := by
        show _ = _
        rw [← HY.out, ← HEi.out, show i = 16 by omega]
      obtain ⟨L, hlen, HL, HR⟩ : ∃ L : List Value, L.length = 16 ∧ Hid (L.toArray = refsV qs) ∧ Hid (wr.rangeAt Pb 0 L) := by
        have := row_of (x := 0) (p := qs 0) (w5 := wr) HQi.out.at_ (HQi.out.at_ 0 (by omega)) (fun _ _ => rfl)
        rwa [show upd qs 0 (qs 0) = qs by funext k; unfold upd; split; rename_i h; rw [h]; rfl] at this
      have hIL : (Tryz.prog.info? 198).map (·.size) = some L.length := by rw [hlen]; exact infP
      have hca := HQi.out.ca
      cases hb : allZ qs with
      | false =>
        have hneq : ∀ W, (binOp .neq 198 (.agg L.toArray) (.agg zeroP)).run Tryz.prog W = .ok (.bool true) W := fun W => by rw [HL.out, run_neqP, hb]; rfl
        have HB : Hid (allZ qs = false) := hb
        have hUL := undP
        have HS9 : Hid ((wr.drewN 1).cell? ⟨ab, ao, none⟩ = some (.int .i64 (r : Nat)) ∧ (wr.drewN 1).rangeAt Pb 0 L) := ⟨HQi.out.ca, HR.out⟩
        clear hb
        go_wp2_with (first | (refine wpList_load_mid rfl 198 _ rfl Pb 0 rfl L _ HR.out undP rfl hIL ?_))
        go_region_held (fun W' => W'.cell? ⟨ab, ao, none⟩ = some (.int .i64 (r : Nat)) ∧ W'.rangeAt Pb 0 L) (first | exact hS10 | exact HS9.out) (first | (go_at_call 128; rw [HL.out]; refine (save_any (HQi.out.S.drewN 1) t r qs HQi.out.ql HQi.out.ct HQi.out.A.tc hr).mono ?_; rintro e w6 ⟨rfl, H6, M6⟩; have M6' := ((Mod.refl (fun k => k = c) wr).drewN 1).trans M6; have HS6 : Hid (St w6 b c n us (saved us Ds r qs)) := H6; have HF6 : Hid (Fr b c ab ao w w6) := HFi.out.trans (Fr.of_mod M6' (block_lt_of_cell HQi.out.ca) (fun _ e => .inr e) HQi.out.A.nb HQi.out.A.nc); have HT6 : Hid (w6.cell? ⟨t, 0, none⟩ = some (.pointer (some ⟨b, 0, none⟩))) := (M6'.cell (p := ⟨t, 0, none⟩) (block_lt_of_cell HQi.out.ct) HQi.out.A.tc).trans HQi.out.ct; have hS10 : w6.cell? ⟨ab, ao, none⟩ = some (.int .i64 (r : Nat)) ∧ w6.rangeAt Pb 0 L := ⟨(M6'.cell (p := ⟨ab, ao, none⟩) (block_lt_of_cell HQi.out.ca) HQi.out.A.nc).trans HQi.out.ca, range_mod M6 HR.out (block_lt_of_cell (HQi.out.at_ 0 (by omega))) HQi.out.P.nc⟩; clear H6 M6 M6'))
        go_wp2
        refine bodyPost_ret (results_none rfl _ _ _) rfl ?_
        have e := HZZ.out
        rw [HYi.out, if_neg (by rw [HB.out]; simp)] at e
        rw [e]
        exact ⟨rfl, HS6.out, hS10.1, HF6.out, HT6.out⟩
      | true =>
        have hneq : ∀ W, (binOp .neq 198 (.agg L.toArray) (.agg zeroP)).run Tryz.prog W = .ok (.bool false) W := fun W => by rw [HL.out, run_neqP, hb]; rfl
        have HB : Hid (allZ qs = true) := hb
        clear hb
        go_wp2_with (first | (refine wpList_load_mid rfl 198 _ rfl Pb 0 rfl L _ HR.out undP rfl hIL ?_) | (go_at_call 126; refine (free_any HQi.out.S t ab ao r HQi.out.ct HQi.out.ca HQi.out.fa HQi.out.A.a0 HQi.out.A.nb HQi.out.A.nc HQi.out.A.tb HQi.out.A.tc hr).mono ?_; rintro e w6 ⟨rfl, H6, C6, F6⟩; have HH : Hid (St w6 b c n (freeU us r) (freeD us Ds r) ∧ w6.cell? ⟨ab, ao, none⟩ = some (.int .i64 0) ∧ Fr b c ab ao w w6 ∧ w6.cell? ⟨t, 0, none⟩ = some (.pointer (some ⟨b, 0, none⟩))) := ⟨H6, C6, HFi.out.trans F6, (F6.mod.cell (p := ⟨t, 0, none⟩) (block_lt_of_cell HQi.out.ct) (fun e => e.elim HQi.out.A.tb (fun e => e.elim HQi.out.A.tc HQi.out.A.ta))).trans HQi.out.ct⟩; clear H6 C6 F6))
        refine ⟨rfl, _, results_none rfl _ _ _, ?_⟩
        have e := HZZ.out
        rw [HYi.out, if_pos HB.out] at e
        rw [e]
        exact ⟨rfl, HH.out⟩
/-- prune of 16 places. -/
theorem prune1 {w : World} {b c n : Nat} {u : Nat → Bool} {D : Nat → Nat} (S : St w b c n u D) (t ab ao r : Nat) (keep : Int) (ht : w.cell? ⟨t, 0, none⟩ = some (.pointer (some ⟨b, 0, none⟩))) (ha : w.cell? ⟨ab, ao, none⟩ = some (.int .i64 (r : Nat))) (hf : w.frozen? ⟨ab, ao, none⟩ = false) (hA : Apart b c t ab) (hr : r < 4294967296) (hkl : -50000 ≤ keep) :
    Calls Tryz.prog 121 #[.pointer (some ⟨t, 0, none⟩), .pointer (some ⟨ab, ao, none⟩), .int .i64 16, .int .i64 keep] w (PrPost b c n t ab ao w (pr 1 u D r keep)) := by
  rw [pr]
  by_cases h0 : r = 0
  · subst h0
    rw [if_pos (.inl rfl)]
    exact (prune_hole t ab ao 16 keep ha).mono fun e w' ⟨h1, h2⟩ => by subst h2; exact ⟨h1, S, ha, Fr.refl _ _ _ _ _, ht⟩
  · by_cases hk : ((16 : Nat) : Int) ≤ keep
    · rw [if_pos (.inr hk)]
      exact (prune_keeps t ab ao r 16 keep ha h0 hk).mono fun e w' ⟨h1, h2⟩ => by subst h2; exact ⟨h1, S, ha, Fr.refl _ _ _ _ _, ht⟩
    · rw [if_neg (fun h => h.elim h0 hk)]
      exact prune_row1 S t ab ao r keep ht ha hf hA hr h0 (by omega) (by omega) _ rfl _ rfl
end Go.Proofs.YtfmemkninmpfjaaGreatDoor
/- The walk of prune, of 256 places. Conditions: the store lies in memory as 'St' says, the table's first cell leads to it, the ref lies in a block of its own. -/
namespace Go.Proofs.YtfmemkninmpfjaaGreatDoor
open Go.RowKit
set_option maxRecDepth 8000 in
set_option maxHeartbeats 4000000 in
theorem prune_row2 {w : World} {b c n : Nat} {u : Nat → Bool} {D : Nat → Nat} (S : St w b c n u D) (t ab ao r : Nat) (keep : Int) (ht : w.cell? ⟨t, 0, none⟩ = some (.pointer (some ⟨b, 0, none⟩))) (ha : w.cell? ⟨ab, ao, none⟩ = some (.int .i64 (r : Nat))) (hf : w.frozen? ⟨ab, ao, none⟩ = false) (hA : Apart b c t ab) (hr : r < 4294967296) (hr0 : r ≠ 0) (hk : keep < 256) (hkl : -40000 ≤ keep) (y : (Nat → Bool) × (Nat → Nat) × (Nat → Nat)) (hy : prRow (pr 1) 16 keep 16 (u, D, ptr u D r) = y) (zz : PS) (hzz : zz = if allZ y.2.2 then (freeU y.1 r, freeD y.1 y.2.1 r, 0) else (y.1, saved y.1 y.2.1 r y.2.2, r)) :
    Calls Tryz.prog 121 #[.pointer (some ⟨t, 0, none⟩), .pointer (some ⟨ab, ao, none⟩), .int .i64 256, .int .i64 keep] w (PrPost b c n t ab ao w zz) := by
  have hrb : ((r : Int) == 0) = false := by simpa using hr0
  have hz := zvP
  have hab := block_lt_of_cell ha
  have htl := block_lt_of_cell ht
  have hge : ¬ 256 ≤ keep := by omega
  have HS : Hid (St w b c n u D) := S
  have HT : Hid (w.cell? ⟨t, 0, none⟩ = some (.pointer (some ⟨b, 0, none⟩))) := ht
  have HA : Hid (Apart b c t ab ∧ w.frozen? ⟨ab, ao, none⟩ = false ∧ w.cell? ⟨ab, ao, none⟩ = some (.int .i64 (r : Nat))) := ⟨hA, hf, ha⟩
  have HD : Hid (∀ j, D j < 256) := S.dl
  have HBC : Hid (b < w.heap.size ∧ c < w.heap.size) := ⟨S.lt_b, S.lt_c⟩
  have HY : Hid (prRow (pr 1) 16 keep 16 (u, D, ptr u D r) = y) := hy
  have HZZ : Hid (zz = if allZ y.2.2 then (freeU y.1 r, freeD y.1 y.2.1 r, 0) else (y.1, saved y.1 y.2.1 r y.2.2, r)) := hzz
  clear S ht hA hf hr0 hy hzz
  go_enter Tryz.func121, Tryz.ntmps121
  go_wp2_with (first | (go_at_call 127; refine (load_row HS.out t r HT.out hr).mono ?_; rintro e w1 ⟨A, rfl, hsz, -, HO, HJ, HM⟩; have hTh : Hid ((w1.alloc (.cells zeroP 198)).there w1.heap.size 0 A.size) := by (show World.there _ _ _ _; rw [hsz]; exact there_new w1 198 zeroP sizeP)) | (refine wpList_store_mid rfl 198 _ _ rfl w1.heap.size 0 A rfl rfl hTh.out (by rw [hsz]; exact infP) HO.out ?_; rw [set_row w1 A hsz HO.out]))
  have HM2 : Hid (Mod (fun _ => False) w (w1.alloc (.cells A 198))) := HM.out.alloc _
  have HQ : Hid (PQ b c n t ab ao r w1.heap.size u D (ptr u D r) (w1.alloc (.cells A 198))) := by
    have h1 := HM.out.size
    refine ⟨HS.out.mod HM2.out (fun h => h) (fun h => h) (fun h => h), (HM2.out.cell (p := ⟨t, 0, none⟩) htl (fun h => h)).trans HT.out, (HM2.out.cell (p := ⟨ab, ao, none⟩) hab (fun h => h)).trans HA.out.2.2, (HM2.out.frozen (p := ⟨ab, ao, none⟩) hab (fun h => h)).trans HA.out.2.1, fun j hj => ?_, fun o _ => World.frozen?_alloc_at _ _ _ _ rfl, fun j => ptr_lt _ _ HD.out _ _, HA.out.1, ⟨?_, ?_, ?_, HA.out.1.tb, HA.out.1.tc, ?_⟩, ?_⟩
    · rw [World.cell?_alloc_at _ _ _ _ rfl]; exact HJ.out j hj
    · have := HS.out.tab.lt; omega
    · have := HBC.out.1; omega
    · have := HBC.out.2; omega
    · omega
    · omega
  have HPl : Hid (w.heap.size ≤ w1.heap.size) := HM.out.size
  have HF2 : Hid (Fr b c ab ao w (w1.alloc (.cells A 198))) := Fr.of_mod HM2.out hab (fun _ h => h.elim) HA.out.1.nb HA.out.1.nc
  generalize hw2 : w1.alloc (.cells A 198) = w2 at *
  generalize w1.heap.size = Pb at *
  clear hw2 HM2 hTh HM HJ HO hsz
  go_loopw [29] (fun x wx => ∃ i : Nat, i ≤ 16 ∧ x = .int .i64 i ∧ ∃ (us : Nat → Bool) (Ds : Nat → Nat) (qs : Nat → Nat), Hid (PQ b c n t ab ao r Pb us Ds qs wx) ∧ Hid (Fr b c ab ao w wx) ∧ Hid (prRow (pr 1) 16 keep i (u, D, ptr u D r) = (us, Ds, qs))) (fun x _ => 16 - (intOf x).toNat)
  case atStart => exact ⟨0, by omega, rfl, u, D, ptr u D r, HQ, HF2, rfl⟩
  case round =>
    obtain ⟨i, hi, rfl, us, Ds, qs, HQi, HFi, HEi⟩ := hrel
    by_cases hlt : i < 16
    · have HK : Hid (keep - (i : Int) * 16 = keep - ((i * 16 : Nat) : Int)) := by show _ = _; omega
      have HN : Hid (prRow (pr 1) 16 keep (i + 1) (u, D, ptr u D r) = ((pr 1 us Ds (qs i) (keep - ((i * 16 : Nat) : Int))).1, (pr 1 us Ds (qs i) (keep - ((i * 16 : Nat) : Int))).2.1, upd qs i (pr 1 us Ds (qs i) (keep - ((i * 16 : Nat) : Int))).2.2)) := by
        show _ = _
        rw [prRow, HEi.out]
      go_wp2_with (go_at_call 121; rw [HK.out]; refine (prune1 HQi.out.S t Pb i (qs i) (keep - ((i * 16 : Nat) : Int)) HQi.out.ct (HQi.out.at_ i hlt) (HQi.out.fr i hlt) HQi.out.P (HQi.out.ql i) (by omega)).mono ?_; rintro e w3 ⟨rfl, H3, C3, F3, T3⟩; have HQ3 : Hid (PQ b c n t ab ao r Pb (pr 1 us Ds (qs i) (keep - ((i * 16 : Nat) : Int))).1 (pr 1 us Ds (qs i) (keep - ((i * 16 : Nat) : Int))).2.1 (upd qs i (pr 1 us Ds (qs i) (keep - ((i * 16 : Nat) : Int))).2.2) w3) := HQi.out.next i _ (Nat.lt_of_le_of_lt (pr_le _ _ _ _ _) (HQi.out.ql i)) H3 C3 F3 T3; have HF3 : Hid (Fr b c ab ao w w3) := fr_sub0 F3 (block_lt_of_cell HQi.out.ca) HQi.out.A.nb HQi.out.A.nc HQi.out.ne HPl.out HFi.out; clear H3 C3 F3 T3)
      exact ⟨⟨i + 1, by omega, by go_num, _, _, _, HQ3, HF3, HN⟩, by simp [intOf]; omega⟩
    · have HYi : Hid (y = (us, Ds, qs)) := by
        show _ = _
        rw [← HY.out, ← HEi.out, show i = 16 by omega]
      obtain ⟨L, hlen, HL, HR⟩ : ∃ L : List Value, L.length = 16 ∧ Hid (L.toArray = refsV qs) ∧ Hid (wr.rangeAt Pb 0 L) := by
        have := row_of (x := 0) (p := qs 0) (w5 := wr) HQi.out.at_ (HQi.out.at_ 0 (by omega)) (fun _ _ => rfl)
        rwa [show upd qs 0 (qs 0) = qs by funext k; unfold upd; split; rename_i h; rw [h]; rfl] at this
      have hIL : (Tryz.prog.info? 198).map (·.size) = some L.length := by rw [hlen]; exact infP
      have hca := HQi.out.ca
      cases hb : allZ qs with
      | false =>
        have hneq : ∀ W, (binOp .neq 198 (.agg L.toArray) (.agg zeroP)).run Tryz.prog W = .ok (.bool true) W := fun W => by rw [HL.out, run_neqP, hb]; rfl
        have HB : Hid (allZ qs = false) := hb
        have hUL := undP
        have HS9 : Hid ((wr.drewN 1).cell? ⟨ab, ao, none⟩ = some (.int .i64 (r : Nat)) ∧ (wr.drewN 1).rangeAt Pb 0 L) := ⟨HQi.out.ca, HR.out⟩
        clear hb
        go_wp2_with (first | (refine wpList_load_mid rfl 198 _ rfl Pb 0 rfl L _ HR.out undP rfl hIL ?_))
        go_region_held (fun W' => W'.cell? ⟨ab, ao, none⟩ = some (.int .i64 (r : Nat)) ∧ W'.rangeAt Pb 0 L) (first | exact hS10 | exact HS9.out) (first | (go_at_call 128; rw [HL.out]; refine (save_any (HQi.out.S.drewN 1) t r qs HQi.out.ql HQi.out.ct HQi.out.A.tc hr).mono ?_; rintro e w6 ⟨rfl, H6, M6⟩; have M6' := ((Mod.refl (fun k => k = c) wr).drewN 1).trans M6; have HS6 : Hid (St w6 b c n us (saved us Ds r qs)) := H6; have HF6 : Hid (Fr b c ab ao w w6) := HFi.out.trans (Fr.of_mod M6' (block_lt_of_cell HQi.out.ca) (fun _ e => .inr e) HQi.out.A.nb HQi.out.A.nc); have HT6 : Hid (w6.cell? ⟨t, 0, none⟩ = some (.pointer (some ⟨b, 0, none⟩))) := (M6'.cell (p := ⟨t, 0, none⟩) (block_lt_of_cell HQi.out.ct) HQi.out.A.tc).trans HQi.out.ct; have hS10 : w6.cell? ⟨ab, ao, none⟩ = some (.int .i64 (r : Nat)) ∧ w6.rangeAt Pb 0 L := ⟨(M6'.cell (p := ⟨ab, ao, none⟩) (block_lt_of_cell HQi.out.ca) HQi.out.A.nc).trans HQi.out.ca, range_mod M6 HR.out (block_lt_of_cell (HQi.out.at_ 0 (by omega))) HQi.out.P.nc⟩; clear H6 M6 M6'))
        go_wp2
        refine bodyPost_ret (results_none rfl _ _ _) rfl ?_
        have e := HZZ.out
        rw [HYi.out, if_neg (by rw [HB.out]; simp)] at e
        rw [e]
        exact ⟨rfl, HS6.out, hS10.1, HF6.out, HT6.out⟩
      | true =>
        have hneq : ∀ W, (binOp .neq 198 (.agg L.toArray) (.agg zeroP)).run Tryz.prog W = .ok (.bool false) W := fun W => by rw [HL.out, run_neqP, hb]; rfl
        have HB : Hid (allZ qs = true) := hb
        clear hb
        go_wp2_with (first | (refine wpList_load_mid rfl 198 _ rfl Pb 0 rfl L _ HR.out undP rfl hIL ?_) | (go_at_call 126; refine (free_any HQi.out.S t ab ao r HQi.out.ct HQi.out.ca HQi.out.fa HQi.out.A.a0 HQi.out.A.nb HQi.out.A.nc HQi.out.A.tb HQi.out.A.tc hr).mono ?_; rintro e w6 ⟨rfl, H6, C6, F6⟩; have HH : Hid (St w6 b c n (freeU us r) (freeD us Ds r) ∧ w6.cell? ⟨ab, ao, none⟩ = some (.int .i64 0) ∧ Fr b c ab ao w w6 ∧ w6.cell? ⟨t, 0, none⟩ = some (.pointer (some ⟨b, 0, none⟩))) := ⟨H6, C6, HFi.out.trans F6, (F6.mod.cell (p := ⟨t, 0, none⟩) (block_lt_of_cell HQi.out.ct) (fun e => e.elim HQi.out.A.tb (fun e => e.elim HQi.out.A.tc HQi.out.A.ta))).trans HQi.out.ct⟩; clear H6 C6 F6))
        refine ⟨rfl, _, results_none rfl _ _ _, ?_⟩
        have e := HZZ.out
        rw [HYi.out, if_pos HB.out] at e
        rw [e]
        exact ⟨rfl, HH.out⟩
/-- prune of 256 places. -/
theorem prune2 {w : World} {b c n : Nat} {u : Nat → Bool} {D : Nat → Nat} (S : St w b c n u D) (t ab ao r : Nat) (keep : Int) (ht : w.cell? ⟨t, 0, none⟩ = some (.pointer (some ⟨b, 0, none⟩))) (ha : w.cell? ⟨ab, ao, none⟩ = some (.int .i64 (r : Nat))) (hf : w.frozen? ⟨ab, ao, none⟩ = false) (hA : Apart b c t ab) (hr : r < 4294967296) (hkl : -40000 ≤ keep) :
    Calls Tryz.prog 121 #[.pointer (some ⟨t, 0, none⟩), .pointer (some ⟨ab, ao, none⟩), .int .i64 256, .int .i64 keep] w (PrPost b c n t ab ao w (pr 2 u D r keep)) := by
  rw [pr]
  by_cases h0 : r = 0
  · subst h0
    rw [if_pos (.inl rfl)]
    exact (prune_hole t ab ao 256 keep ha).mono fun e w' ⟨h1, h2⟩ => by subst h2; exact ⟨h1, S, ha, Fr.refl _ _ _ _ _, ht⟩
  · by_cases hk : ((256 : Nat) : Int) ≤ keep
    · rw [if_pos (.inr hk)]
      exact (prune_keeps t ab ao r 256 keep ha h0 hk).mono fun e w' ⟨h1, h2⟩ => by subst h2; exact ⟨h1, S, ha, Fr.refl _ _ _ _ _, ht⟩
    · rw [if_neg (fun h => h.elim h0 hk)]
      exact prune_row2 S t ab ao r keep ht ha hf hA hr h0 (by omega) (by omega) _ rfl _ rfl
end Go.Proofs.YtfmemkninmpfjaaGreatDoor
