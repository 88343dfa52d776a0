/- Several texts of this claim, one behind the other, in their order. -/
import Derived.Test.YtgkkbplecfhmdaaGreatDoorM20
import Derived.Test.YtgkkbplecfhmdaaGreatDoorM17
import Derived.Test.YtgkkbplecfhmdaaGreatDoorM3
/- The walk of prune, of 256 places. Conditions: the store lies in memory as 'St' says, the table's first cell leads to it, the ref lies in a block of its own. -/
namespace Go.Proofs.YtgkkbplecfhmdaaGreatDoor
open Go.RowKit
set_option maxRecDepth 8000 in
set_option maxHeartbeats 4000000 in
theorem prune_row2 {w : World} {b c n : Nat} {u : Nat → Bool} {D : Nat → Nat} (S : St w b c n u D) (t ab ao r : Nat) (keep : Int) (ht : w.cell? ⟨t, 0, none⟩ = some (.pointer (some ⟨b, 0, none⟩))) (ha : w.cell? ⟨ab, ao, none⟩ = some (.int .i64 (r : Nat))) (hf : w.frozen? ⟨ab, ao, none⟩ = false) (hA : Apart b c t ab) (hr : r < 4294967296) (hr0 : r ≠ 0) (hk : keep < 256) (hkl : -40000 ≤ keep) (y : (Nat → Bool) × (Nat → Nat) × (Nat → Nat)) (hy : prRow (pr 1) 16 keep 16 (u, D, ptr u D r) = y) (zz : PS) (hzz : zz = if allZ y.2.2 then (freeU y.1 r, freeD y.1 y.2.1 r, 0) else (y.1, saved y.1 y.2.1 r y.2.2, r)) :
    Calls Tryz.prog 148 #[.pointer (some ⟨t, 0, none⟩), .pointer (some ⟨ab, ao, none⟩), .int .i64 256, .int .i64 keep] w (PrPost b c n t ab ao w zz) := by
  have hrb : ((r : Int) == 0) = false := by simpa using hr0
  have hz := zvP
  have hab := block_lt_of_cell ha
  have htl := block_lt_of_cell ht
  have hge : ¬ 256 ≤ keep := by omega
  have HS : Hid (St w b c n u D) := S
  have HT : Hid (w.cell? ⟨t, 0, none⟩ = some (.pointer (some ⟨b, 0, none⟩))) := ht
  have HA : Hid (Apart b c t ab ∧ w.frozen? ⟨ab, ao, none⟩ = false ∧ w.cell? ⟨ab, ao, none⟩ = some (.int .i64 (r : Nat))) := ⟨hA, hf, ha⟩
  have HD : Hid (∀ j, D j < 256) := S.dl
  have HBC : Hid (b < w.heap.size ∧ c < w.heap.size) := ⟨S.lt_b, S.lt_c⟩
  have HY : Hid (prRow (pr 1) 16 keep 16 (u, D, ptr u D r) = y) := hy
  have HZZ : Hid (zz = if allZ y.2.2 then (freeU y.1 r, freeD y.1 y.2.1 r, 0) else (y.1, saved y.1 y.2.1 r y.2.2, r)) := hzz
  clear S ht hA hf hr0 hy hzz
  go_enter Tryz.func148, Tryz.ntmps148
  go_wp2_with (first | (go_at_call 175; refine (load_row HS.out t r HT.out hr).mono ?_; rintro e w1 ⟨A, rfl, hsz, -, HO, HJ, HM⟩; have hTh : Hid ((w1.alloc (.cells zeroP 261)).there w1.heap.size 0 A.size) := by (show World.there _ _ _ _; rw [hsz]; exact there_new w1 261 zeroP sizeP)) | (refine wpList_store_mid rfl 261 _ _ rfl w1.heap.size 0 A rfl rfl hTh.out (by rw [hsz]; exact infP) HO.out ?_; rw [set_row w1 A hsz HO.out]))
  have HM2 : Hid (Mod (fun _ => False) w (w1.alloc (.cells A 261))) := HM.out.alloc _
  have HQ : Hid (PQ b c n t ab ao r w1.heap.size u D (ptr u D r) (w1.alloc (.cells A 261))) := by
    have h1 := HM.out.size
    refine ⟨HS.out.mod HM2.out (fun h => h) (fun h => h) (fun h => h), (HM2.out.cell (p := ⟨t, 0, none⟩) htl (fun h => h)).trans HT.out, (HM2.out.cell (p := ⟨ab, ao, none⟩) hab (fun h => h)).trans HA.out.2.2, (HM2.out.frozen (p := ⟨ab, ao, none⟩) hab (fun h => h)).trans HA.out.2.1, fun j hj => ?_, fun o _ => World.frozen?_alloc_at _ _ _ _ rfl, fun j => ptr_lt _ _ HD.out _ _, HA.out.1, ⟨?_, ?_, ?_, HA.out.1.tb, HA.out.1.tc, ?_⟩, ?_⟩
    · rw [World.cell?_alloc_at _ _ _ _ rfl]; exact HJ.out j hj
    · have := HS.out.tab.lt; omega
    · have := HBC.out.1; omega
    · have := HBC.out.2; omega
    · omega
    · omega
  have HPl : Hid (w.heap.size ≤ w1.heap.size) := HM.out.size
  have HF2 : Hid (Fr b c ab ao w (w1.alloc (.cells A 261))) := Fr.of_mod HM2.out hab (fun _ h => h.elim) HA.out.1.nb HA.out.1.nc
  generalize hw2 : w1.alloc (.cells A 261) = w2 at *
  generalize w1.heap.size = Pb at *
  clear hw2 HM2 hTh HM HJ HO hsz
  go_loopw [29] (fun x wx => ∃ i : Nat, i ≤ 16 ∧ x = .int .i64 i ∧ ∃ (us : Nat → Bool) (Ds : Nat → Nat) (qs : Nat → Nat), Hid (PQ b c n t ab ao r Pb us Ds qs wx) ∧ Hid (Fr b c ab ao w wx) ∧ Hid (prRow (pr 1) 16 keep i (u, D, ptr u D r) = (us, Ds, qs))) (fun x _ => 16 - (intOf x).toNat)
  case atStart => exact ⟨0, by omega, rfl, u, D, ptr u D r, HQ, HF2, rfl⟩
  case round =>
    obtain ⟨i, hi, rfl, us, Ds, qs, HQi, HFi, HEi⟩ := hrel
    by_cases hlt : i < 16
    · have HK : Hid (keep - (i : Int) * 16 = keep - ((i * 16 : Nat) : Int)) := by show _ = _; omega
      have HN : Hid (prRow (pr 1) 16 keep (i + 1) (u, D, ptr u D r) = ((pr 1 us Ds (qs i) (keep - ((i * 16 : Nat) : Int))).1, (pr 1 us Ds (qs i) (keep - ((i * 16 : Nat) : Int))).2.1, upd qs i (pr 1 us Ds (qs i) (keep - ((i * 16 : Nat) : Int))).2.2)) := by
        show _ = _
        rw [prRow, HEi.out]
      go_wp2_with (go_at_call 148; rw [HK.out]; refine (prune1 HQi.out.S t Pb i (qs i) (keep - ((i * 16 : Nat) : Int)) HQi.out.ct (HQi.out.at_ i hlt) (HQi.out.fr i hlt) HQi.out.P (HQi.out.ql i) (by omega)).mono ?_; rintro e w3 ⟨rfl, H3, C3, F3, T3⟩; have HQ3 : Hid (PQ b c n t ab ao r Pb (pr 1 us Ds (qs i) (keep - ((i * 16 : Nat) : Int))).1 (pr 1 us Ds (qs i) (keep - ((i * 16 : Nat) : Int))).2.1 (upd qs i (pr 1 us Ds (qs i) (keep - ((i * 16 : Nat) : Int))).2.2) w3) := HQi.out.next i _ (Nat.lt_of_le_of_lt (pr_le _ _ _ _ _) (HQi.out.ql i)) H3 C3 F3 T3; have HF3 : Hid (Fr b c ab ao w w3) := fr_sub0 F3 (block_lt_of_cell HQi.out.ca) HQi.out.A.nb HQi.out.A.nc HQi.out.ne HPl.out HFi.out; clear H3 C3 F3 T3)
      exact ⟨⟨i + 1, by omega, by go_num, _, _, _, HQ3, HF3, HN⟩, by simp [intOf]; omega⟩
    · have HYi : Hid (y = (us, Ds, qs)) := by
        show _ = _
        rw [← HY.out, ← HEi.out, show i = 16 by omega]
      obtain ⟨L, hlen, HL, HR⟩ : ∃ L : List Value, L.length = 16 ∧ Hid (L.toArray = refsV qs) ∧ Hid (wr.rangeAt Pb 0 L) := by
        have := row_of (x := 0) (p := qs 0) (w5 := wr) HQi.out.at_ (HQi.out.at_ 0 (by omega)) (fun _ _ => rfl)
        rwa [show upd qs 0 (qs 0) = qs by funext k; unfold upd; split; rename_i h; rw [h]; rfl] at this
      have hIL : (Tryz.prog.info? 261).map (·.size) = some L.length := by rw [hlen]; exact infP
      have hca := HQi.out.ca
      cases hb : allZ qs with
      | false =>
        have hneq : ∀ W, (binOp .neq 261 (.agg L.toArray) (.agg zeroP)).run Tryz.prog W = .ok (.bool true) W := fun W => by rw [HL.out, run_neqP, hb]; rfl
        have HB : Hid (allZ qs = false) := hb
        have hUL := undP
        have HS9 : Hid ((wr.drewN 1).cell? ⟨ab, ao, none⟩ = some (.int .i64 (r : Nat)) ∧ (wr.drewN 1).rangeAt Pb 0 L) := ⟨HQi.out.ca, HR.out⟩
        clear hb
        go_wp2_with (first | (refine wpList_load_mid rfl 261 _ rfl Pb 0 rfl L _ HR.out undP rfl hIL ?_))
        go_region_held (fun W' => W'.cell? ⟨ab, ao, none⟩ = some (.int .i64 (r : Nat)) ∧ W'.rangeAt Pb 0 L) (first | exact hS10 | exact HS9.out) (first | (go_at_call 176; rw [HL.out]; refine (save_any (HQi.out.S.drewN 1) t r qs HQi.out.ql HQi.out.ct HQi.out.A.tc hr).mono ?_; rintro e w6 ⟨rfl, H6, M6⟩; have M6' := ((Mod.refl (fun k => k = c) wr).drewN 1).trans M6; have HS6 : Hid (St w6 b c n us (saved us Ds r qs)) := H6; have HF6 : Hid (Fr b c ab ao w w6) := HFi.out.trans (Fr.of_mod M6' (block_lt_of_cell HQi.out.ca) (fun _ e => .inr e) HQi.out.A.nb HQi.out.A.nc); have HT6 : Hid (w6.cell? ⟨t, 0, none⟩ = some (.pointer (some ⟨b, 0, none⟩))) := (M6'.cell (p := ⟨t, 0, none⟩) (block_lt_of_cell HQi.out.ct) HQi.out.A.tc).trans HQi.out.ct; have hS10 : w6.cell? ⟨ab, ao, none⟩ = some (.int .i64 (r : Nat)) ∧ w6.rangeAt Pb 0 L := ⟨(M6'.cell (p := ⟨ab, ao, none⟩) (block_lt_of_cell HQi.out.ca) HQi.out.A.nc).trans HQi.out.ca, range_mod M6 HR.out (block_lt_of_cell (HQi.out.at_ 0 (by omega))) HQi.out.P.nc⟩; clear H6 M6 M6'))
        go_wp2
        refine bodyPost_ret (results_none rfl _ _ _) rfl ?_
        have e := HZZ.out
        rw [HYi.out, if_neg (by rw [HB.out]; simp)] at e
        rw [e]
        exact ⟨rfl, HS6.out, hS10.1, HF6.out, HT6.out⟩
      | true =>
        have hneq : ∀ W, (binOp .neq 261 (.agg L.toArray) (.agg zeroP)).run Tryz.prog W = .ok (.bool false) W := fun W => by rw [HL.out, run_neqP, hb]; rfl
        have HB : Hid (allZ qs = true) := hb
        clear hb
        go_wp2_with (first | (refine wpList_load_mid rfl 261 _ rfl Pb 0 rfl L _ HR.out undP rfl hIL ?_) | (go_at_call 177; refine (free_any HQi.out.S t ab ao r HQi.out.ct HQi.out.ca HQi.out.fa HQi.out.A.a0 HQi.out.A.nb HQi.out.A.nc HQi.out.A.tb HQi.out.A.tc hr).mono ?_; rintro e w6 ⟨rfl, H6, C6, F6⟩; have HH : Hid (St w6 b c n (freeU us r) (freeD us Ds r) ∧ w6.cell? ⟨ab, ao, none⟩ = some (.int .i64 0) ∧ Fr b c ab ao w w6 ∧ w6.cell? ⟨t, 0, none⟩ = some (.pointer (some ⟨b, 0, none⟩))) := ⟨H6, C6, HFi.out.trans F6, (F6.mod.cell (p := ⟨t, 0, none⟩) (block_lt_of_cell HQi.out.ct) (fun e => e.elim HQi.out.A.tb (fun e => e.elim HQi.out.A.tc HQi.out.A.ta))).trans HQi.out.ct⟩; clear H6 C6 F6))
        refine ⟨rfl, _, results_none rfl _ _ _, ?_⟩
        have e := HZZ.out
        rw [HYi.out, if_pos HB.out] at e
        rw [e]
        exact ⟨rfl, HH.out⟩
/-- prune of 256 places. -/
theorem prune2 {w : World} {b c n : Nat} {u : Nat → Bool} {D : Nat → Nat} (S : St w b c n u D) (t ab ao r : Nat) (keep : Int) (ht : w.cell? ⟨t, 0, none⟩ = some (.pointer (some ⟨b, 0, none⟩))) (ha : w.cell? ⟨ab, ao, none⟩ = some (.int .i64 (r : Nat))) (hf : w.frozen? ⟨ab, ao, none⟩ = false) (hA : Apart b c t ab) (hr : r < 4294967296) (hkl : -40000 ≤ keep) :
    Calls Tryz.prog 148 #[.pointer (some ⟨t, 0, none⟩), .pointer (some ⟨ab, ao, none⟩), .int .i64 256, .int .i64 keep] w (PrPost b c n t ab ao w (pr 2 u D r keep)) := by
  rw [pr]
  by_cases h0 : r = 0
  · subst h0
    rw [if_pos (.inl rfl)]
    exact (prune_hole t ab ao 256 keep ha).mono fun e w' ⟨h1, h2⟩ => by subst h2; exact ⟨h1, S, ha, Fr.refl _ _ _ _ _, ht⟩
  · by_cases hk : ((256 : Nat) : Int) ≤ keep
    · rw [if_pos (.inr hk)]
      exact (prune_keeps t ab ao r 256 keep ha h0 hk).mono fun e w' ⟨h1, h2⟩ => by subst h2; exact ⟨h1, S, ha, Fr.refl _ _ _ _ _, ht⟩
    · rw [if_neg (fun h => h.elim h0 hk)]
      exact prune_row2 S t ab ao r keep ht ha hf hA hr h0 (by omega) (by omega) _ rfl _ rfl
end Go.Proofs.YtgkkbplecfhmdaaGreatDoor
/- The walks of roots and cut: an inode's places from keep on are holes. Condition: the table lies in memory as 'Tb' says. -/
namespace Go.Proofs.YtgkkbplecfhmdaaGreatDoor
open Go.RowKit
/-- Root j: its first place, how many places it leads to, how many levels down they lie. -/
def kOf (j : Nat) : Nat := if j ≤ 6 then j else if j = 7 then 22 else 278
def plOf (j : Nat) : Nat := if j < 6 then 1 else if j = 6 then 16 else 256
def lwOf (j : Nat) : Nat := if j < 6 then 0 else if j = 6 then 1 else 2
theorem kOf_next : ∀ j, j < 8 → kOf j + plOf j = kOf (j + 1) := by decide
theorem kOf_lt : ∀ j, j < 8 → kOf j < 278 := by decide
theorem kOf_rt : ∀ j, j < 8 → rt (kOf j) = j ∧ 16 ^ lv (kOf j) = plOf j := by decide
def rtV (q no j : Nat) : List Value := [.pointer (some ⟨q, no + 9 + j, none⟩), .int .i64 (plOf j : Nat)]
def rootsL (q no : Nat) : Nat → List Value
  | 0 => []
  | j + 1 => rootsL q no j ++ rtV q no j
theorem rootsL_len (q no : Nat) : ∀ j, (rootsL q no j).length = j * 2
  | 0 => rfl
  | j + 1 => by rw [rootsL, List.length_append, rootsL_len q no j]; simp [rtV]; omega
theorem rootsL_at (q no : Nat) : ∀ m j, j < m → (rootsL q no m)[j * 2]? = some (.pointer (some ⟨q, no + 9 + j, none⟩)) ∧ (rootsL q no m)[j * 2 + 1]? = some (.int .i64 (plOf j : Nat))
  | 0, j, h => by omega
  | m + 1, j, h => by
    rw [rootsL]
    have hl := rootsL_len q no m
    by_cases e : j = m
    · subst e
      rw [List.getElem?_append_right (by omega), List.getElem?_append_right (by omega), hl]
      simp [rtV]
    · rw [List.getElem?_append_left (by omega), List.getElem?_append_left (by omega)]
      exact rootsL_at q no m j (by omega)
theorem owns_mod {w w' : World} {B e sz n : Nat} {v : Value} {xs : List Value} (h : w.ownsRow B e sz v n xs) (hM : Mod (fun _ => False) w w') : w'.ownsRow B e sz v n xs := by
  refine ⟨h.1, ?_⟩
  rcases h.2 with h | ⟨g, cap, cur, h1, h2, h3, h4⟩
  · exact .inl h
  · refine .inr ⟨g, cap, cur, h1, h2, ?_, h4⟩
    rw [hM.block g (by rcases Nat.lt_or_ge g w.heap.size with h | h; exact h; rw [Array.getElem?_eq_none h] at h3; exact absurd h3 (by simp)) (fun h => h)]
    exact h3
theorem owns_cells {w : World} {B e sz n : Nat} {v : Value} {xs : List Value} (h : w.ownsRow B e sz v (n + 1) xs) : ∃ g cap, v = .slice (some ⟨g, 0, none⟩) (n + 1) cap ∧ B ≤ g ∧ (∀ k x, xs[k]? = some x → w.cell? ⟨g, k, none⟩ = some x) ∧ n + 1 ≤ cap := by
  rcases h.2 with ⟨_, h⟩ | ⟨g, cap, cur, h1, h2, h3, h4, _, _, h6⟩
  · omega
  · refine ⟨g, cap, h1, h2, fun k x hx => ?_, h4⟩
    rw [cell_of_row w g k cur e (0, 0) h3]
    rw [← h6, List.getElem?_take] at hx
    split at hx
    · rw [Array.getElem?_toList] at hx; exact hx
    · exact absurd hx (by simp)
theorem infoRt : ∃ i, Tryz.prog.info? 226 = some i ∧ i.zero = some (.agg #[.pointer none, .int .i64 0]) ∧ i.size = 2 ∧ i.bytes = 16 := info_of (by kernel_rfl)
theorem undRt : Tryz.prog.underlying 222 = some (.slice 226) := by kernel_rfl
set_option maxRecDepth 8000 in
set_option maxHeartbeats 2000000 in
theorem roots_any (w : World) (q no : Nat) : Calls Tryz.prog 147 #[.pointer (some ⟨q, no, none⟩)] w fun e w' => ∃ v, e = .returned v ∧ w'.ownsRow w.heap.size 226 2 v 8 (rootsL q no 8) ∧ Mod (fun _ => False) w w' := by
  obtain ⟨i1, hi, hz0, hz1, hz2⟩ := infoRt
  have HI : Hid (Tryz.prog.info? 226 = some i1 ∧ i1.zero = some (.agg #[.pointer none, .int .i64 0]) ∧ i1.size = 2 ∧ i1.bytes = 16) := ⟨hi, hz0, hz1, hz2⟩
  clear hi hz0 hz1 hz2
  go_enter Tryz.func147, Tryz.ntmps147
  go_wp2
  go_loopw [3, 4] (fun v x wx => ∃ j : Nat, j ≤ 8 ∧ x = .int .i64 (kOf j : Nat) ∧ Hid (wx.ownsRow w.heap.size 226 2 v j (rootsL q no j)) ∧ Hid (Mod (fun _ => False) w wx)) (fun _ x _ => 278 - (intOf x).toNat)
  case atStart => exact ⟨0, by omega, rfl, World.ownsRow_nil _ _ _ _, Mod.refl _ _⟩
  case round =>
    obtain ⟨j, hj, rfl, hown, hmod⟩ := hrel
    by_cases hlt : j < 8
    · have hk := kOf_lt j hlt
      have hlk : ((kOf j : Nat) : Int) < 278 := by omega
      have HN : Hid (kOf j + plOf j = kOf (j + 1) ∧ rt (kOf j) = j ∧ 16 ^ lv (kOf j) = plOf j) := ⟨kOf_next j hlt, kOf_rt j hlt⟩
      have hpp : plOf j ≤ 256 ∧ 1 ≤ plOf j := by unfold plOf; split; omega; split <;> omega
      generalize hK : kOf j = K at *
      go_wp2_with (first | (go_at_call 149; (refine (place_any2 q no K _ hk).mono ?_; rintro e w1 ⟨o, P, K1, rfl, HP, HM1⟩; obtain ⟨rfl, rfl⟩ : o = no + 9 + j ∧ P = plOf j := ⟨HP.out.1.trans (congrArg (fun z => no + 9 + z) HN.out.2.1), HP.out.2.1.trans HN.out.2.2⟩; have HO1 : Hid (((w1.alloc (.cells #[.pointer (some ⟨q, no + 9 + j, none⟩), .int .i64 (plOf j : Nat)] 226)).alloc (.cells #[.pointer (some ⟨q, no + 9 + j, none⟩), .int .i64 (plOf j : Nat)] 226)).ownsRow w.heap.size 226 2 u3 j (rootsL q no j)) := ((owns_mod hown.out HM1.out).alloc _).alloc _; have hsz := Nat.le_trans hmod.out.size HM1.out.size)) | (at_builtin; refine wpList_append_own _ rfl _ _ 222 rfl w.heap.size 226 i1 (.agg #[.pointer none, .int .i64 0]) 2 16 undRt HI.out.1 HI.out.2.1 HI.out.2.2.1 HI.out.2.2.2 rfl (by decide) _ _ _ rfl HO1.out ⟨w1.heap.size + 1, 0, none⟩ 1 1 [.pointer (some ⟨q, no + 9 + j, none⟩), .int .i64 (plOf j : Nat)] rfl rfl ?c1 ?c2 ?c3 ?c4 ?c5 ?_))
      case c1 =>
        intro k x hx
        rw [Addr.add_mid, Nat.zero_add, World.cell?_alloc_at _ _ _ _ (by simp)]
        simpa using hx
      case c2 => intro x hx; simp at hx; rcases hx with rfl | rfl <;> rfl
      case c3 => unfold maxLen; omega
      case c4 => omega
      case c5 => simp; omega
      intro v' w2 hown' hgrow _
      have hO' : Hid (w2.ownsRow w.heap.size 226 2 v' (j + 1) (rootsL q no (j + 1))) := hown'
      have HM0 : Hid (Mod (fun _ => False) w ((w1.alloc (.cells #[.pointer (some ⟨q, no + 9 + j, none⟩), .int .i64 (plOf j : Nat)] 226)).alloc (.cells #[.pointer (some ⟨q, no + 9 + j, none⟩), .int .i64 (plOf j : Nat)] 226))) := ((hmod.out.trans HM1.out).alloc _).alloc _
      have hM' : Hid (Mod (fun _ => False) w w2) := HM0.out.grown hgrow (fun k hk => (HO1.out.lt k hk).1)
      have hc5 : w2.cell? ⟨w1.heap.size, 1, none⟩ = some (.int .i64 (plOf j : Nat)) := by
        have hlt2 : w1.heap.size < ((w1.alloc (.cells #[.pointer (some ⟨q, no + 9 + j, none⟩), .int .i64 (plOf j : Nat)] 226)).alloc (.cells #[.pointer (some ⟨q, no + 9 + j, none⟩), .int .i64 (plOf j : Nat)] 226)).heap.size := by simp; omega
        have h0 : ((w1.alloc (.cells #[.pointer (some ⟨q, no + 9 + j, none⟩), .int .i64 (plOf j : Nat)] 226)).alloc (.cells #[.pointer (some ⟨q, no + 9 + j, none⟩), .int .i64 (plOf j : Nat)] 226)).cell? ⟨w1.heap.size, 1, none⟩ = some (.int .i64 (plOf j : Nat)) := by
          rw [World.cell?_alloc_past _ _ _ (by simp), World.cell?_alloc_at _ _ _ _ rfl]; rfl
        exact (World.cell?_of_block (a := ⟨w1.heap.size, 1, none⟩) (hgrow.block w1.heap.size hlt2 (fun e => by have := (hown.out.lt _ e.symm).2; have := HM1.out.size; omega))).trans h0
      clear hown' hgrow
      have hn1 : K + plOf j = kOf (j + 1) := HN.out.1
      have hn2 : (K : Int) + (plOf j : Nat) = (kOf (j + 1) : Nat) := by omega
      have HN2 : Hid ((K : Int) + (plOf j : Nat) = (kOf (j + 1) : Nat)) := hn2
      clear hn1 hn2
      go_wp2
      have hm : ((j + 1 ≤ 8) ∧ Hid (w2.ownsRow w.heap.size 226 2 v' (j + 1) (rootsL q no (j + 1))) ∧ Hid (Mod (fun _ => False) w w2)) := ⟨by omega, hO', hM'⟩
      first | exact ⟨⟨j + 1, hm.1, by rw [HN2.out], hm.2.1, hm.2.2⟩, by simp [intOf]; omega⟩ | ((repeat apply Exists.intro); refine ⟨?rel, ?act⟩; case act => rfl; case rel => exact ⟨j + 1, hm.1, by rw [HN2.out], hm.2.1, hm.2.2⟩)
    · obtain rfl : j = 8 := by omega
      have h278 : ((kOf 8 : Nat) : Int) = 278 := rfl
      rw [h278]
      go_wp2
      go_ret
      exact ⟨_, by simp, hown.out, hmod.out⟩
/-- cut, by its words: the first j roots are pruned. -/
def cutS (keep : Int) (u : Nat → Bool) (D : Nat → Nat) (R : Nat → Nat) : Nat → (Nat → Bool) × (Nat → Nat) × (Nat → Nat)
  | 0 => (u, D, R)
  | j + 1 => ((pr (lwOf j) (cutS keep u D R j).1 (cutS keep u D R j).2.1 ((cutS keep u D R j).2.2 j) (keep - (kOf j : Nat))).1, (pr (lwOf j) (cutS keep u D R j).1 (cutS keep u D R j).2.1 ((cutS keep u D R j).2.2 j) (keep - (kOf j : Nat))).2.1,
      upd (cutS keep u D R j).2.2 j (pr (lwOf j) (cutS keep u D R j).1 (cutS keep u D R j).2.1 ((cutS keep u D R j).2.2 j) (keep - (kOf j : Nat))).2.2)
theorem root_kept {wr w3 : World} {t q b c n N : Nat} {clk : Int} {F : Nat → Nat → Int} {R : Nat → Nat → Nat} {u : Nat → Bool} {D : Nat → Nat} {o : Nat} {p : Addr} {P : Nat} {ty : TypeId} (T : Tb wr t q b c n N clk F R u D) (hF : Fr b c q o (wr.alloc (.cells #[.pointer (some p), .int .i64 (P : Nat)] ty)) w3) : w3.cell? ⟨wr.heap.size, 1, none⟩ = some (.int .i64 (P : Nat)) := by
  have hb := T.S.lt_b
  have hc := T.S.lt_c
  have hq := T.lt_q
  rw [hF.mod.cell (p := ⟨wr.heap.size, 1, none⟩) (by simp) (fun h => by rcases h with h | h | h <;> (have h' : wr.heap.size = _ := h; omega)), World.cell?_alloc_at _ _ _ _ rfl]; rfl
section
variable {w w' : World} {t q b c n N : Nat} {clk : Int} {F : Nat → Nat → Int} {R : Nat → Nat → Nat} {u : Nat → Bool} {D : Nat → Nat}
theorem pruneAt (T : Tb w t q b c n N clk F R u D) (i j : Nat) (keep : Int) (hi : i < N) (hj : j < 8) (hk : -30000 ≤ keep) :
    Calls Tryz.prog 148 #[.pointer (some ⟨t, 0, none⟩), .pointer (some ⟨q, i * 17 + 9 + j, none⟩), .int .i64 (plOf j : Nat), .int .i64 keep] w (PrPost b c n t q (i * 17 + 9 + j) w (pr (lwOf j) u D (R i j) keep)) := by
  have ha := T.cr i j hi hj
  have hf := T.fq (i * 17 + 9 + j)
  by_cases h1 : j < 6
  · have e1 : plOf j = 1 := by simp [plOf, h1]
    have e2 : lwOf j = 0 := by simp [lwOf, h1]
    rw [e1, e2]; exact prune0 T.S t q _ _ keep T.c0 ha hf T.apart (T.rl _ _)
  · by_cases h2 : j = 6
    · have e1 : plOf j = 16 := by simp [plOf, h2]
      have e2 : lwOf j = 1 := by simp [lwOf, h2]
      rw [e1, e2]; exact prune1 T.S t q _ _ keep T.c0 ha hf T.apart (T.rl _ _) (by omega)
    · have e1 : plOf j = 256 := by simp [plOf, h1, h2]
      have e2 : lwOf j = 2 := by simp [lwOf, h1, h2]
      rw [e1, e2]; exact prune2 T.S t q _ _ keep T.c0 ha hf T.apart (T.rl _ _) (by omega)
set_option maxRecDepth 8000 in
set_option maxHeartbeats 4000000 in
theorem cut_any (T : Tb w t q b c n N clk F R u D) (i : Nat) (keep : Int) (hi : i < N) (hk : -20000 ≤ keep) (hk2 : keep ≤ 20000) (y : (Nat → Bool) × (Nat → Nat) × (Nat → Nat)) (hy : cutS keep u D (R i) 8 = y) :
    Calls Tryz.prog 103 #[.pointer (some ⟨t, 0, none⟩), .pointer (some ⟨q, i * 17, none⟩), .int .i64 keep] w fun e w' => e = .returned (.tuple #[]) ∧ Tb w' t q b c n N clk F (setN R i y.2.2) y.1 y.2.1 ∧ Mod (fun k => k = b ∨ k = c ∨ k = q) w w' := by
  have HT : Hid (Tb w t q b c n N clk F (setN R i (R i)) u D) := by show Tb _ _ _ _ _ _ _ _ _ _ _ _; rw [setN_self]; exact T
  have HY : Hid (cutS keep u D (R i) 8 = y) := hy
  have HB : Hid (b < w.heap.size ∧ c < w.heap.size ∧ q < w.heap.size) := ⟨T.S.lt_b, T.S.lt_c, T.lt_q⟩
  clear T hy
  go_enter Tryz.func103, Tryz.ntmps103
  go_wp2_with (go_at_call 147; refine (roots_any w q (i * 17)).mono ?_; rintro e w1 ⟨v, rfl, O1, M1⟩; obtain ⟨g, cap, rfl, hg, hcell, hcap⟩ := owns_cells (n := 7) O1; have HC : Hid (∀ j, j < 8 → w1.cell? ⟨g, j * 2, none⟩ = some (.pointer (some ⟨q, i * 17 + 9 + j, none⟩)) ∧ w1.cell? ⟨g, j * 2 + 1, none⟩ = some (.int .i64 (plOf j : Nat))) := fun j hj => ⟨hcell _ _ (rootsL_at q (i * 17) 8 j hj).1, hcell _ _ (rootsL_at q (i * 17) 8 j hj).2⟩; have HG : Hid (w.heap.size ≤ g) := hg; have HM1 : Hid (Mod (fun _ => False) w w1) := M1; clear O1 M1 hcell hg)
  have HT1 : Hid (Tb w1 t q b c n N clk F (setN R i (R i)) u D) := HT.out.new HM1.out
  have hgl : g < w1.heap.size := block_lt_of_cell (HC.out 0 (by omega)).1
  have HGN : Hid (¬ (g = b ∨ g = c ∨ g = q)) := by have := HB.out; have := HG.out; intro h; rcases h with h | h | h <;> omega
  go_loopw [2, 11] (fun kv x wx => ∃ j : Nat, j ≤ 8 ∧ x = .int .i64 j ∧ kv = .int .i64 (keep - (kOf j : Nat)) ∧ ∃ (us : Nat → Bool) (Ds Rs : Nat → Nat), Hid (Tb wx t q b c n N clk F (setN R i Rs) us Ds) ∧ Hid (Mod (fun k => k = b ∨ k = c ∨ k = q) w1 wx) ∧ Hid (cutS keep u D (R i) j = (us, Ds, Rs))) (fun _ x _ => 8 - (intOf x).toNat)
  case atStart => exact ⟨0, by omega, rfl, by simp [kOf], u, D, R i, HT1, Mod.refl _ _, rfl⟩
  case round =>
    obtain ⟨j, hj, rfl, rfl, us, Ds, Rs, HTj, HMj, HEj⟩ := hrel
    by_cases hlt : j < 8
    · have hc0 := (HMj.out.cell (p := ⟨g, j * 2, none⟩) hgl HGN.out).trans (HC.out j hlt).1
      have hc1 := (HMj.out.cell (p := ⟨g, j * 2 + 1, none⟩) hgl HGN.out).trans (HC.out j hlt).2
      have hkl := kOf_lt j hlt
      have HN : Hid (kOf j + plOf j = kOf (j + 1)) := kOf_next j hlt
      have hpp : plOf j ≤ 256 := by unfold plOf; split; omega; split <;> omega
      go_wp2_with (go_at_call 148; refine (pruneAt (HTj.out.new ((Mod.refl _ wr).alloc _)) i j (keep - (kOf j : Nat)) hi hlt (by omega)).mono ?_; rintro e w3 ⟨rfl, H3, C3, F3, T3⟩; rw [setN_at] at H3 C3; have HT3 : Hid (Tb w3 t q b c n N clk F (setN R i (upd Rs j (pr (lwOf j) us Ds (Rs j) (keep - (kOf j : Nat))).2.2)) (pr (lwOf j) us Ds (Rs j) (keep - (kOf j : Nat))).1 (pr (lwOf j) us Ds (Rs j) (keep - (kOf j : Nat))).2.1) := (by have h := (HTj.out.new ((Mod.refl _ wr).alloc (.cells #[.pointer (some ⟨q, i * 17 + 9 + j, none⟩), .int .i64 (plOf j : Nat)] 226))).fr i j _ hlt F3 H3 (Nat.lt_of_le_of_lt (pr_le _ _ _ _ _) (by have := HTj.out.rl i j; rwa [setN_at] at this)) C3; rwa [upd2_setN] at h); have HM3 : Hid (Mod (fun k => k = b ∨ k = c ∨ k = q) w1 w3) := (HMj.out.alloc _).trans F3.mod; have hr3 : w3.cell? ⟨wr.heap.size, 1, none⟩ = some (.int .i64 (plOf j : Nat)) := root_kept HTj.out F3; clear H3 C3 F3 T3)
      have HE : Hid (cutS keep u D (R i) (j + 1) = ((pr (lwOf j) us Ds (Rs j) (keep - (kOf j : Nat))).1, (pr (lwOf j) us Ds (Rs j) (keep - (kOf j : Nat))).2.1, upd Rs j (pr (lwOf j) us Ds (Rs j) (keep - (kOf j : Nat))).2.2)) := by
        show _ = _
        rw [cutS, HEj.out]
      have HK : Hid (keep - (kOf j : Nat) - (plOf j : Nat) = keep - (kOf (j + 1) : Nat)) := by show _ = _; have := HN.out; omega
      go_wp2
      exact ⟨⟨j + 1, by omega, by go_num, by rw [HK.out], _, _, _, HT3, HM3, HE⟩, by simp [intOf]; omega⟩
    · have HYj : Hid (y = (us, Ds, Rs)) := by show _ = _; rw [← HY.out, ← HEj.out, show j = 8 by omega]
      go_wp2
      refine ⟨rfl, _, results_none rfl _ _ _, rfl, ?_, (HM1.out.mono (fun _ _ h => h.elim)).trans HMj.out⟩
      rw [HYj.out]; exact HTj.out
end
end Go.Proofs.YtgkkbplecfhmdaaGreatDoor
