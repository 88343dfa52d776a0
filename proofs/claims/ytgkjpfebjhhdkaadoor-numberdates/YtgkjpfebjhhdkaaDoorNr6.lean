/- The walk of the program's joined. -/
import Derived.Test.YtgkjpfebjhhdkaaDoorNr5
import Derived.BigQuiet
namespace Go.Proofs.YtgkjpfebjhhdkaaDoor
open Go.RowKit Go.Sort
theorem getD_of {l : List Na.Rg} {j : Nat} (h : j < l.length) : l.getD j (0, 0) = l[j] := by simp [List.getD, h]
/-- How far joined has come: F the row, q the last that is kept, i + 1 the next to be looked at. -/
structure Jo (ds : List Na.Rg) (n : Nat) (F : Nat → Na.Rg) (q i : Nat) : Prop where
  qi : q ≤ i
  un : ∀ j, i + 1 ≤ j → j < n + 1 → F j = ds.getD j (0, 0)
  js : Na.join ds = (List.range q).map F ++ Na.jn (F q) (ds.drop (i + 1))
section
variable {ds : List Na.Rg} {n : Nat} {F : Nat → Na.Rg} {q i : Nat}
theorem Jo.start (hl : ds.length = n + 1) : Jo ds n (fun j => ds.getD j (0, 0)) 0 0 := by
  refine ⟨Nat.le_refl _, fun j _ _ => rfl, ?_⟩
  cases ds with
  | nil => simp at hl
  | cons c t => rfl
theorem Jo.drop (hl : ds.length = n + 1) (hi : i < n) (h : Jo ds n F q i) : ds.drop (i + 1) = F (i + 1) :: ds.drop (i + 1 + 1) := by
  rw [h.un (i + 1) (Nat.le_refl _) (by omega), getD_of (by omega), ← List.drop_eq_getElem_cons]
theorem Jo.stop (hl : ds.length = n + 1) (hi : i < n) (h : Jo ds n F q i) (hc : (F q).2 = -1) : Na.join ds = (List.range q).map F ++ [F q] := by
  rw [h.js, h.drop hl hi, Na.jn, if_pos hc]
theorem Jo.fin (hl : ds.length = n + 1) (hi : ¬ i < n) (h : Jo ds n F q i) : Na.join ds = (List.range q).map F ++ [F q] := by
  rw [h.js, List.drop_eq_nil_of_le (by omega), Na.jn]
theorem Jo.push (hl : ds.length = n + 1) (hi : i < n) (h : Jo ds n F q i) (hc : (F q).2 ≠ -1) (h1 : (F q).2 + 1 < (F (i + 1)).1) : Jo ds n (upd F (q + 1) (F (i + 1))) (q + 1) (i + 1) := by
  have hq := h.qi
  refine ⟨by omega, fun j h1 h2 => ?_, ?_⟩
  · unfold upd; rw [if_neg (by omega)]; exact h.un j (by omega) h2
  · rw [h.js, h.drop hl hi, Na.jn, if_neg hc, if_pos h1, List.range_succ, List.map_append]
    have e1 : (List.range q).map (upd F (q + 1) (F (i + 1))) = (List.range q).map F := List.map_congr_left fun j hj => by
      have := List.mem_range.1 hj
      unfold upd; rw [if_neg (by omega)]
    rw [e1]
    simp [upd]
theorem Jo.widen (hl : ds.length = n + 1) (hi : i < n) (h : Jo ds n F q i) (hc : (F q).2 ≠ -1) (h1 : ¬ (F q).2 + 1 < (F (i + 1)).1) (h2 : (F (i + 1)).2 = -1 ∨ (F q).2 < (F (i + 1)).2) : Jo ds n (upd F q ((F q).1, (F (i + 1)).2)) q (i + 1) := by
  have hq := h.qi
  refine ⟨by omega, fun j h1 h2 => ?_, ?_⟩
  · unfold upd; rw [if_neg (by omega)]; exact h.un j (by omega) h2
  · rw [h.js, h.drop hl hi, Na.jn, if_neg hc, if_neg h1, if_pos h2]
    have e1 : (List.range q).map (upd F q ((F q).1, (F (i + 1)).2)) = (List.range q).map F := List.map_congr_left fun j hj => by
      have := List.mem_range.1 hj
      unfold upd; rw [if_neg (by omega)]
    rw [e1]
    simp [upd]
theorem Jo.keep (hl : ds.length = n + 1) (hi : i < n) (h : Jo ds n F q i) (hc : (F q).2 ≠ -1) (h1 : ¬ (F q).2 + 1 < (F (i + 1)).1) (h2 : ¬ ((F (i + 1)).2 = -1 ∨ (F q).2 < (F (i + 1)).2)) : Jo ds n F q (i + 1) := by
  have hq := h.qi
  refine ⟨by omega, fun j h1 h2 => h.un j (by omega) h2, ?_⟩
  rw [h.js, h.drop hl hi, Na.jn, if_neg hc, if_neg h1, if_neg h2]
theorem kept_len : ((List.range q).map F ++ [F q]).length = q + 1 := by simp
theorem kept_get (j : Nat) (hj : j < ((List.range q).map F ++ [F q]).length) : F j = ((List.range q).map F ++ [F q])[j] := by
  simp at hj
  by_cases h : j < q
  · rw [List.getElem_append_left (by simpa using h)]; simp
  · obtain rfl : j = q := by omega
    rw [List.getElem_append_right (by simp)]; simp
end
set_option maxRecDepth 100000 in
set_option maxHeartbeats 4000000 in
theorem nJoined (rs : List Na.Rg) (w : World) (B g cap : Nat) (h0 : 0 < rs.length) (hr : Rw w g rs.length cap (fun j => rs.getD j (0, 0))) (hB : B ≤ g) (hcap : cap ≤ maxLen) (hn : rs.length ≤ 1099511627776)
    (hv : ∀ x ∈ rs, -1 ≤ x.2 ∧ x.2 ≤ 999999999999999999) : Calls Tryd.prog 46 #[.slice (some ⟨g, 0, none⟩) rs.length cap] w fun e w' =>
      ∃ ds : List Na.Rg, ds.Perm rs ∧ ds.Pairwise (fun a b => a.1 ≤ b.1) ∧ e = .returned (.slice (some ⟨g, 0, none⟩) (Na.join ds).length cap) ∧ w'.ownsRow B 51 2 (.slice (some ⟨g, 0, none⟩) (Na.join ds).length cap) (Na.join ds).length (rCs (Na.join ds)) ∧ Below B w w' := by
  have HS := hidA (nSort rs w B g cap hr hB (by omega))
  obtain ⟨n, hnd⟩ : ∃ n, rs.length = n + 1 := ⟨rs.length - 1, by omega⟩
  have hle : n + 1 ≤ cap := by obtain ⟨cur, hb⟩ := hr; have := hb.le; omega
  have HL : Hid (∀ ds : List Na.Rg, ds.Perm rs → ds.length = n + 1 ∧ ∀ j, j < n + 1 → -1 ≤ (ds.getD j (0, 0)).2 ∧ (ds.getD j (0, 0)).2 ≤ 999999999999999999) := fun ds hp => by
    have hl : ds.length = n + 1 := hp.length_eq.trans hnd
    refine ⟨hl, fun j hj => ?_⟩
    rw [getD_of (by omega)]
    exact hv _ (hp.mem_iff.1 (List.getElem_mem (by omega)))
  obtain ⟨iR, hiR, -, hiS, -⟩ := infoR
  rw [hnd] at HS hr hn ⊢
  clear h0 hr hv
  have hmx : cap < 2 ^ 63 := by unfold maxLen at hcap; omega
  have HF : Hid (∀ (ds : List Na.Rg) (W : World) (F : Nat → Na.Rg) (q : Nat), ds.Perm rs → ds.Pairwise (fun a b => a.1 ≤ b.1) → Na.join ds = (List.range q).map F ++ [F q] → q < n + 1 → Rw W g (n + 1) cap F → Below B w W →
      ∃ ds : List Na.Rg, ds.Perm rs ∧ ds.Pairwise (fun a b => a.1 ≤ b.1) ∧ Ending.returned (.slice (some ⟨g, 0, none⟩) (q + 1) cap) = .returned (.slice (some ⟨g, 0, none⟩) (Na.join ds).length cap) ∧ W.ownsRow B 51 2 (.slice (some ⟨g, 0, none⟩) (Na.join ds).length cap) (Na.join ds).length (rCs (Na.join ds)) ∧ Below B w W) := by
    intro ds W F q hp hs hj hq hR hb
    refine ⟨ds, hp, hs, ?_, ?_, hb⟩
    · rw [hj, kept_len]
    · rw [hj, kept_len]
      exact hR.owns hB (by omega) hcap _ kept_len kept_get
  by_cases hc1 : cap = 1
  · obtain rfl : n = 0 := by omega
    subst hc1
    go_enter Tryd.func46, Tryd.ntmps46
    go_wp2_with (go_at_call 68; refine HS.out.mono ?_; rintro e w1 ⟨rfl, ds, hp, hs, hR, hb1⟩)
    have HJ := hidA (Jo.start (HL.out ds hp).1)
    have HQ := hidA (HF.out ds w1 _ 0 hp hs (HJ.out.fin (HL.out ds hp).1 (by omega)) (by omega) hR hb1)
    clear HF hp hs hR hb1 HJ HL HS
    go_loopw [3, 14] (fun kp i w' => kp = .slice (some ⟨g, 0, none⟩) 1 1 ∧ i = .int .i64 0 ∧ w' = w1) (fun _ _ _ => 0)
    case atStart => exact ⟨rfl, rfl, rfl⟩
    case round =>
      obtain ⟨rfl, rfl, rfl⟩ := hrel
      go_wp2
      go_ret
      exact HQ.out
  · have hc2 : 2 ≤ cap := by omega
    go_enter Tryd.func46, Tryd.ntmps46
    go_wp2_with (go_at_call 68; refine HS.out.mono ?_; rintro e w1 ⟨rfl, ds, hp, hs, hR, hb1⟩)
    obtain ⟨hl, hv⟩ := HL.out ds hp
    have HJ0 := hidA (Jo.start hl)
    have HR0 := hidA hR
    have HB0 := hidA hb1
    have HV0 := hidA hv
    have hv0 := hv 0 (by omega)
    have HF2 := hidA (fun W F q => HF.out ds W F q hp hs)
    clear HF hR hb1 HL HS hv hp hs
    go_loopw [3, 14] (fun kp i w' => ∃ (q i0 : Nat) (F : Nat → Na.Rg), kp = .slice (some ⟨g, 0, none⟩) (q + 1) cap ∧ i = .int .i64 i0 ∧ q ≤ i0 ∧ i0 ≤ n ∧ -1 ≤ (F q).2 ∧ (F q).2 ≤ 999999999999999999 ∧ Hid (Jo ds n F q i0) ∧ Hid (Rw w' g (n + 1) cap F) ∧ Hid (Below B w w')) (fun _ i _ => n - (intOf i).toNat)
    case atStart => exact ⟨0, 0, _, rfl, rfl, Nat.le_refl _, Nat.zero_le _, hv0.1, hv0.2, HJ0, HR0, HB0⟩
    case round =>
      obtain ⟨q, i, F, rfl, rfl, hqi, hin, hf1, hf2, HJ, HR, HB⟩ := hrel
      rename_i wr
      have hgl := HR.out.lt
      by_cases hi : i < n
      · obtain ⟨hr1, hr2⟩ := HV0.out (i + 1) (by omega)
        rw [← HJ.out.un (i + 1) (Nat.le_refl _) (by omega)] at hr1 hr2
        have a0 := HR.out.lo (i + 1) (by omega)
        have a1 := HR.out.hi (i + 1) (by omega)
        rw [show (i + 1) * 2 = 2 + i * 2 by omega] at a0 a1
        have k0 := HR.out.lo q (by omega)
        have k1 := HR.out.hi q (by omega)
        have hfz := HR.out.fz
        obtain ⟨⟨f0, f1⟩, hF⟩ : ∃ p, F q = p := ⟨_, rfl⟩
        obtain ⟨⟨r0, r1⟩, hG⟩ : ∃ p, F (i + 1) = p := ⟨_, rfl⟩
        rw [hF] at hf1 hf2 k0 k1
        rw [hG] at hr1 hr2 a0 a1
        dsimp only at hf1 hf2 k0 k1 hr1 hr2 a0 a1
        have hBr : B ≤ wr.heap.size := by omega
        have HBL : Hid (∀ o, Below wr.heap.size wr (wr.alloc o)) := fun o => (Below.refl _ _).alloc (Nat.le_refl _) _
        have HDR : Hid (∀ (W : World) (m : Nat), Below W.heap.size W (W.drewN m)) := fun W m => bl_drew W m
        by_cases hz : f1 = -1
        · have HE := hidA (fun W => HF2.out W F q (HJ.out.stop hl hi (by rw [hF]; exact hz)) (by omega))
          have hz' : (f1 == -1) = true := by simpa using hz
          clear HF2 HJ HV0
          go_wp2
          go_ret
          exact HE.out _ (HR.out.grow (HBL.out _)) (HB.out.alloc hBr _)
        · have hz' : (f1 == -1) = false := by simpa using hz
          by_cases h1 : f1 + 1 < r0
          · have HJ2 := hidA (HJ.out.push hl hi (by rw [hF]; exact hz) (by rw [hF, hG]; exact h1))
            have b0 := HR.out.lo (q + 1) (by omega)
            have b1 := HR.out.hi (q + 1) (by omega)
            rw [hG] at HJ2
            have HX : Hid (upd F (q + 1) (r0, r1) (q + 1) = (r0, r1)) := by show _ = _; simp [upd]
            clear HF2 HJ HV0
            go_wp2_with (go_quiet (fail))
            refine ⟨⟨q + 1, i + 1, _, rfl, by go_num, by omega, by omega, ?_, ?_, HJ2, hidA (((HR.out.grow (bl2 (HBL.out _) (HDR.out _ _))).set2 (q + 1) (by omega) r0 r1).grow ((Below.refl _ _).alloc (Nat.le_refl _) _)), hidA ?_⟩, by simp [intOf]; omega⟩
            · rw [HX.out]; exact hr1
            · rw [HX.out]; exact hr2
            · exact Below.alloc (Below.setCell (Below.setCell ((HB.out.alloc hBr _).trans ((HDR.out _ _).mono (by simp; omega))) (by exact hB) _) (by exact hB) _) (by simp; omega) _
          · by_cases h2 : r1 = -1 ∨ f1 < r1
            · have HJ2 := hidA (HJ.out.widen hl hi (by rw [hF]; exact hz) (by rw [hF, hG]; exact h1) (by rw [hF, hG]; exact h2))
              rw [hG, hF] at HJ2
              have HX : Hid (upd F q (f0, r1) q = (f0, r1)) := by show _ = _; simp [upd]
              have HR2 : Hid (∀ W, Below wr.heap.size wr W → Rw (W.setCell ⟨g, q * 2 + 1, none⟩ (.int .i64 r1)) g (n + 1) cap (upd F q (f0, r1))) := fun W hW => by
                have := (HR.out.grow hW).set1 q (by omega) r1
                rw [hF] at this; exact this
              clear HF2 HJ HV0
              by_cases h3 : r1 = -1
              · have h3' : (r1 == -1) = true := by simpa using h3
                clear h2 h3
                go_wp2_with (go_quiet (fail))
                refine ⟨⟨q, i + 1, _, rfl, by go_num, by omega, by omega, ?_, ?_, HJ2, hidA (HR2.out _ (bl2 (HBL.out _) (HDR.out _ _))), hidA ?_⟩, by simp [intOf]; omega⟩
                · rw [HX.out]; exact hr1
                · rw [HX.out]; exact hr2
                · exact ((HB.out.alloc hBr _).trans ((HDR.out _ _).mono (by simp; omega))).setCell (by simpa using hB) _
              · have h3' : (r1 == -1) = false := by simpa using h3
                have h4 : f1 < r1 := by omega
                clear h2 h3
                go_wp2_with (go_quiet (fail))
                refine ⟨⟨q, i + 1, _, rfl, by go_num, by omega, by omega, ?_, ?_, HJ2, hidA (HR2.out _ (bl2 (HBL.out _) (HDR.out _ _))), hidA ?_⟩, by simp [intOf]; omega⟩
                · rw [HX.out]; exact hr1
                · rw [HX.out]; exact hr2
                · exact ((HB.out.alloc hBr _).trans ((HDR.out _ _).mono (by simp; omega))).setCell (by simpa using hB) _
            · have HJ2 := hidA (HJ.out.keep hl hi (by rw [hF]; exact hz) (by rw [hF, hG]; exact h1) (by rw [hF, hG]; exact h2))
              have h3 : ¬ r1 = -1 := fun e => h2 (.inl e)
              have h3' : (r1 == -1) = false := by simpa using h3
              have h4 : ¬ f1 < r1 := fun e => h2 (.inr e)
              clear HF2 HJ HV0 h2 h3
              go_wp2_with (go_quiet (fail))
              refine ⟨⟨q, i + 1, F, rfl, by go_num, by omega, by omega, ?_, ?_, HJ2, hidA (HR.out.grow (bl2 (HBL.out _) (HDR.out _ _))), hidA ?_⟩, by simp [intOf]; omega⟩
              · rw [hF]; exact hf1
              · rw [hF]; exact hf2
              · exact (HB.out.alloc hBr _).trans ((HDR.out _ _).mono (by simp; omega))
      · have HE := hidA (HF2.out wr F q (HJ.out.fin hl hi) (by omega) HR.out HB.out)
        clear HF2 HJ HR HB HV0
        go_wp2
        go_ret
        exact HE.out
end Go.Proofs.YtgkjpfebjhhdkaaDoor
