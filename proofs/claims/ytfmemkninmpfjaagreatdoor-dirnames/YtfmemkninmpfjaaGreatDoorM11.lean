/- Several texts of this claim, one behind the other, in their order. -/
import Derived.Test.YtfmemkninmpfjaaGreatDoorM10
import Derived.Test.YtfmemkninmpfjaaGreatDoorM2
/- The walk of Write. Conditions: the table lies in memory as 'Tb' says; the bytes to be written lie apart from it. -/
namespace Go.Proofs.YtfmemkninmpfjaaGreatDoor
open Go.RowKit
theorem Hid.intro {p : Prop} (h : p) : Hid p := h
theorem wrun_le (n off : Nat) (bs : List Nat) : ∀ (f : Nat) (s : WS), s.done ≤ bs.length → (wrun n off bs f s).done ≤ bs.length
  | 0, _, h => h
  | f + 1, s, h => by
    rw [wrun]
    split
    · split
      · exact h
      · exact wrun_le n off bs f _ (by show s.done + min _ _ ≤ _; omega)
    · exact h
section
variable {w w' : World} {t q b c n N : Nat} {clk : Int} {F : Nat → Nat → Int} {R : Nat → Nat → Nat} {u : Nat → Bool} {D : Nat → Nat}
/-- What Write answers and makes of the table, by how far writePlaces came. -/
def WPost (t q b c n N : Nat) (clk : Int) (F : Nat → Nat → Int) (R : Nat → Nat → Nat) (i off : Nat) (s : WS) (w : World) (e : Ending) (w' : World) : Prop :=
  if s.done = 0 then e = .returned (.tuple #[.int .i64 0, .int .i64 28]) ∧ Tb w' t q b c n N clk F (setN R i s.R) s.u s.D ∧ Mod (fun k => k = b ∨ k = c ∨ k = q) w w'
  else e = .returned (.tuple #[.int .i64 (s.done : Nat), .int .i64 0]) ∧ Tb w' t q b c n N clk (upd2 (upd2 (upd2 F i 5 (max (F i 5) ((off : Int) + s.done))) i 7 clk) i 8 clk) (setN R i s.R) s.u s.D ∧ Mod (fun k => k = b ∨ k = c ∨ k = q) w w'
set_option maxRecDepth 8000 in
set_option maxHeartbeats 4000000 in
theorem twrite (T : Tb w t q b c n N clk F R u D) (i off g go cap : Nat) (bs : List Nat) (hi : i < N) (hz : F i 0 ≠ 0) (hb : 0 < bs.length) (ho : off < 17792) (hcap : bs.length ≤ cap) (hcm : cap ≤ 9223372036854775807) (hsrc : Src w g go bs) (hgb : g ≠ b) (hgc : g ≠ c) (hgq : g ≠ q) (m : Nat) (hm : m = min bs.length (17792 - off)) :
    Calls Tryz.prog 37 #[.pointer (some ⟨t, 0, none⟩), .int .i64 ((i : Int) + 1), .int .i64 off, .slice (some ⟨g, go, none⟩) bs.length cap] w (WPost t q b c n N clk F R i off (wrun n off (bs.take m) (bs.take m).length ⟨0, u, D, R i⟩) w) := by
  unfold WPost
  have HDL : Hid ((wrun n off (bs.take m) (bs.take m).length ⟨0, u, D, R i⟩).done ≤ (bs.take m).length) := wrun_le n off (bs.take m) _ _ (Nat.zero_le _)
  generalize hFIN : wrun n off (bs.take m) (bs.take m).length ⟨0, u, D, R i⟩ = FIN at *
  have HFIN : Hid (wrun n off (bs.take m) (bs.take m).length ⟨0, u, D, R i⟩ = FIN) := hFIN
  have HT : Hid (Tb w t q b c n N clk F R u D) := T
  have HZ : Hid (F i 0 ≠ 0) := hz
  have HS : Hid (Src w g go bs) := hsrc
  have HG : Hid (g ≠ b ∧ g ≠ c ∧ g ≠ q) := ⟨hgb, hgc, hgq⟩
  have hb' : ((bs.length : Int) == 0) = false := by simp; intro h; rw [h] at hb; exact absurd hb (by simp)
  have h17 : decide ((17792 : Int) ≤ off) = false := by simp; omega
  clear T hz hsrc hgb hgc hgq hFIN
  by_cases hA : (bs.length : Int) < 17792 - off
  · obtain rfl : m = bs.length := by omega
    clear hm
    have hlen : (bs.take bs.length).length = bs.length := by rw [List.length_take]; omega
    have HSr : Hid (Src w g go (bs.take bs.length)) := ⟨fun j x hj => HS.out.at_ j x (by rw [List.getElem?_take] at hj; split at hj; exact hj; exact absurd hj (by simp)), fun x hx => HS.out.lt x (List.mem_of_mem_take hx)⟩
    have hW := wplaces HT.out i off g go cap (bs.take bs.length) hi (by rw [hlen]; omega) (by rw [hlen]; omega) hcm HSr.out HG.out.1 HG.out.2.1 HG.out.2.2
    rw [hlen] at hW HFIN
    rw [HFIN.out] at hW
    have HWc : Hid (Calls Tryz.prog 83 #[.pointer (some ⟨t, 0, none⟩), .pointer (some ⟨q, i * 17, none⟩), .int .i64 off, .slice (some ⟨g, go, none⟩) bs.length cap] w fun e w' => e = .returned (.int .i64 (FIN.done : Nat)) ∧ Tb w' t q b c n N clk F (setN R i FIN.R) FIN.u FIN.D ∧ Mod (fun k => k = b ∨ k = c ∨ k = q) w w') := hW
    have hdl : FIN.done ≤ bs.length := by have := HDL.out; rw [hlen] at this; exact this
    clear hW hlen
    by_cases hd : FIN.done = 0
    · simp only [if_pos hd]
      have HD0 : Hid (FIN.done = 0) := hd
      clear hd
      clear ho
      go_enter Tryz.func37, Tryz.ntmps37
      go_wp2_with (first | (go_at_call 76; refine (find_ok HT.out i hi HZ.out).mono ?_; rintro e w1 ⟨rfl, hw1⟩; rw [hw1]; clear hw1 w1) | (go_at_call 83; refine HWc.out.mono ?_; rw [HD0.out]; rintro e w2 ⟨rfl, T2, M2⟩; have HT2 : Hid (Tb w2 t q b c n N clk F (setN R i FIN.R) FIN.u FIN.D) := T2; have HM2 : Hid (Mod (fun k => k = b ∨ k = c ∨ k = q) w w2) := M2; clear T2 M2))
      all_goals go_ret2
      all_goals exact ⟨by simp, HT2.out, HM2.out⟩
    · simp only [if_neg hd]
      obtain ⟨dn, hdn⟩ : ∃ dn, dn = FIN.done := ⟨_, rfl⟩
      rw [← hdn] at HWc hdl hd ⊢
      have hd' : ((dn : Int) == 0) = false := by simpa using hd
      have hsz := HT.out.sz i
      clear hdn
      clear ho
      go_enter Tryz.func37, Tryz.ntmps37
      go_wp2_with (first | (go_at_call 76; refine (find_ok HT.out i hi HZ.out).mono ?_; rintro e w1 ⟨rfl, hw1⟩; rw [hw1]; clear hw1 w1) | (go_at_call 83; refine HWc.out.mono ?_; rintro e w2 ⟨rfl, T2, M2⟩; have HT2 : Hid (Tb w2 t q b c n N clk F (setN R i FIN.R) FIN.u FIN.D) := T2; have HM2 : Hid (Mod (fun k => k = b ∨ k = c ∨ k = q) w w2) := M2; have c5 := T2.cf i 5 hi (by omega); have f5 := T2.fq (i * 17 + 5); have HT3 : ∀ v : Int, Hid (0 ≤ v ∧ v ≤ 17792) → Hid (Tb (w2.setCell ⟨q, i * 17 + 5, none⟩ (.int .i64 v)) t q b c n N clk (upd2 F i 5 v) (setN R i FIN.R) FIN.u FIN.D) := fun v hv => T2.setF i 5 (by omega) v (fun _ => hv); clear T2 M2) | (go_at_call 84; refine (touch_any (HT3 _ (by show _ ∧ _; omega)).out i hi).mono ?_; rintro e w3 ⟨rfl, T3, M3⟩; have HH := Hid.intro T3; have HM3 := Hid.intro M3; clear T3 M3))
      all_goals go_ret2
      all_goals refine ⟨by simp, ?_, (HM2.out.trans ((Mod.refl _ w2).setCell _ _ (.inr (.inr rfl)))).trans (HM3.out.mono (fun _ _ h => .inr (.inr h)))⟩
      all_goals (have h := HH.out; rw [show (if F i 5 < (off : Int) + dn then (off : Int) + dn else F i 5) = max (F i 5) ((off : Int) + dn) by split <;> omega] at h; exact h)
  · have hv : 17792 - (off : Int) = (m : Int) := by omega
    have hA' : m ≤ bs.length := by omega
    clear hA hm
    by_cases hC : m < bs.length
    · clear hA'
      have hlen : (bs.take m).length = m := by rw [List.length_take]; omega
      have HSr : Hid (Src w g go (bs.take m)) := ⟨fun j x hj => HS.out.at_ j x (by rw [List.getElem?_take] at hj; split at hj; exact hj; exact absurd hj (by simp)), fun x hx => HS.out.lt x (List.mem_of_mem_take hx)⟩
      have hW := wplaces HT.out i off g go cap (bs.take m) hi (by rw [hlen]; omega) (by rw [hlen]; omega) hcm HSr.out HG.out.1 HG.out.2.1 HG.out.2.2
      rw [hlen] at hW HFIN
      rw [HFIN.out] at hW
      have HWc : Hid (Calls Tryz.prog 83 #[.pointer (some ⟨t, 0, none⟩), .pointer (some ⟨q, i * 17, none⟩), .int .i64 off, .slice (some ⟨g, go, none⟩) m cap] w fun e w' => e = .returned (.int .i64 (FIN.done : Nat)) ∧ Tb w' t q b c n N clk F (setN R i FIN.R) FIN.u FIN.D ∧ Mod (fun k => k = b ∨ k = c ∨ k = q) w w') := hW
      have hdl : FIN.done ≤ m := by have := HDL.out; rw [hlen] at this; exact this
      clear hW hlen
      by_cases hd : FIN.done = 0
      · simp only [if_pos hd]
        have HD0 : Hid (FIN.done = 0) := hd
        clear hd
        clear ho
        go_enter Tryz.func37, Tryz.ntmps37
        go_wp2_with (first | (go_at_call 76; refine (find_ok HT.out i hi HZ.out).mono ?_; rintro e w1 ⟨rfl, hw1⟩; rw [hw1]; clear hw1 w1) | (go_at_call 83; refine HWc.out.mono ?_; rw [HD0.out]; rintro e w2 ⟨rfl, T2, M2⟩; have HT2 : Hid (Tb w2 t q b c n N clk F (setN R i FIN.R) FIN.u FIN.D) := T2; have HM2 : Hid (Mod (fun k => k = b ∨ k = c ∨ k = q) w w2) := M2; clear T2 M2))
        all_goals go_ret2
        all_goals exact ⟨by simp, HT2.out, HM2.out⟩
      · simp only [if_neg hd]
        obtain ⟨dn, hdn⟩ : ∃ dn, dn = FIN.done := ⟨_, rfl⟩
        rw [← hdn] at HWc hdl hd ⊢
        have hd' : ((dn : Int) == 0) = false := by simpa using hd
        have hsz := HT.out.sz i
        clear hdn
        clear ho
        go_enter Tryz.func37, Tryz.ntmps37
        go_wp2_with (first | (go_at_call 76; refine (find_ok HT.out i hi HZ.out).mono ?_; rintro e w1 ⟨rfl, hw1⟩; rw [hw1]; clear hw1 w1) | (go_at_call 83; refine HWc.out.mono ?_; rintro e w2 ⟨rfl, T2, M2⟩; have HT2 : Hid (Tb w2 t q b c n N clk F (setN R i FIN.R) FIN.u FIN.D) := T2; have HM2 : Hid (Mod (fun k => k = b ∨ k = c ∨ k = q) w w2) := M2; have c5 := T2.cf i 5 hi (by omega); have f5 := T2.fq (i * 17 + 5); have HT3 : ∀ v : Int, Hid (0 ≤ v ∧ v ≤ 17792) → Hid (Tb (w2.setCell ⟨q, i * 17 + 5, none⟩ (.int .i64 v)) t q b c n N clk (upd2 F i 5 v) (setN R i FIN.R) FIN.u FIN.D) := fun v hv => T2.setF i 5 (by omega) v (fun _ => hv); clear T2 M2) | (go_at_call 84; refine (touch_any (HT3 _ (by show _ ∧ _; omega)).out i hi).mono ?_; rintro e w3 ⟨rfl, T3, M3⟩; have HH := Hid.intro T3; have HM3 := Hid.intro M3; clear T3 M3))
        all_goals go_ret2
        all_goals refine ⟨by simp, ?_, (HM2.out.trans ((Mod.refl _ w2).setCell _ _ (.inr (.inr rfl)))).trans (HM3.out.mono (fun _ _ h => .inr (.inr h)))⟩
        all_goals (have h := HH.out; rw [show (if F i 5 < (off : Int) + dn then (off : Int) + dn else F i 5) = max (F i 5) ((off : Int) + dn) by split <;> omega] at h; exact h)
    · obtain rfl : m = bs.length := by omega
      clear hA' hC
      have hlen : (bs.take bs.length).length = bs.length := by rw [List.length_take]; omega
      have HSr : Hid (Src w g go (bs.take bs.length)) := ⟨fun j x hj => HS.out.at_ j x (by rw [List.getElem?_take] at hj; split at hj; exact hj; exact absurd hj (by simp)), fun x hx => HS.out.lt x (List.mem_of_mem_take hx)⟩
      have hW := wplaces HT.out i off g go cap (bs.take bs.length) hi (by rw [hlen]; omega) (by rw [hlen]; omega) hcm HSr.out HG.out.1 HG.out.2.1 HG.out.2.2
      rw [hlen] at hW HFIN
      rw [HFIN.out] at hW
      have HWc : Hid (Calls Tryz.prog 83 #[.pointer (some ⟨t, 0, none⟩), .pointer (some ⟨q, i * 17, none⟩), .int .i64 off, .slice (some ⟨g, go, none⟩) bs.length cap] w fun e w' => e = .returned (.int .i64 (FIN.done : Nat)) ∧ Tb w' t q b c n N clk F (setN R i FIN.R) FIN.u FIN.D ∧ Mod (fun k => k = b ∨ k = c ∨ k = q) w w') := hW
      have hdl : FIN.done ≤ bs.length := by have := HDL.out; rw [hlen] at this; exact this
      clear hW hlen
      by_cases hd : FIN.done = 0
      · simp only [if_pos hd]
        have HD0 : Hid (FIN.done = 0) := hd
        clear hd
        clear ho
        go_enter Tryz.func37, Tryz.ntmps37
        go_wp2_with (first | (go_at_call 76; refine (find_ok HT.out i hi HZ.out).mono ?_; rintro e w1 ⟨rfl, hw1⟩; rw [hw1]; clear hw1 w1) | (go_at_call 83; refine HWc.out.mono ?_; rw [HD0.out]; rintro e w2 ⟨rfl, T2, M2⟩; have HT2 : Hid (Tb w2 t q b c n N clk F (setN R i FIN.R) FIN.u FIN.D) := T2; have HM2 : Hid (Mod (fun k => k = b ∨ k = c ∨ k = q) w w2) := M2; clear T2 M2))
        all_goals go_ret2
        all_goals exact ⟨by simp, HT2.out, HM2.out⟩
      · simp only [if_neg hd]
        obtain ⟨dn, hdn⟩ : ∃ dn, dn = FIN.done := ⟨_, rfl⟩
        rw [← hdn] at HWc hdl hd ⊢
        have hd' : ((dn : Int) == 0) = false := by simpa using hd
        have hsz := HT.out.sz i
        clear hdn
        clear ho
        go_enter Tryz.func37, Tryz.ntmps37
        go_wp2_with (first | (go_at_call 76; refine (find_ok HT.out i hi HZ.out).mono ?_; rintro e w1 ⟨rfl, hw1⟩; rw [hw1]; clear hw1 w1) | (go_at_call 83; refine HWc.out.mono ?_; rintro e w2 ⟨rfl, T2, M2⟩; have HT2 : Hid (Tb w2 t q b c n N clk F (setN R i FIN.R) FIN.u FIN.D) := T2; have HM2 : Hid (Mod (fun k => k = b ∨ k = c ∨ k = q) w w2) := M2; have c5 := T2.cf i 5 hi (by omega); have f5 := T2.fq (i * 17 + 5); have HT3 : ∀ v : Int, Hid (0 ≤ v ∧ v ≤ 17792) → Hid (Tb (w2.setCell ⟨q, i * 17 + 5, none⟩ (.int .i64 v)) t q b c n N clk (upd2 F i 5 v) (setN R i FIN.R) FIN.u FIN.D) := fun v hv => T2.setF i 5 (by omega) v (fun _ => hv); clear T2 M2) | (go_at_call 84; refine (touch_any (HT3 _ (by show _ ∧ _; omega)).out i hi).mono ?_; rintro e w3 ⟨rfl, T3, M3⟩; have HH := Hid.intro T3; have HM3 := Hid.intro M3; clear T3 M3))
        all_goals go_ret2
        all_goals refine ⟨by simp, ?_, (HM2.out.trans ((Mod.refl _ w2).setCell _ _ (.inr (.inr rfl)))).trans (HM3.out.mono (fun _ _ h => .inr (.inr h)))⟩
        all_goals (have h := HH.out; rw [show (if F i 5 < (off : Int) + dn then (off : Int) + dn else F i 5) = max (F i 5) ((off : Int) + dn) by split <;> omega] at h; exact h)
end
end Go.Proofs.YtfmemkninmpfjaaGreatDoor
/- How far a write comes, in plain numbers: it ends short just where too few blocks are left. -/
namespace Go.Proofs.YtfmemkninmpfjaaGreatDoor
open Go.RowKit
theorem cnt_all (u : Nat → Bool) : ∀ n, (∀ i, i < n → u i = true) → Bt.cnt u n = n
  | 0, _ => rfl
  | n + 1, h => by
    rw [Bt.cnt, cnt_all u n (fun i hi => h i (by omega)), h n (by omega)]; rfl
theorem cnt_none (u : Nat → Bool) : ∀ n, (∀ i, i < n → u i = false) → Bt.cnt u n = 0
  | 0, _ => rfl
  | n + 1, h => by
    rw [Bt.cnt, cnt_none u n (fun i hi => h i (by omega)), h n (by omega)]; rfl
theorem cnt_upd (u : Nat → Bool) (i : Nat) (h : u i = false) : ∀ n, Bt.cnt (upd u i true) n = if i < n then Bt.cnt u n + 1 else Bt.cnt u n
  | 0 => by simp [Bt.cnt]
  | n + 1 => by
    have ih := cnt_upd u i h n
    by_cases e : n = i
    · subst e
      simp [Bt.cnt, ih, upd, h]
    · have hu : upd u i true n = u n := by simp [upd, e]
      by_cases h2 : i < n
      · have h3 : i < n + 1 := by omega
        simp only [Bt.cnt, ih, hu, if_pos h2, if_pos h3]; omega
      · have h3 : ¬ i < n + 1 := by omega
        simp only [Bt.cnt, ih, hu, if_neg h2, if_neg h3]
/-- Where take fails, no more blocks than levels are left. -/
theorem tk_none_left {n : Nat} {D : Nat → Nat} : ∀ (l : Nat) (u : Nat → Bool) (r k : Nat), tk l n u D r k = none → n ≤ Bt.cnt u n + l
  | 0, u, r, k, h => by
    rw [tk] at h
    split at h
    · exact absurd h (by simp)
    · cases hl : low u n with
      | none => rw [cnt_all u n (low_none hl)]; omega
      | some i => rw [hl] at h; simp at h
  | l + 1, u, r, k, h => by
    rw [tk] at h
    by_cases h0 : r ≠ 0
    · rw [if_pos h0, Option.bind_some, Option.map_eq_none_iff] at h
      have := tk_none_left l u _ _ h
      omega
    · rw [if_neg h0] at h
      cases hl : low u n with
      | none => rw [cnt_all u n (low_none hl)]; omega
      | some i =>
        rw [hl, Option.map_some, Option.bind_some, Option.map_eq_none_iff] at h
        have h1 := tk_none_left l _ _ _ h
        obtain ⟨hi, hf, _⟩ := low_some hl
        rw [cnt_upd u i hf, if_pos hi] at h1
        omega
theorem lv_le (k : Nat) : lv k ≤ 2 := by unfold lv; split; omega; split <;> omega
/-- How a write ends. -/
theorem wrun_ends (n off : Nat) (bs : List Nat) (s0 : WS) : ∀ (f : Nat) (s : WS), bs.length - s.done ≤ f → s.done ≤ bs.length → (s.done = 0 → s = s0) → (0 < s.done → s.done < bs.length → (off + s.done) % 64 = 0) →
    (wrun n off bs f s).done = bs.length ∨ (n ≤ Bt.cnt (wrun n off bs f s).u n + 2 ∧ ((wrun n off bs f s).done = 0 → wrun n off bs f s = s0) ∧ (0 < (wrun n off bs f s).done → (off + (wrun n off bs f s).done) % 64 = 0))
  | 0, s, hf, hd, _, _ => by left; show s.done = _; omega
  | f + 1, s, hf, hd, h0, h1 => by
    by_cases hlt : s.done < bs.length
    · cases hx : tkAt n s.u s.D s.R ((off + s.done) / 64) with
      | none =>
        rw [wrun_stop hx]
        right
        have := tk_none_left _ _ _ _ hx
        have := lv_le ((off + s.done) / 64)
        exact ⟨by omega, h0, fun h => h1 h hlt⟩
      | some y =>
        obtain ⟨u', D', r', x⟩ := y
        rw [wrun_step hlt hx]
        refine wrun_ends n off bs s0 f _ ?_ ?_ ?_ ?_
        · show bs.length - (s.done + min _ _) ≤ f; omega
        · show s.done + min _ _ ≤ _; omega
        · intro h; exact absurd h (by show ¬ s.done + min _ _ = 0; omega)
        · intro _ h
          show (off + (s.done + min _ _)) % 64 = 0
          have h' : s.done + min (bs.length - s.done) (64 - (off + s.done) % 64) < bs.length := h
          omega
    · rw [wrun_end hlt]; left; omega
end Go.Proofs.YtfmemkninmpfjaaGreatDoor
/- The walk of Used: the blocks in use, rising, in new memory. Condition: the store lies in memory as 'St' says. -/
namespace Go.Proofs.YtfmemkninmpfjaaGreatDoor
open Go.RowKit
theorem Mod.grown {s : Nat → Prop} {a w w' : World} {row : Option Nat} (h : Mod s a w) (hg : w.grownBy w' row) (hr : ∀ k, row = some k → a.heap.size ≤ k) : Mod s a w' :=
  ⟨hg.os.trans h.os, hg.tape.trans h.tape, hg.output.trans h.output, Nat.le_trans h.size hg.size, fun k hk hs =>
    (hg.block k (Nat.lt_of_lt_of_le hk h.size) (fun e => by have := hr k e.symm; omega)).trans (h.block k hk hs)⟩
def usedL (u : Nat → Bool) (k : Nat) : List Nat := (List.range k).filter u
def intV (x : Nat) : Value := .int .i64 x
theorem usedL_yes (u : Nat → Bool) (k : Nat) (h : u k = true) : usedL u (k + 1) = usedL u k ++ [k] := by
  simp [usedL, List.range_succ, List.filter_append, h]
theorem usedL_no (u : Nat → Bool) (k : Nat) (h : u k = false) : usedL u (k + 1) = usedL u k := by
  simp [usedL, List.range_succ, List.filter_append, h]
theorem usedL_le (u : Nat → Bool) (k : Nat) : (usedL u k).length ≤ k := by
  have := List.length_filter_le u (List.range k)
  simpa [usedL] using this
theorem usedL_cnt (u : Nat → Bool) : ∀ k, (usedL u k).length = Bt.cnt u k
  | 0 => rfl
  | k + 1 => by
    have ih := usedL_cnt u k
    cases h : u k with
    | false => rw [usedL_no u k h, ih]; simp [Bt.cnt, h]
    | true => rw [usedL_yes u k h, List.length_append, ih]; simp [Bt.cnt, h]
theorem info3 : ∃ i, Tryz.prog.info? 3 = some i ∧ i.zero = some (.int .i64 0) ∧ i.size = 1 ∧ i.bytes = 8 := info_of (by kernel_rfl)
theorem und43 : Tryz.prog.underlying 35 = some (.slice 3) := by kernel_rfl
set_option maxHeartbeats 1000000 in
theorem used_any {w : World} {b c n : Nat} {u : Nat → Bool} {D : Nat → Nat} (S : St w b c n u D) :
    Calls Tryz.prog 90 #[.pointer (some ⟨b, 0, none⟩)] w fun e w' => ∃ v, e = .returned v ∧ w'.ownsRow w.heap.size 3 1 v (usedL u n).length ((usedL u n).map intV) ∧ Mod (fun _ => False) w w' := by
  obtain ⟨i3, hi, hz0, hz1, hz2⟩ := info3
  have hn1 := S.n1
  have hn2 := S.n2
  obtain ⟨cc, hsl⟩ := S.sl
  have HS : Hid (St w b c n u D) := S
  have HI : Hid (Tryz.prog.info? 3 = some i3 ∧ i3.zero = some (.int .i64 0) ∧ i3.size = 1 ∧ i3.bytes = 8) := ⟨hi, hz0, hz1, hz2⟩
  clear S hi hz0 hz1 hz2
  go_enter Tryz.func90, Tryz.ntmps90
  go_wp2_with (go_at_call 115; refine (made_yes b _ n cc _ hsl hn1).mono ?_; rintro e w' ⟨rfl, hw'⟩; rw [hw']; clear hw' w')
  go_loopw [3, 13] (fun v i wr => ∃ k : Nat, k ≤ n ∧ i = .int .i64 k ∧ Hid (wr.ownsRow w.heap.size 3 1 v (usedL u k).length ((usedL u k).map intV)) ∧ Hid (Mod (fun _ => False) w wr)) (fun _ i _ => n - (intOf i).toNat)
  case atStart => exact ⟨0, Nat.zero_le _, rfl, World.ownsRow_nil _ _ _ _, Mod.refl _ _⟩
  case round =>
    obtain ⟨k, hk, rfl, hown, hmod⟩ := hrel
    by_cases hlt : k < n
    · have HSr : Hid (St wr b c n u D) := HS.out.mod hmod.out (fun h => h) (fun h => h) (fun h => h)
      cases hu : u k with
      | false =>
        have hU : Hid (u k = false) := hu
        clear hu
        go_wp2_with (go_at_call 116; refine (HSr.out.is_in k hlt).mono ?_; rw [hU.out]; rintro e w' ⟨rfl, m, rfl⟩)
        exact ⟨⟨k + 1, hlt, by go_num, by rw [usedL_no u k hU.out]; exact hown, hmod.out.drewN m⟩, by simp [intOf]; omega⟩
      | true =>
        have hU : Hid (u k = true) := hu
        clear hu
        have hle := usedL_le u k
        have hO : Hid ((wr.alloc (.cells #[.int .i64 k] 3)).ownsRow w.heap.size 3 1 u3 (usedL u k).length ((usedL u k).map intV)) := hown.out.alloc _
        have hsz := hmod.out.size
        go_wp2_with (first | (go_at_call 116; refine (HSr.out.is_in k hlt).mono ?_; rw [hU.out]; rintro e w' ⟨rfl, m, rfl⟩) | (at_builtin; refine wpList_append_own _ rfl _ _ 35 rfl w.heap.size 3 i3 (.int .i64 0) 1 8 und43 HI.out.1 HI.out.2.1 HI.out.2.2.1 HI.out.2.2.2 rfl (by decide) _ _ _ rfl hO.out ⟨wr.heap.size, 0, none⟩ 1 1 [intV k] rfl rfl ?c1 ?c2 ?c3 ?c4 ?c5 ?_))
        case c1 =>
          intro j x hj
          match j, hj with
          | 0, hj =>
            simp at hj; subst hj
            show ((wr.alloc (.cells #[.int .i64 k] 3)).cell? _) = _
            rw [show (⟨wr.heap.size, 0, none⟩ : Addr).add 0 = ⟨wr.heap.size, 0, none⟩ from rfl, World.cell?_alloc_at _ _ _ _ rfl]; rfl
        case c2 => intro x hx; simp at hx; subst hx; rfl
        case c3 => unfold maxLen; omega
        case c4 => omega
        case c5 => simp; omega
        intro v' w1 hown' hgrow _
        have hO' : Hid (w1.ownsRow w.heap.size 3 1 v' (usedL u (k + 1)).length ((usedL u (k + 1)).map intV)) := by
          show w1.ownsRow _ _ _ _ _ _
          rw [usedL_yes u k hU.out, List.length_append, List.map_append]; exact hown'
        have hM' : Hid (Mod (fun _ => False) w w1) := (((hmod.out.alloc (.cells #[.int .i64 k] 3)).drewN _).grown hgrow (fun j hj => (hown.out.lt j hj).1))
        clear hown' hgrow
        go_wp2
        first | exact ⟨⟨k + 1, hlt, by go_num, hO', hM'⟩, by simp [intOf]; omega⟩ | ((repeat apply Exists.intro); exact ⟨⟨k + 1, hlt, by go_num, hO', hM'⟩, rfl⟩)
    · obtain rfl : k = n := by omega
      go_wp2
      go_ret
      exact ⟨_, rfl, hown, hmod⟩
end Go.Proofs.YtfmemkninmpfjaaGreatDoor
