/- The walk of Write. Conditions: the table lies in memory as 'Tb' says; the bytes to be written lie apart from it. -/
import Derived.Test.YtpcbpikhiooafaaGreatDoorWr
namespace Go.Proofs.YtpcbpikhiooafaaGreatDoor
open Go.RowKit
theorem Hid.intro {p : Prop} (h : p) : Hid p := h
theorem wrun_le (n off : Nat) (bs : List Nat) : ∀ (f : Nat) (s : WS), s.done ≤ bs.length → (wrun n off bs f s).done ≤ bs.length
  | 0, _, h => h
  | f + 1, s, h => by
    rw [wrun]
    split
    · split
      · exact h
      · exact wrun_le n off bs f _ (by show s.done + min _ _ ≤ _; omega)
    · exact h
section
variable {w w' : World} {t q b c n N : Nat} {clk : Int} {F : Nat → Nat → Int} {R : Nat → Nat → Nat} {u : Nat → Bool} {D : Nat → Nat}
/-- What Write answers and makes of the table, by how far writePlaces came. -/
def WPost (t q b c n N : Nat) (clk : Int) (F : Nat → Nat → Int) (R : Nat → Nat → Nat) (i off : Nat) (s : WS) (w : World) (e : Ending) (w' : World) : Prop :=
  if s.done = 0 then e = .returned (.tuple #[.int .i64 0, .int .i64 28]) ∧ Tb w' t q b c n N clk F (setN R i s.R) s.u s.D ∧ Mod (fun k => k = b ∨ k = c ∨ k = q) w w'
  else e = .returned (.tuple #[.int .i64 (s.done : Nat), .int .i64 0]) ∧ Tb w' t q b c n N clk (upd2 (upd2 (upd2 F i 5 (max (F i 5) ((off : Int) + s.done))) i 7 clk) i 8 clk) (setN R i s.R) s.u s.D ∧ Mod (fun k => k = b ∨ k = c ∨ k = q) w w'
set_option maxRecDepth 8000 in
set_option maxHeartbeats 4000000 in
theorem twrite (T : Tb w t q b c n N clk F R u D) (i off g go cap : Nat) (bs : List Nat) (hi : i < N) (hz : F i 0 ≠ 0) (hb : 0 < bs.length) (ho : off < 17792) (hcap : bs.length ≤ cap) (hcm : cap ≤ 9223372036854775807) (hsrc : Src w g go bs) (hgb : g ≠ b) (hgc : g ≠ c) (hgq : g ≠ q) (m : Nat) (hm : m = min bs.length (17792 - off)) :
    Calls Tryz.prog 63 #[.pointer (some ⟨t, 0, none⟩), .int .i64 ((i : Int) + 1), .int .i64 off, .slice (some ⟨g, go, none⟩) bs.length cap] w (WPost t q b c n N clk F R i off (wrun n off (bs.take m) (bs.take m).length ⟨0, u, D, R i⟩) w) := by
  unfold WPost
  have HDL : Hid ((wrun n off (bs.take m) (bs.take m).length ⟨0, u, D, R i⟩).done ≤ (bs.take m).length) := wrun_le n off (bs.take m) _ _ (Nat.zero_le _)
  generalize hFIN : wrun n off (bs.take m) (bs.take m).length ⟨0, u, D, R i⟩ = FIN at *
  have HFIN : Hid (wrun n off (bs.take m) (bs.take m).length ⟨0, u, D, R i⟩ = FIN) := hFIN
  have HT : Hid (Tb w t q b c n N clk F R u D) := T
  have HZ : Hid (F i 0 ≠ 0) := hz
  have HS : Hid (Src w g go bs) := hsrc
  have HG : Hid (g ≠ b ∧ g ≠ c ∧ g ≠ q) := ⟨hgb, hgc, hgq⟩
  have hb' : ((bs.length : Int) == 0) = false := by simp; intro h; rw [h] at hb; exact absurd hb (by simp)
  have h17 : decide ((17792 : Int) ≤ off) = false := by simp; omega
  clear T hz hsrc hgb hgc hgq hFIN
  by_cases hA : (bs.length : Int) < 17792 - off
  · obtain rfl : m = bs.length := by omega
    clear hm
    have hlen : (bs.take bs.length).length = bs.length := by rw [List.length_take]; omega
    have HSr : Hid (Src w g go (bs.take bs.length)) := ⟨fun j x hj => HS.out.at_ j x (by rw [List.getElem?_take] at hj; split at hj; exact hj; exact absurd hj (by simp)), fun x hx => HS.out.lt x (List.mem_of_mem_take hx)⟩
    have hW := wplaces HT.out i off g go cap (bs.take bs.length) hi (by rw [hlen]; omega) (by rw [hlen]; omega) hcm HSr.out HG.out.1 HG.out.2.1 HG.out.2.2
    rw [hlen] at hW HFIN
    rw [HFIN.out] at hW
    have HWc : Hid (Calls Tryz.prog 86 #[.pointer (some ⟨t, 0, none⟩), .pointer (some ⟨q, i * 17, none⟩), .int .i64 off, .slice (some ⟨g, go, none⟩) bs.length cap] w fun e w' => e = .returned (.int .i64 (FIN.done : Nat)) ∧ Tb w' t q b c n N clk F (setN R i FIN.R) FIN.u FIN.D ∧ Mod (fun k => k = b ∨ k = c ∨ k = q) w w') := hW
    have hdl : FIN.done ≤ bs.length := by have := HDL.out; rw [hlen] at this; exact this
    clear hW hlen
    by_cases hd : FIN.done = 0
    · simp only [if_pos hd]
      have HD0 : Hid (FIN.done = 0) := hd
      clear hd
      clear ho
      go_enter Tryz.func63, Tryz.ntmps63
      go_wp2_with (first | (go_at_call 37; refine (find_ok HT.out i hi HZ.out).mono ?_; rintro e w1 ⟨rfl, hw1⟩; rw [hw1]; clear hw1 w1) | (go_at_call 86; refine HWc.out.mono ?_; rw [HD0.out]; rintro e w2 ⟨rfl, T2, M2⟩; have HT2 : Hid (Tb w2 t q b c n N clk F (setN R i FIN.R) FIN.u FIN.D) := T2; have HM2 : Hid (Mod (fun k => k = b ∨ k = c ∨ k = q) w w2) := M2; clear T2 M2))
      all_goals go_ret2
      all_goals exact ⟨by simp, HT2.out, HM2.out⟩
    · simp only [if_neg hd]
      obtain ⟨dn, hdn⟩ : ∃ dn, dn = FIN.done := ⟨_, rfl⟩
      rw [← hdn] at HWc hdl hd ⊢
      have hd' : ((dn : Int) == 0) = false := by simpa using hd
      have hsz := HT.out.sz i
      clear hdn
      clear ho
      go_enter Tryz.func63, Tryz.ntmps63
      go_wp2_with (first | (go_at_call 37; refine (find_ok HT.out i hi HZ.out).mono ?_; rintro e w1 ⟨rfl, hw1⟩; rw [hw1]; clear hw1 w1) | (go_at_call 86; refine HWc.out.mono ?_; rintro e w2 ⟨rfl, T2, M2⟩; have HT2 : Hid (Tb w2 t q b c n N clk F (setN R i FIN.R) FIN.u FIN.D) := T2; have HM2 : Hid (Mod (fun k => k = b ∨ k = c ∨ k = q) w w2) := M2; have c5 := T2.cf i 5 hi (by omega); have f5 := T2.fq (i * 17 + 5); have HT3 : ∀ v : Int, Hid (0 ≤ v ∧ v ≤ 17792) → Hid (Tb (w2.setCell ⟨q, i * 17 + 5, none⟩ (.int .i64 v)) t q b c n N clk (upd2 F i 5 v) (setN R i FIN.R) FIN.u FIN.D) := fun v hv => T2.setF i 5 (by omega) v (fun _ => hv); clear T2 M2) | (go_at_call 85; refine (touch_any (HT3 _ (by show _ ∧ _; omega)).out i hi).mono ?_; rintro e w3 ⟨rfl, T3, M3⟩; have HH := Hid.intro T3; have HM3 := Hid.intro M3; clear T3 M3))
      all_goals go_ret2
      all_goals refine ⟨by simp, ?_, (HM2.out.trans ((Mod.refl _ w2).setCell _ _ (.inr (.inr rfl)))).trans (HM3.out.mono (fun _ _ h => .inr (.inr h)))⟩
      all_goals (have h := HH.out; rw [show (if F i 5 < (off : Int) + dn then (off : Int) + dn else F i 5) = max (F i 5) ((off : Int) + dn) by split <;> omega] at h; exact h)
  · have hv : 17792 - (off : Int) = (m : Int) := by omega
    have hA' : m ≤ bs.length := by omega
    clear hA hm
    by_cases hC : m < bs.length
    · clear hA'
      have hlen : (bs.take m).length = m := by rw [List.length_take]; omega
      have HSr : Hid (Src w g go (bs.take m)) := ⟨fun j x hj => HS.out.at_ j x (by rw [List.getElem?_take] at hj; split at hj; exact hj; exact absurd hj (by simp)), fun x hx => HS.out.lt x (List.mem_of_mem_take hx)⟩
      have hW := wplaces HT.out i off g go cap (bs.take m) hi (by rw [hlen]; omega) (by rw [hlen]; omega) hcm HSr.out HG.out.1 HG.out.2.1 HG.out.2.2
      rw [hlen] at hW HFIN
      rw [HFIN.out] at hW
      have HWc : Hid (Calls Tryz.prog 86 #[.pointer (some ⟨t, 0, none⟩), .pointer (some ⟨q, i * 17, none⟩), .int .i64 off, .slice (some ⟨g, go, none⟩) m cap] w fun e w' => e = .returned (.int .i64 (FIN.done : Nat)) ∧ Tb w' t q b c n N clk F (setN R i FIN.R) FIN.u FIN.D ∧ Mod (fun k => k = b ∨ k = c ∨ k = q) w w') := hW
      have hdl : FIN.done ≤ m := by have := HDL.out; rw [hlen] at this; exact this
      clear hW hlen
      by_cases hd : FIN.done = 0
      · simp only [if_pos hd]
        have HD0 : Hid (FIN.done = 0) := hd
        clear hd
        clear ho
        go_enter Tryz.func63, Tryz.ntmps63
        go_wp2_with (first | (go_at_call 37; refine (find_ok HT.out i hi HZ.out).mono ?_; rintro e w1 ⟨rfl, hw1⟩; rw [hw1]; clear hw1 w1) | (go_at_call 86; refine HWc.out.mono ?_; rw [HD0.out]; rintro e w2 ⟨rfl, T2, M2⟩; have HT2 : Hid (Tb w2 t q b c n N clk F (setN R i FIN.R) FIN.u FIN.D) := T2; have HM2 : Hid (Mod (fun k => k = b ∨ k = c ∨ k = q) w w2) := M2; clear T2 M2))
        all_goals go_ret2
        all_goals exact ⟨by simp, HT2.out, HM2.out⟩
      · simp only [if_neg hd]
        obtain ⟨dn, hdn⟩ : ∃ dn, dn = FIN.done := ⟨_, rfl⟩
        rw [← hdn] at HWc hdl hd ⊢
        have hd' : ((dn : Int) == 0) = false := by simpa using hd
        have hsz := HT.out.sz i
        clear hdn
        clear ho
        go_enter Tryz.func63, Tryz.ntmps63
        go_wp2_with (first | (go_at_call 37; refine (find_ok HT.out i hi HZ.out).mono ?_; rintro e w1 ⟨rfl, hw1⟩; rw [hw1]; clear hw1 w1) | (go_at_call 86; refine HWc.out.mono ?_; rintro e w2 ⟨rfl, T2, M2⟩; have HT2 : Hid (Tb w2 t q b c n N clk F (setN R i FIN.R) FIN.u FIN.D) := T2; have HM2 : Hid (Mod (fun k => k = b ∨ k = c ∨ k = q) w w2) := M2; have c5 := T2.cf i 5 hi (by omega); have f5 := T2.fq (i * 17 + 5); have HT3 : ∀ v : Int, Hid (0 ≤ v ∧ v ≤ 17792) → Hid (Tb (w2.setCell ⟨q, i * 17 + 5, none⟩ (.int .i64 v)) t q b c n N clk (upd2 F i 5 v) (setN R i FIN.R) FIN.u FIN.D) := fun v hv => T2.setF i 5 (by omega) v (fun _ => hv); clear T2 M2) | (go_at_call 85; refine (touch_any (HT3 _ (by show _ ∧ _; omega)).out i hi).mono ?_; rintro e w3 ⟨rfl, T3, M3⟩; have HH := Hid.intro T3; have HM3 := Hid.intro M3; clear T3 M3))
        all_goals go_ret2
        all_goals refine ⟨by simp, ?_, (HM2.out.trans ((Mod.refl _ w2).setCell _ _ (.inr (.inr rfl)))).trans (HM3.out.mono (fun _ _ h => .inr (.inr h)))⟩
        all_goals (have h := HH.out; rw [show (if F i 5 < (off : Int) + dn then (off : Int) + dn else F i 5) = max (F i 5) ((off : Int) + dn) by split <;> omega] at h; exact h)
    · obtain rfl : m = bs.length := by omega
      clear hA' hC
      have hlen : (bs.take bs.length).length = bs.length := by rw [List.length_take]; omega
      have HSr : Hid (Src w g go (bs.take bs.length)) := ⟨fun j x hj => HS.out.at_ j x (by rw [List.getElem?_take] at hj; split at hj; exact hj; exact absurd hj (by simp)), fun x hx => HS.out.lt x (List.mem_of_mem_take hx)⟩
      have hW := wplaces HT.out i off g go cap (bs.take bs.length) hi (by rw [hlen]; omega) (by rw [hlen]; omega) hcm HSr.out HG.out.1 HG.out.2.1 HG.out.2.2
      rw [hlen] at hW HFIN
      rw [HFIN.out] at hW
      have HWc : Hid (Calls Tryz.prog 86 #[.pointer (some ⟨t, 0, none⟩), .pointer (some ⟨q, i * 17, none⟩), .int .i64 off, .slice (some ⟨g, go, none⟩) bs.length cap] w fun e w' => e = .returned (.int .i64 (FIN.done : Nat)) ∧ Tb w' t q b c n N clk F (setN R i FIN.R) FIN.u FIN.D ∧ Mod (fun k => k = b ∨ k = c ∨ k = q) w w') := hW
      have hdl : FIN.done ≤ bs.length := by have := HDL.out; rw [hlen] at this; exact this
      clear hW hlen
      by_cases hd : FIN.done = 0
      · simp only [if_pos hd]
        have HD0 : Hid (FIN.done = 0) := hd
        clear hd
        clear ho
        go_enter Tryz.func63, Tryz.ntmps63
        go_wp2_with (first | (go_at_call 37; refine (find_ok HT.out i hi HZ.out).mono ?_; rintro e w1 ⟨rfl, hw1⟩; rw [hw1]; clear hw1 w1) | (go_at_call 86; refine HWc.out.mono ?_; rw [HD0.out]; rintro e w2 ⟨rfl, T2, M2⟩; have HT2 : Hid (Tb w2 t q b c n N clk F (setN R i FIN.R) FIN.u FIN.D) := T2; have HM2 : Hid (Mod (fun k => k = b ∨ k = c ∨ k = q) w w2) := M2; clear T2 M2))
        all_goals go_ret2
        all_goals exact ⟨by simp, HT2.out, HM2.out⟩
      · simp only [if_neg hd]
        obtain ⟨dn, hdn⟩ : ∃ dn, dn = FIN.done := ⟨_, rfl⟩
        rw [← hdn] at HWc hdl hd ⊢
        have hd' : ((dn : Int) == 0) = false := by simpa using hd
        have hsz := HT.out.sz i
        clear hdn
        clear ho
        go_enter Tryz.func63, Tryz.ntmps63
        go_wp2_with (first | (go_at_call 37; refine (find_ok HT.out i hi HZ.out).mono ?_; rintro e w1 ⟨rfl, hw1⟩; rw [hw1]; clear hw1 w1) | (go_at_call 86; refine HWc.out.mono ?_; rintro e w2 ⟨rfl, T2, M2⟩; have HT2 : Hid (Tb w2 t q b c n N clk F (setN R i FIN.R) FIN.u FIN.D) := T2; have HM2 : Hid (Mod (fun k => k = b ∨ k = c ∨ k = q) w w2) := M2; have c5 := T2.cf i 5 hi (by omega); have f5 := T2.fq (i * 17 + 5); have HT3 : ∀ v : Int, Hid (0 ≤ v ∧ v ≤ 17792) → Hid (Tb (w2.setCell ⟨q, i * 17 + 5, none⟩ (.int .i64 v)) t q b c n N clk (upd2 F i 5 v) (setN R i FIN.R) FIN.u FIN.D) := fun v hv => T2.setF i 5 (by omega) v (fun _ => hv); clear T2 M2) | (go_at_call 85; refine (touch_any (HT3 _ (by show _ ∧ _; omega)).out i hi).mono ?_; rintro e w3 ⟨rfl, T3, M3⟩; have HH := Hid.intro T3; have HM3 := Hid.intro M3; clear T3 M3))
        all_goals go_ret2
        all_goals refine ⟨by simp, ?_, (HM2.out.trans ((Mod.refl _ w2).setCell _ _ (.inr (.inr rfl)))).trans (HM3.out.mono (fun _ _ h => .inr (.inr h)))⟩
        all_goals (have h := HH.out; rw [show (if F i 5 < (off : Int) + dn then (off : Int) + dn else F i 5) = max (F i 5) ((off : Int) + dn) by split <;> omega] at h; exact h)
end
end Go.Proofs.YtpcbpikhiooafaaGreatDoor
