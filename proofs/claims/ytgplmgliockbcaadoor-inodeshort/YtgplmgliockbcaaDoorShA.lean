/- The walk of InodeShort, where the numbers may be: the bytes lie below MaxFile, or not. Conditions: the library's table is as its initialiser lays it; the bytes can be read. -/
import Derived.Test.YtgplmgliockbcaaDoorSh0
namespace Go.Proofs.YtgplmgliockbcaaDoor
open Go.RowKit
set_option maxRecDepth 100000 in
set_option maxHeartbeats 8000000 in
theorem short_A (n off g go cap m : Nat) (bs : List Nat) (w : World) (hT : TabIs w) (hn1 : 1 ≤ n) (hn4 : n ≤ 400) (ho : off < 17792) (hb0 : 0 < bs.length) (hcap : bs.length ≤ cap) (hcm : cap ≤ 9223372036854775807) (hsrc : Src w g go bs) (hgl : g < w.heap.size) (hm : m = min bs.length (17792 - off)) (hA : (bs.length : Int) ≤ 17792 - off) :
    Calls Tryd.prog 7 #[.int .i64 n, .int .i64 off, .slice (some ⟨g, go, none⟩) bs.length cap] w fun e w' => e = .returned (.bool true) ∧ Below w.heap.size w w' := by
  have HT : Hid (TabIs w) := hT
  have HS : Hid (Src w g go bs) := hsrc
  have HGl : Hid (g < w.heap.size) := hgl
  have HCp : Hid (bs.length ≤ cap ∧ cap ≤ 9223372036854775807) := ⟨hcap, hcm⟩
  have HLp : Hid (0 < bs.length) := hb0
  have HO : Hid (off < 17792) := ho
  have HMm : Hid (m = min bs.length (17792 - off)) := hm
  have hn2 : n ≤ 4096 := by omega
  have hlt : (bs.take m).length = m := by rw [List.length_take]; omega
  have hend := wrun_ends n off (bs.take m) ⟨0, fun _ => false, fun _ => 0, fun _ => 0⟩ (bs.take m).length ⟨0, fun _ => false, fun _ => 0, fun _ => 0⟩ (by simp) (Nat.zero_le _) (fun _ => rfl) (fun h => absurd h (by show ¬ 0 < 0; omega))
  have hle := wrun_le n off (bs.take m) (bs.take m).length ⟨0, fun _ => false, fun _ => 0, fun _ => 0⟩ (Nat.zero_le _)
  generalize hFIN : wrun n off (bs.take m) (bs.take m).length ⟨0, fun _ => false, fun _ => 0, fun _ => 0⟩ = FIN at *
  have HFIN : Hid (wrun n off (bs.take m) (bs.take m).length ⟨0, fun _ => false, fun _ => 0, fun _ => 0⟩ = FIN) := hFIN
  rw [hlt] at hend hle
  obtain ⟨lf, hlf⟩ : ∃ lf : Int, lf = (n : Int) - (Bt.cnt FIN.u n : Nat) := ⟨_, rfl⟩
  have HLf : Hid ((n : Int) - (Bt.cnt FIN.u n : Nat) = lf) := hlf.symm
  have hcnt := Bt.cnt_le FIN.u n
  have h17 : decide ((17792 : Int) ≤ off) = false := by simp; omega
  have hl0 : ((bs.length : Int) == 0) = false := by simp; intro h; rw [h] at hb0; exact absurd hb0 (by simp)
  obtain ⟨wv, hwv⟩ : ∃ wv : Nat, wv = bs.length := ⟨_, rfl⟩
  have hmw : m = bs.length := by omega
  have hgt : ¬ 17792 - (off : Int) < bs.length := by omega
  clear hT hsrc hgl hcap hcm hb0 hm hlt hFIN hA ho
  by_cases hd : FIN.done = 0
  · have hcz : FIN.done = m ∨ Bt.cnt FIN.u n = 0 := by
      rcases hend with h | h
      · exact .inl h
      · right
        have := h.2.1 hd
        rw [this]; exact cnt_none _ _ (fun _ _ => rfl)
    have hmpos : 0 < m := by rw [hmw]; exact HLp.out
    have hln : lf = n := by rcases hcz with h | h; omega; rw [hlf, h]; simp
    have hl2 : lf ≤ 2 := by rcases hend with h | h; omega; rw [hlf]; omega
    have HD0 : Hid (FIN.done = 0) := hd
    have hwz : ((0 : Int) == (bs.length : Int)) = false := by simp; omega
    have hwn : ¬ ((bs.length : Int) < 0) := by omega
    clear hend hle hd hcz hlf hcnt
    by_cases hr : off % 64 = 0
    · have hr1 : ((off : Int).tmod 64 == 0) = true := by rw [Int.tmod_eq_emod_of_nonneg (by omega)]; simp; omega
      have hr2 : ((off : Int) % 64 == 0) = true := by simp; omega
      clear hr
      go_enter Tryd.func7, Tryd.ntmps7
      go_wp2_with (first | (go_at_call 10; refine (tnew_ok n 1 w hn1 hn2 (by omega) (by omega) HT.out).mono ?_; rintro e w1 ⟨t, q, b, c, rfl, T1, M1, ht, hq, hb, hc⟩; have HT1 := Hid.intro T1; have HM1 := Hid.intro M1; have HQ : Hid (w.heap.size ≤ t ∧ w.heap.size ≤ q ∧ w.heap.size ≤ b ∧ w.heap.size ≤ c) := ⟨ht, hq, hb, hc⟩; clear T1 M1 ht hq hb hc) | (go_at_call 16; refine (talloc_ok HT1.out 33152 0 0 0 fit_reg2 (by omega) (by omega) (by omega) rfl (fun j hj => by omega)).mono ?_; rintro e w2 ⟨rfl, T2, M2⟩; have HT2 := Hid.intro T2; have HM2 : Hid (Mod (fun _ => False) w w2) := Mod.new_of HM1.out M2 (fun k h => by rw [h]; exact HQ.out.2.1); clear T2 M2) | (go_at_call 18; refine (twrite HT2.out 0 off g go cap bs (by omega) (by simp [setN, freshF]) HLp.out HO.out HCp.out.1 HCp.out.2 (HS.out.keep HM2.out (fun h => h)) (by have := HQ.out.2.2.1; have := HGl.out; omega) (by have := HQ.out.2.2.2; have := HGl.out; omega) (by have := HQ.out.2.1; have := HGl.out; omega) m HMm.out).mono ?_; unfold WPost; rw [setN_at', HFIN.out]; simp only [if_pos HD0.out]; rintro e w3 ⟨rfl, T3, M3⟩; have HT3 := Hid.intro T3; have HM3 : Hid (Mod (fun _ => False) w w3) := Mod.new_of HM2.out M3 (fun k h => by rcases h with h | h | h <;> rw [h]; exact HQ.out.2.2.1; exact HQ.out.2.2.2; exact HQ.out.2.1); clear T3 M3) | (go_at_call 21; refine (troom HT3.out).mono ?_; rw [HLf.out]; rintro e w4 ⟨rfl, B4⟩; have HM4 : Hid (Mod (fun _ => False) w w4) := HM3.out.trans (mod_of_below B4); have HTab : Hid (TabIs w4) := HT3.out.S.tab.keep (B4.block 0 HT3.out.S.tab.lt); clear B4) | (go_at_call 8; refine (num_any _ _).mono ?_; rintro e w' ⟨rfl, hw'⟩; rw [hw']; clear hw' w') | (go_at_call 9; refine (awake_true _ HTab.out).mono ?_; rintro e w9 ⟨rfl, M9⟩; have HM9 := Hid.intro M9; clear M9))
      all_goals try (exfalso; omega)
      all_goals go_ret
      all_goals exact ⟨by simp, (HM4.out.trans HM9.out).below0⟩
    · have hr1 : ((off : Int).tmod 64 == 0) = false := by rw [Int.tmod_eq_emod_of_nonneg (by omega)]; simp; omega
      have hr2 : ((off : Int) % 64 == 0) = false := by simp; omega
      have hln' : (lf == (n : Int)) = true := by simp [hln]
      clear hr
      go_enter Tryd.func7, Tryd.ntmps7
      go_wp2_with (first | (go_at_call 10; refine (tnew_ok n 1 w hn1 hn2 (by omega) (by omega) HT.out).mono ?_; rintro e w1 ⟨t, q, b, c, rfl, T1, M1, ht, hq, hb, hc⟩; have HT1 := Hid.intro T1; have HM1 := Hid.intro M1; have HQ : Hid (w.heap.size ≤ t ∧ w.heap.size ≤ q ∧ w.heap.size ≤ b ∧ w.heap.size ≤ c) := ⟨ht, hq, hb, hc⟩; clear T1 M1 ht hq hb hc) | (go_at_call 16; refine (talloc_ok HT1.out 33152 0 0 0 fit_reg2 (by omega) (by omega) (by omega) rfl (fun j hj => by omega)).mono ?_; rintro e w2 ⟨rfl, T2, M2⟩; have HT2 := Hid.intro T2; have HM2 : Hid (Mod (fun _ => False) w w2) := Mod.new_of HM1.out M2 (fun k h => by rw [h]; exact HQ.out.2.1); clear T2 M2) | (go_at_call 18; refine (twrite HT2.out 0 off g go cap bs (by omega) (by simp [setN, freshF]) HLp.out HO.out HCp.out.1 HCp.out.2 (HS.out.keep HM2.out (fun h => h)) (by have := HQ.out.2.2.1; have := HGl.out; omega) (by have := HQ.out.2.2.2; have := HGl.out; omega) (by have := HQ.out.2.1; have := HGl.out; omega) m HMm.out).mono ?_; unfold WPost; rw [setN_at', HFIN.out]; simp only [if_pos HD0.out]; rintro e w3 ⟨rfl, T3, M3⟩; have HT3 := Hid.intro T3; have HM3 : Hid (Mod (fun _ => False) w w3) := Mod.new_of HM2.out M3 (fun k h => by rcases h with h | h | h <;> rw [h]; exact HQ.out.2.2.1; exact HQ.out.2.2.2; exact HQ.out.2.1); clear T3 M3) | (go_at_call 21; refine (troom HT3.out).mono ?_; rw [HLf.out]; rintro e w4 ⟨rfl, B4⟩; have HM4 : Hid (Mod (fun _ => False) w w4) := HM3.out.trans (mod_of_below B4); have HTab : Hid (TabIs w4) := HT3.out.S.tab.keep (B4.block 0 HT3.out.S.tab.lt); clear B4) | (go_at_call 8; refine (num_any _ _).mono ?_; rintro e w' ⟨rfl, hw'⟩; rw [hw']; clear hw' w') | (go_at_call 9; refine (awake_true _ HTab.out).mono ?_; rintro e w9 ⟨rfl, M9⟩; have HM9 := Hid.intro M9; clear M9))
      all_goals try (exfalso; omega)
      all_goals go_ret
      all_goals exact ⟨by simp, (HM4.out.trans HM9.out).below0⟩
  · obtain ⟨dn, hdn⟩ : ∃ dn, dn = FIN.done := ⟨_, rfl⟩
    have HDn : Hid (FIN.done = dn) := hdn.symm
    have HDz : Hid (¬ dn = 0) := by rw [hdn]; exact hd
    have hd0 : ((dn : Int) == 0) = false := by simp; omega
    have hdp : 0 < (dn : Int) := by omega
    have hgt2 : ¬ ((bs.length : Int) < dn) := by omega
    have hdn0 : ¬ ((dn : Int) < 0) := by omega
    by_cases hw : dn = m
    · have heq : ((dn : Int) == (bs.length : Int)) = true := by simp; omega
      clear hend hle hd hlf hcnt hdn hw
      go_enter Tryd.func7, Tryd.ntmps7
      go_wp2_with (first | (go_at_call 10; refine (tnew_ok n 1 w hn1 hn2 (by omega) (by omega) HT.out).mono ?_; rintro e w1 ⟨t, q, b, c, rfl, T1, M1, ht, hq, hb, hc⟩; have HT1 := Hid.intro T1; have HM1 := Hid.intro M1; have HQ : Hid (w.heap.size ≤ t ∧ w.heap.size ≤ q ∧ w.heap.size ≤ b ∧ w.heap.size ≤ c) := ⟨ht, hq, hb, hc⟩; clear T1 M1 ht hq hb hc) | (go_at_call 16; refine (talloc_ok HT1.out 33152 0 0 0 fit_reg2 (by omega) (by omega) (by omega) rfl (fun j hj => by omega)).mono ?_; rintro e w2 ⟨rfl, T2, M2⟩; have HT2 := Hid.intro T2; have HM2 : Hid (Mod (fun _ => False) w w2) := Mod.new_of HM1.out M2 (fun k h => by rw [h]; exact HQ.out.2.1); clear T2 M2) | (go_at_call 18; refine (twrite HT2.out 0 off g go cap bs (by omega) (by simp [setN, freshF]) HLp.out HO.out HCp.out.1 HCp.out.2 (HS.out.keep HM2.out (fun h => h)) (by have := HQ.out.2.2.1; have := HGl.out; omega) (by have := HQ.out.2.2.2; have := HGl.out; omega) (by have := HQ.out.2.1; have := HGl.out; omega) m HMm.out).mono ?_; unfold WPost; rw [setN_at', HFIN.out]; simp only [HDn.out, if_neg HDz.out]; rintro e w3 ⟨rfl, T3, M3⟩; have HT3 := Hid.intro T3; have HM3 : Hid (Mod (fun _ => False) w w3) := Mod.new_of HM2.out M3 (fun k h => by rcases h with h | h | h <;> rw [h]; exact HQ.out.2.2.1; exact HQ.out.2.2.2; exact HQ.out.2.1); clear T3 M3) | (go_at_call 21; refine (troom HT3.out).mono ?_; rw [HLf.out]; rintro e w4 ⟨rfl, B4⟩; have HM4 : Hid (Mod (fun _ => False) w w4) := HM3.out.trans (mod_of_below B4); have HTab : Hid (TabIs w4) := HT3.out.S.tab.keep (B4.block 0 HT3.out.S.tab.lt); clear B4) | (go_at_call 8; refine (num_any _ _).mono ?_; rintro e w' ⟨rfl, hw'⟩; rw [hw']; clear hw' w') | (go_at_call 9; refine (awake_true _ HTab.out).mono ?_; rintro e w9 ⟨rfl, M9⟩; have HM9 := Hid.intro M9; clear M9))
      all_goals try (exfalso; omega)
      all_goals go_ret
      all_goals exact ⟨by simp, (HM4.out.trans HM9.out).below0⟩
    · have heq : ((dn : Int) == (bs.length : Int)) = false := by simp; omega
      have hl2 : lf ≤ 2 := by rcases hend with h | h; omega; rw [hlf]; omega
      have hrr : (off + dn) % 64 = 0 := by rcases hend with h | h; omega; rw [hdn]; exact h.2.2 (by omega)
      have hr1 : (((off : Int) + dn).tmod 64 == 0) = true := by rw [Int.tmod_eq_emod_of_nonneg (by omega)]; simp; omega
      have hr2 : (((off : Int) + dn) % 64 == 0) = true := by simp; omega
      clear hend hle hd hlf hcnt hdn hw hrr
      go_enter Tryd.func7, Tryd.ntmps7
      go_wp2_with (first | (go_at_call 10; refine (tnew_ok n 1 w hn1 hn2 (by omega) (by omega) HT.out).mono ?_; rintro e w1 ⟨t, q, b, c, rfl, T1, M1, ht, hq, hb, hc⟩; have HT1 := Hid.intro T1; have HM1 := Hid.intro M1; have HQ : Hid (w.heap.size ≤ t ∧ w.heap.size ≤ q ∧ w.heap.size ≤ b ∧ w.heap.size ≤ c) := ⟨ht, hq, hb, hc⟩; clear T1 M1 ht hq hb hc) | (go_at_call 16; refine (talloc_ok HT1.out 33152 0 0 0 fit_reg2 (by omega) (by omega) (by omega) rfl (fun j hj => by omega)).mono ?_; rintro e w2 ⟨rfl, T2, M2⟩; have HT2 := Hid.intro T2; have HM2 : Hid (Mod (fun _ => False) w w2) := Mod.new_of HM1.out M2 (fun k h => by rw [h]; exact HQ.out.2.1); clear T2 M2) | (go_at_call 18; refine (twrite HT2.out 0 off g go cap bs (by omega) (by simp [setN, freshF]) HLp.out HO.out HCp.out.1 HCp.out.2 (HS.out.keep HM2.out (fun h => h)) (by have := HQ.out.2.2.1; have := HGl.out; omega) (by have := HQ.out.2.2.2; have := HGl.out; omega) (by have := HQ.out.2.1; have := HGl.out; omega) m HMm.out).mono ?_; unfold WPost; rw [setN_at', HFIN.out]; simp only [HDn.out, if_neg HDz.out]; rintro e w3 ⟨rfl, T3, M3⟩; have HT3 := Hid.intro T3; have HM3 : Hid (Mod (fun _ => False) w w3) := Mod.new_of HM2.out M3 (fun k h => by rcases h with h | h | h <;> rw [h]; exact HQ.out.2.2.1; exact HQ.out.2.2.2; exact HQ.out.2.1); clear T3 M3) | (go_at_call 21; refine (troom HT3.out).mono ?_; rw [HLf.out]; rintro e w4 ⟨rfl, B4⟩; have HM4 : Hid (Mod (fun _ => False) w w4) := HM3.out.trans (mod_of_below B4); have HTab : Hid (TabIs w4) := HT3.out.S.tab.keep (B4.block 0 HT3.out.S.tab.lt); clear B4) | (go_at_call 8; refine (num_any _ _).mono ?_; rintro e w' ⟨rfl, hw'⟩; rw [hw']; clear hw' w') | (go_at_call 9; refine (awake_true _ HTab.out).mono ?_; rintro e w9 ⟨rfl, M9⟩; have HM9 := Hid.intro M9; clear M9))
      all_goals try (exfalso; omega)
      all_goals go_ret
      all_goals exact ⟨by simp, (HM4.out.trans HM9.out).below0⟩
end Go.Proofs.YtgplmgliockbcaaDoor
