/- Several texts of this claim, one behind the other, in their order. -/
import Derived.Test.YtgkkbplecfhmdaaGreatDoorM20
import Derived.Test.YtgkkbplecfhmdaaGreatDoorM22
import Derived.Test.YtgkkbplecfhmdaaGreatDoorM19
import Derived.Deep.RegionHeld
/- The calls Find, Add and Init of a directory. Conditions: the table lies in memory as 'Tb' says; what Stat tells; the name is of ASCII. -/
namespace Go.Proofs.YtgkkbplecfhmdaaGreatDoor
open Go.RowKit
section
variable {w : World} {t q b c n N : Nat} {clk : Int} {F : Nat → Nat → Int} {R : Nat → Nat → Nat} {u : Nat → Bool} {D : Nat → Nat}
set_option maxRecDepth 100000 in
set_option maxHeartbeats 2000000 in
theorem dFind (T : Tb w t q b c n N clk F R u D) (i sz k : Nat) (l : List UInt8) (hi : i < N) (hz : F i 0 ≠ 0) (hs : F i 5 = (sz : Int)) (hsz : 0 < sz) (hS : ∀ W, Mod (fun _ => False) w W → StatOf F t i W) (hd : (bits .and .i64 (F i 0) 61440 == 16384) = true) (hl : l.length < 4294967281) (ha : ∀ x ∈ l, x.toNat < 128)
    (hc : chk l = 0) (hf : (tks (rd u D (R i)) sz).find? (has (rd u D (R i)) l) = some k) :
    Calls Tryz.prog 109 #[.pointer (some ⟨t, 0, none⟩), .int .i64 ((i : Int) + 1), .string ⟨l.toArray⟩] w fun e w' => e = .returned (.tuple #[.int .i64 (le4 (slotD (rd u D (R i)) k) 0 : Nat), .int .i64 0]) ∧ Mod (fun _ => False) w w' := by
  have HR := (show Hid (Calls _ _ _ _ _) from sReadFor T i sz l hi hz hs hsz hS hd hl ha)
  have hz' := zvSl
  have HF := (show Hid (fRes (rd u D (R i)) sz l = .tuple #[.int .i64 k, .agg (slotV (rd u D (R i)) k).toArray, .int .i64 0]) from by show _ = _; rw [fRes, hf])
  generalize rd u D (R i) = D' at *
  rw [hc] at HR
  clear T hS hz hs hf hc
  go_enter Tryz.func109, Tryz.ntmps109
  go_wp2_with fail
  refine Calls.mono (show Calls _ _ _ _ _ from HR.out) ?_
  rintro e w1 ⟨g, rfl, HC, HM⟩
  have HSl : Hid (Slot (slotV D' k) (slotD D' k)) := slotV_slot D' HC.lt k
  have HC' : Hid (Cont w1 (some ⟨g, 0, none⟩) sz sz D') := HC
  have HM' : Hid (Mod (fun _ => False) w w1) := HM
  clear HC HM
  go_wp2_with fail
  refine (sFind _ _ _ D' l _ HC'.out).mono ?_
  rw [HF.out]
  rintro e w2 ⟨HB, rfl⟩
  have HM2 : Hid (Mod (fun _ => False) w w2) := HM'.out.trans (mod_of_below0 HB)
  clear HB
  have HTh := (show Hid _ from there_slot w2 (slotV D' k) HSl.out)
  have HRg : Hid ((w2.alloc (.cells (slotV D' k).toArray 184)).rangeAt w2.heap.size 0 (slotV D' k)) := range_new w2 _ _
  go_wp2_with (first | (refine wpList_store_mid rfl 184 _ _ rfl w2.heap.size 0 (slotV D' k).toArray rfl rfl HTh.out HSl.out.infA (all_oneCell_toArray HSl.out.one) ?_; rw [set_slot w2 _ HSl.out]) | (refine wpList_load_mid rfl 184 _ rfl w2.heap.size 0 rfl (slotV D' k) _ HRg.out undS rfl HSl.out.inf ?_) | (go_at_call 112; refine (sIno _ _ _ HSl.out).mono ?_; rintro e w3 ⟨rfl, HB3⟩))
  go_ret2
  exact ⟨rfl, (HM2.out.alloc _).trans (mod_of_below0 HB3)⟩
theorem built_slots {C : Array Value} {Ls : List (List Value)} {ss : List (Nat → Nat)} (w : World) (hB : Built C Ls) (hl : Ls.length = ss.length) (hs : ∀ (k : Nat) L s, Ls[k]? = some L → ss[k]? = some s → Slot L s) : Slots (w.alloc (.cells C 184)) w.heap.size 0 ss := by
  refine ⟨fun s h => ?_, fun k s hk j hj => ?_⟩
  · obtain ⟨k, hk, rfl⟩ := List.getElem_of_mem h
    exact (hs k Ls[k] ss[k] (List.getElem?_eq_getElem (by omega)) (List.getElem?_eq_getElem hk)).lt
  · have hk' := (List.getElem?_eq_some_iff.1 hk).1
    have hL := List.getElem?_eq_getElem (l := Ls) (i := k) (by omega)
    rw [World.cell?_alloc_at _ _ _ _ rfl, show 0 + k * 32 + j = k * 32 + j by omega, hB.2 k _ hL j hj]
    exact (hs k _ s hL hk).at_ j hj
theorem sWrite2 (T : Tb w t q b c n N clk F R u D) (i g : Nat) (s1 s2 : Nat → Nat) (hi : i < N) (hz : F i 0 ≠ 0) (hss : Slots w g 0 [s1, s2]) (hgl : g < w.heap.size) (st : WS) (hst : st = wrun n 0 (sBytes [s1, s2]) 64 ⟨0, u, D, R i⟩)
    (rc : Int) (hrc : rc = if st.done = 0 then 28 else 0) (F' : Nat → Nat → Int) (hF' : F' = if st.done = 0 then F else upd2 (upd2 (upd2 F i 5 (max (F i 5) ((0 : Int) + st.done))) i 7 clk) i 8 clk) :
    Calls Tryz.prog 124 #[.pointer (some ⟨t, 0, none⟩), .int .i64 ((i : Int) + 1), .int .i64 0, .slice (some ⟨g, 0, none⟩) 2 2] w fun e w' =>
      e = .returned (.int .i64 rc) ∧ Mod (fun k => k = b ∨ k = c ∨ k = q) w w' ∧ Tb w' t q b c n N clk F' (setN R i st.R) st.u st.D := by
  obtain ⟨bs, hbs⟩ : ∃ bs, bs = sBytes [s1, s2] := ⟨_, rfl⟩
  have hl : bs.length = 64 := by rw [hbs, sBytes_len]; rfl
  rw [← hbs] at hst
  have h := sWrite T i 0 g 0 2 [s1, s2] hi hz (by simp) (by simp) (by omega) hss hgl 64 (by simp) st (by
    rw [← hbs, List.take_of_length_le (by omega), hl, hst, Nat.zero_mul]) rc hrc F' (by rw [hF', Nat.zero_mul]; rfl)
  exact h
set_option maxRecDepth 100000 in
set_option maxHeartbeats 2000000 in
theorem dInit (T : Tb w t q b c n N clk F R u D) (i j : Nat) (hi : i < N) (hj : j < N) (hz : F i 0 ≠ 0) (hzj : F j 0 ≠ 0) (hs : F i 5 = 0) (hS : ∀ W, Mod (fun _ => False) w W → StatOf F t i W) (hd : (bits .and .i64 (F i 0) 61440 == 16384) = true) (hN : N ≤ 4096)
    (st : WS) (hst : st = wrun n 0 (sBytes [nslot [46] (i + 1), nslot [46, 46] (j + 1)]) 64 ⟨0, u, D, R i⟩) (rc : Int) (hrc : rc = if st.done = 0 then 28 else 0) (F' : Nat → Nat → Int) (hF' : F' = if st.done = 0 then F else upd2 (upd2 (upd2 F i 5 (max (F i 5) ((0 : Int) + st.done))) i 7 clk) i 8 clk) :
    Calls Tryz.prog 75 #[.pointer (some ⟨t, 0, none⟩), .int .i64 ((i : Int) + 1), .int .i64 ((j : Int) + 1)] w fun e w' => e = .returned (.int .i64 rc) ∧ Mod (fun k => k = b ∨ k = c ∨ k = q) w w' ∧ Tb w' t q b c n N clk F' (setN R i st.R) st.u st.D := by
  have HT : Hid (Tb w t q b c n N clk F R u D) := T
  have HS := (show Hid (∀ W, Mod (fun _ => False) w W → StatOf F t i W) from hS)
  have HZ := (show Hid (F i 0 ≠ 0 ∧ F j 0 ≠ 0) from ⟨hz, hzj⟩)
  have hz0 := zvSl
  have HW := (show Hid (∀ W g, Mod (fun _ => False) w W → Slots W g 0 [nslot [46] (i + 1), nslot [46, 46] (j + 1)] → g < W.heap.size → Calls Tryz.prog 124 #[.pointer (some ⟨t, 0, none⟩), .int .i64 ((i : Int) + 1), .int .i64 0, .slice (some ⟨g, 0, none⟩) 2 2] W fun e w' => e = .returned (.int .i64 rc) ∧ Mod (fun k => k = b ∨ k = c ∨ k = q) W w' ∧ Tb w' t q b c n N clk F' (setN R i st.R) st.u st.D) from fun W g hM hSl hg =>
    sWrite2 (T.new hM) i g _ _ hi hz hSl hg st hst rc hrc F' hF')
  clear T hS hz hzj hst hrc hF'
  go_enter Tryz.func75, Tryz.ntmps75
  go_wp2_with fail
  refine (sLook F t i _ (fun o => HS.out _ ((Mod.refl _ w).alloc o)) hd).mono ?_
  rintro e w1 ⟨⟨bl, rfl⟩, HM⟩
  have HM1 : Hid (∀ o, Mod (fun _ => False) w (w1.alloc o)) := fun o => HM.alloc o
  clear HM
  unfold statW
  rw [hs]
  go_wp2_with (go_at_call 123; refine (tis_yes (HT.out.new (HM1.out _)) j hj HZ.out.2).mono ?_; rintro e w2 ⟨rfl, hw2⟩; rw [hw2]; clear hw2 w2)
  refine (show Calls Tryz.prog 125 #[.string ⟨[46].toArray⟩, .int .i64 ((i : Int) + 1)] _ _ from ?_)
  refine (sNew [46] (i + 1) _ (by simp) (by omega)).mono ?_
  rintro e w2 ⟨⟨L1, rfl, hS1⟩, HB1⟩
  have HS1 : Hid (Slot L1 (nslot [46] (i + 1))) := hS1
  have HM2 : Hid (Mod (fun _ => False) w w2) := (HM1.out _).trans (mod_of_below0 HB1)
  clear hS1 HB1
  go_wp2_with fail
  refine (show Calls Tryz.prog 125 #[.string ⟨[46, 46].toArray⟩, .int .i64 ((j : Int) + 1)] _ _ from ?_)
  refine (sNew [46, 46] (j + 1) _ (by simp) (by omega)).mono ?_
  rintro e w3 ⟨⟨L2, rfl, hS2⟩, HB2⟩
  have HS2 : Hid (Slot L2 (nslot [46, 46] (j + 1))) := hS2
  have HM3 : Hid (Mod (fun _ => False) w w3) := HM2.out.trans (mod_of_below0 HB2)
  clear hS2 HB2
  obtain ⟨C, hBu, hrun⟩ := build2 L1 L2 HS1.out.len HS2.out.len w3
  have HRu := (show Hid _ from hrun)
  have HSl : Hid (Slots (w3.alloc (.cells C 184)) w3.heap.size 0 [nslot [46] (i + 1), nslot [46, 46] (j + 1)]) := built_slots w3 hBu rfl (fun k L s hL hs => by
    match k, hL, hs with
    | 0, hL, hs => cases hL; cases hs; exact HS1.out
    | 1, hL, hs => cases hL; cases hs; exact HS2.out)
  have HM4 : Hid (Mod (fun _ => False) w (w3.alloc (.cells C 184))) := HM3.out.alloc _
  clear hBu hrun
  go_wp2_with (refine wpList_buildSlice rfl 240 2 #[(0, .tmp 31), (1, .tmp 33)] rfl #[(0, .agg L1.toArray), (1, .agg L2.toArray)] (by simp [Act.eval]) _ HRu.out ?_)
  refine Calls.mono (show Calls _ _ _ _ _ from HW.out _ w3.heap.size HM4.out HSl.out (by simp)) ?_
  rintro e w5 ⟨rfl, hM5, hT5⟩
  have HE : Hid (Mod (fun k => k = b ∨ k = c ∨ k = q) w w5 ∧ Tb w5 t q b c n N clk F' (setN R i st.R) st.u st.D) := ⟨mod_join HM4.out hM5, hT5⟩
  clear hM5 hT5
  go_wp2
  go_ret
  exact ⟨rfl, HE.out⟩
theorem sWrite1 (T : Tb w t q b c n N clk F R u D) (i k g : Nat) (s1 : Nat → Nat) (hi : i < N) (hz : F i 0 ≠ 0) (hk : k * 32 + 32 ≤ 17792) (hss : Slots w g 0 [s1]) (hgl : g < w.heap.size) (st : WS) (hst : st = wrun n (k * 32) (sBytes [s1]) 32 ⟨0, u, D, R i⟩)
    (rc : Int) (hrc : rc = if st.done = 0 then 28 else 0) (F' : Nat → Nat → Int) (hF' : F' = if st.done = 0 then F else upd2 (upd2 (upd2 F i 5 (max (F i 5) (((k * 32 : Nat) : Int) + st.done))) i 7 clk) i 8 clk) :
    Calls Tryz.prog 124 #[.pointer (some ⟨t, 0, none⟩), .int .i64 ((i : Int) + 1), .int .i64 (k : Nat), .slice (some ⟨g, 0, none⟩) 1 1] w fun e w' =>
      e = .returned (.int .i64 rc) ∧ Mod (fun k => k = b ∨ k = c ∨ k = q) w w' ∧ Tb w' t q b c n N clk F' (setN R i st.R) st.u st.D := by
  obtain ⟨bs, hbs⟩ : ∃ bs, bs = sBytes [s1] := ⟨_, rfl⟩
  have hl : bs.length = 32 := by rw [hbs, sBytes_len]; rfl
  rw [← hbs] at hst
  have h := sWrite T i k g 0 1 [s1] hi hz (by simp) (by simp) (by omega) hss hgl 32 (by simp; omega) st (by
    rw [← hbs, List.take_of_length_le (by omega), hl, hst]) rc hrc F' hF'
  exact h
set_option maxRecDepth 100000 in
set_option maxHeartbeats 2000000 in
theorem dAdd (T : Tb w t q b c n N clk F R u D) (i j sz : Nat) (l : List UInt8) (hi : i < N) (hj : j < N) (hz : F i 0 ≠ 0) (hzj : F j 0 ≠ 0) (hs : F i 5 = (sz : Int)) (hsz : 0 < sz) (hS : ∀ W, Mod (fun _ => False) w W → StatOf F t i W) (hd : (bits .and .i64 (F i 0) 61440 == 16384) = true) (hN : N ≤ 4096) (hll : l.length ≤ 27) (ha : ∀ x ∈ l, x.toNat < 128)
    (hc : chk l = 0) (hf : (tks (rd u D (R i)) sz).find? (has (rd u D (R i)) l) = none) (k : Nat) (hk : k = roomR (rd u D (R i)) sz) (hk2 : k * 32 + 32 ≤ 17792)
    (st : WS) (hst : st = wrun n (k * 32) (sBytes [nslot l (j + 1)]) 32 ⟨0, u, D, R i⟩) (rc : Int) (hrc : rc = if st.done = 0 then 28 else 0) (F' : Nat → Nat → Int) (hF' : F' = if st.done = 0 then F else upd2 (upd2 (upd2 F i 5 (max (F i 5) (((k * 32 : Nat) : Int) + st.done))) i 7 clk) i 8 clk) :
    Calls Tryz.prog 76 #[.pointer (some ⟨t, 0, none⟩), .int .i64 ((i : Int) + 1), .string ⟨l.toArray⟩, .int .i64 ((j : Int) + 1)] w fun e w' => e = .returned (.int .i64 rc) ∧ Mod (fun k => k = b ∨ k = c ∨ k = q) w w' ∧ Tb w' t q b c n N clk F' (setN R i st.R) st.u st.D := by
  have HR := (show Hid (Calls _ _ _ _ _) from sReadFor T i sz l hi hz hs hsz hS hd (by omega) ha)
  have HT : Hid (Tb w t q b c n N clk F R u D) := T
  have hz0 := zvSl
  have HF := (show Hid (fRes (rd u D (R i)) sz l = .tuple #[.int .i64 0, .agg zeroSl.toList.toArray, .int .i64 2]) from by show _ = _; rw [fRes, hf])
  have HW := (show Hid (∀ W g, Mod (fun _ => False) w W → Slots W g 0 [nslot l (j + 1)] → g < W.heap.size → Calls Tryz.prog 124 #[.pointer (some ⟨t, 0, none⟩), .int .i64 ((i : Int) + 1), .int .i64 (k : Nat), .slice (some ⟨g, 0, none⟩) 1 1] W fun e w' => e = .returned (.int .i64 rc) ∧ Mod (fun k => k = b ∨ k = c ∨ k = q) W w' ∧ Tb w' t q b c n N clk F' (setN R i st.R) st.u st.D) from fun W g hM hSl hg =>
    sWrite1 (T.new hM) i k g _ hi hz hk2 hSl hg st hst rc hrc F' hF')
  have HZ := (show Hid (F j 0 ≠ 0) from hzj)
  obtain ⟨D', hD'⟩ : ∃ D', D' = rd u D (R i) := ⟨_, rfl⟩
  rw [← hD'] at HR HF hk
  have HK := (show Hid (k = roomR D' sz) from hk)
  rw [hc] at HR
  clear T hS hz hs hf hc hst hrc hF' hD' hk hzj
  go_enter Tryz.func76, Tryz.ntmps76
  go_wp2_with fail
  refine Calls.mono (show Calls _ _ _ _ _ from HR.out) ?_
  rintro e w1 ⟨g, rfl, HC, HM⟩
  have HC' : Hid (Cont w1 (some ⟨g, 0, none⟩) sz sz D') := HC
  have HM' : Hid (Mod (fun _ => False) w w1) := HM
  clear HC HM
  go_wp2_with (go_at_call 123; refine (tis_yes (HT.out.new HM'.out) j hj HZ.out).mono ?_; rintro e w2 ⟨rfl, hw2⟩; rw [hw2]; clear hw2 w2)
  refine (sFind _ _ _ D' l _ HC'.out).mono ?_
  rw [HF.out]
  rintro e w2 ⟨HB, rfl⟩
  have HM2 : Hid (Mod (fun _ => False) w w2) := HM'.out.trans (mod_of_below0 HB)
  have HC2 : Hid (Cont (w2.alloc (.cells zeroSl.toList.toArray 184)) (some ⟨g, 0, none⟩) sz sz D') := HC'.out.keep (own := fun _ => False) (KC.of_below (HB.alloc HB.size _)) (fun _ _ h => h)
  clear HB
  have HTh := (show Hid _ from there_slot w2 zeroSl.toList zeroSl_slot)
  go_wp2_with (refine wpList_store_mid rfl 184 _ _ rfl w2.heap.size 0 zeroSl.toList.toArray rfl rfl HTh.out zeroSl_slot.infA (all_oneCell_toArray zeroSl_slot.one) ?_; rw [set_slot w2 _ zeroSl_slot])
  refine (sRoom _ _ _ D' _ HC2.out).mono ?_
  rw [← HK.out]
  rintro e w3 ⟨HB3, rfl⟩
  have HM3 : Hid (Mod (fun _ => False) w w3) := (HM2.out.alloc _).trans (mod_of_below0 HB3)
  clear HB3
  go_wp2_with fail
  refine (sNew l (j + 1) _ (by omega) (by omega)).mono ?_
  rintro e w4 ⟨⟨L1, rfl, hS1⟩, HB1⟩
  have HS1 : Hid (Slot L1 (nslot l (j + 1))) := hS1
  have HM4 : Hid (∀ o, Mod (fun _ => False) w (w4.alloc o)) := fun o => (HM3.out.trans (mod_of_below0 HB1)).alloc o
  clear hS1 HB1
  obtain ⟨C, hBu, hrun⟩ := build1 L1 HS1.out.len w4
  have HRu := (show Hid _ from hrun)
  have HSl : Hid (Slots (w4.alloc (.cells C 184)) w4.heap.size 0 [nslot l (j + 1)]) := built_slots w4 hBu rfl (fun k L s hL hs => by
    match k, hL, hs with
    | 0, hL, hs => cases hL; cases hs; exact HS1.out)
  clear hBu hrun
  go_wp2_with (refine wpList_buildSlice rfl 240 1 #[(0, .tmp 43)] rfl #[(0, .agg L1.toArray)] (by simp [Act.eval]) _ HRu.out ?_)
  refine Calls.mono (show Calls _ _ _ _ _ from HW.out _ w4.heap.size (HM4.out _) HSl.out (by simp)) ?_
  rintro e w5 ⟨rfl, hM5, hT5⟩
  have HE : Hid (Mod (fun k => k = b ∨ k = c ∨ k = q) w w5 ∧ Tb w5 t q b c n N clk F' (setN R i st.R) st.u st.D) := ⟨mod_join (HM4.out _) hM5, hT5⟩
  clear hM5 hT5
  go_wp2
  go_ret
  exact ⟨rfl, HE.out⟩
end
end Go.Proofs.YtgkkbplecfhmdaaGreatDoor
/- Plain facts on a write inside one place, and Find of a name that is not there. Conditions: the table lies in memory as 'Tb' says; what Stat tells; the name is of ASCII. -/
namespace Go.Proofs.YtgkkbplecfhmdaaGreatDoor
open Go.RowKit
/-- The lowest m blocks are in use. -/
def uK (m : Nat) : Nat → Bool := fun j => decide (j < m)
theorem uK_low (m n : Nat) (h : m < n) : low (uK m) n = some m := by
  unfold low
  rw [List.find?_range_eq_some]
  refine ⟨by simp [uK], by simpa using h, fun j hj => by simp [uK, hj]⟩
theorem uK_up (m : Nat) : upd (uK m) m true = uK (m + 1) := by
  funext j
  unfold upd uK
  by_cases h : j = m
  · rw [if_pos h]; simp; omega
  · rw [if_neg h, decide_eq_decide]; omega
theorem wrun_fin (n off : Nat) (bs : List Nat) (f : Nat) (s : WS) (h : ¬ s.done < bs.length) : wrun n off bs f s = s := by
  cases f with
  | zero => rfl
  | succ f => rw [wrun, if_neg h]
theorem lv_low {k : Nat} (h : k < 6) : lv k = 0 ∧ rt k = k := by unfold lv rt; rw [if_pos h, if_pos h]; exact ⟨rfl, rfl⟩
theorem wrun_old (n off : Nat) (bs : List Nat) (f : Nat) (m : Nat) (D : Nat → Nat) (R : Nat → Nat) (hk : off / 64 < 6) (h0 : 0 < bs.length) (h1 : bs.length + off % 64 ≤ 64) (hr : R (off / 64) ≠ 0) (hu : R (off / 64) ≤ m) :
    wrun n off bs (f + 1) ⟨0, uK m, D, R⟩ = ⟨bs.length, uK m, over D ((R (off / 64) - 1) * 64 + off % 64) bs, R⟩ := by
  obtain ⟨e1, e2⟩ := lv_low hk
  have hu' : uK m (R (off / 64) - 1) = true := by simp [uK]; omega
  rw [wrun, if_pos (by simpa using h0)]
  simp only [Nat.add_zero, tkAt, e1, e2, tk, if_pos hr]
  rw [wrun_fin _ _ _ _ _ (by simp only [Nat.zero_add]; omega)]
  have em : min (bs.length - 0) (64 - off % 64) = bs.length := by omega
  rw [em, Nat.zero_add, List.drop_zero, List.take_length, wrt, if_pos ⟨hr, hu'⟩]
  congr 1
  funext j
  unfold upd
  by_cases h : j = off / 64
  · rw [if_pos h, h]
  · rw [if_neg h]
theorem wrun_new (n off : Nat) (bs : List Nat) (f : Nat) (m : Nat) (D : Nat → Nat) (R : Nat → Nat) (hk : off / 64 < 6) (h0 : 0 < bs.length) (h1 : bs.length + off % 64 ≤ 64) (hr : R (off / 64) = 0) (hm : m < n) :
    wrun n off bs (f + 1) ⟨0, uK m, D, R⟩ = ⟨bs.length, uK (m + 1), over D (m * 64 + off % 64) bs, upd R (off / 64) (m + 1)⟩ := by
  obtain ⟨e1, e2⟩ := lv_low hk
  have hu' : uK (m + 1) (m + 1 - 1) = true := by simp [uK]
  rw [wrun, if_pos (by simpa using h0)]
  simp only [Nat.add_zero, tkAt, e1, e2, tk, hr, ne_eq, not_true, if_false, uK_low m n hm, Option.map_some, uK_up]
  rw [wrun_fin _ _ _ _ _ (by simp only [Nat.zero_add]; omega)]
  have em : min (bs.length - 0) (64 - off % 64) = bs.length := by omega
  rw [em, Nat.zero_add, List.drop_zero, List.take_length, wrt, if_pos ⟨by omega, hu'⟩, Nat.add_sub_cancel]
section
variable {w : World} {t q b c n N : Nat} {clk : Int} {F : Nat → Nat → Int} {R : Nat → Nat → Nat} {u : Nat → Bool} {D : Nat → Nat}
set_option maxRecDepth 100000 in
set_option maxHeartbeats 2000000 in
theorem dFind0 (T : Tb w t q b c n N clk F R u D) (i sz : Nat) (l : List UInt8) (hi : i < N) (hz : F i 0 ≠ 0) (hs : F i 5 = (sz : Int)) (hsz : 0 < sz) (hS : ∀ W, Mod (fun _ => False) w W → StatOf F t i W) (hd : (bits .and .i64 (F i 0) 61440 == 16384) = true) (hl : l.length < 4294967281) (ha : ∀ x ∈ l, x.toNat < 128)
    (hc : chk l = 0) (hf : (tks (rd u D (R i)) sz).find? (has (rd u D (R i)) l) = none) :
    Calls Tryz.prog 109 #[.pointer (some ⟨t, 0, none⟩), .int .i64 ((i : Int) + 1), .string ⟨l.toArray⟩] w fun e w' => e = .returned (.tuple #[.int .i64 0, .int .i64 2]) ∧ Mod (fun _ => False) w w' := by
  have HR := (show Hid (Calls _ _ _ _ _) from sReadFor T i sz l hi hz hs hsz hS hd hl ha)
  have hz' := zvSl
  have HF := (show Hid (fRes (rd u D (R i)) sz l = .tuple #[.int .i64 0, .agg zeroSl.toList.toArray, .int .i64 2]) from by show _ = _; rw [fRes, hf])
  generalize rd u D (R i) = D' at *
  rw [hc] at HR
  clear T hS hz hs hf hc
  go_enter Tryz.func109, Tryz.ntmps109
  go_wp2_with fail
  refine Calls.mono (show Calls _ _ _ _ _ from HR.out) ?_
  rintro e w1 ⟨g, rfl, HC, HM⟩
  have HC' : Hid (Cont w1 (some ⟨g, 0, none⟩) sz sz D') := HC
  have HM' : Hid (Mod (fun _ => False) w w1) := HM
  clear HC HM
  go_wp2_with fail
  refine (sFind _ _ _ D' l _ HC'.out).mono ?_
  rw [HF.out]
  rintro e w2 ⟨HB, rfl⟩
  have HM2 : Hid (Mod (fun _ => False) w w2) := HM'.out.trans (mod_of_below0 HB)
  clear HB
  have HTh := (show Hid _ from there_slot w2 zeroSl.toList zeroSl_slot)
  have HRg : Hid ((w2.alloc (.cells zeroSl.toList.toArray 184)).rangeAt w2.heap.size 0 zeroSl.toList) := range_new w2 _ _
  go_wp2_with (first | (refine wpList_store_mid rfl 184 _ _ rfl w2.heap.size 0 zeroSl.toList.toArray rfl rfl HTh.out zeroSl_slot.infA (all_oneCell_toArray zeroSl_slot.one) ?_; rw [set_slot w2 _ zeroSl_slot]) | (refine wpList_load_mid rfl 184 _ rfl w2.heap.size 0 rfl zeroSl.toList _ HRg.out undS rfl zeroSl_slot.inf ?_) | (go_at_call 112; refine (sIno _ _ _ zeroSl_slot).mono ?_; rintro e w3 ⟨rfl, HB3⟩))
  go_ret2
  exact ⟨rfl, (HM2.out.alloc _).trans (mod_of_below0 HB3)⟩
end
end Go.Proofs.YtgkkbplecfhmdaaGreatDoor
/- What Stat tells. Condition: the table lies in memory as 'Tb' says. -/
namespace Go.Proofs.YtgkkbplecfhmdaaGreatDoor
open Go.RowKit
def SeeN (F : Nat → Nat → Int) (q i : Nat) (W : World) : Prop :=
  W.cell? ⟨q, i * 17 + 3, none⟩ = some (.int .i64 (F i 3)) ∧ W.cell? ⟨q, i * 17 + 1, none⟩ = some (.int .i64 (F i 1)) ∧ W.cell? ⟨q, i * 17 + 2, none⟩ = some (.int .i64 (F i 2)) ∧ W.cell? ⟨q, i * 17 + 5, none⟩ = some (.int .i64 (F i 5)) ∧
    W.cell? ⟨q, i * 17, none⟩ = some (.int .i64 (F i 0)) ∧ W.cell? ⟨q, i * 17 + 6, none⟩ = some (.int .i64 (F i 6)) ∧ W.cell? ⟨q, i * 17 + 7, none⟩ = some (.int .i64 (F i 7)) ∧ W.cell? ⟨q, i * 17 + 8, none⟩ = some (.int .i64 (F i 8))
theorem ret_stat {W : World} {B : Nat} {L : List Value} (h : W.rangeAt B 0 L) (hl : L.length = 10) (tmps : Array Value) (h4 : tmps[4]?.getD undef = .pointer (some ⟨B, 0, none⟩)) (h5 : tmps[5]?.getD undef = .int .i64 0) :
    (results Tryz.f84 tmps).run Tryz.prog W = .ok (.tuple #[.agg L.toArray, .int .i64 0]) W := by
  have h2 := run_loadVar_mid (P := Tryz.prog) W B 0 45 L _ h Tryz.underlying45 rfl (by rw [hl]; exact infSt)
  unfold results
  rw [Tryz.results84]
  simp [h4, h5, asAddr, Result.andThen, h2]
theorem row_slice {w : World} {B e n : Nat} {v : Value} {xs : List Value} (h : w.ownsRow B e 1 v n xs) : ∃ a c, v = .slice a n c := by
  rcases h.2 with ⟨rfl, rfl⟩ | ⟨g, cap, cur, rfl, _⟩
  · exact ⟨_, _, rfl⟩
  · exact ⟨_, _, rfl⟩
section
variable {w : World} {t q b c n N : Nat} {clk : Int} {F : Nat → Nat → Int} {R : Nat → Nat → Nat} {u : Nat → Bool} {D : Nat → Nat}
theorem Tb.see (T : Tb w t q b c n N clk F R u D) {i : Nat} (hi : i < N) : SeeN F q i w :=
  ⟨T.cf i 3 hi (by omega), T.cf i 1 hi (by omega), T.cf i 2 hi (by omega), T.cf i 5 hi (by omega), T.cf i 0 hi (by omega), T.cf i 6 hi (by omega), T.cf i 7 hi (by omega), T.cf i 8 hi (by omega)⟩
set_option maxRecDepth 100000 in
set_option maxHeartbeats 4000000 in
theorem tstat (T : Tb w t q b c n N clk F R u D) (i : Nat) (hi : i < N) (hz : F i 0 ≠ 0) : StatOf F t i w := by
  have HT : Hid (Tb w t q b c n N clk F R u D) := T
  have HZ : Hid (F i 0 ≠ 0) := hz
  have HM0 : Hid (∀ o, Mod (fun _ => False) w ((w.alloc o).drewN 1)) := fun o => ((Mod.refl _ w).alloc o).drewN 1
  have HLt : Hid (w.heap.size < ((w.alloc (.cells #[.int .i64 0, .int .i64 0, .int .i64 0, .int .i64 0, .int .i64 0, .int .i64 0, .int .i64 0, .int .i64 0, .int .i64 0, .int .i64 0] 45)).drewN 1).heap.size) := by show w.heap.size < (w.alloc _).heap.size; simp
  have HK0 : Hid (∀ j, j < 10 → ((w.alloc (.cells #[.int .i64 0, .int .i64 0, .int .i64 0, .int .i64 0, .int .i64 0, .int .i64 0, .int .i64 0, .int .i64 0, .int .i64 0, .int .i64 0] 45)).drewN 1).cell? ⟨w.heap.size, j, none⟩ = some (.int .i64 0)) := fun j hj => by
    show (w.alloc _).cell? _ = _
    rw [World.cell?_alloc_at _ _ _ _ rfl]
    obtain rfl | rfl | rfl | rfl | rfl | rfl | rfl | rfl | rfl | rfl : j = 0 ∨ j = 1 ∨ j = 2 ∨ j = 3 ∨ j = 4 ∨ j = 5 ∨ j = 6 ∨ j = 7 ∨ j = 8 ∨ j = 9 := by omega
    all_goals rfl
  have HKf : Hid (∀ o, ((w.alloc (.cells #[.int .i64 0, .int .i64 0, .int .i64 0, .int .i64 0, .int .i64 0, .int .i64 0, .int .i64 0, .int .i64 0, .int .i64 0, .int .i64 0] 45)).drewN 1).frozen? ⟨w.heap.size, o, none⟩ = false) := fun o => World.frozen?_alloc_at _ _ _ _ rfl
  have hqw := T.lt_q
  have hcq : ∀ (W : World) (o x : Nat) (v : Value), (W.setCell ⟨w.heap.size, o, none⟩ v).cell? ⟨q, x, none⟩ = W.cell? ⟨q, x, none⟩ := fun W o x v => setCell_out _ _ _ _ _ (fun e => by have h1 : q = w.heap.size := e; omega)
  clear T hz
  unfold StatOf
  go_enter Tryz.func84, Tryz.ntmps84
  go_wp2_with (go_at_call 102; refine (find_ok (HT.out.new ((Mod.refl _ w).alloc _)) i hi HZ.out).mono ?_; rintro e w1 ⟨rfl, hw1⟩; rw [hw1]; clear hw1 w1)
  have hS0 : SeeN F q i ((w.alloc (.cells #[.int .i64 0, .int .i64 0, .int .i64 0, .int .i64 0, .int .i64 0, .int .i64 0, .int .i64 0, .int .i64 0, .int .i64 0, .int .i64 0] 45)).drew) := (HT.out.new (HM0.out _)).see hi
  unfold SeeN at hS0
  go_region_held (fun W' => W'.cell? ⟨q, i * 17 + 3, none⟩ = some (.int .i64 (F i 3)) ∧ W'.cell? ⟨q, i * 17 + 1, none⟩ = some (.int .i64 (F i 1)) ∧ W'.cell? ⟨q, i * 17 + 2, none⟩ = some (.int .i64 (F i 2)) ∧ W'.cell? ⟨q, i * 17 + 5, none⟩ = some (.int .i64 (F i 5)) ∧ W'.cell? ⟨q, i * 17, none⟩ = some (.int .i64 (F i 0)) ∧ W'.cell? ⟨q, i * 17 + 6, none⟩ = some (.int .i64 (F i 6)) ∧ W'.cell? ⟨q, i * 17 + 7, none⟩ = some (.int .i64 (F i 7)) ∧ W'.cell? ⟨q, i * 17 + 8, none⟩ = some (.int .i64 (F i 8))) (first | with_reducible exact hS1 | with_reducible exact hS0 | (simp only [hcq]; with_reducible exact hS1))
    (first | (go_at_call 135; refine (owned_any (HT.out.new (HM0.out _)) i hi).mono ?_; rintro e w1 ⟨v, rfl, hv, HM1⟩; have hS1 := (HT.out.new ((HM0.out _).trans HM1)).see hi; unfold SeeN at hS1; obtain ⟨a1, c1, rfl⟩ := row_slice hv; clear hv; have k0 : w1.cell? ⟨w.heap.size, 0, none⟩ = some (.int .i64 0) := (HM1.cell (p := ⟨w.heap.size, 0, none⟩) HLt.out (fun h => h)).trans (HK0.out 0 (by omega)); have k1 : w1.cell? ⟨w.heap.size, 1, none⟩ = some (.int .i64 0) := (HM1.cell (p := ⟨w.heap.size, 1, none⟩) HLt.out (fun h => h)).trans (HK0.out 1 (by omega)); have k2 : w1.cell? ⟨w.heap.size, 2, none⟩ = some (.int .i64 0) := (HM1.cell (p := ⟨w.heap.size, 2, none⟩) HLt.out (fun h => h)).trans (HK0.out 2 (by omega)); have k3 : w1.cell? ⟨w.heap.size, 3, none⟩ = some (.int .i64 0) := (HM1.cell (p := ⟨w.heap.size, 3, none⟩) HLt.out (fun h => h)).trans (HK0.out 3 (by omega)); have k4 : w1.cell? ⟨w.heap.size, 4, none⟩ = some (.int .i64 0) := (HM1.cell (p := ⟨w.heap.size, 4, none⟩) HLt.out (fun h => h)).trans (HK0.out 4 (by omega)); have k5 : w1.cell? ⟨w.heap.size, 5, none⟩ = some (.int .i64 0) := (HM1.cell (p := ⟨w.heap.size, 5, none⟩) HLt.out (fun h => h)).trans (HK0.out 5 (by omega)); have k6 : w1.cell? ⟨w.heap.size, 6, none⟩ = some (.int .i64 0) := (HM1.cell (p := ⟨w.heap.size, 6, none⟩) HLt.out (fun h => h)).trans (HK0.out 6 (by omega)); have k7 : w1.cell? ⟨w.heap.size, 7, none⟩ = some (.int .i64 0) := (HM1.cell (p := ⟨w.heap.size, 7, none⟩) HLt.out (fun h => h)).trans (HK0.out 7 (by omega)); have k8 : w1.cell? ⟨w.heap.size, 8, none⟩ = some (.int .i64 0) := (HM1.cell (p := ⟨w.heap.size, 8, none⟩) HLt.out (fun h => h)).trans (HK0.out 8 (by omega)); have k9 : w1.cell? ⟨w.heap.size, 9, none⟩ = some (.int .i64 0) := (HM1.cell (p := ⟨w.heap.size, 9, none⟩) HLt.out (fun h => h)).trans (HK0.out 9 (by omega)); have kf : ∀ o, w1.frozen? ⟨w.heap.size, o, none⟩ = false := (fun o => (HM1.frozen (p := ⟨w.heap.size, o, none⟩) HLt.out (fun h => h)).trans (HKf.out o)); have HM2 : Hid (Mod (fun _ => False) w w1) := (HM0.out _).trans HM1; have HK1 : Hid (∀ j, j < 10 → w1.cell? ⟨w.heap.size, j, none⟩ = some (.int .i64 0)) := (fun j hj => (HM1.cell (p := ⟨w.heap.size, j, none⟩) HLt.out (fun h => h)).trans (HK0.out j hj)); clear HM1))
  have HTh : Hid (w1.there w.heap.size 0 10) := fun j hj => ⟨by rw [Nat.zero_add, HK1.out j hj]; rfl, kf _⟩
  have HRg : Hid ((w1.setCells w.heap.size 0 (statW F (ownL u D (R i) 8).length i)).rangeAt w.heap.size 0 (statW F (ownL u D (R i) 8).length i)) := World.rangeAt_setCells_same _ _ _ _ HTh.out
  have HFin : Hid (Mod (fun _ => False) w (w1.setCells w.heap.size 0 (statW F (ownL u D (R i) 8).length i))) := ⟨(below_setCells (Below.refl w.heap.size w1) (Nat.le_refl _) _ 0).os.trans HM2.out.os, (below_setCells (Below.refl w.heap.size w1) (Nat.le_refl _) _ 0).tape.trans HM2.out.tape, (below_setCells (Below.refl w.heap.size w1) (Nat.le_refl _) _ 0).output.trans HM2.out.output, by rw [size_setCells]; exact HM2.out.size, fun k hk hn => by rw [setCells_other _ _ _ (by omega)]; exact HM2.out.block k hk hn⟩
  clear hS0 hS1 kf hcq k0 k1 k2 k3 k4 k5 k6 k7 k8 k9
  go_wp2
  exact bodyPost_ret (ret_stat HRg.out rfl _ rfl rfl) rfl ⟨⟨_, rfl⟩, HFin.out⟩
end
end Go.Proofs.YtgkkbplecfhmdaaGreatDoor
