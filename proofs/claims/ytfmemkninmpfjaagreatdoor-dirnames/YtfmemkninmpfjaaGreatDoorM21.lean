/- Several texts of this claim, one behind the other, in their order. -/
import Derived.Test.YtfmemkninmpfjaaGreatDoorM20
import Derived.Test.YtfmemkninmpfjaaGreatDoorM14
import Derived.Test.YtfmemkninmpfjaaGreatDoorM18
import Derived.Test.YtfmemkninmpfjaaGreatDoorCards
import Derived.Test.YtfmemkninmpfjaaGreatDoorTie
import Derived.ProofKit
import Derived.LaidMore
import Derived.OpenShut
import Derived.ChangeOld
import Derived.Stop.Joined
import Derived.SevenTiedAt
import Derived.Lib.LaidTab
/- The calls Find, Add and Init of a directory. Conditions: the table lies in memory as 'Tb' says; what Stat tells; the name is of ASCII. -/
namespace Go.Proofs.YtfmemkninmpfjaaGreatDoor
open Go.RowKit
section
variable {w : World} {t q b c n N : Nat} {clk : Int} {F : Nat → Nat → Int} {R : Nat → Nat → Nat} {u : Nat → Bool} {D : Nat → Nat}
set_option maxRecDepth 100000 in
set_option maxHeartbeats 2000000 in
theorem dFind (T : Tb w t q b c n N clk F R u D) (i sz k : Nat) (l : List UInt8) (hi : i < N) (hz : F i 0 ≠ 0) (hs : F i 5 = (sz : Int)) (hsz : 0 < sz) (hS : ∀ W, Mod (fun _ => False) w W → StatOf F t i W) (hd : (bits .and .i64 (F i 0) 61440 == 16384) = true) (hl : l.length < 4294967281) (ha : ∀ x ∈ l, x.toNat < 128)
    (hc : chk l = 0) (hf : (tks (rd u D (R i)) sz).find? (has (rd u D (R i)) l) = some k) :
    Calls Tryz.prog 17 #[.pointer (some ⟨t, 0, none⟩), .int .i64 ((i : Int) + 1), .string ⟨l.toArray⟩] w fun e w' => e = .returned (.tuple #[.int .i64 (le4 (slotD (rd u D (R i)) k) 0 : Nat), .int .i64 0]) ∧ Mod (fun _ => False) w w' := by
  have HR := (show Hid (Calls _ _ _ _ _) from sReadFor T i sz l hi hz hs hsz hS hd hl ha)
  have hz' := zvSl
  have HF := (show Hid (fRes (rd u D (R i)) sz l = .tuple #[.int .i64 k, .agg (slotV (rd u D (R i)) k).toArray, .int .i64 0]) from by show _ = _; rw [fRes, hf])
  generalize rd u D (R i) = D' at *
  rw [hc] at HR
  clear T hS hz hs hf hc
  go_enter Tryz.func17, Tryz.ntmps17
  go_wp2_with fail
  refine Calls.mono (show Calls _ _ _ _ _ from HR.out) ?_
  rintro e w1 ⟨g, rfl, HC, HM⟩
  have HSl : Hid (Slot (slotV D' k) (slotD D' k)) := slotV_slot D' HC.lt k
  have HC' : Hid (Cont w1 (some ⟨g, 0, none⟩) sz sz D') := HC
  have HM' : Hid (Mod (fun _ => False) w w1) := HM
  clear HC HM
  go_wp2_with fail
  refine (sFind _ _ _ D' l _ HC'.out).mono ?_
  rw [HF.out]
  rintro e w2 ⟨HB, rfl⟩
  have HM2 : Hid (Mod (fun _ => False) w w2) := HM'.out.trans (mod_of_below0 HB)
  clear HB
  have HTh := (show Hid _ from there_slot w2 (slotV D' k) HSl.out)
  have HRg : Hid ((w2.alloc (.cells (slotV D' k).toArray 109)).rangeAt w2.heap.size 0 (slotV D' k)) := range_new w2 _ _
  go_wp2_with (first | (refine wpList_store_mid rfl 109 _ _ rfl w2.heap.size 0 (slotV D' k).toArray rfl rfl HTh.out HSl.out.infA (all_oneCell_toArray HSl.out.one) ?_; rw [set_slot w2 _ HSl.out]) | (refine wpList_load_mid rfl 109 _ rfl w2.heap.size 0 rfl (slotV D' k) _ HRg.out undS rfl HSl.out.inf ?_) | (go_at_call 60; refine (sIno _ _ _ HSl.out).mono ?_; rintro e w3 ⟨rfl, HB3⟩))
  go_ret2
  exact ⟨rfl, (HM2.out.alloc _).trans (mod_of_below0 HB3)⟩
theorem built_slots {C : Array Value} {Ls : List (List Value)} {ss : List (Nat → Nat)} (w : World) (hB : Built C Ls) (hl : Ls.length = ss.length) (hs : ∀ (k : Nat) L s, Ls[k]? = some L → ss[k]? = some s → Slot L s) : Slots (w.alloc (.cells C 109)) w.heap.size 0 ss := by
  refine ⟨fun s h => ?_, fun k s hk j hj => ?_⟩
  · obtain ⟨k, hk, rfl⟩ := List.getElem_of_mem h
    exact (hs k Ls[k] ss[k] (List.getElem?_eq_getElem (by omega)) (List.getElem?_eq_getElem hk)).lt
  · have hk' := (List.getElem?_eq_some_iff.1 hk).1
    have hL := List.getElem?_eq_getElem (l := Ls) (i := k) (by omega)
    rw [World.cell?_alloc_at _ _ _ _ rfl, show 0 + k * 32 + j = k * 32 + j by omega, hB.2 k _ hL j hj]
    exact (hs k _ s hL hk).at_ j hj
theorem sWrite2 (T : Tb w t q b c n N clk F R u D) (i g : Nat) (s1 s2 : Nat → Nat) (hi : i < N) (hz : F i 0 ≠ 0) (hss : Slots w g 0 [s1, s2]) (hgl : g < w.heap.size) (st : WS) (hst : st = wrun n 0 (sBytes [s1, s2]) 64 ⟨0, u, D, R i⟩)
    (rc : Int) (hrc : rc = if st.done = 0 then 28 else 0) (F' : Nat → Nat → Int) (hF' : F' = if st.done = 0 then F else upd2 (upd2 (upd2 F i 5 (max (F i 5) ((0 : Int) + st.done))) i 7 clk) i 8 clk) :
    Calls Tryz.prog 66 #[.pointer (some ⟨t, 0, none⟩), .int .i64 ((i : Int) + 1), .int .i64 0, .slice (some ⟨g, 0, none⟩) 2 2] w fun e w' =>
      e = .returned (.int .i64 rc) ∧ Mod (fun k => k = b ∨ k = c ∨ k = q) w w' ∧ Tb w' t q b c n N clk F' (setN R i st.R) st.u st.D := by
  obtain ⟨bs, hbs⟩ : ∃ bs, bs = sBytes [s1, s2] := ⟨_, rfl⟩
  have hl : bs.length = 64 := by rw [hbs, sBytes_len]; rfl
  rw [← hbs] at hst
  have h := sWrite T i 0 g 0 2 [s1, s2] hi hz (by simp) (by simp) (by omega) hss hgl 64 (by simp) st (by
    rw [← hbs, List.take_of_length_le (by omega), hl, hst, Nat.zero_mul]) rc hrc F' (by rw [hF', Nat.zero_mul]; rfl)
  exact h
set_option maxRecDepth 100000 in
set_option maxHeartbeats 2000000 in
theorem dInit (T : Tb w t q b c n N clk F R u D) (i j : Nat) (hi : i < N) (hj : j < N) (hz : F i 0 ≠ 0) (hzj : F j 0 ≠ 0) (hs : F i 5 = 0) (hS : ∀ W, Mod (fun _ => False) w W → StatOf F t i W) (hd : (bits .and .i64 (F i 0) 61440 == 16384) = true) (hN : N ≤ 4096)
    (st : WS) (hst : st = wrun n 0 (sBytes [nslot [46] (i + 1), nslot [46, 46] (j + 1)]) 64 ⟨0, u, D, R i⟩) (rc : Int) (hrc : rc = if st.done = 0 then 28 else 0) (F' : Nat → Nat → Int) (hF' : F' = if st.done = 0 then F else upd2 (upd2 (upd2 F i 5 (max (F i 5) ((0 : Int) + st.done))) i 7 clk) i 8 clk) :
    Calls Tryz.prog 22 #[.pointer (some ⟨t, 0, none⟩), .int .i64 ((i : Int) + 1), .int .i64 ((j : Int) + 1)] w fun e w' => e = .returned (.int .i64 rc) ∧ Mod (fun k => k = b ∨ k = c ∨ k = q) w w' ∧ Tb w' t q b c n N clk F' (setN R i st.R) st.u st.D := by
  have HT : Hid (Tb w t q b c n N clk F R u D) := T
  have HS := (show Hid (∀ W, Mod (fun _ => False) w W → StatOf F t i W) from hS)
  have HZ := (show Hid (F i 0 ≠ 0 ∧ F j 0 ≠ 0) from ⟨hz, hzj⟩)
  have hz0 := zvSl
  have HW := (show Hid (∀ W g, Mod (fun _ => False) w W → Slots W g 0 [nslot [46] (i + 1), nslot [46, 46] (j + 1)] → g < W.heap.size → Calls Tryz.prog 66 #[.pointer (some ⟨t, 0, none⟩), .int .i64 ((i : Int) + 1), .int .i64 0, .slice (some ⟨g, 0, none⟩) 2 2] W fun e w' => e = .returned (.int .i64 rc) ∧ Mod (fun k => k = b ∨ k = c ∨ k = q) W w' ∧ Tb w' t q b c n N clk F' (setN R i st.R) st.u st.D) from fun W g hM hSl hg =>
    sWrite2 (T.new hM) i g _ _ hi hz hSl hg st hst rc hrc F' hF')
  clear T hS hz hzj hst hrc hF'
  go_enter Tryz.func22, Tryz.ntmps22
  go_wp2_with fail
  refine (sLook F t i _ (fun o => HS.out _ ((Mod.refl _ w).alloc o)) hd).mono ?_
  rintro e w1 ⟨⟨bl, rfl⟩, HM⟩
  have HM1 : Hid (∀ o, Mod (fun _ => False) w (w1.alloc o)) := fun o => HM.alloc o
  clear HM
  unfold statW
  rw [hs]
  go_wp2_with (go_at_call 65; refine (tis_yes (HT.out.new (HM1.out _)) j hj HZ.out.2).mono ?_; rintro e w2 ⟨rfl, hw2⟩; rw [hw2]; clear hw2 w2)
  refine (show Calls Tryz.prog 67 #[.string ⟨[46].toArray⟩, .int .i64 ((i : Int) + 1)] _ _ from ?_)
  refine (sNew [46] (i + 1) _ (by simp) (by omega)).mono ?_
  rintro e w2 ⟨⟨L1, rfl, hS1⟩, HB1⟩
  have HS1 : Hid (Slot L1 (nslot [46] (i + 1))) := hS1
  have HM2 : Hid (Mod (fun _ => False) w w2) := (HM1.out _).trans (mod_of_below0 HB1)
  clear hS1 HB1
  go_wp2_with fail
  refine (show Calls Tryz.prog 67 #[.string ⟨[46, 46].toArray⟩, .int .i64 ((j : Int) + 1)] _ _ from ?_)
  refine (sNew [46, 46] (j + 1) _ (by simp) (by omega)).mono ?_
  rintro e w3 ⟨⟨L2, rfl, hS2⟩, HB2⟩
  have HS2 : Hid (Slot L2 (nslot [46, 46] (j + 1))) := hS2
  have HM3 : Hid (Mod (fun _ => False) w w3) := HM2.out.trans (mod_of_below0 HB2)
  clear hS2 HB2
  obtain ⟨C, hBu, hrun⟩ := build2 L1 L2 HS1.out.len HS2.out.len w3
  have HRu := (show Hid _ from hrun)
  have HSl : Hid (Slots (w3.alloc (.cells C 109)) w3.heap.size 0 [nslot [46] (i + 1), nslot [46, 46] (j + 1)]) := built_slots w3 hBu rfl (fun k L s hL hs => by
    match k, hL, hs with
    | 0, hL, hs => cases hL; cases hs; exact HS1.out
    | 1, hL, hs => cases hL; cases hs; exact HS2.out)
  have HM4 : Hid (Mod (fun _ => False) w (w3.alloc (.cells C 109))) := HM3.out.alloc _
  clear hBu hrun
  go_wp2_with (refine wpList_buildSlice rfl 168 2 #[(0, .tmp 31), (1, .tmp 33)] rfl #[(0, .agg L1.toArray), (1, .agg L2.toArray)] (by simp [Act.eval]) _ HRu.out ?_)
  refine Calls.mono (show Calls _ _ _ _ _ from HW.out _ w3.heap.size HM4.out HSl.out (by simp)) ?_
  rintro e w5 ⟨rfl, hM5, hT5⟩
  have HE : Hid (Mod (fun k => k = b ∨ k = c ∨ k = q) w w5 ∧ Tb w5 t q b c n N clk F' (setN R i st.R) st.u st.D) := ⟨mod_join HM4.out hM5, hT5⟩
  clear hM5 hT5
  go_wp2
  go_ret
  exact ⟨rfl, HE.out⟩
theorem sWrite1 (T : Tb w t q b c n N clk F R u D) (i k g : Nat) (s1 : Nat → Nat) (hi : i < N) (hz : F i 0 ≠ 0) (hk : k * 32 + 32 ≤ 17792) (hss : Slots w g 0 [s1]) (hgl : g < w.heap.size) (st : WS) (hst : st = wrun n (k * 32) (sBytes [s1]) 32 ⟨0, u, D, R i⟩)
    (rc : Int) (hrc : rc = if st.done = 0 then 28 else 0) (F' : Nat → Nat → Int) (hF' : F' = if st.done = 0 then F else upd2 (upd2 (upd2 F i 5 (max (F i 5) (((k * 32 : Nat) : Int) + st.done))) i 7 clk) i 8 clk) :
    Calls Tryz.prog 66 #[.pointer (some ⟨t, 0, none⟩), .int .i64 ((i : Int) + 1), .int .i64 (k : Nat), .slice (some ⟨g, 0, none⟩) 1 1] w fun e w' =>
      e = .returned (.int .i64 rc) ∧ Mod (fun k => k = b ∨ k = c ∨ k = q) w w' ∧ Tb w' t q b c n N clk F' (setN R i st.R) st.u st.D := by
  obtain ⟨bs, hbs⟩ : ∃ bs, bs = sBytes [s1] := ⟨_, rfl⟩
  have hl : bs.length = 32 := by rw [hbs, sBytes_len]; rfl
  rw [← hbs] at hst
  have h := sWrite T i k g 0 1 [s1] hi hz (by simp) (by simp) (by omega) hss hgl 32 (by simp; omega) st (by
    rw [← hbs, List.take_of_length_le (by omega), hl, hst]) rc hrc F' hF'
  exact h
set_option maxRecDepth 100000 in
set_option maxHeartbeats 2000000 in
theorem dAdd (T : Tb w t q b c n N clk F R u D) (i j sz : Nat) (l : List UInt8) (hi : i < N) (hj : j < N) (hz : F i 0 ≠ 0) (hzj : F j 0 ≠ 0) (hs : F i 5 = (sz : Int)) (hsz : 0 < sz) (hS : ∀ W, Mod (fun _ => False) w W → StatOf F t i W) (hd : (bits .and .i64 (F i 0) 61440 == 16384) = true) (hN : N ≤ 4096) (hll : l.length ≤ 27) (ha : ∀ x ∈ l, x.toNat < 128)
    (hc : chk l = 0) (hf : (tks (rd u D (R i)) sz).find? (has (rd u D (R i)) l) = none) (k : Nat) (hk : k = roomR (rd u D (R i)) sz) (hk2 : k * 32 + 32 ≤ 17792)
    (st : WS) (hst : st = wrun n (k * 32) (sBytes [nslot l (j + 1)]) 32 ⟨0, u, D, R i⟩) (rc : Int) (hrc : rc = if st.done = 0 then 28 else 0) (F' : Nat → Nat → Int) (hF' : F' = if st.done = 0 then F else upd2 (upd2 (upd2 F i 5 (max (F i 5) (((k * 32 : Nat) : Int) + st.done))) i 7 clk) i 8 clk) :
    Calls Tryz.prog 23 #[.pointer (some ⟨t, 0, none⟩), .int .i64 ((i : Int) + 1), .string ⟨l.toArray⟩, .int .i64 ((j : Int) + 1)] w fun e w' => e = .returned (.int .i64 rc) ∧ Mod (fun k => k = b ∨ k = c ∨ k = q) w w' ∧ Tb w' t q b c n N clk F' (setN R i st.R) st.u st.D := by
  have HR := (show Hid (Calls _ _ _ _ _) from sReadFor T i sz l hi hz hs hsz hS hd (by omega) ha)
  have HT : Hid (Tb w t q b c n N clk F R u D) := T
  have hz0 := zvSl
  have HF := (show Hid (fRes (rd u D (R i)) sz l = .tuple #[.int .i64 0, .agg zeroSl.toList.toArray, .int .i64 2]) from by show _ = _; rw [fRes, hf])
  have HW := (show Hid (∀ W g, Mod (fun _ => False) w W → Slots W g 0 [nslot l (j + 1)] → g < W.heap.size → Calls Tryz.prog 66 #[.pointer (some ⟨t, 0, none⟩), .int .i64 ((i : Int) + 1), .int .i64 (k : Nat), .slice (some ⟨g, 0, none⟩) 1 1] W fun e w' => e = .returned (.int .i64 rc) ∧ Mod (fun k => k = b ∨ k = c ∨ k = q) W w' ∧ Tb w' t q b c n N clk F' (setN R i st.R) st.u st.D) from fun W g hM hSl hg =>
    sWrite1 (T.new hM) i k g _ hi hz hk2 hSl hg st hst rc hrc F' hF')
  have HZ := (show Hid (F j 0 ≠ 0) from hzj)
  obtain ⟨D', hD'⟩ : ∃ D', D' = rd u D (R i) := ⟨_, rfl⟩
  rw [← hD'] at HR HF hk
  have HK := (show Hid (k = roomR D' sz) from hk)
  rw [hc] at HR
  clear T hS hz hs hf hc hst hrc hF' hD' hk hzj
  go_enter Tryz.func23, Tryz.ntmps23
  go_wp2_with fail
  refine Calls.mono (show Calls _ _ _ _ _ from HR.out) ?_
  rintro e w1 ⟨g, rfl, HC, HM⟩
  have HC' : Hid (Cont w1 (some ⟨g, 0, none⟩) sz sz D') := HC
  have HM' : Hid (Mod (fun _ => False) w w1) := HM
  clear HC HM
  go_wp2_with (go_at_call 65; refine (tis_yes (HT.out.new HM'.out) j hj HZ.out).mono ?_; rintro e w2 ⟨rfl, hw2⟩; rw [hw2]; clear hw2 w2)
  refine (sFind _ _ _ D' l _ HC'.out).mono ?_
  rw [HF.out]
  rintro e w2 ⟨HB, rfl⟩
  have HM2 : Hid (Mod (fun _ => False) w w2) := HM'.out.trans (mod_of_below0 HB)
  have HC2 : Hid (Cont (w2.alloc (.cells zeroSl.toList.toArray 109)) (some ⟨g, 0, none⟩) sz sz D') := HC'.out.keep (own := fun _ => False) (KC.of_below (HB.alloc HB.size _)) (fun _ _ h => h)
  clear HB
  have HTh := (show Hid _ from there_slot w2 zeroSl.toList zeroSl_slot)
  go_wp2_with (refine wpList_store_mid rfl 109 _ _ rfl w2.heap.size 0 zeroSl.toList.toArray rfl rfl HTh.out zeroSl_slot.infA (all_oneCell_toArray zeroSl_slot.one) ?_; rw [set_slot w2 _ zeroSl_slot])
  refine (sRoom _ _ _ D' _ HC2.out).mono ?_
  rw [← HK.out]
  rintro e w3 ⟨HB3, rfl⟩
  have HM3 : Hid (Mod (fun _ => False) w w3) := (HM2.out.alloc _).trans (mod_of_below0 HB3)
  clear HB3
  go_wp2_with fail
  refine (sNew l (j + 1) _ (by omega) (by omega)).mono ?_
  rintro e w4 ⟨⟨L1, rfl, hS1⟩, HB1⟩
  have HS1 : Hid (Slot L1 (nslot l (j + 1))) := hS1
  have HM4 : Hid (∀ o, Mod (fun _ => False) w (w4.alloc o)) := fun o => (HM3.out.trans (mod_of_below0 HB1)).alloc o
  clear hS1 HB1
  obtain ⟨C, hBu, hrun⟩ := build1 L1 HS1.out.len w4
  have HRu := (show Hid _ from hrun)
  have HSl : Hid (Slots (w4.alloc (.cells C 109)) w4.heap.size 0 [nslot l (j + 1)]) := built_slots w4 hBu rfl (fun k L s hL hs => by
    match k, hL, hs with
    | 0, hL, hs => cases hL; cases hs; exact HS1.out)
  clear hBu hrun
  go_wp2_with (refine wpList_buildSlice rfl 168 1 #[(0, .tmp 43)] rfl #[(0, .agg L1.toArray)] (by simp [Act.eval]) _ HRu.out ?_)
  refine Calls.mono (show Calls _ _ _ _ _ from HW.out _ w4.heap.size (HM4.out _) HSl.out (by simp)) ?_
  rintro e w5 ⟨rfl, hM5, hT5⟩
  have HE : Hid (Mod (fun k => k = b ∨ k = c ∨ k = q) w w5 ∧ Tb w5 t q b c n N clk F' (setN R i st.R) st.u st.D) := ⟨mod_join (HM4.out _) hM5, hT5⟩
  clear hM5 hT5
  go_wp2
  go_ret
  exact ⟨rfl, HE.out⟩
end
end Go.Proofs.YtfmemkninmpfjaaGreatDoor
/- Layer 4's example, as the statements ask it: 'awake' answers true in whatever memory. Condition: the library's table is as its initialiser lays it. -/
namespace Go.Proofs.YtfmemkninmpfjaaGreatDoor
open Go.RowKit
def w40 : WS := ⟨0, fun _ => false, fun _ => 0, fun _ => 0⟩
def s41 : WS := wrun 4 0 (sBytes [nslot [46] 1, nslot [46, 46] 1]) 64 w40
def s42 : WS := wrun 4 64 (sBytes [nslot [97] 3]) 32 ⟨0, s41.u, s41.D, s41.R⟩
def F41 : Nat → Nat → Int := upd2 (upd2 (upd2 (Fk 3) 0 5 64) 0 7 0) 0 8 0
def F42 : Nat → Nat → Int := upd2 (upd2 (upd2 F41 0 5 96) 0 7 0) 0 8 0
theorem done1 : s41.done = 64 := by decide +kernel
theorem done2 : s42.done = 32 := by decide +kernel
theorem none1 : (tks (rd s41.u s41.D s41.R) 64).find? (has (rd s41.u s41.D s41.R) [97]) = none := by decide +kernel
theorem room1 : roomR (rd s41.u s41.D s41.R) 64 = 2 := by decide +kernel
theorem some2 : (tks (rd s42.u s42.D s42.R) 96).find? (has (rd s42.u s42.D s42.R) [97]) = some 2 := by decide +kernel
theorem ans2 : le4 (slotD (rd s42.u s42.D s42.R) 2) 0 = 3 := by decide +kernel
theorem F41_eq : F41 = if s41.done = 0 then Fk 3 else upd2 (upd2 (upd2 (Fk 3) 0 5 (max (Fk 3 0 5) ((0 : Int) + s41.done))) 0 7 0) 0 8 0 := by
  rw [done1, if_neg (by decide), show max (Fk 3 0 5) ((0 : Int) + (64 : Nat)) = 64 by decide]
  rfl
theorem F42_eq : F42 = if s42.done = 0 then F41 else upd2 (upd2 (upd2 F41 0 5 (max (F41 0 5) (((2 * 32 : Nat) : Int) + s42.done))) 0 7 0) 0 8 0 := by
  rw [done2, if_neg (by decide), show max (F41 0 5) (((2 * 32 : Nat) : Int) + (32 : Nat)) = 96 by decide]
  rfl
set_option maxRecDepth 8000 in
set_option maxHeartbeats 4000000 in
theorem awake4 (w : World) (hT : TabIs w) : Calls Tryz.prog 10 #[] w fun e w' => e = .returned (.bool true) ∧ Mod (fun _ => False) w w' := by
  have HT := hidM hT
  clear hT
  go_enter Tryz.func10, Tryz.ntmps10
  go_wp2_with fail
  refine (made4 w HT.out).mono ?_
  rintro e w1 ⟨pb, t, q, b, c, rfl, hp, T1, M1, ⟨hb, hc, hq⟩, pb1, pc1, pq1⟩
  have HT1 := hidM T1
  have HM1 := hidM M1
  have HQ := hidM (show w.heap.size ≤ b ∧ w.heap.size ≤ c ∧ w.heap.size ≤ q ∧ b < pb ∧ c < pb ∧ q < pb from ⟨hb, hc, hq, pb1, pc1, pq1⟩)
  have HP := hidM (block_lt_of_cell hp)
  clear T1 M1 hb hc hq pb1 pc1 pq1
  go_wp2_with fail
  refine (dInit HT1.out 0 0 (by omega) (by omega) (by decide) (by decide) (by decide) (fun W hM => tstat (HT1.out.new hM) 0 (by omega) (by decide)) (by decide +kernel) (by omega) s41 rfl 0 (by rw [done1]; rfl) F41 F41_eq).mono ?_
  rintro e w2 ⟨rfl, M2, T2⟩
  have HT2 : Hid (Tb w2 t q b c 4 6 0 F41 (setN (fun _ _ => 0) 0 s41.R) s41.u s41.D) := T2
  have hp2 : w2.cell? ⟨pb, 0, none⟩ = some (.pointer (some ⟨t, 0, none⟩)) := (M2.cell (p := ⟨pb, 0, none⟩) HP.out (by have := HQ.out; show ¬ (pb = b ∨ pb = c ∨ pb = q); omega)).trans hp
  have HM2 := hidM (Mod.new4 HM1.out M2 (fun k h => by have := HQ.out; omega))
  have HP2 := hidM (block_lt_of_cell hp2)
  clear T2 M2 hp HP
  go_wp2_with fail
  refine (dAdd HT2.out 0 2 64 [97] (by omega) (by omega) (by decide) (by decide) (by decide) (by omega) (fun W hM => tstat (HT2.out.new hM) 0 (by omega) (by decide)) (by decide +kernel) (by omega) (by decide) (by decide) (by decide +kernel) none1 2 room1.symm (by decide) s42 rfl 0 (by rw [done2]; rfl) F42 F42_eq).mono ?_
  rintro e w3 ⟨rfl, M3, T3⟩
  have HT3 : Hid (Tb w3 t q b c 4 6 0 F42 (setN (setN (fun _ _ => 0) 0 s41.R) 0 s42.R) s42.u s42.D) := T3
  have hp3 : w3.cell? ⟨pb, 0, none⟩ = some (.pointer (some ⟨t, 0, none⟩)) := (M3.cell (p := ⟨pb, 0, none⟩) HP2.out (by have := HQ.out; show ¬ (pb = b ∨ pb = c ∨ pb = q); omega)).trans hp2
  have HM3 := hidM (Mod.new4 HM2.out M3 (fun k h => by have := HQ.out; omega))
  clear T3 M3 hp2 HP2
  go_wp2_with fail
  refine (dFind HT3.out 0 96 2 [97] (by omega) (by decide) (by decide) (by omega) (fun W hM => tstat (HT3.out.new hM) 0 (by omega) (by decide)) (by decide +kernel) (by decide) (by decide) (by decide +kernel) some2).mono ?_
  rintro e w4 ⟨rfl, M4⟩
  have HM4 := hidM (HM3.out.trans M4)
  have ha : ((le4 (slotD (rd s42.u s42.D (setN (setN (fun _ _ => 0) 0 s41.R) 0 s42.R 0)) 2) 0 : Nat) : Int) = 3 := by
    show ((le4 (slotD (rd s42.u s42.D s42.R) 2) 0 : Nat) : Int) = 3
    rw [ans2]; rfl
  rw [ha]
  clear ha M4 hp3 HT1 HT2 HT3
  go_wp2_with (go_at_call 9; refine (num4 _ _).mono ?_; rintro e w' ⟨rfl, hw'⟩; rw [hw']; clear hw' w')
  go_ret
  exact ⟨rfl, HM4.out⟩
end Go.Proofs.YtfmemkninmpfjaaGreatDoor
/- What the rows of this seat share: the listed table as the walks want it, and a start that meets the condition. -/
namespace Go.Proofs.YtfmemkninmpfjaaGreatDoor
open Go.ChangeShapes Go.WideShapes Go.ChangeAt Go.RowKit

theorem Mod.below0 {w w' : World} (h : Mod (fun _ => False) w w') : Below w.heap.size w w' := h.below (Nat.le_refl _) (fun _ _ h => h)
theorem own : ownKnob Tryz.prog.godebug = none := by kernel_rfl
theorem laidOut : laidOutB Tryz.prog = true := by kernel_rfl
theorem gTab : Tryz.prog.globalNamed "math/bits.deBruijn64tab" = some 1 := by kernel_rfl
theorem tTab : (Tryz.prog.globals[1]?).map (·.type) = some 202 := by kernel_rfl
abbrev laidL : List (String × DataW Unit) := [("math/bits.deBruijn64tab", Rows.laid_math_bits_deBruijn64tab)]
/-- The door's own heap meets the condition. -/
theorem door_met (os : Os) (args : Array Value) : laidMetH Tryz.prog laidL ((World.doorLaid Tryz.prog 400 os).forCall (fun _ _ => 0) ⟨#[], args, []⟩).memory :=
  laidMetH_of_parts3 (fuel := 8) (laidMet_of_run' 8 (by kernel_rfl) (by kernel_rfl)) (by kernel_rfl) (by kernel_rfl)
def tabZ : List Int := Lib.deBruijn64tab.map Int.ofNat
theorem tabInts : Rows.laid_math_bits_deBruijn64tab (H := Unit) = Lib.tabData .u8 tabZ := rfl
/-- What the condition gives the walks. -/
theorem of_laid {W : World} (h : laidMetH Tryz.prog laidL W) : TabIs W := by
  rw [MakeChecks.laidMetH_plain _ _ _ (by kernel_rfl)] at h
  have hT := Lib.tabIs_of_head (k := .u8) (zs := tabZ) (e := 5) (n := 64) gTab tTab (by kernel_rfl) (by kernel_rfl) (by kernel_rfl) (by kernel_rfl) (show laidMet Tryz.prog [("math/bits.deBruijn64tab", Lib.tabData .u8 tabZ)] W from tabInts ▸ h)
  intro j hj
  have := hT.cell gTab j hj
  rw [this]
  simp only [tabZ, List.getD_eq_getElem?_getD, List.getElem?_map]
  rw [List.getElem?_eq_getElem (show j < Lib.deBruijn64tab.length from hj)]
  rfl
end Go.Proofs.YtfmemkninmpfjaaGreatDoor
