/- Several texts of this claim, one behind the other, in their order. -/
import Derived.Test.YtpcbpikhiooafaaGreatDoorM16
import Derived.Test.YtpcbpikhiooafaaGreatDoorM17
import Derived.Test.YtpcbpikhiooafaaGreatDoorDr8
/- Plain facts on a write inside one place, and Find of a name that is not there. Conditions: the table lies in memory as 'Tb' says; what Stat tells; the name is of ASCII. -/
namespace Go.Proofs.YtpcbpikhiooafaaGreatDoor
open Go.RowKit
/-- The lowest m blocks are in use. -/
def uK (m : Nat) : Nat → Bool := fun j => decide (j < m)
theorem uK_low (m n : Nat) (h : m < n) : low (uK m) n = some m := by
  unfold low
  rw [List.find?_range_eq_some]
  refine ⟨by simp [uK], by simpa using h, fun j hj => by simp [uK, hj]⟩
theorem uK_up (m : Nat) : upd (uK m) m true = uK (m + 1) := by
  funext j
  unfold upd uK
  by_cases h : j = m
  · rw [if_pos h]; simp; omega
  · rw [if_neg h, decide_eq_decide]; omega
theorem wrun_fin (n off : Nat) (bs : List Nat) (f : Nat) (s : WS) (h : ¬ s.done < bs.length) : wrun n off bs f s = s := by
  cases f with
  | zero => rfl
  | succ f => rw [wrun, if_neg h]
theorem lv_low {k : Nat} (h : k < 6) : lv k = 0 ∧ rt k = k := by unfold lv rt; rw [if_pos h, if_pos h]; exact ⟨rfl, rfl⟩
theorem wrun_old (n off : Nat) (bs : List Nat) (f : Nat) (m : Nat) (D : Nat → Nat) (R : Nat → Nat) (hk : off / 64 < 6) (h0 : 0 < bs.length) (h1 : bs.length + off % 64 ≤ 64) (hr : R (off / 64) ≠ 0) (hu : R (off / 64) ≤ m) :
    wrun n off bs (f + 1) ⟨0, uK m, D, R⟩ = ⟨bs.length, uK m, over D ((R (off / 64) - 1) * 64 + off % 64) bs, R⟩ := by
  obtain ⟨e1, e2⟩ := lv_low hk
  have hu' : uK m (R (off / 64) - 1) = true := by simp [uK]; omega
  rw [wrun, if_pos (by simpa using h0)]
  simp only [Nat.add_zero, tkAt, e1, e2, tk, if_pos hr]
  rw [wrun_fin _ _ _ _ _ (by simp only [Nat.zero_add]; omega)]
  have em : min (bs.length - 0) (64 - off % 64) = bs.length := by omega
  rw [em, Nat.zero_add, List.drop_zero, List.take_length, wrt, if_pos ⟨hr, hu'⟩]
  congr 1
  funext j
  unfold upd
  by_cases h : j = off / 64
  · rw [if_pos h, h]
  · rw [if_neg h]
theorem wrun_new (n off : Nat) (bs : List Nat) (f : Nat) (m : Nat) (D : Nat → Nat) (R : Nat → Nat) (hk : off / 64 < 6) (h0 : 0 < bs.length) (h1 : bs.length + off % 64 ≤ 64) (hr : R (off / 64) = 0) (hm : m < n) :
    wrun n off bs (f + 1) ⟨0, uK m, D, R⟩ = ⟨bs.length, uK (m + 1), over D (m * 64 + off % 64) bs, upd R (off / 64) (m + 1)⟩ := by
  obtain ⟨e1, e2⟩ := lv_low hk
  have hu' : uK (m + 1) (m + 1 - 1) = true := by simp [uK]
  rw [wrun, if_pos (by simpa using h0)]
  simp only [Nat.add_zero, tkAt, e1, e2, tk, hr, ne_eq, not_true, if_false, uK_low m n hm, Option.map_some, uK_up]
  rw [wrun_fin _ _ _ _ _ (by simp only [Nat.zero_add]; omega)]
  have em : min (bs.length - 0) (64 - off % 64) = bs.length := by omega
  rw [em, Nat.zero_add, List.drop_zero, List.take_length, wrt, if_pos ⟨by omega, hu'⟩, Nat.add_sub_cancel]
section
variable {w : World} {t q b c n N : Nat} {clk : Int} {F : Nat → Nat → Int} {R : Nat → Nat → Nat} {u : Nat → Bool} {D : Nat → Nat}
set_option maxRecDepth 100000 in
set_option maxHeartbeats 2000000 in
theorem dFind0 (T : Tb w t q b c n N clk F R u D) (i sz : Nat) (l : List UInt8) (hi : i < N) (hz : F i 0 ≠ 0) (hs : F i 5 = (sz : Int)) (hsz : 0 < sz) (hS : ∀ W, Mod (fun _ => False) w W → StatOf F t i W) (hd : (bits .and .i64 (F i 0) 61440 == 16384) = true) (hl : l.length < 4294967281) (ha : ∀ x ∈ l, x.toNat < 128)
    (hc : chk l = 0) (hf : (tks (rd u D (R i)) sz).find? (has (rd u D (R i)) l) = none) :
    Calls Tryz.prog 92 #[.pointer (some ⟨t, 0, none⟩), .int .i64 ((i : Int) + 1), .string ⟨l.toArray⟩] w fun e w' => e = .returned (.tuple #[.int .i64 0, .int .i64 2]) ∧ Mod (fun _ => False) w w' := by
  have HR := (show Hid (Calls _ _ _ _ _) from sReadFor T i sz l hi hz hs hsz hS hd hl ha)
  have hz' := zvSl
  have HF := (show Hid (fRes (rd u D (R i)) sz l = .tuple #[.int .i64 0, .agg zeroSl.toList.toArray, .int .i64 2]) from by show _ = _; rw [fRes, hf])
  generalize rd u D (R i) = D' at *
  rw [hc] at HR
  clear T hS hz hs hf hc
  go_enter Tryz.func92, Tryz.ntmps92
  go_wp2_with fail
  refine Calls.mono (show Calls _ _ _ _ _ from HR.out) ?_
  rintro e w1 ⟨g, rfl, HC, HM⟩
  have HC' : Hid (Cont w1 (some ⟨g, 0, none⟩) sz sz D') := HC
  have HM' : Hid (Mod (fun _ => False) w w1) := HM
  clear HC HM
  go_wp2_with fail
  refine (sFind _ _ _ D' l _ HC'.out).mono ?_
  rw [HF.out]
  rintro e w2 ⟨HB, rfl⟩
  have HM2 : Hid (Mod (fun _ => False) w w2) := HM'.out.trans (mod_of_below0 HB)
  clear HB
  have HTh := (show Hid _ from there_slot w2 zeroSl.toList zeroSl_slot)
  have HRg : Hid ((w2.alloc (.cells zeroSl.toList.toArray 97)).rangeAt w2.heap.size 0 zeroSl.toList) := range_new w2 _ _
  go_wp2_with (first | (refine wpList_store_mid rfl 97 _ _ rfl w2.heap.size 0 zeroSl.toList.toArray rfl rfl HTh.out zeroSl_slot.infA (all_oneCell_toArray zeroSl_slot.one) ?_; rw [set_slot w2 _ zeroSl_slot]) | (refine wpList_load_mid rfl 97 _ rfl w2.heap.size 0 rfl zeroSl.toList _ HRg.out undS rfl zeroSl_slot.inf ?_) | (go_at_call 113; refine (sIno _ _ _ zeroSl_slot).mono ?_; rintro e w3 ⟨rfl, HB3⟩))
  go_ret2
  exact ⟨rfl, (HM2.out.alloc _).trans (mod_of_below0 HB3)⟩
end
end Go.Proofs.YtpcbpikhiooafaaGreatDoor
/- The task's call stat. Condition: what Stat tells. -/
namespace Go.Proofs.YtpcbpikhiooafaaGreatDoor
open Go.RowKit
theorem ret_tstat {W : World} {B : Nat} {L : List Value} (h : W.rangeAt B 0 L) (hl : L.length = 10) (tmps : Array Value) (h4 : tmps[4]?.getD undef = .pointer (some ⟨B, 0, none⟩)) :
    (results Tryz.f56 tmps).run Tryz.prog W = .ok (.agg L.toArray) W := by
  have h2 := run_loadVar_mid (P := Tryz.prog) W B 0 54 L _ h Tryz.underlying54 rfl (by rw [hl]; exact infSt)
  unfold results
  rw [Tryz.results56]
  simp [h4, asAddr, h2]
set_option maxRecDepth 100000 in
set_option maxHeartbeats 2000000 in
theorem tStat (F : Nat → Nat → Int) (k t i : Nat) (w : World) (hc : w.cell? ⟨k, 0, none⟩ = some (.pointer (some ⟨t, 0, none⟩))) (hS : ∀ W, Mod (fun _ => False) w W → StatOf F t i W) : Calls Tryz.prog 56 #[.pointer (some ⟨k, 0, none⟩), .int .i64 ((i : Int) + 1)] w fun e w' => (∃ bl : Nat, e = .returned (.agg (statW F bl i).toArray)) ∧ Mod (fun _ => False) w w' := by
  have HS : Hid (∀ o, StatOf F t i (w.alloc o)) := fun o => hS _ ((Mod.refl _ w).alloc o)
  clear hS
  have hk := block_lt_of_cell hc
  go_enter Tryz.func56, Tryz.ntmps56
  go_wp2_with fail
  refine (HS.out _).mono ?_
  rintro e w1 ⟨⟨bl, rfl⟩, HM⟩
  have HM' := (show Hid _ from HM)
  have hws : w.heap.size < w1.heap.size := by have := HM.size; simp at this; omega
  have HTh : Hid ((w1.alloc (.cells (statW F bl i).toArray 54)).there w.heap.size 0 (statW F bl i).toArray.size) := fun j hj => by
    have h0 := there_new w 54 #[.int .i64 0, .int .i64 0, .int .i64 0, .int .i64 0, .int .i64 0, .int .i64 0, .int .i64 0, .int .i64 0, .int .i64 0, .int .i64 0] (n := 10) rfl j hj
    rw [World.cell?_alloc_past _ _ _ hws, World.frozen?_alloc_past _ _ _ hws, HM.cell (p := ⟨w.heap.size, 0 + j, none⟩) (by simp) (fun h => h), HM.frozen (p := ⟨w.heap.size, 0 + j, none⟩) (by simp) (fun h => h)]
    exact h0
  obtain ⟨wE, hwE⟩ : ∃ wE, Hid ((w1.alloc (.cells (statW F bl i).toArray 54)).setCells w.heap.size 0 (statW F bl i) = wE) := ⟨_, rfl⟩
  have HRng : Hid (wE.rangeAt w.heap.size 0 (statW F bl i)) := by
    show World.rangeAt _ _ _ _
    rw [← hwE.out]; exact World.rangeAt_setCells_same _ _ _ _ (by have := HTh.out; simpa using this)
  have HFin : Hid (Mod (fun _ => False) w wE) := by
    rw [← hwE.out]
    exact mod_new_cells (HM.alloc _) (Nat.le_refl _) _ _
  have HOne : Hid ((statW F bl i).toArray.all (·.oneCell') = true) := by
    show _ = _
    refine all_oneCell_toArray (fun v hv => ?_)
    simp only [statW, List.mem_cons, List.not_mem_nil, or_false] at hv
    rcases hv with rfl | rfl | rfl | rfl | rfl | rfl | rfl | rfl | rfl | rfl <;> rfl
  clear HM
  unfold statW at *
  go_wp2_with (first | (go_at_call 57; refine (must_no _).mono ?_; rintro e w2 ⟨rfl, hw2⟩; rw [hw2]; clear hw2 w2) | (refine wpList_store_mid rfl 54 _ _ rfl w.heap.size 0 _ rfl rfl HTh.out infSt HOne.out ?_; rw [hwE.out]))
  exact bodyPost_ret (ret_tstat HRng.out rfl _ rfl) rfl ⟨⟨bl, rfl⟩, HFin.out⟩
end Go.Proofs.YtpcbpikhiooafaaGreatDoor
