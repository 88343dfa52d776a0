/- Several texts of this claim, one behind the other, in their order. -/
import Derived.Test.YtfmemkninmpfjaaGreatDoorM17
import Derived.Test.YtfmemkninmpfjaaGreatDoorM11
import Derived.Test.YtfmemkninmpfjaaGreatDoorRd2
import Derived.Laws.AppendOwn
import Derived.Test.YtfmemkninmpfjaaGreatDoorM14
import Derived.Deep.RegionHeld
/- Slots are written: the walk of write. Conditions: the table lies in memory as 'Tb' says, the slots as said; the place is within a file. -/
namespace Go.Proofs.YtfmemkninmpfjaaGreatDoor
open Go.RowKit
/-- The slots' bytes, one behind the other. -/
def sBytes (ss : List (Nat → Nat)) : List Nat := ss.flatMap fun s => (List.range 32).map s
theorem sBytes_len (ss : List (Nat → Nat)) : (sBytes ss).length = 32 * ss.length := by
  induction ss with
  | nil => rfl
  | cons s r ih => simp only [sBytes, List.flatMap_cons, List.length_append, List.length_map, List.length_range, List.length_cons] at ih ⊢; omega
theorem sBytes_snoc (ss : List (Nat → Nat)) (k : Nat) (hk : k < ss.length) : sBytes (ss.take (k + 1)) = sBytes (ss.take k) ++ (List.range 32).map ss[k] := by
  rw [List.take_succ_eq_append_getElem hk, sBytes, List.flatMap_append]; simp [sBytes]
/-- A list of slots in memory. -/
def Slots (W : World) (g go : Nat) (ss : List (Nat → Nat)) : Prop := (∀ s ∈ ss, ∀ j, s j < 256) ∧ ∀ (k : Nat) s, ss[k]? = some s → ∀ j, j < 32 → W.cell? ⟨g, go + k * 32 + j, none⟩ = some (.int .u8 (s j : Nat))
def slV (s : Nat → Nat) : List Value := (List.range 32).map fun j => .int .u8 (s j : Nat)
theorem slV_slot {s : Nat → Nat} (h : ∀ j, s j < 256) : Slot (slV s) s := ⟨by simp [slV], fun j hj => by simp [slV, hj], h⟩
theorem Slots.range {W : World} {g go : Nat} {ss : List (Nat → Nat)} (h : Slots W g go ss) {k : Nat} (hk : k < ss.length) : W.rangeAt g (go + k * 32) (slV ss[k]) := fun j v hv => by
  have hj : j < 32 := by have := (List.getElem?_eq_some_iff.1 hv).1; simpa [slV] using this
  rw [h.2 k ss[k] (List.getElem?_eq_getElem hk) j hj]
  simp [slV, hj] at hv
  rw [hv]
theorem mod_of_below0 {w w' : World} (h : Below w.heap.size w w') : Mod (fun _ => False) w w' := ⟨h.os, h.tape, h.output, h.size, fun k hk _ => h.block k hk⟩
theorem mod_join {s : Nat → Prop} {a w w' : World} (h : Mod (fun _ => False) a w) (k : Mod s w w') : Mod s a w' :=
  ⟨k.os.trans h.os, k.tape.trans h.tape, k.output.trans h.output, Nat.le_trans h.size k.size, fun j hj hn => (k.block j (Nat.lt_of_lt_of_le hj h.size) hn).trans (h.block j hj (fun h => h))⟩
section
variable {w : World} {t q b c n N : Nat} {clk : Int} {F : Nat → Nat → Int} {R : Nat → Nat → Nat} {u : Nat → Bool} {D : Nat → Nat}
set_option maxRecDepth 100000 in
set_option maxHeartbeats 2000000 in
theorem sWrite (T : Tb w t q b c n N clk F R u D) (i k g go cap : Nat) (ss : List (Nat → Nat)) (hi : i < N) (hz : F i 0 ≠ 0) (hs0 : 0 < ss.length) (hsl : ss.length ≤ 1000) (hk : k * 32 < 17792) (hss : Slots w g go ss) (hgl : g < w.heap.size)
    (m : Nat) (hm : m = min (32 * ss.length) (17792 - k * 32)) (st : WS) (hst : st = wrun n (k * 32) ((sBytes ss).take m) ((sBytes ss).take m).length ⟨0, u, D, R i⟩)
    (rc : Int) (hrc : rc = if st.done = 0 then 28 else 0) (F' : Nat → Nat → Int) (hF' : F' = if st.done = 0 then F else upd2 (upd2 (upd2 F i 5 (max (F i 5) (((k * 32 : Nat) : Int) + st.done))) i 7 clk) i 8 clk) :
    Calls Tryz.prog 66 #[.pointer (some ⟨t, 0, none⟩), .int .i64 ((i : Int) + 1), .int .i64 k, .slice (some ⟨g, go, none⟩) ss.length cap] w fun e w' =>
      e = .returned (.int .i64 rc) ∧ Mod (fun k => k = b ∨ k = c ∨ k = q) w w' ∧
      Tb w' t q b c n N clk F' (setN R i st.R) st.u st.D := by
  obtain ⟨i0, hi0, hz0, hz1, hz2⟩ := inf5i
  have hzs := zvSl
  have HT : Hid (Tb w t q b c n N clk F R u D) := T
  have HSS : Hid (Slots w g go ss) := hss
  have HZ : Hid (F i 0 ≠ 0 ∧ st = wrun n (k * 32) ((sBytes ss).take m) ((sBytes ss).take m).length ⟨0, u, D, R i⟩ ∧ m = min (32 * ss.length) (17792 - k * 32)) := ⟨hz, hst, hm⟩
  have hcap : cap ≤ cap := Nat.le_refl _
  have HRC : Hid ((rc = if st.done = 0 then 28 else 0) ∧ F' = if st.done = 0 then F else upd2 (upd2 (upd2 F i 5 (max (F i 5) (((k * 32 : Nat) : Int) + st.done))) i 7 clk) i 8 clk) := ⟨hrc, hF'⟩
  clear T hss hz hst hm hrc hF'
  go_enter Tryz.func66, Tryz.ntmps66
  go_wp2
  go_loopw [9, 16] (fun v x W => ∃ j : Nat, j ≤ ss.length ∧ x = .int .i64 j ∧ Hid (W.ownsRow w.heap.size 5 1 v (32 * j) ((sBytes (ss.take j)).map byteV)) ∧ Hid (Below w.heap.size w W)) (fun _ x _ => ss.length - (intOf x).toNat)
  case atStart => exact ⟨0, Nat.zero_le _, rfl, World.ownsRow_nil _ _ _ _, Below.refl _ _⟩
  case round =>
    obtain ⟨j, hj, rfl, HO, HB⟩ := hrel
    by_cases hlt : j < ss.length
    · have HSl : Hid (Slot (slV ss[j]) ss[j]) := slV_slot (HSS.out.1 _ (List.getElem_mem _))
      have HR : Hid (wr.rangeAt g (go + j * 32) (slV ss[j])) := fun a v hv => (HB.out.cell (p := ⟨g, go + j * 32 + a, none⟩) hgl).trans (HSS.out.range hlt a v hv)
      have HTh := (show Hid _ from there_slot wr (slV ss[j]) HSl.out)
      have HN : Hid (∀ a v, (slV ss[j])[a]? = some v → (wr.alloc (.cells (slV ss[j]).toArray 109)).cell? ((⟨wr.heap.size, 0, none⟩ : Addr).add a) = some v) := fun a v hv => by rw [Addr.add_mid]; exact range_new wr (slV ss[j]) 109 a v hv
      have HL : Hid ((slV ss[j]).length = 32 * 1) := HSl.out.len
      have hbs := HB.out.size
      have HE : Hid ((sBytes (ss.take (j + 1))).map byteV = (sBytes (ss.take j)).map byteV ++ slV ss[j]) := by
        show _ = _
        rw [sBytes_snoc ss j hlt, List.map_append]; simp [slV, byteV]
      go_wp2_with (first
        | (refine wpList_load_mid rfl 109 _ rfl g (go + j * 32) rfl (slV ss[j]) _ HR.out undS rfl HSl.out.inf ?_)
        | (refine wpList_store_mid rfl 109 _ _ rfl wr.heap.size 0 (slV ss[j]).toArray rfl rfl HTh.out HSl.out.infA (all_oneCell_toArray HSl.out.one) ?_; rw [set_slot wr _ HSl.out])
        | (at_builtin; refine wpList_append_own _ rfl _ _ 28 rfl w.heap.size 5 i0 (.int .u8 0) 1 1 undB hi0 hz0 hz1 hz2 rfl (by decide) _ _ _ rfl (HO.out.alloc _) ⟨wr.heap.size, 0, none⟩ 32 32 (slV ss[j]) rfl HL.out HN.out HSl.out.one (by unfold maxLen; omega) (by omega) (by simp; omega) ?_; intro v' w2 hown' hgrow _; have HB2 : Hid (Below w.heap.size w w2) := (HB.out.alloc hbs _).grown hgrow (by simp; omega) (fun a ea => (HO.out.lt a ea).1); have HO2 : Hid (w2.ownsRow w.heap.size 5 1 v' (32 * (j + 1)) ((sBytes (ss.take (j + 1))).map byteV)) := (by show World.ownsRow _ _ _ _ _ _ _; rw [HE.out, show 32 * (j + 1) = 32 * j + 32 by omega]; exact hown'); clear hown' hgrow))
      exact ⟨⟨j + 1, by omega, by go_num, HO2, HB2⟩, by simp [intOf]; omega⟩
    · obtain rfl : j = ss.length := by omega
      obtain ⟨gb, cb, rfl, hgb, hcb, HSr⟩ : ∃ gb cb, u9 = .slice (some ⟨gb, 0, none⟩) (32 * ss.length) cb ∧ w.heap.size ≤ gb ∧ (32 * ss.length ≤ cb ∧ cb ≤ maxLen) ∧ Hid (Src wr gb 0 (sBytes ss)) := by
        have hO := HO.out
        rw [List.take_of_length_le (Nat.le_refl _)] at hO
        rcases hO.2 with ⟨_, h0⟩ | ⟨gb, cb, cur, rfl, hb1, hb2, hb3, hb4, hb5, hb6⟩
        · omega
        · refine ⟨gb, cb, rfl, hb1, ⟨hb3, hb4⟩, ⟨fun a x hx => ?_, fun x hx => ?_⟩⟩
          · have hc := hO.cellAt a (by have := (List.getElem?_eq_some_iff.1 hx).1; rw [sBytes_len] at this; omega)
            rw [Nat.zero_add, hc, List.getElem?_map, hx]; rfl
          · obtain ⟨s, hs, hx'⟩ := List.mem_flatMap.1 hx
            obtain ⟨a, _, rfl⟩ := List.mem_map.1 hx'
            exact HSS.out.1 s hs a
      have HTr : Hid (Tb wr t q b c n N clk F R u D) := HT.out.new (mod_of_below0 HB.out)
      have HW : Hid (Calls Tryz.prog 37 #[.pointer (some ⟨t, 0, none⟩), .int .i64 ((i : Int) + 1), .int .i64 ((k : Int) * 32), .slice (some ⟨gb, 0, none⟩) (32 * ss.length) cb] wr (WPost t q b c n N clk F R i (k * 32) st wr)) := by
        have h := twrite HTr.out i (k * 32) gb 0 cb (sBytes ss) hi HZ.out.1 (by rw [sBytes_len]; omega) hk (by rw [sBytes_len]; exact hcb.1) (by have := hcb.2; unfold maxLen at this; omega) HSr.out (by have := HT.out.S.lt_b; omega) (by have := HT.out.S.lt_c; omega) (by have := HT.out.lt_q; omega) m (by rw [sBytes_len]; exact HZ.out.2.2)
        rw [sBytes_len, ← HZ.out.2.1] at h
        show Calls _ _ _ _ _
        rw [show ((k : Int) * 32) = ((k * 32 : Nat) : Int) by omega]
        exact h
      have HMd : Hid (Mod (fun _ => False) w wr) := mod_of_below0 HB.out
      go_wp2_with fail
      refine HW.out.mono ?_
      unfold WPost
      by_cases h0 : st.done = 0
      · rintro e w5 h5
        rw [if_pos h0] at h5
        obtain ⟨rfl, hT5, hM5⟩ := h5
        have H0 : Hid (st.done = 0) := h0
        have HF : Hid (Mod (fun k => k = b ∨ k = c ∨ k = q) w w5 ∧ Tb w5 t q b c n N clk F (setN R i st.R) st.u st.D) := ⟨mod_join HMd.out hM5, hT5⟩
        clear hT5 hM5 h0
        go_wp2
        go_ret
        exact ⟨by rw [HRC.out.1, if_pos H0.out]; rfl, HF.out.1, by rw [HRC.out.2, if_pos H0.out]; exact HF.out.2⟩
      · rintro e w5 h5
        rw [if_neg h0] at h5
        obtain ⟨rfl, hT5, hM5⟩ := h5
        have H0 : Hid (¬ st.done = 0) := h0
        have HF : Hid (Mod (fun k => k = b ∨ k = c ∨ k = q) w w5 ∧ Tb w5 t q b c n N clk (upd2 (upd2 (upd2 F i 5 (max (F i 5) (((k * 32 : Nat) : Int) + st.done))) i 7 clk) i 8 clk) (setN R i st.R) st.u st.D) := ⟨mod_join HMd.out hM5, hT5⟩
        clear hT5 hM5 h0
        go_wp2
        go_ret
        exact ⟨by rw [HRC.out.1, if_neg H0.out]; rfl, HF.out.1, by rw [HRC.out.2, if_neg H0.out]; exact HF.out.2⟩
end
end Go.Proofs.YtfmemkninmpfjaaGreatDoor
/- A directory's content: the walks of look, read and readFor, of a directory that is in use. Conditions: the table lies in memory as 'Tb' says; what Stat tells. -/
namespace Go.Proofs.YtfmemkninmpfjaaGreatDoor
open Go.RowKit
/-- The ten fields that Stat tells of inode i + 1. -/
def statW (F : Nat → Nat → Int) (bl i : Nat) : List Value := [.int .i64 ((i : Int) + 1), .int .i64 (F i 3), .int .i64 (F i 1), .int .i64 (F i 2), .int .i64 (F i 5), .int .i64 (bl : Nat), .int .i64 (F i 0), .int .i64 (F i 6), .int .i64 (F i 7), .int .i64 (F i 8)]
/-- What Stat tells, in whatever later world. -/
def StatOf (F : Nat → Nat → Int) (t i : Nat) (w : World) : Prop := Calls Tryz.prog 44 #[.pointer (some ⟨t, 0, none⟩), .int .i64 ((i : Int) + 1)] w fun e w' => (∃ bl : Nat, e = .returned (.tuple #[.agg (statW F bl i).toArray, .int .i64 0])) ∧ Mod (fun _ => False) w w'
theorem infSt : (Tryz.prog.info? 91).map (·.size) = some 10 := by kernel_rfl
theorem mod_new_cells {w w1 : World} {o : Obj} (h : Mod (fun _ => False) (w.alloc o) w1) {B : Nat} (hB : w.heap.size ≤ B) (L : List Value) (k : Nat) : Mod (fun _ => False) w (w1.setCells B k L) :=
  ⟨(below_setCells (Below.refl w.heap.size w1) hB L k).os.trans h.os, (below_setCells (Below.refl w.heap.size w1) hB L k).tape.trans h.tape, (below_setCells (Below.refl w.heap.size w1) hB L k).output.trans h.output, by rw [size_setCells]; have := h.size; simp at this; omega, fun j hj hn => by
    rw [setCells_other _ _ _ (by omega)]
    exact (h.block j (by simp; omega) hn).trans (Below.heap_alloc _ _ _ hj)⟩
theorem ret_look {W : World} {B : Nat} {L : List Value} (h : W.rangeAt B 0 L) (hl : L.length = 10) (tmps : Array Value) (h4 : tmps[4]?.getD undef = .pointer (some ⟨B, 0, none⟩)) (h5 : tmps[5]?.getD undef = .int .i64 0) :
    (results Tryz.f61 tmps).run Tryz.prog W = .ok (.tuple #[.agg L.toArray, .int .i64 0]) W := by
  have h2 := run_loadVar_mid (P := Tryz.prog) W B 0 91 L _ h Tryz.underlying91 rfl (by rw [hl]; exact infSt)
  unfold results
  rw [Tryz.results61]
  simp [h4, h5, asAddr, Result.andThen, h2]
set_option maxRecDepth 100000 in
set_option maxHeartbeats 2000000 in
theorem sLook (F : Nat → Nat → Int) (t i : Nat) (w : World) (hS : ∀ o, StatOf F t i (w.alloc o)) (hd : (bits .and .i64 (F i 0) 61440 == 16384) = true) : Calls Tryz.prog 61 #[.pointer (some ⟨t, 0, none⟩), .int .i64 ((i : Int) + 1)] w fun e w' => (∃ bl : Nat, e = .returned (.tuple #[.agg (statW F bl i).toArray, .int .i64 0])) ∧ Mod (fun _ => False) w w' := by
  have HS : Hid (∀ o, StatOf F t i (w.alloc o)) := hS
  clear hS
  go_enter Tryz.func61, Tryz.ntmps61
  go_wp2_with fail
  refine (HS.out _).mono ?_
  rintro e w1 ⟨⟨bl, rfl⟩, HM⟩
  have HM' := (show Hid _ from HM)
  have hws : w.heap.size < w1.heap.size := by have := HM.size; simp at this; omega
  have HTh : Hid ((w1.alloc (.cells (statW F bl i).toArray 91)).there w.heap.size 0 (statW F bl i).toArray.size) := fun j hj => by
    have h0 := there_new w 91 #[.int .i64 0, .int .i64 0, .int .i64 0, .int .i64 0, .int .i64 0, .int .i64 0, .int .i64 0, .int .i64 0, .int .i64 0, .int .i64 0] (n := 10) rfl j hj
    rw [World.cell?_alloc_past _ _ _ hws, World.frozen?_alloc_past _ _ _ hws, HM.cell (p := ⟨w.heap.size, 0 + j, none⟩) (by simp) (fun h => h), HM.frozen (p := ⟨w.heap.size, 0 + j, none⟩) (by simp) (fun h => h)]
    exact h0
  obtain ⟨wE, hwE⟩ : ∃ wE, Hid ((w1.alloc (.cells (statW F bl i).toArray 91)).setCells w.heap.size 0 (statW F bl i) = wE) := ⟨_, rfl⟩
  have HRng : Hid (wE.rangeAt w.heap.size 0 (statW F bl i)) := by
    show World.rangeAt _ _ _ _
    rw [← hwE.out]; exact World.rangeAt_setCells_same _ _ _ _ (by have := HTh.out; simpa using this)
  have HFin : Hid (Mod (fun _ => False) w wE) := by
    rw [← hwE.out]
    exact mod_new_cells (HM.alloc _) (Nat.le_refl _) _ _
  have HOne : Hid ((statW F bl i).toArray.all (·.oneCell') = true) := by
    show _ = _
    refine all_oneCell_toArray (fun v hv => ?_)
    simp only [statW, List.mem_cons, List.not_mem_nil, or_false] at hv
    rcases hv with rfl | rfl | rfl | rfl | rfl | rfl | rfl | rfl | rfl | rfl <;> rfl
  clear HM
  unfold statW at *
  go_wp2_with (refine wpList_store_mid rfl 91 _ _ rfl w.heap.size 0 _ rfl rfl HTh.out infSt HOne.out ?_; rw [hwE.out])
  exact bodyPost_ret (ret_look HRng.out rfl _ rfl rfl) rfl ⟨⟨bl, rfl⟩, HFin.out⟩
set_option maxRecDepth 100000 in
set_option maxHeartbeats 2000000 in
theorem sRead {w : World} {t q b c n N : Nat} {clk : Int} {F : Nat → Nat → Int} {R : Nat → Nat → Nat} {u : Nat → Bool} {D : Nat → Nat} (T : Tb w t q b c n N clk F R u D) (i sz : Nat) (hi : i < N) (hz : F i 0 ≠ 0) (hs : F i 5 = (sz : Int)) (hsz : 0 < sz) (hS : ∀ W, Mod (fun _ => False) w W → StatOf F t i W) (hd : (bits .and .i64 (F i 0) 61440 == 16384) = true) :
    Calls Tryz.prog 54 #[.pointer (some ⟨t, 0, none⟩), .int .i64 ((i : Int) + 1)] w fun e w' => ∃ g, e = .returned (.tuple #[.slice (some ⟨g, 0, none⟩) sz sz, .int .i64 0]) ∧ Cont w' (some ⟨g, 0, none⟩) sz sz (rd u D (R i)) ∧ Mod (fun _ => False) w w' := by
  have HT : Hid (Tb w t q b c n N clk F R u D) := T
  have HS := (show Hid (∀ W, Mod (fun _ => False) w W → StatOf F t i W) from hS)
  have HZ := (show Hid (F i 0 ≠ 0 ∧ F i 5 = (sz : Int)) from ⟨hz, hs⟩)
  have h17 := (T.sz i).2
  rw [hs] at h17
  clear T hS hz hs
  go_enter Tryz.func54, Tryz.ntmps54
  go_wp2_with fail
  refine (sLook F t i _ (fun o => HS.out _ ((Mod.refl _ w).alloc o)) hd).mono ?_
  rintro e w1 ⟨⟨bl, rfl⟩, HM⟩
  have HM1 : Hid (∀ o, Mod (fun _ => False) w (w1.alloc o)) := fun o => HM.alloc o
  clear HM
  unfold statW
  rw [HZ.out.2]
  go_wp2_with fail
  refine (tread (HT.out.new (HM1.out _)) i 0 sz sz hi HZ.out.1 HZ.out.2 hsz (by omega) sz (by omega)).mono ?_
  rintro e w2 ⟨rfl, H2⟩
  have HC : Hid (Cont w2 (some ⟨w1.heap.size + 1, 0, none⟩) sz sz (rd u D (R i))) := by
    refine ⟨Nat.le_refl _, by omega, fun j => ?_, fun _ => ⟨_, 0, rfl, fun j hj => ?_⟩⟩
    · unfold rd; split
      · exact HT.out.S.dl _
      · omega
    · have := H2.at_ j hj
      rw [World.size_alloc, if_pos hj, Nat.zero_add] at this
      rw [Nat.zero_add]; exact this
  have HM2 : Hid (Mod (fun _ => False) w w2) := (HM1.out _).trans H2.mod
  clear H2
  go_wp2
  go_ret2
  exact ⟨_, rfl, HC.out, HM2.out⟩
set_option maxRecDepth 100000 in
set_option maxHeartbeats 2000000 in
theorem sReadFor {w : World} {t q b c n N : Nat} {clk : Int} {F : Nat → Nat → Int} {R : Nat → Nat → Nat} {u : Nat → Bool} {D : Nat → Nat} (T : Tb w t q b c n N clk F R u D) (i sz : Nat) (l : List UInt8) (hi : i < N) (hz : F i 0 ≠ 0) (hs : F i 5 = (sz : Int)) (hsz : 0 < sz) (hS : ∀ W, Mod (fun _ => False) w W → StatOf F t i W) (hd : (bits .and .i64 (F i 0) 61440 == 16384) = true) (hl : l.length < 4294967281) (ha : ∀ x ∈ l, x.toNat < 128) :
    Calls Tryz.prog 58 #[.pointer (some ⟨t, 0, none⟩), .int .i64 ((i : Int) + 1), .string ⟨l.toArray⟩] w fun e w' => ∃ g, e = .returned (.tuple #[.slice (some ⟨g, 0, none⟩) sz sz, .int .i64 (chk l)]) ∧ Cont w' (some ⟨g, 0, none⟩) sz sz (rd u D (R i)) ∧ Mod (fun _ => False) w w' := by
  have HR := (show Hid (Calls _ _ _ _ _) from sRead T i sz hi hz hs hsz hS hd)
  clear T hS hz hs
  go_enter Tryz.func58, Tryz.ntmps58
  go_wp2_with fail
  refine Calls.mono (show Calls _ _ _ _ _ from HR.out) ?_
  rintro e w1 ⟨g, rfl, HC, HM⟩
  have HC' : Hid (Cont w1 (some ⟨g, 0, none⟩) sz sz (rd u D (R i))) := HC
  have HM' : Hid (Mod (fun _ => False) w w1) := HM
  clear HC HM
  go_wp2_with fail
  refine (sCheck l _ hl ha).mono ?_
  rintro e w2 ⟨rfl, HB⟩
  have HF : Hid (Cont w2 (some ⟨g, 0, none⟩) sz sz (rd u D (R i)) ∧ Mod (fun _ => False) w w2) := ⟨HC'.out.keep (own := fun _ => False) (KC.of_below HB) (fun _ _ h => h), HM'.out.trans (mod_of_below0 HB)⟩
  clear HB
  go_wp2
  go_ret2
  exact ⟨_, rfl, HF.out⟩
end Go.Proofs.YtfmemkninmpfjaaGreatDoor
/- What Stat tells. Condition: the table lies in memory as 'Tb' says. -/
namespace Go.Proofs.YtfmemkninmpfjaaGreatDoor
open Go.RowKit
def SeeN (F : Nat → Nat → Int) (q i : Nat) (W : World) : Prop :=
  W.cell? ⟨q, i * 17 + 3, none⟩ = some (.int .i64 (F i 3)) ∧ W.cell? ⟨q, i * 17 + 1, none⟩ = some (.int .i64 (F i 1)) ∧ W.cell? ⟨q, i * 17 + 2, none⟩ = some (.int .i64 (F i 2)) ∧ W.cell? ⟨q, i * 17 + 5, none⟩ = some (.int .i64 (F i 5)) ∧
    W.cell? ⟨q, i * 17, none⟩ = some (.int .i64 (F i 0)) ∧ W.cell? ⟨q, i * 17 + 6, none⟩ = some (.int .i64 (F i 6)) ∧ W.cell? ⟨q, i * 17 + 7, none⟩ = some (.int .i64 (F i 7)) ∧ W.cell? ⟨q, i * 17 + 8, none⟩ = some (.int .i64 (F i 8))
theorem ret_stat {W : World} {B : Nat} {L : List Value} (h : W.rangeAt B 0 L) (hl : L.length = 10) (tmps : Array Value) (h4 : tmps[4]?.getD undef = .pointer (some ⟨B, 0, none⟩)) (h5 : tmps[5]?.getD undef = .int .i64 0) :
    (results Tryz.f44 tmps).run Tryz.prog W = .ok (.tuple #[.agg L.toArray, .int .i64 0]) W := by
  have h2 := run_loadVar_mid (P := Tryz.prog) W B 0 91 L _ h Tryz.underlying91 rfl (by rw [hl]; exact infSt)
  unfold results
  rw [Tryz.results44]
  simp [h4, h5, asAddr, Result.andThen, h2]
theorem row_slice {w : World} {B e n : Nat} {v : Value} {xs : List Value} (h : w.ownsRow B e 1 v n xs) : ∃ a c, v = .slice a n c := by
  rcases h.2 with ⟨rfl, rfl⟩ | ⟨g, cap, cur, rfl, _⟩
  · exact ⟨_, _, rfl⟩
  · exact ⟨_, _, rfl⟩
section
variable {w : World} {t q b c n N : Nat} {clk : Int} {F : Nat → Nat → Int} {R : Nat → Nat → Nat} {u : Nat → Bool} {D : Nat → Nat}
theorem Tb.see (T : Tb w t q b c n N clk F R u D) {i : Nat} (hi : i < N) : SeeN F q i w :=
  ⟨T.cf i 3 hi (by omega), T.cf i 1 hi (by omega), T.cf i 2 hi (by omega), T.cf i 5 hi (by omega), T.cf i 0 hi (by omega), T.cf i 6 hi (by omega), T.cf i 7 hi (by omega), T.cf i 8 hi (by omega)⟩
set_option maxRecDepth 100000 in
set_option maxHeartbeats 4000000 in
theorem tstat (T : Tb w t q b c n N clk F R u D) (i : Nat) (hi : i < N) (hz : F i 0 ≠ 0) : StatOf F t i w := by
  have HT : Hid (Tb w t q b c n N clk F R u D) := T
  have HZ : Hid (F i 0 ≠ 0) := hz
  have HM0 : Hid (∀ o, Mod (fun _ => False) w ((w.alloc o).drewN 1)) := fun o => ((Mod.refl _ w).alloc o).drewN 1
  have HLt : Hid (w.heap.size < ((w.alloc (.cells #[.int .i64 0, .int .i64 0, .int .i64 0, .int .i64 0, .int .i64 0, .int .i64 0, .int .i64 0, .int .i64 0, .int .i64 0, .int .i64 0] 91)).drewN 1).heap.size) := by show w.heap.size < (w.alloc _).heap.size; simp
  have HK0 : Hid (∀ j, j < 10 → ((w.alloc (.cells #[.int .i64 0, .int .i64 0, .int .i64 0, .int .i64 0, .int .i64 0, .int .i64 0, .int .i64 0, .int .i64 0, .int .i64 0, .int .i64 0] 91)).drewN 1).cell? ⟨w.heap.size, j, none⟩ = some (.int .i64 0)) := fun j hj => by
    show (w.alloc _).cell? _ = _
    rw [World.cell?_alloc_at _ _ _ _ rfl]
    obtain rfl | rfl | rfl | rfl | rfl | rfl | rfl | rfl | rfl | rfl : j = 0 ∨ j = 1 ∨ j = 2 ∨ j = 3 ∨ j = 4 ∨ j = 5 ∨ j = 6 ∨ j = 7 ∨ j = 8 ∨ j = 9 := by omega
    all_goals rfl
  have HKf : Hid (∀ o, ((w.alloc (.cells #[.int .i64 0, .int .i64 0, .int .i64 0, .int .i64 0, .int .i64 0, .int .i64 0, .int .i64 0, .int .i64 0, .int .i64 0, .int .i64 0] 91)).drewN 1).frozen? ⟨w.heap.size, o, none⟩ = false) := fun o => World.frozen?_alloc_at _ _ _ _ rfl
  have hqw := T.lt_q
  have hcq : ∀ (W : World) (o x : Nat) (v : Value), (W.setCell ⟨w.heap.size, o, none⟩ v).cell? ⟨q, x, none⟩ = W.cell? ⟨q, x, none⟩ := fun W o x v => setCell_out _ _ _ _ _ (fun e => by have h1 : q = w.heap.size := e; omega)
  clear T hz
  unfold StatOf
  go_enter Tryz.func44, Tryz.ntmps44
  go_wp2_with (go_at_call 76; refine (find_ok (HT.out.new ((Mod.refl _ w).alloc _)) i hi HZ.out).mono ?_; rintro e w1 ⟨rfl, hw1⟩; rw [hw1]; clear hw1 w1)
  have hS0 : SeeN F q i ((w.alloc (.cells #[.int .i64 0, .int .i64 0, .int .i64 0, .int .i64 0, .int .i64 0, .int .i64 0, .int .i64 0, .int .i64 0, .int .i64 0, .int .i64 0] 91)).drew) := (HT.out.new (HM0.out _)).see hi
  unfold SeeN at hS0
  go_region_held (fun W' => W'.cell? ⟨q, i * 17 + 3, none⟩ = some (.int .i64 (F i 3)) ∧ W'.cell? ⟨q, i * 17 + 1, none⟩ = some (.int .i64 (F i 1)) ∧ W'.cell? ⟨q, i * 17 + 2, none⟩ = some (.int .i64 (F i 2)) ∧ W'.cell? ⟨q, i * 17 + 5, none⟩ = some (.int .i64 (F i 5)) ∧ W'.cell? ⟨q, i * 17, none⟩ = some (.int .i64 (F i 0)) ∧ W'.cell? ⟨q, i * 17 + 6, none⟩ = some (.int .i64 (F i 6)) ∧ W'.cell? ⟨q, i * 17 + 7, none⟩ = some (.int .i64 (F i 7)) ∧ W'.cell? ⟨q, i * 17 + 8, none⟩ = some (.int .i64 (F i 8))) (first | with_reducible exact hS1 | with_reducible exact hS0 | (simp only [hcq]; with_reducible exact hS1))
    (first | (go_at_call 87; refine (owned_any (HT.out.new (HM0.out _)) i hi).mono ?_; rintro e w1 ⟨v, rfl, hv, HM1⟩; have hS1 := (HT.out.new ((HM0.out _).trans HM1)).see hi; unfold SeeN at hS1; obtain ⟨a1, c1, rfl⟩ := row_slice hv; clear hv; have k0 : w1.cell? ⟨w.heap.size, 0, none⟩ = some (.int .i64 0) := (HM1.cell (p := ⟨w.heap.size, 0, none⟩) HLt.out (fun h => h)).trans (HK0.out 0 (by omega)); have k1 : w1.cell? ⟨w.heap.size, 1, none⟩ = some (.int .i64 0) := (HM1.cell (p := ⟨w.heap.size, 1, none⟩) HLt.out (fun h => h)).trans (HK0.out 1 (by omega)); have k2 : w1.cell? ⟨w.heap.size, 2, none⟩ = some (.int .i64 0) := (HM1.cell (p := ⟨w.heap.size, 2, none⟩) HLt.out (fun h => h)).trans (HK0.out 2 (by omega)); have k3 : w1.cell? ⟨w.heap.size, 3, none⟩ = some (.int .i64 0) := (HM1.cell (p := ⟨w.heap.size, 3, none⟩) HLt.out (fun h => h)).trans (HK0.out 3 (by omega)); have k4 : w1.cell? ⟨w.heap.size, 4, none⟩ = some (.int .i64 0) := (HM1.cell (p := ⟨w.heap.size, 4, none⟩) HLt.out (fun h => h)).trans (HK0.out 4 (by omega)); have k5 : w1.cell? ⟨w.heap.size, 5, none⟩ = some (.int .i64 0) := (HM1.cell (p := ⟨w.heap.size, 5, none⟩) HLt.out (fun h => h)).trans (HK0.out 5 (by omega)); have k6 : w1.cell? ⟨w.heap.size, 6, none⟩ = some (.int .i64 0) := (HM1.cell (p := ⟨w.heap.size, 6, none⟩) HLt.out (fun h => h)).trans (HK0.out 6 (by omega)); have k7 : w1.cell? ⟨w.heap.size, 7, none⟩ = some (.int .i64 0) := (HM1.cell (p := ⟨w.heap.size, 7, none⟩) HLt.out (fun h => h)).trans (HK0.out 7 (by omega)); have k8 : w1.cell? ⟨w.heap.size, 8, none⟩ = some (.int .i64 0) := (HM1.cell (p := ⟨w.heap.size, 8, none⟩) HLt.out (fun h => h)).trans (HK0.out 8 (by omega)); have k9 : w1.cell? ⟨w.heap.size, 9, none⟩ = some (.int .i64 0) := (HM1.cell (p := ⟨w.heap.size, 9, none⟩) HLt.out (fun h => h)).trans (HK0.out 9 (by omega)); have kf : ∀ o, w1.frozen? ⟨w.heap.size, o, none⟩ = false := (fun o => (HM1.frozen (p := ⟨w.heap.size, o, none⟩) HLt.out (fun h => h)).trans (HKf.out o)); have HM2 : Hid (Mod (fun _ => False) w w1) := (HM0.out _).trans HM1; have HK1 : Hid (∀ j, j < 10 → w1.cell? ⟨w.heap.size, j, none⟩ = some (.int .i64 0)) := (fun j hj => (HM1.cell (p := ⟨w.heap.size, j, none⟩) HLt.out (fun h => h)).trans (HK0.out j hj)); clear HM1))
  have HTh : Hid (w1.there w.heap.size 0 10) := fun j hj => ⟨by rw [Nat.zero_add, HK1.out j hj]; rfl, kf _⟩
  have HRg : Hid ((w1.setCells w.heap.size 0 (statW F (ownL u D (R i) 8).length i)).rangeAt w.heap.size 0 (statW F (ownL u D (R i) 8).length i)) := World.rangeAt_setCells_same _ _ _ _ HTh.out
  have HFin : Hid (Mod (fun _ => False) w (w1.setCells w.heap.size 0 (statW F (ownL u D (R i) 8).length i))) := ⟨(below_setCells (Below.refl w.heap.size w1) (Nat.le_refl _) _ 0).os.trans HM2.out.os, (below_setCells (Below.refl w.heap.size w1) (Nat.le_refl _) _ 0).tape.trans HM2.out.tape, (below_setCells (Below.refl w.heap.size w1) (Nat.le_refl _) _ 0).output.trans HM2.out.output, by rw [size_setCells]; exact HM2.out.size, fun k hk hn => by rw [setCells_other _ _ _ (by omega)]; exact HM2.out.block k hk hn⟩
  clear hS0 hS1 kf hcq k0 k1 k2 k3 k4 k5 k6 k7 k8 k9
  go_wp2
  exact bodyPost_ret (ret_stat HRg.out rfl _ rfl rfl) rfl ⟨⟨_, rfl⟩, HFin.out⟩
end
end Go.Proofs.YtfmemkninmpfjaaGreatDoor
