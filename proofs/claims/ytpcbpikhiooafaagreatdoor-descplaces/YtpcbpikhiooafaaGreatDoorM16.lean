/- Several texts of this claim, one behind the other, in their order. -/
import Derived.Test.YtpcbpikhiooafaaGreatDoorM15
import Derived.Test.YtpcbpikhiooafaaGreatDoorWr2
import Derived.Test.YtpcbpikhiooafaaGreatDoorRd2
import Derived.Laws.AppendOwn
import Derived.Test.YtpcbpikhiooafaaGreatDoorM10
/- Slots are written: the walk of write. Conditions: the table lies in memory as 'Tb' says, the slots as said; the place is within a file. -/
namespace Go.Proofs.YtpcbpikhiooafaaGreatDoor
open Go.RowKit
/-- The slots' bytes, one behind the other. -/
def sBytes (ss : List (Nat → Nat)) : List Nat := ss.flatMap fun s => (List.range 32).map s
theorem sBytes_len (ss : List (Nat → Nat)) : (sBytes ss).length = 32 * ss.length := by
  induction ss with
  | nil => rfl
  | cons s r ih => simp only [sBytes, List.flatMap_cons, List.length_append, List.length_map, List.length_range, List.length_cons] at ih ⊢; omega
theorem sBytes_snoc (ss : List (Nat → Nat)) (k : Nat) (hk : k < ss.length) : sBytes (ss.take (k + 1)) = sBytes (ss.take k) ++ (List.range 32).map ss[k] := by
  rw [List.take_succ_eq_append_getElem hk, sBytes, List.flatMap_append]; simp [sBytes]
/-- A list of slots in memory. -/
def Slots (W : World) (g go : Nat) (ss : List (Nat → Nat)) : Prop := (∀ s ∈ ss, ∀ j, s j < 256) ∧ ∀ (k : Nat) s, ss[k]? = some s → ∀ j, j < 32 → W.cell? ⟨g, go + k * 32 + j, none⟩ = some (.int .u8 (s j : Nat))
def slV (s : Nat → Nat) : List Value := (List.range 32).map fun j => .int .u8 (s j : Nat)
theorem slV_slot {s : Nat → Nat} (h : ∀ j, s j < 256) : Slot (slV s) s := ⟨by simp [slV], fun j hj => by simp [slV, hj], h⟩
theorem Slots.range {W : World} {g go : Nat} {ss : List (Nat → Nat)} (h : Slots W g go ss) {k : Nat} (hk : k < ss.length) : W.rangeAt g (go + k * 32) (slV ss[k]) := fun j v hv => by
  have hj : j < 32 := by have := (List.getElem?_eq_some_iff.1 hv).1; simpa [slV] using this
  rw [h.2 k ss[k] (List.getElem?_eq_getElem hk) j hj]
  simp [slV, hj] at hv
  rw [hv]
theorem mod_of_below0 {w w' : World} (h : Below w.heap.size w w') : Mod (fun _ => False) w w' := ⟨h.os, h.tape, h.output, h.size, fun k hk _ => h.block k hk⟩
theorem mod_join {s : Nat → Prop} {a w w' : World} (h : Mod (fun _ => False) a w) (k : Mod s w w') : Mod s a w' :=
  ⟨k.os.trans h.os, k.tape.trans h.tape, k.output.trans h.output, Nat.le_trans h.size k.size, fun j hj hn => (k.block j (Nat.lt_of_lt_of_le hj h.size) hn).trans (h.block j hj (fun h => h))⟩
section
variable {w : World} {t q b c n N : Nat} {clk : Int} {F : Nat → Nat → Int} {R : Nat → Nat → Nat} {u : Nat → Bool} {D : Nat → Nat}
set_option maxRecDepth 100000 in
set_option maxHeartbeats 2000000 in
theorem sWrite (T : Tb w t q b c n N clk F R u D) (i k g go cap : Nat) (ss : List (Nat → Nat)) (hi : i < N) (hz : F i 0 ≠ 0) (hs0 : 0 < ss.length) (hsl : ss.length ≤ 1000) (hk : k * 32 < 17792) (hss : Slots w g go ss) (hgl : g < w.heap.size)
    (m : Nat) (hm : m = min (32 * ss.length) (17792 - k * 32)) (st : WS) (hst : st = wrun n (k * 32) ((sBytes ss).take m) ((sBytes ss).take m).length ⟨0, u, D, R i⟩)
    (rc : Int) (hrc : rc = if st.done = 0 then 28 else 0) (F' : Nat → Nat → Int) (hF' : F' = if st.done = 0 then F else upd2 (upd2 (upd2 F i 5 (max (F i 5) (((k * 32 : Nat) : Int) + st.done))) i 7 clk) i 8 clk) :
    Calls Tryz.prog 35 #[.pointer (some ⟨t, 0, none⟩), .int .i64 ((i : Int) + 1), .int .i64 k, .slice (some ⟨g, go, none⟩) ss.length cap] w fun e w' =>
      e = .returned (.int .i64 rc) ∧ Mod (fun k => k = b ∨ k = c ∨ k = q) w w' ∧
      Tb w' t q b c n N clk F' (setN R i st.R) st.u st.D := by
  obtain ⟨i0, hi0, hz0, hz1, hz2⟩ := inf5i
  have hzs := zvSl
  have HT : Hid (Tb w t q b c n N clk F R u D) := T
  have HSS : Hid (Slots w g go ss) := hss
  have HZ : Hid (F i 0 ≠ 0 ∧ st = wrun n (k * 32) ((sBytes ss).take m) ((sBytes ss).take m).length ⟨0, u, D, R i⟩ ∧ m = min (32 * ss.length) (17792 - k * 32)) := ⟨hz, hst, hm⟩
  have hcap : cap ≤ cap := Nat.le_refl _
  have HRC : Hid ((rc = if st.done = 0 then 28 else 0) ∧ F' = if st.done = 0 then F else upd2 (upd2 (upd2 F i 5 (max (F i 5) (((k * 32 : Nat) : Int) + st.done))) i 7 clk) i 8 clk) := ⟨hrc, hF'⟩
  clear T hss hz hst hm hrc hF'
  go_enter Tryz.func35, Tryz.ntmps35
  go_wp2
  go_loopw [9, 16] (fun v x W => ∃ j : Nat, j ≤ ss.length ∧ x = .int .i64 j ∧ Hid (W.ownsRow w.heap.size 5 1 v (32 * j) ((sBytes (ss.take j)).map byteV)) ∧ Hid (Below w.heap.size w W)) (fun _ x _ => ss.length - (intOf x).toNat)
  case atStart => exact ⟨0, Nat.zero_le _, rfl, World.ownsRow_nil _ _ _ _, Below.refl _ _⟩
  case round =>
    obtain ⟨j, hj, rfl, HO, HB⟩ := hrel
    by_cases hlt : j < ss.length
    · have HSl : Hid (Slot (slV ss[j]) ss[j]) := slV_slot (HSS.out.1 _ (List.getElem_mem _))
      have HR : Hid (wr.rangeAt g (go + j * 32) (slV ss[j])) := fun a v hv => (HB.out.cell (p := ⟨g, go + j * 32 + a, none⟩) hgl).trans (HSS.out.range hlt a v hv)
      have HTh := (show Hid _ from there_slot wr (slV ss[j]) HSl.out)
      have HN : Hid (∀ a v, (slV ss[j])[a]? = some v → (wr.alloc (.cells (slV ss[j]).toArray 97)).cell? ((⟨wr.heap.size, 0, none⟩ : Addr).add a) = some v) := fun a v hv => by rw [Addr.add_mid]; exact range_new wr (slV ss[j]) 97 a v hv
      have HL : Hid ((slV ss[j]).length = 32 * 1) := HSl.out.len
      have hbs := HB.out.size
      have HE : Hid ((sBytes (ss.take (j + 1))).map byteV = (sBytes (ss.take j)).map byteV ++ slV ss[j]) := by
        show _ = _
        rw [sBytes_snoc ss j hlt, List.map_append]; simp [slV, byteV]
      go_wp2_with (first
        | (refine wpList_load_mid rfl 97 _ rfl g (go + j * 32) rfl (slV ss[j]) _ HR.out undS rfl HSl.out.inf ?_)
        | (refine wpList_store_mid rfl 97 _ _ rfl wr.heap.size 0 (slV ss[j]).toArray rfl rfl HTh.out HSl.out.infA (all_oneCell_toArray HSl.out.one) ?_; rw [set_slot wr _ HSl.out])
        | (at_builtin; refine wpList_append_own _ rfl _ _ 22 rfl w.heap.size 5 i0 (.int .u8 0) 1 1 undB hi0 hz0 hz1 hz2 rfl (by decide) _ _ _ rfl (HO.out.alloc _) ⟨wr.heap.size, 0, none⟩ 32 32 (slV ss[j]) rfl HL.out HN.out HSl.out.one (by unfold maxLen; omega) (by omega) (by simp; omega) ?_; intro v' w2 hown' hgrow _; have HB2 : Hid (Below w.heap.size w w2) := (HB.out.alloc hbs _).grown hgrow (by simp; omega) (fun a ea => (HO.out.lt a ea).1); have HO2 : Hid (w2.ownsRow w.heap.size 5 1 v' (32 * (j + 1)) ((sBytes (ss.take (j + 1))).map byteV)) := (by show World.ownsRow _ _ _ _ _ _ _; rw [HE.out, show 32 * (j + 1) = 32 * j + 32 by omega]; exact hown'); clear hown' hgrow))
      exact ⟨⟨j + 1, by omega, by go_num, HO2, HB2⟩, by simp [intOf]; omega⟩
    · obtain rfl : j = ss.length := by omega
      obtain ⟨gb, cb, rfl, hgb, hcb, HSr⟩ : ∃ gb cb, u9 = .slice (some ⟨gb, 0, none⟩) (32 * ss.length) cb ∧ w.heap.size ≤ gb ∧ (32 * ss.length ≤ cb ∧ cb ≤ maxLen) ∧ Hid (Src wr gb 0 (sBytes ss)) := by
        have hO := HO.out
        rw [List.take_of_length_le (Nat.le_refl _)] at hO
        rcases hO.2 with ⟨_, h0⟩ | ⟨gb, cb, cur, rfl, hb1, hb2, hb3, hb4, hb5, hb6⟩
        · omega
        · refine ⟨gb, cb, rfl, hb1, ⟨hb3, hb4⟩, ⟨fun a x hx => ?_, fun x hx => ?_⟩⟩
          · have hc := hO.cellAt a (by have := (List.getElem?_eq_some_iff.1 hx).1; rw [sBytes_len] at this; omega)
            rw [Nat.zero_add, hc, List.getElem?_map, hx]; rfl
          · obtain ⟨s, hs, hx'⟩ := List.mem_flatMap.1 hx
            obtain ⟨a, _, rfl⟩ := List.mem_map.1 hx'
            exact HSS.out.1 s hs a
      have HTr : Hid (Tb wr t q b c n N clk F R u D) := HT.out.new (mod_of_below0 HB.out)
      have HW : Hid (Calls Tryz.prog 63 #[.pointer (some ⟨t, 0, none⟩), .int .i64 ((i : Int) + 1), .int .i64 ((k : Int) * 32), .slice (some ⟨gb, 0, none⟩) (32 * ss.length) cb] wr (WPost t q b c n N clk F R i (k * 32) st wr)) := by
        have h := twrite HTr.out i (k * 32) gb 0 cb (sBytes ss) hi HZ.out.1 (by rw [sBytes_len]; omega) hk (by rw [sBytes_len]; exact hcb.1) (by have := hcb.2; unfold maxLen at this; omega) HSr.out (by have := HT.out.S.lt_b; omega) (by have := HT.out.S.lt_c; omega) (by have := HT.out.lt_q; omega) m (by rw [sBytes_len]; exact HZ.out.2.2)
        rw [sBytes_len, ← HZ.out.2.1] at h
        show Calls _ _ _ _ _
        rw [show ((k : Int) * 32) = ((k * 32 : Nat) : Int) by omega]
        exact h
      have HMd : Hid (Mod (fun _ => False) w wr) := mod_of_below0 HB.out
      go_wp2_with fail
      refine HW.out.mono ?_
      unfold WPost
      by_cases h0 : st.done = 0
      · rintro e w5 h5
        rw [if_pos h0] at h5
        obtain ⟨rfl, hT5, hM5⟩ := h5
        have H0 : Hid (st.done = 0) := h0
        have HF : Hid (Mod (fun k => k = b ∨ k = c ∨ k = q) w w5 ∧ Tb w5 t q b c n N clk F (setN R i st.R) st.u st.D) := ⟨mod_join HMd.out hM5, hT5⟩
        clear hT5 hM5 h0
        go_wp2
        go_ret
        exact ⟨by rw [HRC.out.1, if_pos H0.out]; rfl, HF.out.1, by rw [HRC.out.2, if_pos H0.out]; exact HF.out.2⟩
      · rintro e w5 h5
        rw [if_neg h0] at h5
        obtain ⟨rfl, hT5, hM5⟩ := h5
        have H0 : Hid (¬ st.done = 0) := h0
        have HF : Hid (Mod (fun k => k = b ∨ k = c ∨ k = q) w w5 ∧ Tb w5 t q b c n N clk (upd2 (upd2 (upd2 F i 5 (max (F i 5) (((k * 32 : Nat) : Int) + st.done))) i 7 clk) i 8 clk) (setN R i st.R) st.u st.D) := ⟨mod_join HMd.out hM5, hT5⟩
        clear hT5 hM5 h0
        go_wp2
        go_ret
        exact ⟨by rw [HRC.out.1, if_neg H0.out]; rfl, HF.out.1, by rw [HRC.out.2, if_neg H0.out]; exact HF.out.2⟩
end
end Go.Proofs.YtpcbpikhiooafaaGreatDoor
/- A directory's content: the walks of look, read and readFor, of a directory that is in use. Conditions: the table lies in memory as 'Tb' says; what Stat tells. -/
namespace Go.Proofs.YtpcbpikhiooafaaGreatDoor
open Go.RowKit
/-- The ten fields that Stat tells of inode i + 1. -/
def statW (F : Nat → Nat → Int) (bl i : Nat) : List Value := [.int .i64 ((i : Int) + 1), .int .i64 (F i 3), .int .i64 (F i 1), .int .i64 (F i 2), .int .i64 (F i 5), .int .i64 (bl : Nat), .int .i64 (F i 0), .int .i64 (F i 6), .int .i64 (F i 7), .int .i64 (F i 8)]
/-- What Stat tells, in whatever later world. -/
def StatOf (F : Nat → Nat → Int) (t i : Nat) (w : World) : Prop := Calls Tryz.prog 40 #[.pointer (some ⟨t, 0, none⟩), .int .i64 ((i : Int) + 1)] w fun e w' => (∃ bl : Nat, e = .returned (.tuple #[.agg (statW F bl i).toArray, .int .i64 0])) ∧ Mod (fun _ => False) w w'
theorem infSt : (Tryz.prog.info? 54).map (·.size) = some 10 := by kernel_rfl
theorem mod_new_cells {w w1 : World} {o : Obj} (h : Mod (fun _ => False) (w.alloc o) w1) {B : Nat} (hB : w.heap.size ≤ B) (L : List Value) (k : Nat) : Mod (fun _ => False) w (w1.setCells B k L) :=
  ⟨(below_setCells (Below.refl w.heap.size w1) hB L k).os.trans h.os, (below_setCells (Below.refl w.heap.size w1) hB L k).tape.trans h.tape, (below_setCells (Below.refl w.heap.size w1) hB L k).output.trans h.output, by rw [size_setCells]; have := h.size; simp at this; omega, fun j hj hn => by
    rw [setCells_other _ _ _ (by omega)]
    exact (h.block j (by simp; omega) hn).trans (Below.heap_alloc _ _ _ hj)⟩
theorem ret_look {W : World} {B : Nat} {L : List Value} (h : W.rangeAt B 0 L) (hl : L.length = 10) (tmps : Array Value) (h4 : tmps[4]?.getD undef = .pointer (some ⟨B, 0, none⟩)) (h5 : tmps[5]?.getD undef = .int .i64 0) :
    (results Tryz.f33 tmps).run Tryz.prog W = .ok (.tuple #[.agg L.toArray, .int .i64 0]) W := by
  have h2 := run_loadVar_mid (P := Tryz.prog) W B 0 54 L _ h Tryz.underlying54 rfl (by rw [hl]; exact infSt)
  unfold results
  rw [Tryz.results33]
  simp [h4, h5, asAddr, Result.andThen, h2]
set_option maxRecDepth 100000 in
set_option maxHeartbeats 2000000 in
theorem sLook (F : Nat → Nat → Int) (t i : Nat) (w : World) (hS : ∀ o, StatOf F t i (w.alloc o)) (hd : (bits .and .i64 (F i 0) 61440 == 16384) = true) : Calls Tryz.prog 33 #[.pointer (some ⟨t, 0, none⟩), .int .i64 ((i : Int) + 1)] w fun e w' => (∃ bl : Nat, e = .returned (.tuple #[.agg (statW F bl i).toArray, .int .i64 0])) ∧ Mod (fun _ => False) w w' := by
  have HS : Hid (∀ o, StatOf F t i (w.alloc o)) := hS
  clear hS
  go_enter Tryz.func33, Tryz.ntmps33
  go_wp2_with fail
  refine (HS.out _).mono ?_
  rintro e w1 ⟨⟨bl, rfl⟩, HM⟩
  have HM' := (show Hid _ from HM)
  have hws : w.heap.size < w1.heap.size := by have := HM.size; simp at this; omega
  have HTh : Hid ((w1.alloc (.cells (statW F bl i).toArray 54)).there w.heap.size 0 (statW F bl i).toArray.size) := fun j hj => by
    have h0 := there_new w 54 #[.int .i64 0, .int .i64 0, .int .i64 0, .int .i64 0, .int .i64 0, .int .i64 0, .int .i64 0, .int .i64 0, .int .i64 0, .int .i64 0] (n := 10) rfl j hj
    rw [World.cell?_alloc_past _ _ _ hws, World.frozen?_alloc_past _ _ _ hws, HM.cell (p := ⟨w.heap.size, 0 + j, none⟩) (by simp) (fun h => h), HM.frozen (p := ⟨w.heap.size, 0 + j, none⟩) (by simp) (fun h => h)]
    exact h0
  obtain ⟨wE, hwE⟩ : ∃ wE, Hid ((w1.alloc (.cells (statW F bl i).toArray 54)).setCells w.heap.size 0 (statW F bl i) = wE) := ⟨_, rfl⟩
  have HRng : Hid (wE.rangeAt w.heap.size 0 (statW F bl i)) := by
    show World.rangeAt _ _ _ _
    rw [← hwE.out]; exact World.rangeAt_setCells_same _ _ _ _ (by have := HTh.out; simpa using this)
  have HFin : Hid (Mod (fun _ => False) w wE) := by
    rw [← hwE.out]
    exact mod_new_cells (HM.alloc _) (Nat.le_refl _) _ _
  have HOne : Hid ((statW F bl i).toArray.all (·.oneCell') = true) := by
    show _ = _
    refine all_oneCell_toArray (fun v hv => ?_)
    simp only [statW, List.mem_cons, List.not_mem_nil, or_false] at hv
    rcases hv with rfl | rfl | rfl | rfl | rfl | rfl | rfl | rfl | rfl | rfl <;> rfl
  clear HM
  unfold statW at *
  go_wp2_with (refine wpList_store_mid rfl 54 _ _ rfl w.heap.size 0 _ rfl rfl HTh.out infSt HOne.out ?_; rw [hwE.out])
  exact bodyPost_ret (ret_look HRng.out rfl _ rfl rfl) rfl ⟨⟨bl, rfl⟩, HFin.out⟩
set_option maxRecDepth 100000 in
set_option maxHeartbeats 2000000 in
theorem sRead {w : World} {t q b c n N : Nat} {clk : Int} {F : Nat → Nat → Int} {R : Nat → Nat → Nat} {u : Nat → Bool} {D : Nat → Nat} (T : Tb w t q b c n N clk F R u D) (i sz : Nat) (hi : i < N) (hz : F i 0 ≠ 0) (hs : F i 5 = (sz : Int)) (hsz : 0 < sz) (hS : ∀ W, Mod (fun _ => False) w W → StatOf F t i W) (hd : (bits .and .i64 (F i 0) 61440 == 16384) = true) :
    Calls Tryz.prog 115 #[.pointer (some ⟨t, 0, none⟩), .int .i64 ((i : Int) + 1)] w fun e w' => ∃ g, e = .returned (.tuple #[.slice (some ⟨g, 0, none⟩) sz sz, .int .i64 0]) ∧ Cont w' (some ⟨g, 0, none⟩) sz sz (rd u D (R i)) ∧ Mod (fun _ => False) w w' := by
  have HT : Hid (Tb w t q b c n N clk F R u D) := T
  have HS := (show Hid (∀ W, Mod (fun _ => False) w W → StatOf F t i W) from hS)
  have HZ := (show Hid (F i 0 ≠ 0 ∧ F i 5 = (sz : Int)) from ⟨hz, hs⟩)
  have h17 := (T.sz i).2
  rw [hs] at h17
  clear T hS hz hs
  go_enter Tryz.func115, Tryz.ntmps115
  go_wp2_with fail
  refine (sLook F t i _ (fun o => HS.out _ ((Mod.refl _ w).alloc o)) hd).mono ?_
  rintro e w1 ⟨⟨bl, rfl⟩, HM⟩
  have HM1 : Hid (∀ o, Mod (fun _ => False) w (w1.alloc o)) := fun o => HM.alloc o
  clear HM
  unfold statW
  rw [HZ.out.2]
  go_wp2_with fail
  refine (tread (HT.out.new (HM1.out _)) i 0 sz sz hi HZ.out.1 HZ.out.2 hsz (by omega) sz (by omega)).mono ?_
  rintro e w2 ⟨rfl, H2⟩
  have HC : Hid (Cont w2 (some ⟨w1.heap.size + 1, 0, none⟩) sz sz (rd u D (R i))) := by
    refine ⟨Nat.le_refl _, by omega, fun j => ?_, fun _ => ⟨_, 0, rfl, fun j hj => ?_⟩⟩
    · unfold rd; split
      · exact HT.out.S.dl _
      · omega
    · have := H2.at_ j hj
      rw [World.size_alloc, if_pos hj, Nat.zero_add] at this
      rw [Nat.zero_add]; exact this
  have HM2 : Hid (Mod (fun _ => False) w w2) := (HM1.out _).trans H2.mod
  clear H2
  go_wp2
  go_ret2
  exact ⟨_, rfl, HC.out, HM2.out⟩
set_option maxRecDepth 100000 in
set_option maxHeartbeats 2000000 in
theorem sReadFor {w : World} {t q b c n N : Nat} {clk : Int} {F : Nat → Nat → Int} {R : Nat → Nat → Nat} {u : Nat → Bool} {D : Nat → Nat} (T : Tb w t q b c n N clk F R u D) (i sz : Nat) (l : List UInt8) (hi : i < N) (hz : F i 0 ≠ 0) (hs : F i 5 = (sz : Int)) (hsz : 0 < sz) (hS : ∀ W, Mod (fun _ => False) w W → StatOf F t i W) (hd : (bits .and .i64 (F i 0) 61440 == 16384) = true) (hl : l.length < 4294967281) (ha : ∀ x ∈ l, x.toNat < 128) :
    Calls Tryz.prog 96 #[.pointer (some ⟨t, 0, none⟩), .int .i64 ((i : Int) + 1), .string ⟨l.toArray⟩] w fun e w' => ∃ g, e = .returned (.tuple #[.slice (some ⟨g, 0, none⟩) sz sz, .int .i64 (chk l)]) ∧ Cont w' (some ⟨g, 0, none⟩) sz sz (rd u D (R i)) ∧ Mod (fun _ => False) w w' := by
  have HR := (show Hid (Calls _ _ _ _ _) from sRead T i sz hi hz hs hsz hS hd)
  clear T hS hz hs
  go_enter Tryz.func96, Tryz.ntmps96
  go_wp2_with fail
  refine Calls.mono (show Calls _ _ _ _ _ from HR.out) ?_
  rintro e w1 ⟨g, rfl, HC, HM⟩
  have HC' : Hid (Cont w1 (some ⟨g, 0, none⟩) sz sz (rd u D (R i))) := HC
  have HM' : Hid (Mod (fun _ => False) w w1) := HM
  clear HC HM
  go_wp2_with fail
  refine (sCheck l _ hl ha).mono ?_
  rintro e w2 ⟨rfl, HB⟩
  have HF : Hid (Cont w2 (some ⟨g, 0, none⟩) sz sz (rd u D (R i)) ∧ Mod (fun _ => False) w w2) := ⟨HC'.out.keep (own := fun _ => False) (KC.of_below HB) (fun _ _ h => h), HM'.out.trans (mod_of_below0 HB)⟩
  clear HB
  go_wp2
  go_ret2
  exact ⟨_, rfl, HF.out⟩
end Go.Proofs.YtpcbpikhiooafaaGreatDoor
/- A slice of slots is built: the law. Condition: each slot has 32 cells. -/
namespace Go.Proofs.YtpcbpikhiooafaaGreatDoor
open Go.RowKit
theorem fold_off (off : Nat) : ∀ (ws : List Value) (k : Nat) (A : Array Value) (i : Nat), off + k + ws.length ≤ A.size → ((ws.zipIdx k).foldl (fun cs x => cs.setIfInBounds (off + x.snd) x.fst) A)[i]? = if off + k ≤ i ∧ i < off + k + ws.length then ws[i - (off + k)]? else A[i]?
  | [], k, A, i, _ => by rw [if_neg (by simp only [List.length_nil]; omega)]; rfl
  | v :: ws, k, A, i, h => by
    simp only [List.length_cons] at h
    rw [List.zipIdx_cons, List.foldl_cons, fold_off off ws (k + 1) _ i (by simp; omega)]
    by_cases h1 : off + (k + 1) ≤ i ∧ i < off + (k + 1) + ws.length
    · rw [if_pos h1, if_pos (by simp; omega), show i - (off + k) = (i - (off + (k + 1))) + 1 by omega, List.getElem?_cons_succ]
    · rw [if_neg h1]
      by_cases h2 : i = off + k
      · subst h2
        rw [if_pos (by simp), Array.getElem?_setIfInBounds_self_of_lt (by omega), Nat.sub_self]; rfl
      · rw [if_neg (by simp; omega), Array.getElem?_setIfInBounds_ne (by omega)]
theorem fold_off_size (off : Nat) : ∀ (ws : List Value) (k : Nat) (A : Array Value), ((ws.zipIdx k).foldl (fun cs x => cs.setIfInBounds (off + x.snd) x.fst) A).size = A.size
  | [], _, _ => rfl
  | v :: ws, k, A => by rw [List.zipIdx_cons, List.foldl_cons, fold_off_size off ws]; simp
/-- One slot laid over a row of cells. -/
theorem fill_one (off : Nat) (L : List Value) (A : Array Value) : (L.toArray.zipIdx.foldl (fun cs x => cs.setIfInBounds (off + x.2) x.1) A) = (L.zipIdx.foldl (fun cs x => cs.setIfInBounds (off + x.snd) x.fst) A) := by
  rw [← Array.foldl_toList]; simp
theorem undSl : Tryz.prog.underlying 142 = some (.slice 97) := by kernel_rfl
theorem infSl : ∃ i, Tryz.prog.info? 97 = some i ∧ i.zero = some (.agg zeroSl) ∧ i.size = 32 ∧ i.bytes = 32 := info_of (by kernel_rfl)
/-- The cells of built slots. -/
def Built (C : Array Value) (Ls : List (List Value)) : Prop := C.size = 32 * Ls.length ∧ ∀ (k : Nat) L, Ls[k]? = some L → ∀ j, j < 32 → C[k * 32 + j]? = L[j]?
theorem zrow (m : Nat) : ((Array.range (m * 32)).map (zeroSl[· % zeroSl.size]!)).size = m * 32 := by simp
theorem agg_cells (L : List Value) : (Value.agg L.toArray).cells = L.toArray := by simp [Value.cells]
theorem build_run (m : Nat) (hm : m = 1 ∨ m = 2) (parts : Array (Nat × Value)) (C : Array Value) (w : World)
    (hf : Instr.fill (fun i => some (i * 32, 32)) ((Array.range (m * 32)).map (zeroSl[· % zeroSl.size]!)) parts.toList = some C) :
    (Instr.buildSlice 142 m parts).run Tryz.prog w = .ok (.slice (some ⟨w.heap.size, 0, none⟩) m m) (w.alloc (.cells C 97)) := by
  obtain ⟨i, hi, hz, hsz, hb⟩ := infSl
  have hso : (sizeOf 97).run Tryz.prog w = .ok 32 w := by simp [sizeOf, typeInfo, hi, hsz]
  have hzv := zvSl w
  have h1 : ¬ m * 32 > 2 ^ 24 := by rcases hm with rfl | rfl <;> decide
  have h2 : ¬ m * 32 = 0 := by rcases hm with rfl | rfl <;> decide
  have hnr : (newRow 97 C).run Tryz.prog w = .ok ⟨w.heap.size, 0, none⟩ (w.alloc (.cells C 97)) := by simp [newRow]
  unfold Instr.buildSlice
  simp only [Sem.run_bind, run_underlying undSl, Result.andThen_ok, hso, h1, h2, if_false, hzv, Sem.run_pure, show (Value.agg zeroSl).cells = zeroSl from rfl, hf, hnr]
theorem build1 (L : List Value) (hl : L.length = 32) (w : World) : ∃ C, Built C [L] ∧ (Instr.buildSlice 142 1 #[(0, .agg L.toArray)]).run Tryz.prog w = .ok (.slice (some ⟨w.heap.size, 0, none⟩) 1 1) (w.alloc (.cells C 97)) := by
  obtain ⟨Z, hZ⟩ : ∃ Z, Z = (Array.range (1 * 32)).map (zeroSl[· % zeroSl.size]!) := ⟨_, rfl⟩
  have hzs : Z.size = 32 := by rw [hZ, zrow]
  refine ⟨L.zipIdx.foldl (fun cs x => cs.setIfInBounds (0 + x.snd) x.fst) Z, ⟨?_, ?_⟩, build_run 1 (.inl rfl) _ _ w ?_⟩
  · rw [fold_off_size, hzs]; rfl
  · intro k M hk j hj
    cases k with
    | succ k => simp at hk
    | zero =>
      obtain rfl : L = M := by simpa using hk
      rw [fold_off 0 L 0 _ _ (by rw [hl, hzs]; omega), if_pos (by rw [hl]; omega)]
      congr 1; omega
  · rw [← hZ]
    simp only [Instr.fill, agg_cells, List.size_toArray, hl, hzs, fill_one, Nat.zero_mul]
    simp
theorem build2 (L M : List Value) (hl : L.length = 32) (hm : M.length = 32) (w : World) : ∃ C, Built C [L, M] ∧ (Instr.buildSlice 142 2 #[(0, .agg L.toArray), (1, .agg M.toArray)]).run Tryz.prog w = .ok (.slice (some ⟨w.heap.size, 0, none⟩) 2 2) (w.alloc (.cells C 97)) := by
  obtain ⟨Z, hZ⟩ : ∃ Z, Z = (Array.range (2 * 32)).map (zeroSl[· % zeroSl.size]!) := ⟨_, rfl⟩
  have hzs : Z.size = 64 := by rw [hZ, zrow]
  have hy : (L.zipIdx.foldl (fun cs x => cs.setIfInBounds (0 + x.snd) x.fst) Z).size = 64 := by rw [fold_off_size, hzs]
  refine ⟨M.zipIdx.foldl (fun cs x => cs.setIfInBounds (1 * 32 + x.snd) x.fst) (L.zipIdx.foldl (fun cs x => cs.setIfInBounds (0 + x.snd) x.fst) Z), ⟨?_, ?_⟩, build_run 2 (.inr rfl) _ _ w ?_⟩
  · rw [fold_off_size, hy]; rfl
  · intro k K hk j hj
    match k, hk with
    | 0, hk =>
      obtain rfl : L = K := by simpa using hk
      rw [fold_off (1 * 32) M 0 _ _ (by rw [hm, hy]; omega), if_neg (by rw [hm]; omega), fold_off 0 L 0 _ _ (by rw [hl, hzs]; omega), if_pos (by rw [hl]; omega)]
      congr 1; omega
    | 1, hk =>
      obtain rfl : M = K := by simpa using hk
      rw [fold_off (1 * 32) M 0 _ _ (by rw [hm, hy]; omega), if_pos (by rw [hm]; omega)]
      congr 1; omega
  · rw [← hZ]
    simp only [Instr.fill, agg_cells, List.size_toArray, hl, hm, hzs, fill_one, Nat.zero_mul, hy]
    simp
theorem wpList_buildSlice {P : Program} {ops : Array Oper} {rest : List Oper} {op : Oper} {a : Act} {w w' : World} {Q : Exit → Act → World → Prop} (hgd : op.guard = none) (ty : TypeId) (m : Nat) (parts : Array (Nat × Operand)) (ho : op.op = .buildSlice ty m parts) (ps : Array (Nat × Value)) (hp : (parts.map fun (i, x) => (i, a.eval x)) = ps) (v : Value)
    (hr : (Instr.buildSlice ty m ps).run P w = .ok v w') (h : wpList P ops Q rest (a.put op.dst v) w') : wpList P ops Q (op :: rest) a w :=
  wpList_plain hgd fun K hK => by
    unfold Oper.wp execOp
    simp only [ho, hp, Sem.run_bind, hr, Result.andThen_ok, Sem.run_pure]
    exact hK _ _ h
end Go.Proofs.YtpcbpikhiooafaaGreatDoor
/- The calls Find, Add and Init of a directory. Conditions: the table lies in memory as 'Tb' says; what Stat tells; the name is of ASCII. -/
namespace Go.Proofs.YtpcbpikhiooafaaGreatDoor
open Go.RowKit
section
variable {w : World} {t q b c n N : Nat} {clk : Int} {F : Nat → Nat → Int} {R : Nat → Nat → Nat} {u : Nat → Bool} {D : Nat → Nat}
set_option maxRecDepth 100000 in
set_option maxHeartbeats 2000000 in
theorem dFind (T : Tb w t q b c n N clk F R u D) (i sz k : Nat) (l : List UInt8) (hi : i < N) (hz : F i 0 ≠ 0) (hs : F i 5 = (sz : Int)) (hsz : 0 < sz) (hS : ∀ W, Mod (fun _ => False) w W → StatOf F t i W) (hd : (bits .and .i64 (F i 0) 61440 == 16384) = true) (hl : l.length < 4294967281) (ha : ∀ x ∈ l, x.toNat < 128)
    (hc : chk l = 0) (hf : (tks (rd u D (R i)) sz).find? (has (rd u D (R i)) l) = some k) :
    Calls Tryz.prog 92 #[.pointer (some ⟨t, 0, none⟩), .int .i64 ((i : Int) + 1), .string ⟨l.toArray⟩] w fun e w' => e = .returned (.tuple #[.int .i64 (le4 (slotD (rd u D (R i)) k) 0 : Nat), .int .i64 0]) ∧ Mod (fun _ => False) w w' := by
  have HR := (show Hid (Calls _ _ _ _ _) from sReadFor T i sz l hi hz hs hsz hS hd hl ha)
  have hz' := zvSl
  have HF := (show Hid (fRes (rd u D (R i)) sz l = .tuple #[.int .i64 k, .agg (slotV (rd u D (R i)) k).toArray, .int .i64 0]) from by show _ = _; rw [fRes, hf])
  generalize rd u D (R i) = D' at *
  rw [hc] at HR
  clear T hS hz hs hf hc
  go_enter Tryz.func92, Tryz.ntmps92
  go_wp2_with fail
  refine Calls.mono (show Calls _ _ _ _ _ from HR.out) ?_
  rintro e w1 ⟨g, rfl, HC, HM⟩
  have HSl : Hid (Slot (slotV D' k) (slotD D' k)) := slotV_slot D' HC.lt k
  have HC' : Hid (Cont w1 (some ⟨g, 0, none⟩) sz sz D') := HC
  have HM' : Hid (Mod (fun _ => False) w w1) := HM
  clear HC HM
  go_wp2_with fail
  refine (sFind _ _ _ D' l _ HC'.out).mono ?_
  rw [HF.out]
  rintro e w2 ⟨HB, rfl⟩
  have HM2 : Hid (Mod (fun _ => False) w w2) := HM'.out.trans (mod_of_below0 HB)
  clear HB
  have HTh := (show Hid _ from there_slot w2 (slotV D' k) HSl.out)
  have HRg : Hid ((w2.alloc (.cells (slotV D' k).toArray 97)).rangeAt w2.heap.size 0 (slotV D' k)) := range_new w2 _ _
  go_wp2_with (first | (refine wpList_store_mid rfl 97 _ _ rfl w2.heap.size 0 (slotV D' k).toArray rfl rfl HTh.out HSl.out.infA (all_oneCell_toArray HSl.out.one) ?_; rw [set_slot w2 _ HSl.out]) | (refine wpList_load_mid rfl 97 _ rfl w2.heap.size 0 rfl (slotV D' k) _ HRg.out undS rfl HSl.out.inf ?_) | (go_at_call 113; refine (sIno _ _ _ HSl.out).mono ?_; rintro e w3 ⟨rfl, HB3⟩))
  go_ret2
  exact ⟨rfl, (HM2.out.alloc _).trans (mod_of_below0 HB3)⟩
theorem built_slots {C : Array Value} {Ls : List (List Value)} {ss : List (Nat → Nat)} (w : World) (hB : Built C Ls) (hl : Ls.length = ss.length) (hs : ∀ (k : Nat) L s, Ls[k]? = some L → ss[k]? = some s → Slot L s) : Slots (w.alloc (.cells C 97)) w.heap.size 0 ss := by
  refine ⟨fun s h => ?_, fun k s hk j hj => ?_⟩
  · obtain ⟨k, hk, rfl⟩ := List.getElem_of_mem h
    exact (hs k Ls[k] ss[k] (List.getElem?_eq_getElem (by omega)) (List.getElem?_eq_getElem hk)).lt
  · have hk' := (List.getElem?_eq_some_iff.1 hk).1
    have hL := List.getElem?_eq_getElem (l := Ls) (i := k) (by omega)
    rw [World.cell?_alloc_at _ _ _ _ rfl, show 0 + k * 32 + j = k * 32 + j by omega, hB.2 k _ hL j hj]
    exact (hs k _ s hL hk).at_ j hj
theorem sWrite2 (T : Tb w t q b c n N clk F R u D) (i g : Nat) (s1 s2 : Nat → Nat) (hi : i < N) (hz : F i 0 ≠ 0) (hss : Slots w g 0 [s1, s2]) (hgl : g < w.heap.size) (st : WS) (hst : st = wrun n 0 (sBytes [s1, s2]) 64 ⟨0, u, D, R i⟩)
    (rc : Int) (hrc : rc = if st.done = 0 then 28 else 0) (F' : Nat → Nat → Int) (hF' : F' = if st.done = 0 then F else upd2 (upd2 (upd2 F i 5 (max (F i 5) ((0 : Int) + st.done))) i 7 clk) i 8 clk) :
    Calls Tryz.prog 35 #[.pointer (some ⟨t, 0, none⟩), .int .i64 ((i : Int) + 1), .int .i64 0, .slice (some ⟨g, 0, none⟩) 2 2] w fun e w' =>
      e = .returned (.int .i64 rc) ∧ Mod (fun k => k = b ∨ k = c ∨ k = q) w w' ∧ Tb w' t q b c n N clk F' (setN R i st.R) st.u st.D := by
  obtain ⟨bs, hbs⟩ : ∃ bs, bs = sBytes [s1, s2] := ⟨_, rfl⟩
  have hl : bs.length = 64 := by rw [hbs, sBytes_len]; rfl
  rw [← hbs] at hst
  have h := sWrite T i 0 g 0 2 [s1, s2] hi hz (by simp) (by simp) (by omega) hss hgl 64 (by simp) st (by
    rw [← hbs, List.take_of_length_le (by omega), hl, hst, Nat.zero_mul]) rc hrc F' (by rw [hF', Nat.zero_mul]; rfl)
  exact h
set_option maxRecDepth 100000 in
set_option maxHeartbeats 2000000 in
theorem dInit (T : Tb w t q b c n N clk F R u D) (i j : Nat) (hi : i < N) (hj : j < N) (hz : F i 0 ≠ 0) (hzj : F j 0 ≠ 0) (hs : F i 5 = 0) (hS : ∀ W, Mod (fun _ => False) w W → StatOf F t i W) (hd : (bits .and .i64 (F i 0) 61440 == 16384) = true) (hN : N ≤ 4096)
    (st : WS) (hst : st = wrun n 0 (sBytes [nslot [46] (i + 1), nslot [46, 46] (j + 1)]) 64 ⟨0, u, D, R i⟩) (rc : Int) (hrc : rc = if st.done = 0 then 28 else 0) (F' : Nat → Nat → Int) (hF' : F' = if st.done = 0 then F else upd2 (upd2 (upd2 F i 5 (max (F i 5) ((0 : Int) + st.done))) i 7 clk) i 8 clk) :
    Calls Tryz.prog 15 #[.pointer (some ⟨t, 0, none⟩), .int .i64 ((i : Int) + 1), .int .i64 ((j : Int) + 1)] w fun e w' => e = .returned (.int .i64 rc) ∧ Mod (fun k => k = b ∨ k = c ∨ k = q) w w' ∧ Tb w' t q b c n N clk F' (setN R i st.R) st.u st.D := by
  have HT : Hid (Tb w t q b c n N clk F R u D) := T
  have HS := (show Hid (∀ W, Mod (fun _ => False) w W → StatOf F t i W) from hS)
  have HZ := (show Hid (F i 0 ≠ 0 ∧ F j 0 ≠ 0) from ⟨hz, hzj⟩)
  have hz0 := zvSl
  have HW := (show Hid (∀ W g, Mod (fun _ => False) w W → Slots W g 0 [nslot [46] (i + 1), nslot [46, 46] (j + 1)] → g < W.heap.size → Calls Tryz.prog 35 #[.pointer (some ⟨t, 0, none⟩), .int .i64 ((i : Int) + 1), .int .i64 0, .slice (some ⟨g, 0, none⟩) 2 2] W fun e w' => e = .returned (.int .i64 rc) ∧ Mod (fun k => k = b ∨ k = c ∨ k = q) W w' ∧ Tb w' t q b c n N clk F' (setN R i st.R) st.u st.D) from fun W g hM hSl hg =>
    sWrite2 (T.new hM) i g _ _ hi hz hSl hg st hst rc hrc F' hF')
  clear T hS hz hzj hst hrc hF'
  go_enter Tryz.func15, Tryz.ntmps15
  go_wp2_with fail
  refine (sLook F t i _ (fun o => HS.out _ ((Mod.refl _ w).alloc o)) hd).mono ?_
  rintro e w1 ⟨⟨bl, rfl⟩, HM⟩
  have HM1 : Hid (∀ o, Mod (fun _ => False) w (w1.alloc o)) := fun o => HM.alloc o
  clear HM
  unfold statW
  rw [hs]
  go_wp2_with (go_at_call 34; refine (tis_yes (HT.out.new (HM1.out _)) j hj HZ.out.2).mono ?_; rintro e w2 ⟨rfl, hw2⟩; rw [hw2]; clear hw2 w2)
  refine (show Calls Tryz.prog 36 #[.string ⟨[46].toArray⟩, .int .i64 ((i : Int) + 1)] _ _ from ?_)
  refine (sNew [46] (i + 1) _ (by simp) (by omega)).mono ?_
  rintro e w2 ⟨⟨L1, rfl, hS1⟩, HB1⟩
  have HS1 : Hid (Slot L1 (nslot [46] (i + 1))) := hS1
  have HM2 : Hid (Mod (fun _ => False) w w2) := (HM1.out _).trans (mod_of_below0 HB1)
  clear hS1 HB1
  go_wp2_with fail
  refine (show Calls Tryz.prog 36 #[.string ⟨[46, 46].toArray⟩, .int .i64 ((j : Int) + 1)] _ _ from ?_)
  refine (sNew [46, 46] (j + 1) _ (by simp) (by omega)).mono ?_
  rintro e w3 ⟨⟨L2, rfl, hS2⟩, HB2⟩
  have HS2 : Hid (Slot L2 (nslot [46, 46] (j + 1))) := hS2
  have HM3 : Hid (Mod (fun _ => False) w w3) := HM2.out.trans (mod_of_below0 HB2)
  clear hS2 HB2
  obtain ⟨C, hBu, hrun⟩ := build2 L1 L2 HS1.out.len HS2.out.len w3
  have HRu := (show Hid _ from hrun)
  have HSl : Hid (Slots (w3.alloc (.cells C 97)) w3.heap.size 0 [nslot [46] (i + 1), nslot [46, 46] (j + 1)]) := built_slots w3 hBu rfl (fun k L s hL hs => by
    match k, hL, hs with
    | 0, hL, hs => cases hL; cases hs; exact HS1.out
    | 1, hL, hs => cases hL; cases hs; exact HS2.out)
  have HM4 : Hid (Mod (fun _ => False) w (w3.alloc (.cells C 97))) := HM3.out.alloc _
  clear hBu hrun
  go_wp2_with (refine wpList_buildSlice rfl 142 2 #[(0, .tmp 31), (1, .tmp 33)] rfl #[(0, .agg L1.toArray), (1, .agg L2.toArray)] (by simp [Act.eval]) _ HRu.out ?_)
  refine Calls.mono (show Calls _ _ _ _ _ from HW.out _ w3.heap.size HM4.out HSl.out (by simp)) ?_
  rintro e w5 ⟨rfl, hM5, hT5⟩
  have HE : Hid (Mod (fun k => k = b ∨ k = c ∨ k = q) w w5 ∧ Tb w5 t q b c n N clk F' (setN R i st.R) st.u st.D) := ⟨mod_join HM4.out hM5, hT5⟩
  clear hM5 hT5
  go_wp2
  go_ret
  exact ⟨rfl, HE.out⟩
theorem sWrite1 (T : Tb w t q b c n N clk F R u D) (i k g : Nat) (s1 : Nat → Nat) (hi : i < N) (hz : F i 0 ≠ 0) (hk : k * 32 + 32 ≤ 17792) (hss : Slots w g 0 [s1]) (hgl : g < w.heap.size) (st : WS) (hst : st = wrun n (k * 32) (sBytes [s1]) 32 ⟨0, u, D, R i⟩)
    (rc : Int) (hrc : rc = if st.done = 0 then 28 else 0) (F' : Nat → Nat → Int) (hF' : F' = if st.done = 0 then F else upd2 (upd2 (upd2 F i 5 (max (F i 5) (((k * 32 : Nat) : Int) + st.done))) i 7 clk) i 8 clk) :
    Calls Tryz.prog 35 #[.pointer (some ⟨t, 0, none⟩), .int .i64 ((i : Int) + 1), .int .i64 (k : Nat), .slice (some ⟨g, 0, none⟩) 1 1] w fun e w' =>
      e = .returned (.int .i64 rc) ∧ Mod (fun k => k = b ∨ k = c ∨ k = q) w w' ∧ Tb w' t q b c n N clk F' (setN R i st.R) st.u st.D := by
  obtain ⟨bs, hbs⟩ : ∃ bs, bs = sBytes [s1] := ⟨_, rfl⟩
  have hl : bs.length = 32 := by rw [hbs, sBytes_len]; rfl
  rw [← hbs] at hst
  have h := sWrite T i k g 0 1 [s1] hi hz (by simp) (by simp) (by omega) hss hgl 32 (by simp; omega) st (by
    rw [← hbs, List.take_of_length_le (by omega), hl, hst]) rc hrc F' hF'
  exact h
set_option maxRecDepth 100000 in
set_option maxHeartbeats 2000000 in
theorem dAdd (T : Tb w t q b c n N clk F R u D) (i j sz : Nat) (l : List UInt8) (hi : i < N) (hj : j < N) (hz : F i 0 ≠ 0) (hzj : F j 0 ≠ 0) (hs : F i 5 = (sz : Int)) (hsz : 0 < sz) (hS : ∀ W, Mod (fun _ => False) w W → StatOf F t i W) (hd : (bits .and .i64 (F i 0) 61440 == 16384) = true) (hN : N ≤ 4096) (hll : l.length ≤ 27) (ha : ∀ x ∈ l, x.toNat < 128)
    (hc : chk l = 0) (hf : (tks (rd u D (R i)) sz).find? (has (rd u D (R i)) l) = none) (k : Nat) (hk : k = roomR (rd u D (R i)) sz) (hk2 : k * 32 + 32 ≤ 17792)
    (st : WS) (hst : st = wrun n (k * 32) (sBytes [nslot l (j + 1)]) 32 ⟨0, u, D, R i⟩) (rc : Int) (hrc : rc = if st.done = 0 then 28 else 0) (F' : Nat → Nat → Int) (hF' : F' = if st.done = 0 then F else upd2 (upd2 (upd2 F i 5 (max (F i 5) (((k * 32 : Nat) : Int) + st.done))) i 7 clk) i 8 clk) :
    Calls Tryz.prog 80 #[.pointer (some ⟨t, 0, none⟩), .int .i64 ((i : Int) + 1), .string ⟨l.toArray⟩, .int .i64 ((j : Int) + 1)] w fun e w' => e = .returned (.int .i64 rc) ∧ Mod (fun k => k = b ∨ k = c ∨ k = q) w w' ∧ Tb w' t q b c n N clk F' (setN R i st.R) st.u st.D := by
  have HR := (show Hid (Calls _ _ _ _ _) from sReadFor T i sz l hi hz hs hsz hS hd (by omega) ha)
  have HT : Hid (Tb w t q b c n N clk F R u D) := T
  have hz0 := zvSl
  have HF := (show Hid (fRes (rd u D (R i)) sz l = .tuple #[.int .i64 0, .agg zeroSl.toList.toArray, .int .i64 2]) from by show _ = _; rw [fRes, hf])
  have HW := (show Hid (∀ W g, Mod (fun _ => False) w W → Slots W g 0 [nslot l (j + 1)] → g < W.heap.size → Calls Tryz.prog 35 #[.pointer (some ⟨t, 0, none⟩), .int .i64 ((i : Int) + 1), .int .i64 (k : Nat), .slice (some ⟨g, 0, none⟩) 1 1] W fun e w' => e = .returned (.int .i64 rc) ∧ Mod (fun k => k = b ∨ k = c ∨ k = q) W w' ∧ Tb w' t q b c n N clk F' (setN R i st.R) st.u st.D) from fun W g hM hSl hg =>
    sWrite1 (T.new hM) i k g _ hi hz hk2 hSl hg st hst rc hrc F' hF')
  have HZ := (show Hid (F j 0 ≠ 0) from hzj)
  obtain ⟨D', hD'⟩ : ∃ D', D' = rd u D (R i) := ⟨_, rfl⟩
  rw [← hD'] at HR HF hk
  have HK := (show Hid (k = roomR D' sz) from hk)
  rw [hc] at HR
  clear T hS hz hs hf hc hst hrc hF' hD' hk hzj
  go_enter Tryz.func80, Tryz.ntmps80
  go_wp2_with fail
  refine Calls.mono (show Calls _ _ _ _ _ from HR.out) ?_
  rintro e w1 ⟨g, rfl, HC, HM⟩
  have HC' : Hid (Cont w1 (some ⟨g, 0, none⟩) sz sz D') := HC
  have HM' : Hid (Mod (fun _ => False) w w1) := HM
  clear HC HM
  go_wp2_with (go_at_call 34; refine (tis_yes (HT.out.new HM'.out) j hj HZ.out).mono ?_; rintro e w2 ⟨rfl, hw2⟩; rw [hw2]; clear hw2 w2)
  refine (sFind _ _ _ D' l _ HC'.out).mono ?_
  rw [HF.out]
  rintro e w2 ⟨HB, rfl⟩
  have HM2 : Hid (Mod (fun _ => False) w w2) := HM'.out.trans (mod_of_below0 HB)
  have HC2 : Hid (Cont (w2.alloc (.cells zeroSl.toList.toArray 97)) (some ⟨g, 0, none⟩) sz sz D') := HC'.out.keep (own := fun _ => False) (KC.of_below (HB.alloc HB.size _)) (fun _ _ h => h)
  clear HB
  have HTh := (show Hid _ from there_slot w2 zeroSl.toList zeroSl_slot)
  go_wp2_with (refine wpList_store_mid rfl 97 _ _ rfl w2.heap.size 0 zeroSl.toList.toArray rfl rfl HTh.out zeroSl_slot.infA (all_oneCell_toArray zeroSl_slot.one) ?_; rw [set_slot w2 _ zeroSl_slot])
  refine (sRoom _ _ _ D' _ HC2.out).mono ?_
  rw [← HK.out]
  rintro e w3 ⟨HB3, rfl⟩
  have HM3 : Hid (Mod (fun _ => False) w w3) := (HM2.out.alloc _).trans (mod_of_below0 HB3)
  clear HB3
  go_wp2_with fail
  refine (sNew l (j + 1) _ (by omega) (by omega)).mono ?_
  rintro e w4 ⟨⟨L1, rfl, hS1⟩, HB1⟩
  have HS1 : Hid (Slot L1 (nslot l (j + 1))) := hS1
  have HM4 : Hid (∀ o, Mod (fun _ => False) w (w4.alloc o)) := fun o => (HM3.out.trans (mod_of_below0 HB1)).alloc o
  clear hS1 HB1
  obtain ⟨C, hBu, hrun⟩ := build1 L1 HS1.out.len w4
  have HRu := (show Hid _ from hrun)
  have HSl : Hid (Slots (w4.alloc (.cells C 97)) w4.heap.size 0 [nslot l (j + 1)]) := built_slots w4 hBu rfl (fun k L s hL hs => by
    match k, hL, hs with
    | 0, hL, hs => cases hL; cases hs; exact HS1.out)
  clear hBu hrun
  go_wp2_with (refine wpList_buildSlice rfl 142 1 #[(0, .tmp 43)] rfl #[(0, .agg L1.toArray)] (by simp [Act.eval]) _ HRu.out ?_)
  refine Calls.mono (show Calls _ _ _ _ _ from HW.out _ w4.heap.size (HM4.out _) HSl.out (by simp)) ?_
  rintro e w5 ⟨rfl, hM5, hT5⟩
  have HE : Hid (Mod (fun k => k = b ∨ k = c ∨ k = q) w w5 ∧ Tb w5 t q b c n N clk F' (setN R i st.R) st.u st.D) := ⟨mod_join (HM4.out _) hM5, hT5⟩
  clear hM5 hT5
  go_wp2
  go_ret
  exact ⟨rfl, HE.out⟩
end
end Go.Proofs.YtpcbpikhiooafaaGreatDoor
