/- Slots are written: the walk of write. Conditions: the table lies in memory as 'Tb' says, the slots as said; the place is within a file. -/
import Derived.Test.YtfmemkninmpfjaaGreatDoorDr9
import Derived.Test.YtfmemkninmpfjaaGreatDoorWr2
import Derived.Test.YtfmemkninmpfjaaGreatDoorRd2
import Derived.Laws.AppendOwn
namespace Go.Proofs.YtfmemkninmpfjaaGreatDoor
open Go.RowKit
/-- The slots' bytes, one behind the other. -/
def sBytes (ss : List (Nat → Nat)) : List Nat := ss.flatMap fun s => (List.range 32).map s
theorem sBytes_len (ss : List (Nat → Nat)) : (sBytes ss).length = 32 * ss.length := by
  induction ss with
  | nil => rfl
  | cons s r ih => simp only [sBytes, List.flatMap_cons, List.length_append, List.length_map, List.length_range, List.length_cons] at ih ⊢; omega
theorem sBytes_snoc (ss : List (Nat → Nat)) (k : Nat) (hk : k < ss.length) : sBytes (ss.take (k + 1)) = sBytes (ss.take k) ++ (List.range 32).map ss[k] := by
  rw [List.take_succ_eq_append_getElem hk, sBytes, List.flatMap_append]; simp [sBytes]
/-- A list of slots in memory. -/
def Slots (W : World) (g go : Nat) (ss : List (Nat → Nat)) : Prop := (∀ s ∈ ss, ∀ j, s j < 256) ∧ ∀ (k : Nat) s, ss[k]? = some s → ∀ j, j < 32 → W.cell? ⟨g, go + k * 32 + j, none⟩ = some (.int .u8 (s j : Nat))
def slV (s : Nat → Nat) : List Value := (List.range 32).map fun j => .int .u8 (s j : Nat)
theorem slV_slot {s : Nat → Nat} (h : ∀ j, s j < 256) : Slot (slV s) s := ⟨by simp [slV], fun j hj => by simp [slV, hj], h⟩
theorem Slots.range {W : World} {g go : Nat} {ss : List (Nat → Nat)} (h : Slots W g go ss) {k : Nat} (hk : k < ss.length) : W.rangeAt g (go + k * 32) (slV ss[k]) := fun j v hv => by
  have hj : j < 32 := by have := (List.getElem?_eq_some_iff.1 hv).1; simpa [slV] using this
  rw [h.2 k ss[k] (List.getElem?_eq_getElem hk) j hj]
  simp [slV, hj] at hv
  rw [hv]
theorem mod_of_below0 {w w' : World} (h : Below w.heap.size w w') : Mod (fun _ => False) w w' := ⟨h.os, h.tape, h.output, h.size, fun k hk _ => h.block k hk⟩
theorem mod_join {s : Nat → Prop} {a w w' : World} (h : Mod (fun _ => False) a w) (k : Mod s w w') : Mod s a w' :=
  ⟨k.os.trans h.os, k.tape.trans h.tape, k.output.trans h.output, Nat.le_trans h.size k.size, fun j hj hn => (k.block j (Nat.lt_of_lt_of_le hj h.size) hn).trans (h.block j hj (fun h => h))⟩
section
variable {w : World} {t q b c n N : Nat} {clk : Int} {F : Nat → Nat → Int} {R : Nat → Nat → Nat} {u : Nat → Bool} {D : Nat → Nat}
set_option maxRecDepth 100000 in
set_option maxHeartbeats 2000000 in
theorem sWrite (T : Tb w t q b c n N clk F R u D) (i k g go cap : Nat) (ss : List (Nat → Nat)) (hi : i < N) (hz : F i 0 ≠ 0) (hs0 : 0 < ss.length) (hsl : ss.length ≤ 1000) (hk : k * 32 < 17792) (hss : Slots w g go ss) (hgl : g < w.heap.size)
    (m : Nat) (hm : m = min (32 * ss.length) (17792 - k * 32)) (st : WS) (hst : st = wrun n (k * 32) ((sBytes ss).take m) ((sBytes ss).take m).length ⟨0, u, D, R i⟩)
    (rc : Int) (hrc : rc = if st.done = 0 then 28 else 0) (F' : Nat → Nat → Int) (hF' : F' = if st.done = 0 then F else upd2 (upd2 (upd2 F i 5 (max (F i 5) (((k * 32 : Nat) : Int) + st.done))) i 7 clk) i 8 clk) :
    Calls Tryz.prog 66 #[.pointer (some ⟨t, 0, none⟩), .int .i64 ((i : Int) + 1), .int .i64 k, .slice (some ⟨g, go, none⟩) ss.length cap] w fun e w' =>
      e = .returned (.int .i64 rc) ∧ Mod (fun k => k = b ∨ k = c ∨ k = q) w w' ∧
      Tb w' t q b c n N clk F' (setN R i st.R) st.u st.D := by
  obtain ⟨i0, hi0, hz0, hz1, hz2⟩ := inf5i
  have hzs := zvSl
  have HT : Hid (Tb w t q b c n N clk F R u D) := T
  have HSS : Hid (Slots w g go ss) := hss
  have HZ : Hid (F i 0 ≠ 0 ∧ st = wrun n (k * 32) ((sBytes ss).take m) ((sBytes ss).take m).length ⟨0, u, D, R i⟩ ∧ m = min (32 * ss.length) (17792 - k * 32)) := ⟨hz, hst, hm⟩
  have hcap : cap ≤ cap := Nat.le_refl _
  have HRC : Hid ((rc = if st.done = 0 then 28 else 0) ∧ F' = if st.done = 0 then F else upd2 (upd2 (upd2 F i 5 (max (F i 5) (((k * 32 : Nat) : Int) + st.done))) i 7 clk) i 8 clk) := ⟨hrc, hF'⟩
  clear T hss hz hst hm hrc hF'
  go_enter Tryz.func66, Tryz.ntmps66
  go_wp2
  go_loopw [9, 16] (fun v x W => ∃ j : Nat, j ≤ ss.length ∧ x = .int .i64 j ∧ Hid (W.ownsRow w.heap.size 5 1 v (32 * j) ((sBytes (ss.take j)).map byteV)) ∧ Hid (Below w.heap.size w W)) (fun _ x _ => ss.length - (intOf x).toNat)
  case atStart => exact ⟨0, Nat.zero_le _, rfl, World.ownsRow_nil _ _ _ _, Below.refl _ _⟩
  case round =>
    obtain ⟨j, hj, rfl, HO, HB⟩ := hrel
    by_cases hlt : j < ss.length
    · have HSl : Hid (Slot (slV ss[j]) ss[j]) := slV_slot (HSS.out.1 _ (List.getElem_mem _))
      have HR : Hid (wr.rangeAt g (go + j * 32) (slV ss[j])) := fun a v hv => (HB.out.cell (p := ⟨g, go + j * 32 + a, none⟩) hgl).trans (HSS.out.range hlt a v hv)
      have HTh := (show Hid _ from there_slot wr (slV ss[j]) HSl.out)
      have HN : Hid (∀ a v, (slV ss[j])[a]? = some v → (wr.alloc (.cells (slV ss[j]).toArray 109)).cell? ((⟨wr.heap.size, 0, none⟩ : Addr).add a) = some v) := fun a v hv => by rw [Addr.add_mid]; exact range_new wr (slV ss[j]) 109 a v hv
      have HL : Hid ((slV ss[j]).length = 32 * 1) := HSl.out.len
      have hbs := HB.out.size
      have HE : Hid ((sBytes (ss.take (j + 1))).map byteV = (sBytes (ss.take j)).map byteV ++ slV ss[j]) := by
        show _ = _
        rw [sBytes_snoc ss j hlt, List.map_append]; simp [slV, byteV]
      go_wp2_with (first
        | (refine wpList_load_mid rfl 109 _ rfl g (go + j * 32) rfl (slV ss[j]) _ HR.out undS rfl HSl.out.inf ?_)
        | (refine wpList_store_mid rfl 109 _ _ rfl wr.heap.size 0 (slV ss[j]).toArray rfl rfl HTh.out HSl.out.infA (all_oneCell_toArray HSl.out.one) ?_; rw [set_slot wr _ HSl.out])
        | (at_builtin; refine wpList_append_own _ rfl _ _ 28 rfl w.heap.size 5 i0 (.int .u8 0) 1 1 undB hi0 hz0 hz1 hz2 rfl (by decide) _ _ _ rfl (HO.out.alloc _) ⟨wr.heap.size, 0, none⟩ 32 32 (slV ss[j]) rfl HL.out HN.out HSl.out.one (by unfold maxLen; omega) (by omega) (by simp; omega) ?_; intro v' w2 hown' hgrow _; have HB2 : Hid (Below w.heap.size w w2) := (HB.out.alloc hbs _).grown hgrow (by simp; omega) (fun a ea => (HO.out.lt a ea).1); have HO2 : Hid (w2.ownsRow w.heap.size 5 1 v' (32 * (j + 1)) ((sBytes (ss.take (j + 1))).map byteV)) := (by show World.ownsRow _ _ _ _ _ _ _; rw [HE.out, show 32 * (j + 1) = 32 * j + 32 by omega]; exact hown'); clear hown' hgrow))
      exact ⟨⟨j + 1, by omega, by go_num, HO2, HB2⟩, by simp [intOf]; omega⟩
    · obtain rfl : j = ss.length := by omega
      obtain ⟨gb, cb, rfl, hgb, hcb, HSr⟩ : ∃ gb cb, u9 = .slice (some ⟨gb, 0, none⟩) (32 * ss.length) cb ∧ w.heap.size ≤ gb ∧ (32 * ss.length ≤ cb ∧ cb ≤ maxLen) ∧ Hid (Src wr gb 0 (sBytes ss)) := by
        have hO := HO.out
        rw [List.take_of_length_le (Nat.le_refl _)] at hO
        rcases hO.2 with ⟨_, h0⟩ | ⟨gb, cb, cur, rfl, hb1, hb2, hb3, hb4, hb5, hb6⟩
        · omega
        · refine ⟨gb, cb, rfl, hb1, ⟨hb3, hb4⟩, ⟨fun a x hx => ?_, fun x hx => ?_⟩⟩
          · have hc := hO.cellAt a (by have := (List.getElem?_eq_some_iff.1 hx).1; rw [sBytes_len] at this; omega)
            rw [Nat.zero_add, hc, List.getElem?_map, hx]; rfl
          · obtain ⟨s, hs, hx'⟩ := List.mem_flatMap.1 hx
            obtain ⟨a, _, rfl⟩ := List.mem_map.1 hx'
            exact HSS.out.1 s hs a
      have HTr : Hid (Tb wr t q b c n N clk F R u D) := HT.out.new (mod_of_below0 HB.out)
      have HW : Hid (Calls Tryz.prog 37 #[.pointer (some ⟨t, 0, none⟩), .int .i64 ((i : Int) + 1), .int .i64 ((k : Int) * 32), .slice (some ⟨gb, 0, none⟩) (32 * ss.length) cb] wr (WPost t q b c n N clk F R i (k * 32) st wr)) := by
        have h := twrite HTr.out i (k * 32) gb 0 cb (sBytes ss) hi HZ.out.1 (by rw [sBytes_len]; omega) hk (by rw [sBytes_len]; exact hcb.1) (by have := hcb.2; unfold maxLen at this; omega) HSr.out (by have := HT.out.S.lt_b; omega) (by have := HT.out.S.lt_c; omega) (by have := HT.out.lt_q; omega) m (by rw [sBytes_len]; exact HZ.out.2.2)
        rw [sBytes_len, ← HZ.out.2.1] at h
        show Calls _ _ _ _ _
        rw [show ((k : Int) * 32) = ((k * 32 : Nat) : Int) by omega]
        exact h
      have HMd : Hid (Mod (fun _ => False) w wr) := mod_of_below0 HB.out
      go_wp2_with fail
      refine HW.out.mono ?_
      unfold WPost
      by_cases h0 : st.done = 0
      · rintro e w5 h5
        rw [if_pos h0] at h5
        obtain ⟨rfl, hT5, hM5⟩ := h5
        have H0 : Hid (st.done = 0) := h0
        have HF : Hid (Mod (fun k => k = b ∨ k = c ∨ k = q) w w5 ∧ Tb w5 t q b c n N clk F (setN R i st.R) st.u st.D) := ⟨mod_join HMd.out hM5, hT5⟩
        clear hT5 hM5 h0
        go_wp2
        go_ret
        exact ⟨by rw [HRC.out.1, if_pos H0.out]; rfl, HF.out.1, by rw [HRC.out.2, if_pos H0.out]; exact HF.out.2⟩
      · rintro e w5 h5
        rw [if_neg h0] at h5
        obtain ⟨rfl, hT5, hM5⟩ := h5
        have H0 : Hid (¬ st.done = 0) := h0
        have HF : Hid (Mod (fun k => k = b ∨ k = c ∨ k = q) w w5 ∧ Tb w5 t q b c n N clk (upd2 (upd2 (upd2 F i 5 (max (F i 5) (((k * 32 : Nat) : Int) + st.done))) i 7 clk) i 8 clk) (setN R i st.R) st.u st.D) := ⟨mod_join HMd.out hM5, hT5⟩
        clear hT5 hM5 h0
        go_wp2
        go_ret
        exact ⟨by rw [HRC.out.1, if_neg H0.out]; rfl, HF.out.1, by rw [HRC.out.2, if_neg H0.out]; exact HF.out.2⟩
end
end Go.Proofs.YtfmemkninmpfjaaGreatDoor
