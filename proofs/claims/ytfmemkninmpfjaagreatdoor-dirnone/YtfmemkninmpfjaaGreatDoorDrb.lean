/- A directory's content: the walks of look, read and readFor, of a directory that is in use. Conditions: the table lies in memory as 'Tb' says; what Stat tells. -/
import Derived.Test.YtfmemkninmpfjaaGreatDoorDra
namespace Go.Proofs.YtfmemkninmpfjaaGreatDoor
open Go.RowKit
/-- The ten fields that Stat tells of inode i + 1. -/
def statW (F : Nat → Nat → Int) (bl i : Nat) : List Value := [.int .i64 ((i : Int) + 1), .int .i64 (F i 3), .int .i64 (F i 1), .int .i64 (F i 2), .int .i64 (F i 5), .int .i64 (bl : Nat), .int .i64 (F i 0), .int .i64 (F i 6), .int .i64 (F i 7), .int .i64 (F i 8)]
/-- What Stat tells, in whatever later world. -/
def StatOf (F : Nat → Nat → Int) (t i : Nat) (w : World) : Prop := Calls Tryz.prog 44 #[.pointer (some ⟨t, 0, none⟩), .int .i64 ((i : Int) + 1)] w fun e w' => (∃ bl : Nat, e = .returned (.tuple #[.agg (statW F bl i).toArray, .int .i64 0])) ∧ Mod (fun _ => False) w w'
theorem infSt : (Tryz.prog.info? 91).map (·.size) = some 10 := by kernel_rfl
theorem mod_new_cells {w w1 : World} {o : Obj} (h : Mod (fun _ => False) (w.alloc o) w1) {B : Nat} (hB : w.heap.size ≤ B) (L : List Value) (k : Nat) : Mod (fun _ => False) w (w1.setCells B k L) :=
  ⟨(below_setCells (Below.refl w.heap.size w1) hB L k).os.trans h.os, (below_setCells (Below.refl w.heap.size w1) hB L k).tape.trans h.tape, (below_setCells (Below.refl w.heap.size w1) hB L k).output.trans h.output, by rw [size_setCells]; have := h.size; simp at this; omega, fun j hj hn => by
    rw [setCells_other _ _ _ (by omega)]
    exact (h.block j (by simp; omega) hn).trans (Below.heap_alloc _ _ _ hj)⟩
theorem ret_look {W : World} {B : Nat} {L : List Value} (h : W.rangeAt B 0 L) (hl : L.length = 10) (tmps : Array Value) (h4 : tmps[4]?.getD undef = .pointer (some ⟨B, 0, none⟩)) (h5 : tmps[5]?.getD undef = .int .i64 0) :
    (results Tryz.f61 tmps).run Tryz.prog W = .ok (.tuple #[.agg L.toArray, .int .i64 0]) W := by
  have h2 := run_loadVar_mid (P := Tryz.prog) W B 0 91 L _ h Tryz.underlying91 rfl (by rw [hl]; exact infSt)
  unfold results
  rw [Tryz.results61]
  simp [h4, h5, asAddr, Result.andThen, h2]
set_option maxRecDepth 100000 in
set_option maxHeartbeats 2000000 in
theorem sLook (F : Nat → Nat → Int) (t i : Nat) (w : World) (hS : ∀ o, StatOf F t i (w.alloc o)) (hd : (bits .and .i64 (F i 0) 61440 == 16384) = true) : Calls Tryz.prog 61 #[.pointer (some ⟨t, 0, none⟩), .int .i64 ((i : Int) + 1)] w fun e w' => (∃ bl : Nat, e = .returned (.tuple #[.agg (statW F bl i).toArray, .int .i64 0])) ∧ Mod (fun _ => False) w w' := by
  have HS : Hid (∀ o, StatOf F t i (w.alloc o)) := hS
  clear hS
  go_enter Tryz.func61, Tryz.ntmps61
  go_wp2_with fail
  refine (HS.out _).mono ?_
  rintro e w1 ⟨⟨bl, rfl⟩, HM⟩
  have HM' := (show Hid _ from HM)
  have hws : w.heap.size < w1.heap.size := by have := HM.size; simp at this; omega
  have HTh : Hid ((w1.alloc (.cells (statW F bl i).toArray 91)).there w.heap.size 0 (statW F bl i).toArray.size) := fun j hj => by
    have h0 := there_new w 91 #[.int .i64 0, .int .i64 0, .int .i64 0, .int .i64 0, .int .i64 0, .int .i64 0, .int .i64 0, .int .i64 0, .int .i64 0, .int .i64 0] (n := 10) rfl j hj
    rw [World.cell?_alloc_past _ _ _ hws, World.frozen?_alloc_past _ _ _ hws, HM.cell (p := ⟨w.heap.size, 0 + j, none⟩) (by simp) (fun h => h), HM.frozen (p := ⟨w.heap.size, 0 + j, none⟩) (by simp) (fun h => h)]
    exact h0
  obtain ⟨wE, hwE⟩ : ∃ wE, Hid ((w1.alloc (.cells (statW F bl i).toArray 91)).setCells w.heap.size 0 (statW F bl i) = wE) := ⟨_, rfl⟩
  have HRng : Hid (wE.rangeAt w.heap.size 0 (statW F bl i)) := by
    show World.rangeAt _ _ _ _
    rw [← hwE.out]; exact World.rangeAt_setCells_same _ _ _ _ (by have := HTh.out; simpa using this)
  have HFin : Hid (Mod (fun _ => False) w wE) := by
    rw [← hwE.out]
    exact mod_new_cells (HM.alloc _) (Nat.le_refl _) _ _
  have HOne : Hid ((statW F bl i).toArray.all (·.oneCell') = true) := by
    show _ = _
    refine all_oneCell_toArray (fun v hv => ?_)
    simp only [statW, List.mem_cons, List.not_mem_nil, or_false] at hv
    rcases hv with rfl | rfl | rfl | rfl | rfl | rfl | rfl | rfl | rfl | rfl <;> rfl
  clear HM
  unfold statW at *
  go_wp2_with (refine wpList_store_mid rfl 91 _ _ rfl w.heap.size 0 _ rfl rfl HTh.out infSt HOne.out ?_; rw [hwE.out])
  exact bodyPost_ret (ret_look HRng.out rfl _ rfl rfl) rfl ⟨⟨bl, rfl⟩, HFin.out⟩
set_option maxRecDepth 100000 in
set_option maxHeartbeats 2000000 in
theorem sRead {w : World} {t q b c n N : Nat} {clk : Int} {F : Nat → Nat → Int} {R : Nat → Nat → Nat} {u : Nat → Bool} {D : Nat → Nat} (T : Tb w t q b c n N clk F R u D) (i sz : Nat) (hi : i < N) (hz : F i 0 ≠ 0) (hs : F i 5 = (sz : Int)) (hsz : 0 < sz) (hS : ∀ W, Mod (fun _ => False) w W → StatOf F t i W) (hd : (bits .and .i64 (F i 0) 61440 == 16384) = true) :
    Calls Tryz.prog 54 #[.pointer (some ⟨t, 0, none⟩), .int .i64 ((i : Int) + 1)] w fun e w' => ∃ g, e = .returned (.tuple #[.slice (some ⟨g, 0, none⟩) sz sz, .int .i64 0]) ∧ Cont w' (some ⟨g, 0, none⟩) sz sz (rd u D (R i)) ∧ Mod (fun _ => False) w w' := by
  have HT : Hid (Tb w t q b c n N clk F R u D) := T
  have HS := (show Hid (∀ W, Mod (fun _ => False) w W → StatOf F t i W) from hS)
  have HZ := (show Hid (F i 0 ≠ 0 ∧ F i 5 = (sz : Int)) from ⟨hz, hs⟩)
  have h17 := (T.sz i).2
  rw [hs] at h17
  clear T hS hz hs
  go_enter Tryz.func54, Tryz.ntmps54
  go_wp2_with fail
  refine (sLook F t i _ (fun o => HS.out _ ((Mod.refl _ w).alloc o)) hd).mono ?_
  rintro e w1 ⟨⟨bl, rfl⟩, HM⟩
  have HM1 : Hid (∀ o, Mod (fun _ => False) w (w1.alloc o)) := fun o => HM.alloc o
  clear HM
  unfold statW
  rw [HZ.out.2]
  go_wp2_with fail
  refine (tread (HT.out.new (HM1.out _)) i 0 sz sz hi HZ.out.1 HZ.out.2 hsz (by omega) sz (by omega)).mono ?_
  rintro e w2 ⟨rfl, H2⟩
  have HC : Hid (Cont w2 (some ⟨w1.heap.size + 1, 0, none⟩) sz sz (rd u D (R i))) := by
    refine ⟨Nat.le_refl _, by omega, fun j => ?_, fun _ => ⟨_, 0, rfl, fun j hj => ?_⟩⟩
    · unfold rd; split
      · exact HT.out.S.dl _
      · omega
    · have := H2.at_ j hj
      rw [World.size_alloc, if_pos hj, Nat.zero_add] at this
      rw [Nat.zero_add]; exact this
  have HM2 : Hid (Mod (fun _ => False) w w2) := (HM1.out _).trans H2.mod
  clear H2
  go_wp2
  go_ret2
  exact ⟨_, rfl, HC.out, HM2.out⟩
set_option maxRecDepth 100000 in
set_option maxHeartbeats 2000000 in
theorem sReadFor {w : World} {t q b c n N : Nat} {clk : Int} {F : Nat → Nat → Int} {R : Nat → Nat → Nat} {u : Nat → Bool} {D : Nat → Nat} (T : Tb w t q b c n N clk F R u D) (i sz : Nat) (l : List UInt8) (hi : i < N) (hz : F i 0 ≠ 0) (hs : F i 5 = (sz : Int)) (hsz : 0 < sz) (hS : ∀ W, Mod (fun _ => False) w W → StatOf F t i W) (hd : (bits .and .i64 (F i 0) 61440 == 16384) = true) (hl : l.length < 4294967281) (ha : ∀ x ∈ l, x.toNat < 128) :
    Calls Tryz.prog 58 #[.pointer (some ⟨t, 0, none⟩), .int .i64 ((i : Int) + 1), .string ⟨l.toArray⟩] w fun e w' => ∃ g, e = .returned (.tuple #[.slice (some ⟨g, 0, none⟩) sz sz, .int .i64 (chk l)]) ∧ Cont w' (some ⟨g, 0, none⟩) sz sz (rd u D (R i)) ∧ Mod (fun _ => False) w w' := by
  have HR := (show Hid (Calls _ _ _ _ _) from sRead T i sz hi hz hs hsz hS hd)
  clear T hS hz hs
  go_enter Tryz.func58, Tryz.ntmps58
  go_wp2_with fail
  refine Calls.mono (show Calls _ _ _ _ _ from HR.out) ?_
  rintro e w1 ⟨g, rfl, HC, HM⟩
  have HC' : Hid (Cont w1 (some ⟨g, 0, none⟩) sz sz (rd u D (R i))) := HC
  have HM' : Hid (Mod (fun _ => False) w w1) := HM
  clear HC HM
  go_wp2_with fail
  refine (sCheck l _ hl ha).mono ?_
  rintro e w2 ⟨rfl, HB⟩
  have HF : Hid (Cont w2 (some ⟨g, 0, none⟩) sz sz (rd u D (R i)) ∧ Mod (fun _ => False) w w2) := ⟨HC'.out.keep (own := fun _ => False) (KC.of_below HB) (fun _ _ h => h), HM'.out.trans (mod_of_below0 HB)⟩
  clear HB
  go_wp2
  go_ret2
  exact ⟨_, rfl, HF.out⟩
end Go.Proofs.YtfmemkninmpfjaaGreatDoor
