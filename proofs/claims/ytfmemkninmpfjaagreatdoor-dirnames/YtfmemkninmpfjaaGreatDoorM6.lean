/- Several texts of this claim, one behind the other, in their order. -/
import Derived.Test.YtfmemkninmpfjaaGreatDoorM5
import Derived.Laws.ResultCell
/- The walk of take, one of its ways, level 1. Conditions: the store lies in memory as 'St' says, the table's first cell leads to it, the ref lies in a block of its own. -/
namespace Go.Proofs.YtfmemkninmpfjaaGreatDoor
open Go.RowKit
section
variable {w : World} {b c n : Nat} {u : Nat → Bool} {D : Nat → Nat}
set_option maxRecDepth 8000 in
set_option maxHeartbeats 4000000 in
theorem take_have1_bad (S : St w b c n u D) (t ab ao k r : Nat) (ht : w.cell? ⟨t, 0, none⟩ = some (.pointer (some ⟨b, 0, none⟩))) (ha : w.cell? ⟨ab, ao, none⟩ = some (.int .i64 (r : Nat))) (hf : w.frozen? ⟨ab, ao, none⟩ = false) (hA : Apart b c t ab) (hk : k < 16) (hr : r < 4294967296) (hr0 : r ≠ 0) (hx : tk 0 n u D (ptr u D r (k)) (0) = none) :
    Calls Tryz.prog 104 #[.pointer (some ⟨t, 0, none⟩), .pointer (some ⟨ab, ao, none⟩), .int .i64 16, .int .i64 k] w (TkPost b c n t ab ao u D r w none) := by
  have HT : Hid (TS b c n t ab ao w.heap.size (w.heap.size + 1) r u D ((w.alloc (.cells #[.pointer (some ⟨t, 0, none⟩)] 38)).alloc (.cells #[.pointer (some ⟨ab, ao, none⟩)] 177))) := TS.box S ht ha hf hA
  have HM0 : Hid (Mod (fun _ => False) w ((w.alloc (.cells #[.pointer (some ⟨t, 0, none⟩)] 38)).alloc (.cells #[.pointer (some ⟨ab, ao, none⟩)] 177))) := ((Mod.refl _ w).alloc _).alloc _
  have hab := block_lt_of_cell ha
  have htl := block_lt_of_cell ht
  have hz := zvP
  have hI := infP16
  have hn := S.n2
  have HN : Hid (ab < w.heap.size) := hab
  have HBC : Hid (b < w.heap.size ∧ c < w.heap.size) := ⟨S.lt_b, S.lt_c⟩
  have hw1 : IntKind.i64.wrap (k : Int) = k := by rw [IntKind.wrap_i64]; omega
  have hw2 : IntKind.i64.wrap ((k : Int) / 16) = (k : Int) / 16 := by rw [IntKind.wrap_i64]; omega
  have HTM : Hid ((k : Int) % 16 = ((k % 16 : Nat) : Int)) := by show _ = _; omega
  have HTN : Hid (t < w.heap.size) := htl
  have HD : Hid (∀ j, D j < 256) := S.dl
  have HX : Hid (_ = _) := hx
  have hrb : ((r : Int) == 0) = false := by simpa using hr0
  clear S hf hA hx hr0
  go_enter Tryz.func104, Tryz.ntmps104
  go_wp2_with fail
  have HT2 : Hid (TS b c n t ab ao w.heap.size (w.heap.size + 1) r u D ((w.alloc (.cells #[.pointer (some ⟨t, 0, none⟩)] 38)).alloc (.cells #[.pointer (some ⟨ab, ao, none⟩)] 177))) := HT
  have HF2 : Hid (Fr b c ab ao w ((w.alloc (.cells #[.pointer (some ⟨t, 0, none⟩)] 38)).alloc (.cells #[.pointer (some ⟨ab, ao, none⟩)] 177))) := Fr.of_mod HM0.out HN.out (fun _ h => h.elim) HT.out.A.nb HT.out.A.nc
  have HX2' : w.heap.size + 2 ≤ ((w.alloc (.cells #[.pointer (some ⟨t, 0, none⟩)] 38)).alloc (.cells #[.pointer (some ⟨ab, ao, none⟩)] 177)).heap.size := by simp
  generalize hW2 : ((w.alloc (.cells #[.pointer (some ⟨t, 0, none⟩)] 38)).alloc (.cells #[.pointer (some ⟨ab, ao, none⟩)] 177)) = w2 at *
  clear hW2
  clear HT HM0
  have HX2 : Hid (w.heap.size + 2 ≤ w2.heap.size) := HX2'
  generalize hx4 : w.heap.size = x4 at *
  have HS0 : Hid ((w2.drewN 1).cell? ⟨x4, 0, none⟩ = some (.pointer (some ⟨t, 0, none⟩)) ∧ (w2.drewN 1).cell? ⟨x4 + 1, 0, none⟩ = some (.pointer (some ⟨ab, ao, none⟩)) ∧ (w2.drewN 1).cell? ⟨ab, ao, none⟩ = some (.int .i64 (r : Int))) := ⟨HT2.out.c4, HT2.out.c5, HT2.out.ca⟩
  have HZ : Hid (TS b c n t ab ao x4 (x4 + 1) r u D (w2.alloc (.cells zeroP 198)).drew) := HT2.out.new (((Mod.refl _ w2).alloc _).drewN 1)
  have hS1 : (w2.alloc (.cells zeroP 198)).drew.cell? ⟨x4, 0, none⟩ = some (.pointer (some ⟨t, 0, none⟩)) ∧ (w2.alloc (.cells zeroP 198)).drew.cell? ⟨x4 + 1, 0, none⟩ = some (.pointer (some ⟨ab, ao, none⟩)) ∧ (w2.alloc (.cells zeroP 198)).drew.cell? ⟨ab, ao, none⟩ = some (.int .i64 (r : Int)) := ⟨HZ.out.c4, HZ.out.c5, HZ.out.ca⟩
  have HZT : Hid ((w2.alloc (.cells zeroP 198)).drew.there w2.heap.size 0 16) := there_new w2 198 zeroP sizeP
  have hx2 : x4 + 2 ≤ w2.heap.size := HX2.out
  go_region_held (fun W' => W'.cell? ⟨x4, 0, none⟩ = some (.pointer (some ⟨t, 0, none⟩)) ∧ W'.cell? ⟨x4 + 1, 0, none⟩ = some (.pointer (some ⟨ab, ao, none⟩)) ∧ W'.cell? ⟨ab, ao, none⟩ = some (.int .i64 (r : Int))) (first | exact hS6 | exact hS5 | exact hS3 | exact hS1 | exact HS0.out) (first | (go_at_call 127; refine (load_row (HT2.out.S.drewN 1) t r HT2.out.ct (by omega)).mono ?_; rintro e w3 ⟨A, rfl, hsz, HA, HO, HJ, HM3⟩; have HM3' : Hid (Mod (fun _ => False) w2 w3) := ((Mod.refl _ w2).drewN 1).trans HM3.out; have HT3 : Hid (TS b c n t ab ao x4 (x4 + 1) r u D w3) := HT2.out.new HM3'.out; have hS3 := s3 HT3.out; have hS5 := s3 (HT3.out.new ((Mod.refl _ w3).alloc (.cells zeroP 198))); have hO1 := one_list HO.out; have hTh : (w3.alloc (.cells zeroP 198)).there w3.heap.size 0 16 := there_new w3 198 zeroP sizeP; obtain ⟨w4, Pb, HW4, HPb, HTP⟩ := four1 HT3.out A hsz HO.out HJ.out (Nat.le_trans hx2 HM3'.out.size) HM3'.out; have hS6 := HW4.out ▸ s3 HTP.out.T) | (go_at_call 127; refine (load_row HZ.out.S t r HZ.out.ct (by omega)).mono ?_; rintro e w3 ⟨A, rfl, hsz, HA, HO, HJ, HM3⟩; have HM3' : Hid (Mod (fun _ => False) (w2.alloc (.cells zeroP 198)).drew w3) := HM3; have HT3 : Hid (TS b c n t ab ao x4 (x4 + 1) r u D w3) := HZ.out.new HM3'.out; have hS3 := s3 HT3.out; have hO1 := one_list HO.out; have hTh : w3.there w2.heap.size 0 16 := HM3'.out.there (by show _ < (w2.alloc _).heap.size; simp) (fun h => h) HZT.out; obtain ⟨w4, Pb, HW4, HPb, HTP⟩ := four2 HT3.out A hsz HJ.out hx2 hTh HM3'.out (HT2.out.lts hx2); have hS6 := HW4.out ▸ s3 HTP.out.T))
  all_goals rw [← HW4.out, ← HPb.out]
  all_goals clear hTh hS6 hS3 hO1 HT3 HM3' HW4 HPb HM3
  all_goals try clear hS5
  all_goals clear hS1 HZT HZ hx2
  all_goals have HF4 : Hid (Fr b c ab ao w w4) := HF2.out.trans (HTP.out.fr0 (block_lt_of_cell HT2.out.ca))
  all_goals go_wp2_with fail
  all_goals have HAP : Hid (Apart b c t Pb) := ⟨by have := HTP.out.lt; omega, by have := HTP.out.lt; have := HBC.out.1; omega, by have := HTP.out.lt; have := HBC.out.2; omega, HTP.out.T.A.tb, HTP.out.T.A.tc, by have := HTP.out.lt; have := HTN.out; omega⟩
  all_goals have HPN : Hid (ab ≠ Pb ∧ x4 ≠ Pb ∧ x4 + 1 ≠ Pb) := by have := HTP.out.lt; have := HN.out; refine ⟨?_, ?_, ?_⟩ <;> omega
  all_goals have HPL : Hid (w.heap.size ≤ Pb) := by have := HTP.out.lt; show _ ≤ _; omega
  all_goals have HS7 : Hid ((w4.drewN 1).cell? ⟨x4, 0, none⟩ = some (.pointer (some ⟨t, 0, none⟩))) := HTP.out.T.c4
  all_goals (go_region_held (fun W' => W'.cell? ⟨x4, 0, none⟩ = some (.pointer (some ⟨t, 0, none⟩))) (first | exact hS8 | exact HS7.out) (first | (go_at_call 104; refine (take0 (HTP.out.T.S.drewN 1) t Pb (k) (ptr u D r (k)) (0) HTP.out.T.ct (HTP.out.at_ (k) (by omega)) (HTP.out.fr (k) (by omega)) HAP.out).mono ?_; rw [HX.out]; rintro e w5 ⟨rfl, H5, C5, F5, T5⟩; have HT5 : Hid (TS b c n t ab ao x4 (x4 + 1) r u D w5) := HTP.out.T.step (((Mod.refl _ w4).drewN 1).trans F5.mod) H5 (fun e => e.elim HTP.out.T.A.nb (fun e => e.elim HTP.out.T.A.nc HPN.out.1)) (fun e => e.elim HTP.out.T.A.tb (fun e => e.elim HTP.out.T.A.tc HAP.out.ta)) (fun e => e.elim HTP.out.T.n4.1 (fun e => e.elim HTP.out.T.n4.2.1 HPN.out.2.1)) (fun e => e.elim HTP.out.T.n5.1 (fun e => e.elim HTP.out.T.n5.2.1 HPN.out.2.2)); have HF5 : Hid (Fr b c ab ao w w5) := fr_sub F5 (block_lt_of_cell HTP.out.T.ca) HTP.out.T.A.nb HTP.out.T.A.nc HPN.out.1 HPL.out HF4.out; have HC5 : Hid (w5.cell? ⟨Pb, k, none⟩ = some (.int .i64 (ptr u D r (k) : Nat))) := C5; have HG5 : Hid (∀ o, o ≠ (k) → w5.cell? ⟨Pb, o, none⟩ = w4.cell? ⟨Pb, o, none⟩) := F5.cell; have hS8 := HT5.out.c4; clear H5 C5 F5 T5)))
  all_goals clear hS8
  all_goals go_wp2_with (go_at_call 123; refine (noop_any _).mono ?_; rintro e w6 ⟨rfl, hw6⟩; rw [hw6]; clear hw6 w6)
  all_goals go_ret2
  all_goals exact ⟨by simp, HT5.out.S, HT5.out.ca, HF5.out, HT5.out.ct⟩
end
end Go.Proofs.YtfmemkninmpfjaaGreatDoor
/- The walk of take, one of its ways, level 1. Conditions: the store lies in memory as 'St' says, the table's first cell leads to it, the ref lies in a block of its own. -/
namespace Go.Proofs.YtfmemkninmpfjaaGreatDoor
open Go.RowKit
section
variable {w : World} {b c n : Nat} {u : Nat → Bool} {D : Nat → Nat}
set_option maxRecDepth 8000 in
set_option maxHeartbeats 4000000 in
theorem take_have1_good (S : St w b c n u D) (t ab ao k r : Nat) (u2 : Nat → Bool) (D2 : Nat → Nat) (p f : Nat) (ht : w.cell? ⟨t, 0, none⟩ = some (.pointer (some ⟨b, 0, none⟩))) (ha : w.cell? ⟨ab, ao, none⟩ = some (.int .i64 (r : Nat))) (hf : w.frozen? ⟨ab, ao, none⟩ = false) (hA : Apart b c t ab) (hk : k < 16) (hr : r < 4294967296) (hr0 : r ≠ 0) (hx : tk 0 n u D (ptr u D r (k)) (0) = some (u2, D2, p, f)) (hp : p < 4294967296) :
    Calls Tryz.prog 104 #[.pointer (some ⟨t, 0, none⟩), .pointer (some ⟨ab, ao, none⟩), .int .i64 16, .int .i64 k] w (TkPost b c n t ab ao u D r w (some (u2, saved u2 D2 r (upd (ptr u D r) (k) p), r, f))) := by
  have HT : Hid (TS b c n t ab ao w.heap.size (w.heap.size + 1) r u D ((w.alloc (.cells #[.pointer (some ⟨t, 0, none⟩)] 38)).alloc (.cells #[.pointer (some ⟨ab, ao, none⟩)] 177))) := TS.box S ht ha hf hA
  have HM0 : Hid (Mod (fun _ => False) w ((w.alloc (.cells #[.pointer (some ⟨t, 0, none⟩)] 38)).alloc (.cells #[.pointer (some ⟨ab, ao, none⟩)] 177))) := ((Mod.refl _ w).alloc _).alloc _
  have hab := block_lt_of_cell ha
  have htl := block_lt_of_cell ht
  have hz := zvP
  have hI := infP16
  have hn := S.n2
  have HN : Hid (ab < w.heap.size) := hab
  have HBC : Hid (b < w.heap.size ∧ c < w.heap.size) := ⟨S.lt_b, S.lt_c⟩
  have hw1 : IntKind.i64.wrap (k : Int) = k := by rw [IntKind.wrap_i64]; omega
  have hw2 : IntKind.i64.wrap ((k : Int) / 16) = (k : Int) / 16 := by rw [IntKind.wrap_i64]; omega
  have HTM : Hid ((k : Int) % 16 = ((k % 16 : Nat) : Int)) := by show _ = _; omega
  have HTN : Hid (t < w.heap.size) := htl
  have HD : Hid (∀ j, D j < 256) := S.dl
  have HX : Hid (_ = _) := hx
  have hrb : ((r : Int) == 0) = false := by simpa using hr0
  clear S hf hA hx hr0
  go_enter Tryz.func104, Tryz.ntmps104
  go_wp2_with fail
  have HT2 : Hid (TS b c n t ab ao w.heap.size (w.heap.size + 1) r u D ((w.alloc (.cells #[.pointer (some ⟨t, 0, none⟩)] 38)).alloc (.cells #[.pointer (some ⟨ab, ao, none⟩)] 177))) := HT
  have HF2 : Hid (Fr b c ab ao w ((w.alloc (.cells #[.pointer (some ⟨t, 0, none⟩)] 38)).alloc (.cells #[.pointer (some ⟨ab, ao, none⟩)] 177))) := Fr.of_mod HM0.out HN.out (fun _ h => h.elim) HT.out.A.nb HT.out.A.nc
  have HX2' : w.heap.size + 2 ≤ ((w.alloc (.cells #[.pointer (some ⟨t, 0, none⟩)] 38)).alloc (.cells #[.pointer (some ⟨ab, ao, none⟩)] 177)).heap.size := by simp
  generalize hW2 : ((w.alloc (.cells #[.pointer (some ⟨t, 0, none⟩)] 38)).alloc (.cells #[.pointer (some ⟨ab, ao, none⟩)] 177)) = w2 at *
  clear hW2
  clear HT HM0
  have HX2 : Hid (w.heap.size + 2 ≤ w2.heap.size) := HX2'
  generalize hx4 : w.heap.size = x4 at *
  have HS0 : Hid ((w2.drewN 1).cell? ⟨x4, 0, none⟩ = some (.pointer (some ⟨t, 0, none⟩)) ∧ (w2.drewN 1).cell? ⟨x4 + 1, 0, none⟩ = some (.pointer (some ⟨ab, ao, none⟩)) ∧ (w2.drewN 1).cell? ⟨ab, ao, none⟩ = some (.int .i64 (r : Int))) := ⟨HT2.out.c4, HT2.out.c5, HT2.out.ca⟩
  have HZ : Hid (TS b c n t ab ao x4 (x4 + 1) r u D (w2.alloc (.cells zeroP 198)).drew) := HT2.out.new (((Mod.refl _ w2).alloc _).drewN 1)
  have hS1 : (w2.alloc (.cells zeroP 198)).drew.cell? ⟨x4, 0, none⟩ = some (.pointer (some ⟨t, 0, none⟩)) ∧ (w2.alloc (.cells zeroP 198)).drew.cell? ⟨x4 + 1, 0, none⟩ = some (.pointer (some ⟨ab, ao, none⟩)) ∧ (w2.alloc (.cells zeroP 198)).drew.cell? ⟨ab, ao, none⟩ = some (.int .i64 (r : Int)) := ⟨HZ.out.c4, HZ.out.c5, HZ.out.ca⟩
  have HZT : Hid ((w2.alloc (.cells zeroP 198)).drew.there w2.heap.size 0 16) := there_new w2 198 zeroP sizeP
  have hx2 : x4 + 2 ≤ w2.heap.size := HX2.out
  go_region_held (fun W' => W'.cell? ⟨x4, 0, none⟩ = some (.pointer (some ⟨t, 0, none⟩)) ∧ W'.cell? ⟨x4 + 1, 0, none⟩ = some (.pointer (some ⟨ab, ao, none⟩)) ∧ W'.cell? ⟨ab, ao, none⟩ = some (.int .i64 (r : Int))) (first | exact hS6 | exact hS5 | exact hS3 | exact hS1 | exact HS0.out) (first | (go_at_call 127; refine (load_row (HT2.out.S.drewN 1) t r HT2.out.ct (by omega)).mono ?_; rintro e w3 ⟨A, rfl, hsz, HA, HO, HJ, HM3⟩; have HM3' : Hid (Mod (fun _ => False) w2 w3) := ((Mod.refl _ w2).drewN 1).trans HM3.out; have HT3 : Hid (TS b c n t ab ao x4 (x4 + 1) r u D w3) := HT2.out.new HM3'.out; have hS3 := s3 HT3.out; have hS5 := s3 (HT3.out.new ((Mod.refl _ w3).alloc (.cells zeroP 198))); have hO1 := one_list HO.out; have hTh : (w3.alloc (.cells zeroP 198)).there w3.heap.size 0 16 := there_new w3 198 zeroP sizeP; obtain ⟨w4, Pb, HW4, HPb, HTP⟩ := four1 HT3.out A hsz HO.out HJ.out (Nat.le_trans hx2 HM3'.out.size) HM3'.out; have hS6 := HW4.out ▸ s3 HTP.out.T) | (go_at_call 127; refine (load_row HZ.out.S t r HZ.out.ct (by omega)).mono ?_; rintro e w3 ⟨A, rfl, hsz, HA, HO, HJ, HM3⟩; have HM3' : Hid (Mod (fun _ => False) (w2.alloc (.cells zeroP 198)).drew w3) := HM3; have HT3 : Hid (TS b c n t ab ao x4 (x4 + 1) r u D w3) := HZ.out.new HM3'.out; have hS3 := s3 HT3.out; have hO1 := one_list HO.out; have hTh : w3.there w2.heap.size 0 16 := HM3'.out.there (by show _ < (w2.alloc _).heap.size; simp) (fun h => h) HZT.out; obtain ⟨w4, Pb, HW4, HPb, HTP⟩ := four2 HT3.out A hsz HJ.out hx2 hTh HM3'.out (HT2.out.lts hx2); have hS6 := HW4.out ▸ s3 HTP.out.T))
  all_goals rw [← HW4.out, ← HPb.out]
  all_goals clear hTh hS6 hS3 hO1 HT3 HM3' HW4 HPb HM3
  all_goals try clear hS5
  all_goals clear hS1 HZT HZ hx2
  all_goals have HF4 : Hid (Fr b c ab ao w w4) := HF2.out.trans (HTP.out.fr0 (block_lt_of_cell HT2.out.ca))
  all_goals go_wp2_with fail
  all_goals have HAP : Hid (Apart b c t Pb) := ⟨by have := HTP.out.lt; omega, by have := HTP.out.lt; have := HBC.out.1; omega, by have := HTP.out.lt; have := HBC.out.2; omega, HTP.out.T.A.tb, HTP.out.T.A.tc, by have := HTP.out.lt; have := HTN.out; omega⟩
  all_goals have HPN : Hid (ab ≠ Pb ∧ x4 ≠ Pb ∧ x4 + 1 ≠ Pb) := by have := HTP.out.lt; have := HN.out; refine ⟨?_, ?_, ?_⟩ <;> omega
  all_goals have HPL : Hid (w.heap.size ≤ Pb) := by have := HTP.out.lt; show _ ≤ _; omega
  all_goals have HS7 : Hid ((w4.drewN 1).cell? ⟨x4, 0, none⟩ = some (.pointer (some ⟨t, 0, none⟩))) := HTP.out.T.c4
  all_goals (go_region_held (fun W' => W'.cell? ⟨x4, 0, none⟩ = some (.pointer (some ⟨t, 0, none⟩))) (first | exact hS8 | exact HS7.out) (first | (go_at_call 104; refine (take0 (HTP.out.T.S.drewN 1) t Pb (k) (ptr u D r (k)) (0) HTP.out.T.ct (HTP.out.at_ (k) (by omega)) (HTP.out.fr (k) (by omega)) HAP.out).mono ?_; rw [HX.out]; rintro e w5 ⟨rfl, H5, C5, F5, T5⟩; have HT5 : Hid (TS b c n t ab ao x4 (x4 + 1) r u2 D2 w5) := HTP.out.T.step (((Mod.refl _ w4).drewN 1).trans F5.mod) H5 (fun e => e.elim HTP.out.T.A.nb (fun e => e.elim HTP.out.T.A.nc HPN.out.1)) (fun e => e.elim HTP.out.T.A.tb (fun e => e.elim HTP.out.T.A.tc HAP.out.ta)) (fun e => e.elim HTP.out.T.n4.1 (fun e => e.elim HTP.out.T.n4.2.1 HPN.out.2.1)) (fun e => e.elim HTP.out.T.n5.1 (fun e => e.elim HTP.out.T.n5.2.1 HPN.out.2.2)); have HF5 : Hid (Fr b c ab ao w w5) := fr_sub F5 (block_lt_of_cell HTP.out.T.ca) HTP.out.T.A.nb HTP.out.T.A.nc HPN.out.1 HPL.out HF4.out; have HC5 : Hid (w5.cell? ⟨Pb, k, none⟩ = some (.int .i64 (p : Nat))) := C5; have HG5 : Hid (∀ o, o ≠ (k) → w5.cell? ⟨Pb, o, none⟩ = w4.cell? ⟨Pb, o, none⟩) := F5.cell; have hS8 := HT5.out.c4; clear H5 C5 F5 T5)))
  all_goals clear hS8
  all_goals obtain ⟨L, hlen, HL, HR⟩ := row_of HTP.out.at_ HC5.out HG5.out
  all_goals have hIL : (Tryz.prog.info? 198).map (·.size) = some L.length := by rw [hlen]; exact infP
  all_goals have hUL := undP
  all_goals have HQ : Hid (∀ j, upd (ptr u D r) (k) p j < 4294967296) := fun j => by unfold upd; split; exact hp; exact ptr_lt _ _ HD.out _ _
  all_goals have HS9 : Hid ((w5.drewN 1).cell? ⟨x4, 0, none⟩ = some (.pointer (some ⟨t, 0, none⟩)) ∧ (w5.drewN 1).cell? ⟨x4 + 1, 0, none⟩ = some (.pointer (some ⟨ab, ao, none⟩)) ∧ (w5.drewN 1).cell? ⟨ab, ao, none⟩ = some (.int .i64 (r : Int)) ∧ (w5.drewN 1).rangeAt Pb 0 L) := ⟨HT5.out.c4, HT5.out.c5, HT5.out.ca, HR.out⟩
  all_goals go_wp2_with fail
  all_goals (go_region_held (fun W' => W'.cell? ⟨x4, 0, none⟩ = some (.pointer (some ⟨t, 0, none⟩)) ∧ W'.cell? ⟨x4 + 1, 0, none⟩ = some (.pointer (some ⟨ab, ao, none⟩)) ∧ W'.cell? ⟨ab, ao, none⟩ = some (.int .i64 (r : Int)) ∧ W'.rangeAt Pb 0 L) (first | exact hS10 | exact HS9.out) (first | (go_at_call 128; rw [HL.out]; refine (save_any (HT5.out.S.drewN 1) t r (upd (ptr u D r) (k) p) HQ.out HT5.out.ct HT5.out.A.tc (by omega)).mono ?_; rintro e w6 ⟨rfl, H6, M6⟩; have HT6 : Hid (TS b c n t ab ao x4 (x4 + 1) r u2 (saved u2 D2 r (upd (ptr u D r) (k) p)) w6) := HT5.out.stored (((Mod.refl _ w5).drewN 1).trans M6) H6 (fun _ e => .inr e); have HF6 : Hid (Fr b c ab ao w w6) := HF5.out.trans (HT5.out.fr (((Mod.refl _ w5).drewN 1).trans M6) (fun _ e => .inr e)); have hS10 : w6.cell? ⟨x4, 0, none⟩ = some (.pointer (some ⟨t, 0, none⟩)) ∧ w6.cell? ⟨x4 + 1, 0, none⟩ = some (.pointer (some ⟨ab, ao, none⟩)) ∧ w6.cell? ⟨ab, ao, none⟩ = some (.int .i64 (r : Int)) ∧ w6.rangeAt Pb 0 L := ⟨HT6.out.c4, HT6.out.c5, HT6.out.ca, range_mod M6 HR.out (block_lt_of_cell HC5.out) HAP.out.nc⟩; clear H6 M6)))
  all_goals go_wp2
  all_goals go_ret2
  all_goals exact ⟨by simp, HT6.out.S, HT6.out.ca, HF6.out, HT6.out.ct⟩
end
end Go.Proofs.YtfmemkninmpfjaaGreatDoor
/- The walk of take, of 16 places. Conditions: the store lies in memory as 'St' says, the table's first cell leads to it, the ref lies in a block of its own. -/
namespace Go.Proofs.YtfmemkninmpfjaaGreatDoor
open Go.RowKit
section
variable {w : World} {b c n : Nat} {u : Nat → Bool} {D : Nat → Nat}
theorem tk_eq1 (n : Nat) (u : Nat → Bool) (D : Nat → Nat) (r k : Nat) : tk 1 n u D r k = (if r ≠ 0 then some (u, r) else (low u n).map fun i => (upd u i true, i + 1)).bind fun x => (tk 0 n x.1 D (ptr x.1 D x.2 (k)) (0)).map fun y => (y.1, saved y.1 y.2.1 x.2 (upd (ptr x.1 D x.2) (k) y.2.2.1), x.2, y.2.2.2) := by
  simp only [tk, Nat.pow_zero, Nat.div_one]
theorem tk_lt0 {n : Nat} {u : Nat → Bool} {D : Nat → Nat} {r k : Nat} {u2 : Nat → Bool} {D2 : Nat → Nat} {p f : Nat} (hn : n ≤ 4096) (hr : r < 4294967296) (h : tk 0 n u D r k = some (u2, D2, p, f)) : p < 4294967296 := by
  rw [tk] at h
  by_cases h0 : r ≠ 0
  · rw [if_pos h0] at h
    simp only [Option.some.injEq, Prod.mk.injEq] at h; omega
  · rw [if_neg h0] at h
    cases hl : low u n with
    | none => rw [hl] at h; simp at h
    | some i =>
      have := (low_some hl).1
      rw [hl] at h
      simp only [Option.map_some, Option.some.injEq, Prod.mk.injEq] at h; omega
theorem take1 (S : St w b c n u D) (t ab ao r k : Nat) (ht : w.cell? ⟨t, 0, none⟩ = some (.pointer (some ⟨b, 0, none⟩))) (ha : w.cell? ⟨ab, ao, none⟩ = some (.int .i64 (r : Nat)))
    (hf : w.frozen? ⟨ab, ao, none⟩ = false) (hA : Apart b c t ab) (hk : k < 16) (hr : r < 4294967296) :
    Calls Tryz.prog 104 #[.pointer (some ⟨t, 0, none⟩), .pointer (some ⟨ab, ao, none⟩), .int .i64 16, .int .i64 k] w (TkPost b c n t ab ao u D r w (tk 1 n u D r k)) := by
  rw [tk_eq1 n u D r k]
  by_cases h : r ≠ 0
  · rw [if_pos h, Option.bind_some]
    cases hx : tk 0 n u D (ptr u D r (k)) (0) with
    | none => exact take_have1_bad S t ab ao k r ht ha hf hA hk hr h hx
    | some y =>
      obtain ⟨u2, D2, p, f⟩ := y
      exact take_have1_good S t ab ao k r u2 D2 p f ht ha hf hA hk hr h hx (tk_lt0 S.n2 (ptr_lt _ _ S.dl _ _) hx)
  · rw [if_neg h]
    obtain rfl : r = 0 := by omega
    cases hl : low u n with
    | none => exact take_full S t ab ao k 16 ht ha hf hA hl
    | some i =>
      rw [Option.map_some, Option.bind_some]
      cases hx : tk 0 n (upd u i true) D (ptr (upd u i true) D (i + 1) (k)) (0) with
      | none => exact take_new1_bad S t ab ao k i ht ha hf hA hk hl hx
      | some y =>
        obtain ⟨u2, D2, p, f⟩ := y
        exact take_new1_good S t ab ao k i u2 D2 p f ht ha hf hA hk hl hx (tk_lt0 S.n2 (ptr_lt _ _ S.dl _ _) hx)
end
end Go.Proofs.YtfmemkninmpfjaaGreatDoor
/- A table of inodes where it lies: its store, its nodes' cells and the clock. Conditions: none but what 'Tb' says. -/
namespace Go.Proofs.YtfmemkninmpfjaaGreatDoor
open Go.RowKit
/-- A table at t: nodes at q (N of them: the first nine cells F, then eight refs R), a store at b and c (n blocks, in use u, bytes D). -/
structure Tb (w : World) (t q b c n N : Nat) (clk : Int) (F : Nat → Nat → Int) (R : Nat → Nat → Nat) (u : Nat → Bool) (D : Nat → Nat) : Prop where
  S : St w b c n u D
  N1 : 1 ≤ N
  N2 : N ≤ 4096
  c0 : w.cell? ⟨t, 0, none⟩ = some (.pointer (some ⟨b, 0, none⟩))
  c1 : ∃ cp, w.cell? ⟨t, 1, none⟩ = some (.slice (some ⟨q, 0, none⟩) N cp)
  c2 : w.cell? ⟨t, 2, none⟩ = some (.int .i64 clk)
  ft : ∀ o, w.frozen? ⟨t, o, none⟩ = false
  cf : ∀ i o, i < N → o < 9 → w.cell? ⟨q, i * 17 + o, none⟩ = some (.int .i64 (F i o))
  cr : ∀ i k, i < N → k < 8 → w.cell? ⟨q, i * 17 + 9 + k, none⟩ = some (.int .i64 (R i k : Nat))
  fq : ∀ o, w.frozen? ⟨q, o, none⟩ = false
  rl : ∀ i k, R i k < 4294967296
  sz : ∀ i, 0 ≤ F i 5 ∧ F i 5 ≤ 17792
  t0 : t ≠ 1
  q0 : q ≠ 1
  tq : t ≠ q
  tb : t ≠ b
  tc : t ≠ c
  qb : q ≠ b
  qc : q ≠ c
section
variable {w w' : World} {t q b c n N : Nat} {clk : Int} {F : Nat → Nat → Int} {R : Nat → Nat → Nat} {u : Nat → Bool} {D : Nat → Nat}
theorem Tb.lt_t (T : Tb w t q b c n N clk F R u D) : t < w.heap.size := block_lt_of_cell T.c0
theorem Tb.lt_q (T : Tb w t q b c n N clk F R u D) : q < w.heap.size := block_lt_of_cell (T.cf 0 0 (by have := T.N1; omega) (by omega))
/-- The store's state may turn, the rest is as it was. -/
theorem Tb.store (T : Tb w t q b c n N clk F R u D) {s : Nat → Prop} (h : Mod s w w') {u' : Nat → Bool} {D' : Nat → Nat} (hS : St w' b c n u' D') (ht : ¬ s t) (hq : ¬ s q) : Tb w' t q b c n N clk F R u' D' where
  S := hS
  N1 := T.N1
  N2 := T.N2
  c0 := (h.cell (p := ⟨t, 0, none⟩) T.lt_t ht).trans T.c0
  c1 := by obtain ⟨cp, e⟩ := T.c1; exact ⟨cp, (h.cell (p := ⟨t, 1, none⟩) T.lt_t ht).trans e⟩
  c2 := (h.cell (p := ⟨t, 2, none⟩) T.lt_t ht).trans T.c2
  ft o := (h.frozen (p := ⟨t, o, none⟩) T.lt_t ht).trans (T.ft o)
  cf i o hi ho := (h.cell (p := ⟨q, i * 17 + o, none⟩) T.lt_q hq).trans (T.cf i o hi ho)
  cr i k hi hk := (h.cell (p := ⟨q, i * 17 + 9 + k, none⟩) T.lt_q hq).trans (T.cr i k hi hk)
  fq o := (h.frozen (p := ⟨q, o, none⟩) T.lt_q hq).trans (T.fq o)
  rl := T.rl
  sz := T.sz
  t0 := T.t0
  q0 := T.q0
  tq := T.tq
  tb := T.tb
  tc := T.tc
  qb := T.qb
  qc := T.qc
theorem Tb.mod (T : Tb w t q b c n N clk F R u D) {s : Nat → Prop} (h : Mod s w w') (h0 : ¬ s 1) (hb : ¬ s b) (hc : ¬ s c) (ht : ¬ s t) (hq : ¬ s q) : Tb w' t q b c n N clk F R u D :=
  T.store h (T.S.mod h h0 hb hc) ht hq
theorem Tb.new (T : Tb w t q b c n N clk F R u D) (h : Mod (fun _ => False) w w') : Tb w' t q b c n N clk F R u D := T.mod h (fun h => h) (fun h => h) (fun h => h) (fun h => h) (fun h => h)
/-- One inode's cells may turn too. -/
def upd2 {α : Type} (F : Nat → Nat → α) (i o : Nat) (v : α) : Nat → Nat → α := fun j k => if j = i ∧ k = o then v else F j k
theorem Tb.setF (T : Tb w t q b c n N clk F R u D) (i o : Nat) (ho : o < 9) (v : Int) (hv : o = 5 → 0 ≤ v ∧ v ≤ 17792) : Tb (w.setCell ⟨q, i * 17 + o, none⟩ (.int .i64 v)) t q b c n N clk (upd2 F i o v) R u D where
  S := T.S.set q _ _ T.q0 T.qb T.qc
  N1 := T.N1
  N2 := T.N2
  c0 := (setCell_out _ _ _ _ _ (fun e => absurd e T.tq)).trans T.c0
  c1 := by obtain ⟨cp, e⟩ := T.c1; exact ⟨cp, (setCell_out _ _ _ _ _ (fun e => absurd e T.tq)).trans e⟩
  c2 := (setCell_out _ _ _ _ _ (fun e => absurd e T.tq)).trans T.c2
  ft o := (setCell_frozen _ _ _ _ _).trans (T.ft o)
  cf j k hj hk := by
    unfold upd2
    by_cases e : j = i ∧ k = o
    · obtain ⟨rfl, rfl⟩ := e
      rw [if_pos ⟨rfl, rfl⟩]; exact setCell_in _ _ _ _ _ (T.cf j k hj hk)
    · rw [if_neg e, setCell_out _ _ _ _ _ (fun _ => by show j * 17 + k ≠ i * 17 + o; omega)]; exact T.cf j k hj hk
  cr j k hj hk := by rw [setCell_out _ _ _ _ _ (fun _ => by show j * 17 + 9 + k ≠ i * 17 + o; omega)]; exact T.cr j k hj hk
  fq o := (setCell_frozen _ _ _ _ _).trans (T.fq o)
  rl := T.rl
  sz j := by
    unfold upd2
    by_cases e : j = i ∧ 5 = o
    · rw [if_pos e]; exact hv e.2.symm
    · rw [if_neg e]; exact T.sz j
  t0 := T.t0
  q0 := T.q0
  tq := T.tq
  tb := T.tb
  tc := T.tc
  qb := T.qb
  qc := T.qc
/-- A ref of inode i and the store have turned, as Fr says. -/
theorem Tb.fr (T : Tb w t q b c n N clk F R u D) (i k r' : Nat) (hk : k < 8) (h : Fr b c q (i * 17 + 9 + k) w w') {u' : Nat → Bool} {D' : Nat → Nat} (hS : St w' b c n u' D') (hr : r' < 4294967296)
    (hc : w'.cell? ⟨q, i * 17 + 9 + k, none⟩ = some (.int .i64 (r' : Nat))) : Tb w' t q b c n N clk F (upd2 R i k r') u' D' :=
  have ht : ¬ (t = b ∨ t = c ∨ t = q) := fun e => e.elim T.tb (fun e => e.elim T.tc T.tq)
  { S := hS
    N1 := T.N1
    N2 := T.N2
    c0 := (h.mod.cell (p := ⟨t, 0, none⟩) T.lt_t ht).trans T.c0
    c1 := by obtain ⟨cp, e⟩ := T.c1; exact ⟨cp, (h.mod.cell (p := ⟨t, 1, none⟩) T.lt_t ht).trans e⟩
    c2 := (h.mod.cell (p := ⟨t, 2, none⟩) T.lt_t ht).trans T.c2
    ft := fun o => (h.mod.frozen (p := ⟨t, o, none⟩) T.lt_t ht).trans (T.ft o)
    cf := fun j o hj ho => (h.cell _ (by omega)).trans (T.cf j o hj ho)
    cr := fun j o hj ho => by
      unfold upd2
      by_cases e : j = i ∧ o = k
      · obtain ⟨rfl, rfl⟩ := e
        rw [if_pos ⟨rfl, rfl⟩]; exact hc
      · rw [if_neg e]; exact (h.cell _ (by omega)).trans (T.cr j o hj ho)
    fq := fun o => (h.frz o).trans (T.fq o)
    rl := fun j o => by unfold upd2; split; exact hr; exact T.rl j o
    sz := T.sz
    t0 := T.t0
    q0 := T.q0
    tq := T.tq
    tb := T.tb
    tc := T.tc
    qb := T.qb
    qc := T.qc }
theorem Tb.apart (T : Tb w t q b c n N clk F R u D) : Apart b c t q := ⟨T.q0, T.qb, T.qc, T.tb, T.tc, T.tq⟩
end
/-- Place k: which of the eight refs, how many levels down, which place there. -/
def rt (k : Nat) : Nat := if k < 6 then k else if k < 22 then 6 else 7
def lv (k : Nat) : Nat := if k < 6 then 0 else if k < 22 then 1 else 2
def kk (k : Nat) : Nat := if k < 6 then 0 else if k < 22 then k - 6 else k - 22
theorem rt_lt (k : Nat) : rt k < 8 := by unfold rt; split; omega; split <;> omega
set_option maxHeartbeats 1000000 in
theorem place_at (nb no k : Nat) (w : World) (hk : k < 278) : Calls Tryz.prog 103 #[.pointer (some ⟨nb, no, none⟩), .int .i64 k] w fun e w' =>
    e = .returned (.tuple #[.agg #[.pointer (some ⟨nb, no + 9 + rt k, none⟩), .int .i64 (16 ^ lv k : Nat)], .int .i64 (kk k : Nat)]) ∧ Mod (fun _ => False) w w' := by
  have hM : ∀ vs, Mod (fun _ => False) w (w.alloc (.cells vs 179)) := fun vs => (Mod.refl _ w).alloc _
  by_cases h1 : k < 6
  · rw [show rt k = k by simp [rt, h1], show lv k = 0 by simp [lv, h1], show kk k = 0 by simp [kk, h1]]
    have HM : Hid (∀ vs, Mod (fun _ => False) w (w.alloc (.cells vs 179))) := hM
    clear hM
    go_enter Tryz.func103, Tryz.ntmps103
    go_wp2
    refine bodyPost_ret (v := .tuple #[.agg #[.pointer (some ⟨nb, no + 9 + k, none⟩), .int .i64 1], .int .i64 0]) ?_ rfl ⟨rfl, HM.out _⟩
    rw [results_cell_tmp (fn := Tryz.f103) (p := 4) (ty := 179) (u := 5) rfl]
    simp [go_sem]
  · by_cases h2 : k < 22
    · rw [show rt k = 6 by simp [rt, h1, h2], show lv k = 1 by simp [lv, h1, h2], show kk k = k - 6 by simp [kk, h1, h2]]
      have HM : Hid (∀ vs, Mod (fun _ => False) w (w.alloc (.cells vs 179))) := hM
      clear hM
      go_enter Tryz.func103, Tryz.ntmps103
      go_wp2
      refine bodyPost_ret (v := .tuple #[.agg #[.pointer (some ⟨nb, no + 15, none⟩), .int .i64 16], .int .i64 ((k : Int) - 6)]) ?_ rfl ⟨by rw [show ((k - 6 : Nat) : Int) = (k : Int) - 6 by omega]; rfl, HM.out _⟩
      rw [results_cell_tmp (fn := Tryz.f103) (p := 4) (ty := 179) (u := 5) rfl]
      simp [go_sem]
    · rw [show rt k = 7 by simp [rt, h1, h2], show lv k = 2 by simp [lv, h1, h2], show kk k = k - 22 by simp [kk, h1, h2]]
      have HM : Hid (∀ vs, Mod (fun _ => False) w (w.alloc (.cells vs 179))) := hM
      clear hM
      go_enter Tryz.func103, Tryz.ntmps103
      go_wp2
      refine bodyPost_ret (v := .tuple #[.agg #[.pointer (some ⟨nb, no + 16, none⟩), .int .i64 256], .int .i64 ((k : Int) - 6 - 16)]) ?_ rfl ⟨by rw [show ((k - 22 : Nat) : Int) = (k : Int) - 6 - 16 by omega]; rfl, HM.out _⟩
      rw [results_cell_tmp (fn := Tryz.f103) (p := 4) (ty := 179) (u := 5) rfl]
      simp [go_sem]
end Go.Proofs.YtfmemkninmpfjaaGreatDoor
