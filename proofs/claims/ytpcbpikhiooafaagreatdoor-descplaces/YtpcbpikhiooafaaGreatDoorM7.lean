/- Several texts of this claim, one behind the other, in their order. -/
import Derived.Test.YtpcbpikhiooafaaGreatDoorM5
/- The walk of take, one of its ways, level 2. Conditions: the store lies in memory as 'St' says, the table's first cell leads to it, the ref lies in a block of its own. -/
namespace Go.Proofs.YtpcbpikhiooafaaGreatDoor
open Go.RowKit
section
variable {w : World} {b c n : Nat} {u : Nat → Bool} {D : Nat → Nat}
set_option maxRecDepth 8000 in
set_option maxHeartbeats 4000000 in
theorem take_new2_bad (S : St w b c n u D) (t ab ao k i : Nat) (ht : w.cell? ⟨t, 0, none⟩ = some (.pointer (some ⟨b, 0, none⟩))) (ha : w.cell? ⟨ab, ao, none⟩ = some (.int .i64 (0 : Nat))) (hf : w.frozen? ⟨ab, ao, none⟩ = false) (hA : Apart b c t ab) (hk : k < 256) (hl : low u n = some i) (hx : tk 1 n (upd u i true) D (ptr (upd u i true) D (i + 1) (k / 16)) (k % 16) = none) :
    Calls Tryz.prog 104 #[.pointer (some ⟨t, 0, none⟩), .pointer (some ⟨ab, ao, none⟩), .int .i64 256, .int .i64 k] w (TkPost b c n t ab ao u D 0 w none) := by
  have HT : Hid (TS b c n t ab ao w.heap.size (w.heap.size + 1) 0 u D ((w.alloc (.cells #[.pointer (some ⟨t, 0, none⟩)] 45)).alloc (.cells #[.pointer (some ⟨ab, ao, none⟩)] 169))) := TS.box S ht ha hf hA
  have HM0 : Hid (Mod (fun _ => False) w ((w.alloc (.cells #[.pointer (some ⟨t, 0, none⟩)] 45)).alloc (.cells #[.pointer (some ⟨ab, ao, none⟩)] 169))) := ((Mod.refl _ w).alloc _).alloc _
  have hab := block_lt_of_cell ha
  have htl := block_lt_of_cell ht
  have hz := zvP
  have hI := infP16
  have hn := S.n2
  have HN : Hid (ab < w.heap.size) := hab
  have HBC : Hid (b < w.heap.size ∧ c < w.heap.size) := ⟨S.lt_b, S.lt_c⟩
  have hw1 : IntKind.i64.wrap (k : Int) = k := by rw [IntKind.wrap_i64]; omega
  have hw2 : IntKind.i64.wrap ((k : Int) / 16) = (k : Int) / 16 := by rw [IntKind.wrap_i64]; omega
  have HTM : Hid ((k : Int) % 16 = ((k % 16 : Nat) : Int)) := by show _ = _; omega
  have HTN : Hid (t < w.heap.size) := htl
  have HD : Hid (∀ j, D j < 256) := S.dl
  have HX : Hid (_ = _) := hx
  have HL : Hid (i < n ∧ u i = false ∧ ∀ j, j < i → u j = true) := low_some hl
  have hi : i < 4096 := by have := HL.out.1; omega
  have HB : Hid (freeU (upd u i true) (i + 1) = u ∧ freeD (upd u i true) D (i + 1) = D) := free_back S HL.out.1 HL.out.2.1
  clear S hl hf hA hx
  go_enter Tryz.func104, Tryz.ntmps104
  go_wp2_with (go_at_call 126; refine (HT.out.S.alloc_some i HL.out.1 HL.out.2.1 HL.out.2.2).mono ?_; rintro e w1 ⟨rfl, H1, M1, -⟩; have HT1 : Hid (TS b c n t ab ao w.heap.size (w.heap.size + 1) 0 (upd u i true) D w1) := HT.out.stored M1 H1 (fun _ h => .inl h); have HM1 : Hid (Mod (fun k => k = b) ((w.alloc (.cells #[.pointer (some ⟨t, 0, none⟩)] 45)).alloc (.cells #[.pointer (some ⟨ab, ao, none⟩)] 169)) w1) := M1; have c1 := HT1.out.c4; have c2 := HT1.out.c5; have c3 := HT1.out.ca; have c4 := HT1.out.fa; clear H1 M1)
  have HT2 : Hid (TS b c n t ab ao w.heap.size (w.heap.size + 1) (i + 1) (upd u i true) D (w1.setCell ⟨ab, ao, none⟩ (.int .i64 ((i : Int) + 1)))) := HT1.out.set (i + 1)
  have HF2 : Hid (Fr b c ab ao w (w1.setCell ⟨ab, ao, none⟩ (.int .i64 ((i : Int) + 1)))) := (Fr.of_mod HM0.out HN.out (fun _ h => h.elim) HT.out.A.nb HT.out.A.nc).trans ((HT.out.fr HM1.out (fun _ h => .inl h)).set _)
  have HX2' : w.heap.size + 2 ≤ (w1.setCell ⟨ab, ao, none⟩ (.int .i64 ((i : Int) + 1))).heap.size := by have := HM1.out.size; simp [World.setCell] at this ⊢; omega
  generalize hW2 : w1.setCell ⟨ab, ao, none⟩ (.int .i64 ((i : Int) + 1)) = w2 at *
  clear hW2 c1 c2 c3 c4 HT1 HM1
  clear HT HM0
  have HX2 : Hid (w.heap.size + 2 ≤ w2.heap.size) := HX2'
  generalize hx4 : w.heap.size = x4 at *
  have HS0 : Hid ((w2.drewN 1).cell? ⟨x4, 0, none⟩ = some (.pointer (some ⟨t, 0, none⟩)) ∧ (w2.drewN 1).cell? ⟨x4 + 1, 0, none⟩ = some (.pointer (some ⟨ab, ao, none⟩)) ∧ (w2.drewN 1).cell? ⟨ab, ao, none⟩ = some (.int .i64 ((i : Int) + 1))) := ⟨HT2.out.c4, HT2.out.c5, HT2.out.ca⟩
  have HZ : Hid (TS b c n t ab ao x4 (x4 + 1) (i + 1) (upd u i true) D (w2.alloc (.cells zeroP 195)).drew) := HT2.out.new (((Mod.refl _ w2).alloc _).drewN 1)
  have hS1 : (w2.alloc (.cells zeroP 195)).drew.cell? ⟨x4, 0, none⟩ = some (.pointer (some ⟨t, 0, none⟩)) ∧ (w2.alloc (.cells zeroP 195)).drew.cell? ⟨x4 + 1, 0, none⟩ = some (.pointer (some ⟨ab, ao, none⟩)) ∧ (w2.alloc (.cells zeroP 195)).drew.cell? ⟨ab, ao, none⟩ = some (.int .i64 ((i : Int) + 1)) := ⟨HZ.out.c4, HZ.out.c5, HZ.out.ca⟩
  have HZT : Hid ((w2.alloc (.cells zeroP 195)).drew.there w2.heap.size 0 16) := there_new w2 195 zeroP sizeP
  have hx2 : x4 + 2 ≤ w2.heap.size := HX2.out
  go_region_held (fun W' => W'.cell? ⟨x4, 0, none⟩ = some (.pointer (some ⟨t, 0, none⟩)) ∧ W'.cell? ⟨x4 + 1, 0, none⟩ = some (.pointer (some ⟨ab, ao, none⟩)) ∧ W'.cell? ⟨ab, ao, none⟩ = some (.int .i64 ((i : Int) + 1))) (first | exact hS6 | exact hS5 | exact hS3 | exact hS1 | exact HS0.out) (first | (go_at_call 106; rw [show ((i : Int) + 1) = ((i + 1 : Nat) : Int) from rfl]; refine (load_row (HT2.out.S.drewN 1) t (i + 1) HT2.out.ct (by omega)).mono ?_; rintro e w3 ⟨A, rfl, hsz, HA, HO, HJ, HM3⟩; have HM3' : Hid (Mod (fun _ => False) w2 w3) := ((Mod.refl _ w2).drewN 1).trans HM3.out; have HT3 : Hid (TS b c n t ab ao x4 (x4 + 1) (i + 1) (upd u i true) D w3) := HT2.out.new HM3'.out; have hS3 := s3 HT3.out; have hS5 := s3 (HT3.out.new ((Mod.refl _ w3).alloc (.cells zeroP 195))); have hO1 := one_list HO.out; have hTh : (w3.alloc (.cells zeroP 195)).there w3.heap.size 0 16 := there_new w3 195 zeroP sizeP; obtain ⟨w4, Pb, HW4, HPb, HTP⟩ := four1 HT3.out A hsz HO.out HJ.out (Nat.le_trans hx2 HM3'.out.size) HM3'.out; have hS6 := HW4.out ▸ s3 HTP.out.T) | (go_at_call 106; rw [show ((i : Int) + 1) = ((i + 1 : Nat) : Int) from rfl]; refine (load_row HZ.out.S t (i + 1) HZ.out.ct (by omega)).mono ?_; rintro e w3 ⟨A, rfl, hsz, HA, HO, HJ, HM3⟩; have HM3' : Hid (Mod (fun _ => False) (w2.alloc (.cells zeroP 195)).drew w3) := HM3; have HT3 : Hid (TS b c n t ab ao x4 (x4 + 1) (i + 1) (upd u i true) D w3) := HZ.out.new HM3'.out; have hS3 := s3 HT3.out; have hO1 := one_list HO.out; have hTh : w3.there w2.heap.size 0 16 := HM3'.out.there (by show _ < (w2.alloc _).heap.size; simp) (fun h => h) HZT.out; obtain ⟨w4, Pb, HW4, HPb, HTP⟩ := four2 HT3.out A hsz HJ.out hx2 hTh HM3'.out (HT2.out.lts hx2); have hS6 := HW4.out ▸ s3 HTP.out.T))
  all_goals rw [← HW4.out, ← HPb.out]
  all_goals clear hTh hS6 hS3 hO1 HT3 HM3' HW4 HPb HM3
  all_goals try clear hS5
  all_goals clear hS1 HZT HZ hx2
  all_goals have HF4 : Hid (Fr b c ab ao w w4) := HF2.out.trans (HTP.out.fr0 (block_lt_of_cell HT2.out.ca))
  all_goals go_wp2_with fail
  all_goals have HAP : Hid (Apart b c t Pb) := ⟨by have := HTP.out.lt; omega, by have := HTP.out.lt; have := HBC.out.1; omega, by have := HTP.out.lt; have := HBC.out.2; omega, HTP.out.T.A.tb, HTP.out.T.A.tc, by have := HTP.out.lt; have := HTN.out; omega⟩
  all_goals have HPN : Hid (ab ≠ Pb ∧ x4 ≠ Pb ∧ x4 + 1 ≠ Pb) := by have := HTP.out.lt; have := HN.out; refine ⟨?_, ?_, ?_⟩ <;> omega
  all_goals have HPL : Hid (w.heap.size ≤ Pb) := by have := HTP.out.lt; show _ ≤ _; omega
  all_goals have HS7 : Hid ((w4.drewN 1).cell? ⟨x4, 0, none⟩ = some (.pointer (some ⟨t, 0, none⟩))) := HTP.out.T.c4
  all_goals (go_region_held (fun W' => W'.cell? ⟨x4, 0, none⟩ = some (.pointer (some ⟨t, 0, none⟩))) (first | exact hS8 | exact HS7.out) (first | (go_at_call 104; rw [HTM.out]; refine (take1 (HTP.out.T.S.drewN 1) t Pb (k / 16) (ptr (upd u i true) D (i + 1) (k / 16)) (k % 16) HTP.out.T.ct (HTP.out.at_ (k / 16) (by omega)) (HTP.out.fr (k / 16) (by omega)) HAP.out (by omega) (ptr_lt _ D HD.out _ _)).mono ?_; rw [HX.out]; rintro e w5 ⟨rfl, H5, C5, F5, T5⟩; have HT5 : Hid (TS b c n t ab ao x4 (x4 + 1) (i + 1) (upd u i true) D w5) := HTP.out.T.step (((Mod.refl _ w4).drewN 1).trans F5.mod) H5 (fun e => e.elim HTP.out.T.A.nb (fun e => e.elim HTP.out.T.A.nc HPN.out.1)) (fun e => e.elim HTP.out.T.A.tb (fun e => e.elim HTP.out.T.A.tc HAP.out.ta)) (fun e => e.elim HTP.out.T.n4.1 (fun e => e.elim HTP.out.T.n4.2.1 HPN.out.2.1)) (fun e => e.elim HTP.out.T.n5.1 (fun e => e.elim HTP.out.T.n5.2.1 HPN.out.2.2)); have HF5 : Hid (Fr b c ab ao w w5) := fr_sub F5 (block_lt_of_cell HTP.out.T.ca) HTP.out.T.A.nb HTP.out.T.A.nc HPN.out.1 HPL.out HF4.out; have HC5 : Hid (w5.cell? ⟨Pb, k / 16, none⟩ = some (.int .i64 (ptr (upd u i true) D (i + 1) (k / 16) : Nat))) := C5; have HG5 : Hid (∀ o, o ≠ (k / 16) → w5.cell? ⟨Pb, o, none⟩ = w4.cell? ⟨Pb, o, none⟩) := F5.cell; have hS8 := HT5.out.c4; clear H5 C5 F5 T5)))
  all_goals clear hS8
  all_goals go_wp2_with (go_at_call 127; refine (back_any HT5.out (by omega)).mono ?_; rintro e w6 ⟨rfl, H6, C6, F6⟩; have HH : Hid (St w6 b c n u D ∧ w6.cell? ⟨ab, ao, none⟩ = some (.int .i64 0) ∧ Fr b c ab ao w w6 ∧ w6.cell? ⟨t, 0, none⟩ = some (.pointer (some ⟨b, 0, none⟩))) := ⟨by rw [HB.out.1, HB.out.2] at H6; exact H6, C6, HF5.out.trans F6, (F6.mod.cell (p := ⟨t, 0, none⟩) (block_lt_of_cell HT5.out.ct) (fun e => e.elim HT5.out.A.tb (fun e => e.elim HT5.out.A.tc HT5.out.A.ta))).trans HT5.out.ct⟩; clear H6 C6 F6)
  all_goals go_ret2
  all_goals exact ⟨by simp, HH.out⟩
end
end Go.Proofs.YtpcbpikhiooafaaGreatDoor
/- The walk of take, one of its ways, level 2. Conditions: the store lies in memory as 'St' says, the table's first cell leads to it, the ref lies in a block of its own. -/
namespace Go.Proofs.YtpcbpikhiooafaaGreatDoor
open Go.RowKit
section
variable {w : World} {b c n : Nat} {u : Nat → Bool} {D : Nat → Nat}
set_option maxRecDepth 8000 in
set_option maxHeartbeats 4000000 in
theorem take_new2_good (S : St w b c n u D) (t ab ao k i : Nat) (u2 : Nat → Bool) (D2 : Nat → Nat) (p f : Nat) (ht : w.cell? ⟨t, 0, none⟩ = some (.pointer (some ⟨b, 0, none⟩))) (ha : w.cell? ⟨ab, ao, none⟩ = some (.int .i64 (0 : Nat))) (hf : w.frozen? ⟨ab, ao, none⟩ = false) (hA : Apart b c t ab) (hk : k < 256) (hl : low u n = some i) (hx : tk 1 n (upd u i true) D (ptr (upd u i true) D (i + 1) (k / 16)) (k % 16) = some (u2, D2, p, f)) (hp : p < 4294967296) :
    Calls Tryz.prog 104 #[.pointer (some ⟨t, 0, none⟩), .pointer (some ⟨ab, ao, none⟩), .int .i64 256, .int .i64 k] w (TkPost b c n t ab ao u D 0 w (some (u2, saved u2 D2 (i + 1) (upd (ptr (upd u i true) D (i + 1)) (k / 16) p), (i + 1), f))) := by
  have HT : Hid (TS b c n t ab ao w.heap.size (w.heap.size + 1) 0 u D ((w.alloc (.cells #[.pointer (some ⟨t, 0, none⟩)] 45)).alloc (.cells #[.pointer (some ⟨ab, ao, none⟩)] 169))) := TS.box S ht ha hf hA
  have HM0 : Hid (Mod (fun _ => False) w ((w.alloc (.cells #[.pointer (some ⟨t, 0, none⟩)] 45)).alloc (.cells #[.pointer (some ⟨ab, ao, none⟩)] 169))) := ((Mod.refl _ w).alloc _).alloc _
  have hab := block_lt_of_cell ha
  have htl := block_lt_of_cell ht
  have hz := zvP
  have hI := infP16
  have hn := S.n2
  have HN : Hid (ab < w.heap.size) := hab
  have HBC : Hid (b < w.heap.size ∧ c < w.heap.size) := ⟨S.lt_b, S.lt_c⟩
  have hw1 : IntKind.i64.wrap (k : Int) = k := by rw [IntKind.wrap_i64]; omega
  have hw2 : IntKind.i64.wrap ((k : Int) / 16) = (k : Int) / 16 := by rw [IntKind.wrap_i64]; omega
  have HTM : Hid ((k : Int) % 16 = ((k % 16 : Nat) : Int)) := by show _ = _; omega
  have HTN : Hid (t < w.heap.size) := htl
  have HD : Hid (∀ j, D j < 256) := S.dl
  have HX : Hid (_ = _) := hx
  have HL : Hid (i < n ∧ u i = false ∧ ∀ j, j < i → u j = true) := low_some hl
  have hi : i < 4096 := by have := HL.out.1; omega
  have HB : Hid (freeU (upd u i true) (i + 1) = u ∧ freeD (upd u i true) D (i + 1) = D) := free_back S HL.out.1 HL.out.2.1
  clear S hl hf hA hx
  go_enter Tryz.func104, Tryz.ntmps104
  go_wp2_with (go_at_call 126; refine (HT.out.S.alloc_some i HL.out.1 HL.out.2.1 HL.out.2.2).mono ?_; rintro e w1 ⟨rfl, H1, M1, -⟩; have HT1 : Hid (TS b c n t ab ao w.heap.size (w.heap.size + 1) 0 (upd u i true) D w1) := HT.out.stored M1 H1 (fun _ h => .inl h); have HM1 : Hid (Mod (fun k => k = b) ((w.alloc (.cells #[.pointer (some ⟨t, 0, none⟩)] 45)).alloc (.cells #[.pointer (some ⟨ab, ao, none⟩)] 169)) w1) := M1; have c1 := HT1.out.c4; have c2 := HT1.out.c5; have c3 := HT1.out.ca; have c4 := HT1.out.fa; clear H1 M1)
  have HT2 : Hid (TS b c n t ab ao w.heap.size (w.heap.size + 1) (i + 1) (upd u i true) D (w1.setCell ⟨ab, ao, none⟩ (.int .i64 ((i : Int) + 1)))) := HT1.out.set (i + 1)
  have HF2 : Hid (Fr b c ab ao w (w1.setCell ⟨ab, ao, none⟩ (.int .i64 ((i : Int) + 1)))) := (Fr.of_mod HM0.out HN.out (fun _ h => h.elim) HT.out.A.nb HT.out.A.nc).trans ((HT.out.fr HM1.out (fun _ h => .inl h)).set _)
  have HX2' : w.heap.size + 2 ≤ (w1.setCell ⟨ab, ao, none⟩ (.int .i64 ((i : Int) + 1))).heap.size := by have := HM1.out.size; simp [World.setCell] at this ⊢; omega
  generalize hW2 : w1.setCell ⟨ab, ao, none⟩ (.int .i64 ((i : Int) + 1)) = w2 at *
  clear hW2 c1 c2 c3 c4 HT1 HM1
  clear HT HM0
  have HX2 : Hid (w.heap.size + 2 ≤ w2.heap.size) := HX2'
  generalize hx4 : w.heap.size = x4 at *
  have HS0 : Hid ((w2.drewN 1).cell? ⟨x4, 0, none⟩ = some (.pointer (some ⟨t, 0, none⟩)) ∧ (w2.drewN 1).cell? ⟨x4 + 1, 0, none⟩ = some (.pointer (some ⟨ab, ao, none⟩)) ∧ (w2.drewN 1).cell? ⟨ab, ao, none⟩ = some (.int .i64 ((i : Int) + 1))) := ⟨HT2.out.c4, HT2.out.c5, HT2.out.ca⟩
  have HZ : Hid (TS b c n t ab ao x4 (x4 + 1) (i + 1) (upd u i true) D (w2.alloc (.cells zeroP 195)).drew) := HT2.out.new (((Mod.refl _ w2).alloc _).drewN 1)
  have hS1 : (w2.alloc (.cells zeroP 195)).drew.cell? ⟨x4, 0, none⟩ = some (.pointer (some ⟨t, 0, none⟩)) ∧ (w2.alloc (.cells zeroP 195)).drew.cell? ⟨x4 + 1, 0, none⟩ = some (.pointer (some ⟨ab, ao, none⟩)) ∧ (w2.alloc (.cells zeroP 195)).drew.cell? ⟨ab, ao, none⟩ = some (.int .i64 ((i : Int) + 1)) := ⟨HZ.out.c4, HZ.out.c5, HZ.out.ca⟩
  have HZT : Hid ((w2.alloc (.cells zeroP 195)).drew.there w2.heap.size 0 16) := there_new w2 195 zeroP sizeP
  have hx2 : x4 + 2 ≤ w2.heap.size := HX2.out
  go_region_held (fun W' => W'.cell? ⟨x4, 0, none⟩ = some (.pointer (some ⟨t, 0, none⟩)) ∧ W'.cell? ⟨x4 + 1, 0, none⟩ = some (.pointer (some ⟨ab, ao, none⟩)) ∧ W'.cell? ⟨ab, ao, none⟩ = some (.int .i64 ((i : Int) + 1))) (first | exact hS6 | exact hS5 | exact hS3 | exact hS1 | exact HS0.out) (first | (go_at_call 106; rw [show ((i : Int) + 1) = ((i + 1 : Nat) : Int) from rfl]; refine (load_row (HT2.out.S.drewN 1) t (i + 1) HT2.out.ct (by omega)).mono ?_; rintro e w3 ⟨A, rfl, hsz, HA, HO, HJ, HM3⟩; have HM3' : Hid (Mod (fun _ => False) w2 w3) := ((Mod.refl _ w2).drewN 1).trans HM3.out; have HT3 : Hid (TS b c n t ab ao x4 (x4 + 1) (i + 1) (upd u i true) D w3) := HT2.out.new HM3'.out; have hS3 := s3 HT3.out; have hS5 := s3 (HT3.out.new ((Mod.refl _ w3).alloc (.cells zeroP 195))); have hO1 := one_list HO.out; have hTh : (w3.alloc (.cells zeroP 195)).there w3.heap.size 0 16 := there_new w3 195 zeroP sizeP; obtain ⟨w4, Pb, HW4, HPb, HTP⟩ := four1 HT3.out A hsz HO.out HJ.out (Nat.le_trans hx2 HM3'.out.size) HM3'.out; have hS6 := HW4.out ▸ s3 HTP.out.T) | (go_at_call 106; rw [show ((i : Int) + 1) = ((i + 1 : Nat) : Int) from rfl]; refine (load_row HZ.out.S t (i + 1) HZ.out.ct (by omega)).mono ?_; rintro e w3 ⟨A, rfl, hsz, HA, HO, HJ, HM3⟩; have HM3' : Hid (Mod (fun _ => False) (w2.alloc (.cells zeroP 195)).drew w3) := HM3; have HT3 : Hid (TS b c n t ab ao x4 (x4 + 1) (i + 1) (upd u i true) D w3) := HZ.out.new HM3'.out; have hS3 := s3 HT3.out; have hO1 := one_list HO.out; have hTh : w3.there w2.heap.size 0 16 := HM3'.out.there (by show _ < (w2.alloc _).heap.size; simp) (fun h => h) HZT.out; obtain ⟨w4, Pb, HW4, HPb, HTP⟩ := four2 HT3.out A hsz HJ.out hx2 hTh HM3'.out (HT2.out.lts hx2); have hS6 := HW4.out ▸ s3 HTP.out.T))
  all_goals rw [← HW4.out, ← HPb.out]
  all_goals clear hTh hS6 hS3 hO1 HT3 HM3' HW4 HPb HM3
  all_goals try clear hS5
  all_goals clear hS1 HZT HZ hx2
  all_goals have HF4 : Hid (Fr b c ab ao w w4) := HF2.out.trans (HTP.out.fr0 (block_lt_of_cell HT2.out.ca))
  all_goals go_wp2_with fail
  all_goals have HAP : Hid (Apart b c t Pb) := ⟨by have := HTP.out.lt; omega, by have := HTP.out.lt; have := HBC.out.1; omega, by have := HTP.out.lt; have := HBC.out.2; omega, HTP.out.T.A.tb, HTP.out.T.A.tc, by have := HTP.out.lt; have := HTN.out; omega⟩
  all_goals have HPN : Hid (ab ≠ Pb ∧ x4 ≠ Pb ∧ x4 + 1 ≠ Pb) := by have := HTP.out.lt; have := HN.out; refine ⟨?_, ?_, ?_⟩ <;> omega
  all_goals have HPL : Hid (w.heap.size ≤ Pb) := by have := HTP.out.lt; show _ ≤ _; omega
  all_goals have HS7 : Hid ((w4.drewN 1).cell? ⟨x4, 0, none⟩ = some (.pointer (some ⟨t, 0, none⟩))) := HTP.out.T.c4
  all_goals (go_region_held (fun W' => W'.cell? ⟨x4, 0, none⟩ = some (.pointer (some ⟨t, 0, none⟩))) (first | exact hS8 | exact HS7.out) (first | (go_at_call 104; rw [HTM.out]; refine (take1 (HTP.out.T.S.drewN 1) t Pb (k / 16) (ptr (upd u i true) D (i + 1) (k / 16)) (k % 16) HTP.out.T.ct (HTP.out.at_ (k / 16) (by omega)) (HTP.out.fr (k / 16) (by omega)) HAP.out (by omega) (ptr_lt _ D HD.out _ _)).mono ?_; rw [HX.out]; rintro e w5 ⟨rfl, H5, C5, F5, T5⟩; have HT5 : Hid (TS b c n t ab ao x4 (x4 + 1) (i + 1) u2 D2 w5) := HTP.out.T.step (((Mod.refl _ w4).drewN 1).trans F5.mod) H5 (fun e => e.elim HTP.out.T.A.nb (fun e => e.elim HTP.out.T.A.nc HPN.out.1)) (fun e => e.elim HTP.out.T.A.tb (fun e => e.elim HTP.out.T.A.tc HAP.out.ta)) (fun e => e.elim HTP.out.T.n4.1 (fun e => e.elim HTP.out.T.n4.2.1 HPN.out.2.1)) (fun e => e.elim HTP.out.T.n5.1 (fun e => e.elim HTP.out.T.n5.2.1 HPN.out.2.2)); have HF5 : Hid (Fr b c ab ao w w5) := fr_sub F5 (block_lt_of_cell HTP.out.T.ca) HTP.out.T.A.nb HTP.out.T.A.nc HPN.out.1 HPL.out HF4.out; have HC5 : Hid (w5.cell? ⟨Pb, k / 16, none⟩ = some (.int .i64 (p : Nat))) := C5; have HG5 : Hid (∀ o, o ≠ (k / 16) → w5.cell? ⟨Pb, o, none⟩ = w4.cell? ⟨Pb, o, none⟩) := F5.cell; have hS8 := HT5.out.c4; clear H5 C5 F5 T5)))
  all_goals clear hS8
  all_goals obtain ⟨L, hlen, HL, HR⟩ := row_of HTP.out.at_ HC5.out HG5.out
  all_goals have hIL : (Tryz.prog.info? 195).map (·.size) = some L.length := by rw [hlen]; exact infP
  all_goals have hUL := undP
  all_goals have HQ : Hid (∀ j, upd (ptr (upd u i true) D (i + 1)) (k / 16) p j < 4294967296) := fun j => by unfold upd; split; exact hp; exact ptr_lt _ _ HD.out _ _
  all_goals have HS9 : Hid ((w5.drewN 1).cell? ⟨x4, 0, none⟩ = some (.pointer (some ⟨t, 0, none⟩)) ∧ (w5.drewN 1).cell? ⟨x4 + 1, 0, none⟩ = some (.pointer (some ⟨ab, ao, none⟩)) ∧ (w5.drewN 1).cell? ⟨ab, ao, none⟩ = some (.int .i64 ((i : Int) + 1)) ∧ (w5.drewN 1).rangeAt Pb 0 L) := ⟨HT5.out.c4, HT5.out.c5, HT5.out.ca, HR.out⟩
  all_goals go_wp2_with fail
  all_goals (go_region_held (fun W' => W'.cell? ⟨x4, 0, none⟩ = some (.pointer (some ⟨t, 0, none⟩)) ∧ W'.cell? ⟨x4 + 1, 0, none⟩ = some (.pointer (some ⟨ab, ao, none⟩)) ∧ W'.cell? ⟨ab, ao, none⟩ = some (.int .i64 ((i : Int) + 1)) ∧ W'.rangeAt Pb 0 L) (first | exact hS10 | exact HS9.out) (first | (go_at_call 107; rw [show ((i : Int) + 1) = ((i + 1 : Nat) : Int) from rfl]; rw [HL.out]; refine (save_any (HT5.out.S.drewN 1) t (i + 1) (upd (ptr (upd u i true) D (i + 1)) (k / 16) p) HQ.out HT5.out.ct HT5.out.A.tc (by omega)).mono ?_; rintro e w6 ⟨rfl, H6, M6⟩; have HT6 : Hid (TS b c n t ab ao x4 (x4 + 1) (i + 1) u2 (saved u2 D2 (i + 1) (upd (ptr (upd u i true) D (i + 1)) (k / 16) p)) w6) := HT5.out.stored (((Mod.refl _ w5).drewN 1).trans M6) H6 (fun _ e => .inr e); have HF6 : Hid (Fr b c ab ao w w6) := HF5.out.trans (HT5.out.fr (((Mod.refl _ w5).drewN 1).trans M6) (fun _ e => .inr e)); have hS10 : w6.cell? ⟨x4, 0, none⟩ = some (.pointer (some ⟨t, 0, none⟩)) ∧ w6.cell? ⟨x4 + 1, 0, none⟩ = some (.pointer (some ⟨ab, ao, none⟩)) ∧ w6.cell? ⟨ab, ao, none⟩ = some (.int .i64 ((i : Int) + 1)) ∧ w6.rangeAt Pb 0 L := ⟨HT6.out.c4, HT6.out.c5, HT6.out.ca, range_mod M6 HR.out (block_lt_of_cell HC5.out) HAP.out.nc⟩; clear H6 M6)))
  all_goals go_wp2
  all_goals go_ret2
  all_goals exact ⟨by simp, HT6.out.S, HT6.out.ca, HF6.out, HT6.out.ct⟩
end
end Go.Proofs.YtpcbpikhiooafaaGreatDoor
