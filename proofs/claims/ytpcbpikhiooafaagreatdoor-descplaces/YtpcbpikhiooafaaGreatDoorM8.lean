/- Several texts of this claim, one behind the other, in their order. -/
import Derived.Test.YtpcbpikhiooafaaGreatDoorM5
import Derived.Test.YtpcbpikhiooafaaGreatDoorM7
import Derived.Test.YtpcbpikhiooafaaGreatDoorT2HB
/- The walk of take, one of its ways, level 2. Conditions: the store lies in memory as 'St' says, the table's first cell leads to it, the ref lies in a block of its own. -/
namespace Go.Proofs.YtpcbpikhiooafaaGreatDoor
open Go.RowKit
section
variable {w : World} {b c n : Nat} {u : Nat → Bool} {D : Nat → Nat}
set_option maxRecDepth 8000 in
set_option maxHeartbeats 4000000 in
theorem take_have2_good (S : St w b c n u D) (t ab ao k r : Nat) (u2 : Nat → Bool) (D2 : Nat → Nat) (p f : Nat) (ht : w.cell? ⟨t, 0, none⟩ = some (.pointer (some ⟨b, 0, none⟩))) (ha : w.cell? ⟨ab, ao, none⟩ = some (.int .i64 (r : Nat))) (hf : w.frozen? ⟨ab, ao, none⟩ = false) (hA : Apart b c t ab) (hk : k < 256) (hr : r < 4294967296) (hr0 : r ≠ 0) (hx : tk 1 n u D (ptr u D r (k / 16)) (k % 16) = some (u2, D2, p, f)) (hp : p < 4294967296) :
    Calls Tryz.prog 104 #[.pointer (some ⟨t, 0, none⟩), .pointer (some ⟨ab, ao, none⟩), .int .i64 256, .int .i64 k] w (TkPost b c n t ab ao u D r w (some (u2, saved u2 D2 r (upd (ptr u D r) (k / 16) p), r, f))) := by
  have HT : Hid (TS b c n t ab ao w.heap.size (w.heap.size + 1) r u D ((w.alloc (.cells #[.pointer (some ⟨t, 0, none⟩)] 45)).alloc (.cells #[.pointer (some ⟨ab, ao, none⟩)] 169))) := TS.box S ht ha hf hA
  have HM0 : Hid (Mod (fun _ => False) w ((w.alloc (.cells #[.pointer (some ⟨t, 0, none⟩)] 45)).alloc (.cells #[.pointer (some ⟨ab, ao, none⟩)] 169))) := ((Mod.refl _ w).alloc _).alloc _
  have hab := block_lt_of_cell ha
  have htl := block_lt_of_cell ht
  have hz := zvP
  have hI := infP16
  have hn := S.n2
  have HN : Hid (ab < w.heap.size) := hab
  have HBC : Hid (b < w.heap.size ∧ c < w.heap.size) := ⟨S.lt_b, S.lt_c⟩
  have hw1 : IntKind.i64.wrap (k : Int) = k := by rw [IntKind.wrap_i64]; omega
  have hw2 : IntKind.i64.wrap ((k : Int) / 16) = (k : Int) / 16 := by rw [IntKind.wrap_i64]; omega
  have HTM : Hid ((k : Int) % 16 = ((k % 16 : Nat) : Int)) := by show _ = _; omega
  have HTN : Hid (t < w.heap.size) := htl
  have HD : Hid (∀ j, D j < 256) := S.dl
  have HX : Hid (_ = _) := hx
  have hrb : ((r : Int) == 0) = false := by simpa using hr0
  clear S hf hA hx hr0
  go_enter Tryz.func104, Tryz.ntmps104
  go_wp2_with fail
  have HT2 : Hid (TS b c n t ab ao w.heap.size (w.heap.size + 1) r u D ((w.alloc (.cells #[.pointer (some ⟨t, 0, none⟩)] 45)).alloc (.cells #[.pointer (some ⟨ab, ao, none⟩)] 169))) := HT
  have HF2 : Hid (Fr b c ab ao w ((w.alloc (.cells #[.pointer (some ⟨t, 0, none⟩)] 45)).alloc (.cells #[.pointer (some ⟨ab, ao, none⟩)] 169))) := Fr.of_mod HM0.out HN.out (fun _ h => h.elim) HT.out.A.nb HT.out.A.nc
  have HX2' : w.heap.size + 2 ≤ ((w.alloc (.cells #[.pointer (some ⟨t, 0, none⟩)] 45)).alloc (.cells #[.pointer (some ⟨ab, ao, none⟩)] 169)).heap.size := by simp
  generalize hW2 : ((w.alloc (.cells #[.pointer (some ⟨t, 0, none⟩)] 45)).alloc (.cells #[.pointer (some ⟨ab, ao, none⟩)] 169)) = w2 at *
  clear hW2
  clear HT HM0
  have HX2 : Hid (w.heap.size + 2 ≤ w2.heap.size) := HX2'
  generalize hx4 : w.heap.size = x4 at *
  have HS0 : Hid ((w2.drewN 1).cell? ⟨x4, 0, none⟩ = some (.pointer (some ⟨t, 0, none⟩)) ∧ (w2.drewN 1).cell? ⟨x4 + 1, 0, none⟩ = some (.pointer (some ⟨ab, ao, none⟩)) ∧ (w2.drewN 1).cell? ⟨ab, ao, none⟩ = some (.int .i64 (r : Int))) := ⟨HT2.out.c4, HT2.out.c5, HT2.out.ca⟩
  have HZ : Hid (TS b c n t ab ao x4 (x4 + 1) r u D (w2.alloc (.cells zeroP 195)).drew) := HT2.out.new (((Mod.refl _ w2).alloc _).drewN 1)
  have hS1 : (w2.alloc (.cells zeroP 195)).drew.cell? ⟨x4, 0, none⟩ = some (.pointer (some ⟨t, 0, none⟩)) ∧ (w2.alloc (.cells zeroP 195)).drew.cell? ⟨x4 + 1, 0, none⟩ = some (.pointer (some ⟨ab, ao, none⟩)) ∧ (w2.alloc (.cells zeroP 195)).drew.cell? ⟨ab, ao, none⟩ = some (.int .i64 (r : Int)) := ⟨HZ.out.c4, HZ.out.c5, HZ.out.ca⟩
  have HZT : Hid ((w2.alloc (.cells zeroP 195)).drew.there w2.heap.size 0 16) := there_new w2 195 zeroP sizeP
  have hx2 : x4 + 2 ≤ w2.heap.size := HX2.out
  go_region_held (fun W' => W'.cell? ⟨x4, 0, none⟩ = some (.pointer (some ⟨t, 0, none⟩)) ∧ W'.cell? ⟨x4 + 1, 0, none⟩ = some (.pointer (some ⟨ab, ao, none⟩)) ∧ W'.cell? ⟨ab, ao, none⟩ = some (.int .i64 (r : Int))) (first | exact hS6 | exact hS5 | exact hS3 | exact hS1 | exact HS0.out) (first | (go_at_call 106; refine (load_row (HT2.out.S.drewN 1) t r HT2.out.ct (by omega)).mono ?_; rintro e w3 ⟨A, rfl, hsz, HA, HO, HJ, HM3⟩; have HM3' : Hid (Mod (fun _ => False) w2 w3) := ((Mod.refl _ w2).drewN 1).trans HM3.out; have HT3 : Hid (TS b c n t ab ao x4 (x4 + 1) r u D w3) := HT2.out.new HM3'.out; have hS3 := s3 HT3.out; have hS5 := s3 (HT3.out.new ((Mod.refl _ w3).alloc (.cells zeroP 195))); have hO1 := one_list HO.out; have hTh : (w3.alloc (.cells zeroP 195)).there w3.heap.size 0 16 := there_new w3 195 zeroP sizeP; obtain ⟨w4, Pb, HW4, HPb, HTP⟩ := four1 HT3.out A hsz HO.out HJ.out (Nat.le_trans hx2 HM3'.out.size) HM3'.out; have hS6 := HW4.out ▸ s3 HTP.out.T) | (go_at_call 106; refine (load_row HZ.out.S t r HZ.out.ct (by omega)).mono ?_; rintro e w3 ⟨A, rfl, hsz, HA, HO, HJ, HM3⟩; have HM3' : Hid (Mod (fun _ => False) (w2.alloc (.cells zeroP 195)).drew w3) := HM3; have HT3 : Hid (TS b c n t ab ao x4 (x4 + 1) r u D w3) := HZ.out.new HM3'.out; have hS3 := s3 HT3.out; have hO1 := one_list HO.out; have hTh : w3.there w2.heap.size 0 16 := HM3'.out.there (by show _ < (w2.alloc _).heap.size; simp) (fun h => h) HZT.out; obtain ⟨w4, Pb, HW4, HPb, HTP⟩ := four2 HT3.out A hsz HJ.out hx2 hTh HM3'.out (HT2.out.lts hx2); have hS6 := HW4.out ▸ s3 HTP.out.T))
  all_goals rw [← HW4.out, ← HPb.out]
  all_goals clear hTh hS6 hS3 hO1 HT3 HM3' HW4 HPb HM3
  all_goals try clear hS5
  all_goals clear hS1 HZT HZ hx2
  all_goals have HF4 : Hid (Fr b c ab ao w w4) := HF2.out.trans (HTP.out.fr0 (block_lt_of_cell HT2.out.ca))
  all_goals go_wp2_with fail
  all_goals have HAP : Hid (Apart b c t Pb) := ⟨by have := HTP.out.lt; omega, by have := HTP.out.lt; have := HBC.out.1; omega, by have := HTP.out.lt; have := HBC.out.2; omega, HTP.out.T.A.tb, HTP.out.T.A.tc, by have := HTP.out.lt; have := HTN.out; omega⟩
  all_goals have HPN : Hid (ab ≠ Pb ∧ x4 ≠ Pb ∧ x4 + 1 ≠ Pb) := by have := HTP.out.lt; have := HN.out; refine ⟨?_, ?_, ?_⟩ <;> omega
  all_goals have HPL : Hid (w.heap.size ≤ Pb) := by have := HTP.out.lt; show _ ≤ _; omega
  all_goals have HS7 : Hid ((w4.drewN 1).cell? ⟨x4, 0, none⟩ = some (.pointer (some ⟨t, 0, none⟩))) := HTP.out.T.c4
  all_goals (go_region_held (fun W' => W'.cell? ⟨x4, 0, none⟩ = some (.pointer (some ⟨t, 0, none⟩))) (first | exact hS8 | exact HS7.out) (first | (go_at_call 104; rw [HTM.out]; refine (take1 (HTP.out.T.S.drewN 1) t Pb (k / 16) (ptr u D r (k / 16)) (k % 16) HTP.out.T.ct (HTP.out.at_ (k / 16) (by omega)) (HTP.out.fr (k / 16) (by omega)) HAP.out (by omega) (ptr_lt _ D HD.out _ _)).mono ?_; rw [HX.out]; rintro e w5 ⟨rfl, H5, C5, F5, T5⟩; have HT5 : Hid (TS b c n t ab ao x4 (x4 + 1) r u2 D2 w5) := HTP.out.T.step (((Mod.refl _ w4).drewN 1).trans F5.mod) H5 (fun e => e.elim HTP.out.T.A.nb (fun e => e.elim HTP.out.T.A.nc HPN.out.1)) (fun e => e.elim HTP.out.T.A.tb (fun e => e.elim HTP.out.T.A.tc HAP.out.ta)) (fun e => e.elim HTP.out.T.n4.1 (fun e => e.elim HTP.out.T.n4.2.1 HPN.out.2.1)) (fun e => e.elim HTP.out.T.n5.1 (fun e => e.elim HTP.out.T.n5.2.1 HPN.out.2.2)); have HF5 : Hid (Fr b c ab ao w w5) := fr_sub F5 (block_lt_of_cell HTP.out.T.ca) HTP.out.T.A.nb HTP.out.T.A.nc HPN.out.1 HPL.out HF4.out; have HC5 : Hid (w5.cell? ⟨Pb, k / 16, none⟩ = some (.int .i64 (p : Nat))) := C5; have HG5 : Hid (∀ o, o ≠ (k / 16) → w5.cell? ⟨Pb, o, none⟩ = w4.cell? ⟨Pb, o, none⟩) := F5.cell; have hS8 := HT5.out.c4; clear H5 C5 F5 T5)))
  all_goals clear hS8
  all_goals obtain ⟨L, hlen, HL, HR⟩ := row_of HTP.out.at_ HC5.out HG5.out
  all_goals have hIL : (Tryz.prog.info? 195).map (·.size) = some L.length := by rw [hlen]; exact infP
  all_goals have hUL := undP
  all_goals have HQ : Hid (∀ j, upd (ptr u D r) (k / 16) p j < 4294967296) := fun j => by unfold upd; split; exact hp; exact ptr_lt _ _ HD.out _ _
  all_goals have HS9 : Hid ((w5.drewN 1).cell? ⟨x4, 0, none⟩ = some (.pointer (some ⟨t, 0, none⟩)) ∧ (w5.drewN 1).cell? ⟨x4 + 1, 0, none⟩ = some (.pointer (some ⟨ab, ao, none⟩)) ∧ (w5.drewN 1).cell? ⟨ab, ao, none⟩ = some (.int .i64 (r : Int)) ∧ (w5.drewN 1).rangeAt Pb 0 L) := ⟨HT5.out.c4, HT5.out.c5, HT5.out.ca, HR.out⟩
  all_goals go_wp2_with fail
  all_goals (go_region_held (fun W' => W'.cell? ⟨x4, 0, none⟩ = some (.pointer (some ⟨t, 0, none⟩)) ∧ W'.cell? ⟨x4 + 1, 0, none⟩ = some (.pointer (some ⟨ab, ao, none⟩)) ∧ W'.cell? ⟨ab, ao, none⟩ = some (.int .i64 (r : Int)) ∧ W'.rangeAt Pb 0 L) (first | exact hS10 | exact HS9.out) (first | (go_at_call 107; rw [HL.out]; refine (save_any (HT5.out.S.drewN 1) t r (upd (ptr u D r) (k / 16) p) HQ.out HT5.out.ct HT5.out.A.tc (by omega)).mono ?_; rintro e w6 ⟨rfl, H6, M6⟩; have HT6 : Hid (TS b c n t ab ao x4 (x4 + 1) r u2 (saved u2 D2 r (upd (ptr u D r) (k / 16) p)) w6) := HT5.out.stored (((Mod.refl _ w5).drewN 1).trans M6) H6 (fun _ e => .inr e); have HF6 : Hid (Fr b c ab ao w w6) := HF5.out.trans (HT5.out.fr (((Mod.refl _ w5).drewN 1).trans M6) (fun _ e => .inr e)); have hS10 : w6.cell? ⟨x4, 0, none⟩ = some (.pointer (some ⟨t, 0, none⟩)) ∧ w6.cell? ⟨x4 + 1, 0, none⟩ = some (.pointer (some ⟨ab, ao, none⟩)) ∧ w6.cell? ⟨ab, ao, none⟩ = some (.int .i64 (r : Int)) ∧ w6.rangeAt Pb 0 L := ⟨HT6.out.c4, HT6.out.c5, HT6.out.ca, range_mod M6 HR.out (block_lt_of_cell HC5.out) HAP.out.nc⟩; clear H6 M6)))
  all_goals go_wp2
  all_goals go_ret2
  all_goals exact ⟨by simp, HT6.out.S, HT6.out.ca, HF6.out, HT6.out.ct⟩
end
end Go.Proofs.YtpcbpikhiooafaaGreatDoor
/- The walk of take, of 256 places. Conditions: the store lies in memory as 'St' says, the table's first cell leads to it, the ref lies in a block of its own. -/
namespace Go.Proofs.YtpcbpikhiooafaaGreatDoor
open Go.RowKit
section
variable {w : World} {b c n : Nat} {u : Nat → Bool} {D : Nat → Nat}
theorem tk_eq2 (n : Nat) (u : Nat → Bool) (D : Nat → Nat) (r k : Nat) : tk 2 n u D r k = (if r ≠ 0 then some (u, r) else (low u n).map fun i => (upd u i true, i + 1)).bind fun x => (tk 1 n x.1 D (ptr x.1 D x.2 (k / 16)) (k % 16)).map fun y => (y.1, saved y.1 y.2.1 x.2 (upd (ptr x.1 D x.2) (k / 16) y.2.2.1), x.2, y.2.2.2) := by
  rw [tk]
theorem tk_lt1 {n : Nat} {u : Nat → Bool} {D : Nat → Nat} {r k : Nat} {u2 : Nat → Bool} {D2 : Nat → Nat} {p f : Nat} (hn : n ≤ 4096) (hr : r < 4294967296) (h : tk 1 n u D r k = some (u2, D2, p, f)) : p < 4294967296 := by
  rw [tk] at h
  by_cases h0 : r ≠ 0
  · rw [if_pos h0] at h
    simp only [Option.bind_some, Option.map_eq_some_iff, Prod.mk.injEq] at h; obtain ⟨_, _, _, _, h, _⟩ := h; omega
  · rw [if_neg h0] at h
    cases hl : low u n with
    | none => rw [hl] at h; simp at h
    | some i =>
      have := (low_some hl).1
      rw [hl] at h
      simp only [Option.map_some, Option.bind_some, Option.map_eq_some_iff, Prod.mk.injEq] at h; obtain ⟨_, _, _, _, h, _⟩ := h; omega
theorem take2 (S : St w b c n u D) (t ab ao r k : Nat) (ht : w.cell? ⟨t, 0, none⟩ = some (.pointer (some ⟨b, 0, none⟩))) (ha : w.cell? ⟨ab, ao, none⟩ = some (.int .i64 (r : Nat)))
    (hf : w.frozen? ⟨ab, ao, none⟩ = false) (hA : Apart b c t ab) (hk : k < 256) (hr : r < 4294967296) :
    Calls Tryz.prog 104 #[.pointer (some ⟨t, 0, none⟩), .pointer (some ⟨ab, ao, none⟩), .int .i64 256, .int .i64 k] w (TkPost b c n t ab ao u D r w (tk 2 n u D r k)) := by
  rw [tk_eq2 n u D r k]
  by_cases h : r ≠ 0
  · rw [if_pos h, Option.bind_some]
    cases hx : tk 1 n u D (ptr u D r (k / 16)) (k % 16) with
    | none => exact take_have2_bad S t ab ao k r ht ha hf hA hk hr h hx
    | some y =>
      obtain ⟨u2, D2, p, f⟩ := y
      exact take_have2_good S t ab ao k r u2 D2 p f ht ha hf hA hk hr h hx (tk_lt1 S.n2 (ptr_lt _ _ S.dl _ _) hx)
  · rw [if_neg h]
    obtain rfl : r = 0 := by omega
    cases hl : low u n with
    | none => exact take_full S t ab ao k 256 ht ha hf hA hl
    | some i =>
      rw [Option.map_some, Option.bind_some]
      cases hx : tk 1 n (upd u i true) D (ptr (upd u i true) D (i + 1) (k / 16)) (k % 16) with
      | none => exact take_new2_bad S t ab ao k i ht ha hf hA hk hl hx
      | some y =>
        obtain ⟨u2, D2, p, f⟩ := y
        exact take_new2_good S t ab ao k i u2 D2 p f ht ha hf hA hk hl hx (tk_lt1 S.n2 (ptr_lt _ _ S.dl _ _) hx)
end
end Go.Proofs.YtpcbpikhiooafaaGreatDoor
