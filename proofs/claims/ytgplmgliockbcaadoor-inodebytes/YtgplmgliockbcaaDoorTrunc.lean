/- The walks of wipe and Truncate. Condition: the table lies in memory as 'Tb' says. -/
import Derived.Test.YtgplmgliockbcaaDoorCut
import Derived.Test.YtgplmgliockbcaaDoorRd2
namespace Go.Proofs.YtgplmgliockbcaaDoor
open Go.RowKit
def noughts (m : Nat) : List Nat := List.replicate m 0
/-- The bytes when the place in which size lies is wiped from size on. -/
def wipeD (u : Nat → Bool) (D : Nat → Nat) (R : Nat → Nat) (size : Nat) : Nat → Nat :=
  if size % 64 = 0 then D else if lkAt u D R (size / 64) = 0 then D else wrt u D (lkAt u D R (size / 64)) (size % 64) (noughts (64 - size % 64))
section
variable {w w' : World} {t q b c n N : Nat} {clk : Int} {F : Nat → Nat → Int} {R : Nat → Nat → Nat} {u : Nat → Bool} {D : Nat → Nat}
set_option maxRecDepth 8000 in
set_option maxHeartbeats 4000000 in
theorem wipe_any (T : Tb w t q b c n N clk F R u D) (i size : Nat) (hi : i < N) (hs : size ≤ 17792) :
    Calls Tryd.prog 50 #[.pointer (some ⟨t, 0, none⟩), .pointer (some ⟨q, i * 17, none⟩), .int .i64 size] w fun e w' => e = .returned (.tuple #[]) ∧ Tb w' t q b c n N clk F R u (wipeD u D (R i) size) ∧ Mod (fun k => k = c) w w' := by
  have HT : Hid (Tb w t q b c n N clk F R u D) := T
  have HR : (size : Int).tmod 64 = ((size % 64 : Nat) : Int) := by rw [Int.tmod_eq_emod_of_nonneg (by omega)]; omega
  have hc64 : ((size % 64 : Nat) : Int) = (size : Int) % 64 := by omega
  by_cases h0 : size % 64 = 0
  · have hz : ((size : Int) % 64 == 0) = true := by simp; omega
    have HW : Hid (wipeD u D (R i) size = D) := by show _ = _; rw [wipeD, if_pos h0]
    clear T h0 hs HR hc64
    go_enter Tryd.func50, Tryd.ntmps50
    go_wp2
    refine bodyPost_ret (results_none rfl _ _ _) rfl ⟨rfl, ?_, Mod.refl _ _⟩
    rw [HW.out]; exact HT.out
  · have hk : size / 64 < 278 := by omega
    have hz : ((size : Int) % 64 == 0) = false := by simp; omega
    have HQ : Hid ((size : Int) / 64 = ((size / 64 : Nat) : Int)) := by show _ = _; omega
    have HL : Hid (lkAt u D (R i) (size / 64) < 4294967296) := lk_lt T.S.dl _ _ _ (T.rl _ _)
    have H0 : Hid (¬ size % 64 = 0) := h0
    obtain ⟨m, hm⟩ : ∃ m : Nat, m = 64 - size % 64 := ⟨_, rfl⟩
    have HMm : Hid (m = 64 - size % 64) := hm
    have hm64 : m ≤ 64 := by omega
    have hme : 64 - (size : Int) % 64 = (m : Int) := by omega
    have hmk := mk_bytes m (by omega)
    have hwm : IntKind.i64.wrap (m : Int) = m := by rw [IntKind.wrap_i64]; omega
    have HC64 : Hid ((size : Int) % 64 = ((size % 64 : Nat) : Int)) := hc64.symm
    clear T h0 hs hm HR hc64
    go_enter Tryd.func50, Tryd.ntmps50
    go_wp2_with (go_at_call 59; rw [HQ.out]; refine (place_any3 q (i * 17) _ _ hk).mono ?_; rintro e w1 ⟨o, P, K, rfl, HP, HM1⟩; have HT1 : Hid (Tb (w1.alloc (.cells #[.pointer (some ⟨q, o, none⟩), .int .i64 P] 110)) t q b c n N clk F R u D) := HT.out.new (HM1.out.alloc _))
    have HC : Hid ((w1.alloc (.cells #[.pointer (some ⟨q, o, none⟩), .int .i64 P] 110)).cell? ⟨w1.heap.size, 0, none⟩ = some (.pointer (some ⟨q, o, none⟩)) ∧ (w1.alloc (.cells #[.pointer (some ⟨q, o, none⟩), .int .i64 P] 110)).cell? ⟨w1.heap.size, 1, none⟩ = some (.int .i64 P) ∧ (w1.alloc (.cells #[.pointer (some ⟨q, o, none⟩), .int .i64 P] 110)).cell? ⟨q, o, none⟩ = some (.int .i64 (R i (rt (size / 64)) : Nat))) := by
      refine ⟨?_, ?_, ?_⟩
      · rw [World.cell?_alloc_at _ _ _ _ rfl]; rfl
      · rw [World.cell?_alloc_at _ _ _ _ rfl]; rfl
      · have := HT1.out.cr i (rt (size / 64)) hi (rt_lt _)
        rw [← HP.out.1] at this; exact this
    have HM2 : Hid (Mod (fun _ => False) w (w1.alloc (.cells #[.pointer (some ⟨q, o, none⟩), .int .i64 P] 110))) := HM1.out.alloc _
    generalize hw2 : w1.alloc (.cells #[.pointer (some ⟨q, o, none⟩), .int .i64 P] 110) = w2 at *
    generalize w1.heap.size = x8 at *
    clear hw2 HM1
    go_region_held (fun W' => W'.cell? ⟨x8, 0, none⟩ = some (.pointer (some ⟨q, o, none⟩)) ∧ W'.cell? ⟨x8, 1, none⟩ = some (.int .i64 P) ∧ W'.cell? ⟨q, o, none⟩ = some (.int .i64 (R i (rt (size / 64)) : Nat))) (first | exact hS3 | exact HC.out) (first | (go_at_call 60; refine (lookAt (HT1.out.drewN 1) i (size / 64) P K _ hk ⟨HP.out.2.1, HP.out.2.2, rfl⟩).mono ?_; rintro e w3 ⟨rfl, M3⟩; have HM3 : Hid (Mod (fun _ => False) w2 w3) := ((Mod.refl _ w2).drewN 1).trans M3; have hS3 : w3.cell? ⟨x8, 0, none⟩ = some (.pointer (some ⟨q, o, none⟩)) ∧ w3.cell? ⟨x8, 1, none⟩ = some (.int .i64 P) ∧ w3.cell? ⟨q, o, none⟩ = some (.int .i64 (R i (rt (size / 64)) : Nat)) := ⟨(M3.cell (p := ⟨x8, 0, none⟩) (block_lt_of_cell (w := w2) HC.out.1) (fun h => h)).trans HC.out.1, (M3.cell (p := ⟨x8, 1, none⟩) (block_lt_of_cell (w := w2) HC.out.2.1) (fun h => h)).trans HC.out.2.1, (M3.cell (p := ⟨q, o, none⟩) (block_lt_of_cell (w := w2) HC.out.2.2) (fun h => h)).trans HC.out.2.2⟩; clear M3))
    clear hS3
    have HT3 : Hid (Tb w3 t q b c n N clk F R u D) := HT1.out.new HM3.out
    have HM4 : Hid (Mod (fun _ => False) w w3) := HM2.out.trans HM3.out
    clear HM2 HM3 HT1 HC
    obtain ⟨r, hr⟩ : ∃ r, r = lkAt u D (R i) (size / 64) := ⟨_, rfl⟩
    rw [← hr]
    have HE : Hid (r = lkAt u D (R i) (size / 64)) := hr
    have hrl : r < 4294967296 := by rw [hr]; exact HL.out
    clear hr
    by_cases hr0 : r = 0
    · have HW : Hid (wipeD u D (R i) size = D) := by show _ = _; rw [wipeD, if_neg H0.out, if_pos (by rw [← HE.out]; exact hr0)]
      subst hr0
      go_wp2
      refine ⟨rfl, _, results_none rfl _ _ _, rfl, ?_, HM4.out.mono (fun _ _ h => h.elim)⟩
      rw [HW.out]; exact HT3.out
    · have hrb : ((r : Int) == 0) = false := by simpa using hr0
      have HW : Hid (wipeD u D (R i) size = wrt u D r (size % 64) (noughts m)) := by show _ = _; rw [wipeD, if_neg H0.out, if_neg (by rw [← HE.out]; exact hr0), ← HE.out, HMm.out]
      have HT5 : Hid (Tb (w3.alloc (.cells (madeCells #[.int .u8 0] m) 5)).drew t q b c n N clk F R u D) := HT3.out.new (((Mod.refl _ w3).alloc _).drewN 1)
      have HS5 : Hid (∀ j v, ((noughts m).map byteV)[j]? = some v → (w3.alloc (.cells (madeCells #[.int .u8 0] m) 5)).drew.cell? ((⟨w3.heap.size, 0, none⟩ : Addr).add j) = some v) := fun j v hv => by
        rw [Addr.add_mid, Nat.zero_add]
        show (w3.alloc _).cell? _ = _
        rw [World.cell?_alloc_at _ _ _ _ rfl]
        rw [List.getElem?_map, Option.map_eq_some_iff] at hv
        obtain ⟨x, hx, rfl⟩ := hv
        have hj : j < m := by have := (List.getElem?_eq_some_iff.mp hx).1; simpa [noughts] using this
        have hx0 : x = 0 := by have := (List.getElem?_eq_some_iff.mp hx).2; simpa [noughts] using this.symm
        rw [hx0]
        simp only [madeCells, Array.getElem?_map]
        rw [Array.getElem?_eq_getElem (by simpa using hj)]
        simp [Nat.mod_one, byteV]
      have hC0 : (w3.drewN 1).cell? ⟨t, 0, none⟩ = some (.pointer (some ⟨b, 0, none⟩)) := HT3.out.c0
      have HC0 : Hid ((w3.drewN 1).cell? ⟨t, 0, none⟩ = some (.pointer (some ⟨b, 0, none⟩))) := hC0
      have HC5 : Hid ((w3.alloc (.cells (madeCells #[.int .u8 0] m) 5)).drew.cell? ⟨t, 0, none⟩ = some (.pointer (some ⟨b, 0, none⟩))) := HT5.out.c0
      clear hC0
      go_wp2_with fail
      go_region_held (fun W' => W'.cell? ⟨t, 0, none⟩ = some (.pointer (some ⟨b, 0, none⟩))) (first | exact hS6 | exact HC0.out | exact HC5.out) (first | (go_at_call 62; refine (block_any r _ (by omega)).mono ?_; rintro e w5 ⟨rfl, rfl⟩) | (go_at_call 64; rw [HC64.out]; refine (HT5.out.S.write_any r (size % 64) _ m _ (noughts m) (by have := HMm.out; have := Nat.mod_lt size (show 0 < 64 by omega); omega) (by simp [noughts]) (fun x hx => by (have := List.eq_of_mem_replicate hx; omega)) (fun _ => ⟨_, rfl, HS5.out⟩)).mono ?_; rintro e w6 ⟨⟨v, rfl⟩, H6, M6⟩; have HM6 : Hid (Mod (fun k => k = c) w3 w6) := (((Mod.refl _ w3).alloc _).drewN 1).trans M6.out; have HT6 : Hid (Tb w6 t q b c n N clk F R u (wrt u D r (size % 64) (noughts m))) := HT3.out.store HM6.out H6.out HT3.out.tc HT3.out.qc; have hS6 := HT6.out.c0; clear H6 M6))
      all_goals go_wp2
      all_goals refine ⟨rfl, _, results_none rfl _ _ _, rfl, ?_, (HM4.out.mono (fun _ _ h => h.elim)).trans HM6.out⟩
      all_goals (rw [HW.out]; exact HT6.out)
end
end Go.Proofs.YtgplmgliockbcaaDoor
