/- The walks of Links and Release. Condition: the table lies in memory as 'Tb' says. -/
import Derived.Test.YtfmemkninmpfjaaGreatDoorLeave
namespace Go.Proofs.YtfmemkninmpfjaaGreatDoor
open Go.RowKit
theorem Hid.intrL {p : Prop} (h : p) : Hid p := h
section
variable {w : World} {t q b c n N : Nat} {clk : Int} {F : Nat → Nat → Int} {R : Nat → Nat → Nat} {u : Nat → Bool} {D : Nat → Nat}
set_option maxRecDepth 8000 in
set_option maxHeartbeats 2000000 in
theorem tlinks_low (T : Tb w t q b c n N clk F R u D) (i : Nat) (by_ : Int) (hi : i < N) (hz : F i 0 ≠ 0) (hl : 0 ≤ F i 3 ∧ F i 3 ≤ 16) (hb : by_ < - F i 3) :
    Calls Tryz.prog 31 #[.pointer (some ⟨t, 0, none⟩), .int .i64 ((i : Int) + 1), .int .i64 by_] w fun e w' => e = .returned (.int .i64 22) ∧ w' = w := by
  have HT : Hid (Tb w t q b c n N clk F R u D) := T
  have HZ : Hid (F i 0 ≠ 0) := hz
  have h2 := T.c2
  have htq := T.tq
  have hlq := T.lt_q
  have k3 := T.cf i 3 hi (by omega)
  have f3 := T.fq (i * 17 + 3)
  clear T hz
  go_enter Tryz.func31, Tryz.ntmps31
  go_wp2_with (go_at_call 76; refine (find_ok HT.out i hi HZ.out).mono ?_; rintro e w1 ⟨rfl, hw1⟩; rw [hw1]; clear hw1 w1)
  go_ret
  exact ⟨by simp, rfl⟩
set_option maxRecDepth 8000 in
set_option maxHeartbeats 2000000 in
theorem tlinks_high (T : Tb w t q b c n N clk F R u D) (i : Nat) (by_ : Int) (hi : i < N) (hz : F i 0 ≠ 0) (hl : 0 ≤ F i 3 ∧ F i 3 ≤ 16) (_hb : ¬ by_ < - F i 3) (hh : 16 - F i 3 < by_) :
    Calls Tryz.prog 31 #[.pointer (some ⟨t, 0, none⟩), .int .i64 ((i : Int) + 1), .int .i64 by_] w fun e w' => e = .returned (.int .i64 31) ∧ w' = w := by
  have HT : Hid (Tb w t q b c n N clk F R u D) := T
  have HZ : Hid (F i 0 ≠ 0) := hz
  have h2 := T.c2
  have htq := T.tq
  have hlq := T.lt_q
  have k3 := T.cf i 3 hi (by omega)
  have f3 := T.fq (i * 17 + 3)
  clear T hz
  go_enter Tryz.func31, Tryz.ntmps31
  go_wp2_with (go_at_call 76; refine (find_ok HT.out i hi HZ.out).mono ?_; rintro e w1 ⟨rfl, hw1⟩; rw [hw1]; clear hw1 w1)
  go_ret
  exact ⟨by simp, rfl⟩
set_option maxRecDepth 8000 in
set_option maxHeartbeats 2000000 in
theorem tlinks_keep (T : Tb w t q b c n N clk F R u D) (i : Nat) (by_ : Int) (hi : i < N) (hz : F i 0 ≠ 0) (hl : 0 ≤ F i 3 ∧ F i 3 ≤ 16) (hb : ¬ by_ < - F i 3) (hh : ¬ 16 - F i 3 < by_) (hk : 0 < F i 3 + by_ ∨ 0 < F i 4) :
    Calls Tryz.prog 31 #[.pointer (some ⟨t, 0, none⟩), .int .i64 ((i : Int) + 1), .int .i64 by_] w fun e w' => e = .returned (.int .i64 0) ∧ Tb w' t q b c n N clk (upd2 (upd2 F i 3 (F i 3 + by_)) i 8 clk) R u D ∧ Mod (fun k => k = q) w w' := by
  have HT1 : Hid (Tb ((w.setCell ⟨q, i * 17 + 3, none⟩ (.int .i64 (F i 3 + by_))).setCell ⟨q, i * 17 + 8, none⟩ (.int .i64 clk)) t q b c n N clk (upd2 (upd2 F i 3 (F i 3 + by_)) i 8 clk) R u D) := (T.setF i 3 (by omega) _ (by omega)).setF i 8 (by omega) clk (by omega)
  have HK : Hid (0 < (upd2 (upd2 F i 3 (F i 3 + by_)) i 8 clk) i 3 ∨ 0 < (upd2 (upd2 F i 3 (F i 3 + by_)) i 8 clk) i 4) := by (show _ ∨ _; rw [show upd2 (upd2 F i 3 (F i 3 + by_)) i 8 clk i 3 = F i 3 + by_ by simp [upd2], show upd2 (upd2 F i 3 (F i 3 + by_)) i 8 clk i 4 = F i 4 by simp [upd2]]; exact hk)
  have HT : Hid (Tb w t q b c n N clk F R u D) := T
  have HZ : Hid (F i 0 ≠ 0) := hz
  have h2 := T.c2
  have htq := T.tq
  have hlq := T.lt_q
  have k3 := T.cf i 3 hi (by omega)
  have f3 := T.fq (i * 17 + 3)
  have k8 := T.cf i 8 hi (by omega)
  have f8 := T.fq (i * 17 + 8)
  clear T hz
  clear hk
  go_enter Tryz.func31, Tryz.ntmps31
  go_wp2_with (first | (go_at_call 76; refine (find_ok HT.out i hi HZ.out).mono ?_; rintro e w1 ⟨rfl, hw1⟩; rw [hw1]; clear hw1 w1) | (go_at_call 77; refine (leave_keeps HT1.out i hi HK.out).mono ?_; rintro e w2 ⟨rfl, hw2⟩; rw [hw2]; clear hw2 w2))
  go_ret
  exact ⟨by simp, HT1.out, ((Mod.refl (fun k => k = q) w).setCell _ _ rfl).setCell _ _ rfl⟩
set_option maxRecDepth 8000 in
set_option maxHeartbeats 2000000 in
theorem tlinks_end (T : Tb w t q b c n N clk F R u D) (i : Nat) (by_ : Int) (hi : i < N) (hz : F i 0 ≠ 0) (hl : 0 ≤ F i 3 ∧ F i 3 ≤ 16) (hb : ¬ by_ < - F i 3) (hh : ¬ 16 - F i 3 < by_) (hk : ¬ 0 < F i 3 + by_ ∧ ¬ 0 < F i 4) (y : (Nat → Bool) × (Nat → Nat) × (Nat → Nat)) (hy : cutS 0 u D (R i) 8 = y) :
    Calls Tryz.prog 31 #[.pointer (some ⟨t, 0, none⟩), .int .i64 ((i : Int) + 1), .int .i64 by_] w fun e w' => e = .returned (.int .i64 0) ∧ Tb w' t q b c n N clk (setN (upd2 (upd2 F i 3 (F i 3 + by_)) i 8 clk) i (fun _ => 0)) (setN R i (fun _ => 0)) y.1 y.2.1 ∧ Mod (fun k => k = b ∨ k = c ∨ k = q) w w' := by
  have HT1 : Hid (Tb ((w.setCell ⟨q, i * 17 + 3, none⟩ (.int .i64 (F i 3 + by_))).setCell ⟨q, i * 17 + 8, none⟩ (.int .i64 clk)) t q b c n N clk (upd2 (upd2 F i 3 (F i 3 + by_)) i 8 clk) R u D) := (T.setF i 3 (by omega) _ (by omega)).setF i 8 (by omega) clk (by omega)
  have HK : Hid (¬ 0 < (upd2 (upd2 F i 3 (F i 3 + by_)) i 8 clk) i 3 ∧ ¬ 0 < (upd2 (upd2 F i 3 (F i 3 + by_)) i 8 clk) i 4) := by (show _ ∧ _; rw [show upd2 (upd2 F i 3 (F i 3 + by_)) i 8 clk i 3 = F i 3 + by_ by simp [upd2], show upd2 (upd2 F i 3 (F i 3 + by_)) i 8 clk i 4 = F i 4 by simp [upd2]]; exact hk)
  have HY : Hid (cutS 0 u D (R i) 8 = y) := hy
  have HT : Hid (Tb w t q b c n N clk F R u D) := T
  have HZ : Hid (F i 0 ≠ 0) := hz
  have h2 := T.c2
  have htq := T.tq
  have hlq := T.lt_q
  have k3 := T.cf i 3 hi (by omega)
  have f3 := T.fq (i * 17 + 3)
  have k8 := T.cf i 8 hi (by omega)
  have f8 := T.fq (i * 17 + 8)
  clear T hz
  clear hk hy
  go_enter Tryz.func31, Tryz.ntmps31
  go_wp2_with (first | (go_at_call 76; refine (find_ok HT.out i hi HZ.out).mono ?_; rintro e w1 ⟨rfl, hw1⟩; rw [hw1]; clear hw1 w1) | (go_at_call 77; refine (leave_ends HT1.out i hi (by first | exact HK.out.1 | exact Int.not_lt.mpr HK.out.1) (by first | exact HK.out.2 | exact Int.not_lt.mpr HK.out.2) y HY.out).mono ?_; rintro e w2 ⟨rfl, T2, M2⟩; have HT2 := Hid.intrL T2; have HM2 := Hid.intrL M2; clear T2 M2))
  go_ret
  exact ⟨by simp, HT2.out, ((((Mod.refl (fun k => k = q) w).setCell _ _ rfl).setCell _ _ rfl).mono (fun _ _ h => .inr (.inr h))).trans HM2.out⟩
end
end Go.Proofs.YtfmemkninmpfjaaGreatDoor
