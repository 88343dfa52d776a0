/- The walk of Truncate. Condition: the table lies in memory as 'Tb' says. -/
import Derived.Test.YtgplmgliockbcaaDoorTrunc
import Derived.Test.YtgplmgliockbcaaDoorWr2
import Derived.Test.YtgplmgliockbcaaDoorNone1
namespace Go.Proofs.YtgplmgliockbcaaDoor
open Go.RowKit
section
variable {w w' : World} {t q b c n N : Nat} {clk : Int} {F : Nat → Nat → Int} {R : Nat → Nat → Nat} {u : Nat → Bool} {D : Nat → Nat}
set_option maxRecDepth 8000 in
set_option maxHeartbeats 4000000 in
theorem ttrunc (T : Tb w t q b c n N clk F R u D) (i size : Nat) (hi : i < N) (hz : F i 0 ≠ 0) (hs : size ≤ 17792) (y : (Nat → Bool) × (Nat → Nat) × (Nat → Nat)) (hy : cutS (((size + 63) / 64 : Nat) : Int) u D (R i) 8 = y) :
    Calls Tryd.prog 23 #[.pointer (some ⟨t, 0, none⟩), .int .i64 ((i : Int) + 1), .int .i64 size] w fun e w' => e = .returned (.int .i64 0) ∧
      Tb w' t q b c n N clk (upd2 (upd2 (upd2 F i 5 size) i 7 clk) i 8 clk) (setN R i y.2.2) y.1 (wipeD y.1 y.2.1 y.2.2 size) ∧ Mod (fun k => k = b ∨ k = c ∨ k = q) w w' := by
  have HT : Hid (Tb w t q b c n N clk F R u D) := T
  have HZ : Hid (F i 0 ≠ 0) := hz
  have HY : Hid (cutS (((size + 63) / 64 : Nat) : Int) u D (R i) 8 = y) := hy
  have h17 : decide ((17792 : Int) < size) = false := by simp; omega
  have hs2 : size < 20000 := by omega
  have HSz : Hid (size ≤ 17792) := hs
  have HK1 : Hid (((size : Int) + 64 - 1) / 64 = (((size + 63) / 64 : Nat) : Int)) := by show _ = _; omega
  have HK2 : Hid (((size : Int) + 63) / 64 = (((size + 63) / 64 : Nat) : Int)) := by show _ = _; omega
  have HK3 : Hid (((size : Int) + 64 - 1).tdiv 64 = (((size + 63) / 64 : Nat) : Int)) := by show _ = _; rw [Int.tdiv_eq_ediv_of_nonneg (by omega)]; omega
  clear T hz hy hs
  go_enter Tryd.func23, Tryd.ntmps23
  go_wp2_with (first | (go_at_call 41; refine (find_ok HT.out i hi HZ.out).mono ?_; rintro e w1 ⟨rfl, hw1⟩; rw [hw1]; clear hw1 w1) | (go_at_call 49; (first | rw [HK1.out] | rw [HK2.out] | rw [HK3.out]); refine (cut_any HT.out i _ hi (by omega) (by have := HSz.out; omega) y HY.out).mono ?_; rintro e w2 ⟨rfl, T2, M2⟩; have HT2 : Hid (Tb w2 t q b c n N clk F (setN R i y.2.2) y.1 y.2.1) := T2; have HM2 : Hid (Mod (fun k => k = b ∨ k = c ∨ k = q) w w2) := M2; clear T2 M2) | (go_at_call 50; refine (wipe_any HT2.out i size hi HSz.out).mono ?_; rw [setN_at']; rintro e w3 ⟨rfl, T3, M3⟩; have HT3 : Hid (Tb w3 t q b c n N clk F (setN R i y.2.2) y.1 (wipeD y.1 y.2.1 y.2.2 size)) := T3; have HM3 : Hid (Mod (fun k => k = b ∨ k = c ∨ k = q) w w3) := HM2.out.trans (M3.mono (fun _ _ h => .inr (.inl h))); have c5 := T3.cf i 5 hi (by omega); have f5 := T3.fq (i * 17 + 5); have HT4 : Hid (Tb (w3.setCell ⟨q, i * 17 + 5, none⟩ (.int .i64 (size : Int))) t q b c n N clk (upd2 F i 5 size) (setN R i y.2.2) y.1 (wipeD y.1 y.2.1 y.2.2 size)) := T3.setF i 5 (by omega) size (fun _ => ⟨by omega, by have := HSz.out; omega⟩); clear T3 M3) | (go_at_call 45; refine (touch_any HT4.out i hi).mono ?_; rintro e w5 ⟨rfl, T5, M5⟩; have HT5 := Hid.intro T5; have HM5 := Hid.intro M5; clear T5 M5))
  go_ret
  exact ⟨by simp, HT5.out, (HM3.out.trans ((Mod.refl _ w3).setCell _ _ (.inr (.inr rfl)))).trans (HM5.out.mono (fun _ _ h => .inr (.inr h)))⟩
theorem ttrunc_neg (T : Tb w t q b c n N clk F R u D) (i : Nat) (size : Int) (hi : i < N) (hz : F i 0 ≠ 0) (hs : size < 0) : Calls Tryd.prog 23 #[.pointer (some ⟨t, 0, none⟩), .int .i64 ((i : Int) + 1), .int .i64 size] w fun e w' => e = .returned (.int .i64 22) ∧ w' = w := by
  have HT : Hid (Tb w t q b c n N clk F R u D) := T
  have HZ : Hid (F i 0 ≠ 0) := hz
  clear T hz
  go_enter Tryd.func23, Tryd.ntmps23
  go_wp2_with (go_at_call 41; refine (find_ok HT.out i hi HZ.out).mono ?_; rintro e w1 ⟨rfl, hw1⟩; rw [hw1]; clear hw1 w1)
  go_ret
  exact ⟨by simp, rfl⟩
theorem ttrunc_big (T : Tb w t q b c n N clk F R u D) (i : Nat) (size : Int) (hi : i < N) (hz : F i 0 ≠ 0) (h0 : ¬ size < 0) (hs : 17792 < size) : Calls Tryd.prog 23 #[.pointer (some ⟨t, 0, none⟩), .int .i64 ((i : Int) + 1), .int .i64 size] w fun e w' => e = .returned (.int .i64 27) ∧ w' = w := by
  have HT : Hid (Tb w t q b c n N clk F R u D) := T
  have HZ : Hid (F i 0 ≠ 0) := hz
  have h17 : decide ((17792 : Int) < size) = true := by simp [hs]
  clear T hz hs
  go_enter Tryd.func23, Tryd.ntmps23
  go_wp2_with (go_at_call 41; refine (find_ok HT.out i hi HZ.out).mono ?_; rintro e w1 ⟨rfl, hw1⟩; rw [hw1]; clear hw1 w1)
  go_ret
  exact ⟨by simp, rfl⟩
/-- The calls that look an inode up, of a number that is not in use. -/
theorem ttrunc_not (T : Tb w t q b c n N clk F R u D) (i size : Int) (hi : i < 1 ∨ N < i ∨ F (i - 1).toNat 0 = 0) : Calls Tryd.prog 23 #[.pointer (some ⟨t, 0, none⟩), .int .i64 i, .int .i64 size] w fun e w' => e = .returned (.int .i64 2) ∧ w' = w := by
  have HF : Hid (Calls Tryd.prog 41 #[.pointer (some ⟨t, 0, none⟩), .int .i64 i] w fun e w' => e = .returned (.tuple #[.pointer none, .int .i64 2]) ∧ w' = w) := find_not T i hi
  clear T hi
  go_enter Tryd.func23, Tryd.ntmps23
  go_wp2_with (go_at_call 41; refine HF.out.mono ?_; rintro e w1 ⟨rfl, hw1⟩; rw [hw1]; clear hw1 w1)
  go_ret
  exact ⟨by simp, rfl⟩
end
end Go.Proofs.YtgplmgliockbcaaDoor
