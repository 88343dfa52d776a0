/- Several texts of this claim, one behind the other, in their order. -/
import Derived.Test.YtgplmgliockbcaaDoorM6
import Derived.Laws.ResultCell
import Derived.Test.YtgplmgliockbcaaDoorM12
import Derived.Test.YtgplmgliockbcaaDoorWr2
/- The table's calls on a table that no call made (nil, or the zero one): each answers nothing, and EFAULT. Condition: 'made' answers false of it. -/
namespace Go.Proofs.YtgplmgliockbcaaDoor
open Go.RowKit
theorem results_tmp4 {fn : Func} {a b c d : Tmp} (h : fn.results = #[.tmp a, .tmp b, .tmp c, .tmp d]) (tmps : Array Value) (P : Program) (w : World) :
    (results fn tmps).run P w = .ok (.tuple #[tmps.getD a undef, tmps.getD b undef, tmps.getD c undef, tmps.getD d undef]) w := by
  simp only [results, h]
  simp
/-- 'made' says no of this receiver. -/
def NoT (p : Value) (w : World) : Prop := Calls Tryd.prog 36 #[p] w fun e w' => e = .returned (.bool false) ∧ w' = w
theorem NoT.out {p : Value} {w : World} (h : NoT p w) : Calls Tryd.prog 36 #[p] w fun e w' => e = .returned (.bool false) ∧ w' = w := h
theorem find_none' (p v : Value) (w : World) (h : Calls Tryd.prog 36 #[p] w fun e w' => e = .returned (.bool false) ∧ w' = w) : Calls Tryd.prog 41 #[p, v] w fun e w' => e = .returned (.tuple #[.pointer none, .int .i64 14]) ∧ w' = w := by
  go_enter Tryd.func41, Tryd.ntmps41
  go_wp2_with (go_at_call 36; refine h.mono ?_; rintro e w1 ⟨rfl, hw1⟩; rw [hw1]; clear hw1 w1)
  go_ret2
  exact ⟨by simp, rfl⟩
set_option maxHeartbeats 400000 in
theorem tn_alloc (p : Value) (w : World) (H : NoT p w) (a b c : Value) : Calls Tryd.prog 16 #[p, a, b, c] w fun e w' => e = .returned (.tuple #[.int .i64 0, .int .i64 14]) ∧ w' = w := by
  go_enter Tryd.func16, Tryd.ntmps16
  go_wp2_with (first | (go_at_call 36; refine H.out.mono ?_; rintro e w1 ⟨rfl, hw1⟩; rw [hw1]; clear hw1 w1))
  go_ret2
  exact ⟨by simp, rfl⟩
set_option maxHeartbeats 400000 in
theorem tn_read (p : Value) (w : World) (H : NoT p w) (a b c : Value) : Calls Tryd.prog 17 #[p, a, b, c] w fun e w' => e = .returned (.tuple #[.slice none 0 0, .int .i64 14]) ∧ w' = w := by
  go_enter Tryd.func17, Tryd.ntmps17
  go_wp2_with (first | (go_at_call 41; refine (find_none' p _ w H.out).mono ?_; rintro e w1 ⟨rfl, hw1⟩; rw [hw1]; clear hw1 w1))
  go_ret2
  exact ⟨by simp, rfl⟩
set_option maxHeartbeats 400000 in
theorem tn_write (p : Value) (w : World) (H : NoT p w) (a b c : Value) : Calls Tryd.prog 18 #[p, a, b, c] w fun e w' => e = .returned (.tuple #[.int .i64 0, .int .i64 14]) ∧ w' = w := by
  go_enter Tryd.func18, Tryd.ntmps18
  go_wp2_with (first | (go_at_call 41; refine (find_none' p _ w H.out).mono ?_; rintro e w1 ⟨rfl, hw1⟩; rw [hw1]; clear hw1 w1))
  go_ret2
  exact ⟨by simp, rfl⟩
set_option maxHeartbeats 400000 in
theorem tn_owned (p : Value) (w : World) (H : NoT p w) (a : Value) : Calls Tryd.prog 20 #[p, a] w fun e w' => e = .returned (.tuple #[.slice none 0 0, .int .i64 14]) ∧ w' = w := by
  go_enter Tryd.func20, Tryd.ntmps20
  go_wp2_with (first | (go_at_call 41; refine (find_none' p _ w H.out).mono ?_; rintro e w1 ⟨rfl, hw1⟩; rw [hw1]; clear hw1 w1))
  go_ret2
  exact ⟨by simp, rfl⟩
set_option maxHeartbeats 400000 in
theorem tn_room (p : Value) (w : World) (H : NoT p w) : Calls Tryd.prog 21 #[p] w fun e w' => e = .returned (.tuple #[.int .i64 0, .int .i64 0, .int .i64 0, .int .i64 0]) ∧ w' = w := by
  go_enter Tryd.func21, Tryd.ntmps21
  go_wp2_with (first | (go_at_call 36; refine H.out.mono ?_; rintro e w1 ⟨rfl, hw1⟩; rw [hw1]; clear hw1 w1))
  exact bodyPost_ret (results_tmp4 rfl _ _ _) rfl ⟨rfl, rfl⟩
set_option maxHeartbeats 400000 in
theorem tn_clock (p : Value) (w : World) (H : NoT p w) (a : Value) : Calls Tryd.prog 22 #[p, a] w fun e w' => e = .returned (.tuple #[]) ∧ w' = w := by
  go_enter Tryd.func22, Tryd.ntmps22
  go_wp2_with (first | (go_at_call 36; refine H.out.mono ?_; rintro e w1 ⟨rfl, hw1⟩; rw [hw1]; clear hw1 w1))
  exact ⟨rfl, _, results_none rfl _ _ _, rfl, rfl⟩
set_option maxHeartbeats 400000 in
theorem tn_trunc (p : Value) (w : World) (H : NoT p w) (a b : Value) : Calls Tryd.prog 23 #[p, a, b] w fun e w' => e = .returned (.int .i64 14) ∧ w' = w := by
  go_enter Tryd.func23, Tryd.ntmps23
  go_wp2_with (first | (go_at_call 41; refine (find_none' p _ w H.out).mono ?_; rintro e w1 ⟨rfl, hw1⟩; rw [hw1]; clear hw1 w1))
  go_ret
  exact ⟨by simp, rfl⟩
set_option maxHeartbeats 400000 in
theorem tn_setmode (p : Value) (w : World) (H : NoT p w) (a b : Value) : Calls Tryd.prog 24 #[p, a, b] w fun e w' => e = .returned (.int .i64 14) ∧ w' = w := by
  go_enter Tryd.func24, Tryd.ntmps24
  go_wp2_with (first | (go_at_call 41; refine (find_none' p _ w H.out).mono ?_; rintro e w1 ⟨rfl, hw1⟩; rw [hw1]; clear hw1 w1))
  go_ret
  exact ⟨by simp, rfl⟩
set_option maxHeartbeats 400000 in
theorem tn_setowner (p : Value) (w : World) (H : NoT p w) (a b c : Value) : Calls Tryd.prog 25 #[p, a, b, c] w fun e w' => e = .returned (.int .i64 14) ∧ w' = w := by
  go_enter Tryd.func25, Tryd.ntmps25
  go_wp2_with (first | (go_at_call 41; refine (find_none' p _ w H.out).mono ?_; rintro e w1 ⟨rfl, hw1⟩; rw [hw1]; clear hw1 w1))
  go_ret
  exact ⟨by simp, rfl⟩
set_option maxHeartbeats 400000 in
theorem tn_settimes (p : Value) (w : World) (H : NoT p w) (a b c : Value) : Calls Tryd.prog 26 #[p, a, b, c] w fun e w' => e = .returned (.int .i64 14) ∧ w' = w := by
  go_enter Tryd.func26, Tryd.ntmps26
  go_wp2_with (first | (go_at_call 41; refine (find_none' p _ w H.out).mono ?_; rintro e w1 ⟨rfl, hw1⟩; rw [hw1]; clear hw1 w1))
  go_ret
  exact ⟨by simp, rfl⟩
set_option maxHeartbeats 400000 in
theorem tn_links (p : Value) (w : World) (H : NoT p w) (a b : Value) : Calls Tryd.prog 27 #[p, a, b] w fun e w' => e = .returned (.int .i64 14) ∧ w' = w := by
  go_enter Tryd.func27, Tryd.ntmps27
  go_wp2_with (first | (go_at_call 41; refine (find_none' p _ w H.out).mono ?_; rintro e w1 ⟨rfl, hw1⟩; rw [hw1]; clear hw1 w1))
  go_ret
  exact ⟨by simp, rfl⟩
set_option maxHeartbeats 400000 in
theorem tn_hold (p : Value) (w : World) (H : NoT p w) (a : Value) : Calls Tryd.prog 28 #[p, a] w fun e w' => e = .returned (.int .i64 14) ∧ w' = w := by
  go_enter Tryd.func28, Tryd.ntmps28
  go_wp2_with (first | (go_at_call 41; refine (find_none' p _ w H.out).mono ?_; rintro e w1 ⟨rfl, hw1⟩; rw [hw1]; clear hw1 w1))
  go_ret
  exact ⟨by simp, rfl⟩
set_option maxHeartbeats 400000 in
theorem tn_release (p : Value) (w : World) (H : NoT p w) (a : Value) : Calls Tryd.prog 29 #[p, a] w fun e w' => e = .returned (.int .i64 14) ∧ w' = w := by
  go_enter Tryd.func29, Tryd.ntmps29
  go_wp2_with (first | (go_at_call 41; refine (find_none' p _ w H.out).mono ?_; rintro e w1 ⟨rfl, hw1⟩; rw [hw1]; clear hw1 w1))
  go_ret
  exact ⟨by simp, rfl⟩
set_option maxHeartbeats 400000 in
theorem tn_is (p : Value) (w : World) (H : NoT p w) (a : Value) : Calls Tryd.prog 30 #[p, a] w fun e w' => e = .returned (.bool false) ∧ w' = w := by
  go_enter Tryd.func30, Tryd.ntmps30
  go_wp2_with (first | (go_at_call 41; refine (find_none' p _ w H.out).mono ?_; rintro e w1 ⟨rfl, hw1⟩; rw [hw1]; clear hw1 w1))
  go_ret
  exact ⟨by simp, rfl⟩
set_option maxHeartbeats 400000 in
theorem tn_used (p : Value) (w : World) (H : NoT p w) : Calls Tryd.prog 14 #[p] w fun e w' => e = .returned (.slice none 0 0) ∧ w' = w := by
  go_enter Tryd.func14, Tryd.ntmps14
  go_wp2_with (first | (go_at_call 36; refine H.out.mono ?_; rintro e w1 ⟨rfl, hw1⟩; rw [hw1]; clear hw1 w1))
  go_ret
  exact ⟨by simp, rfl⟩
set_option maxHeartbeats 400000 in
theorem tn_blocks (p : Value) (w : World) (H : NoT p w) : Calls Tryd.prog 15 #[p] w fun e w' => e = .returned (.slice none 0 0) ∧ w' = w := by
  go_enter Tryd.func15, Tryd.ntmps15
  go_wp2_with (first | (go_at_call 36; refine H.out.mono ?_; rintro e w1 ⟨rfl, hw1⟩; rw [hw1]; clear hw1 w1))
  go_ret
  exact ⟨by simp, rfl⟩
set_option maxHeartbeats 400000 in
theorem tn_now (p : Value) (w : World) (H : NoT p w) : Calls Tryd.prog 13 #[p] w fun e w' => e = .returned (.int .i64 0) ∧ w' = w := by
  go_enter Tryd.func13, Tryd.ntmps13
  go_wp2_with (first | (go_at_call 36; refine H.out.mono ?_; rintro e w1 ⟨rfl, hw1⟩; rw [hw1]; clear hw1 w1))
  go_ret
  exact ⟨by simp, rfl⟩
set_option maxHeartbeats 400000 in
theorem tn_copy (p : Value) (w : World) (H : NoT p w) : Calls Tryd.prog 31 #[p] w fun e w' => e = .returned (.pointer none) ∧ w' = w := by
  go_enter Tryd.func31, Tryd.ntmps31
  go_wp2_with (first | (go_at_call 36; refine H.out.mono ?_; rintro e w1 ⟨rfl, hw1⟩; rw [hw1]; clear hw1 w1))
  go_ret
  exact ⟨by simp, rfl⟩
abbrev zeroS : Array Value := #[.int .i64 0, .int .i64 0, .int .i64 0, .int .i64 0, .int .i64 0, .int .i64 0, .int .i64 0, .int .i64 0, .int .i64 0, .int .i64 0]
theorem zvS (w : World) : (zeroValue 51).run Tryd.prog w = .ok (.agg zeroS) w := by kernel_rfl
set_option maxHeartbeats 400000 in
theorem tn_stat (p : Value) (w : World) (H : NoT p (w.alloc (.cells zeroS 51))) (a : Value) : Calls Tryd.prog 19 #[p, a] w fun e w' => e = .returned (.tuple #[.agg zeroS, .int .i64 14]) ∧ w' = w.alloc (.cells zeroS 51) := by
  have HF : Hid (Calls Tryd.prog 41 #[p, a] (w.alloc (.cells zeroS 51)) fun e w' => e = .returned (.tuple #[.pointer none, .int .i64 14]) ∧ w' = w.alloc (.cells zeroS 51)) := find_none' p a _ H
  clear H
  go_enter Tryd.func19, Tryd.ntmps19
  go_wp2_with (first | (go_at_call 41; refine HF.out.mono ?_; rintro e w1 ⟨rfl, hw1⟩; rw [hw1]; clear hw1 w1))

  refine bodyPost_ret (v := .tuple #[.agg zeroS, .int .i64 14]) ?_ rfl ⟨rfl, rfl⟩
  rw [results_cell_tmp (fn := Tryd.f19) (p := 4) (ty := 51) (u := 5) rfl]
  simp [go_sem, zeroS]
end Go.Proofs.YtgplmgliockbcaaDoor
/- The walk of Truncate. Condition: the table lies in memory as 'Tb' says. -/
namespace Go.Proofs.YtgplmgliockbcaaDoor
open Go.RowKit
section
variable {w w' : World} {t q b c n N : Nat} {clk : Int} {F : Nat → Nat → Int} {R : Nat → Nat → Nat} {u : Nat → Bool} {D : Nat → Nat}
set_option maxRecDepth 8000 in
set_option maxHeartbeats 4000000 in
theorem ttrunc (T : Tb w t q b c n N clk F R u D) (i size : Nat) (hi : i < N) (hz : F i 0 ≠ 0) (hs : size ≤ 17792) (y : (Nat → Bool) × (Nat → Nat) × (Nat → Nat)) (hy : cutS (((size + 63) / 64 : Nat) : Int) u D (R i) 8 = y) :
    Calls Tryd.prog 23 #[.pointer (some ⟨t, 0, none⟩), .int .i64 ((i : Int) + 1), .int .i64 size] w fun e w' => e = .returned (.int .i64 0) ∧
      Tb w' t q b c n N clk (upd2 (upd2 (upd2 F i 5 size) i 7 clk) i 8 clk) (setN R i y.2.2) y.1 (wipeD y.1 y.2.1 y.2.2 size) ∧ Mod (fun k => k = b ∨ k = c ∨ k = q) w w' := by
  have HT : Hid (Tb w t q b c n N clk F R u D) := T
  have HZ : Hid (F i 0 ≠ 0) := hz
  have HY : Hid (cutS (((size + 63) / 64 : Nat) : Int) u D (R i) 8 = y) := hy
  have h17 : decide ((17792 : Int) < size) = false := by simp; omega
  have hs2 : size < 20000 := by omega
  have HSz : Hid (size ≤ 17792) := hs
  have HK1 : Hid (((size : Int) + 64 - 1) / 64 = (((size + 63) / 64 : Nat) : Int)) := by show _ = _; omega
  have HK2 : Hid (((size : Int) + 63) / 64 = (((size + 63) / 64 : Nat) : Int)) := by show _ = _; omega
  have HK3 : Hid (((size : Int) + 64 - 1).tdiv 64 = (((size + 63) / 64 : Nat) : Int)) := by show _ = _; rw [Int.tdiv_eq_ediv_of_nonneg (by omega)]; omega
  clear T hz hy hs
  go_enter Tryd.func23, Tryd.ntmps23
  go_wp2_with (first | (go_at_call 41; refine (find_ok HT.out i hi HZ.out).mono ?_; rintro e w1 ⟨rfl, hw1⟩; rw [hw1]; clear hw1 w1) | (go_at_call 49; (first | rw [HK1.out] | rw [HK2.out] | rw [HK3.out]); refine (cut_any HT.out i _ hi (by omega) (by have := HSz.out; omega) y HY.out).mono ?_; rintro e w2 ⟨rfl, T2, M2⟩; have HT2 : Hid (Tb w2 t q b c n N clk F (setN R i y.2.2) y.1 y.2.1) := T2; have HM2 : Hid (Mod (fun k => k = b ∨ k = c ∨ k = q) w w2) := M2; clear T2 M2) | (go_at_call 50; refine (wipe_any HT2.out i size hi HSz.out).mono ?_; rw [setN_at']; rintro e w3 ⟨rfl, T3, M3⟩; have HT3 : Hid (Tb w3 t q b c n N clk F (setN R i y.2.2) y.1 (wipeD y.1 y.2.1 y.2.2 size)) := T3; have HM3 : Hid (Mod (fun k => k = b ∨ k = c ∨ k = q) w w3) := HM2.out.trans (M3.mono (fun _ _ h => .inr (.inl h))); have c5 := T3.cf i 5 hi (by omega); have f5 := T3.fq (i * 17 + 5); have HT4 : Hid (Tb (w3.setCell ⟨q, i * 17 + 5, none⟩ (.int .i64 (size : Int))) t q b c n N clk (upd2 F i 5 size) (setN R i y.2.2) y.1 (wipeD y.1 y.2.1 y.2.2 size)) := T3.setF i 5 (by omega) size (fun _ => ⟨by omega, by have := HSz.out; omega⟩); clear T3 M3) | (go_at_call 45; refine (touch_any HT4.out i hi).mono ?_; rintro e w5 ⟨rfl, T5, M5⟩; have HT5 := Hid.intro T5; have HM5 := Hid.intro M5; clear T5 M5))
  go_ret
  exact ⟨by simp, HT5.out, (HM3.out.trans ((Mod.refl _ w3).setCell _ _ (.inr (.inr rfl)))).trans (HM5.out.mono (fun _ _ h => .inr (.inr h)))⟩
theorem ttrunc_neg (T : Tb w t q b c n N clk F R u D) (i : Nat) (size : Int) (hi : i < N) (hz : F i 0 ≠ 0) (hs : size < 0) : Calls Tryd.prog 23 #[.pointer (some ⟨t, 0, none⟩), .int .i64 ((i : Int) + 1), .int .i64 size] w fun e w' => e = .returned (.int .i64 22) ∧ w' = w := by
  have HT : Hid (Tb w t q b c n N clk F R u D) := T
  have HZ : Hid (F i 0 ≠ 0) := hz
  clear T hz
  go_enter Tryd.func23, Tryd.ntmps23
  go_wp2_with (go_at_call 41; refine (find_ok HT.out i hi HZ.out).mono ?_; rintro e w1 ⟨rfl, hw1⟩; rw [hw1]; clear hw1 w1)
  go_ret
  exact ⟨by simp, rfl⟩
theorem ttrunc_big (T : Tb w t q b c n N clk F R u D) (i : Nat) (size : Int) (hi : i < N) (hz : F i 0 ≠ 0) (h0 : ¬ size < 0) (hs : 17792 < size) : Calls Tryd.prog 23 #[.pointer (some ⟨t, 0, none⟩), .int .i64 ((i : Int) + 1), .int .i64 size] w fun e w' => e = .returned (.int .i64 27) ∧ w' = w := by
  have HT : Hid (Tb w t q b c n N clk F R u D) := T
  have HZ : Hid (F i 0 ≠ 0) := hz
  have h17 : decide ((17792 : Int) < size) = true := by simp [hs]
  clear T hz hs
  go_enter Tryd.func23, Tryd.ntmps23
  go_wp2_with (go_at_call 41; refine (find_ok HT.out i hi HZ.out).mono ?_; rintro e w1 ⟨rfl, hw1⟩; rw [hw1]; clear hw1 w1)
  go_ret
  exact ⟨by simp, rfl⟩
/-- The calls that look an inode up, of a number that is not in use. -/
theorem ttrunc_not (T : Tb w t q b c n N clk F R u D) (i size : Int) (hi : i < 1 ∨ N < i ∨ F (i - 1).toNat 0 = 0) : Calls Tryd.prog 23 #[.pointer (some ⟨t, 0, none⟩), .int .i64 i, .int .i64 size] w fun e w' => e = .returned (.int .i64 2) ∧ w' = w := by
  have HF : Hid (Calls Tryd.prog 41 #[.pointer (some ⟨t, 0, none⟩), .int .i64 i] w fun e w' => e = .returned (.tuple #[.pointer none, .int .i64 2]) ∧ w' = w) := find_not T i hi
  clear T hi
  go_enter Tryd.func23, Tryd.ntmps23
  go_wp2_with (go_at_call 41; refine HF.out.mono ?_; rintro e w1 ⟨rfl, hw1⟩; rw [hw1]; clear hw1 w1)
  go_ret
  exact ⟨by simp, rfl⟩
end
end Go.Proofs.YtgplmgliockbcaaDoor
