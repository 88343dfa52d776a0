/- The document's example, as the statements ask it: 'awake' answers true in whatever memory. Condition: the library's table is as its initialiser lays it. -/
import Derived.Test.YtgplmgliockbcaaDoorWr2
import Derived.Test.YtgplmgliockbcaaDoorRd2
import Derived.Test.YtgplmgliockbcaaDoorSame
import Derived.Lib.SlBytesConst
namespace Go.Proofs.YtgplmgliockbcaaDoor
open Go.RowKit
theorem num_any (e : Int) (w : World) : Calls Tryd.prog 8 #[.int .i64 e] w fun x w' => x = .returned (.int .i64 e) ∧ w' = w := by
  go_enter Tryd.func8, Tryd.ntmps8
  go_wp2
  go_ret
  exact ⟨by simp, rfl⟩
theorem awake_run : wrun 4 100 [97, 98] 2 ⟨0, fun _ => false, fun _ => 0, fun _ => 0⟩ = ⟨2, upd (fun _ => false) 0 true, wrt (upd (fun _ => false) 0 true) (fun _ => 0) 1 36 [97, 98], upd (fun _ => 0) 1 1⟩ := rfl
theorem awake_rd : ∀ j, j < 4 → rd (upd (fun _ => false) 0 true) (wrt (upd (fun _ => false) 0 true) (fun _ => 0) 1 36 [97, 98]) (upd (fun _ => 0) 1 1) (98 + j) = [0, 0, 97, 98].getD j 0 := by decide
theorem fit_reg : fitB 33188 = true := by decide +kernel
theorem awake_str : strOf [0, 0, 97, 98] = ⟨#[0, 0, 97, 98]⟩ := rfl
theorem Mod.new_of {s : Nat → Prop} {w0 w w' : World} (h0 : Mod (fun _ => False) w0 w) (h : Mod s w w') (hs : ∀ k, s k → w0.heap.size ≤ k) : Mod (fun _ => False) w0 w' :=
  ⟨h.os.trans h0.os, h.tape.trans h0.tape, h.output.trans h0.output, Nat.le_trans h0.size h.size, fun k hk _ => (h.block k (Nat.lt_of_lt_of_le hk h0.size) (fun e => by have := hs k e; omega)).trans (h0.block k hk (fun h => h))⟩
set_option maxRecDepth 8000 in
set_option maxHeartbeats 2000000 in
theorem awake_true (w : World) (hT : TabIs w) : Calls Tryd.prog 9 #[] w fun e w' => e = .returned (.bool true) ∧ Mod (fun _ => False) w w' := by
  have HT : Hid (TabIs w) := hT
  clear hT
  go_enter Tryd.func9, Tryd.ntmps9
  go_wp2_with fail
  refine (tnew_ok 4 2 w (by omega) (by omega) (by omega) (by omega) HT.out).mono ?_
  rintro e w1 ⟨t, q, b, c, rfl, T1, M1, ht, hq, hb, hc⟩
  have HT1 : Hid (Tb w1 t q b c 4 2 0 (fun _ _ => 0) (fun _ _ => 0) (fun _ => false) (fun _ => 0)) := T1
  have HM1 : Hid (Mod (fun _ => False) w w1) := M1
  have HQ : Hid (w.heap.size ≤ t ∧ w.heap.size ≤ q ∧ w.heap.size ≤ b ∧ w.heap.size ≤ c) := ⟨ht, hq, hb, hc⟩
  clear T1 M1 ht hq hb hc
  go_wp2_with (go_at_call 8; refine (num_any _ _).mono ?_; rintro e w' ⟨rfl, hw'⟩; rw [hw']; clear hw' w')
  refine (talloc_ok HT1.out 33188 0 0 0 fit_reg (by omega) (by omega) (by omega) rfl (fun j hj => by omega)).mono ?_
  rintro e w2 ⟨rfl, T2, M2⟩
  have HT2 : Hid (Tb w2 t q b c 4 2 0 (setN (fun _ _ => 0) 0 (freshF 33188 0 0 0)) (setN (fun _ _ => 0) 0 (fun _ => 0)) (fun _ => false) (fun _ => 0)) := T2
  have HM2 : Hid (Mod (fun _ => False) w w2) := Mod.new_of HM1.out M2 (fun k h => by rw [h]; exact HQ.out.2.1)
  clear T2 M2
  have hcv := Lib.run_convert_bytes_const (P := Tryd.prog) w2 37 5 #[.int .u8 97, .int .u8 98] 2 2 und33 (by kernel_rfl)
  go_wp2_with fail
  have HM3 : Hid (Mod (fun _ => False) w (w2.alloc (.cells #[.int .u8 97, .int .u8 98] 5 (2, 3)))) := HM2.out.alloc _
  have HT3 : Hid (Tb (w2.alloc (.cells #[.int .u8 97, .int .u8 98] 5 (2, 3))) t q b c 4 2 0 (setN (fun _ _ => 0) 0 (freshF 33188 0 0 0)) (setN (fun _ _ => 0) 0 (fun _ => 0)) (fun _ => false) (fun _ => 0)) := HT2.out.new ((Mod.refl _ w2).alloc _)
  have HSr : Hid (Src (w2.alloc (.cells #[.int .u8 97, .int .u8 98] 5 (2, 3))) w2.heap.size 0 [97, 98]) := by
    refine ⟨fun j x hj => ?_, by decide⟩
    have e : ∀ k, (w2.alloc (.cells #[.int .u8 97, .int .u8 98] 5 (2, 3))).cell? ⟨w2.heap.size, k, none⟩ = #[Value.int .u8 97, .int .u8 98][k]? := fun k => by
      have hh : (w2.alloc (.cells #[.int .u8 97, .int .u8 98] 5 (2, 3))).heap[w2.heap.size]? = some (.cells #[.int .u8 97, .int .u8 98] 5 (2, 3)) := by
        show (w2.heap.push _)[w2.heap.size]? = _
        simp
      unfold World.cell?
      rw [hh]
      rfl
    rw [e]
    match j, hj with
    | 0, hj => simp at hj; subst hj; rfl
    | 1, hj => simp at hj; subst hj; rfl
  refine (twrite HT3.out 0 100 w2.heap.size 0 2 [97, 98] (by omega) (by decide) (by decide) (by omega) (by decide) (by omega) HSr.out (by have := HT2.out.S.lt_b; omega) (by have := HT2.out.S.lt_c; omega) (by have := HT2.out.lt_q; omega) 2 rfl).mono ?_
  show ∀ e w', WPost _ _ _ _ _ _ _ _ _ _ _ (wrun 4 100 [97, 98] 2 ⟨0, fun _ => false, fun _ => 0, fun _ => 0⟩) _ e w' → _
  rw [awake_run]
  rintro e w4 ⟨rfl, T4, M4⟩
  obtain ⟨F4, hF4⟩ : ∃ F4 : Nat → Nat → Int, F4 = upd2 (upd2 (upd2 (setN (fun _ _ => 0) 0 (freshF 33188 0 0 0)) 0 5 102) 0 7 0) 0 8 0 := ⟨_, rfl⟩
  have HT4 : Hid (Tb w4 t q b c 4 2 0 F4 (setN (setN (fun _ _ => 0) 0 (fun _ => 0)) 0 (upd (fun _ => 0) 1 1)) (upd (fun _ => false) 0 true) (wrt (upd (fun _ => false) 0 true) (fun _ => 0) 1 36 [97, 98])) := by rw [hF4]; exact T4
  have HM4 : Hid (Mod (fun _ => False) w w4) := Mod.new_of HM3.out M4 (fun k h => by rcases h with h | h | h <;> rw [h]; exact HQ.out.2.2.1; exact HQ.out.2.2.2; exact HQ.out.2.1)
  have hf0 : F4 0 0 ≠ 0 := by rw [hF4]; decide
  have hf5 : F4 0 5 = ((102 : Nat) : Int) := by rw [hF4]; decide
  have HF : Hid (F4 0 0 ≠ 0 ∧ F4 0 5 = ((102 : Nat) : Int)) := ⟨hf0, hf5⟩
  clear T4 M4 hF4 hf0 hf5
  go_wp2_with fail
  refine (tread HT4.out 0 98 10 102 (by omega) HF.out.1 HF.out.2 (by omega) (by omega) 4 rfl).mono ?_
  rintro e w5 ⟨rfl, H5⟩
  have HB : Hid (BytesAt w5 (.slice (some ⟨w4.heap.size, 0, none⟩) 4 4) [0, 0, 97, 98]) := by
    refine ⟨by decide, some ⟨w4.heap.size, 0, none⟩, 4, rfl, fun h => by simp at h, fun ad h j x hj => ?_⟩
    obtain rfl := Option.some.inj h
    have hj4 : j < 4 := (List.getElem?_eq_some_iff.mp hj).1
    rw [Addr.add_mid, Nat.zero_add, H5.at_ j hj4, if_pos hj4, setN_at', awake_rd j hj4]
    rw [List.getD_eq_getElem?_getD, hj]; rfl
  have hcs := conv_bytes HB.out
  rw [awake_str] at hcs
  have HM5 : Hid (Mod (fun _ => False) w w5) := HM4.out.trans H5.mod
  clear H5
  go_wp2_with (go_at_call 8; refine (num_any _ _).mono ?_; rintro e w' ⟨rfl, hw'⟩; rw [hw']; clear hw' w')
  go_ret
  exact ⟨by simp, HM5.out⟩
end Go.Proofs.YtgplmgliockbcaaDoor
