/- InodeNew, its tied card: for whatever numbers the statement's function answers true. Condition (the row's own): math/bits.deBruijn64tab starts as the program's text lays it. -/
import Derived.Test.YtgplmgliockbcaaDoorNew1
import Derived.Test.YtgplmgliockbcaaDoorBase
namespace Go.Proofs.YtgplmgliockbcaaDoor
open Go.ChangeShapes Go.WideShapes Go.ChangeAt Go.RowKit
theorem mod_below {w w' : World} (h : Below w.heap.size w w') : Mod (fun _ => False) w w' := ⟨h.os, h.tape, h.output, h.size, fun k hk _ => h.block k hk⟩
theorem TabIs.mod {w w' : World} (h : TabIs w) (hM : Mod (fun _ => False) w w') : TabIs w' := h.keep (hM.block 0 h.lt (fun h => h))
theorem inL_zero : ∀ N, inL (fun _ _ => 0) N = []
  | 0 => rfl
  | N + 1 => by rw [inL, if_pos rfl]; exact inL_zero N
set_option maxRecDepth 8000 in
set_option maxHeartbeats 2000000 in
theorem rooms0 (w : World) (t q b c n N tb ob lb : Nat) (T : Tb w t q b c n N 0 (fun _ _ => 0) (fun _ _ => 0) (fun _ => false) (fun _ => 0)) (h : RT w tb ob lb n N) : Calls Tryd.prog 12 #[.pointer (some ⟨t, 0, none⟩), .pointer (some ⟨tb, 0, none⟩)] w fun e w' => e = .returned (.bool true) ∧ Mod (fun _ => False) w w' := by
  have HT : Hid (Tb w t q b c n N 0 (fun _ _ => 0) (fun _ _ => 0) (fun _ => false) (fun _ => 0)) := T
  have HR : Hid (RT w tb ob lb n N) := h
  have hroom := troom T
  rw [show Bt.cnt (fun _ => false) n = 0 from cnt_none _ _ (fun _ _ => rfl), inL_zero] at hroom
  have HRm : Hid (Calls Tryd.prog 21 #[.pointer (some ⟨t, 0, none⟩)] w fun e w' => e = .returned (.tuple #[.int .i64 n, .int .i64 n, .int .i64 N, .int .i64 N]) ∧ Below w.heap.size w w') := by
    show Calls _ _ _ _ _
    simpa using hroom
  have hn := T.S.n2
  have hN := T.N2
  clear T h hroom
  go_enter Tryd.func12, Tryd.ntmps12
  go_wp2_with (first | (go_at_call 21; refine HRm.out.mono ?_; rintro e w1 ⟨rfl, B1⟩; have HM1 := Hid.intr (mod_below B1); clear B1) | (go_at_call 35; refine (r2room0 _ tb ob lb n N (HR.out.keep HM1.out) hn hN).mono ?_; rintro e w2 ⟨rfl, m, rfl⟩))
  go_ret
  exact ⟨by simp, HM1.out.drewN m⟩
set_option maxRecDepth 100000 in
set_option maxHeartbeats 4000000 in
theorem new_good (n N : Nat) (w : World) (hT : TabIs w) (hn : 1 ≤ n) (hn2 : n ≤ 4096) (hN : 1 ≤ N) (hN2 : N ≤ 4096) : Calls Tryd.prog 4 #[.int .i64 n, .int .i64 N] w fun e w' => e = .returned (.bool true) ∧ Below w.heap.size w w' := by
  have HT : Hid (TabIs w) := hT
  have d1 : decide ((1048576 : Int) < n) = false := by simp; omega
  have d2 : decide ((1048576 : Int) < N) = false := by simp; omega
  clear hT
  go_enter Tryd.func4, Tryd.ntmps4
  go_wp2_with (first | (go_at_call 10; refine (tnew_ok n N w hn hn2 hN hN2 HT.out).mono ?_; rintro e w1 ⟨t, q, b, c, rfl, T1, M1, -, -, -, -⟩; have HT1 := Hid.intr T1; have HM1 := Hid.intr M1; clear T1 M1) | (go_at_call 11; refine (r2new_ok n N _ hn hn2 hN hN2).mono ?_; rintro e w2 ⟨tb, ob, lb, rfl, R2, M2⟩; have HR2 := Hid.intr R2; have HM2 := Hid.intr (HM1.out.trans M2); have HT2 := Hid.intr (HT1.out.new M2); clear R2 M2) | (go_at_call 8; refine (num_any _ _).mono ?_; rintro e w' ⟨rfl, hw'⟩; rw [hw']; clear hw' w') | (go_at_call 12; refine (rooms0 _ t q b c n N tb ob lb HT2.out HR2.out).mono ?_; rintro e w3 ⟨rfl, M3⟩; have HM3 := Hid.intr (HM2.out.trans M3); have HT3 := Hid.intr (HT2.out.new M3); clear M3) | (go_at_call 13; refine (tnow HT3.out).mono ?_; rintro e w' ⟨rfl, hw'⟩; rw [hw']; clear hw' w') | (go_at_call 14; refine (tused0 HT3.out (inL_zero N)).mono ?_; rintro e w4 ⟨rfl, B4⟩; have HM4 := Hid.intr (HM3.out.trans (mod_below B4)); have HT4 := Hid.intr (HT3.out.new (mod_below B4)); clear B4) | (go_at_call 15; refine (tblocks HT4.out).mono ?_; rw [show usedL (fun _ => false) n = [] by simp [usedL]]; rintro e w5 ⟨v, rfl, O5, M5⟩; obtain ⟨av, cv, rfl⟩ := owns_none O5; have HM5 := Hid.intr (HM4.out.trans M5); have HTb := Hid.intr (HT.out.mod (HM4.out.trans M5)); clear O5 M5) | (go_at_call 9; refine (awake_true _ HTb.out).mono ?_; rintro e w9 ⟨rfl, M9⟩; have HM9 := Hid.intr M9; clear M9))
  go_ret
  exact ⟨by simp, (HM5.out.trans HM9.out).below0⟩
set_option maxRecDepth 100000 in
set_option maxHeartbeats 4000000 in
theorem new_refused (x y : Int) (w : World) (hT : TabIs w) (hb : x < 1 ∨ 4096 < x ∨ y < 1 ∨ 4096 < y) (d1 : decide ((1048576 : Int) < x) = false) (d2 : decide ((1048576 : Int) < y) = false) : Calls Tryd.prog 4 #[.int .i64 x, .int .i64 y] w fun e w' => e = .returned (.bool true) ∧ Below w.heap.size w w' := by
  have HT : Hid (TabIs w) := hT
  have HB : Hid (x < 1 ∨ 4096 < x ∨ y < 1 ∨ 4096 < y) := hb
  clear hT hb
  go_enter Tryd.func4, Tryd.ntmps4
  go_wp2_with (first | (go_at_call 10; refine (tnew_bad x y w HB.out HT.out).mono ?_; rintro e w1 ⟨rfl, M1⟩; have HM1 := Hid.intr M1; have HT1 := Hid.intr (HT.out.mod M1); clear M1) | (go_at_call 11; refine (r2new_bad x y _ HB.out).mono ?_; rintro e w' ⟨rfl, hw'⟩; rw [hw']; clear hw' w') | (go_at_call 8; refine (num_any _ _).mono ?_; rintro e w' ⟨rfl, hw'⟩; rw [hw']; clear hw' w') | (go_at_call 9; refine (awake_true _ HT1.out).mono ?_; rintro e w9 ⟨rfl, M9⟩; have HM9 := Hid.intr M9; clear M9))
  go_ret
  exact ⟨by simp, (HM1.out.trans HM9.out).below0⟩
set_option maxRecDepth 100000 in
set_option maxHeartbeats 4000000 in
theorem new_great (x y : Int) (w : World) (hT : TabIs w) (h : 1048576 < x ∨ 1048576 < y) : Calls Tryd.prog 4 #[.int .i64 x, .int .i64 y] w fun e w' => e = .returned (.bool true) ∧ Below w.heap.size w w' := by
  have HT : Hid (TabIs w) := hT
  have HB : Hid (x < 1 ∨ 4096 < x ∨ y < 1 ∨ 4096 < y) := by rcases h with h | h; exact .inr (.inl (by omega)); exact .inr (.inr (.inr (by omega)))
  clear hT
  by_cases h1 : 1048576 < x
  · have d1 : decide ((1048576 : Int) < x) = true := by simp [h1]
    clear h h1
    go_enter Tryd.func4, Tryd.ntmps4
    go_wp2_with (first | (go_at_call 10; refine (tnew_bad x y w HB.out HT.out).mono ?_; rintro e w1 ⟨rfl, M1⟩; have HM1 := Hid.intr M1; have HT1 := Hid.intr (HT.out.mod M1); clear M1) | (go_at_call 8; refine (num_any _ _).mono ?_; rintro e w' ⟨rfl, hw'⟩; rw [hw']; clear hw' w') | (go_at_call 9; refine (awake_true _ HT1.out).mono ?_; rintro e w9 ⟨rfl, M9⟩; have HM9 := Hid.intr M9; clear M9))
    go_ret
    exact ⟨by simp, (HM1.out.trans HM9.out).below0⟩
  · have d1 : decide ((1048576 : Int) < x) = false := by simpa using h1
    have d2 : decide ((1048576 : Int) < y) = true := by rcases h with h | h; exact absurd h h1; simp [h]
    clear h h1
    go_enter Tryd.func4, Tryd.ntmps4
    go_wp2_with (first | (go_at_call 10; refine (tnew_bad x y w HB.out HT.out).mono ?_; rintro e w1 ⟨rfl, M1⟩; have HM1 := Hid.intr M1; have HT1 := Hid.intr (HT.out.mod M1); clear M1) | (go_at_call 8; refine (num_any _ _).mono ?_; rintro e w' ⟨rfl, hw'⟩; rw [hw']; clear hw' w') | (go_at_call 9; refine (awake_true _ HT1.out).mono ?_; rintro e w9 ⟨rfl, M9⟩; have HM9 := Hid.intr M9; clear M9))
    go_ret
    exact ⟨by simp, (HM1.out.trans HM9.out).below0⟩
theorem new_walk (x y : Int) (w : World) (hT : TabIs w) : Calls Tryd.prog 4 #[.int .i64 x, .int .i64 y] w fun e w' => e = .returned (.bool true) ∧ Below w.heap.size w w' := by
  by_cases hg : 1048576 < x ∨ 1048576 < y
  · exact new_great x y w hT hg
  · by_cases hb : x < 1 ∨ 4096 < x ∨ y < 1 ∨ 4096 < y
    · exact new_refused x y w hT hb (by simp; omega) (by simp; omega)
    · obtain ⟨n, rfl⟩ := Int.eq_ofNat_of_zero_le (show 0 ≤ x by omega)
      obtain ⟨N, rfl⟩ := Int.eq_ofNat_of_zero_le (show 0 ≤ y by omega)
      exact new_good n N w hT (by omega) (by omega) (by omega) (by omega)
set_option maxRecDepth 100000 in
theorem new_lifted (os : Os) (started : os.Started) (H : Type) (enc : TypeId × Value → H) :
    ReturnsInHanded {} Tryd.checked os 4 .any (fun w args => (Rows.inodeNewSpec.pre enc Tryd.prog Tryd.f4 [] false w args ∧ laidMetH Tryd.prog laidL w) ∧ sizedMet enc Tryd.prog Tryd.f4 (OpenSpec.ofChange Rows.inodeNewSpec) false w args)
      (Rows.inodeNewSpec.post enc Tryd.prog Tryd.f4 false true false false) := by
  refine returnsInHanded_of_change_and (C := Tryd.checked) (X := fun w _ => laidMetH Tryd.prog laidL w) (fun _ _ _ hh h => h.of_heap hh) own started (by kernel_rfl) Tryd.func4
    (ChangeSpec.witness_shaped (enc := enc) (C := Tryd.checked) (os := os) (X := fun w _ => laidMetH Tryd.prog laidL w) false (World.doorLaid Tryd.prog 400 os) #[.int .i64 0, .int .i64 0] 8 rfl (World.shaped_of_RefB (by kernel_rfl) (by kernel_rfl)) (by kernel_rfl) (by kernel_rfl) (by kernel_rfl) (door_met os _)) ?_
  intro W base args ds gs before hval0 hW _ _ hL _
  have hval : ∀ (j : Nat) t v, Tryd.f4.params[j]? = some t → args[j]? = some v → Value.okWide Tryd.prog W .any base t v := hval0
  have hW' := hW
  obtain ⟨p, q, hA0, hV, rfl, hfz, hnd⟩ := hW
  have hA : DataW.TrodAll enc Tryd.prog W 0 (fun _ => true) true Tryd.f4.params.toList args.toList ds p := hA0
  rw [Tryd.params4] at hA hval
  obtain ⟨v0, v1, d0, d1, p0, p1, rfl, rfl, rfl, h0, h1⟩ := trodAll_two hA
  obtain ⟨rfl, rfl⟩ := trodVars_none hV
  obtain ⟨x, rfl, rfl, rfl, wx⟩ := open_int Tryd.underlying3 (hval 0 3 v0 rfl rfl) h0
  obtain ⟨y, rfl, rfl, rfl, wy⟩ := open_int Tryd.underlying3 (hval 1 3 v1 rfl rfl) h1
  clear hA0 hval0
  refine (new_walk x y W (of_laid hL)).mono fun e W' ⟨he, bel⟩ => ?_
  subst he
  exact ⟨_, rfl, _, _, _, [], _, [], hW', trodAll_mk1 (shut_bool Tryd.underlying4 _), trodAll_mk2 (shut_int Tryd.underlying3 wx) (shut_int Tryd.underlying3 wy), rfl, bel.frame _, fun h => by cases h⟩
theorem inodeNew_holds : Rows.InodeNewSaid :=
  OpenClaim.holds_of_wide 4 Tryd.f4 rfl rfl rfl rfl rfl rfl rfl ⟨rfl, rfl, rfl, rfl, rfl⟩ rfl rfl rfl rfl rfl (by kernel_rfl) Tryd.func4 (by kernel_rfl)
    (of_decide_eq_true (by kernel_rfl)) (by unfold Func.isWrapper; first | (rw [if_pos (by decide +kernel)]; kernel_rfl) | (rw [if_neg (by decide +kernel)]; exact ⟨rfl, rfl⟩))
    (fun os started H enc _ => new_lifted os started H enc)
theorem inodeNew_card : Rows.InodeNewCardSaid :=
  Claim7.holds_tied_plain_at .later [] [.data] true (true, "0d5fcac2066be626f0b832c1085404223de3e3868952e7067b79d81e2fd8bb4b") false
    inodeNew_holds (fun _ h => by cases h) (by kernel_rfl) (fun _ h => by cases h) inodeNew_row_tie rfl ⟨rfl, rfl⟩ (by kernel_rfl) rfl
    (fun f fn hf hfn => by
      obtain rfl : f = 4 := Option.some.inj ((show Tryd.prog.funcNamed "tinsel/tinsellaw02.InodeNew" = some 4 by kernel_rfl).symm.trans hf) |>.symm
      obtain rfl : fn = Tryd.f4 := (Option.some.inj (Tryd.func4.symm.trans hfn)).symm
      exact ⟨by kernel_rfl, fun j t ht => by
        rw [Tryd.params4] at ht
        have hm : t ∈ [3, 3] := by simpa using Array.mem_of_getElem? ht
        have hall : ([3, 3].all fun u => !Tryd.prog.wantsStandIn u) = true := by kernel_rfl
        exact (show Tryd.prog.wantsStandIn t = false by simpa using List.all_eq_true.1 hall t hm)⟩)
    (by kernel_rfl)
#print axioms inodeNew_card
end Go.Proofs.YtgplmgliockbcaaDoor
