/- BlocksNone, its tied card: for whatever numbers and bytes the statement's function answers true and leaves the bytes as they were. Condition (the row's own): math/bits.deBruijn64tab starts as the program's text lays it. -/
import Derived.Test.YtipdpifpblaldaaDoorBase
import Derived.Test.YtipdpifpblaldaaDoorNone1
import Derived.ShutString
namespace Go.Proofs.YtipdpifpblaldaaDoor
open Go.ChangeShapes Go.WideShapes Go.ChangeAt Go.RowKit
set_option maxRecDepth 100000 in
set_option maxHeartbeats 2000000 in
theorem none_walk (i t : Int) (a : Option Addr) (len cap : Nat) (w : World) (hT : TabIs w) : Calls Tryd.prog 5 #[.int .i64 i, .int .i64 t, .slice a len cap] w fun e w' => e = .returned (.bool true) ∧ Below w.heap.size w w' := by
  have hz := zv50
  have hT2 : TabIs (w.alloc (.cells zero50 50)) := hT.keep (Below.heap_alloc _ _ _ hT.lt)
  have HT : Hid (TabIs (w.alloc (.cells zero50 50))) := hT2
  have hc : (w.alloc (.cells zero50 50)).cell? ⟨w.heap.size, 64, none⟩ = some (.slice none 0 0) := by
    rw [World.cell?_alloc_at _ _ _ _ rfl]; rfl
  have H0 := notMade_nil (w.alloc (.cells zero50 50))
  have H1 := notMade_zero w.heap.size none 0 (w.alloc (.cells zero50 50)) hc
  have i0 : ∀ W, (Instr.index 51 (.agg #[.pointer none, .pointer (some ⟨w.heap.size, 0, none⟩)]) (.int .i64 0)).run Tryd.prog W = .ok (.pointer none) W := fun _ => by kernel_rfl
  have i1 : ∀ W, (Instr.index 51 (.agg #[.pointer none, .pointer (some ⟨w.heap.size, 0, none⟩)]) (.int .i64 1)).run Tryd.prog W = .ok (.pointer (some ⟨w.heap.size, 0, none⟩)) W := fun _ => by kernel_rfl
  clear hT hT2 hc
  go_enter Tryd.func5, Tryd.ntmps5
  go_wp2_with fail
  go_loop [17] (fun x => ∃ k : Nat, k ≤ 2 ∧ x = .int .i64 k) (fun x => 2 - (intOf x).toNat)
  case atStart => exact ⟨0, by omega, rfl⟩
  case round =>
    obtain ⟨k, hk, rfl⟩ := hrel
    obtain rfl | rfl | rfl : k = 0 ∨ k = 1 ∨ k = 2 := by omega
    · go_wp2_with (first | (go_at_call 20; refine (none_alloc _ _ H0).mono ?_; rintro e w' ⟨rfl, rfl⟩) | (go_at_call 21; refine (none_read _ _ H0 _).mono ?_; rintro e w' ⟨rfl, rfl⟩) | (go_at_call 22; refine (none_free _ _ H0 _).mono ?_; rintro e w' ⟨rfl, rfl⟩) | (go_at_call 23; refine (none_write _ _ H0 _ _ _).mono ?_; rintro e w' ⟨rfl, rfl⟩) | (go_at_call 14; refine (none_total _ _ H0).mono ?_; rintro e w' ⟨rfl, rfl⟩) | (go_at_call 15; refine (none_left _ _ H0).mono ?_; rintro e w' ⟨rfl, rfl⟩) | (go_at_call 24; refine (none_is _ _ H0 _).mono ?_; rintro e w' ⟨rfl, rfl⟩) | (go_at_call 18; refine (none_used _ _ H0).mono ?_; rintro e w' ⟨rfl, rfl⟩) | (go_at_call 11; refine (none_copy _ _ H0).mono ?_; rintro e w' ⟨rfl, rfl⟩))
      exact ⟨⟨1, by omega, rfl⟩, by decide⟩
    · go_wp2_with (first | (go_at_call 20; refine (none_alloc _ _ H1).mono ?_; rintro e w' ⟨rfl, rfl⟩) | (go_at_call 21; refine (none_read _ _ H1 _).mono ?_; rintro e w' ⟨rfl, rfl⟩) | (go_at_call 22; refine (none_free _ _ H1 _).mono ?_; rintro e w' ⟨rfl, rfl⟩) | (go_at_call 23; refine (none_write _ _ H1 _ _ _).mono ?_; rintro e w' ⟨rfl, rfl⟩) | (go_at_call 14; refine (none_total _ _ H1).mono ?_; rintro e w' ⟨rfl, rfl⟩) | (go_at_call 15; refine (none_left _ _ H1).mono ?_; rintro e w' ⟨rfl, rfl⟩) | (go_at_call 24; refine (none_is _ _ H1 _).mono ?_; rintro e w' ⟨rfl, rfl⟩) | (go_at_call 18; refine (none_used _ _ H1).mono ?_; rintro e w' ⟨rfl, rfl⟩) | (go_at_call 11; refine (none_copy _ _ H1).mono ?_; rintro e w' ⟨rfl, rfl⟩))
      exact ⟨⟨2, by omega, rfl⟩, by decide⟩
    · go_wp2_with (go_at_call 7; refine (lives_true _ HT.out).mono ?_; rintro e w' ⟨rfl, hm⟩)
      go_ret
      exact ⟨rfl, ((Below.refl _ _).alloc (Nat.le_refl _) _).trans (hm.below0.mono (by simp))⟩

set_option maxRecDepth 100000 in
theorem none_lifted (os : Os) (started : os.Started) (H : Type) (enc : TypeId × Value → H) :
    ReturnsInHanded {} Tryd.checked os 5 .any (fun w args => (Rows.blocksNoneSpec.pre enc Tryd.prog Tryd.f5 [] false w args ∧ laidMetH Tryd.prog laidL w) ∧ sizedMet enc Tryd.prog Tryd.f5 (OpenSpec.ofChange Rows.blocksNoneSpec) false w args)
      (Rows.blocksNoneSpec.post enc Tryd.prog Tryd.f5 false true false false) := by
  refine returnsInHanded_of_change_and (C := Tryd.checked) (X := fun w _ => laidMetH Tryd.prog laidL w) (fun _ _ _ hh h => h.of_heap hh) own started (by kernel_rfl) Tryd.func5
    (ChangeSpec.witness_shaped (enc := enc) (C := Tryd.checked) (os := os) (X := fun w _ => laidMetH Tryd.prog laidL w) false (World.doorLaid Tryd.prog 400 os) #[.int .i64 0, .int .i64 0, .slice none 0 0] 8 rfl (World.shaped_of_RefB (by kernel_rfl) (by kernel_rfl)) (by kernel_rfl) (by kernel_rfl) (by kernel_rfl) (door_met os _)) ?_
  intro W base args ds gs before hval0 hW _ _ hL _
  have hval : ∀ (j : Nat) t v, Tryd.f5.params[j]? = some t → args[j]? = some v → Value.okWide Tryd.prog W .any base t v := hval0
  have hW' := hW
  obtain ⟨p, q, hA0, hV, rfl, hfz, hnd⟩ := hW
  have hA : DataW.TrodAll enc Tryd.prog W 0 (fun _ => true) true Tryd.f5.params.toList args.toList ds p := hA0
  rw [Tryd.params5] at hA hval
  obtain ⟨v0, v1, v2, d0, d1, d2, p0, p1, p2, rfl, rfl, rfl, h0, h1, h2⟩ := trodAll_three hA
  obtain ⟨rfl, rfl⟩ := trodVars_none hV
  obtain ⟨x, rfl, rfl, rfl, wx⟩ := open_int Tryd.underlying3 (hval 0 3 v0 rfl rfl) h0
  obtain ⟨y, rfl, rfl, rfl, wy⟩ := open_int Tryd.underlying3 (hval 1 3 v1 rfl rfl) h1
  obtain ⟨a, len, cap, rfl⟩ := okWide_slice Tryd.underlying33 (hval 2 33 v2 rfl rfl)
  have lt2 : ∀ z ∈ p2, z.block < W.heap.size := by obtain ⟨m, hm⟩ := h2; exact DataW.trod_lt m _ _ _ hm
  clear hA0 hval0
  refine (none_walk x y a len cap W (of_laid hL)).mono fun e W' ⟨he, bel⟩ => ?_
  subst he
  exact ⟨_, rfl, _, _, _, [], _, [], hW', trodAll_mk1 (shut_bool Tryd.underlying4 _), trodAll_mk3 (shut_int Tryd.underlying3 wx) (shut_int Tryd.underlying3 wy) (Below.trod laidOut (by kernel_rfl) (of_decide_eq_true (by kernel_rfl)) h2 bel lt2), rfl, bel.frame _, fun h => by cases h⟩

theorem blocksNone_holds : Rows.BlocksNoneSaid :=
  OpenClaim.holds_of_wide 5 Tryd.f5 rfl rfl rfl rfl rfl rfl rfl ⟨rfl, rfl, rfl, rfl, rfl⟩ rfl rfl rfl rfl rfl (by kernel_rfl) Tryd.func5 (by kernel_rfl)
    (of_decide_eq_true (by kernel_rfl)) (by unfold Func.isWrapper; first | (rw [if_pos (by decide +kernel)]; kernel_rfl) | (rw [if_neg (by decide +kernel)]; exact ⟨rfl, rfl⟩))
    (fun os started H enc _ => none_lifted os started H enc)
theorem blocksNone_card : Rows.BlocksNoneCardSaid :=
  Claim7.holds_tied_plain_at .later [] [.data] true (true, "5ab94073b6ccf0d617fafd9ab907ba2386b5376ab0eb2c1c6615e9080418f417") false
    blocksNone_holds (fun _ h => by cases h) (by kernel_rfl) (fun _ h => by cases h) blocksNone_row_tie rfl ⟨rfl, rfl⟩ (by kernel_rfl) rfl
    (fun f fn hf hfn => by
      obtain rfl : f = 5 := Option.some.inj ((show Tryd.prog.funcNamed "tinsel/tinsellaw01.BlocksNone" = some 5 by kernel_rfl).symm.trans hf) |>.symm
      obtain rfl : fn = Tryd.f5 := (Option.some.inj (Tryd.func5.symm.trans hfn)).symm
      exact ⟨by kernel_rfl, fun j t ht => by
        rw [Tryd.params5] at ht
        have hm : t ∈ [3, 3, 33] := by simpa using Array.mem_of_getElem? ht
        have hall : ([3, 3, 33].all fun u => !Tryd.prog.wantsStandIn u) = true := by kernel_rfl
        exact (show Tryd.prog.wantsStandIn t = false by simpa using List.all_eq_true.1 hall t hm)⟩)
    (by kernel_rfl)
#print axioms blocksNone_card
end Go.Proofs.YtipdpifpblaldaaDoor
