/- DirNone, its tied card: for whatever call the statement's function answers true and leaves what it was given as it was. Condition (the row's own): math/bits.deBruijn64tab starts as the program's text lays it. -/
import Derived.Test.YtfmemkninmpfjaaGreatDoorM22
import Derived.ShutString
namespace Go.Proofs.YtfmemkninmpfjaaGreatDoor
open Go.ChangeShapes Go.WideShapes Go.ChangeAt Go.RowKit
theorem arr6 (cs : Array Value) (h : cs.size = 6) : ∃ c0 c1 c2 c3 c4 c5, cs = #[c0, c1, c2, c3, c4, c5] := by
  rcases cs with ⟨l⟩
  match l, h with
  | [c0, c1, c2, c3, c4, c5], _ => exact ⟨c0, c1, c2, c3, c4, c5, rfl⟩
section
variable {H : Type} {enc : TypeId × Value → H} {W : World} {base : Nat} {spare : Nat → Bool} {held : Bool}
theorem int_of {n : Nat} {t : TypeId} {c : Value} {y : DataW H × List MemPlace} (ht : Tryz.prog.underlying t = some (.int .i64)) (h : DataW.trod enc Tryz.prog W base spare held n t [c] = some y) : ∃ z, c = .int .i64 z := by
  obtain ⟨z, hz, _⟩ := DataW.trod_int ht h
  exact ⟨z, by simpa using hz⟩
theorem k3 : Tryz.prog.cellsOf 3 = 1 := by kernel_rfl
theorem op_open {n : Nat} {c0 c1 c2 c3 c4 c5 : Value} {y : DataW H × List MemPlace} (h : DataW.trod enc Tryz.prog W base spare held n 30 [c0, c1, c2, c3, c4, c5] = some y) :
    ∃ z1 z3 : Int, c1 = .int .i64 z1 ∧ c3 = .int .i64 z3 := by
  obtain ⟨xs, k, _, _, _, hlen, hf⟩ := DataW.trod_struct Tryz.underlying30 h
  have hl : xs.length = 6 := hlen
  obtain ⟨z1, e1⟩ := int_of (enc := enc) (W := W) (base := base) (spare := spare) (held := held) (n := k) (y := xs[1]) (c := c1) Tryz.underlying3 (by
    have g := hf 1 ⟨_, 3, 1, _, _, _, _⟩ rfl
    dsimp only at g
    rw [k3, List.getElem?_eq_getElem (by omega)] at g
    exact g)
  obtain ⟨z3, e3⟩ := int_of (enc := enc) (W := W) (base := base) (spare := spare) (held := held) (n := k) (y := xs[3]) (c := c3) Tryz.underlying3 (by
    have g := hf 3 ⟨_, 3, 3, _, _, _, _⟩ rfl
    dsimp only at g
    rw [k3, List.getElem?_eq_getElem (by omega)] at g
    exact g)
  exact ⟨z1, z3, e1, e3⟩
end
set_option maxRecDepth 100000 in
set_option maxHeartbeats 4000000 in
theorem none_lifted (os : Os) (started : os.Started) (H : Type) (enc : TypeId × Value → H) :
    ReturnsInHanded {} Tryz.checked os 6 .any (fun w args => (Rows.dirNoneSpec.pre enc Tryz.prog Tryz.f6 [] false w args ∧ laidMetH Tryz.prog laidL w) ∧ sizedMet enc Tryz.prog Tryz.f6 (OpenSpec.ofChange Rows.dirNoneSpec) false w args)
      (Rows.dirNoneSpec.post enc Tryz.prog Tryz.f6 false true false false) := by
  refine returnsInHanded_of_change_and (C := Tryz.checked) (X := fun w _ => laidMetH Tryz.prog laidL w) (fun _ _ _ hh h => h.of_heap hh) own started (by kernel_rfl) Tryz.func6
    (ChangeSpec.witness_shaped (enc := enc) (C := Tryz.checked) (os := os) (X := fun w _ => laidMetH Tryz.prog laidL w) false (World.doorLaid Tryz.prog 400 os) #[.agg #[.int .u8 0, .int .i64 0, .string ⟨#[]⟩, .int .i64 0, .int .i64 0, .slice none 0 0]] 8 rfl (World.shaped_of_RefB (by kernel_rfl) (by kernel_rfl)) (by kernel_rfl) (by kernel_rfl) (by kernel_rfl) (door_met os _)) ?_
  intro W base args ds gs before hval0 hW _ _ hL _
  have hval : ∀ (j : Nat) t v, Tryz.f6.params[j]? = some t → args[j]? = some v → Value.okWide Tryz.prog W .any base t v := hval0
  have hW' := hW
  obtain ⟨p, q, hA0, hV, rfl, hfz, hnd⟩ := hW
  have hA : DataW.TrodAll enc Tryz.prog W 0 (fun _ => true) true Tryz.f6.params.toList args.toList ds p := hA0
  rw [Tryz.params6] at hA hval
  obtain ⟨v0, d0, rfl, rfl, h0⟩ := trodAll_one hA
  obtain ⟨rfl, rfl⟩ := trodVars_none hV
  obtain ⟨cs, rfl, hsz⟩ := okWide_struct Tryz.underlying30 (hval 0 30 v0 rfl rfl)
  rw [show Tryz.prog.cellsOf 30 = 6 by kernel_rfl] at hsz
  have lt0 : ∀ z ∈ p, z.block < W.heap.size := by obtain ⟨m, hm⟩ := h0; exact DataW.trod_lt m _ _ _ hm
  clear hA0 hval0 hval
  obtain ⟨c0, c1, c2, c3, c4, c5, rfl⟩ := arr6 cs hsz
  obtain ⟨x1, x3, rfl, rfl⟩ : ∃ x1 x3 : Int, c1 = .int .i64 x1 ∧ c3 = .int .i64 x3 := by obtain ⟨m, hm⟩ := h0; exact op_open hm
  refine (none4_walk c0 x1 c2 x3 c4 c5 W (of_laid hL)).mono fun e W' ⟨he, bel⟩ => ?_
  subst he
  exact ⟨_, rfl, _, _, _, [], _, [], hW', trodAll_mk1 (shut_bool Tryz.underlying4 _), trodAll_mk1 (Below.trod laidOut (by kernel_rfl) (of_decide_eq_true (by kernel_rfl)) h0 bel lt0), rfl, bel.frame _, fun h => by cases h⟩

theorem dirNone_holds : Rows.DirNoneSaid :=
  OpenClaim.holds_of_wide 6 Tryz.f6 rfl rfl rfl rfl rfl rfl rfl ⟨rfl, rfl, rfl, rfl, rfl⟩ rfl rfl rfl rfl rfl (by kernel_rfl) Tryz.func6 (by kernel_rfl)
    (of_decide_eq_true (by kernel_rfl)) (by unfold Func.isWrapper; first | (rw [if_pos (by decide +kernel)]; kernel_rfl) | (rw [if_neg (by decide +kernel)]; exact ⟨rfl, rfl⟩))
    (fun os started H enc _ => none_lifted os started H enc)
theorem dirNone_card : Rows.DirNoneCardSaid :=
  Claim7.holds_tied_plain_at .later [] [.data] true (true, "5c2dabfd15099ff51ad8955a5a198bc6b8ba7726976e1c73f673fce868c7db3c") false
    dirNone_holds (fun _ h => by cases h) (by kernel_rfl) (fun _ h => by cases h) dirNone_row_tie rfl ⟨rfl, rfl⟩ (by kernel_rfl) rfl
    (fun f fn hf hfn => by
      obtain rfl : f = 6 := Option.some.inj ((show Tryz.prog.funcNamed "tinsel/tinsellaw04.DirNone" = some 6 by kernel_rfl).symm.trans hf) |>.symm
      obtain rfl : fn = Tryz.f6 := (Option.some.inj (Tryz.func6.symm.trans hfn)).symm
      exact ⟨by kernel_rfl, fun j t ht => by
        rw [Tryz.params6] at ht
        have hm : t ∈ [30] := by simpa using Array.mem_of_getElem? ht
        have hall : ([30].all fun u => !Tryz.prog.wantsStandIn u) = true := by kernel_rfl
        exact (show Tryz.prog.wantsStandIn t = false by simpa using List.all_eq_true.1 hall t hm)⟩)
    (by kernel_rfl)
#print axioms dirNone_card
end Go.Proofs.YtfmemkninmpfjaaGreatDoor
