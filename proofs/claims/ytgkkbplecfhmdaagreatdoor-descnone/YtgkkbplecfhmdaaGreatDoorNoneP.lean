/- DescNone, its tied card: for whatever call the statement's function answers true and leaves what it was given as it was. Condition (the row's own): math/bits.deBruijn64tab starts as the program's text lays it. -/
import Derived.Test.YtgkkbplecfhmdaaGreatDoorM31
import Derived.Deep.Slices
import Derived.ShutString
namespace Go.Proofs.YtgkkbplecfhmdaaGreatDoor
open Go.ChangeShapes Go.WideShapes Go.ChangeAt Go.RowKit
theorem arr8 (cs : Array Value) (h : cs.size = 8) : ∃ c0 c1 c2 c3 c4 c5 c6 c7, cs = #[c0, c1, c2, c3, c4, c5, c6, c7] := by
  rcases cs with ⟨l⟩
  match l, h with
  | [c0, c1, c2, c3, c4, c5, c6, c7], _ => exact ⟨c0, c1, c2, c3, c4, c5, c6, c7, rfl⟩
section
variable {H : Type} {enc : TypeId × Value → H} {W : World} {base : Nat} {spare : Nat → Bool} {held : Bool}
theorem int_of {n : Nat} {t : TypeId} {c : Value} {y : DataW H × List MemPlace} (ht : Tryz.prog.underlying t = some (.int .i64)) (h : DataW.trod enc Tryz.prog W base spare held n t [c] = some y) : ∃ z, c = .int .i64 z := by
  obtain ⟨z, hz, _⟩ := DataW.trod_int ht h
  exact ⟨z, by simpa using hz⟩
theorem str_of {n : Nat} {t : TypeId} {c : Value} {y : DataW H × List MemPlace} (ht : Tryz.prog.underlying t = some .string) (h : DataW.trod enc Tryz.prog W base spare held n t [c] = some y) : ∃ z, c = .string z := by
  obtain ⟨z, hz, _⟩ := DataW.trod_string ht h
  exact ⟨z, by simpa using hz⟩
theorem sl_of {n : Nat} {t e : TypeId} {c : Value} {y : DataW H × List MemPlace} (ht : Tryz.prog.underlying t = some (.slice e)) (h : DataW.trod enc Tryz.prog W base spare held n t [c] = some y) : ∃ z : Option Addr × Nat × Nat, c = .slice z.1 z.2.1 z.2.2 := by
  rcases Go.Deep.open_slice ht h with ⟨hcs, _⟩ | ⟨x, len', cap', m, n, D, Pl, hcs, _⟩
  · exact ⟨(none, 0, 0), by simpa using hcs⟩
  · exact ⟨(some x, len', cap'), by simpa using hcs⟩
theorem k_1 : Tryz.prog.cellsOf 9 = 1 := by kernel_rfl
theorem k_3 : Tryz.prog.cellsOf 3 = 1 := by kernel_rfl
theorem k_6 : Tryz.prog.cellsOf 22 = 1 := by kernel_rfl
theorem act_open {n : Nat} {c0 c1 c2 c3 c4 c5 c6 c7 : Value} {y : DataW H × List MemPlace} (h : DataW.trod enc Tryz.prog W base spare held n 24 [c0, c1, c2, c3, c4, c5, c6, c7] = some y) :
    ∃ (z1 z2 : ByteArray) (z3 z4 : Int) (z6 : Option Addr × Nat × Nat), c1 = .string z1 ∧ c2 = .string z2 ∧ c3 = .int .i64 z3 ∧ c4 = .int .i64 z4 ∧ c6 = .slice z6.1 z6.2.1 z6.2.2 := by
  obtain ⟨xs, k, _, _, _, hlen, hf⟩ := DataW.trod_struct Tryz.underlying24 h
  have hl : xs.length = 8 := hlen
  obtain ⟨z1, e1⟩ := str_of (enc := enc) (W := W) (base := base) (spare := spare) (held := held) (n := k) (y := xs[1]) (c := c1) Tryz.underlying9 (by
    have g := hf 1 ⟨_, 9, 1, _, _, _, _⟩ rfl
    dsimp only at g
    rw [k_1, List.getElem?_eq_getElem (by omega)] at g
    exact g)
  obtain ⟨z2, e2⟩ := str_of (enc := enc) (W := W) (base := base) (spare := spare) (held := held) (n := k) (y := xs[2]) (c := c2) Tryz.underlying9 (by
    have g := hf 2 ⟨_, 9, 2, _, _, _, _⟩ rfl
    dsimp only at g
    rw [k_1, List.getElem?_eq_getElem (by omega)] at g
    exact g)
  obtain ⟨z3, e3⟩ := int_of (enc := enc) (W := W) (base := base) (spare := spare) (held := held) (n := k) (y := xs[3]) (c := c3) Tryz.underlying3 (by
    have g := hf 3 ⟨_, 3, 3, _, _, _, _⟩ rfl
    dsimp only at g
    rw [k_3, List.getElem?_eq_getElem (by omega)] at g
    exact g)
  obtain ⟨z4, e4⟩ := int_of (enc := enc) (W := W) (base := base) (spare := spare) (held := held) (n := k) (y := xs[4]) (c := c4) Tryz.underlying3 (by
    have g := hf 4 ⟨_, 3, 4, _, _, _, _⟩ rfl
    dsimp only at g
    rw [k_3, List.getElem?_eq_getElem (by omega)] at g
    exact g)
  obtain ⟨z6, e6⟩ := sl_of (enc := enc) (W := W) (base := base) (spare := spare) (held := held) (n := k) (y := xs[6]) (c := c6) Tryz.underlying22 (by
    have g := hf 6 ⟨_, 22, 6, _, _, _, _⟩ rfl
    dsimp only at g
    rw [k_6, List.getElem?_eq_getElem (by omega)] at g
    exact g)
  exact ⟨z1, z2, z3, z4, z6, e1, e2, e3, e4, e6⟩
end
set_option maxRecDepth 100000 in
set_option maxHeartbeats 4000000 in
theorem none_lifted (os : Os) (started : os.Started) (H : Type) (enc : TypeId × Value → H) :
    ReturnsInHanded {} Tryz.checked os 3 .any (fun w args => (Rows.descNoneSpec.pre enc Tryz.prog Tryz.f3 [] false w args ∧ laidMetH Tryz.prog laidL w) ∧ sizedMet enc Tryz.prog Tryz.f3 (OpenSpec.ofChange Rows.descNoneSpec) false w args)
      (Rows.descNoneSpec.post enc Tryz.prog Tryz.f3 false true false false) := by
  refine returnsInHanded_of_change_and (C := Tryz.checked) (X := fun w _ => laidMetH Tryz.prog laidL w) (fun _ _ _ hh h => h.of_heap hh) own started (by kernel_rfl) Tryz.func3
    (ChangeSpec.witness_shaped (enc := enc) (C := Tryz.checked) (os := os) (X := fun w _ => laidMetH Tryz.prog laidL w) false (World.doorLaid Tryz.prog 400 os) #[.agg #[.int .i64 0, .string ⟨#[]⟩, .string ⟨#[]⟩, .int .i64 0, .int .i64 0, .int .i64 0, .slice none 0 0, .bool false]] 8 rfl (World.shaped_of_RefB (by kernel_rfl) (by kernel_rfl)) (by kernel_rfl) (by kernel_rfl) (by kernel_rfl) (door_met os _)) ?_
  intro W base args ds gs before hval0 hW _ _ hL _
  have hval : ∀ (j : Nat) t v, Tryz.f3.params[j]? = some t → args[j]? = some v → Value.okWide Tryz.prog W .any base t v := hval0
  have hW' := hW
  obtain ⟨p, q, hA0, hV, rfl, hfz, hnd⟩ := hW
  have hA : DataW.TrodAll enc Tryz.prog W 0 (fun _ => true) true Tryz.f3.params.toList args.toList ds p := hA0
  rw [Tryz.params3] at hA hval
  obtain ⟨v0, d0, rfl, rfl, h0⟩ := trodAll_one hA
  obtain ⟨rfl, rfl⟩ := trodVars_none hV
  obtain ⟨cs, rfl, hsz⟩ := okWide_struct Tryz.underlying24 (hval 0 24 v0 rfl rfl)
  rw [show Tryz.prog.cellsOf 24 = 8 by kernel_rfl] at hsz
  have lt0 : ∀ z ∈ p, z.block < W.heap.size := by obtain ⟨m, hm⟩ := h0; exact DataW.trod_lt m _ _ _ hm
  clear hA0 hval0 hval
  obtain ⟨c0, c1, c2, c3, c4, c5, c6, c7, rfl⟩ := arr8 cs hsz
  obtain ⟨x1, x2, x3, x4, x6, rfl, rfl, rfl, rfl, rfl⟩ : ∃ (z1 z2 : ByteArray) (z3 z4 : Int) (z6 : Option Addr × Nat × Nat), c1 = .string z1 ∧ c2 = .string z2 ∧ c3 = .int .i64 z3 ∧ c4 = .int .i64 z4 ∧ c6 = .slice z6.1 z6.2.1 z6.2.2 := by obtain ⟨m, hm⟩ := h0; exact act_open hm
  refine (none7_walk c0 x1 x2 x3 x4 c5 x6.1 x6.2.1 x6.2.2 c7 W (of_laid hL)).mono fun e W' ⟨he, bel0⟩ => ?_
  have bel := Mod.below0 bel0
  subst he
  exact ⟨_, rfl, _, _, _, [], _, [], hW', trodAll_mk1 (shut_bool Tryz.underlying4 _), trodAll_mk1 (Below.trod laidOut (by kernel_rfl) (of_decide_eq_true (by kernel_rfl)) h0 bel lt0), rfl, bel.frame _, fun h => by cases h⟩

theorem descNone_holds : Rows.DescNoneSaid :=
  OpenClaim.holds_of_wide 3 Tryz.f3 rfl rfl rfl rfl rfl rfl rfl ⟨rfl, rfl, rfl, rfl, rfl⟩ rfl rfl rfl rfl rfl (by kernel_rfl) Tryz.func3 (by kernel_rfl)
    (of_decide_eq_true (by kernel_rfl)) (by unfold Func.isWrapper; first | (rw [if_pos (by decide +kernel)]; kernel_rfl) | (rw [if_neg (by decide +kernel)]; exact ⟨rfl, rfl⟩))
    (fun os started H enc _ => none_lifted os started H enc)
theorem descNone_card : Rows.DescNoneCardSaid :=
  Claim7.holds_tied_plain_at .later [] [.data] true (true, "362444f931a584d7489c8f9452c54bdf8fbc5bb8e769124a77f96377fc439c10") true
    descNone_holds (fun _ h => by cases h) (by kernel_rfl) (fun _ h => by cases h) descNone_row_tie rfl ⟨rfl, rfl⟩ (by kernel_rfl) rfl
    (fun f fn hf hfn => by
      obtain rfl : f = 3 := Option.some.inj ((show Tryz.prog.funcNamed "tinsel/tinsellaw07.DescNone" = some 3 by kernel_rfl).symm.trans hf) |>.symm
      obtain rfl : fn = Tryz.f3 := (Option.some.inj (Tryz.func3.symm.trans hfn)).symm
      exact ⟨by kernel_rfl, fun j t ht => by
        rw [Tryz.params3] at ht
        have hm : t ∈ [24] := by simpa using Array.mem_of_getElem? ht
        have hall : ([24].all fun u => !Tryz.prog.wantsStandIn u) = true := by kernel_rfl
        exact (show Tryz.prog.wantsStandIn t = false by simpa using List.all_eq_true.1 hall t hm)⟩)
    (by kernel_rfl)
#print axioms descNone_card
end Go.Proofs.YtgkkbplecfhmdaaGreatDoor
