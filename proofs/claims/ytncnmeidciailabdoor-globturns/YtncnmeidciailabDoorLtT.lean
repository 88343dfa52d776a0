/- GlobTurns, its tied card: for whatever two rows of bytes the statement's function answers true and leaves them as they were. Condition (the row's own): the table of names starts as the program's text lays it. -/
import Derived.Test.YtncnmeidciailabDoorLtB
import Derived.Test.YtncnmeidciailabDoorLt2
namespace Go.Proofs.YtncnmeidciailabDoor
open Go.ChangeShapes Go.WideShapes Go.ChangeAt Go.RowKit
set_option maxRecDepth 100000 in
theorem turns_lifted (os : Os) (started : os.Started) (H : Type) (enc : TypeId × Value → H) :
    ReturnsInHanded {} Tryd.checked os 4 .any (fun w args => (Rows.globTurnsSpec.pre enc Tryd.prog Tryd.f4 [] false w args ∧ laidMetH Tryd.prog laidL w) ∧ sizedMet enc Tryd.prog Tryd.f4 (OpenSpec.ofChange Rows.globTurnsSpec) false w args)
      (Rows.globTurnsSpec.post enc Tryd.prog Tryd.f4 false true false false) := by
  refine of_change_and_shaped (C := Tryd.checked) (X := fun w _ => laidMetH Tryd.prog laidL w) (fun _ _ _ hh h => h.of_heap hh) own started (by kernel_rfl) Tryd.func4
    (ChangeSpec.witness_shaped (enc := enc) (C := Tryd.checked) (os := os) (X := fun w _ => laidMetH Tryd.prog laidL w) false (World.laidAll Tryd.prog os laidL) #[.slice none 0 0, .slice none 0 0] 8 (World.laidAll_os _ _ _) (World.shaped_of_ZipB (by kernel_rfl) (by kernel_rfl)) (by kernel_rfl) (by kernel_rfl) (by kernel_rfl) (start_met os _)) ?_
  intro W base args ds gs before hval0 hW _ hsz hL hsh _
  have hval : ∀ (j : Nat) t v, Tryd.f4.params[j]? = some t → args[j]? = some v → Value.okWide Tryd.prog W .any base t v := hval0
  have hW' := hW
  obtain ⟨p, q, hA0, hV, rfl, hfz, hnd⟩ := hW
  have hA : DataW.TrodAll enc Tryd.prog W 0 (fun _ => true) true Tryd.f4.params.toList args.toList ds p := hA0
  rw [Tryd.params4] at hA hval hsz
  obtain ⟨v0, v1, d0, d1, p0, p1, rfl, rfl, rfl, h0, h1⟩ := trodAll_two hA
  obtain ⟨rfl, rfl⟩ := trodVars_none hV
  obtain ⟨a, len, cap, rfl⟩ := okWide_slice Tryd.underlying26 (hval 0 26 v0 rfl rfl)
  obtain ⟨a2, len2, cap2, rfl⟩ := okWide_slice Tryd.underlying26 (hval 1 26 v1 rfl rfl)
  have lt0 : ∀ z ∈ p0, z.block < W.heap.size := by obtain ⟨m, hm⟩ := h0; exact DataW.trod_lt m _ _ _ hm
  have lt1 : ∀ z ∈ p1, z.block < W.heap.size := by obtain ⟨m, hm⟩ := h1; exact DataW.trod_lt m _ _ _ hm
  have hb1 : Tryd.prog.bytesOf 5 = 1 := by kernel_rfl
  have hrb := reachBytes_lt
  have k0 : (∃ zs, IsRow .u8 W a len cap zs) ∧ len ≤ 140737488355328 := by
    obtain ⟨fuel, hf⟩ := h0
    rcases open_ints Tryd.underlying26 Tryd.underlying5 (by kernel_rfl) hf with ⟨hcs, _⟩ | ⟨z, l, c, zs, hcs, _, hl, hm, hz, hx, hcell, hwz⟩
    · simp [Value.cells] at hcs
      obtain ⟨rfl, rfl, rfl⟩ := hcs
      exact ⟨⟨[], .inl ⟨rfl, rfl, rfl, rfl⟩⟩, by omega⟩
    · simp [Value.cells] at hcs
      obtain ⟨rfl, rfl, rfl⟩ := hcs
      injection hx with hx1 hx2
      subst hx1
      have hb := sized_slice hsz (j := 0) (t := 26) rfl rfl Tryd.underlying26
      rw [show Tryd.checked.prog.bytesOf 5 = 1 from hb1] at hb
      have hz' : zs.length = cap := by simpa using hz
      have hl2 : (lits (H := H) .u8 (zs.take len)).length = len := by simp [lits]; omega
      exact ⟨⟨zs, .inr ⟨_, rfl, hl, hm, hz', hcell, hwz⟩⟩, by omega⟩
  have k1 : (∃ zs, IsRow .u8 W a2 len2 cap2 zs) ∧ len2 ≤ 140737488355328 := by
    obtain ⟨fuel, hf⟩ := h1
    rcases open_ints Tryd.underlying26 Tryd.underlying5 (by kernel_rfl) hf with ⟨hcs, _⟩ | ⟨z, l, c, zs, hcs, _, hl, hm, hz, hx, hcell, hwz⟩
    · simp [Value.cells] at hcs
      obtain ⟨rfl, rfl, rfl⟩ := hcs
      exact ⟨⟨[], .inl ⟨rfl, rfl, rfl, rfl⟩⟩, by omega⟩
    · simp [Value.cells] at hcs
      obtain ⟨rfl, rfl, rfl⟩ := hcs
      injection hx with hx1 hx2
      subst hx1
      have hb := sized_slice hsz (j := 1) (t := 26) rfl rfl Tryd.underlying26
      rw [show Tryd.checked.prog.bytesOf 5 = 1 from hb1] at hb
      have hz' : zs.length = cap2 := by simpa using hz
      have hl2 : (lits (H := H) .u8 (zs.take len2)).length = len2 := by simp [lits]; omega
      exact ⟨⟨zs, .inr ⟨_, rfl, hl, hm, hz', hcell, hwz⟩⟩, by omega⟩
  clear hA0 hval0
  obtain ⟨l0, rfl, s0⟩ := row_src k0.1
  obtain ⟨l1, rfl, s1⟩ := row_src k1.1
  refine (turns_walk l0 l1 a a2 cap cap2 k0.2 k1.2 W s0 s1 (cn_of_laid hL) (ml_of_shape hsh)).mono fun e W' ⟨he, bel⟩ => ?_
  subst he
  exact ⟨_, rfl, _, _, _, [], _, [], hW', trodAll_mk1 (shut_bool Tryd.underlying4 _), trodAll_mk2 (Below.trod laidOut (by kernel_rfl) (of_decide_eq_true (by kernel_rfl)) h0 bel lt0) (Below.trod laidOut (by kernel_rfl) (of_decide_eq_true (by kernel_rfl)) h1 bel lt1), rfl, bel.frame _, fun h => by cases h⟩
theorem globTurns_holds : Rows.GlobTurnsSaid :=
  OpenClaim.holds_of_wide 4 Tryd.f4 rfl rfl rfl rfl rfl rfl rfl ⟨rfl, rfl, rfl, rfl, rfl⟩ rfl rfl rfl rfl rfl (by kernel_rfl) Tryd.func4 (by kernel_rfl)
    (of_decide_eq_true (by kernel_rfl)) (by unfold Func.isWrapper; first | (rw [if_pos (by decide +kernel)]; kernel_rfl) | (rw [if_neg (by decide +kernel)]; exact ⟨rfl, rfl⟩))
    (fun os started H enc _ => turns_lifted os started H enc)
theorem globTurns_card : Rows.GlobTurnsCardSaid :=
  Claim7.holds_tied_plain_at .later [] [.data] true (true, "13eb3f99c358303127c4183704f304b689ec5ad83858b3cba90be54cb7bbc7c4") false
    globTurns_holds (fun _ h => by cases h) (by kernel_rfl) (fun _ h => by cases h) globTurns_row_tie rfl ⟨rfl, rfl⟩ (by kernel_rfl) rfl
    (fun f fn hf hfn => by
      obtain rfl : f = 4 := Option.some.inj ((show Tryd.prog.funcNamed "tinsel/tinsellaw12.GlobTurns" = some 4 by kernel_rfl).symm.trans hf) |>.symm
      obtain rfl : fn = Tryd.f4 := (Option.some.inj (Tryd.func4.symm.trans hfn)).symm
      exact ⟨by kernel_rfl, fun j t ht => by
        rw [Tryd.params4] at ht
        have hm : t ∈ [26, 26] := by simpa using Array.mem_of_getElem? ht
        have hall : ([26, 26].all fun u => !Tryd.prog.wantsStandIn u) = true := by kernel_rfl
        exact (show Tryd.prog.wantsStandIn t = false by simpa using List.all_eq_true.1 hall t hm)⟩)
    (by kernel_rfl)
#print axioms globTurns_card
end Go.Proofs.YtncnmeidciailabDoor
