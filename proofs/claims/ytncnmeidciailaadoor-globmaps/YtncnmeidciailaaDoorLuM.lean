/- GlobMaps, its tied card: for whatever three rows of bytes the statement's function answers true and leaves them as they were. Condition (the row's own): the table of names starts as the program's text lays it. -/
import Derived.Test.YtncnmeidciailaaDoorLtB
import Derived.Test.YtncnmeidciailaaDoorLu4
namespace Go.Proofs.YtncnmeidciailaaDoor
open Go.ChangeShapes Go.WideShapes Go.ChangeAt Go.RowKit
set_option maxRecDepth 100000 in
theorem maps_lifted (os : Os) (started : os.Started) (H : Type) (enc : TypeId × Value → H) :
    ReturnsInHanded {} Tryd.checked os 7 .any (fun w args => (Rows.globMapsSpec.pre enc Tryd.prog Tryd.f7 [] false w args ∧ laidMetH Tryd.prog laidL w) ∧ sizedMet enc Tryd.prog Tryd.f7 (OpenSpec.ofChange Rows.globMapsSpec) false w args)
      (Rows.globMapsSpec.post enc Tryd.prog Tryd.f7 false true false false) := by
  refine of_change_and_shaped (C := Tryd.checked) (X := fun w _ => laidMetH Tryd.prog laidL w) (fun _ _ _ hh h => h.of_heap hh) own started (by kernel_rfl) Tryd.func7
    (ChangeSpec.witness_shaped (enc := enc) (C := Tryd.checked) (os := os) (X := fun w _ => laidMetH Tryd.prog laidL w) false (World.laidAll Tryd.prog os laidL) #[.slice none 0 0, .slice none 0 0, .slice none 0 0] 8 (World.laidAll_os _ _ _) (World.shaped_of_ZipB (by kernel_rfl) (by kernel_rfl)) (by kernel_rfl) (by kernel_rfl) (by kernel_rfl) (start_met os _)) ?_
  intro W base args ds gs before hval0 hW _ hsz hL hsh _
  have hval : ∀ (j : Nat) t v, Tryd.f7.params[j]? = some t → args[j]? = some v → Value.okWide Tryd.prog W .any base t v := hval0
  have hW' := hW
  obtain ⟨p, q, hA0, hV, rfl, hfz, hnd⟩ := hW
  have hA : DataW.TrodAll enc Tryd.prog W 0 (fun _ => true) true Tryd.f7.params.toList args.toList ds p := hA0
  rw [Tryd.params7] at hA hval hsz
  obtain ⟨v0, v1, v2, d0, d1, d2, p0, p1, p2, rfl, rfl, rfl, h0, h1, h2⟩ := trodAll_three hA
  obtain ⟨rfl, rfl⟩ := trodVars_none hV
  obtain ⟨a, len, cap, rfl⟩ := okWide_slice Tryd.underlying32 (hval 0 32 v0 rfl rfl)
  obtain ⟨a2, len2, cap2, rfl⟩ := okWide_slice Tryd.underlying32 (hval 1 32 v1 rfl rfl)
  obtain ⟨a3, len3, cap3, rfl⟩ := okWide_slice Tryd.underlying32 (hval 2 32 v2 rfl rfl)
  have lt0 : ∀ z ∈ p0, z.block < W.heap.size := by obtain ⟨m, hm⟩ := h0; exact DataW.trod_lt m _ _ _ hm
  have lt1 : ∀ z ∈ p1, z.block < W.heap.size := by obtain ⟨m, hm⟩ := h1; exact DataW.trod_lt m _ _ _ hm
  have lt2 : ∀ z ∈ p2, z.block < W.heap.size := by obtain ⟨m, hm⟩ := h2; exact DataW.trod_lt m _ _ _ hm
  have hb1 : Tryd.prog.bytesOf 5 = 1 := by kernel_rfl
  have hrb : reachBytes = 140737488351232 := rfl
  have k0 : (∃ zs, IsRow .u8 W a len cap zs) ∧ len ≤ 140737488351232 := by
    obtain ⟨fuel, hf⟩ := h0
    rcases open_ints Tryd.underlying32 Tryd.underlying5 (by kernel_rfl) hf with ⟨hcs, _⟩ | ⟨z, l, c, zs, hcs, _, hl, hm, hz, hx, hcell, hwz⟩
    · simp [Value.cells] at hcs
      obtain ⟨rfl, rfl, rfl⟩ := hcs
      exact ⟨⟨[], .inl ⟨rfl, rfl, rfl, rfl⟩⟩, by omega⟩
    · simp [Value.cells] at hcs
      obtain ⟨rfl, rfl, rfl⟩ := hcs
      injection hx with hx1 hx2
      subst hx1
      have hb := sized_slice hsz (j := 0) (t := 32) rfl rfl Tryd.underlying32
      rw [show Tryd.checked.prog.bytesOf 5 = 1 from hb1] at hb
      have hz' : zs.length = cap := by simpa using hz
      have hl2 : (lits (H := H) .u8 (zs.take len)).length = len := by simp [lits]; omega
      exact ⟨⟨zs, .inr ⟨_, rfl, hl, hm, hz', hcell, hwz⟩⟩, by omega⟩
  have k1 : (∃ zs, IsRow .u8 W a2 len2 cap2 zs) ∧ len2 ≤ 140737488351232 := by
    obtain ⟨fuel, hf⟩ := h1
    rcases open_ints Tryd.underlying32 Tryd.underlying5 (by kernel_rfl) hf with ⟨hcs, _⟩ | ⟨z, l, c, zs, hcs, _, hl, hm, hz, hx, hcell, hwz⟩
    · simp [Value.cells] at hcs
      obtain ⟨rfl, rfl, rfl⟩ := hcs
      exact ⟨⟨[], .inl ⟨rfl, rfl, rfl, rfl⟩⟩, by omega⟩
    · simp [Value.cells] at hcs
      obtain ⟨rfl, rfl, rfl⟩ := hcs
      injection hx with hx1 hx2
      subst hx1
      have hb := sized_slice hsz (j := 1) (t := 32) rfl rfl Tryd.underlying32
      rw [show Tryd.checked.prog.bytesOf 5 = 1 from hb1] at hb
      have hz' : zs.length = cap2 := by simpa using hz
      have hl2 : (lits (H := H) .u8 (zs.take len2)).length = len2 := by simp [lits]; omega
      exact ⟨⟨zs, .inr ⟨_, rfl, hl, hm, hz', hcell, hwz⟩⟩, by omega⟩
  have k2 : (∃ zs, IsRow .u8 W a3 len3 cap3 zs) ∧ len3 ≤ 140737488351232 := by
    obtain ⟨fuel, hf⟩ := h2
    rcases open_ints Tryd.underlying32 Tryd.underlying5 (by kernel_rfl) hf with ⟨hcs, _⟩ | ⟨z, l, c, zs, hcs, _, hl, hm, hz, hx, hcell, hwz⟩
    · simp [Value.cells] at hcs
      obtain ⟨rfl, rfl, rfl⟩ := hcs
      exact ⟨⟨[], .inl ⟨rfl, rfl, rfl, rfl⟩⟩, by omega⟩
    · simp [Value.cells] at hcs
      obtain ⟨rfl, rfl, rfl⟩ := hcs
      injection hx with hx1 hx2
      subst hx1
      have hb := sized_slice hsz (j := 2) (t := 32) rfl rfl Tryd.underlying32
      rw [show Tryd.checked.prog.bytesOf 5 = 1 from hb1] at hb
      have hz' : zs.length = cap3 := by simpa using hz
      have hl2 : (lits (H := H) .u8 (zs.take len3)).length = len3 := by simp [lits]; omega
      exact ⟨⟨zs, .inr ⟨_, rfl, hl, hm, hz', hcell, hwz⟩⟩, by omega⟩
  clear hA0 hval0
  obtain ⟨l0, rfl, s0⟩ := row_src k0.1
  obtain ⟨l1, rfl, s1⟩ := row_src k1.1
  obtain ⟨l2, rfl, s2⟩ := row_src k2.1
  refine (maps_walk l0 l1 l2 a a2 a3 cap cap2 cap3 (by have := k0.2; omega) (by have := k1.2; omega) (by have := k2.2; omega) W s0 s1 s2 (cn_of_laid hL) (ml_of_shape hsh)).mono fun e W' ⟨he, bel⟩ => ?_
  subst he
  exact ⟨_, rfl, _, _, _, [], _, [], hW', trodAll_mk1 (shut_bool Tryd.underlying4 _), trodAll_mk3 (Below.trod laidOut (by kernel_rfl) (of_decide_eq_true (by kernel_rfl)) h0 bel lt0) (Below.trod laidOut (by kernel_rfl) (of_decide_eq_true (by kernel_rfl)) h1 bel lt1) (Below.trod laidOut (by kernel_rfl) (of_decide_eq_true (by kernel_rfl)) h2 bel lt2), rfl, bel.frame _, fun h => by cases h⟩
theorem globMaps_holds : Rows.GlobMapsSaid :=
  OpenClaim.holds_of_wide 7 Tryd.f7 rfl rfl rfl rfl rfl rfl rfl ⟨rfl, rfl, rfl, rfl, rfl⟩ rfl rfl rfl rfl rfl (by kernel_rfl) Tryd.func7 (by kernel_rfl)
    (of_decide_eq_true (by kernel_rfl)) (by unfold Func.isWrapper; first | (rw [if_pos (by decide +kernel)]; kernel_rfl) | (rw [if_neg (by decide +kernel)]; exact ⟨rfl, rfl⟩))
    (fun os started H enc _ => maps_lifted os started H enc)
theorem globMaps_card : Rows.GlobMapsCardSaid :=
  Claim7.holds_tied_plain_at .later [] [.data] true (true, "c897198b1c2f9eeff671c31a37bbedfba52b4db7db211f206ef3ce9fc9bf56c7") false
    globMaps_holds (fun _ h => by cases h) (by kernel_rfl) (fun _ h => by cases h) globMaps_row_tie rfl ⟨rfl, rfl⟩ (by kernel_rfl) rfl
    (fun f fn hf hfn => by
      obtain rfl : f = 7 := Option.some.inj ((show Tryd.prog.funcNamed "tinsel/tinsellaw12.GlobMaps" = some 7 by kernel_rfl).symm.trans hf) |>.symm
      obtain rfl : fn = Tryd.f7 := (Option.some.inj (Tryd.func7.symm.trans hfn)).symm
      exact ⟨by kernel_rfl, fun j t ht => by
        rw [Tryd.params7] at ht
        have hm : t ∈ [32, 32, 32] := by simpa using Array.mem_of_getElem? ht
        have hall : ([32, 32, 32].all fun u => !Tryd.prog.wantsStandIn u) = true := by kernel_rfl
        exact (show Tryd.prog.wantsStandIn t = false by simpa using List.all_eq_true.1 hall t hm)⟩)
    (by kernel_rfl)
#print axioms globMaps_card
end Go.Proofs.YtncnmeidciailaaDoor
