/- BufNone, lifted: for whatever bytes and number the statement's function answers true and leaves what it was given as it was. Condition (the row's own): the listed tables start as the program's text lays them. Seat of BufNone. -/
import Derived.Test.YtdldpehmcfbbeaaGreatDoorBnM
import Derived.Deep.Slices
import Derived.ChangeMaps5
namespace Go.Proofs.YtdldpehmcfbbeaaGreatDoor
open Go.ChangeShapes Go.WideShapes Go.ChangeAt Go.RowKit
open Ev
theorem spot_of_cell {w : World} {a : Addr} {v : Value} (h : w.cell? a = some v) : a.spot = none := by
  unfold World.cell? at h
  split at h
  · split at h
    · exact absurd h (by simp)
    · rename_i hs
      cases e : a.spot with
      | none => rfl
      | some x => rw [e] at hs; simp at hs
  · exact absurd h (by simp)
theorem add_none (a : Addr) (h : (a.add 0).spot = none) : ∃ b o, a = ⟨b, o, none⟩ ∧ ∀ j, a.add j = ⟨b, o + j, none⟩ := by
  obtain ⟨b, o, sp⟩ := a
  cases sp with
  | none => exact ⟨b, o, rfl, fun j => by unfold Addr.add; split <;> simp_all⟩
  | some x => simp [Addr.add] at h
set_option maxRecDepth 100000 in
set_option maxHeartbeats 4000000 in
theorem none_lifted (os : Os) (started : os.Started) (H : Type) (enc : TypeId × Value → H) :
    ReturnsInHanded {} Tryz.checked os 3 .any (fun w args => (Rows.bufNoneSpec.pre enc Tryz.prog Tryz.f3 [] false w args ∧ laidMetH Tryz.prog laidL w) ∧ sizedMet enc Tryz.prog Tryz.f3 (OpenSpec.ofChange Rows.bufNoneSpec) false w args)
      (Rows.bufNoneSpec.post enc Tryz.prog Tryz.f3 false true false false) := by
  refine of_change_and_shaped (C := Tryz.checked) (X := fun w _ => laidMetH Tryz.prog laidL w) (fun _ _ _ hh h => h.of_heap hh) own started (by kernel_rfl) Tryz.func3
    (ChangeSpec.witness_shaped (enc := enc) (C := Tryz.checked) (os := os) (X := fun w _ => laidMetH Tryz.prog laidL w) false (World.laidAll Tryz.prog os laidL) #[.slice none 0 0, .int .i64 0] 8 (World.laidAll_os _ _ _) (World.shaped_of_ZipB (by kernel_rfl) (by kernel_rfl)) (by kernel_rfl) (by kernel_rfl) (by kernel_rfl) (start_met os _)) ?_
  intro W base args ds gs before hval0 hW _ hsz hL hsh _
  have hval : ∀ (j : Nat) t v, Tryz.f3.params[j]? = some t → args[j]? = some v → Value.okWide Tryz.prog W .any base t v := hval0
  have hW' := hW
  obtain ⟨p, q, hA0, hV, rfl, hfz, hnd⟩ := hW
  have hA : DataW.TrodAll enc Tryz.prog W 0 (fun _ => true) true Tryz.f3.params.toList args.toList ds p := hA0
  rw [Tryz.params3] at hA hval hsz
  obtain ⟨v0, v1, d0, d1, p0, p1, rfl, rfl, rfl, h0, h1⟩ := trodAll_two hA
  obtain ⟨rfl, rfl⟩ := trodVars_none hV
  obtain ⟨a, len, cap, rfl⟩ := okWide_slice Tryz.underlying22 (hval 0 22 v0 rfl rfl)
  obtain ⟨z1, rfl, rfl, rfl, wz⟩ := open_int Tryz.underlying3 (hval 1 3 v1 rfl rfl) h1
  have lt0 : ∀ z ∈ p0, z.block < W.heap.size := by obtain ⟨m, hm⟩ := h0; exact DataW.trod_lt m _ _ _ hm
  have hb1 : Tryz.prog.bytesOf 5 = 1 := by kernel_rfl
  have hrb : reachBytes = 140737488351232 := by decide
  have hR : Bytes W (.slice a len cap) := by
    obtain ⟨fuel, hf⟩ := h0
    rcases open_ints Tryz.underlying22 Tryz.underlying5 (by kernel_rfl) hf with ⟨hcs, _⟩ | ⟨z, l, c, zs, hcs, _, hl, hm, hz, hx, hcell, hwz⟩
    · simp [Value.cells] at hcs
      obtain ⟨rfl, rfl, rfl⟩ := hcs
      exact .inl rfl
    · simp [Value.cells] at hcs
      obtain ⟨rfl, rfl, rfl⟩ := hcs
      injection hx with hx1 hx2
      subst hx1
      have hb := sized_slice hsz (j := 0) (t := 22) rfl rfl Tryz.underlying22
      rw [show Tryz.checked.prog.bytesOf 5 = 1 from hb1] at hb
      have hz' : zs.length = cap := by simpa using hz
      have hl2 : (lits (H := H) .u8 (zs.take len)).length = len := by simp [lits]; omega
      by_cases hl0 : len = 0
      · subst hl0
        exact .inr (.inl ⟨_, _, rfl⟩)
      · obtain ⟨b, o, rfl, hadd⟩ := add_none z (spot_of_cell (hcell 0 (by omega)))
        refine .inr (.inr ⟨b, o, len, cap, rfl, by omega, hl, by omega, fun j hj => ?_⟩)
        have := hcell j (by omega)
        rw [hadd j] at this
        exact ⟨_, this⟩
  clear hA0 hval0 hval
  refine (none_walk _ _ ⟨fun _ h => (by cases h), fun _ h => (by cases h)⟩ W hR hL hsh).mono fun e W' ⟨he, bel⟩ => ?_
  subst he
  exact ⟨_, rfl, _, _, _, [], _, [], hW', trodAll_mk1 (shut_bool Tryz.underlying4 _), trodAll_mk2 (Below.trod laidOut (by kernel_rfl) (of_decide_eq_true (by kernel_rfl)) h0 bel lt0) (shut_int Tryz.underlying3 wz), rfl, bel.frame _, fun h => by cases h⟩
end Go.Proofs.YtdldpehmcfbbeaaGreatDoor
