/- WalkNames, walked and lifted: called in whatever memory, the statement's function answers true. Condition (the row's own): math/bits.deBruijn64tab, unicode.White_Space and strings.asciiSpace start as the program's text lays them. -/
import Derived.Test.YtkfnmbmploakhaaGreatDoorWnB
import Derived.Test.YtkfnmbmploakhaaGreatDoorWnR
namespace Go.Proofs.YtkfnmbmploakhaaGreatDoor
open Go.ChangeShapes Go.WideShapes Go.ChangeAt Go.RowKit
open Ev
theorem names_walk (W : World) (hL : laidMetH Tryz.prog laidL W) (hS : W.ShapedOpen Tryz.prog) : Calls Tryz.prog 3 #[] W fun e w' => e = .returned (.bool true) ∧ Below W.heap.size W w' := by
  obtain ⟨v, H', rd', wr', h1, h2⟩ := callA_ok x7_ok Tryz.checked.mixed fnRun
  have hv : v = .bool true := by
    unfold saysTrue at h1
    split at h1
    · rfl
    · cases h1
  subst hv
  refine (h2 rho0 W #[] rfl (st0 hL hS) (fun x hx => ?_) (by decide)).mono ?_
  · have hx' : 10 ≤ x := hx
    unfold rho0
    rw [if_neg (by omega)]
  · rintro e w' ⟨r, ρ', rfl, a1, a2⟩
    refine ⟨by rw [show r = .bool true from a1], a2.rest.1, a2.rest.2.1, a2.rest.2.2, a2.size, fun b hb => a2.same b hb fun x o k hon hg hk e => ?_⟩
    have hG := (a2.own x hon).2
    unfold rho0 at hk
    rw [if_neg (by omega)] at hk
    cases hk
set_option maxRecDepth 100000 in
theorem names_lifted (os : Os) (started : os.Started) (H : Type) (enc : TypeId × Value → H) :
    ReturnsInHanded {} Tryz.checked os 3 .any (fun w args => (Rows.walkNamesSpec.pre enc Tryz.prog Tryz.f3 [] false w args ∧ laidMetH Tryz.prog laidL w) ∧ sizedMet enc Tryz.prog Tryz.f3 (OpenSpec.ofChange Rows.walkNamesSpec) false w args)
      (Rows.walkNamesSpec.post enc Tryz.prog Tryz.f3 false true false false) := by
  refine of_change_and_shaped (C := Tryz.checked) (X := fun w _ => laidMetH Tryz.prog laidL w) (fun _ _ _ hh h => h.of_heap hh) own started (by kernel_rfl) Tryz.func3
    (ChangeSpec.witness_shaped (enc := enc) (C := Tryz.checked) (os := os) (X := fun w _ => laidMetH Tryz.prog laidL w) false (World.laidAll Tryz.prog os laidL) #[] 8 (World.laidAll_os _ _ _) (World.shaped_of_ZipB (by kernel_rfl) (by kernel_rfl)) (by kernel_rfl) (by kernel_rfl) (by kernel_rfl) (start_met os _)) ?_
  intro W base args ds gs before hval0 hW _ hsz hL hsh _
  have hW' := hW
  obtain ⟨p, q, hA0, hV, rfl, hfz, hnd⟩ := hW
  have hA : DataW.TrodAll enc Tryz.prog W 0 (fun _ => true) true Tryz.f3.params.toList args.toList ds p := hA0
  rw [Tryz.params3] at hA
  obtain ⟨rfl, rfl, rfl⟩ := trodAll_none hA
  obtain ⟨rfl, rfl⟩ := trodVars_none hV
  clear hA0 hval0
  refine (names_walk W hL hsh).mono fun e W' ⟨he, bel⟩ => ?_
  subst he
  exact ⟨_, rfl, _, _, _, [], [], [], hW', trodAll_mk1 (shut_bool Tryz.underlying4 _), trodAll_mk0, rfl, bel.frame _, fun h => by cases h⟩
end Go.Proofs.YtkfnmbmploakhaaGreatDoor
