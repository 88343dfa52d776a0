/- GetoptAsks: for whatever options and texts the statement's function answers true and leaves them as they were. No condition. -/
import Derived.Test.YtgbkgfmljcfhoaaRows
import Derived.Test.YtgbkgfmljcfhoaaGf6
import Derived.Test.YtgbkgfmljcfhoaaGr1
import Derived.ProofKit
import Derived.ChangeMaps5
import Derived.SizedLaws
import Derived.ChangeOld
namespace Go.Proofs.Ytgbkgfmljcfhoaa
open Go.ChangeShapes Go.WideShapes Go.ChangeAt Go.RowKit
open Go.ChangeMaps (open_string shut_string)
theorem own : ownKnob Try.prog.godebug = none := by kernel_rfl
theorem laidOut : laidOutB Try.prog = true := by kernel_rfl
set_option maxRecDepth 100000 in
theorem asks_lifted (os : Os) (started : os.Started) (H : Type) (enc : TypeId × Value → H) :
    ReturnsInHanded {} Try.checked os 5 .any (Rows.getoptAsksSpec.pre6 enc Try.prog Try.f5 Rows.getoptAsksRow.domain false) (Rows.getoptAsksSpec.post enc Try.prog Try.f5 false true false false) := by
  refine returnsInHanded_of_change_sized (C := Try.checked) own started (by kernel_rfl) Try.func5
    (ChangeSpec.witness6 (enc := enc) (C := Try.checked) false ⟨#[], #[.slice none 0 0, .string ⟨#[]⟩, .string ⟨#[]⟩], []⟩ 8 (by kernel_rfl) (by kernel_rfl) (by kernel_rfl) (by kernel_rfl)) ?_
  intro W base args ds gs before hval0 hW hcnd hsz _
  have hval : ∀ (j : Nat) t v, Try.f5.params[j]? = some t → args[j]? = some v → Value.okWide Try.prog W .any base t v := hval0
  have hW' := hW
  obtain ⟨p, q, hA0, hV, rfl, hfz, hnd⟩ := hW
  have hA : DataW.TrodAll enc Try.prog W 0 (fun _ => true) true Try.f5.params.toList args.toList ds p := hA0
  rw [Try.params5] at hA hval hsz
  obtain ⟨v0, v1, v2, d0, d1, d2, p0, p1, p2, rfl, rfl, rfl, h0, h1, h2⟩ := trodAll_three hA
  obtain ⟨rfl, rfl⟩ := trodVars_none hV
  obtain ⟨ra, rn, rc, rfl⟩ := okWide_slice Try.underlying23 (hval 0 23 v0 rfl rfl)
  obtain ⟨y, rfl, rfl, rfl, wy⟩ := open_string Try.underlying9 (hval 1 9 v1 rfl rfl) h1
  obtain ⟨z, rfl, rfl, rfl, wz⟩ := open_string Try.underlying9 (hval 2 9 v2 rfl rfl) h2
  have bZ := sized_string hsz (j := 2) (t := 9) rfl rfl
  have hr : reachBytes < 2 ^ 47 := reachBytes_lt
  have lt0 : ∀ z ∈ p0, z.block < W.heap.size := by obtain ⟨m, hm⟩ := h0; exact DataW.trod_lt m _ _ _ hm
  obtain ⟨rs, hrl, hR, hrc, hrm⟩ : ∃ os : List Ga.Opt, os.length = rn ∧ Opts W ra os ∧ rn ≤ rc ∧ rc ≤ maxLen := by
    obtain ⟨m, hm⟩ := h0
    obtain ⟨os, k1, k2, _, k3, k4, _⟩ := opts_open hm
    exact ⟨os, k1, k2, k3, k4⟩
  have hrm' : rc < 2 ^ 63 := by unfold maxLen at hrm; omega
  have wk := asks_walk rs y.data.toList z.data.toList ra rc W hR (by omega) (by omega)
  rw [hrl] at wk
  clear hA0 hval0
  refine wk.mono fun e W' ⟨he, bel⟩ => ?_
  subst he
  exact ⟨_, rfl, _, _, _, [], _, [], hW', trodAll_mk1 (shut_bool Try.underlying4 _), trodAll_mk3 (Below.trod laidOut (by kernel_rfl) (of_decide_eq_true (by kernel_rfl)) h0 bel lt0) (shut_string Try.underlying9 wy) (shut_string Try.underlying9 wz), rfl, bel.frame _, fun h => by cases h⟩
theorem getoptAsks_holds : Rows.GetoptAsksSaid :=
  OpenClaim.holds_of_wide 5 Try.f5 rfl rfl rfl rfl rfl rfl rfl ⟨rfl, rfl, rfl, rfl, rfl⟩ rfl rfl rfl rfl rfl (by kernel_rfl) Try.func5 (by kernel_rfl)
    (of_decide_eq_true (by kernel_rfl)) (by unfold Func.isWrapper; first | (rw [if_pos (by decide +kernel)]; kernel_rfl) | (rw [if_neg (by decide +kernel)]; exact ⟨rfl, rfl⟩))
    (fun os started H enc _ => asks_lifted os started H enc)
#print axioms getoptAsks_holds
end Go.Proofs.Ytgbkgfmljcfhoaa
