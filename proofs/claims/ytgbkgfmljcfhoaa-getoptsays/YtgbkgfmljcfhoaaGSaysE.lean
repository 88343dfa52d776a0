/- GetoptSays: for whatever texts the statement's function answers true and leaves them as they were. No condition. -/
import Derived.Test.YtgbkgfmljcfhoaaRows
import Derived.Test.YtgbkgfmljcfhoaaGs3
import Derived.ProofKit
import Derived.ChangeMaps5
import Derived.SizedLaws
import Derived.ChangeOld
namespace Go.Proofs.Ytgbkgfmljcfhoaa
open Go.ChangeShapes Go.WideShapes Go.ChangeAt Go.RowKit
open Go.ChangeMaps (open_string shut_string)
theorem own : ownKnob Try.prog.godebug = none := by kernel_rfl
theorem laidOut : laidOutB Try.prog = true := by kernel_rfl
section
variable {H : Type} {enc : TypeId × Value → H} {W : World} {base : Nat} {spare : Nat → Bool} {held : Bool}
theorem bad_open {fuel : Nat} {cs : List Value} {y : DataW H × List MemPlace} (h : DataW.trod enc Try.prog W base spare held fuel 25 cs = some y) :
    ∃ (s : List UInt8) (b : Bool), cs = [.string ⟨s.toArray⟩, .bool b] ∧ y.1 = .agg [.lit (.string s), .lit (.bool b)] ∧ s.length ≤ maxLen := by
  obtain ⟨f0, f1, hf, h1, h2, h3, h4, h5, h6⟩ := two_fields fBl
  obtain ⟨xs, n, _, hy, hcl, hxl, hfs⟩ := DataW.trod_struct fB h
  have hfa : Try.prog.fieldsOf 25 = #[f0, f1] := by rw [← hf]
  rw [hfa] at hxl hfs
  have k1 : Try.prog.cellsOf 9 = 1 := by kernel_rfl
  have k3 : Try.prog.cellsOf 4 = 1 := by kernel_rfl
  have k2 : Try.prog.cellsOf 25 = 2 := by kernel_rfl
  rw [k2] at hcl
  match cs, hcl with
  | [c0, c1], _ =>
    match xs, hxl with
    | [x0, x1], _ =>
      have g0 := hfs 0 f0 rfl
      have g1 := hfs 1 f1 rfl
      rw [h1, h2, k1] at g0
      rw [h4, h5, k3] at g1
      obtain ⟨s, e0, ex0, z0⟩ := DataW.trod_string Try.underlying9 (show DataW.trod enc Try.prog W base spare held n 9 [c0] = some x0 from g0)
      obtain ⟨b, e1, ex1⟩ := DataW.trod_bool Try.underlying4 (show DataW.trod enc Try.prog W base spare held n 4 [c1] = some x1 from g1)
      refine ⟨s.data.toList, b, ?_, ?_, by rw [Array.length_toList]; exact z0⟩
      · simp at e0 e1; rw [e0, e1]
      · rw [hy, ex0, ex1]; rfl
end
set_option maxRecDepth 100000 in
theorem says_lifted (os : Os) (started : os.Started) (H : Type) (enc : TypeId × Value → H) :
    ReturnsInHanded {} Try.checked os 6 .any (Rows.getoptSaysSpec.pre6 enc Try.prog Try.f6 Rows.getoptSaysRow.domain false) (Rows.getoptSaysSpec.post enc Try.prog Try.f6 false true false false) := by
  refine returnsInHanded_of_change_sized (C := Try.checked) own started (by kernel_rfl) Try.func6
    (ChangeSpec.witness6 (enc := enc) (C := Try.checked) false ⟨#[], #[.string ⟨#[]⟩, .string ⟨#[]⟩, .agg #[.string ⟨#[]⟩, .bool false]], []⟩ 8 (by kernel_rfl) (by kernel_rfl) (by kernel_rfl) (by kernel_rfl)) ?_
  intro W base args ds gs before hval0 hW hcnd hsz _
  have hval : ∀ (j : Nat) t v, Try.f6.params[j]? = some t → args[j]? = some v → Value.okWide Try.prog W .any base t v := hval0
  have hW' := hW
  obtain ⟨p, q, hA0, hV, rfl, hfz, hnd⟩ := hW
  have hA : DataW.TrodAll enc Try.prog W 0 (fun _ => true) true Try.f6.params.toList args.toList ds p := hA0
  rw [Try.params6] at hA hval hsz
  obtain ⟨v0, v1, v2, d0, d1, d2, p0, p1, p2, rfl, rfl, rfl, h0, h1, h2⟩ := trodAll_three hA
  obtain ⟨rfl, rfl⟩ := trodVars_none hV
  obtain ⟨y, rfl, rfl, rfl, wy⟩ := open_string Try.underlying9 (hval 0 9 v0 rfl rfl) h0
  obtain ⟨z, rfl, rfl, rfl, wz⟩ := open_string Try.underlying9 (hval 1 9 v1 rfl rfl) h1
  have bY := sized_string hsz (j := 0) (t := 9) rfl rfl
  have bZ := sized_string hsz (j := 1) (t := 9) rfl rfl
  have hr : reachBytes < 2 ^ 47 := reachBytes_lt
  have lt2 : ∀ z ∈ p2, z.block < W.heap.size := by obtain ⟨m, hm⟩ := h2; exact DataW.trod_lt m _ _ _ hm
  obtain ⟨cs, rfl, hs2⟩ := okWide_struct fB (hval 2 25 v2 rfl rfl)
  obtain ⟨nm, ms, hcs, hd2, hnl⟩ : ∃ (s : List UInt8) (b : Bool), cs.toList = [.string ⟨s.toArray⟩, .bool b] ∧ d2 = .agg [.lit (.string s), .lit (.bool b)] ∧ s.length ≤ maxLen := by
    obtain ⟨m, hm⟩ := h2; exact bad_open hm
  obtain rfl : cs = #[.string ⟨nm.toArray⟩, .bool ms] := by rw [← hcs]
  subst hd2
  have bN : nm.length ≤ 2 ^ 47 := by
    obtain ⟨f0, f1, hf, k1, _, _, k4, _, _⟩ := two_fields fBl
    have hm := List.all_eq_true.1 hsz nm.length (DataW.weights_mem_each (j := 2) (t := 25) rfl rfl nm.length (by
      rw [DataW.weights, show Try.checked.prog.underlying 25 = some (.struct (Try.prog.fieldsOf 25)) from fB]
      show nm.length ∈ DataW.weightsEach _ ((Try.prog.fieldsOf 25).toList.map (·.type)) _
      rw [hf]
      simp [DataW.weightsEach, DataW.weights]))
    simp only [decide_eq_true_eq] at hm
    omega
  clear hA0 hval0
  refine (says_walk y.data.toList z.data.toList nm ms W (by omega) (by omega) (by omega)).mono fun e W' ⟨he, bel⟩ => ?_
  subst he
  exact ⟨_, rfl, _, _, _, [], _, [], hW', trodAll_mk1 (shut_bool Try.underlying4 _), trodAll_mk3 (shut_string Try.underlying9 wy) (shut_string Try.underlying9 wz) (Below.trod laidOut (by kernel_rfl) (of_decide_eq_true (by kernel_rfl)) h2 bel lt2), rfl, bel.frame _, fun h => by cases h⟩
theorem getoptSays_holds : Rows.GetoptSaysSaid :=
  OpenClaim.holds_of_wide 6 Try.f6 rfl rfl rfl rfl rfl rfl rfl ⟨rfl, rfl, rfl, rfl, rfl⟩ rfl rfl rfl rfl rfl (by kernel_rfl) Try.func6 (by kernel_rfl)
    (of_decide_eq_true (by kernel_rfl)) (by unfold Func.isWrapper; first | (rw [if_pos (by decide +kernel)]; kernel_rfl) | (rw [if_neg (by decide +kernel)]; exact ⟨rfl, rfl⟩))
    (fun os started H enc _ => says_lifted os started H enc)
#print axioms getoptSays_holds
end Go.Proofs.Ytgbkgfmljcfhoaa
