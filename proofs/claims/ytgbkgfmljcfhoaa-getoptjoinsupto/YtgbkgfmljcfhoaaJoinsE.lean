/- GetoptJoins: for whatever spec, options and operands that hold together at most 1048576 values and letters the statement's function answers true and leaves them as they were. Condition: the second form's bound. -/
import Derived.Test.YtgbkgfmljcfhoaaRows
import Derived.Test.YtgbkgfmljcfhoaaGc3
import Derived.Test.YtgbkgfmljcfhoaaGr1
import Derived.ProofKit
import Derived.ChangeMaps5
import Derived.JoinedCond
import Derived.ChangeOld
namespace Go.Proofs.Ytgbkgfmljcfhoaa
open Go.ChangeShapes Go.WideShapes Go.ChangeAt Go.RowKit
open Go.ChangeMaps (open_string shut_string)
theorem own : ownKnob Try.prog.godebug = none := by kernel_rfl
theorem laidOut : laidOutB Try.prog = true := by kernel_rfl
theorem wtO_le (os : List Ga.Opt) : os.length * 3 ≤ wtO os ∧ ∀ o ∈ os, o.1.length ≤ wtO os := by
  induction os with
  | nil => simp [wtO]
  | cons x r ih =>
    rw [wtO_cons]
    refine ⟨by have := ih.1; simp; omega, fun o ho => ?_⟩
    rcases List.mem_cons.1 ho with rfl | ho
    · omega
    · have := ih.2 o ho; omega
theorem joins_contract (H : Type) (enc : TypeId × Value → H) (W : World) (base : Nat) (args : Array Value) (ds gs : List (DataW H)) (before : List MemPlace)
    (hval : ∀ (j : Nat) t v, Try.f4.params[j]? = some t → args[j]? = some v → Value.okWide Try.prog W .any base t v)
    (hW : DataW.Whole enc Try.prog Try.f4.params.toList Rows.getoptJoinsSpec.vars false W args.toList ds gs before) (hk : Rows.uptoSmall H (ds ++ gs) = true) :
    Calls Try.prog 4 args W fun e W' => ∃ v, e = .returned v ∧ Rows.getoptJoinsSpec.post enc Try.prog Try.f4 false true false false W args v W' := by
  have hW' := hW
  obtain ⟨p, q, hA0, hV, rfl, hfz, hnd⟩ := hW
  have hA : DataW.TrodAll enc Try.prog W 0 (fun _ => true) true Try.f4.params.toList args.toList ds p := hA0
  rw [Try.params4] at hA hval
  obtain ⟨v0, v1, v2, d0, d1, d2, p0, p1, p2, rfl, rfl, rfl, h0, h1, h2⟩ := trodAll_three hA
  obtain ⟨rfl, rfl⟩ := trodVars_none hV
  obtain ⟨y, rfl, rfl, rfl, wy⟩ := open_string Try.underlying9 (hval 0 9 v0 rfl rfl) h0
  obtain ⟨oa, on, oc, rfl⟩ := okWide_slice Try.underlying23 (hval 1 23 v1 rfl rfl)
  obtain ⟨ra, rn, rc, rfl⟩ := okWide_slice Try.underlying22 (hval 2 22 v2 rfl rfl)
  have lt1 : ∀ z ∈ p1, z.block < W.heap.size := by obtain ⟨m, hm⟩ := h1; exact DataW.trod_lt m _ _ _ hm
  have lt2 : ∀ z ∈ p2, z.block < W.heap.size := by obtain ⟨m, hm⟩ := h2; exact DataW.trod_lt m _ _ _ hm
  have hk' : Rows.uptoBulkAll ([DataW.lit (.string y.data.toList), d1, d2] ++ ([] : List (DataW H))) ≤ 1048576 := of_decide_eq_true hk
  simp only [List.append_nil, Rows.uptoBulkAll, Rows.uptoBulk] at hk'
  obtain ⟨os, hol, hO, hon, _, _, hob, _⟩ : ∃ os : List Ga.Opt, os.length = on ∧ Opts W oa os ∧ (oa = none → oc = 0 ∧ os = []) ∧ on ≤ oc ∧ oc ≤ maxLen ∧ wtO os ≤ Rows.uptoBulk d1 ∧ (∀ o ∈ os, o.1.length ≤ maxLen ∧ o.2.length ≤ maxLen) := by
    obtain ⟨m, hm⟩ := h1; exact opts_open hm
  obtain ⟨rs, hrl, hR, hrn, _, _, hrb, _⟩ : ∃ ss : List (List UInt8), ss.length = rn ∧ Strs W ra ss ∧ (ra = none → rc = 0 ∧ ss = []) ∧ rn ≤ rc ∧ rc ≤ maxLen ∧ wt ss ≤ Rows.uptoBulk d2 ∧ (∀ s ∈ ss, s.length ≤ maxLen) := by
    obtain ⟨m, hm⟩ := h2; exact strs_open hm
  have hw1 := wtO_le os
  have hw2 := wt_len rs
  have wk := joins_walk y.data.toList os rs oa ra oc rc W (by omega) hO hR hrn (fun o ho => by have := hw1.2 o ho; omega) (by have := hw1.1; omega)
  rw [hol, hrl] at wk
  clear hA0
  refine wk.mono fun e W' ⟨he, bel⟩ => ?_
  subst he
  exact ⟨_, rfl, _, _, _, [], _, [], hW', trodAll_mk1 (shut_bool Try.underlying4 _), trodAll_mk3 (shut_string Try.underlying9 wy) (Below.trod laidOut (by kernel_rfl) (of_decide_eq_true (by kernel_rfl)) h1 bel lt1) (Below.trod laidOut (by kernel_rfl) (of_decide_eq_true (by kernel_rfl)) h2 bel lt2), rfl, bel.frame _, fun h => by cases h⟩
set_option maxRecDepth 100000 in
theorem joins_lifted (os : Os) (started : os.Started) (H : Type) (enc : TypeId × Value → H) (F : Stop.Interp) :
    ReturnsInHanded {} Try.checked os 4 .any ((Rows.OpenSpec.upto Rows.getoptJoinsSpec).pre6 enc Try.prog Try.f4 Rows.getoptJoinsUptoRow.domain false) (((Rows.OpenSpec.upto Rows.getoptJoinsSpec).at F).post enc Try.prog Try.f4 false true false false) := by
  refine returnsInHanded_of_cond (C := Try.checked) (s := Rows.OpenSpec.upto Rows.getoptJoinsSpec) (k := Rows.uptoSmall) rfl own started (by kernel_rfl) Try.func4
    (OpenSpec.witness (enc := enc) (C := Try.checked) (s := Rows.OpenSpec.upto Rows.getoptJoinsSpec) (k := Rows.uptoSmall) rfl false ⟨#[], #[.string .empty, .slice none 0 0, .slice none 0 0], []⟩ 8 (by kernel_rfl) (by kernel_rfl) (by kernel_rfl)
      (x := ([.lit (.string []), .nil, .nil], [], [])) (by kernel_rfl) rfl (by kernel_rfl)) ?_
  intro W base args ds gs before hval hW _ hk _
  exact joins_contract H enc W base args ds gs before hval hW hk
theorem getoptJoins_holds : Rows.GetoptJoinsUptoSaid :=
  OpenClaim.holds_of_cond 4 Try.f4 rfl rfl rfl rfl rfl rfl rfl ⟨rfl, rfl, rfl, rfl, rfl⟩ rfl rfl rfl rfl rfl (by kernel_rfl) Try.func4 (by kernel_rfl)
    (of_decide_eq_true (by kernel_rfl)) (by unfold Func.isWrapper; first | (rw [if_pos (by decide +kernel)]; kernel_rfl) | (rw [if_neg (by decide +kernel)]; exact ⟨rfl, rfl⟩))
    (fun os started H enc _ F => joins_lifted os started H enc F)
#print axioms getoptJoins_holds
end Go.Proofs.Ytgbkgfmljcfhoaa
