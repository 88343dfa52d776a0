/- GetoptParses: for whatever spec and arguments that hold together at most 1048576 values and letters the statement's function answers true and leaves them as they were. Condition: the second form's bound. -/
import Derived.Test.YtgbkgfmljcfhoaaRows
import Derived.Test.YtgbkgfmljcfhoaaGe4
import Derived.Test.YtgbkgfmljcfhoaaGe5
import Derived.Test.YtgbkgfmljcfhoaaGr1
import Derived.ProofKit
import Derived.ChangeMaps5
import Derived.JoinedCond
import Derived.ChangeOld
namespace Go.Proofs.Ytgbkgfmljcfhoaa
open Go.ChangeShapes Go.WideShapes Go.ChangeAt Go.RowKit
open Go.ChangeMaps (open_string shut_string)
theorem own : ownKnob Try.prog.godebug = none := by kernel_rfl
theorem laidOut : laidOutB Try.prog = true := by kernel_rfl
theorem parses_walk (spec : List UInt8) (args : List (List UInt8)) (a : Option Addr) (c : Nat) (w : World) (hs : spec.length ≤ 2 ^ 47) (hS : Strs w a args) (hc : args.length ≤ c) (hm : c < 2 ^ 63) (hrn : a = none → c = 0 ∧ args = []) (hM30 : wt args ≤ 2 ^ 30) :
    Calls Try.prog 3 #[.string ⟨spec.toArray⟩, .slice a args.length c] w fun e W => e = .returned (.bool true) ∧ Below w.heap.size w W := by
  cases a with
  | none =>
    obtain ⟨rfl, rfl⟩ := hrn rfl
    exact parses_none spec w hs
  | some ad => exact parses_some spec args ad c w hs hS hc hm hM30
theorem getoptParses_contract (H : Type) (enc : TypeId × Value → H) (W : World) (base : Nat) (args : Array Value) (ds gs : List (DataW H)) (before : List MemPlace)
    (hval : ∀ (j : Nat) t v, Try.f3.params[j]? = some t → args[j]? = some v → Value.okWide Try.prog W .any base t v)
    (hW : DataW.Whole enc Try.prog Try.f3.params.toList Rows.getoptParsesSpec.vars false W args.toList ds gs before) (hk : Rows.uptoSmall H (ds ++ gs) = true) :
    Calls Try.prog 3 args W fun e W' => ∃ v, e = .returned v ∧ Rows.getoptParsesSpec.post enc Try.prog Try.f3 false true false false W args v W' := by
  have hW' := hW
  obtain ⟨p, q, hA0, hV, rfl, hfz, hnd⟩ := hW
  have hA : DataW.TrodAll enc Try.prog W 0 (fun _ => true) true Try.f3.params.toList args.toList ds p := hA0
  rw [Try.params3] at hA hval
  obtain ⟨v0, v2, d0, d2, p0, p2, rfl, rfl, rfl, h0, h2⟩ := trodAll_two hA
  obtain ⟨rfl, rfl⟩ := trodVars_none hV
  obtain ⟨y, rfl, rfl, rfl, wy⟩ := open_string Try.underlying9 (hval 0 9 v0 rfl rfl) h0
  obtain ⟨ra, rn, rc, rfl⟩ := okWide_slice Try.underlying22 (hval 1 22 v2 rfl rfl)
  have lt2 : ∀ z ∈ p2, z.block < W.heap.size := by obtain ⟨m, hm⟩ := h2; exact DataW.trod_lt m _ _ _ hm
  have hk' : Rows.uptoBulkAll ([DataW.lit (.string y.data.toList), d2] ++ ([] : List (DataW H))) ≤ 1048576 := of_decide_eq_true hk
  simp only [List.append_nil, Rows.uptoBulkAll, Rows.uptoBulk] at hk'
  obtain ⟨rs, hrl, hR, hrn, hrc, hrm, hrb, _⟩ : ∃ ss : List (List UInt8), ss.length = rn ∧ Strs W ra ss ∧ (ra = none → rc = 0 ∧ ss = []) ∧ rn ≤ rc ∧ rc ≤ maxLen ∧ wt ss ≤ Rows.uptoBulk d2 ∧ (∀ s ∈ ss, s.length ≤ maxLen) := by
    obtain ⟨m, hm⟩ := h2; exact strs_open hm
  have hrm' : rc < 2 ^ 63 := by unfold maxLen at hrm; omega
  have wk := parses_walk y.data.toList rs ra rc W (by omega) hR (by omega) hrm' hrn (by omega)
  rw [hrl] at wk
  clear hA0
  refine wk.mono fun e W' ⟨he, bel⟩ => ?_
  subst he
  exact ⟨_, rfl, _, _, _, [], _, [], hW', trodAll_mk1 (shut_bool Try.underlying4 _), trodAll_mk2 (shut_string Try.underlying9 wy) (Below.trod laidOut (by kernel_rfl) (of_decide_eq_true (by kernel_rfl)) h2 bel lt2), rfl, bel.frame _, fun h => by cases h⟩
set_option maxRecDepth 100000 in
theorem getoptParses_lifted (os : Os) (started : os.Started) (H : Type) (enc : TypeId × Value → H) (F : Stop.Interp) :
    ReturnsInHanded {} Try.checked os 3 .any ((Rows.OpenSpec.upto Rows.getoptParsesSpec).pre6 enc Try.prog Try.f3 Rows.getoptParsesUptoRow.domain false) (((Rows.OpenSpec.upto Rows.getoptParsesSpec).at F).post enc Try.prog Try.f3 false true false false) := by
  refine returnsInHanded_of_cond (C := Try.checked) (s := Rows.OpenSpec.upto Rows.getoptParsesSpec) (k := Rows.uptoSmall) rfl own started (by kernel_rfl) Try.func3
    (OpenSpec.witness (enc := enc) (C := Try.checked) (s := Rows.OpenSpec.upto Rows.getoptParsesSpec) (k := Rows.uptoSmall) rfl false ⟨#[], #[.string .empty, .slice none 0 0], []⟩ 8 (by kernel_rfl) (by kernel_rfl) (by kernel_rfl)
      (x := ([.lit (.string []), .nil], [], [])) (by kernel_rfl) rfl (by kernel_rfl)) ?_
  intro W base args ds gs before hval hW _ hk _
  exact getoptParses_contract H enc W base args ds gs before hval hW hk
theorem getoptParses_holds : Rows.GetoptParsesUptoSaid :=
  OpenClaim.holds_of_cond 3 Try.f3 rfl rfl rfl rfl rfl rfl rfl ⟨rfl, rfl, rfl, rfl, rfl⟩ rfl rfl rfl rfl rfl (by kernel_rfl) Try.func3 (by kernel_rfl)
    (of_decide_eq_true (by kernel_rfl)) (by unfold Func.isWrapper; first | (rw [if_pos (by decide +kernel)]; kernel_rfl) | (rw [if_neg (by decide +kernel)]; exact ⟨rfl, rfl⟩))
    (fun os started H enc _ F => getoptParses_lifted os started H enc F)
#print axioms getoptParses_holds
end Go.Proofs.Ytgbkgfmljcfhoaa
