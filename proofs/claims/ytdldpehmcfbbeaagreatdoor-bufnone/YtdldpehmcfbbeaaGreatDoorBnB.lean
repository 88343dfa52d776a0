/- What the row of this seat wants: the two listed tables as the evaluator's memory has them, and a start that meets the condition. -/
import Derived.Test.YtdldpehmcfbbeaaGreatDoorCards
import Derived.Test.YtdldpehmcfbbeaaGreatDoorTie
import Derived.Test.YtdldpehmcfbbeaaGreatDoorBnX
import Derived.ProofKit
import Derived.Lay
import Derived.LaidMore
import Derived.OpenShut
import Derived.ChangeOld
import Derived.SizedLaws
import Derived.SevenTiedAt
import Derived.Lib.LaidTab
import Derived.Stop.LaidErr
import Derived.Stop.Joined
import Derived.Deep.DeepHandedRow
import Derived.HandedShaped
namespace Go.Proofs.YtdldpehmcfbbeaaGreatDoor
open Go.ChangeShapes Go.WideShapes Go.ChangeAt Go.RowKit
open Ev
theorem own : ownKnob Tryz.prog.godebug = none := by kernel_rfl
theorem laidOut : laidOutB Tryz.prog = true := by kernel_rfl
abbrev laidL : List (String × DataW Unit) := [("math/bits.deBruijn64tab", Rows.laid_math_bits_deBruijn64tab), ("unicode.White_Space", Rows.laid_unicode_White_Space), ("strings.asciiSpace", Rows.laid_strings_asciiSpace)]
set_option maxRecDepth 100000 in
theorem start_met (os : Os) (args : Array Value) : laidMetH Tryz.prog laidL ((World.laidAll Tryz.prog os laidL).forCall (fun _ _ => 0) ⟨#[], args, []⟩).memory := by
  rw [MakeChecks.laidMetH_plain _ _ _ (by kernel_rfl)]
  exact laidMet_laidAll _ (by kernel_rfl) (by kernel_rfl)
/-- As 'returnsInHanded_of_change_and', the world's shape kept. -/
theorem of_change_and_shaped {H : Type} {enc : TypeId × Value → H} {a : Assume} {C : Checked} {os : Os} {f : FuncId} {fn : Func} {s : ChangeSpec} {conds : List PathCond} {apart fresh handsOn again : Bool} {X : World → Array Value → Prop}
    (hX : ∀ (w w' : World) (args : Array Value), w.heap = w'.heap → X w args → X w' args)
    (own : ownKnob C.prog.godebug = none) (started : os.Started) (noInit : C.prog.inits.idxOf? f = none) (hfn : C.prog.funcs[f]? = some fn)
    (witness : ∃ (w : World) (tape : Tape) (i : Input), w.os = os ∧ (w.forCall tape i).Shaped C.prog ∧ i.vars = [] ∧ Input.okWide C.prog (w.forCall tape i) .any w.heap.size f i ∧
      ((s.pre enc C.prog fn conds apart (w.forCall tape i).memory i.args ∧ X (w.forCall tape i).memory i.args) ∧ sizedMet enc C.prog fn (OpenSpec.ofChange s) apart (w.forCall tape i).memory i.args) ∧ a.holds C.prog (lone (Frame.enter C.prog f i.args .normal) [] (w.forCall tape i)))
    (contract : ∀ (W : World) (base : Nat) (args : Array Value) (ds gs : List (DataW H)) (before : List MemPlace),
      (∀ (j : Nat) t v, fn.params[j]? = some t → args[j]? = some v → Value.okWide C.prog W .any base t v) →
      DataW.Whole enc C.prog fn.params.toList s.vars apart W args.toList ds gs before →
      conds.all (PathCond.test C.prog ⟨fn.params.toList, ds, s.plain.varTypes C.prog, gs⟩) = true →
      (DataW.weightsEach C.prog (fn.params.toList ++ s.plain.varTypes C.prog) (ds ++ gs)).all (· ≤ reachBytes) = true → X W args →
      W.ShapedOpen C.prog →
      a.holds C.prog (lone (Frame.enter C.prog f args .normal) [] W) →
      Calls C.prog f args W fun e W' => ∃ v, e = .returned v ∧ s.post enc C.prog fn apart fresh handsOn again W args v W') :
    ReturnsInHanded a C os f .any (fun w args => (s.pre enc C.prog fn conds apart w args ∧ X w args) ∧ sizedMet enc C.prog fn (OpenSpec.ofChange s) apart w args) (s.post enc C.prog fn apart fresh handsOn again) := by
  refine returnsInHanded_of_calls own started noInit witness ?_
  intro w tape i _ hsh _ hok hpre hholds
  obtain ⟨_, _, _, fn', hfn', _, _, _, _, hval⟩ := hok
  have e : fn' = fn := Option.some.inj (hfn'.symm.trans hfn)
  subst e
  obtain ⟨⟨⟨ds, gs, before, hw, hc⟩, hx⟩, hz⟩ := hpre
  have hw' := DataW.Whole.of_heap (w' := w.forCall tape i) (by rfl) hw
  refine (contract (w.forCall tape i) w.heap.size i.args ds gs before hval hw' hc (hz.weights hw) (hX _ _ _ (by rfl) hx) hsh hholds).mono fun e W' ⟨v, he, hp⟩ => ?_
  subst he
  exact ChangeSpec.post_blind hp
/-! The tables -/
def debZ : List Int := [0, 1, 56, 2, 57, 49, 28, 3, 61, 58, 42, 50, 38, 29, 17, 4, 62, 47, 59, 36, 45, 43, 51, 22, 53, 39, 33, 30, 24, 18, 12, 5, 63, 55, 48, 27, 60, 41, 37, 16, 46, 35, 44, 21, 52, 32, 23, 11, 54, 26, 40, 15, 34, 20, 31, 10, 25, 14, 19, 9, 13, 8, 7, 6]
def spZ : List Int := (List.range 256).map fun i => if (9 ≤ i ∧ i ≤ 13) ∨ i = 32 then 1 else 0
theorem debData : Rows.laid_math_bits_deBruijn64tab (H := Unit) = Lib.tabData .u8 debZ := rfl
set_option maxRecDepth 100000 in
theorem spData : Rows.laid_strings_asciiSpace (H := Unit) = Lib.tabData .u8 spZ := by kernel_rfl
theorem gDeb : Tryz.prog.globalNamed "math/bits.deBruijn64tab" = some 3 := by kernel_rfl
theorem gSp : Tryz.prog.globalNamed "strings.asciiSpace" = some 1 := by kernel_rfl
theorem of_laid {W : World} (h : laidMetH Tryz.prog laidL W) : (∀ j, j < 64 → W.cell? ⟨3, j, none⟩ = some (.int .u8 (debZ.getD j 0))) ∧ ∀ j, j < 256 → W.cell? ⟨1, j, none⟩ = some (.int .u8 (spZ.getD j 0)) := by
  rw [MakeChecks.laidMetH_plain _ _ _ (by kernel_rfl)] at h
  have h3 : laidMet Tryz.prog [("strings.asciiSpace", Rows.laid_strings_asciiSpace)] W := h.tail.tail
  refine ⟨?_, ?_⟩
  · have hT := Lib.tabIs_of_head (k := .u8) (zs := debZ) (t := 47) (e := 5) (n := 64) gDeb (by kernel_rfl) (by kernel_rfl) (by kernel_rfl) (by kernel_rfl) (by kernel_rfl) (rest := [("unicode.White_Space", Rows.laid_unicode_White_Space), ("strings.asciiSpace", Rows.laid_strings_asciiSpace)]) (by rw [← debData]; exact h)
    exact fun j hj => hT.cell gDeb j (by simpa [debZ] using hj)
  · have hT := Lib.tabIs_of_head (k := .u8) (zs := spZ) (t := 345) (e := 5) (n := 256) gSp (by kernel_rfl) (by kernel_rfl) (by kernel_rfl) (by kernel_rfl) (by kernel_rfl) (rest := []) (by rw [← spData]; exact h3)
    exact fun j hj => hT.cell gSp j (by simpa [spZ] using hj)
/-- The rows of a program's variables as they stand at the beginning. -/
noncomputable def row0 (g : Nat) : Array Value × TypeId := (((begin Tryz.prog (fun _ _ => 0) default).world.heap[g]?).bind Obj.row?).getD default
theorem at_shape {W : World} (h : W.ShapedOpen Tryz.prog) {g : Nat} (hg : g < Tryz.prog.globals.size) (hr : ((begin Tryz.prog (fun _ _ => 0) default).world.heap[g]?).bind Obj.row? = some (row0 g)) : ∃ cs, W.heap[g]? = some (.cells cs (row0 g).2) ∧ cs.size = (row0 g).1.size :=
  let ⟨cs, a, b, _⟩ := h.1 g (row0 g).1 (row0 g).2 hg hr
  ⟨cs, a, b⟩
theorem row_sat {ρ : Env} {b n : Nat} {per : Per} {tr : Tr V} {l : List Int} {W : World} {cs : Array Value} {t : TypeId} (hn : n ≤ 549755813887)
    (hr : ((List.range n).all fun i => match rget per tr i with | some v => eqV 3 v (.int .u8 (l.getD i 0)) | none => false) = true)
    (hc : ∀ j, j < n → W.cell? ⟨b, j, none⟩ = some (.int .u8 (l.getD j 0))) (hb : W.heap[b]? = some (.cells cs t)) (hs : cs.size = n) (sz : Nat) : SatO ρ ⟨b, 0, 256⟩ (.row t sz n per tr false) (.cells cs t) := by
  refine ⟨cs, (0, 0), rfl, fun i hi h => rfl, fun i v hi hv => ?_, .inr ⟨rfl, rfl, hs⟩, hn⟩
  have h1 := List.all_eq_true.1 hr i (List.mem_range.2 hi)
  rw [hv] at h1
  have h2 := eqV_ok 3 _ _ h1
  subst h2
  have h3 := hc i hi
  rw [cell_of hb] at h3
  exact ⟨_, by simpa using h3, rfl⟩
def rho0 : Env := fun x => if x < 5 then some ⟨x, 0, 256⟩ else none
noncomputable def ob0 : O := (h0.tr.get 1).getD (.defd none)
noncomputable def ob3 : O := (h0.tr.get 3).getD (.defd none)
theorem h0_is : h0 = ⟨15, ((Tr.nil : Tr O).put 3 ob3).put 1 ob0⟩ := by kernel_rfl
noncomputable def per0 : Per := match ob0 with | .row _ _ _ p _ _ => p | _ => noPer
noncomputable def per3 : Per := match ob3 with | .row _ _ _ p _ _ => p | _ => noPer
noncomputable def tr0 : Tr V := match ob0 with | .row _ _ _ _ t _ => t | _ => .nil
noncomputable def tr3 : Tr V := match ob3 with | .row _ _ _ _ t _ => t | _ => .nil
theorem ob0_is : ob0 = .row 345 256 256 per0 tr0 false := by kernel_rfl
theorem ob3_is : ob3 = .row 47 64 64 per3 tr3 false := by kernel_rfl
set_option maxRecDepth 100000 in
theorem st0 {W : World} (hL : laidMetH Tryz.prog laidL W) (hS : W.ShapedOpen Tryz.prog) : St 5 (fun _ => True) rho0 h0 W := by
  obtain ⟨hD, hP⟩ := of_laid hL
  obtain ⟨c0, a0, b0⟩ := at_shape hS (g := 1) (by decide +kernel) (by kernel_rfl)
  obtain ⟨c3, a3, b3⟩ := at_shape hS (g := 3) (by decide +kernel) (by kernel_rfl)
  obtain ⟨c4, a4, b4⟩ := at_shape hS (g := 4) (by decide +kernel) (by kernel_rfl)
  rw [show (row0 1).2 = 345 by kernel_rfl] at a0
  rw [show (row0 1).1.size = 256 by kernel_rfl] at b0
  rw [show (row0 3).2 = 47 by kernel_rfl] at a3
  rw [show (row0 3).1.size = 64 by kernel_rfl] at b3
  have h4 : 4 < W.heap.size := (Array.getElem?_eq_some_iff.1 a4).1
  have hget : ∀ x o, h0.tr.get x = some o → (x = 1 ∧ o = ob0) ∨ (x = 3 ∧ o = ob3) := by
    intro x o h
    have h : ((((Tr.nil : Tr O).put 3 ob3).put 1 ob0)).get x = some o := by rw [h0_is] at h; exact h
    rcases get_put h with ⟨e1, e2⟩ | ⟨_, h⟩
    · exact .inl ⟨e1, e2.symm⟩
    · rcases get_put h with ⟨e1, e2⟩ | ⟨_, h⟩
      · exact .inr ⟨e1, e2.symm⟩
      · rw [get_nil] at h; cases h
  refine ⟨fun x o _ h => ?_, fun x y o o' k k' _ _ _ _ h1 h2 e => ?_, fun g hg => ⟨256, by simp [rho0, hg]⟩, fun x k h => ?_⟩
  · rcases hget x o h with ⟨rfl, rfl⟩ | ⟨rfl, rfl⟩
    · exact ⟨⟨1, 0, 256⟩, _, rfl, a0, by rw [ob0_is]; exact row_sat (by omega) (by kernel_rfl) hP a0 b0 256⟩
    · exact ⟨⟨3, 0, 256⟩, _, rfl, a3, by rw [ob3_is]; exact row_sat (by omega) (by kernel_rfl) hD a3 b3 64⟩
  · unfold rho0 at h1 h2
    split at h1
    · split at h2
      · injection h1 with h1
        injection h2 with h2
        subst h1 h2
        exact e
      · cases h2
    · cases h1
  · unfold rho0 at h
    split at h
    · injection h with h
      subst h
      show x < W.heap.size
      omega
    · cases h
theorem h0_tabs : ∀ x o, h0.tr.get x = some o → x < 5 ∧ On 10 x ∧ o.plain = true := by
  intro x o h
  have h : ((((Tr.nil : Tr O).put 3 ob3).put 1 ob0)).get x = some o := by rw [h0_is] at h; exact h
  rcases get_put h with ⟨e1, e2⟩ | ⟨_, h⟩
  · subst e1 e2
    exact ⟨by decide, by unfold On; decide, by kernel_rfl⟩
  · rcases get_put h with ⟨e1, e2⟩ | ⟨_, h⟩
    · subst e1 e2
      exact ⟨by decide, by unfold On; decide, by kernel_rfl⟩
    · rw [get_nil] at h; cases h
end Go.Proofs.YtdldpehmcfbbeaaGreatDoor
