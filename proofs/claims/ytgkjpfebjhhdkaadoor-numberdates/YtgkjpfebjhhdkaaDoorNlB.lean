/- What the rows of this seat share: the listed tables as the walks want them, and a start that meets the condition. -/
import Derived.Test.YtgkjpfebjhhdkaaDoorCards
import Derived.Test.YtgkjpfebjhhdkaaDoorTie
import Derived.Test.YtgkjpfebjhhdkaaDoorNl1
import Derived.ProofKit
import Derived.Lay
import Derived.LaidMore
import Derived.OpenShut
import Derived.ChangeOld
import Derived.SizedLaws
import Derived.SevenTiedAt
import Derived.Lib.LaidTab
import Derived.Stop.LaidErr
namespace Go.Proofs.YtgkjpfebjhhdkaaDoor
open Go.ChangeShapes Go.WideShapes Go.ChangeAt Go.RowKit
theorem own : ownKnob Tryd.prog.godebug = none := by kernel_rfl
theorem laidOut : laidOutB Tryd.prog = true := by kernel_rfl
abbrev laidL : List (String × DataW Unit) := [("math/bits.deBruijn32tab", Rows.laid_math_bits_deBruijn32tab), ("math/bits.deBruijn64tab", Rows.laid_math_bits_deBruijn64tab), ("internal/strconv.uint64pow10", Rows.laid_internal_strconv_uint64pow10), ("tinsel/number.daysAhead", Rows.laid_tinsel_number_daysAhead)]
set_option maxRecDepth 100000 in
theorem start_met (os : Os) (args : Array Value) : laidMetH Tryd.prog laidL ((World.laidAll Tryd.prog os laidL).forCall (fun _ _ => 0) ⟨#[], args, []⟩).memory := by
  rw [MakeChecks.laidMetH_plain _ _ _ (by kernel_rfl)]
  exact laidMet_laidAll _ (by kernel_rfl) (by kernel_rfl)
/-- An array of two arrays of integers holds their numbers, cell for cell. -/
theorem cells_of_tab2 {H : Type} {enc : TypeId × Value → H} {P : Program} {w : World} {base : Nat} {sp : Nat → Bool} {held : Bool} {fuel : Nat} {t t1 e : TypeId} {n : Nat} {k : IntKind} {cs : List Value} {z0 z1 : List Int} {p : List MemPlace}
    (ht : P.underlying t = some (.array 2 t1)) (ht1 : P.underlying t1 = some (.array n e)) (he : P.underlying e = some (.int k)) (hce : P.cellsOf e = 1) (hc1 : P.cellsOf t1 = n) (hct : P.cellsOf t = 2 * n)
    (h : DataW.trod enc P w base sp held fuel t cs = some (.agg [Lib.tabData k z0, Lib.tabData k z1], p)) : cs = (z0 ++ z1).map fun z => Value.int k z := by
  cases fuel with
  | zero => simp [DataW.trod] at h
  | succ fuel =>
    simp only [DataW.trod, ht, hc1, hct] at h
    split at h
    · rename_i hl
      obtain ⟨xs, hm, hx⟩ := Option.map_eq_some_iff.1 h
      have hxs : xs.map (·.1) = [Lib.tabData k z0, Lib.tabData k z1] := by
        have := congrArg Prod.fst hx
        simpa using this
      obtain ⟨b0, hb0, hf0⟩ := Lib.mapM_at hm 0 0 (by simp)
      obtain ⟨b1, hb1, hf1⟩ := Lib.mapM_at hm 1 1 (by simp)
      have e0 : b0.1 = Lib.tabData k z0 := by
        have h2 : (xs.map (·.1))[0]? = some b0.1 := by simp [hb0]
        rw [hxs] at h2
        simpa using h2.symm
      have e1 : b1.1 = Lib.tabData k z1 := by
        have h2 : (xs.map (·.1))[1]? = some b1.1 := by simp [hb1]
        rw [hxs] at h2
        simpa using h2.symm
      have c0 := Lib.cells_of_tab (zs := z0) (p := b0.2) ht1 he hce hc1 (hf0.trans (by rw [← e0]))
      have c1 := Lib.cells_of_tab (zs := z1) (p := b1.2) ht1 he hce hc1 (hf1.trans (by rw [← e1]))
      rw [List.map_append, ← c0, ← c1]
      simp only [Nat.zero_mul, List.drop_zero, Nat.one_mul]
      rw [List.take_of_length_le (l := cs.drop n) (by simp; omega), List.take_append_drop]
    · cases h
theorem daysData : Rows.laid_tinsel_number_daysAhead (H := Unit) = .agg [Lib.tabData .i64 [0, 31, 59, 90, 120, 151, 181, 212, 243, 273, 304, 334, 365], Lib.tabData .i64 [0, 31, 60, 91, 121, 152, 182, 213, 244, 274, 305, 335, 366]] := rfl
theorem powData : Rows.laid_internal_strconv_uint64pow10 (H := Unit) = Lib.tabData .u64 Lib.pow10Tab := rfl
/-- What the condition gives the walks. -/
theorem of_laid {W : World} (h : laidMetH Tryd.prog laidL W) : DT W ∧ P10 W := by
  rw [MakeChecks.laidMetH_plain _ _ _ (by kernel_rfl)] at h
  have h3 : laidMet Tryd.prog [("internal/strconv.uint64pow10", Rows.laid_internal_strconv_uint64pow10), ("tinsel/number.daysAhead", Rows.laid_tinsel_number_daysAhead)] W := h.tail.tail
  have h4 : laidMet Tryd.prog [("tinsel/number.daysAhead", Rows.laid_tinsel_number_daysAhead)] W := h3.tail
  refine ⟨?_, ?_⟩
  · rw [daysData] at h4
    obtain ⟨ps, ⟨g', t', cs, fuel, p, q, hg', ht', hvar, hd, _, _⟩, _⟩ := h4
    obtain rfl := Option.some.inj ((show Tryd.prog.globalNamed "tinsel/number.daysAhead" = some 0 by kernel_rfl).symm.trans hg')
    obtain rfl := Option.some.inj ((show (Tryd.prog.globals[0]?).map (·.type) = some 104 by kernel_rfl).symm.trans ht')
    show World.var? _ _ _ = _
    have hc := cells_of_tab2 (t1 := 103) (e := 3) (n := 13) (k := .i64) Tryd.underlying104 Tryd.underlying103 Tryd.underlying3 (by kernel_rfl) (by kernel_rfl) (by kernel_rfl) hd
    rw [hvar, show (List.map (fun z => Value.int IntKind.i64 z) Na.daTab) = cs.toList from hc.symm]
  · rw [powData] at h3
    exact Lib.tabIs_of_head (g := 1) (t := 120) (e := 64) (n := 20) (by kernel_rfl) (by kernel_rfl) Tryd.underlying120 Tryd.underlying64 (by kernel_rfl) (by kernel_rfl) h3
theorem list_of (s : ByteArray) : s = ⟨s.data.toList.toArray⟩ := rfl
end Go.Proofs.YtgkjpfebjhhdkaaDoor
