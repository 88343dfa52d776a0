/- What the kernel reckons of the row (its forced cells): the rest, and the whole. No condition. -/
import Derived.Test.YtdldpehmcfbbeaaGreatDoorRows
import Derived.JoinedOf
import Derived.Test.YtdldpehmcfbbeaaGreatDoorBnI
namespace Go.Proofs.YtdldpehmcfbbeaaGreatDoor
theorem jf0 : (Rows.bufNoneRow.wf (OpenSpec.ofChange Rows.bufNoneSpec)) = true := by kernel_rfl
theorem jf1 : (laidOutB (Tryz.pinned.checked.prog)) = true := by kernel_rfl
theorem jf2 : (mapsRowed (Tryz.pinned.checked.prog)) = true := by kernel_rfl
theorem jf3 : ((Tryz.f3).params.all ((Tryz.pinned.checked.prog).readableRec ·)) = true := by kernel_rfl
theorem jf4 : (namedTie (Tryz.pinned.checked.prog) Rows.bufNoneRow.named Rows.bufNoneSpec.vars) = true := by kernel_rfl
theorem jf5 : ((Rows.bufNoneRow.stops == [])) = true := by kernel_rfl
theorem jf6 : (((Tryz.pinned.checked.prog).stops == [])) = true := by kernel_rfl
theorem jf7 : ((Rows.bufNoneRow.knobs == [])) = true := by kernel_rfl
theorem jf8 : (((Tryz.pinned.checked.prog).stopKnobs == [])) = true := by kernel_rfl
theorem jf13 : ((Rows.bufNoneRow.maps == ((Tryz.f3).params.toList ++ Rows.bufNoneSpec.plain.varTypes (Tryz.pinned.checked.prog)).any ((Tryz.pinned.checked.prog).mapsRec ·))) = true := by kernel_rfl
theorem jf14 : ((Rows.bufNoneRow.ifaces == ((Tryz.f3).params.toList ++ Rows.bufNoneSpec.plain.varTypes (Tryz.pinned.checked.prog)).any ((Tryz.pinned.checked.prog).ifacesRec ·))) = true := by kernel_rfl
theorem jf15 : ((Rows.bufNoneRow.mapsOut == (Tryz.pinned.checked.prog).mapsAmong (Tryz.f3).resultTypes.toList)) = true := by kernel_rfl
theorem jf16 : ((Rows.bufNoneRow.loops == ((Tryz.f3).params.toList ++ Rows.bufNoneSpec.plain.varTypes (Tryz.pinned.checked.prog)).any ((Tryz.pinned.checked.prog).loopsFrom ·))) = true := by kernel_rfl
theorem jf17 : ((Rows.bufNoneRow.wideKeys == ((Tryz.f3).params.toList ++ Rows.bufNoneSpec.plain.varTypes (Tryz.pinned.checked.prog) ++ (Tryz.f3).resultTypes.toList).any ((Tryz.pinned.checked.prog).wideKeysFrom ·))) = true := by kernel_rfl
theorem jf18 : (Rows.bufNoneSpec.vars.all ((Tryz.pinned.checked.prog).varReadable ·)) = true := by kernel_rfl
theorem jf19 : ((Tryz.f3).resultTypes.all (fun t => (Tryz.pinned.checked.prog).readableRec t && decide (t < (Tryz.pinned.checked.prog).types.size))) = true := by kernel_rfl
theorem jf20 : ((Rows.bufNoneRow.ifacesOut == (Tryz.f3).resultTypes.toList.any ((Tryz.pinned.checked.prog).ifacesRec ·))) = true := by kernel_rfl
theorem jf21 : ((Rows.bufNoneRow.loopsOut == (Tryz.f3).resultTypes.toList.any ((Tryz.pinned.checked.prog).loopsFrom ·))) = true := by kernel_rfl
theorem jf22 : ((Rows.bufNoneRow.plainKeys == (Tryz.pinned.checked.prog).plainKeys)) = true := by kernel_rfl
theorem jf23 : (Rows.bufNoneRow.shortTexts.isNone) = true := by kernel_rfl
theorem jf24 : ((Tryz.pinned.checked.prog).stopsHeard) = true := by kernel_rfl
theorem jf25 : ((Tryz.pinned.checked.prog).mayEnter) = true := by kernel_rfl
theorem jf26 : ((Rows.bufNoneRow.lifted == (Tryz.pinned.checked.prog).liftsFinal)) = true := by kernel_rfl
theorem jf27 : (((Tryz.pinned.checked.prog).make == some Rows.bufNoneRow.make)) = true := by kernel_rfl
theorem jf29 : ((Rows.bufNoneRow.pinned == Rows.bufNoneRow.pinnedBy)) = true := by kernel_rfl
theorem jf30 : ((Rows.bufNoneRow.veiled == ((Tryz.f3).params.toList ++ Rows.bufNoneSpec.plain.varTypes (Tryz.pinned.checked.prog) ++ (Tryz.f3).resultTypes.toList).any ((Tryz.pinned.checked.prog).veiledRec ·))) = true := by kernel_rfl
theorem jf31 : (Rows.bufNoneRow.veiledFits (Tryz.pinned.checked.prog) (Tryz.f3).params.toList ((Tryz.f3).params.toList ++ Rows.bufNoneSpec.plain.varTypes (Tryz.pinned.checked.prog) ++ (Tryz.f3).resultTypes.toList)) = true := by kernel_rfl
theorem andI {a b : Bool} (h : a = true) (k : b = true) : (a && b) = true := by rw [h, k]; rfl
theorem wn_closed : joinedFacts Tryz.pinned.checked.prog 3 Tryz.f3 Rows.bufNoneSpec Rows.bufNoneRow = true := by
  unfold joinedFacts
  exact andI (andI (andI (andI (andI (andI (andI (andI (andI (andI (andI (andI (andI (andI (andI (andI (andI (andI (andI (andI (andI (andI (andI (andI (andI (andI (andI (andI (andI (andI (andI (jf0) jf1) jf2) jf3) jf4) jf5) jf6) jf7) jf8) jf9) jf10) jf11) jf12) jf13) jf14) jf15) jf16) jf17) jf18) jf19) jf20) jf21) jf22) jf23) jf24) jf25) jf26) jf27) (by kernel_rfl)) jf29) jf30) jf31
end Go.Proofs.YtdldpehmcfbbeaaGreatDoor
