/- PathSplits, its tied card of the second form: for whatever text and parts of a path that hold together at most 1048576 letters and values, the statement's function answers true and leaves them as they were. Conditions: that bound; the two tables of unicode/utf8 start as the program's text lays them (the row's own). -/
import Derived.Test.YteggjpogaljafaaDoorPcU
import Derived.Test.YteggjpogaljafaaDoorCleansL
import Derived.Test.YteggjpogaljafaaDoorPc6
import Derived.Lib.SmallJoins
import Derived.ChangeMaps5
namespace Go.Proofs.YteggjpogaljafaaDoor
open Go.ChangeShapes Go.WideShapes Go.ChangeAt Go.RowKit
open Go.ChangeMaps (open_string shut_string)
theorem bulk_strs {H : Type} : ∀ ss : List ByteArray, Rows.uptoBulkAll (strs (H := H) ss) = (ss.map (fun s => s.data.toList.length)).sum + ss.length
  | [] => rfl
  | t :: r => by
    have ih := bulk_strs (H := H) r
    simp only [strs, List.map_cons, Rows.uptoBulkAll, Rows.uptoBulk, List.sum_cons, List.length_cons] at ih ⊢
    omega
set_option maxRecDepth 100000 in
theorem pathSplits_reads (os : Os) {H : Type} (enc : TypeId × Value → H) : ∃ places, DataW.whole enc Tryd.prog ((World.laidAll Tryd.prog os laidL).forCall (fun _ _ => 0) ⟨#[], #[.string ⟨#[]⟩, .agg #[.bool false, .slice none 0 0, .bool false]], []⟩).memory Tryd.f3.params.toList Rows.pathSplitsSpec.vars false #[Value.string ⟨#[]⟩, Value.agg #[.bool false, .slice none 0 0, .bool false]].toList 8 = some ([.lit (.string []), .agg [.lit (.bool false), .nil, .lit (.bool false)]], [], places) :=
  ⟨[], by kernel_rfl⟩
set_option maxRecDepth 100000 in
theorem pathSplits_lifted (os : Os) (started : os.Started) (H : Type) (enc : TypeId × Value → H) (F : Stop.Interp) :
    ReturnsInHanded {} Tryd.checked os 3 .any ((Rows.OpenSpec.upto Rows.pathSplitsSpec).preRow enc Tryd.prog Tryd.f3 Rows.pathSplitsUptoRow.domain false Rows.pathSplitsUptoRow.laid) (((Rows.OpenSpec.upto Rows.pathSplitsSpec).at F).post enc Tryd.prog Tryd.f3 false true false false) := by
  obtain ⟨places, hx⟩ := pathSplits_reads os enc
  refine returnsInHanded_of_row (C := Tryd.checked) (s := Rows.OpenSpec.upto Rows.pathSplitsSpec) own started (by kernel_rfl) Tryd.func3
    (witness_row_sh (enc := enc) (C := Tryd.checked) false (World.laidAll Tryd.prog os laidL) #[.string ⟨#[]⟩, .agg #[.bool false, .slice none 0 0, .bool false]] (World.laidAll_os _ _ _) (World.shaped_of_ZipB (by kernel_rfl) (by kernel_rfl)) (by kernel_rfl)
      (OpenSpec.preRow_of_cond 8 hx (by kernel_rfl) (fun k hk => by cases hk; kernel_rfl) (by kernel_rfl) (start_met os _))) ?_
  intro W base args ds gs before hval0 hW _ hcond _ _ _ _
  have hk : Rows.uptoSmall H (ds ++ gs) = true := hcond _ rfl
  have hval : ∀ (j : Nat) t v, Tryd.f3.params[j]? = some t → args[j]? = some v → Value.okWide Tryd.prog W .any base t v := hval0
  have hW' := hW
  obtain ⟨p, q, hA0, hV, rfl, hfz, hnd⟩ := hW
  have hA : DataW.TrodAll enc Tryd.prog W 0 (fun _ => true) true Tryd.f3.params.toList args.toList ds p := hA0
  rw [Tryd.params3] at hA hval
  obtain ⟨v0, v1, d0, d1, p0, p1, rfl, rfl, rfl, h0, h1⟩ := trodAll_two hA
  obtain ⟨rfl, rfl⟩ := trodVars_none hV
  obtain ⟨x, rfl, rfl, rfl, wx⟩ := open_string Tryd.underlying9 (hval 0 9 v0 rfl rfl) h0
  have lt1 : ∀ z ∈ p1, z.block < W.heap.size := by obtain ⟨m, hm⟩ := h1; exact DataW.trod_lt m _ _ _ hm
  have h1' := h1
  obtain ⟨c0, c1, c2, y0, y1, y2, m, rfl, rfl, rfl, hy0, hy1, hy2⟩ := Go.Joins.open_agg3 Tryd.underlying24 (by kernel_rfl) (by kernel_rfl) (hval 1 24 v1 rfl rfl) h1
  obtain ⟨b0, e0, rfl⟩ := DataW.trod_bool Tryd.underlying4 hy0
  obtain ⟨b2, e2, rfl⟩ := DataW.trod_bool Tryd.underlying4 hy2
  simp at e0 e2
  subst e0 e2
  have hb := of_decide_eq_true hk
  simp only [List.append_nil, Rows.uptoBulkAll, Rows.uptoBulk] at hb
  have k1 : ∃ (ad : Option Addr) (len cap : Nat) (ss : List ByteArray), c1 = .slice ad len cap ∧ ((ad = none ∧ len = 0 ∧ cap = 0 ∧ ss = []) ∨ ∃ x : Addr, ad = some x ∧ len ≤ cap ∧ ss.length = cap ∧ ∀ i, i < ss.length → W.cell? (x.add i) = some (.string (ss.getD i ByteArray.empty))) ∧ ((ss.take len).map (fun s => s.data.toList.length)).sum + (ss.take len).length ≤ 1048576 := by
    rcases open_strings Tryd.underlying22 Tryd.underlying9 (by kernel_rfl) hy1 with ⟨hcs, _⟩ | ⟨z, l, c, ss, hcs, _, hl, hm, hz, hd, hcell, _⟩
    · simp at hcs
      exact ⟨none, 0, 0, [], hcs, .inl ⟨rfl, rfl, rfl, rfl⟩, by simp⟩
    · simp at hcs
      subst hd
      simp only [Rows.uptoBulk, bulk_strs] at hb
      exact ⟨some z, l, c, ss, hcs, .inr ⟨z, rfl, hl, by simpa using hz, hcell⟩, by omega⟩
  clear hA0 hval0 hcond hk
  obtain ⟨ad, len, cap, ss, rfl, hin, hsum⟩ := k1
  obtain ⟨hl, hS⟩ := strs_in hin
  have hlc : len ≤ cap ∧ (ad = none → cap = 0) := by
    rcases hin with ⟨rfl, rfl, rfl, _⟩ | ⟨z, rfl, h, _⟩
    · exact ⟨Nat.le_refl _, fun _ => rfl⟩
    · exact ⟨h, fun h => by cases h⟩
  have hjn := jn_le_of ((ss.take len).map (·.data.toList))
  rw [List.map_map, hl] at hjn
  have hl2 : (ss.take len).length = len := by simpa using hl
  have wk := splits_walk x.data.toList b0 b2 ((ss.take len).map (·.data.toList)) ad cap W (by omega) hS (by omega) (by omega) hlc.2 (by
    refine Nat.le_trans hjn ?_
    rw [hl2] at hsum
    have e : ((ss.take len).map (List.length ∘ fun x => x.data.toList)).sum = ((ss.take len).map (fun s => s.data.toList.length)).sum := rfl
    omega)
  rw [hl] at wk
  refine wk.mono fun e W' ⟨he, bel⟩ => ?_
  subst he
  exact ⟨_, rfl, _, _, _, [], _, [], hW', trodAll_mk1 (shut_bool Tryd.underlying4 _), trodAll_mk2 (shut_string Tryd.underlying9 wx) (Below.trod laidOut (by kernel_rfl) (of_decide_eq_true (by kernel_rfl)) h1' bel lt1), rfl, bel.frame _, fun h => by cases h⟩
theorem pathSplitsUpto_holds : Rows.PathSplitsUptoSaid :=
  OpenClaim.holds_of_cond 3 Tryd.f3 rfl rfl rfl rfl rfl rfl rfl ⟨rfl, rfl, rfl, rfl, rfl⟩ rfl rfl rfl rfl rfl (by kernel_rfl) Tryd.func3 (by kernel_rfl)
    (of_decide_eq_true (by kernel_rfl)) (by unfold Func.isWrapper; first | (rw [if_pos (by decide +kernel)]; kernel_rfl) | (rw [if_neg (by decide +kernel)]; exact ⟨rfl, rfl⟩))
    (fun os started H enc _ F => by rw [OpenClaim.pre_eq_preRow]; exact pathSplits_lifted os started H enc F)
theorem pathSplitsUpto_card : Rows.PathSplitsUptoCardSaid :=
  Claim7.holds_tied_plain_at .later [] [.data, .pinned] true (true, "602d9ff8018668b2d97263516f97be7d02c127d89821c94aa31b5bded8902d77") false
    pathSplitsUpto_holds (fun _ h => by cases h) (by kernel_rfl) (fun _ h => by cases h) pathSplitsUpto_row_tie rfl ⟨rfl, rfl⟩ (by kernel_rfl) rfl
    (fun f fn hf hfn => by
      obtain rfl : f = 3 := Option.some.inj ((show Tryd.prog.funcNamed "tinsel/tinsellaw03.PathSplits" = some 3 by kernel_rfl).symm.trans hf) |>.symm
      obtain rfl : fn = Tryd.f3 := (Option.some.inj (Tryd.func3.symm.trans hfn)).symm
      exact ⟨by kernel_rfl, fun j t ht => by
        rw [Tryd.params3] at ht
        have hm : t ∈ [9, 24] := by simpa using Array.mem_of_getElem? ht
        have hall : ([9, 24].all fun u => !Tryd.prog.wantsStandIn u) = true := by kernel_rfl
        exact (show Tryd.prog.wantsStandIn t = false by simpa using List.all_eq_true.1 hall t hm)⟩)
    (by kernel_rfl)
#print axioms pathSplitsUpto_card
end Go.Proofs.YteggjpogaljafaaDoor
