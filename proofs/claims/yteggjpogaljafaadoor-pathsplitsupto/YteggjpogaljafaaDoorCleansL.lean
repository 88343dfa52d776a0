/- PathCleans, its tied card: for whatever text and list of texts the statement's function answers true and leaves them as they were. Condition (the row's own): the two tables of unicode/utf8 start as the program's text lays them. -/
import Derived.Test.YteggjpogaljafaaDoorPcB
import Derived.Test.YteggjpogaljafaaDoorPc2
import Derived.ChangeMaps5
import Derived.SliceStrings
namespace Go.Proofs.YteggjpogaljafaaDoor
open Go.ChangeShapes Go.WideShapes Go.ChangeAt Go.RowKit
open Go.ChangeMaps (open_string shut_string)
theorem spot_none {w : World} {a : Addr} {v : Value} (h : w.cell? a = some v) : a.spot = none := by
  unfold World.cell? at h
  split at h
  · split at h
    · exact absurd h (by simp)
    · rename_i hs
      cases e : a.spot with
      | none => rfl
      | some x => rw [e] at hs; simp at hs
  · exact absurd h (by simp)
theorem mem_weights {H : Type} {P : Program} (e : TypeId) : ∀ (ss : List ByteArray) (s : ByteArray), s ∈ ss → s.data.toList.length ∈ DataW.weightsAll P e (strs (H := H) ss)
  | [], _, h => by cases h
  | t :: r, s, h => by
    rw [List.mem_cons] at h
    simp only [strs, List.map_cons, DataW.weightsAll, DataW.weights, List.mem_append, List.mem_singleton]
    rcases h with rfl | h
    · exact .inl rfl
    · exact .inr (mem_weights e r s h)
/-- A list of texts that came in, as the walks want it. -/
theorem strs_in {W : World} {a : Option Addr} {len cap : Nat} {ss : List ByteArray} (h : (a = none ∧ len = 0 ∧ cap = 0 ∧ ss = []) ∨ ∃ x : Addr, a = some x ∧ len ≤ cap ∧ ss.length = cap ∧ ∀ i, i < ss.length → W.cell? (x.add i) = some (.string (ss.getD i ByteArray.empty))) :
    ((ss.take len).map (·.data.toList)).length = len ∧ Strs W a ((ss.take len).map (·.data.toList)) := by
  rcases h with ⟨rfl, rfl, rfl, rfl⟩ | ⟨x, rfl, hl, hs, hc⟩
  · exact ⟨rfl, Strs.nil _ _⟩
  · refine ⟨by rw [List.length_map, List.length_take]; omega, fun j u hu => ?_⟩
    rw [List.getElem?_map] at hu
    obtain ⟨z, hz, rfl⟩ := Option.map_eq_some_iff.1 hu
    have hj : j < len := by have := (List.getElem?_eq_some_iff.1 hz).1; simp at this; omega
    rw [List.getElem?_take, if_pos hj] at hz
    have hcj := hc j (by omega)
    rw [List.getD_eq_getElem?_getD, hz] at hcj
    obtain ⟨bk, o, sp⟩ := x
    cases sp with
    | none =>
      have hadd : (⟨bk, o, none⟩ : Addr).add j = ⟨bk, o + j, none⟩ := by unfold Addr.add; split <;> simp_all
      rw [hadd] at hcj
      exact ⟨bk, o, rfl, World.block_lt_of_cell? W _ hcj, hcj⟩
    | some y =>
      have := spot_none (hc 0 (by omega))
      unfold Addr.add at this
      simp at this
set_option maxRecDepth 100000 in
theorem cleans_lifted (os : Os) (started : os.Started) (H : Type) (enc : TypeId × Value → H) :
    ReturnsInHanded {} Tryd.checked os 4 .any (fun w args => (Rows.pathCleansSpec.pre enc Tryd.prog Tryd.f4 [] false w args ∧ laidMetH Tryd.prog laidL w) ∧ sizedMet enc Tryd.prog Tryd.f4 (OpenSpec.ofChange Rows.pathCleansSpec) false w args)
      (Rows.pathCleansSpec.post enc Tryd.prog Tryd.f4 false true false false) := by
  refine returnsInHanded_of_change_and (C := Tryd.checked) (X := fun w _ => laidMetH Tryd.prog laidL w) (fun _ _ _ hh h => h.of_heap hh) own started (by kernel_rfl) Tryd.func4
    (ChangeSpec.witness_shaped (enc := enc) (C := Tryd.checked) (os := os) (X := fun w _ => laidMetH Tryd.prog laidL w) false (World.laidAll Tryd.prog os laidL) #[.string ⟨#[]⟩, .slice none 0 0] 8 (World.laidAll_os _ _ _) (World.shaped_of_ZipB (by kernel_rfl) (by kernel_rfl)) (by kernel_rfl) (by kernel_rfl) (by kernel_rfl) (start_met os _)) ?_
  intro W base args ds gs before hval0 hW _ hsz _ _
  have hval : ∀ (j : Nat) t v, Tryd.f4.params[j]? = some t → args[j]? = some v → Value.okWide Tryd.prog W .any base t v := hval0
  have hW' := hW
  obtain ⟨p, q, hA0, hV, rfl, hfz, hnd⟩ := hW
  have hA : DataW.TrodAll enc Tryd.prog W 0 (fun _ => true) true Tryd.f4.params.toList args.toList ds p := hA0
  rw [Tryd.params4] at hA hval hsz
  obtain ⟨v0, v1, d0, d1, p0, p1, rfl, rfl, rfl, h0, h1⟩ := trodAll_two hA
  obtain ⟨rfl, rfl⟩ := trodVars_none hV
  obtain ⟨x, rfl, rfl, rfl, wx⟩ := open_string Tryd.underlying9 (hval 0 9 v0 rfl rfl) h0
  have bx := sized_string hsz (j := 0) (t := 9) rfl rfl
  obtain ⟨a, len, cap, rfl⟩ := okWide_slice Tryd.underlying22 (hval 1 22 v1 rfl rfl)
  have lt1 : ∀ z ∈ p1, z.block < W.heap.size := by obtain ⟨m, hm⟩ := h1; exact DataW.trod_lt m _ _ _ hm
  have hr : reachBytes < 2 ^ 47 := reachBytes_lt
  have k1 : ∃ ss : List ByteArray, ((a = none ∧ len = 0 ∧ cap = 0 ∧ ss = []) ∨ ∃ x : Addr, a = some x ∧ len ≤ cap ∧ ss.length = cap ∧ ∀ i, i < ss.length → W.cell? (x.add i) = some (.string (ss.getD i ByteArray.empty))) ∧ len ≤ 2 ^ 48 ∧ ∀ s ∈ ss.take len, s.data.toList.length ≤ 2 ^ 48 := by
    obtain ⟨fuel, hf⟩ := h1
    rcases open_strings Tryd.underlying22 Tryd.underlying9 (by kernel_rfl) hf with ⟨hcs, _⟩ | ⟨z, l, c, ss, hcs, _, hl, hm, hz, hd, hcell, _⟩
    · simp [Value.cells] at hcs
      obtain ⟨rfl, rfl, rfl⟩ := hcs
      exact ⟨[], .inl ⟨rfl, rfl, rfl, rfl⟩, Nat.zero_le _, by simp⟩
    · simp [Value.cells] at hcs
      obtain ⟨rfl, rfl, rfl⟩ := hcs
      simp only [Prod.mk.injEq] at hd
      obtain ⟨rfl, _⟩ := hd
      have hb := sized_slice hsz (j := 1) (t := 22) rfl rfl Tryd.underlying22
      rw [show Tryd.checked.prog.bytesOf 9 = 16 by kernel_rfl] at hb
      have hz' : ss.length = cap := by simpa using hz
      refine ⟨ss, .inr ⟨_, rfl, hl, hz', hcell⟩, ?_, fun s hs => ?_⟩
      · simp [strs] at hb; omega
      · have := List.all_eq_true.1 hsz _ (DataW.weights_mem_each (j := 1) (t := 22) rfl rfl s.data.toList.length (by
          rw [DataW.weights, show Tryd.checked.prog.underlying 22 = some (.slice 9) from Tryd.underlying22]
          simp only [List.mem_cons, List.mem_append]
          exact .inr (.inl (mem_weights _ _ s hs))))
        simp only [decide_eq_true_eq] at this
        omega
  clear hA0 hval0
  obtain ⟨ss, hin, hlen, hel⟩ := k1
  obtain ⟨hl, hS⟩ := strs_in hin
  have wk := cleans_walk x.data.toList ((ss.take len).map (·.data.toList)) a cap W (by omega) hS (by omega) (by
    intro y hy
    obtain ⟨s, hs, rfl⟩ := List.mem_map.1 hy
    exact hel s hs)
  rw [hl] at wk
  refine wk.mono fun e W' ⟨he, bel⟩ => ?_
  subst he
  exact ⟨_, rfl, _, _, _, [], _, [], hW', trodAll_mk1 (shut_bool Tryd.underlying4 _), trodAll_mk2 (shut_string Tryd.underlying9 wx) (Below.trod laidOut (by kernel_rfl) (of_decide_eq_true (by kernel_rfl)) h1 bel lt1), rfl, bel.frame _, fun h => by cases h⟩
theorem pathCleans_holds : Rows.PathCleansSaid :=
  OpenClaim.holds_of_wide 4 Tryd.f4 rfl rfl rfl rfl rfl rfl rfl ⟨rfl, rfl, rfl, rfl, rfl⟩ rfl rfl rfl rfl rfl (by kernel_rfl) Tryd.func4 (by kernel_rfl)
    (of_decide_eq_true (by kernel_rfl)) (by unfold Func.isWrapper; first | (rw [if_pos (by decide +kernel)]; kernel_rfl) | (rw [if_neg (by decide +kernel)]; exact ⟨rfl, rfl⟩))
    (fun os started H enc _ => cleans_lifted os started H enc)
theorem pathCleans_card : Rows.PathCleansCardSaid :=
  Claim7.holds_tied_plain_at .later [] [.data, .pinned] true (true, "602d9ff8018668b2d97263516f97be7d02c127d89821c94aa31b5bded8902d77") false
    pathCleans_holds (fun _ h => by cases h) (by kernel_rfl) (fun _ h => by cases h) pathCleans_row_tie rfl ⟨rfl, rfl⟩ (by kernel_rfl) rfl
    (fun f fn hf hfn => by
      obtain rfl : f = 4 := Option.some.inj ((show Tryd.prog.funcNamed "tinsel/tinsellaw03.PathCleans" = some 4 by kernel_rfl).symm.trans hf) |>.symm
      obtain rfl : fn = Tryd.f4 := (Option.some.inj (Tryd.func4.symm.trans hfn)).symm
      exact ⟨by kernel_rfl, fun j t ht => by
        rw [Tryd.params4] at ht
        have hm : t ∈ [9, 22] := by simpa using Array.mem_of_getElem? ht
        have hall : ([9, 22].all fun u => !Tryd.prog.wantsStandIn u) = true := by kernel_rfl
        exact (show Tryd.prog.wantsStandIn t = false by simpa using List.all_eq_true.1 hall t hm)⟩)
    (by kernel_rfl)
#print axioms pathCleans_card
end Go.Proofs.YteggjpogaljafaaDoor
