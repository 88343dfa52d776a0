/- BlocksActs, its tied card: for whatever number and calls the statement's function answers true and leaves the calls as they were. Condition (the row's own): math/bits.deBruijn64tab starts as the program's text lays it. -/
import Derived.Test.YtipdpifpblaldaaDoorBase
import Derived.Test.YtipdpifpblaldaaDoorActsW
import Derived.Test.YtipdpifpblaldaaDoorBackL
import Derived.Deep.Slices
namespace Go.Proofs.YtipdpifpblaldaaDoor
open Go.ChangeShapes Go.WideShapes Go.ChangeAt Go.RowKit Go.Deep
theorem weightsAll_mem {H : Type} {P : Program} {e : TypeId} : ∀ {l : List (DataW H)} {d : DataW H}, d ∈ l → ∀ n ∈ d.weights P e, n ∈ DataW.weightsAll P e l
  | x :: l, d, h, n, hn => by
    simp only [DataW.weightsAll, List.mem_append]
    rcases List.mem_cons.1 h with rfl | h
    · exact .inl hn
    · exact .inr (weightsAll_mem h n hn)
theorem fields35 : ∃ fs, Tryd.prog.underlying 35 = some (.struct fs) ∧ (fs.toList.map fun f => (f.type, f.offset)) = [(3, 0), (3, 1), (3, 2), (33, 3)] := ⟨_, Tryd.underlying35, by kernel_rfl⟩
theorem cells35 : Tryd.prog.cellsOf 35 = 4 := by kernel_rfl
/-- A call, read: three numbers and a slice of bytes. -/
theorem act_of_trod {H : Type} {enc : TypeId × Value → H} {W : World} {base : Nat} {sp : Nat → Bool} {held : Bool} {fuel : Nat} {cs : List Value} {d : DataW H} {pl : List MemPlace} (h : DataW.trod enc Tryd.prog W base sp held fuel 35 cs = some (d, pl)) :
    ∃ kd i t v d4 pl4 n, cs = [.int .i64 kd, .int .i64 i, .int .i64 t, v] ∧ d = .agg [.lit (.int .i64 kd), .lit (.int .i64 i), .lit (.int .i64 t), d4] ∧ DataW.trod enc Tryd.prog W base sp held n 33 [v] = some (d4, pl4) := by
  obtain ⟨fs, hu, hf⟩ := fields35
  cases fuel with
  | zero => simp [DataW.trod] at h
  | succ n =>
    simp only [DataW.trod, hu, cells35] at h
    split at h
    · rename_i hl
      match cs, hl with
      | [c0, c1, c2, c3], _ =>
        have e : (fs.toList.mapM fun f => DataW.trod enc Tryd.prog W base sp held n f.type (([c0, c1, c2, c3].drop f.offset).take (Tryd.prog.cellsOf f.type))) = ((fs.toList.map fun f => (f.type, f.offset)).mapM fun p => DataW.trod enc Tryd.prog W base sp held n p.1 (([c0, c1, c2, c3].drop p.2).take (Tryd.prog.cellsOf p.1))) := by
          rw [List.mapM_map]; rfl
        rw [e, hf] at h
        have k3 : Tryd.prog.cellsOf 3 = 1 := by kernel_rfl
        have k33 : Tryd.prog.cellsOf 33 = 1 := by kernel_rfl
        simp only [List.mapM_cons, List.mapM_nil, k3, k33, List.drop_zero, List.drop_succ_cons, List.take_succ_cons, List.take_zero, Option.bind_eq_bind, Option.pure_def, Option.map_eq_some_iff, Option.bind_eq_some_iff, Option.some.injEq, Prod.mk.injEq] at h
        obtain ⟨xs, ⟨x0, h0, y1, ⟨x1, h1, y2, ⟨x2, h2, y3, ⟨x3, h3, y4, hy4, rfl⟩, rfl⟩, rfl⟩, rfl⟩, hd, _⟩ := h
        subst hy4
        obtain ⟨kd, ek, rfl, _⟩ := DataW.trod_int Tryd.underlying3 h0
        obtain ⟨i, ei, rfl, _⟩ := DataW.trod_int Tryd.underlying3 h1
        obtain ⟨t, et, rfl, _⟩ := DataW.trod_int Tryd.underlying3 h2
        simp only [List.cons.injEq, and_true] at ek ei et
        subst ek; subst ei; subst et
        exact ⟨kd, i, t, c3, x3.1, x3.2, n, rfl, hd.symm, h3⟩
    · cases h
/-- The calls of a row, as the walk wants them: the weights are what the row's reach bounds. -/
theorem acts_of_row {H : Type} {enc : TypeId × Value → H} {W : World} {a : Option Addr} {len cap : Nat} {d : DataW H} {pl : List MemPlace} (h : DataW.Trod enc Tryd.prog W 0 (fun _ => true) true 23 (.slice a len cap) d pl)
    (hw : ∀ e ∈ d.weights Tryd.prog 23, e ≤ reachBytes) : len ≤ maxLen ∧ ∀ k, k < len → ActAt W W.heap.size a k := by
  obtain ⟨fuel, hf⟩ := h
  rcases open_slice Tryd.underlying23 hf with ⟨hcs, _⟩ | ⟨x, len', cap', m, n, D, Pl, hcs, _, hl, hm, hmm, hx, hel⟩
  · simp [Value.cells] at hcs
    obtain ⟨_, rfl, _⟩ := hcs
    exact ⟨Nat.zero_le _, fun k hk => by omega⟩
  · simp [Value.cells] at hcs
    obtain ⟨rfl, rfl, rfl⟩ := hcs
    refine ⟨Nat.le_trans hl hm, fun k hk => ?_⟩
    simp only [if_true] at hmm
    subst hmm
    have hsp : x.spot = none := by
      obtain ⟨cs0, hc0, ht0⟩ := hel 0 (by omega)
      obtain ⟨kd, i, t, v, d4, pl4, n', rfl, hd, h4⟩ := act_of_trod ht0
      rw [cells35] at hc0
      obtain ⟨_, _, hcell⟩ := World.cells?_some hc0
      have := World.cell?_spot (hcell 0 (by omega))
      simpa [Addr.add] using this
    obtain ⟨g, o, spot⟩ := x
    simp only at hsp
    subst hsp
    obtain ⟨cs', hc, ht⟩ := hel k (by omega)
    obtain ⟨kd, i, t, v, d4, pl4, n', rfl, hd, h4⟩ := act_of_trod ht
    rw [cells35, Addr.add_mid] at hc
    obtain ⟨_, _, hcell⟩ := World.cells?_some hc
    simp only [Addr.add_mid] at hcell
    have c0 : W.cell? ⟨g, o + k * 4, none⟩ = some (.int .i64 kd) := hcell 0 (by omega)
    have hg := block_lt_of_cell c0
    have wt : ∀ e ∈ d4.weights Tryd.prog 33, e ≤ reachBytes := fun e he => hw e (by
      have hx' : d = .slice ((List.range len).map D) ((List.range (m - len)).map fun j => D (len + j)) := congrArg Prod.fst hx
      rw [hx']
      simp only [DataW.weights, Tryd.underlying23]
      refine List.mem_cons_of_mem _ (List.mem_append_left _ (weightsAll_mem (List.mem_map.2 ⟨k, List.mem_range.2 hk, rfl⟩) e ?_))
      rw [hd]
      obtain ⟨fs, hu, hf⟩ := fields35
      have hty : fs.toList.map (·.type) = [3, 3, 3, 33] := by
        have := congrArg (List.map Prod.fst) hf
        rw [List.map_map] at this
        exact this
      simp only [DataW.weights, hu, hty, DataW.weightsEach, List.nil_append, List.append_nil]
      exact he)
    rcases open_ints Tryd.underlying33 Tryd.underlying5 (by kernel_rfl) h4 with ⟨hcs, _⟩ | ⟨y, l4, c4, zs, hcs, _, hl4, hm4, hz4, hx4, hcell4, hwz4⟩
    · simp only [List.cons.injEq, and_true] at hcs
      subst hcs
      exact ⟨g, o, kd, i, t, none, [], 0, rfl, hg, c0, hcell 1 (by omega), hcell 2 (by omega), hcell 3 (by omega), Nat.zero_le _, fun x hx => (by cases hx), fun _ => rfl, fun j x hj => by simp at hj⟩
    · simp only [List.cons.injEq, and_true] at hcs
      subst hcs
      have hrow : ∃ zs, IsRow .u8 W (some y) l4 c4 zs := ⟨zs, .inr ⟨y, rfl, hl4, hm4, by simpa using hz4, hcell4, hwz4⟩⟩
      have hlz : zs.length = c4 := by simpa using hz4
      have hbig : l4 ≤ 140737488351232 := by
        have h4' : d4 = .slice (lits .u8 (zs.take l4)) (lits .u8 (zs.drop l4)) := congrArg Prod.fst hx4
        have hb5 : Tryd.prog.bytesOf 5 = 1 := by kernel_rfl
        have := wt ((lits (H := H) .u8 (zs.take l4)).length + (lits (H := H) .u8 (zs.drop l4)).length) (by rw [h4']; simp [DataW.weights, Tryd.underlying33, hb5])
        simp only [lits, List.length_map, List.length_take, List.length_drop, reachBytes] at this
        omega
      obtain ⟨bs, rfl, hbc, hcm, hby⟩ := bytes_of_row hrow
      obtain ⟨b1, a', cap', b2, b3, b4⟩ := hby
      cases b2
      refine ⟨g, o, kd, i, t, some y, bs, c4, rfl, hg, c0, hcell 1 (by omega), hcell 2 (by omega), hcell 3 (by omega), hbig, b1, fun h => (by cases h), fun j x hj => ?_⟩
      have hcy := b4 y rfl 0 _ (List.getElem?_eq_getElem (show 0 < bs.length by have := (List.getElem?_eq_some_iff.1 hj).1; omega))
      have hys : y.spot = none := by
        have := World.cell?_spot hcy
        simpa [Addr.add] using this
      obtain ⟨yg, yo, ysp⟩ := y
      simp only at hys
      subst hys
      have := b4 _ rfl j x hj
      rw [Addr.add_mid] at this
      exact ⟨yg, yo, rfl, block_lt_of_cell this, this⟩
set_option maxRecDepth 100000 in
theorem acts_lifted (os : Os) (started : os.Started) (H : Type) (enc : TypeId × Value → H) :
    ReturnsInHanded {} Tryd.checked os 4 .any (fun w args => (Rows.blocksActsSpec.pre enc Tryd.prog Tryd.f4 [] false w args ∧ laidMetH Tryd.prog laidL w) ∧ sizedMet enc Tryd.prog Tryd.f4 (OpenSpec.ofChange Rows.blocksActsSpec) false w args)
      (Rows.blocksActsSpec.post enc Tryd.prog Tryd.f4 false true false false) := by
  refine returnsInHanded_of_change_and (C := Tryd.checked) (X := fun w _ => laidMetH Tryd.prog laidL w) (fun _ _ _ hh h => h.of_heap hh) own started (by kernel_rfl) Tryd.func4
    (ChangeSpec.witness_shaped (enc := enc) (C := Tryd.checked) (os := os) (X := fun w _ => laidMetH Tryd.prog laidL w) false (World.doorLaid Tryd.prog 400 os) #[.int .i64 0, .slice none 0 0] 8 rfl (World.shaped_of_RefB (by kernel_rfl) (by kernel_rfl)) (by kernel_rfl) (by kernel_rfl) (by kernel_rfl) (door_met os _)) ?_
  intro W base args ds gs before hval0 hW _ hsz hL _
  have hval : ∀ (j : Nat) t v, Tryd.f4.params[j]? = some t → args[j]? = some v → Value.okWide Tryd.prog W .any base t v := hval0
  have hW' := hW
  obtain ⟨p, q, hA0, hV, rfl, hfz, hnd⟩ := hW
  have hA : DataW.TrodAll enc Tryd.prog W 0 (fun _ => true) true Tryd.f4.params.toList args.toList ds p := hA0
  rw [Tryd.params4] at hA hval hsz
  obtain ⟨v0, v1, d0, d1, p0, p1, rfl, rfl, rfl, h0, h1⟩ := trodAll_two hA
  obtain ⟨rfl, rfl⟩ := trodVars_none hV
  obtain ⟨x, rfl, rfl, rfl, wx⟩ := open_int Tryd.underlying3 (hval 0 3 v0 rfl rfl) h0
  obtain ⟨a, len, cap, rfl⟩ := okWide_slice Tryd.underlying23 (hval 1 23 v1 rfl rfl)
  have lt1 : ∀ z ∈ p1, z.block < W.heap.size := by obtain ⟨m, hm⟩ := h1; exact DataW.trod_lt m _ _ _ hm
  have hacts : len ≤ maxLen ∧ ∀ k, k < len → ActAt W W.heap.size a k := acts_of_row h1 (fun e he => by
    have := DataW.weights_mem_each (P := Tryd.prog) (ts := [3, 23]) (ds := [.lit (.int .i64 x), d1]) (j := 1) rfl rfl e he
    simpa using List.all_eq_true.1 (show ((DataW.weightsEach Tryd.prog [3, 23] [.lit (.int .i64 x), d1]).all (· ≤ reachBytes)) = true from hsz) e this)
  clear hA0 hval0
  have fin : ∀ W', Below W.heap.size W W' → Rows.blocksActsSpec.post enc Tryd.prog Tryd.f4 false true false false W #[.int .i64 x, .slice a len cap] (.bool true) W' := fun W' bel =>
    ⟨_, _, _, [], _, [], hW', trodAll_mk1 (shut_bool Tryd.underlying4 _), trodAll_mk2 (shut_int Tryd.underlying3 wx) (Below.trod laidOut (by kernel_rfl) (of_decide_eq_true (by kernel_rfl)) h1 bel lt1), rfl, bel.frame _, fun h => by cases h⟩
  by_cases hb : x < 1 ∨ 4096 < x
  · refine (acts_bad x hb _ W (of_laid hL)).mono fun e W' ⟨he, bel⟩ => ?_
    subst he
    exact ⟨_, rfl, fin W' bel⟩
  · obtain ⟨n, rfl⟩ := Int.eq_ofNat_of_zero_le (show 0 ≤ x by omega)
    refine (acts_walk n (by omega) (by omega) a len cap W (of_laid hL) hacts.2 hacts.1).mono fun e W' ⟨he, bel⟩ => ?_
    subst he
    exact ⟨_, rfl, fin W' bel⟩

theorem blocksActs_holds : Rows.BlocksActsSaid :=
  OpenClaim.holds_of_wide 4 Tryd.f4 rfl rfl rfl rfl rfl rfl rfl ⟨rfl, rfl, rfl, rfl, rfl⟩ rfl rfl rfl rfl rfl (by kernel_rfl) Tryd.func4 (by kernel_rfl)
    (of_decide_eq_true (by kernel_rfl)) (by unfold Func.isWrapper; first | (rw [if_pos (by decide +kernel)]; kernel_rfl) | (rw [if_neg (by decide +kernel)]; exact ⟨rfl, rfl⟩))
    (fun os started H enc _ => acts_lifted os started H enc)
theorem blocksActs_card : Rows.BlocksActsCardSaid :=
  Claim7.holds_tied_plain_at .later [] [.data] true (true, "5ab94073b6ccf0d617fafd9ab907ba2386b5376ab0eb2c1c6615e9080418f417") false
    blocksActs_holds (fun _ h => by cases h) (by kernel_rfl) (fun _ h => by cases h) blocksActs_row_tie rfl ⟨rfl, rfl⟩ (by kernel_rfl) rfl
    (fun f fn hf hfn => by
      obtain rfl : f = 4 := Option.some.inj ((show Tryd.prog.funcNamed "tinsel/tinsellaw01.BlocksActs" = some 4 by kernel_rfl).symm.trans hf) |>.symm
      obtain rfl : fn = Tryd.f4 := (Option.some.inj (Tryd.func4.symm.trans hfn)).symm
      exact ⟨by kernel_rfl, fun j t ht => by
        rw [Tryd.params4] at ht
        have hm : t ∈ [3, 23] := by simpa using Array.mem_of_getElem? ht
        have hall : ([3, 23].all fun u => !Tryd.prog.wantsStandIn u) = true := by kernel_rfl
        exact (show Tryd.prog.wantsStandIn t = false by simpa using List.all_eq_true.1 hall t hm)⟩)
    (by kernel_rfl)
#print axioms blocksActs_card
end Go.Proofs.YtipdpifpblaldaaDoor
