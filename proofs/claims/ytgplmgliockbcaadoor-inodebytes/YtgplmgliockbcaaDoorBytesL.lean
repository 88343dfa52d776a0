/- InodeBytes, its tied card: for whatever pieces the statement's function answers true and leaves them as they were. Condition (the row's own): math/bits.deBruijn64tab starts as the program's text lays it. -/
import Derived.Test.YtgplmgliockbcaaDoorBt2
import Derived.Deep.Slices
import Derived.ChangeSlices
import Derived.ShutString
namespace Go.Proofs.YtgplmgliockbcaaDoor
open Go.ChangeShapes Go.WideShapes Go.ChangeAt Go.RowKit Go.Deep
def IsRow (k : IntKind) (w : World) (a : Option Addr) (len cap : Nat) (zs : List Int) : Prop :=
  (a = none ∧ len = 0 ∧ cap = 0 ∧ zs = []) ∨
  ∃ x, a = some x ∧ len ≤ cap ∧ cap ≤ maxLen ∧ zs.length = cap ∧ (∀ i, i < zs.length → w.cell? (x.add i) = some (.int k (zs.getD i 0))) ∧ ∀ n ∈ zs, (Lit.int k n).wf = true
theorem bytes_of_row {W : World} {a : Option Addr} {len cap : Nat} (h : ∃ zs, IsRow .u8 W a len cap zs) : ∃ l : List Nat, len = l.length ∧ l.length ≤ cap ∧ cap ≤ maxLen ∧ BytesAt W (.slice a l.length cap) l := by
  obtain ⟨zs, ⟨rfl, rfl, rfl, rfl⟩ | ⟨x, rfl, hl, hm, hz, hc, hw⟩⟩ := h
  · exact ⟨[], rfl, Nat.le_refl _, Nat.zero_le _, fun x hx => (by cases hx), none, 0, rfl, fun _ => rfl, fun ad h => by cases h⟩
  · have hlen : ((zs.take len).map Int.toNat).length = len := by rw [List.length_map, List.length_take, Nat.min_eq_left (by omega)]
    refine ⟨(zs.take len).map Int.toNat, hlen.symm, by rw [hlen]; exact hl, hm, ?_, some x, cap, rfl, fun h => (by cases h), fun ad ha j y hj => ?_⟩
    · intro y hy
      obtain ⟨z, hz', rfl⟩ := List.mem_map.1 hy
      have := bounds_u8 (hw z (List.mem_of_mem_take hz'))
      omega
    · cases ha
      rw [List.getElem?_map, Option.map_eq_some_iff] at hj
      obtain ⟨z, hz', rfl⟩ := hj
      rw [List.getElem?_take] at hz'
      split at hz'
      · have hj2 := (List.getElem?_eq_some_iff.1 hz').1
        rw [hc j hj2, List.getD_eq_getElem?_getD, hz']
        have := bounds_u8 (hw z (List.mem_of_getElem? hz'))
        simp only [Option.getD_some, byteV]
        rw [Int.toNat_of_nonneg this.1]
      · cases hz'
/-- A cell that can be read lies in a block's plain cells. -/

theorem fieldsP : ∃ fs, Tryd.prog.underlying 69 = some (.struct fs) ∧ (fs.toList.map fun f => (f.type, f.offset)) = [(3, 0), (37, 1), (4, 2)] := ⟨_, Tryd.underlying69, by kernel_rfl⟩
theorem cellsP : Tryd.prog.cellsOf 69 = 3 := by kernel_rfl
set_option maxRecDepth 100000 in
/-- A piece, read. -/
theorem piece_of_trod {H : Type} {enc : TypeId × Value → H} {W : World} {base : Nat} {sp : Nat → Bool} {held : Bool} {fuel : Nat} {cs : List Value} {d : DataW H} {pl : List MemPlace} (h : DataW.trod enc Tryd.prog W base sp held fuel 69 cs = some (d, pl)) :
    ∃ At v cut d1 pl1 n, cs = [.int .i64 At, v, .bool cut] ∧ DataW.trod enc Tryd.prog W base sp held n 37 [v] = some (d1, pl1) := by
  obtain ⟨fs, hu, hf⟩ := fieldsP
  cases fuel with
  | zero => simp [DataW.trod] at h
  | succ n =>
    simp only [DataW.trod, hu, cellsP] at h
    split at h
    · rename_i hl
      match cs, hl with
      | [c0, c1, c2], _ =>
        have e : (fs.toList.mapM fun f => DataW.trod enc Tryd.prog W base sp held n f.type (([c0, c1, c2].drop f.offset).take (Tryd.prog.cellsOf f.type))) = ((fs.toList.map fun f => (f.type, f.offset)).mapM fun p => DataW.trod enc Tryd.prog W base sp held n p.1 (([c0, c1, c2].drop p.2).take (Tryd.prog.cellsOf p.1))) := by
          rw [List.mapM_map]; rfl
        rw [e, hf] at h
        have k0 : Tryd.prog.cellsOf 3 = 1 := by kernel_rfl
        have k1 : Tryd.prog.cellsOf 37 = 1 := by kernel_rfl
        have k2 : Tryd.prog.cellsOf 4 = 1 := by kernel_rfl
        simp only [List.mapM_cons, List.mapM_nil, k0, k1, k2, List.drop_zero, List.drop_succ_cons, List.take_succ_cons, List.take_zero, Option.bind_eq_bind, Option.pure_def, Option.map_eq_some_iff, Option.bind_eq_some_iff, Option.some.injEq, Prod.mk.injEq] at h
        obtain ⟨xs, ⟨x0, h0, y1, ⟨x1, h1, y2, ⟨x2, h2, y3, hy3, rfl⟩, rfl⟩, rfl⟩, hd, _⟩ := h
        obtain ⟨At, ek, _⟩ := DataW.trod_int Tryd.underlying3 h0
        obtain ⟨cut, ec, _⟩ := DataW.trod_bool Tryd.underlying4 h2
        simp only [List.cons.injEq, and_true] at ek ec
        subst ek; subst ec
        exact ⟨At, c1, cut, x1.1, x1.2, n, rfl, h1⟩
    · cases h
set_option maxRecDepth 100000 in
/-- The pieces of a row, as the walk wants them. -/
theorem pieces_of_row {H : Type} {enc : TypeId × Value → H} {W : World} {a : Option Addr} {len cap : Nat} {d : DataW H} {pl : List MemPlace} (h : DataW.Trod enc Tryd.prog W 0 (fun _ => true) true 67 (.slice a len cap) d pl) :
    len ≤ maxLen ∧ ∀ k, k < len → ∃ g o At p bs cp cut, a = some ⟨g, o, none⟩ ∧ PA W g o k At p bs cp cut := by
  obtain ⟨fuel, hf⟩ := h
  rcases open_slice Tryd.underlying67 hf with ⟨hcs, _⟩ | ⟨x, len', cap', m, n, D, Pl, hcs, _, hl, hm, hmm, hx, hel⟩
  · simp [Value.cells] at hcs
    obtain ⟨_, rfl, _⟩ := hcs
    exact ⟨Nat.zero_le _, fun k hk => by omega⟩
  · simp [Value.cells] at hcs
    obtain ⟨rfl, rfl, rfl⟩ := hcs
    refine ⟨Nat.le_trans hl hm, fun k hk => ?_⟩
    simp only [if_true] at hmm
    subst hmm
    have hsp : x.spot = none := by
      obtain ⟨cs0, hc0, ht0⟩ := hel 0 (by omega)
      obtain ⟨At, v, cut, d1, pl1, n', rfl, h1⟩ := piece_of_trod ht0
      rw [cellsP] at hc0
      obtain ⟨_, _, hcell⟩ := World.cells?_some hc0
      have := World.cell?_spot (hcell 0 (by omega))
      simpa [Addr.add] using this
    obtain ⟨g, o, spot⟩ := x
    simp only at hsp
    subst hsp
    obtain ⟨cs', hc, ht⟩ := hel k (by omega)
    obtain ⟨At, v, cut, d1, pl1, n', rfl, h1⟩ := piece_of_trod ht
    rw [cellsP, Addr.add_mid] at hc
    obtain ⟨_, _, hcell⟩ := World.cells?_some hc
    simp only [Addr.add_mid] at hcell
    have c0 : W.cell? ⟨g, o + k * 3, none⟩ = some (.int .i64 At) := hcell 0 (by omega)
    have c2 : W.cell? ⟨g, o + k * 3 + 2, none⟩ = some (.bool cut) := hcell 2 (by omega)
    rcases open_ints Tryd.underlying37 Tryd.underlying5 (by kernel_rfl) h1 with ⟨hcs, _⟩ | ⟨y, l4, c4, zs, hcs, _, hl4, hm4, hz4, hx4, hcell4, hwz4⟩
    · simp only [List.cons.injEq, and_true] at hcs
      subst hcs
      exact ⟨g, o, At, none, [], 0, cut, rfl, ⟨c0, hcell 1 (by omega), c2, Nat.le_refl _, Nat.zero_le _, fun x hx => (by cases hx), fun h => absurd rfl h⟩⟩
    · simp only [List.cons.injEq, and_true] at hcs
      subst hcs
      have hrow : ∃ zs, IsRow .u8 W (some y) l4 c4 zs := ⟨zs, .inr ⟨y, rfl, hl4, hm4, by simpa using hz4, hcell4, hwz4⟩⟩
      obtain ⟨bs, rfl, hbc, hcm, hby⟩ := bytes_of_row hrow
      obtain ⟨b1, a', cap', b2, b3, b4⟩ := hby
      cases b2
      refine ⟨g, o, At, some y, bs, c4, cut, rfl, ⟨c0, hcell 1 (by omega), c2, hbc, hcm, b1, fun hne => ?_⟩⟩
      have hpos : 0 < bs.length := List.length_pos_iff.2 hne
      have hcy := b4 y rfl 0 _ (List.getElem?_eq_getElem hpos)
      have hys : y.spot = none := by
        have := World.cell?_spot hcy
        simpa [Addr.add] using this
      obtain ⟨yg, yo, ysp⟩ := y
      simp only at hys
      subst hys
      exact ⟨yg, yo, rfl, fun j x hj => by have := b4 _ rfl j x hj; rw [Addr.add_mid] at this; exact this⟩
set_option maxRecDepth 100000 in
theorem bytes_lifted (os : Os) (started : os.Started) (H : Type) (enc : TypeId × Value → H) :
    ReturnsInHanded {} Tryd.checked os 6 .any (fun w args => (Rows.inodeBytesSpec.pre enc Tryd.prog Tryd.f6 [] false w args ∧ laidMetH Tryd.prog laidL w) ∧ sizedMet enc Tryd.prog Tryd.f6 (OpenSpec.ofChange Rows.inodeBytesSpec) false w args)
      (Rows.inodeBytesSpec.post enc Tryd.prog Tryd.f6 false true false false) := by
  refine returnsInHanded_of_change_and (C := Tryd.checked) (X := fun w _ => laidMetH Tryd.prog laidL w) (fun _ _ _ hh h => h.of_heap hh) own started (by kernel_rfl) Tryd.func6
    (ChangeSpec.witness_shaped (enc := enc) (C := Tryd.checked) (os := os) (X := fun w _ => laidMetH Tryd.prog laidL w) false (World.doorLaid Tryd.prog 400 os) #[.slice none 0 0] 8 rfl (World.shaped_of_RefB (by kernel_rfl) (by kernel_rfl)) (by kernel_rfl) (by kernel_rfl) (by kernel_rfl) (door_met os _)) ?_
  intro W base args ds gs before hval0 hW _ _ hL _
  have hval : ∀ (j : Nat) t v, Tryd.f6.params[j]? = some t → args[j]? = some v → Value.okWide Tryd.prog W .any base t v := hval0
  have hW' := hW
  obtain ⟨p, q, hA0, hV, rfl, hfz, hnd⟩ := hW
  have hA : DataW.TrodAll enc Tryd.prog W 0 (fun _ => true) true Tryd.f6.params.toList args.toList ds p := hA0
  rw [Tryd.params6] at hA hval
  obtain ⟨v0, d0, rfl, rfl, h0⟩ := trodAll_one hA
  obtain ⟨rfl, rfl⟩ := trodVars_none hV
  obtain ⟨a, len, cap, rfl⟩ := okWide_slice Tryd.underlying67 (hval 0 67 v0 rfl rfl)
  have lt0 : ∀ z ∈ p, z.block < W.heap.size := by obtain ⟨m, hm⟩ := h0; exact DataW.trod_lt m _ _ _ hm
  have hp := pieces_of_row h0
  clear hA0 hval0 hval
  refine (bytes_walk a len cap W (of_laid hL) hp.1 hp.2).mono fun e W' ⟨he, bel⟩ => ?_
  subst he
  exact ⟨_, rfl, _, _, _, [], _, [], hW', trodAll_mk1 (shut_bool Tryd.underlying4 _), trodAll_mk1 (Below.trod laidOut (by kernel_rfl) (of_decide_eq_true (by kernel_rfl)) h0 bel lt0), rfl, bel.frame _, fun h => by cases h⟩

theorem inodeBytes_holds : Rows.InodeBytesSaid :=
  OpenClaim.holds_of_wide 6 Tryd.f6 rfl rfl rfl rfl rfl rfl rfl ⟨rfl, rfl, rfl, rfl, rfl⟩ rfl rfl rfl rfl rfl (by kernel_rfl) Tryd.func6 (by kernel_rfl)
    (of_decide_eq_true (by kernel_rfl)) (by unfold Func.isWrapper; first | (rw [if_pos (by decide +kernel)]; kernel_rfl) | (rw [if_neg (by decide +kernel)]; exact ⟨rfl, rfl⟩))
    (fun os started H enc _ => bytes_lifted os started H enc)
theorem inodeBytes_card : Rows.InodeBytesCardSaid :=
  Claim7.holds_tied_plain_at .later [] [.data] true (true, "0d5fcac2066be626f0b832c1085404223de3e3868952e7067b79d81e2fd8bb4b") false
    inodeBytes_holds (fun _ h => by cases h) (by kernel_rfl) (fun _ h => by cases h) inodeBytes_row_tie rfl ⟨rfl, rfl⟩ (by kernel_rfl) rfl
    (fun f fn hf hfn => by
      obtain rfl : f = 6 := Option.some.inj ((show Tryd.prog.funcNamed "tinsel/tinsellaw02.InodeBytes" = some 6 by kernel_rfl).symm.trans hf) |>.symm
      obtain rfl : fn = Tryd.f6 := (Option.some.inj (Tryd.func6.symm.trans hfn)).symm
      exact ⟨by kernel_rfl, fun j t ht => by
        rw [Tryd.params6] at ht
        have hm : t ∈ [67] := by simpa using Array.mem_of_getElem? ht
        have hall : ([67].all fun u => !Tryd.prog.wantsStandIn u) = true := by kernel_rfl
        exact (show Tryd.prog.wantsStandIn t = false by simpa using List.all_eq_true.1 hall t hm)⟩)
    (by kernel_rfl)
#print axioms inodeBytes_card
end Go.Proofs.YtgplmgliockbcaaDoor
