/- InodeShort, its tied card: for whatever numbers and bytes the statement's function answers true and leaves the bytes as they were. Condition (the row's own): math/bits.deBruijn64tab starts as the program's text lays it. -/
import Derived.Test.YtgplmgliockbcaaDoorShA
import Derived.Test.YtgplmgliockbcaaDoorShB
namespace Go.Proofs.YtgplmgliockbcaaDoor
open Go.ChangeShapes Go.WideShapes Go.ChangeAt Go.RowKit
/-- A slice of integers that came in: nil, or a row of cells. -/
def IsRow (k : IntKind) (w : World) (a : Option Addr) (len cap : Nat) (zs : List Int) : Prop :=
  (a = none ∧ len = 0 ∧ cap = 0 ∧ zs = []) ∨
  ∃ x, a = some x ∧ len ≤ cap ∧ cap ≤ maxLen ∧ zs.length = cap ∧ (∀ i, i < zs.length → w.cell? (x.add i) = some (.int k (zs.getD i 0))) ∧ ∀ n ∈ zs, (Lit.int k n).wf = true
theorem bytes_of_row {W : World} {a : Option Addr} {len cap : Nat} (h : ∃ zs, IsRow .u8 W a len cap zs) : ∃ l : List Nat, len = l.length ∧ l.length ≤ cap ∧ cap ≤ maxLen ∧ BytesAt W (.slice a l.length cap) l := by
  obtain ⟨zs, ⟨rfl, rfl, rfl, rfl⟩ | ⟨x, rfl, hl, hm, hz, hc, hw⟩⟩ := h
  · exact ⟨[], rfl, Nat.le_refl _, Nat.zero_le _, fun x hx => (by cases hx), none, 0, rfl, fun _ => rfl, fun ad h => by cases h⟩
  · have hlen : ((zs.take len).map Int.toNat).length = len := by rw [List.length_map, List.length_take, Nat.min_eq_left (by omega)]
    refine ⟨(zs.take len).map Int.toNat, hlen.symm, by rw [hlen]; exact hl, hm, ?_, some x, cap, rfl, fun h => (by cases h), fun ad ha j y hj => ?_⟩
    · intro y hy
      obtain ⟨z, hz', rfl⟩ := List.mem_map.1 hy
      have := bounds_u8 (hw z (List.mem_of_mem_take hz'))
      omega
    · cases ha
      rw [List.getElem?_map, Option.map_eq_some_iff] at hj
      obtain ⟨z, hz', rfl⟩ := hj
      rw [List.getElem?_take] at hz'
      split at hz'
      · have hj2 := (List.getElem?_eq_some_iff.1 hz').1
        rw [hc j hj2, List.getD_eq_getElem?_getD, hz']
        have := bounds_u8 (hw z (List.mem_of_getElem? hz'))
        simp only [Option.getD_some, byteV]
        rw [Int.toNat_of_nonneg this.1]
      · cases hz'
/-- A cell that can be read lies in a block's plain cells. -/
theorem spot_of_cell {w : World} {a : Addr} {v : Value} (h : w.cell? a = some v) : a.spot = none := by
  unfold World.cell? at h
  split at h
  · split at h
    · exact absurd h (by simp)
    · rename_i hs
      cases e : a.spot with
      | none => rfl
      | some x => rw [e] at hs; simp at hs
  · exact absurd h (by simp)
/-- Bytes that came in, as Write wants them. -/
theorem src_of {W : World} {a : Option Addr} {cap : Nat} {l : List Nat} (h : BytesAt W (.slice a l.length cap) l) (hl : 0 < l.length) : ∃ g go, a = some ⟨g, go, none⟩ ∧ Src W g go l ∧ g < W.heap.size := by
  obtain ⟨hb, a', cap', he, hn, hs⟩ := h
  simp only [Value.slice.injEq] at he
  obtain ⟨rfl, _, rfl⟩ := he
  cases a with
  | none => rw [hn rfl] at hl; exact absurd hl (by simp)
  | some ad =>
    have h0 := hs ad rfl 0 l[0] (List.getElem?_eq_getElem hl)
    obtain ⟨g, go, sp⟩ := ad
    cases sp with
    | none => exact ⟨g, go, rfl, ⟨fun j x hj => by have := hs ⟨g, go, none⟩ rfl j x hj; rwa [Addr.add_mid] at this, hb⟩, block_lt_of_cell h0⟩
    | some x =>
      have := spot_of_cell h0
      unfold Addr.add at this
      simp at this
set_option maxRecDepth 100000 in
set_option maxHeartbeats 8000000 in
theorem short_walk (x y : Int) (a : Option Addr) (cap : Nat) (l : List Nat) (w : World) (hT : TabIs w) (hlc : l.length ≤ cap) (hcm : cap ≤ maxLen) (hby : BytesAt w (.slice a l.length cap) l) :
    Calls Tryd.prog 7 #[.int .i64 x, .int .i64 y, .slice a l.length cap] w fun e w' => e = .returned (.bool true) ∧ Below w.heap.size w w' := by
  have HT : Hid (TabIs w) := hT
  by_cases h1 : x < 1
  · clear hby hT hcm hlc
    go_enter Tryd.func7, Tryd.ntmps7
    go_wp2_with (go_at_call 9; refine (awake_true _ HT.out).mono ?_; rintro e w9 ⟨rfl, M9⟩; have HM9 := Hid.intro M9; clear M9)
    go_ret
    exact ⟨rfl, HM9.out.below0⟩
  by_cases h2 : 400 < x
  · clear hby hT hcm hlc
    go_enter Tryd.func7, Tryd.ntmps7
    go_wp2_with (go_at_call 9; refine (awake_true _ HT.out).mono ?_; rintro e w9 ⟨rfl, M9⟩; have HM9 := Hid.intro M9; clear M9)
    go_ret
    exact ⟨rfl, HM9.out.below0⟩
  by_cases h3 : y < 0
  · clear hby hT hcm hlc
    go_enter Tryd.func7, Tryd.ntmps7
    go_wp2_with (go_at_call 9; refine (awake_true _ HT.out).mono ?_; rintro e w9 ⟨rfl, M9⟩; have HM9 := Hid.intro M9; clear M9)
    go_ret
    exact ⟨rfl, HM9.out.below0⟩
  by_cases h4 : 17792 ≤ y
  · have h17 : decide (17792 ≤ y) = true := by simp [h4]
    clear hby hT hcm hlc h4
    go_enter Tryd.func7, Tryd.ntmps7
    go_wp2_with (go_at_call 9; refine (awake_true _ HT.out).mono ?_; rintro e w9 ⟨rfl, M9⟩; have HM9 := Hid.intro M9; clear M9)
    go_ret
    exact ⟨rfl, HM9.out.below0⟩
  have h17 : decide (17792 ≤ y) = false := by simpa using h4
  by_cases h5 : l.length = 0
  · have h5' : ((l.length : Int) == 0) = true := by simp [h5]
    have h1' : ¬ x < 1 := h1
    clear hby hT hcm hlc h4
    generalize l.length = L at *
    clear h5
    go_enter Tryd.func7, Tryd.ntmps7
    go_wp2_with (go_at_call 9; refine (awake_true _ HT.out).mono ?_; rintro e w9 ⟨rfl, M9⟩; have HM9 := Hid.intro M9; clear M9)
    go_ret
    exact ⟨rfl, HM9.out.below0⟩
  obtain ⟨n, rfl⟩ := Int.eq_ofNat_of_zero_le (show 0 ≤ x by omega)
  obtain ⟨off, rfl⟩ := Int.eq_ofNat_of_zero_le (show 0 ≤ y by omega)
  obtain ⟨g, go, rfl, hsrc, hgl⟩ := src_of hby (by omega)
  have hcm' : cap ≤ 9223372036854775807 := hcm
  have hno : off < 17792 := by omega
  by_cases hA : (l.length : Int) ≤ 17792 - off
  · exact short_A n off g go cap _ l w hT (by omega) (by omega) hno (by omega) hlc hcm' hsrc hgl rfl hA
  · exact short_B n off g go cap _ l w hT (by omega) (by omega) hno (by omega) hlc hcm' hsrc hgl rfl (by omega)
set_option maxRecDepth 100000 in
theorem short_lifted (os : Os) (started : os.Started) (H : Type) (enc : TypeId × Value → H) :
    ReturnsInHanded {} Tryd.checked os 7 .any (fun w args => (Rows.inodeShortSpec.pre enc Tryd.prog Tryd.f7 [] false w args ∧ laidMetH Tryd.prog laidL w) ∧ sizedMet enc Tryd.prog Tryd.f7 (OpenSpec.ofChange Rows.inodeShortSpec) false w args)
      (Rows.inodeShortSpec.post enc Tryd.prog Tryd.f7 false true false false) := by
  refine returnsInHanded_of_change_and (C := Tryd.checked) (X := fun w _ => laidMetH Tryd.prog laidL w) (fun _ _ _ hh h => h.of_heap hh) own started (by kernel_rfl) Tryd.func7
    (ChangeSpec.witness_shaped (enc := enc) (C := Tryd.checked) (os := os) (X := fun w _ => laidMetH Tryd.prog laidL w) false (World.doorLaid Tryd.prog 400 os) #[.int .i64 0, .int .i64 0, .slice none 0 0] 8 rfl (World.shaped_of_RefB (by kernel_rfl) (by kernel_rfl)) (by kernel_rfl) (by kernel_rfl) (by kernel_rfl) (door_met os _)) ?_
  intro W base args ds gs before hval0 hW _ _ hL _
  have hval : ∀ (j : Nat) t v, Tryd.f7.params[j]? = some t → args[j]? = some v → Value.okWide Tryd.prog W .any base t v := hval0
  have hW' := hW
  obtain ⟨p, q, hA0, hV, rfl, hfz, hnd⟩ := hW
  have hA : DataW.TrodAll enc Tryd.prog W 0 (fun _ => true) true Tryd.f7.params.toList args.toList ds p := hA0
  rw [Tryd.params7] at hA hval
  obtain ⟨v0, v1, v2, d0, d1, d2, p0, p1, p2, rfl, rfl, rfl, h0, h1, h2⟩ := trodAll_three hA
  obtain ⟨rfl, rfl⟩ := trodVars_none hV
  obtain ⟨x, rfl, rfl, rfl, wx⟩ := open_int Tryd.underlying3 (hval 0 3 v0 rfl rfl) h0
  obtain ⟨y, rfl, rfl, rfl, wy⟩ := open_int Tryd.underlying3 (hval 1 3 v1 rfl rfl) h1
  obtain ⟨a, len, cap, rfl⟩ := okWide_slice Tryd.underlying37 (hval 2 37 v2 rfl rfl)
  have lt2 : ∀ z ∈ p2, z.block < W.heap.size := by obtain ⟨m, hm⟩ := h2; exact DataW.trod_lt m _ _ _ hm
  have k2 : ∃ zs, IsRow .u8 W a len cap zs := by
    obtain ⟨fuel, hf⟩ := h2
    rcases open_ints Tryd.underlying37 Tryd.underlying5 (by kernel_rfl) hf with ⟨hcs, _⟩ | ⟨z, l, c, zs, hcs, _, hl, hm, hz, _, hcell, hwz⟩
    · simp [Value.cells] at hcs
      obtain ⟨rfl, rfl, rfl⟩ := hcs
      exact ⟨[], .inl ⟨rfl, rfl, rfl, rfl⟩⟩
    · simp [Value.cells] at hcs
      obtain ⟨rfl, rfl, rfl⟩ := hcs
      exact ⟨zs, .inr ⟨_, rfl, hl, hm, by simpa using hz, hcell, hwz⟩⟩
  clear hA0 hval0
  obtain ⟨l, rfl, hlc, hcap, hby⟩ := bytes_of_row k2
  refine (short_walk x y a cap l W (of_laid hL) hlc hcap hby).mono fun e W' ⟨he, bel⟩ => ?_
  subst he
  exact ⟨_, rfl, _, _, _, [], _, [], hW', trodAll_mk1 (shut_bool Tryd.underlying4 _), trodAll_mk3 (shut_int Tryd.underlying3 wx) (shut_int Tryd.underlying3 wy) (Below.trod laidOut (by kernel_rfl) (of_decide_eq_true (by kernel_rfl)) h2 bel lt2), rfl, bel.frame _, fun h => by cases h⟩
theorem inodeShort_holds : Rows.InodeShortSaid :=
  OpenClaim.holds_of_wide 7 Tryd.f7 rfl rfl rfl rfl rfl rfl rfl ⟨rfl, rfl, rfl, rfl, rfl⟩ rfl rfl rfl rfl rfl (by kernel_rfl) Tryd.func7 (by kernel_rfl)
    (of_decide_eq_true (by kernel_rfl)) (by unfold Func.isWrapper; first | (rw [if_pos (by decide +kernel)]; kernel_rfl) | (rw [if_neg (by decide +kernel)]; exact ⟨rfl, rfl⟩))
    (fun os started H enc _ => short_lifted os started H enc)
theorem inodeShort_card : Rows.InodeShortCardSaid :=
  Claim7.holds_tied_plain_at .later [] [.data] true (true, "0d5fcac2066be626f0b832c1085404223de3e3868952e7067b79d81e2fd8bb4b") false
    inodeShort_holds (fun _ h => by cases h) (by kernel_rfl) (fun _ h => by cases h) inodeShort_row_tie rfl ⟨rfl, rfl⟩ (by kernel_rfl) rfl
    (fun f fn hf hfn => by
      obtain rfl : f = 7 := Option.some.inj ((show Tryd.prog.funcNamed "tinsel/tinsellaw02.InodeShort" = some 7 by kernel_rfl).symm.trans hf) |>.symm
      obtain rfl : fn = Tryd.f7 := (Option.some.inj (Tryd.func7.symm.trans hfn)).symm
      exact ⟨by kernel_rfl, fun j t ht => by
        rw [Tryd.params7] at ht
        have hm : t ∈ [3, 3, 37] := by simpa using Array.mem_of_getElem? ht
        have hall : ([3, 3, 37].all fun u => !Tryd.prog.wantsStandIn u) = true := by kernel_rfl
        exact (show Tryd.prog.wantsStandIn t = false by simpa using List.all_eq_true.1 hall t hm)⟩)
    (by kernel_rfl)
#print axioms inodeShort_card
end Go.Proofs.YtgplmgliockbcaaDoor
