/- TreeNone, its tied card: for whatever call the statement's function answers true and leaves what it was given as it was. Condition (the row's own): math/bits.deBruijn64tab starts as the program's text lays it. -/
import Derived.Test.YtpohjgnfndgniaaGreatDoorBaseT
import Derived.Test.YtpohjgnfndgniaaGreatDoorTn4
import Derived.Test.YtpohjgnfndgniaaGreatDoorTn3e
import Derived.Deep.Slices
import Derived.ShutString
namespace Go.Proofs.YtpohjgnfndgniaaGreatDoor
open Go.ChangeShapes Go.WideShapes Go.ChangeAt Go.RowKit
theorem arr15 (cs : Array Value) (h : cs.size = 15) : ∃ c0 c1 c2 c3 c4 c5 c6 c7 c8 c9 c10 c11 c12 c13 c14, cs = #[c0, c1, c2, c3, c4, c5, c6, c7, c8, c9, c10, c11, c12, c13, c14] := by
  rcases cs with ⟨l⟩
  match l, h with
  | [c0, c1, c2, c3, c4, c5, c6, c7, c8, c9, c10, c11, c12, c13, c14], _ => exact ⟨c0, c1, c2, c3, c4, c5, c6, c7, c8, c9, c10, c11, c12, c13, c14, rfl⟩
section
variable {H : Type} {enc : TypeId × Value → H} {W : World} {base : Nat} {spare : Nat → Bool} {held : Bool}
theorem int_of {n : Nat} {t : TypeId} {c : Value} {y : DataW H × List MemPlace} (ht : Tryz.prog.underlying t = some (.int .i64)) (h : DataW.trod enc Tryz.prog W base spare held n t [c] = some y) : ∃ z, c = .int .i64 z := by
  obtain ⟨z, hz, _⟩ := DataW.trod_int ht h
  exact ⟨z, by simpa using hz⟩
theorem str_of {n : Nat} {t : TypeId} {c : Value} {y : DataW H × List MemPlace} (ht : Tryz.prog.underlying t = some .string) (h : DataW.trod enc Tryz.prog W base spare held n t [c] = some y) : ∃ z, c = .string z := by
  obtain ⟨z, hz, _⟩ := DataW.trod_string ht h
  exact ⟨z, by simpa using hz⟩
theorem sl_of {n : Nat} {t e : TypeId} {c : Value} {y : DataW H × List MemPlace} (ht : Tryz.prog.underlying t = some (.slice e)) (h : DataW.trod enc Tryz.prog W base spare held n t [c] = some y) : ∃ z : Option Addr × Nat × Nat, c = .slice z.1 z.2.1 z.2.2 := by
  rcases Go.Deep.open_slice ht h with ⟨hcs, _⟩ | ⟨x, len', cap', m, n, D, Pl, hcs, _⟩
  · exact ⟨(none, 0, 0), by simpa using hcs⟩
  · exact ⟨(some x, len', cap'), by simpa using hcs⟩
theorem bo_of {n : Nat} {t : TypeId} {c : Value} {y : DataW H × List MemPlace} (ht : Tryz.prog.underlying t = some .bool) (h : DataW.trod enc Tryz.prog W base spare held n t [c] = some y) : ∃ z, c = .bool z := by
  obtain ⟨z, hz, _⟩ := DataW.trod_bool ht h
  exact ⟨z, by simpa using hz⟩
theorem k_s : Tryz.prog.cellsOf 9 = 1 := by kernel_rfl
theorem k_i : Tryz.prog.cellsOf 3 = 1 := by kernel_rfl
theorem k_b : Tryz.prog.cellsOf 26 = 1 := by kernel_rfl
theorem k_g : Tryz.prog.cellsOf 22 = 1 := by kernel_rfl
theorem k_m : Tryz.prog.cellsOf 25 = 1 := by kernel_rfl
theorem k_l : Tryz.prog.cellsOf 2 = 1 := by kernel_rfl
theorem k_o : Tryz.prog.cellsOf 4 = 1 := by kernel_rfl
theorem k_c : Tryz.prog.cellsOf 24 = 5 := by kernel_rfl
theorem cred_open {n : Nat} {c1 c2 c3 c4 c5 : Value} {y : DataW H × List MemPlace} (h : DataW.trod enc Tryz.prog W base spare held n 24 [c1, c2, c3, c4, c5] = some y) : ∃ (u g : Int) (gz : Option Addr × Nat × Nat) (um cw : Int), c1 = .int .i64 u ∧ c2 = .int .i64 g ∧ c3 = .slice gz.1 gz.2.1 gz.2.2 ∧ c4 = .int .i64 um ∧ c5 = .int .i64 cw := by
  obtain ⟨xs, k, _, _, _, hlen, hf⟩ := DataW.trod_struct Tryz.underlying24 h
  have hl : xs.length = 5 := hlen
  obtain ⟨u, e1⟩ := int_of (enc := enc) (W := W) (base := base) (spare := spare) (held := held) (n := k) (y := xs[0]) (c := c1) Tryz.underlying3 (by
    have g := hf 0 ⟨_, 3, 0, _, _, _, _⟩ rfl
    dsimp only at g
    rw [k_i, List.getElem?_eq_getElem (by omega)] at g
    exact g)
  obtain ⟨g, e2⟩ := int_of (enc := enc) (W := W) (base := base) (spare := spare) (held := held) (n := k) (y := xs[1]) (c := c2) Tryz.underlying3 (by
    have g := hf 1 ⟨_, 3, 1, _, _, _, _⟩ rfl
    dsimp only at g
    rw [k_i, List.getElem?_eq_getElem (by omega)] at g
    exact g)
  obtain ⟨gz, e3⟩ := sl_of (enc := enc) (W := W) (base := base) (spare := spare) (held := held) (n := k) (y := xs[2]) (c := c3) Tryz.underlying22 (by
    have g := hf 2 ⟨_, 22, 2, _, _, _, _⟩ rfl
    dsimp only at g
    rw [k_g, List.getElem?_eq_getElem (by omega)] at g
    exact g)
  obtain ⟨um, e4⟩ := int_of (enc := enc) (W := W) (base := base) (spare := spare) (held := held) (n := k) (y := xs[3]) (c := c4) Tryz.underlying3 (by
    have g := hf 3 ⟨_, 3, 3, _, _, _, _⟩ rfl
    dsimp only at g
    rw [k_i, List.getElem?_eq_getElem (by omega)] at g
    exact g)
  obtain ⟨cw, e5⟩ := int_of (enc := enc) (W := W) (base := base) (spare := spare) (held := held) (n := k) (y := xs[4]) (c := c5) Tryz.underlying3 (by
    have g := hf 4 ⟨_, 3, 4, _, _, _, _⟩ rfl
    dsimp only at g
    rw [k_i, List.getElem?_eq_getElem (by omega)] at g
    exact g)
  exact ⟨u, g, gz, um, cw, e1, e2, e3, e4, e5⟩
theorem op_open {n : Nat} {c0 c1 c2 c3 c4 c5 c6 c7 c8 c9 c10 c11 c12 c13 c14 : Value} {y : DataW H × List MemPlace} (h : DataW.trod enc Tryz.prog W base spare held n 28 [c0, c1, c2, c3, c4, c5, c6, c7, c8, c9, c10, c11, c12, c13, c14] = some y) : (∃ (u g : Int) (gz : Option Addr × Nat × Nat) (um cw : Int), c1 = .int .i64 u ∧ c2 = .int .i64 g ∧ c3 = .slice gz.1 gz.2.1 gz.2.2 ∧ c4 = .int .i64 um ∧ c5 = .int .i64 cw) ∧ (∃ (sp sq : ByteArray) (za zb zm : Int) (tz : Option Addr × Nat × Nat) (t1 t2 : Int) (fo : Bool), c6 = .string sp ∧ c7 = .string sq ∧ c8 = .int .i64 za ∧ c9 = .int .i64 zb ∧ c10 = .int .i64 zm ∧ c11 = .slice tz.1 tz.2.1 tz.2.2 ∧ c12 = .int .i64 t1 ∧ c13 = .int .i64 t2 ∧ c14 = .bool fo) := by
  obtain ⟨xs, k, _, _, _, hlen, hf⟩ := DataW.trod_struct Tryz.underlying28 h
  have hl : xs.length = 11 := hlen
  refine ⟨cred_open (enc := enc) (W := W) (base := base) (spare := spare) (held := held) (n := k) (y := xs[1]) (by
    have g := hf 1 ⟨_, 24, 1, _, _, _, _⟩ rfl
    dsimp only at g
    rw [k_c, List.getElem?_eq_getElem (by omega)] at g
    exact g), ?_⟩
  obtain ⟨sp, e6⟩ := str_of (enc := enc) (W := W) (base := base) (spare := spare) (held := held) (n := k) (y := xs[2]) (c := c6) Tryz.underlying9 (by
    have g := hf 2 ⟨_, 9, 6, _, _, _, _⟩ rfl
    dsimp only at g
    rw [k_s, List.getElem?_eq_getElem (by omega)] at g
    exact g)
  obtain ⟨sq, e7⟩ := str_of (enc := enc) (W := W) (base := base) (spare := spare) (held := held) (n := k) (y := xs[3]) (c := c7) Tryz.underlying9 (by
    have g := hf 3 ⟨_, 9, 7, _, _, _, _⟩ rfl
    dsimp only at g
    rw [k_s, List.getElem?_eq_getElem (by omega)] at g
    exact g)
  obtain ⟨za, e8⟩ := int_of (enc := enc) (W := W) (base := base) (spare := spare) (held := held) (n := k) (y := xs[4]) (c := c8) Tryz.underlying3 (by
    have g := hf 4 ⟨_, 3, 8, _, _, _, _⟩ rfl
    dsimp only at g
    rw [k_i, List.getElem?_eq_getElem (by omega)] at g
    exact g)
  obtain ⟨zb, e9⟩ := int_of (enc := enc) (W := W) (base := base) (spare := spare) (held := held) (n := k) (y := xs[5]) (c := c9) Tryz.underlying3 (by
    have g := hf 5 ⟨_, 3, 9, _, _, _, _⟩ rfl
    dsimp only at g
    rw [k_i, List.getElem?_eq_getElem (by omega)] at g
    exact g)
  obtain ⟨zm, e10⟩ := int_of (enc := enc) (W := W) (base := base) (spare := spare) (held := held) (n := k) (y := xs[6]) (c := c10) Tryz.underlying25 (by
    have g := hf 6 ⟨_, 25, 10, _, _, _, _⟩ rfl
    dsimp only at g
    rw [k_m, List.getElem?_eq_getElem (by omega)] at g
    exact g)
  obtain ⟨tz, e11⟩ := sl_of (enc := enc) (W := W) (base := base) (spare := spare) (held := held) (n := k) (y := xs[7]) (c := c11) Tryz.underlying26 (by
    have g := hf 7 ⟨_, 26, 11, _, _, _, _⟩ rfl
    dsimp only at g
    rw [k_b, List.getElem?_eq_getElem (by omega)] at g
    exact g)
  obtain ⟨t1, e12⟩ := int_of (enc := enc) (W := W) (base := base) (spare := spare) (held := held) (n := k) (y := xs[8]) (c := c12) Tryz.underlying2 (by
    have g := hf 8 ⟨_, 2, 12, _, _, _, _⟩ rfl
    dsimp only at g
    rw [k_l, List.getElem?_eq_getElem (by omega)] at g
    exact g)
  obtain ⟨t2, e13⟩ := int_of (enc := enc) (W := W) (base := base) (spare := spare) (held := held) (n := k) (y := xs[9]) (c := c13) Tryz.underlying2 (by
    have g := hf 9 ⟨_, 2, 13, _, _, _, _⟩ rfl
    dsimp only at g
    rw [k_l, List.getElem?_eq_getElem (by omega)] at g
    exact g)
  obtain ⟨fo, e14⟩ := bo_of (enc := enc) (W := W) (base := base) (spare := spare) (held := held) (n := k) (y := xs[10]) (c := c14) Tryz.underlying4 (by
    have g := hf 10 ⟨_, 4, 14, _, _, _, _⟩ rfl
    dsimp only at g
    rw [k_o, List.getElem?_eq_getElem (by omega)] at g
    exact g)
  exact ⟨sp, sq, za, zb, zm, tz, t1, t2, fo, e6, e7, e8, e9, e10, e11, e12, e13, e14⟩
end
set_option maxRecDepth 100000 in
set_option maxHeartbeats 4000000 in
theorem none_lifted (os : Os) (started : os.Started) (H : Type) (enc : TypeId × Value → H) :
    ReturnsInHanded {} Tryz.checked os 3 .any (fun w args => (Rows.treeNoneSpec.pre enc Tryz.prog Tryz.f3 [] false w args ∧ laidMetH Tryz.prog laidL w) ∧ sizedMet enc Tryz.prog Tryz.f3 (OpenSpec.ofChange Rows.treeNoneSpec) false w args)
      (Rows.treeNoneSpec.post enc Tryz.prog Tryz.f3 false true false false) := by
  refine returnsInHanded_of_change_and (C := Tryz.checked) (X := fun w _ => laidMetH Tryz.prog laidL w) (fun _ _ _ hh h => h.of_heap hh) own started (by kernel_rfl) Tryz.func3
    (ChangeSpec.witness_shaped (enc := enc) (C := Tryz.checked) (os := os) (X := fun w _ => laidMetH Tryz.prog laidL w) false (World.doorLaid Tryz.prog 400 os) #[.agg #[.int .u8 0, .int .i64 0, .int .i64 0, .slice none 0 0, .int .i64 0, .int .i64 0, .string ⟨#[]⟩, .string ⟨#[]⟩, .int .i64 0, .int .i64 0, .int .i64 0, .slice none 0 0, .int .i64 0, .int .i64 0, .bool false]] 8 rfl (World.shaped_of_RefB (by kernel_rfl) (by kernel_rfl)) (by kernel_rfl) (by kernel_rfl) (by kernel_rfl) (door_met os _)) ?_
  intro W base args ds gs before hval0 hW _ _ hL _
  have hval : ∀ (j : Nat) t v, Tryz.f3.params[j]? = some t → args[j]? = some v → Value.okWide Tryz.prog W .any base t v := hval0
  have hW' := hW
  obtain ⟨p, q, hA0, hV, rfl, hfz, hnd⟩ := hW
  have hA : DataW.TrodAll enc Tryz.prog W 0 (fun _ => true) true Tryz.f3.params.toList args.toList ds p := hA0
  rw [Tryz.params3] at hA hval
  obtain ⟨v0, d0, rfl, rfl, h0⟩ := trodAll_one hA
  obtain ⟨rfl, rfl⟩ := trodVars_none hV
  obtain ⟨cs, rfl, hsz⟩ := okWide_struct Tryz.underlying28 (hval 0 28 v0 rfl rfl)
  rw [show Tryz.prog.cellsOf 28 = 15 by kernel_rfl] at hsz
  have lt0 : ∀ z ∈ p, z.block < W.heap.size := by obtain ⟨m, hm⟩ := h0; exact DataW.trod_lt m _ _ _ hm
  clear hA0 hval0 hval
  obtain ⟨c0, c1, c2, c3, c4, c5, c6, c7, c8, c9, c10, c11, c12, c13, c14, rfl⟩ := arr15 cs hsz
  obtain ⟨⟨u, g, gz, um, cw, rfl, rfl, rfl, rfl, rfl⟩, sp, sq, za, zb, zm, tz, t1, t2, fo, rfl, rfl, rfl, rfl, rfl, rfl, rfl, rfl, rfl⟩ : (∃ (u g : Int) (gz : Option Addr × Nat × Nat) (um cw : Int), c1 = .int .i64 u ∧ c2 = .int .i64 g ∧ c3 = .slice gz.1 gz.2.1 gz.2.2 ∧ c4 = .int .i64 um ∧ c5 = .int .i64 cw) ∧ (∃ (sp sq : ByteArray) (za zb zm : Int) (tz : Option Addr × Nat × Nat) (t1 t2 : Int) (fo : Bool), c6 = .string sp ∧ c7 = .string sq ∧ c8 = .int .i64 za ∧ c9 = .int .i64 zb ∧ c10 = .int .i64 zm ∧ c11 = .slice tz.1 tz.2.1 tz.2.2 ∧ c12 = .int .i64 t1 ∧ c13 = .int .i64 t2 ∧ c14 = .bool fo) := by obtain ⟨m, hm⟩ := h0; exact op_open hm
  refine (none6_walk c0 u g gz.1 gz.2.1 gz.2.2 um cw sp sq za zb zm tz.1 tz.2.1 tz.2.2 t1 t2 fo W (of_laid hL) nfEntries awake6).mono fun e W' ⟨he, bel0⟩ => ?_
  have bel := Mod.below0 bel0
  subst he
  exact ⟨_, rfl, _, _, _, [], _, [], hW', trodAll_mk1 (shut_bool Tryz.underlying4 _), trodAll_mk1 (Below.trod laidOut (by kernel_rfl) (of_decide_eq_true (by kernel_rfl)) h0 bel lt0), rfl, bel.frame _, fun h => by cases h⟩

theorem treeNone_holds : Rows.TreeNoneSaid :=
  OpenClaim.holds_of_wide 3 Tryz.f3 rfl rfl rfl rfl rfl rfl rfl ⟨rfl, rfl, rfl, rfl, rfl⟩ rfl rfl rfl rfl rfl (by kernel_rfl) Tryz.func3 (by kernel_rfl)
    (of_decide_eq_true (by kernel_rfl)) (by unfold Func.isWrapper; first | (rw [if_pos (by decide +kernel)]; kernel_rfl) | (rw [if_neg (by decide +kernel)]; exact ⟨rfl, rfl⟩))
    (fun os started H enc _ => none_lifted os started H enc)
theorem treeNone_card : Rows.TreeNoneCardSaid :=
  Claim7.holds_tied_plain_at .later [] [.data] true (true, "9d42ba3b5a36e08b02f1e500fcc4d7d4fe4d96552d6165b7fc572fbe7792d99b") true
    treeNone_holds (fun _ h => by cases h) (by kernel_rfl) (fun _ h => by cases h) treeNone_row_tie rfl ⟨rfl, rfl⟩ (by kernel_rfl) rfl
    (fun f fn hf hfn => by
      obtain rfl : f = 3 := Option.some.inj ((show Tryz.prog.funcNamed "tinsel/tinsellaw06.TreeNone" = some 3 by kernel_rfl).symm.trans hf) |>.symm
      obtain rfl : fn = Tryz.f3 := (Option.some.inj (Tryz.func3.symm.trans hfn)).symm
      exact ⟨by kernel_rfl, fun j t ht => by
        rw [Tryz.params3] at ht
        have hm : t ∈ [28] := by simpa using Array.mem_of_getElem? ht
        have hall : ([28].all fun u => !Tryz.prog.wantsStandIn u) = true := by kernel_rfl
        exact (show Tryz.prog.wantsStandIn t = false by simpa using List.all_eq_true.1 hall t hm)⟩)
    (by kernel_rfl)
#print axioms treeNone_card
end Go.Proofs.YtpohjgnfndgniaaGreatDoor
