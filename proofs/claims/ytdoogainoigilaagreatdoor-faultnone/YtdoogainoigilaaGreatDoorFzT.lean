/- FaultNone, lifted: for whatever call and plan the statement's function answers true and leaves what it was given as it was. Condition (the row's own): math/bits.deBruijn64tab, unicode.White_Space and strings.asciiSpace start as the program's text lays them. -/
import Derived.Test.YtdoogainoigilaaGreatDoorFzR
import Derived.Deep.Slices
import Derived.ShutString
namespace Go.Proofs.YtdoogainoigilaaGreatDoor
open Go.ChangeShapes Go.WideShapes Go.ChangeAt Go.RowKit
open Ev
def One1 (r : Value) : Prop := (∀ a, r ≠ .agg a) ∧ ∀ a, r ≠ .tuple a
theorem none_walk (c0 c1 c2 c3 c4 c5 c6 c7 c8 c9 p : Value) (q0 : One1 c0) (q1 : One1 c1) (q2 : One1 c2) (q3 : One1 c3) (q4 : One1 c4) (q5 : One1 c5) (q6 : One1 c6) (q7 : One1 c7) (q8 : One1 c8) (q9 : One1 c9) (hp : One1 p) (W : World) (hL : laidMetH Tryz.prog laidL W) (hS : W.ShapedOpen Tryz.prog) : Calls Tryz.prog 3 #[.agg #[c0, c1, c2, c3, c4, c5, c6, c7, c8, c9], p] W fun e w' => e = .returned (.bool true) ∧ Below W.heap.size W w' := by
  obtain ⟨v, H', rd', wr', h1, h2⟩ := callA_ok xA_ok Tryz.checked.mixed (fzRun c0 c1 c2 c3 c4 c5 c6 c7 c8 c9 p)
  have hv : v = .bool true := by
    unfold saysTrue at h1
    split at h1
    · rfl
    · cases h1
  subst hv
  refine (h2 rho0 W #[.agg #[c0, c1, c2, c3, c4, c5, c6, c7, c8, c9], p] ⟨_, _, rfl, ⟨_, rfl, _, _, rfl, ⟨rfl, q0⟩, _, _, rfl, ⟨rfl, q1⟩, _, _, rfl, ⟨rfl, q2⟩, _, _, rfl, ⟨rfl, q3⟩, _, _, rfl, ⟨rfl, q4⟩, _, _, rfl, ⟨rfl, q5⟩, _, _, rfl, ⟨rfl, q6⟩, _, _, rfl, ⟨rfl, q7⟩, _, _, rfl, ⟨rfl, q8⟩, _, _, rfl, ⟨rfl, q9⟩, rfl⟩, _, _, rfl, ⟨rfl, hp⟩, rfl⟩ (st0 hL hS) (fun x hx => ?_) (by show 5 ≤ 15; omega)).mono ?_
  · have hx' : 15 ≤ x := hx
    unfold rho0
    rw [if_neg (by omega)]
  · rintro e w' ⟨r, ρ', rfl, a1, a2⟩
    refine ⟨by rw [show r = .bool true from a1], a2.rest.1, a2.rest.2.1, a2.rest.2.2, a2.size, fun b hb => a2.same b hb fun x o k hon hg hk e => ?_⟩
    have hG := (a2.own x hon).2
    unfold rho0 at hk
    rw [if_neg (by omega)] at hk
    cases hk
theorem arr10 (cs : Array Value) (h : cs.size = 10) : ∃ c0 c1 c2 c3 c4 c5 c6 c7 c8 c9, cs = #[c0, c1, c2, c3, c4, c5, c6, c7, c8, c9] := by
  rcases cs with ⟨l⟩
  match l, h with
  | [c0, c1, c2, c3, c4, c5, c6, c7, c8, c9], _ => exact ⟨c0, c1, c2, c3, c4, c5, c6, c7, c8, c9, rfl⟩
section
variable {H : Type} {enc : TypeId × Value → H} {W : World} {base : Nat} {spare : Nat → Bool} {held : Bool}
theorem int_of {n : Nat} {t : TypeId} {c : Value} {y : DataW H × List MemPlace} (ht : Tryz.prog.underlying t = some (.int .i64)) (h : DataW.trod enc Tryz.prog W base spare held n t [c] = some y) : ∃ z, c = .int .i64 z := by
  obtain ⟨z, hz, _⟩ := DataW.trod_int ht h
  exact ⟨z, by simpa using hz⟩
theorem str_of {n : Nat} {t : TypeId} {c : Value} {y : DataW H × List MemPlace} (ht : Tryz.prog.underlying t = some .string) (h : DataW.trod enc Tryz.prog W base spare held n t [c] = some y) : ∃ z, c = .string z := by
  obtain ⟨z, hz, _⟩ := DataW.trod_string ht h
  exact ⟨z, by simpa using hz⟩
theorem sl_of {n : Nat} {t e : TypeId} {c : Value} {y : DataW H × List MemPlace} (ht : Tryz.prog.underlying t = some (.slice e)) (h : DataW.trod enc Tryz.prog W base spare held n t [c] = some y) : ∃ z : Option Addr × Nat × Nat, c = .slice z.1 z.2.1 z.2.2 := by
  rcases Go.Deep.open_slice ht h with ⟨hcs, _⟩ | ⟨x, len', cap', m, n, D, Pl, hcs, _⟩
  · exact ⟨(none, 0, 0), by simpa using hcs⟩
  · exact ⟨(some x, len', cap'), by simpa using hcs⟩
theorem bo_of {n : Nat} {t : TypeId} {c : Value} {y : DataW H × List MemPlace} (ht : Tryz.prog.underlying t = some .bool) (h : DataW.trod enc Tryz.prog W base spare held n t [c] = some y) : ∃ z, c = .bool z := by
  obtain ⟨z, hz, _⟩ := DataW.trod_bool ht h
  exact ⟨z, by simpa using hz⟩
theorem k_s : Tryz.prog.cellsOf 9 = 1 := by kernel_rfl
theorem k_i : Tryz.prog.cellsOf 3 = 1 := by kernel_rfl
theorem k_b : Tryz.prog.cellsOf 23 = 1 := by kernel_rfl
theorem k_m : Tryz.prog.cellsOf 22 = 1 := by kernel_rfl
theorem k_l : Tryz.prog.cellsOf 2 = 1 := by kernel_rfl
theorem k_o : Tryz.prog.cellsOf 4 = 1 := by kernel_rfl
theorem k_u : Tryz.prog.cellsOf 5 = 1 := by kernel_rfl
theorem k_open {n : Nat} {c0 c1 c2 c3 c4 c5 c6 c7 c8 c9 : Value} {y : DataW H × List MemPlace} (h : DataW.trod enc Tryz.prog W base spare held n 25 [c0, c1, c2, c3, c4, c5, c6, c7, c8, c9] = some y) : ∃ z, c0 = .int .u8 z := by
  obtain ⟨xs, k, _, _, _, hlen, hf⟩ := DataW.trod_struct Tryz.underlying25 h
  have hl : xs.length = 10 := hlen
  have g := hf 0 ⟨_, 5, 0, _, _, _, _⟩ rfl
  dsimp only at g
  rw [k_u, List.getElem?_eq_getElem (by omega)] at g
  obtain ⟨z, hz, _⟩ := DataW.trod_int Tryz.underlying5 g
  exact ⟨z, by simpa using hz⟩
theorem op_open {n : Nat} {c0 c1 c2 c3 c4 c5 c6 c7 c8 c9 : Value} {y : DataW H × List MemPlace} (h : DataW.trod enc Tryz.prog W base spare held n 25 [c0, c1, c2, c3, c4, c5, c6, c7, c8, c9] = some y) : (∃ z, c1 = .string z) ∧ (∃ z, c2 = .string z) ∧ (∃ z, c3 = .int .i64 z) ∧ (∃ z, c4 = .int .i64 z) ∧ (∃ z, c5 = .int .i64 z) ∧ (∃ z : Option Addr × Nat × Nat, c6 = .slice z.1 z.2.1 z.2.2) ∧ (∃ z, c7 = .int .i64 z) ∧ (∃ z, c8 = .int .i64 z) ∧ (∃ z, c9 = .bool z) := by
  obtain ⟨xs, k, _, _, _, hlen, hf⟩ := DataW.trod_struct Tryz.underlying25 h
  have hl : xs.length = 10 := hlen
  refine ⟨?_, ?_, ?_, ?_, ?_, ?_, ?_, ?_, ?_⟩
  · exact str_of (enc := enc) (W := W) (base := base) (spare := spare) (held := held) (n := k) (y := xs[1]) (c := c1) Tryz.underlying9 (by
      have g := hf 1 ⟨_, 9, 1, _, _, _, _⟩ rfl
      dsimp only at g
      rw [k_s, List.getElem?_eq_getElem (by omega)] at g
      exact g)
  · exact str_of (enc := enc) (W := W) (base := base) (spare := spare) (held := held) (n := k) (y := xs[2]) (c := c2) Tryz.underlying9 (by
      have g := hf 2 ⟨_, 9, 2, _, _, _, _⟩ rfl
      dsimp only at g
      rw [k_s, List.getElem?_eq_getElem (by omega)] at g
      exact g)
  · exact int_of (enc := enc) (W := W) (base := base) (spare := spare) (held := held) (n := k) (y := xs[3]) (c := c3) Tryz.underlying3 (by
      have g := hf 3 ⟨_, 3, 3, _, _, _, _⟩ rfl
      dsimp only at g
      rw [k_i, List.getElem?_eq_getElem (by omega)] at g
      exact g)
  · exact int_of (enc := enc) (W := W) (base := base) (spare := spare) (held := held) (n := k) (y := xs[4]) (c := c4) Tryz.underlying3 (by
      have g := hf 4 ⟨_, 3, 4, _, _, _, _⟩ rfl
      dsimp only at g
      rw [k_i, List.getElem?_eq_getElem (by omega)] at g
      exact g)
  · exact int_of (enc := enc) (W := W) (base := base) (spare := spare) (held := held) (n := k) (y := xs[5]) (c := c5) Tryz.underlying22 (by
      have g := hf 5 ⟨_, 22, 5, _, _, _, _⟩ rfl
      dsimp only at g
      rw [k_m, List.getElem?_eq_getElem (by omega)] at g
      exact g)
  · exact sl_of (enc := enc) (W := W) (base := base) (spare := spare) (held := held) (n := k) (y := xs[6]) (c := c6) Tryz.underlying23 (by
      have g := hf 6 ⟨_, 23, 6, _, _, _, _⟩ rfl
      dsimp only at g
      rw [k_b, List.getElem?_eq_getElem (by omega)] at g
      exact g)
  · exact int_of (enc := enc) (W := W) (base := base) (spare := spare) (held := held) (n := k) (y := xs[7]) (c := c7) Tryz.underlying2 (by
      have g := hf 7 ⟨_, 2, 7, _, _, _, _⟩ rfl
      dsimp only at g
      rw [k_l, List.getElem?_eq_getElem (by omega)] at g
      exact g)
  · exact int_of (enc := enc) (W := W) (base := base) (spare := spare) (held := held) (n := k) (y := xs[8]) (c := c8) Tryz.underlying2 (by
      have g := hf 8 ⟨_, 2, 8, _, _, _, _⟩ rfl
      dsimp only at g
      rw [k_l, List.getElem?_eq_getElem (by omega)] at g
      exact g)
  · exact bo_of (enc := enc) (W := W) (base := base) (spare := spare) (held := held) (n := k) (y := xs[9]) (c := c9) Tryz.underlying4 (by
      have g := hf 9 ⟨_, 4, 9, _, _, _, _⟩ rfl
      dsimp only at g
      rw [k_o, List.getElem?_eq_getElem (by omega)] at g
      exact g)
end
set_option maxRecDepth 100000 in
set_option maxHeartbeats 4000000 in
theorem none_lifted (os : Os) (started : os.Started) (H : Type) (enc : TypeId × Value → H) :
    ReturnsInHanded {} Tryz.checked os 3 .any (fun w args => (Rows.faultNoneSpec.pre enc Tryz.prog Tryz.f3 [] false w args ∧ laidMetH Tryz.prog laidL w) ∧ sizedMet enc Tryz.prog Tryz.f3 (OpenSpec.ofChange Rows.faultNoneSpec) false w args)
      (Rows.faultNoneSpec.post enc Tryz.prog Tryz.f3 false true false false) := by
  refine of_change_and_shaped (C := Tryz.checked) (X := fun w _ => laidMetH Tryz.prog laidL w) (fun _ _ _ hh h => h.of_heap hh) own started (by kernel_rfl) Tryz.func3
    (ChangeSpec.witness_shaped (enc := enc) (C := Tryz.checked) (os := os) (X := fun w _ => laidMetH Tryz.prog laidL w) false (World.laidAll Tryz.prog os laidL) #[.agg #[.int .u8 0, .string ⟨#[]⟩, .string ⟨#[]⟩, .int .i64 0, .int .i64 0, .int .i64 0, .slice none 0 0, .int .i64 0, .int .i64 0, .bool false], .slice none 0 0] 8 (World.laidAll_os _ _ _) (World.shaped_of_ZipB (by kernel_rfl) (by kernel_rfl)) (by kernel_rfl) (by kernel_rfl) (by kernel_rfl) (start_met os _)) ?_
  intro W base args ds gs before hval0 hW _ hsz hL hsh _
  have hval : ∀ (j : Nat) t v, Tryz.f3.params[j]? = some t → args[j]? = some v → Value.okWide Tryz.prog W .any base t v := hval0
  have hW' := hW
  obtain ⟨p, q, hA0, hV, rfl, hfz, hnd⟩ := hW
  have hA : DataW.TrodAll enc Tryz.prog W 0 (fun _ => true) true Tryz.f3.params.toList args.toList ds p := hA0
  rw [Tryz.params3] at hA hval
  obtain ⟨v0, v1, d0, d1, p0, p1, rfl, rfl, rfl, h0, h1⟩ := trodAll_two hA
  obtain ⟨rfl, rfl⟩ := trodVars_none hV
  obtain ⟨cs, rfl, hsz0⟩ := okWide_struct Tryz.underlying25 (hval 0 25 v0 rfl rfl)
  rw [show Tryz.prog.cellsOf 25 = 10 by kernel_rfl] at hsz0
  obtain ⟨pa, pl, pc, rfl⟩ := okWide_slice Tryz.underlying26 (hval 1 26 v1 rfl rfl)
  have lt0 : ∀ z ∈ p0, z.block < W.heap.size := by obtain ⟨m, hm⟩ := h0; exact DataW.trod_lt m _ _ _ hm
  have lt1 : ∀ z ∈ p1, z.block < W.heap.size := by obtain ⟨m, hm⟩ := h1; exact DataW.trod_lt m _ _ _ hm
  clear hA0 hval0 hval
  obtain ⟨c0, c1, c2, c3, c4, c5, c6, c7, c8, c9, rfl⟩ := arr10 cs hsz0
  have hk : (∃ z, c0 = .int .u8 z) ∧ (∃ z, c1 = .string z) ∧ (∃ z, c2 = .string z) ∧ (∃ z, c3 = .int .i64 z) ∧ (∃ z, c4 = .int .i64 z) ∧ (∃ z, c5 = .int .i64 z) ∧ (∃ z : Option Addr × Nat × Nat, c6 = .slice z.1 z.2.1 z.2.2) ∧ (∃ z, c7 = .int .i64 z) ∧ (∃ z, c8 = .int .i64 z) ∧ (∃ z, c9 = .bool z) := by
    obtain ⟨m, hm⟩ := h0
    exact ⟨k_open hm, op_open hm⟩
  obtain ⟨⟨z0, rfl⟩, ⟨z1, rfl⟩, ⟨z2, rfl⟩, ⟨z3, rfl⟩, ⟨z4, rfl⟩, ⟨z5, rfl⟩, ⟨z6, rfl⟩, ⟨z7, rfl⟩, ⟨z8, rfl⟩, ⟨z9, rfl⟩⟩ := hk
  have bI : ∀ {k : IntKind} (z : Int), One1 (.int k z) := fun _ => ⟨fun _ h => (by cases h), fun _ h => (by cases h)⟩
  have bS : ∀ (z : ByteArray), One1 (.string z) := fun _ => ⟨fun _ h => (by cases h), fun _ h => (by cases h)⟩
  have bB : ∀ (z : Bool), One1 (.bool z) := fun _ => ⟨fun _ h => (by cases h), fun _ h => (by cases h)⟩
  have bL : ∀ (a : Option Addr) (l c : Nat), One1 (.slice a l c) := fun _ _ _ => ⟨fun _ h => (by cases h), fun _ h => (by cases h)⟩
  refine (none_walk _ _ _ _ _ _ _ _ _ _ _ (bI _) (bS _) (bS _) (bI _) (bI _) (bI _) (bL _ _ _) (bI _) (bI _) (bB _) (bL _ _ _) W hL hsh).mono fun e W' ⟨he, bel⟩ => ?_
  subst he
  exact ⟨_, rfl, _, _, _, [], _, [], hW', trodAll_mk1 (shut_bool Tryz.underlying4 _), trodAll_mk2 (Below.trod laidOut (by kernel_rfl) (of_decide_eq_true (by kernel_rfl)) h0 bel lt0) (Below.trod laidOut (by kernel_rfl) (of_decide_eq_true (by kernel_rfl)) h1 bel lt1), rfl, bel.frame _, fun h => by cases h⟩
end Go.Proofs.YtdoogainoigilaaGreatDoor
