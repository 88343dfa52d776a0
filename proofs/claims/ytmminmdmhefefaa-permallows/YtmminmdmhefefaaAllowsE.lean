/- PermAllows: for whoever asks for whatever the statement's function answers true and leaves what it was given as it was. No condition. -/
import Derived.Test.YtmminmdmhefefaaRows
import Derived.Test.YtmminmdmhefefaaPmj
import Derived.ProofKit
import Derived.Deep.MidRow
namespace Go.Proofs.Ytmminmdmhefefaa
open Go.ChangeShapes Go.WideShapes Go.ChangeAt Go.RowKit
theorem own : ownKnob Try.prog.godebug = none := by kernel_rfl
theorem laidOut : laidOutB Try.prog = true := by kernel_rfl
theorem spot_of_cell {w : World} {a : Addr} {v : Value} (h : w.cell? a = some v) : a.spot = none := by
  unfold World.cell? at h
  split at h
  · split at h
    · exact absurd h (by simp)
    · rename_i hs
      cases e : a.spot with
      | none => rfl
      | some x => rw [e] at hs; simp at hs
  · exact absurd h (by simp)
theorem arr5 (cs : Array Value) (h : cs.size = 5) : ∃ c0 c1 c2 c3 c4, cs = #[c0, c1, c2, c3, c4] := by
  rcases cs with ⟨l⟩
  match l, h with
  | [c0, c1, c2, c3, c4], _ => exact ⟨c0, c1, c2, c3, c4, rfl⟩
theorem arr24 (cs : Array Value) (h : cs.size = 24) : ∃ c0 c1 c2 c3 c4 c5 c6 c7 c8 c9 c10 c11 c12 c13 c14 c15 c16 c17 c18 c19 c20 c21 c22 c23, cs = #[c0, c1, c2, c3, c4, c5, c6, c7, c8, c9, c10, c11, c12, c13, c14, c15, c16, c17, c18, c19, c20, c21, c22, c23] := by
  rcases cs with ⟨l⟩
  match l, h with
  | [c0, c1, c2, c3, c4, c5, c6, c7, c8, c9, c10, c11, c12, c13, c14, c15, c16, c17, c18, c19, c20, c21, c22, c23], _ => exact ⟨c0, c1, c2, c3, c4, c5, c6, c7, c8, c9, c10, c11, c12, c13, c14, c15, c16, c17, c18, c19, c20, c21, c22, c23, rfl⟩
section
variable {H : Type} {enc : TypeId × Value → H} {W : World} {base : Nat} {spare : Nat → Bool} {held : Bool}
theorem int_of {n : Nat} {t : TypeId} {c : Value} {y : DataW H × List MemPlace} (ht : Try.prog.underlying t = some (.int .i64)) (h : DataW.trod enc Try.prog W base spare held n t [c] = some y) : ∃ z, c = .int .i64 z := by
  obtain ⟨z, hz, _⟩ := DataW.trod_int ht h
  exact ⟨z, by simpa using hz⟩
theorem k3 : Try.prog.cellsOf 3 = 1 := by kernel_rfl
theorem k22 : Try.prog.cellsOf 22 = 1 := by kernel_rfl
theorem k2 : Try.prog.cellsOf 2 = 1 := by kernel_rfl
theorem k34 : Try.prog.cellsOf 34 = 1 := by kernel_rfl
theorem k38 : Try.prog.cellsOf 38 = 10 := by kernel_rfl
theorem row_of {n : Nat} {c : Value} {y : DataW H × List MemPlace} (h : DataW.trod enc Try.prog W base spare held n 34 [c] = some y) : ∃ a k xs, c = .slice a (xs : List Int).length k ∧ Ints W a xs ∧ xs.length ≤ 9223372036854775807 := by
  rcases open_ints Try.underlying34 Try.underlying3 (by kernel_rfl) h with ⟨hcs, _⟩ | ⟨a, len, cap, zs, hcs, _, hl, hm, hz, _, hcell, _⟩
  · simp at hcs
    exact ⟨none, 0, [], by simp [hcs], fun i hi => by simp at hi, by simp⟩
  · simp at hcs
    have hzl : len ≤ zs.length := by rw [hz]; split <;> omega
    have hxl : (zs.take len).length = len := by simp; omega
    refine ⟨some a, cap, zs.take len, by rw [hxl]; exact hcs, ?_, by rw [hxl]; unfold maxLen at hm; omega⟩
    intro i hi
    rw [hxl] at hi
    have h1 := hcell i (by omega)
    have h0 := hcell 0 (by omega)
    obtain ⟨g, go, sp⟩ := a
    have hsp : sp = none := by
      cases sp with
      | none => rfl
      | some x =>
        have := spot_of_cell h0
        simp [Addr.add] at this
    subst hsp
    rw [Addr.add_mid] at h1
    refine ⟨g, go, rfl, block_lt_of_cell h1, ?_⟩
    rw [h1]
    simp [List.getD_eq_getElem?_getD, List.getElem?_eq_getElem (show i < zs.length by omega)]
theorem stat_open {n : Nat} {c0 c1 c2 c3 c4 c5 c6 c7 c8 c9 : Value} {y : DataW H × List MemPlace} (h : DataW.trod enc Try.prog W base spare held n 38 [c0, c1, c2, c3, c4, c5, c6, c7, c8, c9] = some y) :
    ∃ z0 z1 z2 z3 z4 z5 z6 z7 z8 z9 : Int, c0 = .int .i64 z0 ∧ c1 = .int .i64 z1 ∧ c2 = .int .i64 z2 ∧ c3 = .int .i64 z3 ∧ c4 = .int .i64 z4 ∧ c5 = .int .i64 z5 ∧ c6 = .int .i64 z6 ∧ c7 = .int .i64 z7 ∧ c8 = .int .i64 z8 ∧ c9 = .int .i64 z9 := by
  obtain ⟨xs, k, _, _, _, hlen, hf⟩ := DataW.trod_struct Try.underlying38 h
  have hl : xs.length = 10 := hlen
  obtain ⟨z0, e0⟩ := int_of (enc := enc) (W := W) (base := base) (spare := spare) (held := held) (n := k) (y := xs[0]) (c := c0) Try.underlying3 (by
    have g := hf 0 ⟨_, 3, 0, _, _, _, _⟩ rfl
    dsimp only at g
    rw [k3, List.getElem?_eq_getElem (by omega)] at g
    exact g)
  obtain ⟨z1, e1⟩ := int_of (enc := enc) (W := W) (base := base) (spare := spare) (held := held) (n := k) (y := xs[1]) (c := c1) Try.underlying3 (by
    have g := hf 1 ⟨_, 3, 1, _, _, _, _⟩ rfl
    dsimp only at g
    rw [k3, List.getElem?_eq_getElem (by omega)] at g
    exact g)
  obtain ⟨z2, e2⟩ := int_of (enc := enc) (W := W) (base := base) (spare := spare) (held := held) (n := k) (y := xs[2]) (c := c2) Try.underlying3 (by
    have g := hf 2 ⟨_, 3, 2, _, _, _, _⟩ rfl
    dsimp only at g
    rw [k3, List.getElem?_eq_getElem (by omega)] at g
    exact g)
  obtain ⟨z3, e3⟩ := int_of (enc := enc) (W := W) (base := base) (spare := spare) (held := held) (n := k) (y := xs[3]) (c := c3) Try.underlying3 (by
    have g := hf 3 ⟨_, 3, 3, _, _, _, _⟩ rfl
    dsimp only at g
    rw [k3, List.getElem?_eq_getElem (by omega)] at g
    exact g)
  obtain ⟨z4, e4⟩ := int_of (enc := enc) (W := W) (base := base) (spare := spare) (held := held) (n := k) (y := xs[4]) (c := c4) Try.underlying3 (by
    have g := hf 4 ⟨_, 3, 4, _, _, _, _⟩ rfl
    dsimp only at g
    rw [k3, List.getElem?_eq_getElem (by omega)] at g
    exact g)
  obtain ⟨z5, e5⟩ := int_of (enc := enc) (W := W) (base := base) (spare := spare) (held := held) (n := k) (y := xs[5]) (c := c5) Try.underlying3 (by
    have g := hf 5 ⟨_, 3, 5, _, _, _, _⟩ rfl
    dsimp only at g
    rw [k3, List.getElem?_eq_getElem (by omega)] at g
    exact g)
  obtain ⟨z6, e6⟩ := int_of (enc := enc) (W := W) (base := base) (spare := spare) (held := held) (n := k) (y := xs[6]) (c := c6) Try.underlying22 (by
    have g := hf 6 ⟨_, 22, 6, _, _, _, _⟩ rfl
    dsimp only at g
    rw [k22, List.getElem?_eq_getElem (by omega)] at g
    exact g)
  obtain ⟨z7, e7⟩ := int_of (enc := enc) (W := W) (base := base) (spare := spare) (held := held) (n := k) (y := xs[7]) (c := c7) Try.underlying2 (by
    have g := hf 7 ⟨_, 2, 7, _, _, _, _⟩ rfl
    dsimp only at g
    rw [k2, List.getElem?_eq_getElem (by omega)] at g
    exact g)
  obtain ⟨z8, e8⟩ := int_of (enc := enc) (W := W) (base := base) (spare := spare) (held := held) (n := k) (y := xs[8]) (c := c8) Try.underlying2 (by
    have g := hf 8 ⟨_, 2, 8, _, _, _, _⟩ rfl
    dsimp only at g
    rw [k2, List.getElem?_eq_getElem (by omega)] at g
    exact g)
  obtain ⟨z9, e9⟩ := int_of (enc := enc) (W := W) (base := base) (spare := spare) (held := held) (n := k) (y := xs[9]) (c := c9) Try.underlying2 (by
    have g := hf 9 ⟨_, 2, 9, _, _, _, _⟩ rfl
    dsimp only at g
    rw [k2, List.getElem?_eq_getElem (by omega)] at g
    exact g)
  exact ⟨z0, z1, z2, z3, z4, z5, z6, z7, z8, z9, e0, e1, e2, e3, e4, e5, e6, e7, e8, e9⟩
theorem cred_open {n : Nat} {c0 c1 c2 c3 c4 : Value} {y : DataW H × List MemPlace} (h : DataW.trod enc Try.prog W base spare held n 36 [c0, c1, c2, c3, c4] = some y) :
    ∃ (u g um cw : Int) (a : Option Addr) (m : Nat) (xs : List Int), c0 = .int .i64 u ∧ c1 = .int .i64 g ∧ c2 = .slice a xs.length m ∧ c3 = .int .i64 um ∧ c4 = .int .i64 cw ∧ Ints W a xs ∧ xs.length ≤ 9223372036854775807 := by
  obtain ⟨xs, k, _, _, _, hlen, hf⟩ := DataW.trod_struct Try.underlying36 h
  have hl : xs.length = 5 := hlen
  obtain ⟨z0, e0⟩ := int_of (enc := enc) (W := W) (base := base) (spare := spare) (held := held) (n := k) (y := xs[0]) (c := c0) Try.underlying3 (by
    have g := hf 0 ⟨_, 3, 0, _, _, _, _⟩ rfl
    dsimp only at g
    rw [k3, List.getElem?_eq_getElem (by omega)] at g
    exact g)
  obtain ⟨z1, e1⟩ := int_of (enc := enc) (W := W) (base := base) (spare := spare) (held := held) (n := k) (y := xs[1]) (c := c1) Try.underlying3 (by
    have g := hf 1 ⟨_, 3, 1, _, _, _, _⟩ rfl
    dsimp only at g
    rw [k3, List.getElem?_eq_getElem (by omega)] at g
    exact g)
  obtain ⟨z3, e3⟩ := int_of (enc := enc) (W := W) (base := base) (spare := spare) (held := held) (n := k) (y := xs[3]) (c := c3) Try.underlying3 (by
    have g := hf 3 ⟨_, 3, 3, _, _, _, _⟩ rfl
    dsimp only at g
    rw [k3, List.getElem?_eq_getElem (by omega)] at g
    exact g)
  obtain ⟨z4, e4⟩ := int_of (enc := enc) (W := W) (base := base) (spare := spare) (held := held) (n := k) (y := xs[4]) (c := c4) Try.underlying3 (by
    have g := hf 4 ⟨_, 3, 4, _, _, _, _⟩ rfl
    dsimp only at g
    rw [k3, List.getElem?_eq_getElem (by omega)] at g
    exact g)
  obtain ⟨a, m, ys, e2, hI, hn⟩ := row_of (enc := enc) (W := W) (base := base) (spare := spare) (held := held) (n := k) (y := xs[2]) (c := c2) (by
    have g := hf 2 ⟨_, 34, 2, _, _, _, _⟩ rfl
    dsimp only at g
    rw [k34, List.getElem?_eq_getElem (by omega)] at g
    exact g)
  exact ⟨z0, z1, z3, z4, a, m, ys, e0, e1, e2, e3, e4, hI, hn⟩
theorem ask_open {n : Nat} {c0 c1 c2 c3 c4 c5 c6 c7 c8 c9 c10 c11 c12 c13 c14 c15 c16 c17 c18 c19 c20 c21 c22 c23 : Value} {y : DataW H × List MemPlace} (h : DataW.trod enc Try.prog W base spare held n 40 [c0, c1, c2, c3, c4, c5, c6, c7, c8, c9, c10, c11, c12, c13, c14, c15, c16, c17, c18, c19, c20, c21, c22, c23] = some y) :
    ∃ z0 z1 z2 z3 z4 z5 z6 z7 z8 z9 z10 z11 z12 z13 z14 z15 z16 z17 z18 z19 z20 z21 z22 z23 : Int, c0 = .int .i64 z0 ∧ c1 = .int .i64 z1 ∧ c2 = .int .i64 z2 ∧ c3 = .int .i64 z3 ∧ c4 = .int .i64 z4 ∧ c5 = .int .i64 z5 ∧ c6 = .int .i64 z6 ∧ c7 = .int .i64 z7 ∧ c8 = .int .i64 z8 ∧ c9 = .int .i64 z9 ∧ c10 = .int .i64 z10 ∧ c11 = .int .i64 z11 ∧ c12 = .int .i64 z12 ∧ c13 = .int .i64 z13 ∧ c14 = .int .i64 z14 ∧ c15 = .int .i64 z15 ∧ c16 = .int .i64 z16 ∧ c17 = .int .i64 z17 ∧ c18 = .int .i64 z18 ∧ c19 = .int .i64 z19 ∧ c20 = .int .i64 z20 ∧ c21 = .int .i64 z21 ∧ c22 = .int .i64 z22 ∧ c23 = .int .i64 z23 := by
  obtain ⟨xs, k, _, _, _, hlen, hf⟩ := DataW.trod_struct Try.underlying40 h
  have hl : xs.length = 6 := hlen
  obtain ⟨z0, e0⟩ := int_of (enc := enc) (W := W) (base := base) (spare := spare) (held := held) (n := k) (y := xs[0]) (c := c0) Try.underlying3 (by
    have g := hf 0 ⟨_, 3, 0, _, _, _, _⟩ rfl
    dsimp only at g
    rw [k3, List.getElem?_eq_getElem (by omega)] at g
    exact g)
  obtain ⟨z1, e1⟩ := int_of (enc := enc) (W := W) (base := base) (spare := spare) (held := held) (n := k) (y := xs[1]) (c := c1) Try.underlying3 (by
    have g := hf 1 ⟨_, 3, 1, _, _, _, _⟩ rfl
    dsimp only at g
    rw [k3, List.getElem?_eq_getElem (by omega)] at g
    exact g)
  obtain ⟨z2, e2⟩ := int_of (enc := enc) (W := W) (base := base) (spare := spare) (held := held) (n := k) (y := xs[2]) (c := c2) Try.underlying3 (by
    have g := hf 2 ⟨_, 3, 2, _, _, _, _⟩ rfl
    dsimp only at g
    rw [k3, List.getElem?_eq_getElem (by omega)] at g
    exact g)
  obtain ⟨z3, e3⟩ := int_of (enc := enc) (W := W) (base := base) (spare := spare) (held := held) (n := k) (y := xs[3]) (c := c3) Try.underlying3 (by
    have g := hf 3 ⟨_, 3, 3, _, _, _, _⟩ rfl
    dsimp only at g
    rw [k3, List.getElem?_eq_getElem (by omega)] at g
    exact g)
  obtain ⟨z4, z5, z6, z7, z8, z9, z10, z11, z12, z13, e4, e5, e6, e7, e8, e9, e10, e11, e12, e13⟩ := stat_open (enc := enc) (W := W) (base := base) (spare := spare) (held := held) (n := k) (y := xs[4]) (c0 := c4) (c1 := c5) (c2 := c6) (c3 := c7) (c4 := c8) (c5 := c9) (c6 := c10) (c7 := c11) (c8 := c12) (c9 := c13) (by
    have g := hf 4 ⟨_, 38, 4, _, _, _, _⟩ rfl
    dsimp only at g
    rw [k38, List.getElem?_eq_getElem (by omega)] at g
    exact g)
  obtain ⟨z14, z15, z16, z17, z18, z19, z20, z21, z22, z23, e14, e15, e16, e17, e18, e19, e20, e21, e22, e23⟩ := stat_open (enc := enc) (W := W) (base := base) (spare := spare) (held := held) (n := k) (y := xs[5]) (c0 := c14) (c1 := c15) (c2 := c16) (c3 := c17) (c4 := c18) (c5 := c19) (c6 := c20) (c7 := c21) (c8 := c22) (c9 := c23) (by
    have g := hf 5 ⟨_, 38, 14, _, _, _, _⟩ rfl
    dsimp only at g
    rw [k38, List.getElem?_eq_getElem (by omega)] at g
    exact g)
  exact ⟨z0, z1, z2, z3, z4, z5, z6, z7, z8, z9, z10, z11, z12, z13, z14, z15, z16, z17, z18, z19, z20, z21, z22, z23, e0, e1, e2, e3, e4, e5, e6, e7, e8, e9, e10, e11, e12, e13, e14, e15, e16, e17, e18, e19, e20, e21, e22, e23⟩
end
set_option maxRecDepth 100000 in
set_option maxHeartbeats 1000000 in
theorem allows_lifted (os : Os) (started : os.Started) (H : Type) (enc : TypeId × Value → H) :
    ReturnsInHanded {} Try.checked os 5 .any (Rows.permAllowsSpec.pre6 enc Try.prog Try.f5 Rows.permAllowsRow.domain false) (Rows.permAllowsSpec.post enc Try.prog Try.f5 false true false false) := by
  refine returnsInHanded_of_change (C := Try.checked) own started (by kernel_rfl) Try.func5
    (ChangeSpec.witness6 (enc := enc) (C := Try.checked) false ⟨#[], #[.agg #[.int .i64 0, .int .i64 0, .slice none 0 0, .int .i64 0, .int .i64 0], .agg #[.int .i64 0, .int .i64 0, .int .i64 0, .int .i64 0, .int .i64 0, .int .i64 0, .int .i64 0, .int .i64 0, .int .i64 0, .int .i64 0, .int .i64 0, .int .i64 0, .int .i64 0, .int .i64 0, .int .i64 0, .int .i64 0, .int .i64 0, .int .i64 0, .int .i64 0, .int .i64 0, .int .i64 0, .int .i64 0, .int .i64 0, .int .i64 0]], []⟩ 8 (by kernel_rfl) (by kernel_rfl) (by kernel_rfl) (by kernel_rfl)) ?_
  intro W base args ds gs before hval0 hW hcnd _
  have hval : ∀ (j : Nat) t v, Try.f5.params[j]? = some t → args[j]? = some v → Value.okWide Try.prog W .any base t v := hval0
  have hW' := hW
  obtain ⟨p, q, hA0, hV, rfl, hfz, hnd⟩ := hW
  have hA : DataW.TrodAll enc Try.prog W 0 (fun _ => true) true Try.f5.params.toList args.toList ds p := hA0
  rw [Try.params5] at hA hval
  obtain ⟨v0, v1, d0, d1, p0, p1, rfl, rfl, rfl, h0, h1⟩ := trodAll_two hA
  obtain ⟨rfl, rfl⟩ := trodVars_none hV
  obtain ⟨cs, rfl, hs0⟩ := okWide_struct Try.underlying36 (hval 0 36 v0 rfl rfl)
  obtain ⟨cs', rfl, hs1⟩ := okWide_struct Try.underlying40 (hval 1 40 v1 rfl rfl)
  rw [show Try.prog.cellsOf 36 = 5 by kernel_rfl] at hs0
  rw [show Try.prog.cellsOf 40 = 24 by kernel_rfl] at hs1
  have lt0 : ∀ z ∈ p0, z.block < W.heap.size := by obtain ⟨m, hm⟩ := h0; exact DataW.trod_lt m _ _ _ hm
  have lt1 : ∀ z ∈ p1, z.block < W.heap.size := by obtain ⟨m, hm⟩ := h1; exact DataW.trod_lt m _ _ _ hm
  clear hA0 hval0 hval
  obtain ⟨b0, b1, b2, b3, b4, rfl⟩ := arr5 cs hs0
  obtain ⟨c0, c1, c2, c3, c4, c5, c6, c7, c8, c9, c10, c11, c12, c13, c14, c15, c16, c17, c18, c19, c20, c21, c22, c23, rfl⟩ := arr24 cs' hs1
  have j0 := h0
  have j1 := h1
  obtain ⟨n0, hm0⟩ := j0
  obtain ⟨n1, hm1⟩ := j1
  obtain ⟨u, g, um, cw, a, cap, xs, rfl, rfl, rfl, rfl, rfl, hI, hn⟩ := cred_open hm0
  obtain ⟨z0, z1, z2, z3, z4, z5, z6, z7, z8, z9, z10, z11, z12, z13, z14, z15, z16, z17, z18, z19, z20, z21, z22, z23, rfl, rfl, rfl, rfl, rfl, rfl, rfl, rfl, rfl, rfl, rfl, rfl, rfl, rfl, rfl, rfl, rfl, rfl, rfl, rfl, rfl, rfl, rfl, rfl⟩ := ask_open hm1
  refine (allows_walk u g um cw z0 z1 z2 z3 z4 z5 z6 z7 z8 z9 z10 z11 z12 z13 z14 z15 z16 z17 z18 z19 z20 z21 z22 z23 a cap xs W hI hn).mono fun e W' ⟨he, bel⟩ => ?_
  subst he
  exact ⟨_, rfl, _, _, _, [], _, [], hW', trodAll_mk1 (shut_bool Try.underlying4 _), trodAll_mk2 (Below.trod laidOut (by kernel_rfl) (of_decide_eq_true (by kernel_rfl)) h0 bel lt0) (Below.trod laidOut (by kernel_rfl) (of_decide_eq_true (by kernel_rfl)) h1 bel lt1), rfl, bel.frame _, fun h => by cases h⟩
theorem permAllows_holds : Rows.PermAllowsSaid :=
  OpenClaim.holds_of_wide 5 Try.f5 rfl rfl rfl rfl rfl rfl rfl ⟨rfl, rfl, rfl, rfl, rfl⟩ rfl rfl rfl rfl rfl (by kernel_rfl) Try.func5 (by kernel_rfl)
    (of_decide_eq_true (by kernel_rfl)) (by unfold Func.isWrapper; first | (rw [if_pos (by decide +kernel)]; kernel_rfl) | (rw [if_neg (by decide +kernel)]; exact ⟨rfl, rfl⟩))
    (fun os started H enc _ => allows_lifted os started H enc)
#print axioms permAllows_holds
end Go.Proofs.Ytmminmdmhefefaa
