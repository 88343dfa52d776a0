/- WalkNone, lifted: for whatever way and path the statement's function answers true and leaves what it was given as it was. Condition (the row's own): the listed tables start as the program's text lays them. Seat of WalkNone. -/
import Derived.Test.YtiegfgjmbohemaaGreatDoorWzM
import Derived.Deep.Slices
import Derived.ShutString
namespace Go.Proofs.YtiegfgjmbohemaaGreatDoor
open Go.ChangeShapes Go.WideShapes Go.ChangeAt Go.RowKit
open Go.ChangeMaps (open_string shut_string)
open Ev
theorem spot_of_cell {w : World} {a : Addr} {v : Value} (h : w.cell? a = some v) : a.spot = none := by
  unfold World.cell? at h
  split at h
  · split at h
    · exact absurd h (by simp)
    · rename_i hs
      cases e : a.spot with
      | none => rfl
      | some x => rw [e] at hs; simp at hs
  · exact absurd h (by simp)
theorem add_none (a : Addr) (h : (a.add 0).spot = none) : ∃ b o, a = ⟨b, o, none⟩ ∧ ∀ j, a.add j = ⟨b, o + j, none⟩ := by
  obtain ⟨b, o, sp⟩ := a
  cases sp with
  | none => exact ⟨b, o, rfl, fun j => by unfold Addr.add; split <;> simp_all⟩
  | some x => simp [Addr.add] at h
section
variable {H : Type} {enc : TypeId × Value → H} {W : World} {base : Nat} {spare : Nat → Bool} {held : Bool}
theorem int_of {n : Nat} {t : TypeId} {c : Value} {y : DataW H × List MemPlace} (ht : Tryz.prog.underlying t = some (.int .i64)) (h : DataW.trod enc Tryz.prog W base spare held n t [c] = some y) : ∃ z, c = .int .i64 z := by
  obtain ⟨z, hz, _⟩ := DataW.trod_int ht h
  exact ⟨z, by simpa using hz⟩
theorem str_of {n : Nat} {t : TypeId} {c : Value} {y : DataW H × List MemPlace} (ht : Tryz.prog.underlying t = some .string) (h : DataW.trod enc Tryz.prog W base spare held n t [c] = some y) : ∃ z, c = .string z := by
  obtain ⟨z, hz, _⟩ := DataW.trod_string ht h
  exact ⟨z, by simpa using hz⟩
theorem sl_of {n : Nat} {t e : TypeId} {c : Value} {y : DataW H × List MemPlace} (ht : Tryz.prog.underlying t = some (.slice e)) (h : DataW.trod enc Tryz.prog W base spare held n t [c] = some y) : ∃ z : Option Addr × Nat × Nat, c = .slice z.1 z.2.1 z.2.2 := by
  rcases Go.Deep.open_slice ht h with ⟨hcs, _⟩ | ⟨x, len', cap', m, n, D, Pl, hcs, _⟩
  · exact ⟨(none, 0, 0), by simpa using hcs⟩
  · exact ⟨(some x, len', cap'), by simpa using hcs⟩
theorem k_s : Tryz.prog.cellsOf 9 = 1 := by kernel_rfl
theorem k_i : Tryz.prog.cellsOf 3 = 1 := by kernel_rfl
theorem k_r : Tryz.prog.cellsOf 22 = 1 := by kernel_rfl
theorem k_b : Tryz.prog.cellsOf 23 = 1 := by kernel_rfl

theorem roots_open {fuel : Nat} {R : Value} {x : DataW H × List MemPlace} (h : DataW.trod enc Tryz.prog W base spare held fuel 22 [R] = some x) : Roots W R := by
  rcases DataW.trod_slice Tryz.underlying22 h with ⟨hc, hx⟩ | ⟨ad, len', cap', elems, rest, n, _, hc, hx, hb, hl, hm, hlen, hel, _, _⟩
  · exact .inl (by simpa using hc)
  · obtain rfl : R = .slice (some ad) len' cap' := by simpa using hc
    have each : ∀ i, i < len' → ∃ s : ByteArray, W.cell? (ad.add i) = some (.string s) := by
      intro i hi
      have h1 := hel i hi
      rw [List.getElem?_eq_getElem (by omega), Option.bind_eq_some_iff] at h1
      obtain ⟨cs, hcs, hy⟩ := h1
      obtain ⟨s, rfl, _, _⟩ := DataW.trod_string Tryz.underlying9 hy
      rw [show Tryz.prog.cellsOf 9 = 1 by kernel_rfl, Nat.mul_one] at hcs
      exact ⟨s, cell_of_cells?_one hcs⟩
    by_cases h0 : len' = 0
    · subst h0
      exact .inr (.inl ⟨ad, cap', rfl⟩)
    · obtain ⟨_, q0⟩ := each 0 (by omega)
      obtain ⟨b, o, rfl, hadd⟩ := add_none ad (spot_of_cell q0)
      have hcell : ∀ i, i < len' → ∃ s : ByteArray, W.cell? ⟨b, o + i, none⟩ = some (.string s) := fun i hi => by
        obtain ⟨s, hs⟩ := each i hi
        rw [hadd i] at hs
        exact ⟨s, hs⟩
      obtain ⟨s0, hs0⟩ := hcell 0 (by omega)
      refine .inr (.inr ⟨b, o, len', cap', fun j => if j < len' then (W.cell? ⟨b, o + j, none⟩).getD (.string ⟨#[]⟩) else .string ⟨#[]⟩, rfl, by omega, hl, ?_, fun j hj => ?_, fun j => ?_⟩)
      · exact World.block_lt_of_cell? _ _ hs0
      · obtain ⟨s, hs⟩ := hcell j hj
        show _ = some (if j < len' then _ else _)
        rw [if_pos hj, hs]; rfl
      · by_cases hj : j < len'
        · obtain ⟨s, hs⟩ := hcell j hj
          exact ⟨s, by show (if j < len' then _ else _) = _; rw [if_pos hj, hs]; rfl⟩
        · exact ⟨⟨#[]⟩, if_neg hj⟩
theorem way_open {n : Nat} {c0 c1 c2 c3 : Value} {y : DataW H × List MemPlace} (h : DataW.trod enc Tryz.prog W base spare held n 25 [c0, c1, c2, c3] = some y) : (∃ z, c0 = .int .i64 z) ∧ (∃ z, c1 = .int .i64 z) ∧ Roots W c2 ∧ ∃ z : Option Addr × Nat × Nat, c3 = .slice z.1 z.2.1 z.2.2 := by
  obtain ⟨xs, k, _, _, _, hlen, hf⟩ := DataW.trod_struct Tryz.underlying25 h
  have hl : xs.length = 4 := hlen
  refine ⟨?_, ?_, ?_, ?_⟩
  · exact int_of (enc := enc) (W := W) (base := base) (spare := spare) (held := held) (n := k) (y := xs[0]) (c := c0) Tryz.underlying3 (by
      have g := hf 0 ⟨_, 3, 0, _, _, _, _⟩ rfl
      dsimp only at g
      rw [k_i, List.getElem?_eq_getElem (by omega)] at g
      exact g)
  · exact int_of (enc := enc) (W := W) (base := base) (spare := spare) (held := held) (n := k) (y := xs[1]) (c := c1) Tryz.underlying3 (by
      have g := hf 1 ⟨_, 3, 1, _, _, _, _⟩ rfl
      dsimp only at g
      rw [k_i, List.getElem?_eq_getElem (by omega)] at g
      exact g)
  · exact roots_open (enc := enc) (W := W) (base := base) (spare := spare) (held := held) (fuel := k) (x := xs[2]) (R := c2) (by
      have g := hf 2 ⟨_, 22, 2, _, _, _, _⟩ rfl
      dsimp only at g
      rw [k_r, List.getElem?_eq_getElem (by omega)] at g
      exact g)
  · exact sl_of (enc := enc) (W := W) (base := base) (spare := spare) (held := held) (n := k) (y := xs[3]) (c := c3) Tryz.underlying23 (by
      have g := hf 3 ⟨_, 23, 3, _, _, _, _⟩ rfl
      dsimp only at g
      rw [k_b, List.getElem?_eq_getElem (by omega)] at g
      exact g)
end
theorem arr4 (cs : Array Value) (h : cs.size = 4) : ∃ c0 c1 c2 c3, cs = #[c0, c1, c2, c3] := by
  rcases cs with ⟨l⟩
  match l, h with
  | [c0, c1, c2, c3], _ => exact ⟨c0, c1, c2, c3, rfl⟩
set_option maxRecDepth 100000 in
set_option maxHeartbeats 4000000 in
theorem none_lifted (os : Os) (started : os.Started) (H : Type) (enc : TypeId × Value → H) :
    ReturnsInHanded {} Tryz.checked os 3 .any (fun w args => (Rows.walkNoneSpec.pre enc Tryz.prog Tryz.f3 [] false w args ∧ laidMetH Tryz.prog laidL w) ∧ sizedMet enc Tryz.prog Tryz.f3 (OpenSpec.ofChange Rows.walkNoneSpec) false w args)
      (Rows.walkNoneSpec.post enc Tryz.prog Tryz.f3 false true false false) := by
  refine of_change_and_shaped (C := Tryz.checked) (X := fun w _ => laidMetH Tryz.prog laidL w) (fun _ _ _ hh h => h.of_heap hh) own started (by kernel_rfl) Tryz.func3
    (ChangeSpec.witness_shaped (enc := enc) (C := Tryz.checked) (os := os) (X := fun w _ => laidMetH Tryz.prog laidL w) false (World.laidAll Tryz.prog os laidL) #[.agg #[.int .i64 0, .int .i64 0, .slice none 0 0, .slice none 0 0], .string ⟨#[]⟩] 8 (World.laidAll_os _ _ _) (World.shaped_of_ZipB (by kernel_rfl) (by kernel_rfl)) (by kernel_rfl) (by kernel_rfl) (by kernel_rfl) (start_met os _)) ?_
  intro W base args ds gs before hval0 hW _ hsz hL hsh _
  have hval : ∀ (j : Nat) t v, Tryz.f3.params[j]? = some t → args[j]? = some v → Value.okWide Tryz.prog W .any base t v := hval0
  have hW' := hW
  obtain ⟨p, q, hA0, hV, rfl, hfz, hnd⟩ := hW
  have hA : DataW.TrodAll enc Tryz.prog W 0 (fun _ => true) true Tryz.f3.params.toList args.toList ds p := hA0
  rw [Tryz.params3] at hA hval
  obtain ⟨v0, v1, d0, d1, p0, p1, rfl, rfl, rfl, h0, h1⟩ := trodAll_two hA
  obtain ⟨rfl, rfl⟩ := trodVars_none hV
  obtain ⟨cs, rfl, hsz0⟩ := okWide_struct Tryz.underlying25 (hval 0 25 v0 rfl rfl)
  rw [show Tryz.prog.cellsOf 25 = 4 by kernel_rfl] at hsz0
  obtain ⟨x, rfl, rfl, rfl, wx⟩ := open_string Tryz.underlying9 (hval 1 9 v1 rfl rfl) h1
  have lt0 : ∀ z ∈ p0, z.block < W.heap.size := by obtain ⟨m, hm⟩ := h0; exact DataW.trod_lt m _ _ _ hm
  clear hA0 hval0 hval
  obtain ⟨c0, c1, c2, c3, rfl⟩ := arr4 cs hsz0
  have hk : (∃ z, c0 = .int .i64 z) ∧ (∃ z, c1 = .int .i64 z) ∧ Roots W c2 ∧ ∃ z : Option Addr × Nat × Nat, c3 = .slice z.1 z.2.1 z.2.2 := by
    obtain ⟨m, hm⟩ := h0
    exact way_open hm
  obtain ⟨⟨z0, rfl⟩, ⟨z1, rfl⟩, hR, z3, rfl⟩ := hk
  have bI : ∀ {k : IntKind} (z : Int), One1 (.int k z) := fun _ => ⟨fun _ h => (by cases h), fun _ h => (by cases h)⟩
  have bS : ∀ (z : ByteArray), One1 (.string z) := fun _ => ⟨fun _ h => (by cases h), fun _ h => (by cases h)⟩
  have bL : ∀ (a : Option Addr) (l c : Nat), One1 (.slice a l c) := fun _ _ _ => ⟨fun _ h => (by cases h), fun _ h => (by cases h)⟩
  refine (none_walk _ _ _ _ _ (bI _) (bI _) (bL _ _ _) (bS _) W hR hL hsh).mono fun e W' ⟨he, bel⟩ => ?_
  subst he
  exact ⟨_, rfl, _, _, _, [], _, [], hW', trodAll_mk1 (shut_bool Tryz.underlying4 _), trodAll_mk2 (Below.trod laidOut (by kernel_rfl) (of_decide_eq_true (by kernel_rfl)) h0 bel lt0) (shut_string Tryz.underlying9 wx), rfl, bel.frame _, fun h => by cases h⟩
end Go.Proofs.YtiegfgjmbohemaaGreatDoor
