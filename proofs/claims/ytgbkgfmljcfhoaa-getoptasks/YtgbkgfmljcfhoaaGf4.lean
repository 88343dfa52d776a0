/- The walk of the plain answer's Winner. Conditions: the options' cells are as said; lengths that fit. -/
import Derived.Test.YtgbkgfmljcfhoaaGf3
namespace Go.Proofs.Ytgbkgfmljcfhoaa
open Go.RowKit
attribute [local go_sem] ext_eq app_eq get_eq
/-- Is this name one letter of these? -/
def oneIn (names nm : List UInt8) : Bool := names.any (fun ch => decide (nm = [ch]))
theorem oneIn_step (names nm : List UInt8) (q : Nat) (h : q < names.length) : oneIn (names.take (q + 1)) nm = (oneIn (names.take q) nm || decide (nm = [names[q]])) := by
  unfold oneIn
  rw [List.take_succ_eq_append_getElem h, List.any_append]
  simp
theorem oneIn_hit (names nm : List UInt8) (q : Nat) (h : q < names.length) (he : nm = [names[q]]) : oneIn names nm = true := by
  unfold oneIn
  exact List.any_eq_true.2 ⟨names[q], List.getElem_mem h, by simp [he]⟩
/-- The last of the first k options whose name is one of these letters. -/
def winO (opts : List Ga.Opt) (names : List UInt8) : Nat → List UInt8
  | 0 => []
  | k + 1 => match opts[k]? with
    | some o => if oneIn names o.1 = true then o.1 else winO opts names k
    | none => winO opts names k
theorem win_step (opts : List Ga.Opt) (names : List UInt8) (k : Nat) (h : k < opts.length) : winO opts names (k + 1) = if oneIn names opts[k].1 = true then opts[k].1 else winO opts names k := by
  simp [winO, h]
set_option maxRecDepth 100000 in
set_option maxHeartbeats 2000000 in
theorem rWinner (opts : List Ga.Opt) (names : List UInt8) (a : Option Addr) (c : Nat) (w : World) (hO : Opts w a opts) (hl : opts.length < 2 ^ 63) (hn : names.length < 2 ^ 63) :
    Calls Try.prog 21 #[.slice a opts.length c, .string ⟨names.toArray⟩] w fun e w' => e = .returned (.string ⟨(winO opts names opts.length).toArray⟩) ∧ Below w.heap.size w w' := by
  have HO : Hid (Opts w a opts) := hO
  clear hO
  go_enter Try.func21, Try.ntmps21
  go_wp2
  go_loopw [5] (fun i V => ∃ k : Nat, k ≤ opts.length ∧ i = .int .i64 ((k : Int) - 1) ∧ Hid (winO opts names k = winO opts names opts.length) ∧ Hid (Below w.heap.size w V)) (fun i _ => (intOf i + 1).toNat)
  case atStart => exact ⟨opts.length, Nat.le_refl _, by go_num, rfl, Below.refl _ _⟩
  case round =>
    obtain ⟨k, hk, rfl, HE, HB⟩ := hrel
    cases k with
    | zero =>
      go_wp2
      go_ret
      exact ⟨by rw [← HE.out]; rfl, HB.out⟩
    | succ j =>
      have hlt : j < opts.length := by omega
      have HS : Hid (winO opts names (j + 1) = if oneIn names opts[j].1 = true then opts[j].1 else winO opts names j) := win_step opts names j hlt
      have HOp : Hid (∀ V, Below w.heap.size w V → ∃ bk o, a = some ⟨bk, o, none⟩ ∧ bk < V.heap.size ∧ V.cell? ⟨bk, o + j * 2, none⟩ = some (.string ⟨opts[j].1.toArray⟩)) := fun V hV => by
        obtain ⟨bk, o, ha, hb, h1, _⟩ := (HO.out.grow hV) j opts[j] (List.getElem?_eq_getElem hlt)
        exact ⟨bk, o, ha, hb, h1⟩
      have hj : (((j + 1 : Nat) : Int) - 1) = (j : Int) := by omega
      rw [hj] at *
      generalize opts[j].1 = p1 at *
      go_wp2
      go_loopw [6] (fun i V => ∃ q : Nat, q ≤ names.length ∧ i = .int .i64 q ∧ Hid (oneIn (names.take q) p1 = false) ∧ Hid (Below w.heap.size w V)) (fun i _ => names.length - (intOf i).toNat)
      case atStart => exact ⟨0, Nat.zero_le _, rfl, rfl, HB⟩
      case round =>
        obtain ⟨q, hq, rfl, HN, HBi⟩ := hrel
        by_cases hqn : q < names.length
        · obtain ⟨bk, o, ha, hbk, hS⟩ := HOp.out _ HBi.out
          have HQ : Hid (oneIn (names.take (q + 1)) p1 = (oneIn (names.take q) p1 || decide (p1 = [names[q]]))) := oneIn_step names p1 q hqn
          have HH : Hid (p1 = [names[q]] → oneIn names p1 = true) := oneIn_hit names p1 q hqn
          obtain ⟨ch, hch⟩ : ∃ ch, ch = names[q] := ⟨_, rfl⟩
          have HOne : Hid (∀ W : World, Calls Try.prog 31 #[.int .u8 names[q].toNat] W fun e w' => e = .returned (.string ⟨#[ch]⟩) ∧ Below W.heap.size W w') := fun W => by rw [hch]; exact rOne _ W
          rw [← hch] at HQ HH
          have HC0 : Hid (∀ V, Below w.heap.size w V → V.cell? ⟨bk, o + j * 2, none⟩ = some (.string ⟨p1.toArray⟩)) := fun V hV => by
            obtain ⟨bk', o', ha', _, h1⟩ := HOp.out V hV
            rw [ha] at ha'
            cases ha'
            exact h1
          subst ha
          clear hch
          have hS4 : wr.drew.cell? ⟨bk, o + j * 2, none⟩ = some (.string ⟨p1.toArray⟩) := hS
          have HBd : Hid (Below w.heap.size w wr.drew) := ⟨HBi.out.os, HBi.out.tape, HBi.out.output, HBi.out.size, HBi.out.block⟩
          by_cases he : p1 = [ch]
          · have he' : (p1 == [ch]) = true := by simpa using he
            have HR : Hid (winO opts names opts.length = p1) := by show _ = _; rw [← HE.out, HS.out, if_pos (HH.out he)]
            clear he hS
            go_wp2_with fail
            go_region_held3 (fun W' => W'.cell? ⟨bk, o + j * 2, none⟩ = some (.string ⟨p1.toArray⟩)) (first | with_reducible exact hS5 | with_reducible exact hS4)
              (first
                | (go_at_call 31; go_loud (with_reducible refine Calls.mono (HOne.out _) ?_); go_loud (rintro e w5 ⟨rfl, hB5⟩); go_loud (have HB5 : Hid (Below w.heap.size w w5) := HBd.out.trans (hB5.mono HBd.out.size)); go_loud (have hS5 : w5.cell? ⟨bk, o + j * 2, none⟩ = some (.string ⟨p1.toArray⟩) := HC0.out _ HB5.out); go_loud (clear hB5))
                | fail)
            go_wp2
            go_ret
            exact ⟨by rw [HR.out]; rfl, HB5.out⟩
          · have he' : (p1 == [ch]) = false := by simpa using he
            have HR : Hid (oneIn (names.take (q + 1)) p1 = false) := by show _ = _; rw [HQ.out, HN.out, decide_eq_false he]; rfl
            clear he hS
            go_wp2_with fail
            go_region_held3 (fun W' => W'.cell? ⟨bk, o + j * 2, none⟩ = some (.string ⟨p1.toArray⟩)) (first | with_reducible exact hS5 | with_reducible exact hS4)
              (first
                | (go_at_call 31; go_loud (with_reducible refine Calls.mono (HOne.out _) ?_); go_loud (rintro e w5 ⟨rfl, hB5⟩); go_loud (have HB5 : Hid (Below w.heap.size w w5) := HBd.out.trans (hB5.mono HBd.out.size)); go_loud (have hS5 : w5.cell? ⟨bk, o + j * 2, none⟩ = some (.string ⟨p1.toArray⟩) := HC0.out _ HB5.out); go_loud (clear hB5))
                | fail)
            go_wp2
            exact ⟨⟨q + 1, by omega, by go_num, HR, HB5⟩, by simp [intOf]; omega⟩
        · have HR : Hid (winO opts names j = winO opts names opts.length) := by
            have h1 := HN.out
            rw [List.take_of_length_le (by omega)] at h1
            show _ = _; rw [← HE.out, HS.out, h1]; rfl
          go_wp2
          exact ⟨⟨j, by omega, by go_num, HR, HBi⟩, by first | (simp [intOf]; omega) | simp [intOf]⟩
end Go.Proofs.Ytgbkgfmljcfhoaa
