/- The walk of GetoptBack. Conditions: the list's cells are as said; lengths that fit. -/
import Derived.Test.YtgbkgfmljcfhoaaGd1
namespace Go.Proofs.Ytgbkgfmljcfhoaa
open Go.RowKit
/-- What Parse tells where it is well, as it is read. -/
theorem OutP.form {w W : World} {e : Ending} {o : List Ga.Opt} {r : List (List UInt8)} (h : OutP w W e (some (.ok o r))) : ∃ (a b : Option Addr) (c d : Nat), e = .returned (.tuple #[.slice a o.length c, .slice b r.length d, .agg #[.string ⟨#[]⟩, .bool false], .int .i64 0]) ∧ Opts W a o ∧ Strs W b r ∧ r.length ≤ d ∧ d ≤ maxLen ∧ (b = none → d = 0 ∧ r = []) := by
  obtain ⟨vo, vr, he, ho, hr, _⟩ := h
  have hr' := hr
  obtain ⟨_, a, c, rfl, _, _, hO, _⟩ := own_opts ho
  obtain ⟨_, b, d, rfl, hd, hm, hS, _, hg⟩ := own_strs hr
  refine ⟨a, b, c, d, he, hO, hS, hd, hm, ?_⟩
  rintro rfl
  rcases hr'.2 with ⟨h1, h2⟩ | ⟨g, cap, cur, h1, _⟩
  · simp at h1; exact ⟨h1.2, List.length_eq_zero_iff.1 h2⟩
  · simp at h1
theorem after1 {w V W : World} {n : Nat} (h : Below w.heap.size w V) (k : Below (V.drewN n).heap.size (V.drewN n) W) : Below w.heap.size w W := (below_drewN h n).trans (k.mono h.size)
theorem after2 {w V W : World} {n m : Nat} (h : Below w.heap.size w V) (k : Below ((V.drewN n).drewN m).heap.size ((V.drewN n).drewN m) W) : Below w.heap.size w W := (below_drewN (below_drewN h n) m).trans (k.mono h.size)
theorem Strs.drewN {W : World} {a : Option Addr} {xs : List (List UInt8)} (h : Strs W a xs) (n : Nat) : Strs (W.drewN n) a xs := h.grow ⟨rfl, rfl, rfl, Nat.le_refl _, fun _ _ => rfl⟩
set_option maxRecDepth 100000 in
set_option maxHeartbeats 4000000 in
theorem back_walk (spec : List UInt8) (args : List (List UInt8)) (a : Option Addr) (c : Nat) (w : World) (hs : spec.length ≤ 2 ^ 47) (hS : Strs w a args) (hc : args.length ≤ c) (hm : c < 2 ^ 63) (hM : wt args ≤ 2 ^ 30) :
    Calls Try.prog 7 #[.string ⟨spec.toArray⟩, .slice a args.length c] w fun e W => e = .returned (.bool true) ∧ Below w.heap.size w W := by
  have HG : Hid (Calls Try.prog 8 #[.string ⟨spec.toArray⟩, .slice a args.length c] w fun e W => OutP w W e (parseR spec args) ∧ Below w.heap.size w W) := gParse spec args a c w hs hS hc hm (by omega)
  clear hS
  cases hp : parseR spec args with
  | none =>
    rw [hp] at HG
    clear hp
    go_enter Try.func7, Try.ntmps7
    go_wp2_with fail
    refine HG.out.mono ?_
    rintro e w1 ⟨hO1, hB1⟩
    have hO1' : e = .returned (.tuple #[.slice none 0 0, .slice none 0 0, .agg #[.string ⟨#[]⟩, .bool false], .int .i64 22]) := hO1
    subst hO1'
    have HB1 : Hid (Below w.heap.size w w1) := hB1
    clear hB1 hO1
    go_wp2_with (go_at_call 12; refine (lives9 _).mono ?_; rintro e w8 ⟨rfl, hB8⟩; have HB8 : Hid (Below w.heap.size w w8) := (HB1.out.alloc HB1.out.size _).trans (hB8.mono (by have := HB1.out.size; simp; omega)); clear hB8)
    go_ret
    exact ⟨rfl, HB8.out⟩
  | some res =>
    cases res with
    | bad nm ms =>
      rw [hp] at HG
      clear hp
      go_enter Try.func7, Try.ntmps7
      go_wp2_with fail
      refine HG.out.mono ?_
      rintro e w1 ⟨hO1, hB1⟩
      have hO1' : e = .returned (.tuple #[.slice none 0 0, .slice none 0 0, .agg #[.string ⟨nm.toArray⟩, .bool ms], .int .i64 100]) := hO1
      subst hO1'
      have HB1 : Hid (Below w.heap.size w w1) := hB1
      clear hB1 hO1
      go_wp2_with (go_at_call 12; refine (lives9 _).mono ?_; rintro e w8 ⟨rfl, hB8⟩; have HB8 : Hid (Below w.heap.size w w8) := (HB1.out.alloc HB1.out.size _).trans (hB8.mono (by have := HB1.out.size; simp; omega)); clear hB8)
      go_ret
      exact ⟨rfl, HB8.out⟩
    | ok o r =>
      obtain ⟨l, hj, hp2, hn1, hwl, hor⟩ := back_plain spec args o r hp
      rw [hp] at HG
      have HJ : Hid (joinR spec o r = some l) := hj
      have HP2 : Hid (parseR spec l = some (.ok o r)) := hp2
      have HN : Hid (∀ q ∈ o, q.1.length ≤ 2 ^ 47) := fun q hq => by rw [hn1 q hq]; decide
      have HL : Hid (o.length * 2 + r.length ≤ 2 ^ 40 ∧ wt l ≤ 2 ^ 40) := ⟨by omega, by omega⟩
      have hol : o.length ≤ 2 ^ 60 := by omega
      have hrl : r.length ≤ 2 ^ 60 := by omega
      have hll := wt_len l
      have hll2 : l.length ≤ 2 ^ 40 := by omega
      clear hp hj hp2 hn1 hwl hor hll
      go_enter Try.func7, Try.ntmps7
      go_wp2_with fail
      refine HG.out.mono ?_
      rintro e w1 ⟨hO1, hB1⟩
      obtain ⟨ao, ar, co, cr, rfl, hOp, hSt, hd, hdm, hrn⟩ := hO1.form
      have HB1 : Hid (Below w.heap.size w w1) := hB1
      have HO1 : Hid (∀ V, Below w1.heap.size w1 V → Opts V ao o ∧ Strs V ar r ∧ Below w.heap.size w V) := fun V hV => ⟨hOp.grow hV, hSt.grow hV, hB1.trans (hV.mono hB1.size)⟩
      have HRN : Hid (ar = none → cr = 0 ∧ r = []) := hrn
      clear hB1 hO1 hOp hSt hrn
      have HA : Hid (∀ ob, Below w1.heap.size w1 (w1.alloc ob)) := fun ob => (Below.refl _ _).alloc (Nat.le_refl _) _
      go_wp2_with (go_at_call 13; refine (gJoin spec o r ao ar co cr _ hs (HO1.out _ (HA.out _)).1 (HO1.out _ (HA.out _)).2.1 HRN.out HN.out HL.out.1).mono ?_)
      rintro e w2 ⟨hO2, hB2⟩
      rw [HJ.out] at hO2
      obtain ⟨v, he, ho2⟩ := hO2
      obtain ⟨_, a2, c2, rfl, hc2, hm2, hS2, _⟩ := own_strs ho2
      subst he
      have hB2' : Below w1.heap.size w1 w2 := (HA.out _).trans (hB2.mono (by simp))
      have HB2 : Hid (Below w1.heap.size w1 w2) := hB2'
      have HS2 : Hid (Strs w2 a2 l) := hS2
      have hm2' : c2 < 2 ^ 63 := by unfold maxLen at hm2; omega
      have HB2w : Hid (Below w.heap.size w w2) := (HO1.out _ hB2').2.2
      clear hB2 hB2' hS2 ho2
      go_wp2_with (go_at_call 8; refine (gParse spec l a2 c2 _ hs HS2.out hc2 hm2' HL.out.2).mono ?_)
      rintro e w3 ⟨hO3, hB3⟩
      rw [HP2.out] at hO3
      obtain ⟨a3, b3, c3, d3, rfl, hOp3, hSt3, _, _, _⟩ := hO3.form
      have HB3 : Hid (Below w1.heap.size w1 w3) := HB2.out.trans (hB3.mono HB2.out.size)
      have HB3w : Hid (Below w.heap.size w w3) := (HO1.out _ HB3.out).2.2
      have HA3 : Hid (∀ ob, Opts (w3.alloc ob) a3 o ∧ Strs (w3.alloc ob) b3 r ∧ Opts (w3.alloc ob) ao o ∧ Strs (w3.alloc ob) ar r ∧ Below w.heap.size w (w3.alloc ob)) := fun ob => by
        have h1 : Below w3.heap.size w3 (w3.alloc ob) := (Below.refl _ _).alloc (Nat.le_refl _) _
        have h2 := HO1.out _ (HB3.out.trans (h1.mono HB3.out.size))
        exact ⟨hOp3.grow h1, hSt3.grow h1, h2.1, h2.2.1, h2.2.2⟩
      clear hO3 hB3 hOp3 hSt3
      go_wp2_with (first
        | (go_at_call 10; refine (rSame o o _ _ _ _ _ (HA3.out _).2.2.1 (HA3.out _).1 hol).mono ?_; rintro e w9 ⟨rfl, m9, hw9⟩; rw [hw9, decide_eq_true (rfl : o = o)]; clear hw9 w9)
        | (go_at_call 11; refine (rTexts r r _ _ _ _ _ (Strs.drewN (HA3.out _).2.2.2.1 _) (Strs.drewN (HA3.out _).2.1 _) hrl).mono ?_; rintro e w9 ⟨rfl, m10, hw9⟩; rw [hw9, decide_eq_true (rfl : r = r)]; clear hw9 w9)
        | (go_at_call 12; refine (lives9 _).mono ?_; rintro e w8 ⟨rfl, hB8⟩; have HB8 : Hid (Below w.heap.size w w8) := (by first | exact after2 (HA3.out _).2.2.2.2 hB8 | exact after1 (HA3.out _).2.2.2.2 hB8); clear hB8))
      go_ret
      exact ⟨rfl, HB8.out⟩
end Go.Proofs.Ytgbkgfmljcfhoaa
