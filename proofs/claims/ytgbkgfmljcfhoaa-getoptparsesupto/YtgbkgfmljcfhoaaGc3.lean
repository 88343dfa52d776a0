/- The walk of GetoptJoins. Conditions: the lists' cells are as said; lengths that fit. -/
import Derived.Test.YtgbkgfmljcfhoaaGc2
namespace Go.Proofs.Ytgbkgfmljcfhoaa
open Go.RowKit
def codeJ (R : Option (List (List UInt8))) : Int := if R.isSome then 0 else 22
/-- What Join tells, as it is read. -/
theorem OutJ.form {w W : World} {e : Ending} {R : Option (List (List UInt8))} (h : OutJ w W e R) : ∃ (l : List (List UInt8)) (a : Option Addr) (c : Nat), e = .returned (.tuple #[.slice a l.length c, .int .i64 (codeJ R)]) ∧ Strs W a l ∧ l = R.getD [] ∧ l.length ≤ c ∧ c ≤ maxLen := by
  cases R with
  | none => exact ⟨[], none, 0, h, Strs.nil _ _, rfl, Nat.le_refl _, Nat.zero_le _⟩
  | some l =>
    obtain ⟨v, he, ho⟩ := h
    obtain ⟨_, a, c, rfl, hc, hm, hS, _⟩ := own_strs ho
    exact ⟨l, a, c, he, hS, rfl, hc, hm⟩
theorem jns_len (ks : List UInt8 → Option Bool) : ∀ (opts : List Ga.Opt) (ws l : List (List UInt8)), jns ks opts ws = some l → l.length ≤ ws.length + opts.length * 2
  | [], ws, l, h => by simp [jns] at h; subst h; omega
  | o :: r, ws, l, h => by
    rw [jns] at h
    cases hk : ks o.1 with
    | none => rw [hk] at h; cases h
    | some b =>
      rw [hk] at h
      cases b with
      | false =>
        dsimp only at h
        split at h
        · have := jns_len ks r _ _ h; simp at this; simp; omega
        · cases h
      | true => have := jns_len ks r _ _ h; simp at this; simp; omega
theorem joinR_len (spec : List UInt8) (opts : List Ga.Opt) (rest : List (List UInt8)) : ((joinR spec opts rest).getD []).length ≤ opts.length * 2 + rest.length + 1 := by
  unfold joinR
  split
  · cases h : jns (oneS (Ga.tks (Ga.bare spec))) opts [] with
    | none => simp
    | some l => have := jns_len _ _ _ _ h; simp at this; simp; omega
  · simp
set_option maxRecDepth 100000 in
set_option maxHeartbeats 4000000 in
theorem joins_walk (spec : List UInt8) (opts : List Ga.Opt) (rest : List (List UInt8)) (oa ra : Option Addr) (oc rc : Nat) (w : World) (hs : spec.length ≤ 2 ^ 47) (hO : Opts w oa opts) (hS : Strs w ra rest) (hrn : ra = none → rc = 0 ∧ rest = []) (hn : ∀ o ∈ opts, o.1.length ≤ 2 ^ 47) (hM : opts.length * 2 + rest.length ≤ 2 ^ 40) :
    Calls Try.prog 4 #[.string ⟨spec.toArray⟩, .slice oa opts.length oc, .slice ra rest.length rc] w fun e W => e = .returned (.bool true) ∧ Below w.heap.size w W := by
  have HG : Hid (Calls Try.prog 13 #[.string ⟨spec.toArray⟩, .slice oa opts.length oc, .slice ra rest.length rc] w fun e W => OutJ w W e (joinR spec opts rest) ∧ Below w.heap.size w W) := gJoin spec opts rest oa ra oc rc w hs hO hS hrn hn hM
  have HR : Hid (∀ W, Below w.heap.size w W → Calls Try.prog 14 #[.string ⟨spec.toArray⟩, .slice oa opts.length oc, .slice ra rest.length rc] W fun e W' => OutJ W W' e (joinR spec opts rest) ∧ Below W.heap.size W W') := fun W hW => rJoin spec opts rest oa ra oc rc W hs (hO.grow hW) (hS.grow hW) hrn hn hM
  have HL : Hid (((joinR spec opts rest).getD []).length ≤ 2 ^ 40 + 1) := by have := joinR_len spec opts rest; show _ ≤ _; omega
  generalize joinR spec opts rest = R at *
  clear hO hS hrn hn hM hs
  go_enter Try.func4, Try.ntmps4
  go_wp2_with fail
  refine HG.out.mono ?_
  rintro e w1 ⟨hO1, hB1⟩
  obtain ⟨l1, a1, c1, rfl, hS1, hl1, _, _⟩ := hO1.form
  have HS1 : Hid (Strs w1 a1 l1) := hS1
  have HB1 : Hid (Below w.heap.size w w1) := hB1
  have HL1 : Hid (l1 = R.getD []) := hl1
  clear hS1 hB1 hl1 hO1
  go_wp2_with fail
  refine (HR.out _ HB1.out).mono ?_
  rintro e w2 ⟨hO2, hB2⟩
  obtain ⟨l2, a2, c2, rfl, hS2, hl2, _, _⟩ := hO2.form
  obtain rfl : l2 = l1 := hl2.trans HL1.out.symm
  have HS2 : Hid (Strs w2 a2 l2) := hS2
  have HS1' : Hid (Strs w2 a1 l2) := HS1.out.grow hB2
  have HB2 : Hid (Below w.heap.size w w2) := HB1.out.trans (hB2.mono HB1.out.size)
  have hll : l2.length ≤ 2 ^ 60 := by have := HL.out; rw [← HL1.out] at this; omega
  clear hS2 hB2 hl2 hO2 HS1 HB1
  generalize codeJ R = code at *
  go_wp2_with (first
    | (go_at_call 11; refine (rTexts l2 l2 _ _ _ _ _ HS1'.out HS2.out hll).mono ?_; rintro e w9 ⟨rfl, m9, hw9⟩; rw [hw9, decide_eq_true (rfl : l2 = l2)]; clear hw9 w9)
    | (go_at_call 12; refine (lives9 _).mono ?_; rintro e w8 ⟨rfl, hB8⟩; have HB8 : Hid (Below w.heap.size w w8) := (below_drewN HB2.out _).trans (hB8.mono HB2.out.size); clear hB8))
  go_ret
  exact ⟨rfl, HB8.out⟩
end Go.Proofs.Ytgbkgfmljcfhoaa
