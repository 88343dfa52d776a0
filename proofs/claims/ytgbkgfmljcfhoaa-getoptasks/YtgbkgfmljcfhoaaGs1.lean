/- Usage: a spec's letters as text; the plain answer's walk, and one. Conditions: a length that fits. -/
import Derived.Test.YtgbkgfmljcfhoaaGb2
namespace Go.Proofs.Ytgbkgfmljcfhoaa
open Go.RowKit
attribute [local go_sem] ext_eq app_eq get_eq
/-- A list of numbers below n, each once, has at most n. -/
theorem nodup_le : ∀ (n : Nat) (l : List Nat), l.Nodup → (∀ x ∈ l, x < n) → l.length ≤ n
  | 0, l, _, h => by
    cases l with
    | nil => simp
    | cons x r => exact absurd (h x (by simp)) (by omega)
  | n + 1, l, hd, h => by
    by_cases hn : n ∈ l
    · have h1 := nodup_le n (l.erase n) (hd.erase n) (fun x hx => by
        have := hd.mem_erase_iff.1 hx
        have := h x this.2
        omega)
      rw [List.length_erase_of_mem hn] at h1
      omega
    · have := nodup_le n l hd (fun x hx => by
        have h1 := h x hx
        have : x ≠ n := fun e => hn (e ▸ hx)
        omega)
      omega
theorem bytes_le (l : List UInt8) (h : l.Nodup) : l.length ≤ 256 := by
  have := nodup_le 256 (l.map UInt8.toNat) (by
    rw [List.nodup_iff_pairwise_ne, List.pairwise_map]
    exact (List.nodup_iff_pairwise_ne.1 h).imp (fun hne e => hne (UInt8.toNat_inj.1 e))) (fun x hx => by
    obtain ⟨c, _, rfl⟩ := List.mem_map.1 hx
    exact c.toNat_lt)
  simpa using this
theorem nodup_snoc {l : List UInt8} {c : UInt8} (h : l.Nodup) (hc : c ∉ l) : (l ++ [c]).Nodup := by
  rw [List.nodup_append]
  exact ⟨h, by simp, fun a ha b hb => by simp at hb; subst hb; exact fun e => hc (e ▸ ha)⟩
theorem al_nodup {l : List UInt8} (h : Ga.specB l = true) : ∀ i, (Ga.alP l i).Nodup
  | 0 => by simp [Ga.alP]
  | i + 1 => by
    rw [Ga.alP]
    cases he : l[i]? with
    | none => exact al_nodup h i
    | some c =>
      dsimp only
      split
      · exact al_nodup h i
      · rename_i hn
        have hc : c ≠ 58 := fun e => hn (.inl e)
        exact nodup_snoc (al_nodup h i) (fun hm => (Ga.ok_at h he hc).2 ((Ga.mem_both l c hc i).1 (.inl hm)))
theorem tk_nodup {l : List UInt8} (h : Ga.specB l = true) : ∀ i, (Ga.tkP l i).Nodup
  | 0 => by simp [Ga.tkP]
  | i + 1 => by
    rw [Ga.tkP]
    cases he : l[i]? with
    | none => exact tk_nodup h i
    | some c =>
      dsimp only
      split
      · rename_i hn
        exact nodup_snoc (tk_nodup h i) (fun hm => (Ga.ok_at h he hn.1).2 ((Ga.mem_both l c hn.1 i).1 (.inr hm)))
      · exact tk_nodup h i
def wth (tk : List UInt8) : List UInt8 := tk.flatMap (fun c => [32, 91, 45] ++ [c] ++ [32, 97, 114, 103, 93])
theorem wth_snoc (tk : List UInt8) (c : UInt8) : wth (tk ++ [c]) = wth tk ++ ([32, 91, 45] ++ [c] ++ [32, 97, 114, 103, 93]) := by simp [wth]
theorem wth_len (tk : List UInt8) : (wth tk).length = 9 * tk.length := by
  induction tk with
  | nil => rfl
  | cons c r ih => simp only [wth, List.flatMap_cons, List.length_append, List.length_cons, List.length_nil] at *; omega
/-- The text of a spec's letters. -/
def usg (al tk : List UInt8) : List UInt8 := if al ≠ [] then [91, 45] ++ al ++ [93] ++ wth tk else (wth tk).tail
set_option maxRecDepth 100000 in
set_option maxHeartbeats 400000 in
theorem rOne (c : UInt8) (w : World) : Calls Try.prog 31 #[.int .u8 c.toNat] w fun e w' => e = .returned (.string ⟨#[c]⟩) ∧ Below w.heap.size w w' := by
  have hcv : (convert 80 9 (.slice (some ⟨w.heap.size, 0, none⟩) 1 1)).run Try.prog (w.alloc (.cells #[.int .u8 c.toNat] 5)) = .ok (.string ⟨#[c]⟩) (w.alloc (.cells #[.int .u8 c.toNat] 5)) :=
    run_convert_bytes_back (P := Try.prog) _ 80 9 5 ⟨w.heap.size, 0, none⟩ 1 [c] Try.underlying80 Try.underlying5 Try.underlying9 (fun j hj => by
      have : j = 0 := by simp at hj; omega
      subst this
      simp [Addr.add])
  have HB : Hid (∀ o, Below w.heap.size w (w.alloc o)) := fun o => (Below.refl _ _).alloc (Nat.le_refl _) o
  go_enter Try.func31, Try.ntmps31
  go_wp2
  go_ret
  exact ⟨rfl, HB.out _⟩
def useR (spec : List UInt8) : Option (List UInt8) := if Ga.specB (Ga.bare spec) then some (usg (Ga.alP (Ga.bare spec) (Ga.bare spec).length) (Ga.tkP (Ga.bare spec) (Ga.bare spec).length)) else none
def useT (R : Option (List UInt8)) : List UInt8 := R.getD []
def useC (R : Option (List UInt8)) : Int := if R.isSome then 0 else 22
set_option maxRecDepth 100000 in
set_option maxHeartbeats 4000000 in
theorem rUsage (spec : List UInt8) (w : World) (hs : spec.length ≤ 2 ^ 47) : Calls Try.prog 23 #[.string ⟨spec.toArray⟩] w fun e W => e = .returned (.tuple #[.string ⟨(useT (useR spec)).toArray⟩, .int .i64 (useC (useR spec))]) ∧ Below w.heap.size w W := by
  have HSp : Hid (Calls Try.prog 29 #[.string ⟨spec.toArray⟩] w fun e w' => e = .returned (.bool (Ga.specB (Ga.bare spec))) ∧ ∃ m, w' = w.drewN m) := rSpec spec w hs
  have HD : Hid (∀ n, Below w.heap.size w (w.drewN n)) := fun n => ⟨rfl, rfl, rfl, Nat.le_refl _, fun _ _ => rfl⟩
  cases hsp : Ga.specB (Ga.bare spec) with
  | false =>
    rw [hsp] at HSp
    have HX : Hid (useR spec = none) := by show _ = _; rw [useR, hsp]; rfl
    generalize useR spec = R at *
    clear hsp
    go_enter Try.func23, Try.ntmps23
    go_wp2_with fail
    refine HSp.out.mono ?_
    rintro e w1 ⟨rfl, m, hw1⟩
    rw [hw1]
    clear hw1 w1
    go_wp2
    go_ret2
    exact ⟨by rw [HX.out]; rfl, HD.out _⟩
  | true =>
    rw [hsp] at HSp
    have HB : Hid (∀ W, Calls Try.prog 35 #[.string ⟨spec.toArray⟩] W fun e w' => e = .returned (.string ⟨(Ga.bare spec).toArray⟩) ∧ w' = W) := fun W => rBare spec W hs
    have hbl : (Ga.bare spec).length ≤ 2 ^ 47 := by unfold Ga.bare; split <;> simp <;> omega
    have HX : Hid (useR spec = some (usg (Ga.alP (Ga.bare spec) (Ga.bare spec).length) (Ga.tkP (Ga.bare spec) (Ga.bare spec).length))) := by show _ = _; rw [useR, if_pos hsp]
    have hnt := fun i => bytes_le _ (tk_nodup hsp i)
    have HNT : Hid (∀ i, (wth (Ga.tkP (Ga.bare spec) i)).length ≤ 2304) := fun i => by rw [wth_len]; have := hnt i; omega
    generalize useR spec = R at *
    generalize Ga.bare spec = l at *
    clear hsp hnt
    go_enter Try.func23, Try.ntmps23
    go_wp2_with fail
    refine HSp.out.mono ?_
    rintro e w1 ⟨rfl, m, hw1⟩
    rw [hw1]
    clear hw1 w1
    go_wp2_with fail
    refine (HB.out _).mono ?_
    rintro e w1 ⟨rfl, hw1⟩
    rw [hw1]
    clear hw1 w1
    go_wp2_with fail
    go_loopw [4, 5, 7] (fun x y i V => ∃ k : Nat, k ≤ l.length ∧ i = .int .i64 k ∧ x = .string ⟨(Ga.alP l k).toArray⟩ ∧ y = .string ⟨(wth (Ga.tkP l k)).toArray⟩ ∧ Hid (Below w.heap.size w V)) (fun _ _ i _ => l.length - (intOf i).toNat)
    case atStart => exact ⟨0, Nat.zero_le _, rfl, rfl, rfl, HD.out _⟩
    case round =>
      obtain ⟨k, hk, rfl, rfl, rfl, HV⟩ := hrel
      have hwl : (wth (Ga.tkP l k)).length ≤ 2304 := HNT.out k
      have hal := alP_len l k
      by_cases hlt : k < l.length
      · have HA : Hid (Ga.alP l (k + 1) = if l[k] = 58 ∨ l[k + 1]? = some 58 then Ga.alP l k else Ga.alP l k ++ [l[k]]) := alP_succ l k hlt
        have HT : Hid (Ga.tkP l (k + 1) = if l[k] ≠ 58 ∧ l[k + 1]? = some 58 then Ga.tkP l k ++ [l[k]] else Ga.tkP l k) := tkP_succ l k hlt
        have HO : Hid (∀ W, Calls Try.prog 31 #[.int .u8 l[k].toNat] W fun e w' => e = .returned (.string ⟨#[l[k]]⟩) ∧ Below W.heap.size W w') := fun W => rOne _ W
        by_cases hc : l[k] = 58
        · have hc' : ((l[k].toNat : Int) == 58) = true := by rw [byte58]; simpa using hc
          rw [hc, if_pos (.inl rfl)] at HA
          rw [hc, if_neg (by simp)] at HT
          clear hc
          go_wp2
          exact ⟨⟨k + 1, by omega, by go_num, by rw [HA.out], by rw [HT.out], HV⟩, by simp [intOf]; omega⟩
        · have hc' : ((l[k].toNat : Int) == 58) = false := by rw [byte58]; simpa using hc
          obtain ⟨j, hj⟩ : ∃ j, j = k + 1 := ⟨_, rfl⟩
          have hwr : IntKind.i64.wrap ((k : Int) + 1) = (j : Int) := by rw [IntKind.wrap_i64]; omega
          have HJ : Hid (j = k + 1) := hj
          rw [← hj] at HA HT
          clear hj
          by_cases h2 : l[j]? = some 58
          · rw [if_pos (.inr h2)] at HA
            rw [if_pos ⟨hc, h2⟩] at HT
            obtain ⟨hjl, hj58⟩ := List.getElem?_eq_some_iff.1 h2
            have h2' : ((l[j].toNat : Int) == 58) = true := by rw [byte58]; simpa using hj58
            have hd : decide ((j : Int) < (l.length : Int)) = true := by simp; omega
            clear h2 hc hj58
            go_wp2_with (go_at_call 31; refine (HO.out _).mono ?_; rintro e w2 ⟨rfl, hB2⟩; have HV2 : Hid (Below w.heap.size w w2) := HV.out.trans (hB2.mono HV.out.size); clear hB2)
            exact ⟨⟨j, by omega, by first | rfl | go_num, by rw [HA.out], by rw [HT.out, wth_snoc]; simp, HV2⟩, by have := HJ.out; simp [intOf]; omega⟩
          · rw [if_neg (by rintro (e | e); exact hc e; exact h2 e)] at HA
            rw [if_neg (fun e => h2 e.2)] at HT
            by_cases hjl : j < l.length
            · have hj58 : ¬ l[j] = 58 := fun e => h2 (by rw [List.getElem?_eq_getElem hjl, e])
              have h2' : ((l[j].toNat : Int) == 58) = false := by rw [byte58]; simpa using hj58
              have hd : decide ((j : Int) < (l.length : Int)) = true := by simp; omega
              clear h2 hc hj58
              go_wp2_with (go_at_call 31; refine (HO.out _).mono ?_; rintro e w2 ⟨rfl, hB2⟩; have HV2 : Hid (Below w.heap.size w w2) := HV.out.trans (hB2.mono HV.out.size); clear hB2)
              exact ⟨⟨j, by omega, by first | rfl | go_num, by rw [HA.out], by rw [HT.out], HV2⟩, by have := HJ.out; simp [intOf]; omega⟩
            · have hd : decide ((j : Int) < (l.length : Int)) = false := by simp; omega
              clear h2 hc
              go_wp2_with (go_at_call 31; refine (HO.out _).mono ?_; rintro e w2 ⟨rfl, hB2⟩; have HV2 : Hid (Below w.heap.size w w2) := HV.out.trans (hB2.mono HV.out.size); clear hB2)
              exact ⟨⟨j, by have := HJ.out; omega, by first | rfl | go_num, by rw [HA.out], by rw [HT.out], HV2⟩, by have := HJ.out; simp [intOf]; omega⟩
      · obtain rfl : k = l.length := by omega
        by_cases ha : Ga.alP l l.length = []
        · have HU : Hid (usg (Ga.alP l l.length) (Ga.tkP l l.length) = (wth (Ga.tkP l l.length)).tail) := by show _ = _; rw [usg, if_neg (by simp [ha])]
          rw [HU.out] at HX
          rw [ha]
          clear HU
          by_cases hb : wth (Ga.tkP l l.length) = []
          · rw [hb] at HX ⊢
            clear hwl
            go_wp2
            go_ret2
            exact ⟨by rw [HX.out]; rfl, HV.out⟩
          · obtain ⟨x, t, ht⟩ : ∃ x t, wth (Ga.tkP l l.length) = x :: t := by
              cases h : wth (Ga.tkP l l.length) with
              | nil => exact absurd h hb
              | cons x t => exact ⟨x, t, rfl⟩
            rw [ht] at HX hwl ⊢
            clear hb ht
            go_wp2
            go_ret2
            exact ⟨by rw [HX.out]; simp [useT, useC], HV.out⟩
        · have HU : Hid (usg (Ga.alP l l.length) (Ga.tkP l l.length) = [91, 45] ++ Ga.alP l l.length ++ [93] ++ wth (Ga.tkP l l.length)) := by show _ = _; rw [usg, if_pos ha]
          rw [HU.out] at HX
          have ha' : (Ga.alP l l.length == []) = false := by simpa using ha
          have ha2 : (Ga.alP l l.length).isEmpty = false := by simpa using ha
          clear HU ha
          go_wp2
          go_ret2
          exact ⟨by rw [HX.out]; simp [useT, useC], HV.out⟩
end Go.Proofs.Ytgbkgfmljcfhoaa
