/- The walks of the plain answers Join, Base, Dir. Conditions: lengths that fit. -/
import Derived.Test.YteggjpogaljafaaDoorPa5
namespace Go.Proofs.YteggjpogaljafaaDoor
open Go.RowKit
attribute [local go_sem] ext_eq app_eq get_eq toL_eq
theorem some_snoc (ys : List (List UInt8)) (x : List UInt8) : Pa.some' (ys ++ [x]) = if x = [] then Pa.some' ys else Pa.some' ys ++ [x] := by
  by_cases h : x = [] <;> simp [Pa.some', h]
theorem jn_nil_iff (ns : List (List UInt8)) (h : ∀ n ∈ ns, n ≠ []) : Pa.jn ns = [] ↔ ns = [] := by
  cases ns with
  | nil => simp [Pa.jn, Lib.join_nil]
  | cons n r => have := h n (by simp); simp [Pa.jn, Lib.join_cons, this]
theorem some_ne (xs : List (List UInt8)) : ∀ n ∈ Pa.some' xs, n ≠ [] := by intro n hn; simp [Pa.some'] at hn; exact hn.2
theorem jn_some_nil (xs : List (List UInt8)) : Pa.jn (Pa.some' xs) = [] ↔ Pa.some' xs = [] := jn_nil_iff _ (some_ne xs)
theorem some_take_le (xs : List (List UInt8)) (k : Nat) : (Pa.jn (Pa.some' (xs.take k))).length ≤ (Pa.jn (Pa.some' xs)).length := by
  have : Pa.some' (xs.take k) <+: Pa.some' xs := by
    conv => rhs; rw [← List.take_append_drop k xs]
    simp only [Pa.some', List.filter_append]
    exact List.prefix_append _ _
  rw [List.prefix_iff_eq_take.1 this]
  exact jn_take_le _ _
set_option maxRecDepth 100000 in
set_option maxHeartbeats 1000000 in
theorem rJoin (xs : List (List UInt8)) (a : Option Addr) (c : Nat) (w : World) (hS : Strs w a xs) (hn : xs.length ≤ 2 ^ 40) (hj : (Pa.jn (Pa.some' xs)).length ≤ 2 ^ 39) :
    Calls Tryd.prog 18 #[.slice a xs.length c] w fun e w' => e = .returned (.string ⟨(Pa.join xs).toArray⟩) ∧ Below w.heap.size w w' := by
  have HS : Hid (Strs w a xs) := hS
  clear hS
  go_enter Tryd.func18, Tryd.ntmps18
  go_wp2
  go_loop [3, 8] (fun t i => ∃ k : Nat, k ≤ xs.length ∧ i = .int .i64 k ∧ t = .string ⟨(Pa.jn (Pa.some' (xs.take k))).toArray⟩) (fun _ i => xs.length - (intOf i).toNat)
  case atStart => exact ⟨0, Nat.zero_le _, rfl, rfl⟩
  case round =>
    obtain ⟨k, hk, rfl, rfl⟩ := hrel
    have hle := some_take_le xs k
    by_cases hlt : k < xs.length
    · have hle' := some_take_le xs (k + 1)
      have HF : Hid (Pa.some' (xs.take (k + 1)) = if xs[k] = [] then Pa.some' (xs.take k) else Pa.some' (xs.take k) ++ [xs[k]]) := by show _ = _; rw [take_getL xs k hlt, some_snoc]
      have HJ : Hid (Pa.jn (Pa.some' (xs.take k)) = [] ↔ Pa.some' (xs.take k) = []) := jn_some_nil _
      rw [HF.out] at hle'
      obtain ⟨bk, o, rfl, hb, hcell⟩ := HS.out k xs[k] (List.getElem?_eq_getElem hlt)
      generalize xs[k] = x at hcell HF hle'
      generalize Pa.some' (xs.take k) = out at *
      by_cases hx : x = []
      · subst hx
        go_wp2
        exact ⟨⟨k + 1, by omega, by go_num, by rw [HF.out, if_pos rfl]⟩, by simp [intOf]; omega⟩
      · have hx' : x.isEmpty = false := by simp [hx]
        rw [if_neg hx, jn_snoc] at hle'
        have HX : Hid (¬ x = []) := hx
        clear hx
        by_cases ho : out = []
        · subst ho
          have hj0 : Pa.jn [] = [] := rfl
          rw [if_pos rfl] at hle'
          go_wp2
          exact ⟨⟨k + 1, by omega, by go_num, by rw [HF.out, if_neg HX.out]; simp [Pa.jn, Lib.join_one]⟩, by simp [intOf]; omega⟩
        · have ho' : (Pa.jn out).isEmpty = false := by
            have := mt HJ.out.1 ho
            simp [this]
          rw [if_neg ho] at hle'
          simp only [List.length_append, List.length_cons, List.length_nil] at hle'
          have HO : Hid (¬ out = []) := ho
          clear ho
          go_wp2
          exact ⟨⟨k + 1, by omega, by go_num, by rw [HF.out, if_neg HX.out, jn_snoc, if_neg HO.out]; simp⟩, by simp [intOf]; omega⟩
    · have hkx : xs.take k = xs := List.take_of_length_le (by omega)
      rw [hkx]
      have HJ : Hid (Pa.jn (Pa.some' xs) = [] ↔ Pa.some' xs = []) := jn_some_nil _
      clear hkx
      by_cases ho : Pa.some' xs = []
      · have HO : Hid (Pa.some' xs = []) := ho
        rw [ho]
        clear ho
        have hj0 : Pa.jn [] = [] := rfl
        go_wp2
        go_ret
        exact ⟨ret_str (by rw [Pa.join, if_pos HO.out]), Below.refl _ _⟩
      · have ho' : (Pa.jn (Pa.some' xs)).isEmpty = false := by
          have := mt HJ.out.1 ho
          simp [this]
        have HO : Hid (¬ Pa.some' xs = []) := ho
        clear ho
        go_wp2_with (go_at_call 16; refine (rCleanS _ _ hj).mono ?_; rintro e w1 ⟨rfl, hB⟩)
        go_ret
        exact ⟨ret_str (by rw [Pa.join, if_neg HO.out]), hB⟩
/-- basename. -/
def Pa.base (l suf : List UInt8) : List UInt8 :=
  if l = [] then [46] else if Lib.trimRightB l 47 = [] then [47] else
    if suf.length < ((Lib.trimRightB l 47).drop (lastL (Lib.trimRightB l 47))).length ∧ ((Lib.trimRightB l 47).drop (lastL (Lib.trimRightB l 47))).drop (((Lib.trimRightB l 47).drop (lastL (Lib.trimRightB l 47))).length - suf.length) = suf
    then ((Lib.trimRightB l 47).drop (lastL (Lib.trimRightB l 47))).take (((Lib.trimRightB l 47).drop (lastL (Lib.trimRightB l 47))).length - suf.length)
    else (Lib.trimRightB l 47).drop (lastL (Lib.trimRightB l 47))
/-- dirname. -/
def Pa.dir (l : List UInt8) : List UInt8 :=
  if l = [] then [46] else if Lib.trimRightB l 47 = [] then [47] else if lastL (Lib.trimRightB l 47) = 0 then [46] else
    if Lib.trimRightB ((Lib.trimRightB l 47).take (lastL (Lib.trimRightB l 47))) 47 = [] then [47] else Lib.trimRightB ((Lib.trimRightB l 47).take (lastL (Lib.trimRightB l 47))) 47
theorem trim_len (l : List UInt8) (c : UInt8) : (Lib.trimRightB l c).length ≤ l.length := by
  simp only [Lib.trimRightB, List.length_reverse]
  have := (List.dropWhile_suffix (fun x => x == c) (l := l.reverse)).length_le
  simpa using this
theorem drop_last_len (t : List UInt8) (a b : Nat) : (t.take b).drop a = (t.drop a).take (b - a) := List.drop_take ..
set_option maxRecDepth 100000 in
set_option maxHeartbeats 1000000 in
theorem rBase (l suf : List UInt8) (w : World) (hs : l.length ≤ 2 ^ 60) (hf : suf.length ≤ 2 ^ 60) : Calls Tryd.prog 20 #[.string ⟨l.toArray⟩, .string ⟨suf.toArray⟩] w fun e w' => e = .returned (.string ⟨(Pa.base l suf).toArray⟩) ∧ w' = w := by
  have hm : l.length ≤ maxLen := by unfold maxLen; omega
  have HM : Hid (l.length ≤ maxLen) := hm
  have htl := trim_len l 47
  have HM2 : Hid ((Lib.trimRightB l 47).length ≤ maxLen - 1) := by show _ ≤ _; unfold maxLen; omega
  clear hm
  by_cases hl : l = []
  · subst hl
    go_enter Tryd.func20, Tryd.ntmps20
    go_wp2
    go_ret
    exact ⟨rfl, rfl⟩
  · have hl' : l.isEmpty = false := by simp [hl]
    have HB : Hid (Pa.base l suf = if Lib.trimRightB l 47 = [] then [47] else
      if suf.length < ((Lib.trimRightB l 47).drop (lastL (Lib.trimRightB l 47))).length ∧ ((Lib.trimRightB l 47).drop (lastL (Lib.trimRightB l 47))).drop (((Lib.trimRightB l 47).drop (lastL (Lib.trimRightB l 47))).length - suf.length) = suf
      then ((Lib.trimRightB l 47).drop (lastL (Lib.trimRightB l 47))).take (((Lib.trimRightB l 47).drop (lastL (Lib.trimRightB l 47))).length - suf.length)
      else (Lib.trimRightB l 47).drop (lastL (Lib.trimRightB l 47))) := by show _ = _; rw [Pa.base, if_neg hl]
    have HR := rBare l w HM.out
    have HR : Hid (Calls Tryd.prog 40 #[.string ⟨l.toArray⟩] w fun e w' => e = .returned (.string ⟨(Lib.trimRightB l 47).toArray⟩) ∧ w' = w) := HR
    clear hl
    generalize Lib.trimRightB l 47 = t at *
    have HL : Hid (Calls Tryd.prog 41 #[.string ⟨t.toArray⟩] w fun e w' => e = .returned (.int .i64 (lastL t)) ∧ w' = w) := rLast t w HM2.out
    have hll := lastL_le t
    generalize lastL t = p at *
    by_cases ht : t = []
    · subst ht
      rw [if_pos rfl] at HB
      go_enter Tryd.func20, Tryd.ntmps20
      go_wp2_with (go_at_call 40; refine HR.out.mono ?_; rintro e w1 ⟨rfl, rfl⟩)
      go_ret
      exact ⟨ret_str HB.out.symm, rfl⟩
    · have ht' : t.isEmpty = false := by simp [ht]
      rw [if_neg ht] at HB
      clear ht
      have HU : Hid ((t.drop p).length = t.length - p) := List.length_drop
      have HT : Hid (List.take (t.length - p) (List.drop p t) = List.drop p t) := List.take_of_length_le (by simp)
      by_cases hc : suf.length < t.length - p
      · by_cases hd : (t.drop p).drop (t.length - p - suf.length) = suf
        · rw [HU.out, if_pos ⟨hc, hd⟩] at HB
          have hd' : (List.drop (t.length - p - suf.length) (List.take (t.length - p) (List.drop p t)) == suf) = true := by rw [HT.out]; exact beq_iff_eq.2 hd
          clear hd
          go_enter Tryd.func20, Tryd.ntmps20
          go_wp2_with (first | (go_at_call 40; refine HR.out.mono ?_; rintro e w1 ⟨rfl, rfl⟩) | (go_at_call 41; refine HL.out.mono ?_; rintro e w1 ⟨rfl, rfl⟩))
          go_ret
          exact ⟨ret_str HB.out.symm, rfl⟩
        · rw [HU.out, if_neg (fun h => hd h.2)] at HB
          have hd' : (List.drop (t.length - p - suf.length) (List.take (t.length - p) (List.drop p t)) == suf) = false := by rw [HT.out]; exact beq_eq_false_iff_ne.2 hd
          clear hd
          go_enter Tryd.func20, Tryd.ntmps20
          go_wp2_with (first | (go_at_call 40; refine HR.out.mono ?_; rintro e w1 ⟨rfl, rfl⟩) | (go_at_call 41; refine HL.out.mono ?_; rintro e w1 ⟨rfl, rfl⟩))
          go_ret
          exact ⟨ret_str HB.out.symm, rfl⟩
      · rw [HU.out, if_neg (fun h => hc h.1)] at HB
        go_enter Tryd.func20, Tryd.ntmps20
        go_wp2_with (first | (go_at_call 40; refine HR.out.mono ?_; rintro e w1 ⟨rfl, rfl⟩) | (go_at_call 41; refine HL.out.mono ?_; rintro e w1 ⟨rfl, rfl⟩))
        go_ret
        exact ⟨ret_str HB.out.symm, rfl⟩
set_option maxRecDepth 100000 in
set_option maxHeartbeats 1000000 in
theorem rDir (l : List UInt8) (w : World) (hs : l.length ≤ 2 ^ 60) : Calls Tryd.prog 22 #[.string ⟨l.toArray⟩] w fun e w' => e = .returned (.string ⟨(Pa.dir l).toArray⟩) ∧ w' = w := by
  have HM : Hid (l.length ≤ maxLen) := by show _ ≤ _; unfold maxLen; omega
  have htl := trim_len l 47
  have HM2 : Hid ((Lib.trimRightB l 47).length ≤ maxLen - 1) := by show _ ≤ _; unfold maxLen; omega
  by_cases hl : l = []
  · subst hl
    go_enter Tryd.func22, Tryd.ntmps22
    go_wp2
    go_ret
    exact ⟨rfl, rfl⟩
  · have hl' : l.isEmpty = false := by simp [hl]
    have HB : Hid (Pa.dir l = if Lib.trimRightB l 47 = [] then [47] else if lastL (Lib.trimRightB l 47) = 0 then [46] else
      if Lib.trimRightB ((Lib.trimRightB l 47).take (lastL (Lib.trimRightB l 47))) 47 = [] then [47] else Lib.trimRightB ((Lib.trimRightB l 47).take (lastL (Lib.trimRightB l 47))) 47) := by show _ = _; rw [Pa.dir, if_neg hl]
    have HR : Hid (Calls Tryd.prog 40 #[.string ⟨l.toArray⟩] w fun e w' => e = .returned (.string ⟨(Lib.trimRightB l 47).toArray⟩) ∧ w' = w) := rBare l w HM.out
    clear hl
    generalize Lib.trimRightB l 47 = t at *
    have HL : Hid (Calls Tryd.prog 41 #[.string ⟨t.toArray⟩] w fun e w' => e = .returned (.int .i64 (lastL t)) ∧ w' = w) := rLast t w HM2.out
    have hll := lastL_le t
    generalize lastL t = p at *
    by_cases ht : t = []
    · subst ht
      rw [if_pos rfl] at HB
      go_enter Tryd.func22, Tryd.ntmps22
      go_wp2_with (go_at_call 40; refine HR.out.mono ?_; rintro e w1 ⟨rfl, rfl⟩)
      go_ret
      exact ⟨ret_str HB.out.symm, rfl⟩
    · have ht' : t.isEmpty = false := by simp [ht]
      rw [if_neg ht] at HB
      clear ht
      by_cases hp : p = 0
      · subst hp
        rw [if_pos rfl] at HB
        go_enter Tryd.func22, Tryd.ntmps22
        go_wp2_with (first | (go_at_call 40; refine HR.out.mono ?_; rintro e w1 ⟨rfl, rfl⟩) | (go_at_call 41; refine HL.out.mono ?_; rintro e w1 ⟨rfl, rfl⟩))
        go_ret
        exact ⟨ret_str HB.out.symm, rfl⟩
      · have hp' : ((p : Int) == 0) = false := by rw [beq_eq_false_iff_ne]; omega
        rw [if_neg hp] at HB
        have HR2 : Hid (Calls Tryd.prog 40 #[.string ⟨(t.take p).toArray⟩] w fun e w' => e = .returned (.string ⟨(Lib.trimRightB (t.take p) 47).toArray⟩) ∧ w' = w) := rBare _ w (by unfold maxLen; simp; omega)
        generalize Lib.trimRightB (t.take p) 47 = u at *
        by_cases hu : u = []
        · subst hu
          rw [if_pos rfl] at HB
          go_enter Tryd.func22, Tryd.ntmps22
          go_wp2_with fail
          refine HR.out.mono ?_
          rintro e w1 ⟨rfl, rfl⟩
          go_wp2_with fail
          refine HL.out.mono ?_
          rintro e w1 ⟨rfl, rfl⟩
          go_wp2_with fail
          refine HR2.out.mono ?_
          rintro e w2 ⟨rfl, rfl⟩
          go_wp2
          go_ret
          exact ⟨ret_str HB.out.symm, rfl⟩
        · have hu' : u.isEmpty = false := by simp [hu]
          rw [if_neg hu] at HB
          clear hu
          go_enter Tryd.func22, Tryd.ntmps22
          go_wp2_with fail
          refine HR.out.mono ?_
          rintro e w1 ⟨rfl, rfl⟩
          go_wp2_with fail
          refine HL.out.mono ?_
          rintro e w1 ⟨rfl, rfl⟩
          go_wp2_with fail
          refine HR2.out.mono ?_
          rintro e w2 ⟨rfl, rfl⟩
          go_wp2
          go_ret
          exact ⟨ret_str HB.out.symm, rfl⟩
end Go.Proofs.YteggjpogaljafaaDoor
