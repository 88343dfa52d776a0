/- The walks of the program's absolute, Base, Dir, String. Conditions: lengths that fit. -/
import Derived.Test.YteggjpogaljafaaDoorPa6
import Derived.Lib.LastIndexByte
namespace Go.Proofs.YteggjpogaljafaaDoor
open Go.RowKit
attribute [local go_sem] ext_eq app_eq get_eq toL_eq
theorem absB_prefix (l : List UInt8) : Lib.hasPrefix l [47] = Pa.absB l := by
  cases l with
  | nil => rfl
  | cons c r => rw [Bool.eq_iff_iff]; simp [Lib.hasPrefix, Pa.absB]; exact ⟨Eq.symm, Eq.symm⟩
set_option maxHeartbeats 400000 in
theorem pAbs (l : List UInt8) (w : World) : Calls Tryd.prog 29 #[.string ⟨l.toArray⟩] w fun e w' => e = .returned (.bool (Pa.absB l)) ∧ w' = w := by
  have HP : Hid (Calls Tryd.prog 48 #[.string ⟨l.toArray⟩, .string ⟨#[47]⟩] w fun e w' => e = .returned (.bool (Lib.hasPrefix l [47])) ∧ w' = w) := Tryd.strings_HasPrefix ⟨l.toArray⟩ ⟨#[47]⟩ w
  rw [absB_prefix] at HP
  go_enter Tryd.func29, Tryd.ntmps29
  go_wp2_with fail
  refine HP.out.mono ?_
  rintro e w1 ⟨rfl, rfl⟩
  go_wp2
  go_ret
  exact ⟨rfl, rfl⟩
theorem sTrim (l : List UInt8) (w : World) (hs : l.length ≤ 2 ^ 60) : Calls Tryd.prog 37 #[.string ⟨l.toArray⟩, .string ⟨#[47]⟩] w fun e w' => e = .returned (.string ⟨(Lib.trimRightB l 47).toArray⟩) ∧ w' = w :=
  Tryd.strings_TrimRight_one ⟨l.toArray⟩ 47 (by decide) w (by rw [str_size]; omega)
theorem lastL_spec_aux (n : Nat) : ∀ l : List UInt8, l.length = n → (lastL l = 0 ∧ ∀ j (h : j < l.length), l[j] ≠ 47) ∨ (∃ i, ∃ h : i < l.length, lastL l = i + 1 ∧ l[i] = 47 ∧ ∀ j (hj : j < l.length), i < j → l[j] ≠ 47) := by
  induction n with
  | zero => intro l hn; have : l = [] := List.length_eq_zero_iff.1 hn; subst this; exact .inl ⟨rfl, fun j h => absurd h (Nat.not_lt_zero _)⟩
  | succ n ih =>
    intro l hn
    have hn0 : l ≠ [] := fun e => by rw [e] at hn; simp at hn
    obtain ⟨m, c, hl⟩ : ∃ m c, l = m ++ [c] := ⟨l.dropLast, l.getLast hn0, (List.dropLast_concat_getLast hn0).symm⟩
    subst hl
    have hm : m.length = n := by simpa using hn
    rw [lastL_snoc]
    by_cases hc : c = 47
    · rw [if_pos hc]
      refine .inr ⟨m.length, by omega, rfl, by simp [hc], fun j hj h => ?_⟩
      omega
    · rw [if_neg hc]
      rcases ih m hm with ⟨h0, hall⟩ | ⟨i, hi, h0, hi47, hall⟩
      · refine .inl ⟨h0, fun j h => ?_⟩
        by_cases hj : j < m.length
        · rw [List.getElem_append_left hj]; exact hall j (by omega)
        · have : j = m.length := by omega
          subst this; simpa using hc
      · refine .inr ⟨i, by omega, h0, by rw [List.getElem_append_left (by omega)]; exact hi47, fun j h hij => ?_⟩
        by_cases hj : j < m.length
        · rw [List.getElem_append_left hj]; exact hall j (by omega) hij
        · have : j = m.length := by omega
          subst this; simpa using hc
theorem lastL_spec (l : List UInt8) : (lastL l = 0 ∧ ∀ j (h : j < l.length), l[j] ≠ 47) ∨ (∃ i, ∃ h : i < l.length, lastL l = i + 1 ∧ l[i] = 47 ∧ ∀ j (hj : j < l.length), i < j → l[j] ≠ 47) := lastL_spec_aux _ l rfl
theorem lastIndex_eq (l : List UInt8) : Lib.lastIndexByte ⟨l.toArray⟩ 47 = (lastL l : Int) - 1 := by
  have hg : ∀ j (h : j < l.length), ((⟨l.toArray⟩ : ByteArray).data[j]!) = l[j] := by intro j h; simp [h]
  have h47 : ∀ j (h : j < l.length), (((l[j]).toNat : Int) = 47 ↔ l[j] = 47) := by
    intro j h
    have := byte_slash l[j]
    constructor
    · intro e; rw [beq_iff_eq.2 e] at this; simpa using this.symm
    · intro e; rw [e]; rfl
  unfold Lib.lastIndexByte
  rw [str_size]
  rcases Lib.lastIdx_spec ⟨l.toArray⟩ 47 l.length with ⟨e, hall⟩ | ⟨i, hi, e, h1, hall⟩
  · rcases lastL_spec l with ⟨h0, _⟩ | ⟨k, hk, h0, hk47, _⟩
    · rw [e, h0]; rfl
    · exact absurd ((h47 k hk).2 hk47) (by rw [← hg k hk]; exact hall k hk)
  · rw [hg i hi, h47 i hi] at h1
    rcases lastL_spec l with ⟨_, hno⟩ | ⟨k, hk, h0, hk47, hafter⟩
    · exact absurd h1 (hno i hi)
    · have : i = k := by
        rcases Nat.lt_trichotomy i k with h | h | h
        · exact absurd ((h47 k hk).2 hk47) (by rw [← hg k hk]; exact hall k h hk)
        · exact h
        · exact absurd h1 (hafter i hi h)
      rw [e, h0, this]; omega
theorem sLast (l : List UInt8) (w : World) (hs : l.length ≤ 2 ^ 60) : Calls Tryd.prog 38 #[.string ⟨l.toArray⟩, .int .u8 47] w fun e w' => e = .returned (.int .i64 ((lastL l : Int) - 1)) ∧ w' = w := by
  rw [← lastIndex_eq]
  exact Tryd.strings_LastIndexByte ⟨l.toArray⟩ 47 (by rw [str_size]; omega) w
theorem base_eq (u suf : List UInt8) : (if suf.length < u.length ∧ u.drop (u.length - suf.length) = suf then u.take (u.length - suf.length) else u) = if u = suf then u else Lib.trimSuffix u suf := by
  by_cases h : u = suf
  · subst h; simp
  · rw [if_neg h, Lib.trimSuffix, Lib.hasSuffix]
    by_cases hs : suf <:+ u
    · have h1 : suf.isSuffixOf u = true := List.isSuffixOf_iff_suffix.2 hs
      obtain ⟨p, rfl⟩ := hs
      have hp : p ≠ [] := fun e => h (by simp [e])
      have := List.length_pos_iff.2 hp
      rw [if_pos (by refine ⟨by simp; omega, by simp⟩), if_pos h1]
    · have h1 : ¬ suf.isSuffixOf u = true := fun e => hs (List.isSuffixOf_iff_suffix.1 e)
      rw [if_neg h1, if_neg]
      rintro ⟨_, e⟩
      exact hs ⟨u.take (u.length - suf.length), by conv => lhs; rhs; rw [← e]
                                                   exact List.take_append_drop _ _⟩
theorem sSuffix (l p : List UInt8) (w : World) (hs : l.length ≤ 2 ^ 60) : Calls Tryd.prog 39 #[.string ⟨l.toArray⟩, .string ⟨p.toArray⟩] w fun e w' => e = .returned (.string ⟨(Lib.trimSuffix l p).toArray⟩) ∧ w' = w :=
  Tryd.strings_TrimSuffix ⟨l.toArray⟩ ⟨p.toArray⟩ w (by rw [str_size]; omega)
set_option maxRecDepth 100000 in
set_option maxHeartbeats 1000000 in
theorem pBase (l suf : List UInt8) (w : World) (hs : l.length ≤ 2 ^ 60) : Calls Tryd.prog 19 #[.string ⟨l.toArray⟩, .string ⟨suf.toArray⟩] w fun e w' => e = .returned (.string ⟨(Pa.base l suf).toArray⟩) ∧ w' = w := by
  have htl := trim_len l 47
  by_cases hl : l = []
  · subst hl
    go_enter Tryd.func19, Tryd.ntmps19
    go_wp2
    go_ret
    exact ⟨rfl, rfl⟩
  · have hl' : l.isEmpty = false := by simp [hl]
    have HB : Hid (Pa.base l suf = if Lib.trimRightB l 47 = [] then [47] else
      if ((Lib.trimRightB l 47).drop (lastL (Lib.trimRightB l 47))) = suf then ((Lib.trimRightB l 47).drop (lastL (Lib.trimRightB l 47))) else Lib.trimSuffix ((Lib.trimRightB l 47).drop (lastL (Lib.trimRightB l 47))) suf) := by show _ = _; rw [Pa.base, if_neg hl, base_eq]
    have HR : Hid (Calls Tryd.prog 37 #[.string ⟨l.toArray⟩, .string ⟨#[47]⟩] w fun e w' => e = .returned (.string ⟨(Lib.trimRightB l 47).toArray⟩) ∧ w' = w) := sTrim l w hs
    clear hl
    generalize Lib.trimRightB l 47 = t at *
    have HL : Hid (Calls Tryd.prog 38 #[.string ⟨t.toArray⟩, .int .u8 47] w fun e w' => e = .returned (.int .i64 ((lastL t : Int) - 1)) ∧ w' = w) := sLast t w (by omega)
    have hll := lastL_le t
    generalize lastL t = p at *
    by_cases ht : t = []
    · subst ht
      rw [if_pos rfl] at HB
      go_enter Tryd.func19, Tryd.ntmps19
      go_wp2_with fail
      refine HR.out.mono ?_
      rintro e w1 ⟨rfl, rfl⟩
      go_wp2
      go_ret
      exact ⟨ret_str HB.out.symm, rfl⟩
    · have ht' : t.isEmpty = false := by simp [ht]
      rw [if_neg ht] at HB
      clear ht
      have HS : Hid (Calls Tryd.prog 39 #[.string ⟨(t.drop p).toArray⟩, .string ⟨suf.toArray⟩] w fun e w' => e = .returned (.string ⟨(Lib.trimSuffix (t.drop p) suf).toArray⟩) ∧ w' = w) := sSuffix _ _ w (by simp; omega)
      by_cases hu : t.drop p = suf
      · have hu' : (t.drop p == suf) = true := beq_iff_eq.2 hu
        rw [if_pos hu] at HB
        clear hu
        go_enter Tryd.func19, Tryd.ntmps19
        go_wp2_with fail
        refine HR.out.mono ?_
        rintro e w1 ⟨rfl, rfl⟩
        go_wp2_with fail
        refine HL.out.mono ?_
        rintro e w1 ⟨rfl, rfl⟩
        go_wp2
        go_ret
        exact ⟨ret_str HB.out.symm, rfl⟩
      · have hu' : (t.drop p == suf) = false := beq_eq_false_iff_ne.2 hu
        rw [if_neg hu] at HB
        clear hu
        go_enter Tryd.func19, Tryd.ntmps19
        go_wp2_with fail
        refine HR.out.mono ?_
        rintro e w1 ⟨rfl, rfl⟩
        go_wp2_with fail
        refine HL.out.mono ?_
        rintro e w1 ⟨rfl, rfl⟩
        go_wp2_with fail
        refine HS.out.mono ?_
        rintro e w1 ⟨rfl, rfl⟩
        go_wp2
        go_ret
        exact ⟨ret_str HB.out.symm, rfl⟩
/-- What lies ahead of the last slash, bare: the slash itself makes no difference. -/
theorem dir_cut (t : List UInt8) (h : lastL t ≠ 0) : Lib.trimRightB (t.take (lastL t)) 47 = Lib.trimRightB (t.take (lastL t - 1)) 47 := by
  rcases lastL_spec t with ⟨h0, _⟩ | ⟨i, hi, h0, hi47, _⟩
  · exact absurd h0 h
  · rw [h0, Nat.add_sub_cancel, take_get t i hi, hi47, trim_snoc]
set_option maxRecDepth 100000 in
set_option maxHeartbeats 1000000 in
theorem pDir (l : List UInt8) (w : World) (hs : l.length ≤ 2 ^ 60) : Calls Tryd.prog 21 #[.string ⟨l.toArray⟩] w fun e w' => e = .returned (.string ⟨(Pa.dir l).toArray⟩) ∧ w' = w := by
  have htl := trim_len l 47
  have HD : Hid (Pa.dir l = if l = [] then [46] else if Lib.trimRightB l 47 = [] then [47] else if lastL (Lib.trimRightB l 47) = 0 then [46] else
      if Lib.trimRightB ((Lib.trimRightB l 47).take (lastL (Lib.trimRightB l 47) - 1)) 47 = [] then [47] else Lib.trimRightB ((Lib.trimRightB l 47).take (lastL (Lib.trimRightB l 47) - 1)) 47) := by
    show _ = _
    unfold Pa.dir
    by_cases h : lastL (Lib.trimRightB l 47) = 0
    · rw [if_pos h, if_pos h]
    · rw [if_neg h, if_neg h, dir_cut _ h]
  have HR : Hid (Calls Tryd.prog 37 #[.string ⟨l.toArray⟩, .string ⟨#[47]⟩] w fun e w' => e = .returned (.string ⟨(Lib.trimRightB l 47).toArray⟩) ∧ w' = w) := sTrim l w hs
  have HN : Hid (l = [] → Lib.trimRightB l 47 = []) := by rintro rfl; rfl
  generalize Lib.trimRightB l 47 = t at *
  have HL : Hid (Calls Tryd.prog 38 #[.string ⟨t.toArray⟩, .int .u8 47] w fun e w' => e = .returned (.int .i64 ((lastL t : Int) - 1)) ∧ w' = w) := sLast t w (by omega)
  have hll := lastL_le t
  have HT : Hid (t = [] → lastL t = 0) := by rintro rfl; rfl
  generalize lastL t = p at *
  by_cases ht : t = []
  · subst ht
    obtain rfl : p = 0 := HT.out rfl
    by_cases hl : l = []
    · subst hl
      go_enter Tryd.func21, Tryd.ntmps21
      go_wp2_with fail
      refine HR.out.mono ?_
      rintro e w1 ⟨rfl, rfl⟩
      go_wp2_with fail
      refine HL.out.mono ?_
      rintro e w1 ⟨rfl, rfl⟩
      go_wp2
      go_ret
      exact ⟨rfl, rfl⟩
    · have hl' : l.isEmpty = false := by simp [hl]
      rw [if_neg hl, if_pos rfl] at HD
      clear hl
      go_enter Tryd.func21, Tryd.ntmps21
      go_wp2_with fail
      refine HR.out.mono ?_
      rintro e w1 ⟨rfl, rfl⟩
      go_wp2
      go_ret
      exact ⟨ret_str HD.out.symm, rfl⟩
  · have ht' : t.isEmpty = false := by simp [ht]
    have hl : ¬ l = [] := fun e => ht (HN.out e)
    rw [if_neg hl, if_neg ht] at HD
    clear ht hl
    by_cases hp : p = 0
    · subst hp
      rw [if_pos rfl] at HD
      go_enter Tryd.func21, Tryd.ntmps21
      go_wp2_with fail
      refine HR.out.mono ?_
      rintro e w1 ⟨rfl, rfl⟩
      go_wp2_with fail
      refine HL.out.mono ?_
      rintro e w1 ⟨rfl, rfl⟩
      go_wp2
      go_ret
      exact ⟨ret_str HD.out.symm, rfl⟩
    · rw [if_neg hp] at HD
      obtain ⟨m, rfl⟩ : ∃ m, p = m + 1 := ⟨p - 1, by omega⟩
      rw [Nat.add_sub_cancel] at HD
      have HR2 : Hid (Calls Tryd.prog 37 #[.string ⟨(t.take m).toArray⟩, .string ⟨#[47]⟩] w fun e w' => e = .returned (.string ⟨(Lib.trimRightB (t.take m) 47).toArray⟩) ∧ w' = w) := sTrim _ w (by simp; omega)
      have HL2 : Hid (Calls Tryd.prog 38 #[.string ⟨t.toArray⟩, .int .u8 47] w fun e w' => e = .returned (.int .i64 (m : Int)) ∧ w' = w) := by
        show Calls _ _ _ _ _
        have := HL.out
        rw [show ((m + 1 : Nat) : Int) - 1 = (m : Int) by omega] at this
        exact this
      clear HL hp
      generalize Lib.trimRightB (t.take m) 47 = u at *
      by_cases hu : u = []
      · subst hu
        rw [if_pos rfl] at HD
        go_enter Tryd.func21, Tryd.ntmps21
        go_wp2_with fail
        refine HR.out.mono ?_
        rintro e w1 ⟨rfl, rfl⟩
        go_wp2_with fail
        refine HL2.out.mono ?_
        rintro e w1 ⟨rfl, rfl⟩
        go_wp2_with fail
        refine HR2.out.mono ?_
        rintro e w1 ⟨rfl, rfl⟩
        go_wp2
        go_ret
        exact ⟨ret_str HD.out.symm, rfl⟩
      · have hu' : u.isEmpty = false := by simp [hu]
        rw [if_neg hu] at HD
        clear hu
        go_enter Tryd.func21, Tryd.ntmps21
        go_wp2_with fail
        refine HR.out.mono ?_
        rintro e w1 ⟨rfl, rfl⟩
        go_wp2_with fail
        refine HL2.out.mono ?_
        rintro e w1 ⟨rfl, rfl⟩
        go_wp2_with fail
        refine HR2.out.mono ?_
        rintro e w1 ⟨rfl, rfl⟩
        go_wp2
        go_ret
        exact ⟨ret_str HD.out.symm, rfl⟩
end Go.Proofs.YteggjpogaljafaaDoor
