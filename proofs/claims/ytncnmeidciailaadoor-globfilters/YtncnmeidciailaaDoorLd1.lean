/- The walks of the program's classAt and dash. Conditions: a text that fits; the table of names; the reader lies in memory. -/
import Derived.Test.YtncnmeidciailaaDoorLb4
import Derived.Test.YtncnmeidciailaaDoorLa5
namespace Go.Proofs.YtncnmeidciailaaDoor
open Go.RowKit
attribute [local go_sem] ext_eq app_eq get_eq
namespace Gl
theorem take2 (l : List UInt8) : (l.take 2 = [91, 58]) ↔ List.isPrefixOf [91, 58] l = true := by
  rw [List.isPrefixOf_iff_prefix]
  constructor
  · intro h; exact ⟨l.drop 2, by rw [← h]; exact List.take_append_drop 2 l⟩
  · rintro ⟨t, rfl⟩; rfl
theorem pfx_app (a b l : List UInt8) : List.isPrefixOf (a ++ b) l = (List.isPrefixOf a l && List.isPrefixOf b (l.drop a.length)) := by
  rw [Bool.eq_iff_iff, Bool.and_eq_true, List.isPrefixOf_iff_prefix, List.isPrefixOf_iff_prefix, List.isPrefixOf_iff_prefix]
  constructor
  · rintro ⟨t, rfl⟩
    exact ⟨⟨b ++ t, by simp⟩, ⟨t, by simp⟩⟩
  · rintro ⟨⟨t, rfl⟩, ⟨u, hu⟩⟩
    rw [List.drop_left] at hu
    exact ⟨u, by rw [← hu]; simp⟩
/-- The first name from k on that stands here. -/
def nameFrom (r : List UInt8) (k : Nat) : Option (List UInt8) := (names.drop k).find? (fun n => (n ++ [58, 93]).isPrefixOf r)
theorem nameFrom_yes {r : List UInt8} {k : Nat} (hk : k < 12) (h : ((names[k]'hk) ++ [58, 93]).isPrefixOf r = true) : nameFrom r k = some (names[k]'hk) := by
  unfold nameFrom
  rw [List.drop_eq_getElem_cons (show k < names.length from hk), List.find?_cons_of_pos (by exact h)]
  rfl
theorem nameFrom_no {r : List UInt8} {k : Nat} (hk : k < 12) (h : ((names[k]'hk) ++ [58, 93]).isPrefixOf r = false) : nameFrom r k = nameFrom r (k + 1) := by
  have hk' : k < names.length := hk
  have e : names.drop k = names[k] :: names.drop (k + 1) := List.drop_eq_getElem_cons hk'
  have h' : ¬ ((fun n : List UInt8 => (n ++ [58, 93]).isPrefixOf r) names[k] = true) := fun e => absurd (Eq.trans h.symm e) (by decide)
  show (names.drop k).find? (fun n => (n ++ [58, 93]).isPrefixOf r) = (names.drop (k + 1)).find? (fun n => (n ++ [58, 93]).isPrefixOf r)
  rw [e]
  exact List.find?_cons_of_neg (p := fun n : List UInt8 => (n ++ [58, 93]).isPrefixOf r) h'
theorem nameFrom_end (r : List UInt8) : nameFrom r 12 = none := rfl
end Gl
/-- A class' name, or nothing. -/
def nmOf (o : Option (List UInt8)) : List UInt8 := o.getD []
set_option maxRecDepth 100000 in
set_option maxHeartbeats 1000000 in
theorem gClassAt (l : List UInt8) (w : World) (hc : CN w) : Calls Tryd.prog 92 #[.string ⟨l.toArray⟩] w fun e w' => e = .returned (.string ⟨(nmOf (Gl.classAt l)).toArray⟩) ∧ w' = w := by
  have HCp := hidA (fun (s p : List UInt8) w => Tryd.strings_CutPrefix ⟨s.toArray⟩ ⟨p.toArray⟩ w)
  have HHp := hidA (fun (s p : List UInt8) w => Tryd.strings_HasPrefix ⟨s.toArray⟩ ⟨p.toArray⟩ w)
  have HC0 : Hid (∀ w, Calls Tryd.prog 83 #[.string ⟨l.toArray⟩, .string ⟨#[91, 58]⟩] w fun e w' => e = .returned (.tuple #[.string ⟨(Lib.trimPrefix l [91, 58]).toArray⟩, .bool (Lib.hasPrefix l [91, 58])]) ∧ w' = w) := fun w => HCp.out l [91, 58] w
  cases hp : Lib.hasPrefix l [91, 58] with
  | false =>
    rw [hp] at HC0
    have HE : Hid (nmOf (Gl.classAt l) = []) := by
      show _ = _
      unfold Gl.classAt
      rw [if_neg (fun h => by have := (Gl.take2 l).1 h; rw [show List.isPrefixOf [91, 58] l = Lib.hasPrefix l [91, 58] from rfl, hp] at this; cases this)]
      rfl
    clear hp hc HCp HHp
    go_enter Tryd.func92, Tryd.ntmps92
    go_wp2_with (go_at_call 83; refine (HC0.out _).mono ?_; rintro e w1 ⟨rfl, hw'⟩; rw [hw']; clear hw' w1)
    go_ret
    exact ⟨by rw [HE.out]; rfl, rfl⟩
  | true =>
    have htr : Lib.trimPrefix l [91, 58] = l.drop 2 := by unfold Lib.trimPrefix; rw [hp]; rfl
    rw [hp, htr] at HC0
    have HE : Hid (Gl.classAt l = Gl.nameFrom (l.drop 2) 0) := by
      show _ = _
      unfold Gl.classAt
      rw [if_pos ((Gl.take2 l).2 hp)]
      rfl
    generalize Gl.classAt l = O at *
    generalize l.drop 2 = r at *
    have d0 := hc 0 (by decide)
    have d1 := hc 1 (by decide)
    have d2 := hc 2 (by decide)
    have d3 := hc 3 (by decide)
    have d4 := hc 4 (by decide)
    have d5 := hc 5 (by decide)
    have d6 := hc 6 (by decide)
    have d7 := hc 7 (by decide)
    have d8 := hc 8 (by decide)
    have d9 := hc 9 (by decide)
    have d10 := hc 10 (by decide)
    have d11 := hc 11 (by decide)
    dsimp only [Gl.names, List.getElem_cons_zero, List.getElem_cons_succ, Gl.nAlnum, Gl.nAlpha, Gl.nBlank, Gl.nCntrl, Gl.nDigit, Gl.nGraph, Gl.nLower, Gl.nPrint, Gl.nPunct, Gl.nSpace, Gl.nUpper, Gl.nXdigit] at d0 d1 d2 d3 d4 d5 d6 d7 d8 d9 d10 d11
    clear hc hp htr
    go_enter Tryd.func92, Tryd.ntmps92
    go_wp2_with (go_at_call 83; refine (HC0.out _).mono ?_; rintro e w1 ⟨rfl, hw'⟩; rw [hw']; clear hw' w1)
    go_loop [17] (fun s17 => ∃ k : Nat, s17 = .int .i64 k ∧ k ≤ 12 ∧ Hid (O = Gl.nameFrom r k)) (fun s17 => 12 - (intOf s17).toNat)
    case atStart => exact ⟨0, rfl, Nat.zero_le _, HE⟩
    case round =>
      obtain ⟨k, rfl, hk, HK⟩ := hrel
      clear HE HC0
      by_cases hlt : k < 12
      · have hix := names_ix k hlt w
        have HY := hidA (Gl.nameFrom_yes (r := r) hlt)
        have HN := hidA (Gl.nameFrom_no (r := r) hlt)
        have HPx : Hid (∀ nk, List.isPrefixOf (nk ++ [58, 93]) r = (Lib.hasPrefix r nk && Lib.hasPrefix (r.drop nk.length) [58, 93])) := fun nk => Gl.pfx_app nk [58, 93] r
        have HC1 : Hid (∀ nk w, Calls Tryd.prog 83 #[.string ⟨r.toArray⟩, .string ⟨nk.toArray⟩] w fun e w' => e = .returned (.tuple #[.string ⟨(Lib.trimPrefix r nk).toArray⟩, .bool (Lib.hasPrefix r nk)]) ∧ w' = w) := fun nk w => HCp.out r nk w
        have HT : Hid (∀ nk, Lib.hasPrefix r nk = true → Lib.trimPrefix r nk = r.drop nk.length) := fun nk h => by unfold Lib.trimPrefix; rw [h]; rfl
        generalize Gl.names[k] = nk at *
        have HC2 := hidA (HC1.out nk)
        cases h1 : Lib.hasPrefix r nk with
        | false =>
          rw [h1] at HC2
          have HN2 : Hid (O = Gl.nameFrom r (k + 1)) := HK.out.trans (HN.out (by rw [HPx.out, h1]; rfl))
          generalize Lib.trimPrefix r nk = tp at *
          clear h1 HCp HHp HC1 HY HN HPx HT
          go_wp2_with (go_at_call 83; go_loud (refine (HC2.out _).mono ?_); rintro e w1 ⟨rfl, hw'⟩; rw [hw']; clear hw' w1)
          exact ⟨⟨k + 1, by first | rfl | go_num, hlt, HN2⟩, by simp [intOf]; omega⟩
        | true =>
          rw [h1, HT.out nk h1] at HC2
          have HH2 : Hid (∀ w, Calls Tryd.prog 78 #[.string ⟨(r.drop nk.length).toArray⟩, .string ⟨#[58, 93]⟩] w fun e w' => e = .returned (.bool (Lib.hasPrefix (r.drop nk.length) [58, 93])) ∧ w' = w) := fun w => HHp.out (r.drop nk.length) [58, 93] w
          cases h2 : Lib.hasPrefix (r.drop nk.length) [58, 93] with
          | false =>
            rw [h2] at HH2
            have HN2 : Hid (O = Gl.nameFrom r (k + 1)) := HK.out.trans (HN.out (by rw [HPx.out, h1, h2]; rfl))
            generalize r.drop nk.length = rd at *
            clear h1 h2 HCp HHp HC1 HY HN HPx HT
            go_wp2_with (first | (go_at_call 83; go_loud (refine (HC2.out _).mono ?_); rintro e w1 ⟨rfl, hw'⟩; rw [hw']; clear hw' w1) | (go_at_call 78; go_loud (refine (HH2.out _).mono ?_); rintro e w1 ⟨rfl, hw'⟩; rw [hw']; clear hw' w1))
            exact ⟨⟨k + 1, by first | rfl | go_num, hlt, HN2⟩, by simp [intOf]; omega⟩
          | true =>
            rw [h2] at HH2
            have HN2 : Hid (nmOf O = nk) := by show _ = _; rw [HK.out, HY.out (by rw [HPx.out, h1, h2]; rfl)]; rfl
            generalize r.drop nk.length = rd at *
            clear h1 h2 HCp HHp HC1 HY HN HPx HT
            go_wp2_with (first | (go_at_call 83; go_loud (refine (HC2.out _).mono ?_); rintro e w1 ⟨rfl, hw'⟩; rw [hw']; clear hw' w1) | (go_at_call 78; go_loud (refine (HH2.out _).mono ?_); rintro e w1 ⟨rfl, hw'⟩; rw [hw']; clear hw' w1))
            go_ret
            exact ⟨by rw [HN2.out]; rfl, rfl⟩
      · obtain rfl : k = 12 := by omega
        have HN2 : Hid (nmOf O = []) := by show _ = _; rw [HK.out, Gl.nameFrom_end]; rfl
        clear HCp HHp
        go_wp2
        go_ret
        exact ⟨by rw [HN2.out]; rfl, rfl⟩
namespace Gl
theorem dash_at {l : List UInt8} {k : Nat} (h : k + 1 < l.length) : dash (l.drop k) = (decide (l[k] = 45) && decide (l[k + 1] ≠ 93)) := by
  rw [List.drop_eq_getElem_cons (by omega), List.drop_eq_getElem_cons h]; rfl
theorem dash_short {l : List UInt8} {k : Nat} (h : ¬ k + 1 < l.length) : dash (l.drop k) = false := by
  have : (l.drop k).length ≤ 1 := by rw [List.length_drop]; omega
  match hd : l.drop k with
  | [] => rfl
  | [_] => rfl
  | _ :: _ :: _ => rw [hd] at this; simp at this
end Gl
set_option maxHeartbeats 1000000 in
theorem gDash (rb : Nat) (l : List UInt8) (k : Nat) (hl : l.length ≤ 2 ^ 47) (hk : k ≤ l.length) (w : World) (h0 : w.cell? ⟨rb, 0, none⟩ = some (.string ⟨l.toArray⟩)) : Calls Tryd.prog 94 #[.pointer (some ⟨rb, 0, none⟩), .int .i64 k] w fun e w' => e = .returned (.bool (Gl.dash (l.drop k))) ∧ w' = w := by
  have hs : (⟨l.toArray⟩ : ByteArray).size = l.length := str_size l
  have hw1 : IntKind.i64.wrap ((k : Int) + 1) = ((k + 1 : Nat) : Int) := by rw [IntKind.wrap_i64]; omega
  by_cases hlt : k + 1 < l.length
  · have hlt' : decide (((k + 1 : Nat) : Int) < (l.length : Int)) = true := by simp; omega
    have HE := hidA (Gl.dash_at hlt)
    by_cases c1 : l[k] = 45
    · have hc1 := byte_yes _ 45 45 rfl c1
      rw [decide_eq_true c1, Bool.true_and] at HE
      clear c1
      by_cases c2 : l[k + 1] = 93
      · have hc2 := byte_yes _ 93 93 rfl c2
        have hc3 : (((l[k + 1].toNat : Int)) != 93) = false := by simp [bne, hc2]
        rw [decide_eq_false (fun h => h c2)] at HE
        clear c2
        go_enter Tryd.func94, Tryd.ntmps94
        go_wp2
        go_ret
        exact ⟨by rw [HE.out]; rfl, rfl⟩
      · have hc2 := byte_no _ 93 93 rfl c2
        have hc3 : (((l[k + 1].toNat : Int)) != 93) = true := by simp [bne, hc2]
        rw [decide_eq_true c2] at HE
        clear c2
        go_enter Tryd.func94, Tryd.ntmps94
        go_wp2
        go_ret
        exact ⟨by rw [HE.out]; rfl, rfl⟩
    · have hc1 := byte_no _ 45 45 rfl c1
      rw [decide_eq_false c1, Bool.false_and] at HE
      clear c1
      go_enter Tryd.func94, Tryd.ntmps94
      go_wp2
      go_ret
      exact ⟨by rw [HE.out]; rfl, rfl⟩
  · have hlt' : decide (((k + 1 : Nat) : Int) < (l.length : Int)) = false := by simp; omega
    have HE := hidA (Gl.dash_short hlt)
    go_enter Tryd.func94, Tryd.ntmps94
    go_wp2
    go_ret
    exact ⟨by rw [HE.out]; rfl, rfl⟩
end Go.Proofs.YtncnmeidciailaaDoor
