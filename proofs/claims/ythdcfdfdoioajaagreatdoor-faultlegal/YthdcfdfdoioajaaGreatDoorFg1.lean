/- The walks of the program's Legal: the library's Index and Contains of texts, among, failing. Conditions: the tables; a list that is there. Seat of FaultLegal. -/
import Derived.Test.YthdcfdfdoioajaaGreatDoorBa0
import Derived.Test.YthdcfdfdoioajaaGreatDoorFgF
namespace Go.Proofs.YthdcfdfdoioajaaGreatDoor
open Go.RowKit
open Ev (StrS)
attribute [local go_sem] ext_eq app_eq get_eq
theorem take_noS (xs : List (List UInt8)) (k : Nat) (g : List UInt8) (h : k < xs.length) (hb : g ∉ xs.take k) (hg : ¬ g = xs[k]) : g ∉ xs.take (k + 1) := by
  rw [List.take_succ_eq_append_getElem h]
  simp only [List.mem_append, List.mem_singleton, not_or]
  exact ⟨hb, hg⟩
set_option maxRecDepth 100000 in
set_option maxHeartbeats 1000000 in
theorem gIndexS (a : Option Addr) (c : Nat) (xs : List (List UInt8)) (s : List UInt8) (w : World) (hI : StrS w a xs) (hn : xs.length ≤ 2 ^ 60) :
    Calls Tryz.prog 33 #[.slice a xs.length c, .string ⟨s.toArray⟩] w fun e w' => ∃ r : Int, e = .returned (.int .i64 r) ∧ Hid (0 ≤ r ↔ s ∈ xs) ∧ w' = w := by
  have HI : Hid (StrS w a xs) := hI
  clear hI
  go_enter Tryz.func33, Tryz.ntmps33
  go_wp2
  go_loop [8] (fun t => ∃ k : Nat, k ≤ xs.length ∧ t = .int .i64 k ∧ Hid (s ∉ xs.take k)) (fun t => xs.length - (intOf t).toNat)
  case atStart => exact ⟨0, by omega, rfl, by show s ∉ _; simp⟩
  case round =>
    obtain ⟨k, hk, rfl, hb⟩ := hrel
    by_cases hlt : k < xs.length
    · have hw1 : IntKind.i64.wrap ((k : Int) + 1) = ((k + 1 : Nat) : Int) := by rw [IntKind.wrap_i64]; omega
      obtain ⟨bk, o, rfl, -, hc⟩ := HI.out k hlt
      by_cases he : s = xs[k]
      · have he' : (s == xs[k]) = true := by simpa using he
        have HM : Hid (s ∈ xs) := by show s ∈ xs; rw [he]; exact List.getElem_mem hlt
        clear he HI hb
        generalize xs[k] = x at *
        go_wp2
        go_ret
        exact ⟨_, rfl, (iff_of_true (Int.natCast_nonneg k) HM.out : _ ↔ _), rfl⟩
      · have he' : (s == xs[k]) = false := by simpa using he
        have HN : Hid (s ∉ xs.take (k + 1)) := take_noS xs k s hlt hb.out he
        clear he HI hb
        generalize xs[k] = x at *
        go_wp2
        exact ⟨⟨k + 1, by omega, by first | rfl | go_num, HN⟩, by simp [intOf]; omega⟩
    · go_wp2
      go_ret
      refine ⟨_, rfl, ?_, rfl⟩
      have := hb.out
      rw [List.take_of_length_le (by omega)] at this
      show (0 : Int) ≤ -1 ↔ s ∈ xs
      exact ⟨fun h => absurd h (by decide), fun h => absurd h this⟩
set_option maxRecDepth 100000 in
set_option maxHeartbeats 1000000 in
theorem gContainsS (a : Option Addr) (c : Nat) (xs : List (List UInt8)) (s : List UInt8) (w : World) (hI : StrS w a xs) (hn : xs.length ≤ 2 ^ 60) :
    Calls Tryz.prog 17 #[.slice a xs.length c, .string ⟨s.toArray⟩] w fun e w' => e = .returned (.bool (decide (s ∈ xs))) ∧ w' = w := by
  go_enter Tryz.func17, Tryz.ntmps17
  go_wp2_with fail
  refine (gIndexS a c xs s w hI hn).mono ?_
  rintro e w' ⟨r, rfl, hr, rfl⟩
  go_wp2
  go_ret
  exact ⟨ret_bool (by rw [Bool.eq_iff_iff]; simpa using hr.out), rfl⟩
theorem fl_len (e : Int) : (Fg.fl e).length ≤ 2 ^ 60 := by
  unfold Fg.fl
  repeat' split
  all_goals decide +kernel
set_option maxRecDepth 100000 in
set_option maxHeartbeats 1000000 in
theorem gAmong (e : Int) (s : List UInt8) (w : World) (h : Tb0 w) : Calls Tryz.prog 8 #[.string ⟨(Fg.tx e).toArray⟩, .string ⟨s.toArray⟩] w fun r w' => r = .returned (.bool (decide (s ∈ Fg.fl e))) ∧ Below w.heap.size w w' := by
  have HF := hidA (fields_of e w h)
  have HL := hidA (fl_len e)
  clear h
  generalize Fg.tx e = t at *
  generalize Fg.fl e = l at *
  go_enter Tryz.func8, Tryz.ntmps8
  go_wp2_with (first | (go_at_call 18; refine HF.out.mono ?_; rintro e w1 ⟨a, c, rfl, h1, b1⟩; (have H1 := hidA h1); (have B1 := hidA b1); clear h1 b1) | (go_at_call 17; refine (gContainsS _ _ _ _ _ H1.out HL.out).mono ?_; rintro e w2 ⟨rfl, hw2⟩; rw [hw2]; clear hw2 w2))
  go_ret
  exact ⟨rfl, B1.out⟩
theorem tx_at (e : Int) : Fg.tx e = if e = 5 then Fg.t5 else if e = 4 then Fg.t4 else if e = 28 then Fg.t28 else if e = 24 then Fg.t24 else if e = 13 then Fg.t13 else if e = 30 then Fg.t30 else if e = 1 then Fg.t1 else if e = 16 then Fg.t16 else if e = 27 then Fg.t27 else if e = 31 then Fg.t31 else [] := rfl
set_option maxRecDepth 100000 in
set_option maxHeartbeats 2000000 in
theorem gFailing (e : Int) (w : World) : Calls Tryz.prog 9 #[.int .i64 e] w fun r w' => r = .returned (.string ⟨(Fg.tx e).toArray⟩) ∧ w' = w := by
  by_cases h5 : e = 5
  · subst h5
    go_enter Tryz.func9, Tryz.ntmps9
    go_wp2
    go_ret
    exact ⟨rfl, rfl⟩
  have e5 : (e == 5) = false := by simpa using h5
  by_cases h4 : e = 4
  · subst h4
    go_enter Tryz.func9, Tryz.ntmps9
    go_wp2
    go_ret
    exact ⟨rfl, rfl⟩
  have e4 : (e == 4) = false := by simpa using h4
  by_cases h28 : e = 28
  · subst h28
    go_enter Tryz.func9, Tryz.ntmps9
    go_wp2
    go_ret
    exact ⟨rfl, rfl⟩
  have e28 : (e == 28) = false := by simpa using h28
  by_cases h24 : e = 24
  · subst h24
    go_enter Tryz.func9, Tryz.ntmps9
    go_wp2
    go_ret
    exact ⟨rfl, rfl⟩
  have e24 : (e == 24) = false := by simpa using h24
  by_cases h13 : e = 13
  · subst h13
    go_enter Tryz.func9, Tryz.ntmps9
    go_wp2
    go_ret
    exact ⟨rfl, rfl⟩
  have e13 : (e == 13) = false := by simpa using h13
  by_cases h30 : e = 30
  · subst h30
    go_enter Tryz.func9, Tryz.ntmps9
    go_wp2
    go_ret
    exact ⟨rfl, rfl⟩
  have e30 : (e == 30) = false := by simpa using h30
  by_cases h1 : e = 1
  · subst h1
    go_enter Tryz.func9, Tryz.ntmps9
    go_wp2
    go_ret
    exact ⟨rfl, rfl⟩
  have e1 : (e == 1) = false := by simpa using h1
  by_cases h16 : e = 16
  · subst h16
    go_enter Tryz.func9, Tryz.ntmps9
    go_wp2
    go_ret
    exact ⟨rfl, rfl⟩
  have e16 : (e == 16) = false := by simpa using h16
  by_cases h27 : e = 27
  · subst h27
    go_enter Tryz.func9, Tryz.ntmps9
    go_wp2
    go_ret
    exact ⟨rfl, rfl⟩
  have e27 : (e == 27) = false := by simpa using h27
  by_cases h31 : e = 31
  · subst h31
    go_enter Tryz.func9, Tryz.ntmps9
    go_wp2
    go_ret
    exact ⟨rfl, rfl⟩
  have e31 : (e == 31) = false := by simpa using h31
  have ht : Fg.tx e = [] := by rw [tx_at, if_neg h5, if_neg h4, if_neg h28, if_neg h24, if_neg h13, if_neg h30, if_neg h1, if_neg h16, if_neg h27, if_neg h31]
  rw [ht]
  clear h5 h4 h28 h24 h13 h30 h1 h16 h27 h31
  go_enter Tryz.func9, Tryz.ntmps9
  go_wp2
  go_ret
  exact ⟨rfl, rfl⟩
set_option maxRecDepth 100000 in
set_option maxHeartbeats 1000000 in
theorem gLegal (s : List UInt8) (e : Int) (w : World) (h : Tb0 w) : Calls Tryz.prog 5 #[.string ⟨s.toArray⟩, .int .i64 e] w fun r w' => r = .returned (.bool (decide (s ∈ Fg.fl e))) ∧ Below w.heap.size w w' := by
  have HA := hidA (gAmong e s w h)
  have HF := hidA (gFailing e w)
  clear h
  generalize Fg.tx e = t at *
  generalize Fg.fl e = l at *
  go_enter Tryz.func5, Tryz.ntmps5
  go_wp2_with (first | (go_at_call 9; refine HF.out.mono ?_; rintro e w1 ⟨rfl, hw1⟩; rw [hw1]; clear hw1 w1) | (go_at_call 8; refine HA.out.mono ?_; rintro e w2 ⟨rfl, b2⟩))
  go_ret
  exact ⟨rfl, b2⟩
end Go.Proofs.YthdcfdfdoioajaaGreatDoor
