/- The library's Fields at the lists of calls: the words, told by the evaluator. Condition: the tables. Seat of FaultLegal. -/
import Derived.Test.YthdcfdfdoioajaaGreatDoorFgN
import Derived.Test.YthdcfdfdoioajaaGreatDoorFg0
namespace Go.Proofs.YthdcfdfdoioajaaGreatDoor
open Ev
open Go.RowKit
/-- A memory that has the tables. -/
def Tb0 (W : World) : Prop := St 5 (fun _ => True) rho0 h0 W
theorem Tb0.grow {W W' : World} (h : Tb0 W) (hB : Below W.heap.size W W') : Tb0 W' := St.grow h hB
theorem tabs_lt : ∀ x o, h0.tr.get x = some o → x < 5 := fun x o h => (h0_tabs x o h).1
theorem far0 : ∀ x, h0.next ≤ x → rho0 x = none := fun x hx => by
  have hx' : 15 ≤ x := hx
  unfold rho0
  rw [if_neg (by omega)]
theorem run5 : callA Tryz.prog x0 5 hint 100000 18 [.str Fg.t5] h0 (tellsStrs Fg.l5) = .ok := by kernel_rfl
theorem run4 : callA Tryz.prog x0 5 hint 100000 18 [.str Fg.t4] h0 (tellsStrs Fg.l4) = .ok := by kernel_rfl
theorem run28 : callA Tryz.prog x0 5 hint 100000 18 [.str Fg.t28] h0 (tellsStrs Fg.l28) = .ok := by kernel_rfl
theorem run24 : callA Tryz.prog x0 5 hint 100000 18 [.str Fg.t24] h0 (tellsStrs Fg.l24) = .ok := by kernel_rfl
theorem run13 : callA Tryz.prog x0 5 hint 100000 18 [.str Fg.t13] h0 (tellsStrs Fg.l13) = .ok := by kernel_rfl
theorem run30 : callA Tryz.prog x0 5 hint 100000 18 [.str Fg.t30] h0 (tellsStrs Fg.l30) = .ok := by kernel_rfl
theorem run1 : callA Tryz.prog x0 5 hint 100000 18 [.str Fg.t1] h0 (tellsStrs Fg.l1) = .ok := by kernel_rfl
theorem run16 : callA Tryz.prog x0 5 hint 100000 18 [.str Fg.t16] h0 (tellsStrs Fg.l16) = .ok := by kernel_rfl
theorem run27 : callA Tryz.prog x0 5 hint 100000 18 [.str Fg.t27] h0 (tellsStrs Fg.l27) = .ok := by kernel_rfl
theorem run31 : callA Tryz.prog x0 5 hint 100000 18 [.str Fg.t31] h0 (tellsStrs Fg.l31) = .ok := by kernel_rfl
theorem runNo : callA Tryz.prog x0 5 hint 100000 18 [.str []] h0 (tellsStrs []) = .ok := by kernel_rfl
theorem runNames : callA Tryz.prog x0 5 hint 100000 4 [] h0 (tellsStrs Fg.names) = .ok := by kernel_rfl
theorem fields_at {t : List UInt8} {L : List (List UInt8)} (hr : callA Tryz.prog x0 5 hint 100000 18 [.str t] h0 (tellsStrs L) = .ok) (W : World) (h : Tb0 W) : Calls Tryz.prog 18 #[.string ⟨t.toArray⟩] W fun e w' => ∃ a c, e = .returned (.slice a L.length c) ∧ StrS w' a L ∧ Below W.heap.size W w' :=
  strs_of_run x0_ok Tryz.checked.mixed hr tabs_lt (by show 5 ≤ 15; omega) far0 h ⟨_, _, rfl, rfl, rfl⟩
theorem names_of (W : World) (h : Tb0 W) : Calls Tryz.prog 4 #[] W fun e w' => ∃ a c, e = .returned (.slice a Fg.names.length c) ∧ StrS w' a Fg.names ∧ Below W.heap.size W w' :=
  strs_of_run x0_ok Tryz.checked.mixed runNames tabs_lt (by show 5 ≤ 15; omega) far0 h rfl
theorem fields_of (e : Int) (W : World) (h : Tb0 W) : Calls Tryz.prog 18 #[.string ⟨(Fg.tx e).toArray⟩] W fun r w' => ∃ a c, r = .returned (.slice a (Fg.fl e).length c) ∧ StrS w' a (Fg.fl e) ∧ Below W.heap.size W w' := by
  by_cases h5 : e = 5
  · subst h5; exact fields_at run5 W h
  by_cases h4 : e = 4
  · subst h4; exact fields_at run4 W h
  by_cases h28 : e = 28
  · subst h28; exact fields_at run28 W h
  by_cases h24 : e = 24
  · subst h24; exact fields_at run24 W h
  by_cases h13 : e = 13
  · subst h13; exact fields_at run13 W h
  by_cases h30 : e = 30
  · subst h30; exact fields_at run30 W h
  by_cases h1 : e = 1
  · subst h1; exact fields_at run1 W h
  by_cases h16 : e = 16
  · subst h16; exact fields_at run16 W h
  by_cases h27 : e = 27
  · subst h27; exact fields_at run27 W h
  by_cases h31 : e = 31
  · subst h31; exact fields_at run31 W h
  have e1 : Fg.tx e = [] := by unfold Fg.tx; rw [if_neg h5, if_neg h4, if_neg h28, if_neg h24, if_neg h13, if_neg h30, if_neg h1, if_neg h16, if_neg h27, if_neg h31]
  have e2 : Fg.fl e = [] := by unfold Fg.fl; rw [if_neg h5, if_neg h4, if_neg h28, if_neg h24, if_neg h13, if_neg h30, if_neg h1, if_neg h16, if_neg h27, if_neg h31]
  rw [e1, e2]
  exact fields_at runNo W h
theorem awake_of (W : World) (h : Tb0 W) : Calls Tryz.prog 7 #[] W fun e w' => e = .returned (.bool true) ∧ Below W.heap.size W w' := by
  obtain ⟨v, H', rd', wr', h1, h2⟩ := callA_ok x7_ok Tryz.checked.mixed awRun
  obtain ⟨h3, _⟩ := iff_o h1
  obtain rfl := (eqV_ok 9 _ _ h3).symm
  refine (h2 rho0 W #[] rfl h far0 (by show 5 ≤ 15; omega)).mono ?_
  rintro e w' ⟨r, ρ', rfl, a1, a2⟩
  exact ⟨by rw [show r = .bool true from a1], goes_below tabs_lt a2⟩
end Go.Proofs.YthdcfdfdoioajaaGreatDoor
