/- Dates: the plain model; leapDays, yearBegin, monthBegin. Condition: the table of days reads as its text lays it. -/
import Derived.Test.YtgkjpfebjhhdkaaDoorNh1
namespace Go.Proofs.YtgkjpfebjhhdkaaDoor
open Go.RowKit
namespace Na
def leapB (y : Int) : Bool := (decide (y % 4 = 0) && decide (y % 100 ≠ 0)) || decide (y % 400 = 0)
def leapN (y : Int) : Nat := if leapB y then 1 else 0
/-- The days from the first one of the year 0 to that of a year. -/
def yb (y : Int) : Int := 365 * y + (y + 3) / 4 - (y + 99) / 100 + (y + 399) / 400
def daTab : List Int := [0, 31, 59, 90, 120, 151, 181, 212, 243, 273, 304, 334, 365, 0, 31, 60, 91, 121, 152, 182, 213, 244, 274, 305, 335, 366]
/-- The days of a year ahead of month j + 1. -/
def mb (y : Int) (j : Nat) : Int := daTab.getD (leapN y * 13 + j) 0
end Na
/-- The table of days. -/
abbrev DT (w : World) : Prop := Lib.TabIs Tryd.prog w "tinsel/number.daysAhead" .i64 Na.daTab
theorem DT.on {w w' : World} (h : DT w) (b : Below w.heap.size w w') : DT w' := Lib.tabBelow_of_tabIs h w' b
set_option maxHeartbeats 1000000 in
theorem nLeapDays (y : Int) (h0 : 0 ≤ y) (w : World) : Calls Tryd.prog 86 #[.int .i64 y] w fun e w' => e = .returned (.int .i64 (Na.leapN y)) ∧ w' = w := by
  have e4 : y.tmod 4 = y % 4 := Int.tmod_eq_emod_of_nonneg h0
  have e100 : y.tmod 100 = y % 100 := Int.tmod_eq_emod_of_nonneg h0
  have e400 : y.tmod 400 = y % 400 := Int.tmod_eq_emod_of_nonneg h0
  have HE : Hid (Na.leapN y = if (decide (y % 4 = 0) && decide (y % 100 ≠ 0)) || decide (y % 400 = 0) then 1 else 0) := rfl
  have r4 : 0 ≤ y % 4 ∧ y % 4 < 4 := by omega
  have r100 : 0 ≤ y % 100 ∧ y % 100 < 100 := by omega
  have r400 : 0 ≤ y % 400 ∧ y % 400 < 400 := by omega
  generalize y % 4 = a at *
  generalize y % 100 = b at *
  generalize y % 400 = c at *
  by_cases ha : a = 0 <;> by_cases hb : b = 0 <;> by_cases hc : c = 0
  all_goals
    have ka : (a == 0) = decide (a = 0) := rfl
    have kb : (b != 0) = !decide (b = 0) := rfl
    have kc : (c == 0) = decide (c = 0) := rfl
    simp only [ha, hb, hc, decide_true, decide_false, Bool.not_true, Bool.not_false, ne_eq, not_true_eq_false, not_false_eq_true, Bool.and_true, Bool.and_false, Bool.or_true, Bool.or_false, if_true, Bool.false_eq_true, if_false] at ka kb kc HE
    go_enter Tryd.func86, Tryd.ntmps86
    go_wp2
    go_ret
    exact ⟨by rw [HE.out]; rfl, rfl⟩
set_option maxHeartbeats 1000000 in
theorem nYearBegin (y : Int) (h0 : 0 ≤ y) (h1 : y ≤ 100000) (w : World) : Calls Tryd.prog 74 #[.int .i64 y] w fun e w' => e = .returned (.int .i64 (Na.yb y)) ∧ w' = w := by
  have e4 : (y + 3).tdiv 4 = (y + 3) / 4 := Int.tdiv_eq_ediv_of_nonneg (by omega)
  have e100 : (y + 99).tdiv 100 = (y + 99) / 100 := Int.tdiv_eq_ediv_of_nonneg (by omega)
  have e400 : (y + 399).tdiv 400 = (y + 399) / 400 := Int.tdiv_eq_ediv_of_nonneg (by omega)
  have HE : Hid (Na.yb y = 365 * y + (y + 3) / 4 - (y + 99) / 100 + (y + 399) / 400) := rfl
  have r4 : 0 ≤ (y + 3) / 4 ∧ (y + 3) / 4 ≤ 100000 := by omega
  have r100 : 0 ≤ (y + 99) / 100 ∧ (y + 99) / 100 ≤ 100000 := by omega
  have r400 : 0 ≤ (y + 399) / 400 ∧ (y + 399) / 400 ≤ 100000 := by omega
  obtain ⟨p1, p2⟩ := r4
  obtain ⟨q1, q2⟩ := r100
  obtain ⟨s1, s2⟩ := r400
  generalize (y + 3) / 4 = a at *
  generalize (y + 99) / 100 = b at *
  generalize (y + 399) / 400 = c at *
  go_enter Tryd.func74, Tryd.ntmps74
  go_wp2
  go_ret
  exact ⟨by rw [HE.out]; rfl, rfl⟩
theorem leapN_le (y : Int) : Na.leapN y ≤ 1 := by unfold Na.leapN; split <;> omega
set_option maxHeartbeats 1000000 in
theorem nMonthBegin (y : Int) (h0 : 0 ≤ y) (j : Nat) (hj : j < 13) (w : World) (hd : DT w) : Calls Tryd.prog 73 #[.int .i64 y, .int .i64 ((j : Int) + 1)] w fun e w' => e = .returned (.int .i64 (Na.mb y j)) ∧ w' = w := by
  have HL := hidA (nLeapDays y h0 w)
  have hl := leapN_le y
  have HC : Hid (∀ L : Nat, L ≤ 1 → w.cell? ⟨0, L * 13 + j, none⟩ = some (.int .i64 (Na.daTab.getD (L * 13 + j) 0))) := fun L hL => hd.cell (g := 0) (by kernel_rfl) (L * 13 + j) (by show L * 13 + j < 26; omega)
  have HE : Hid (Na.mb y j = Na.daTab.getD (Na.leapN y * 13 + j) 0) := rfl
  generalize Na.leapN y = L at *
  have hc := HC.out L hl
  generalize Na.daTab.getD (L * 13 + j) 0 = v at *
  clear hd HC
  have hw : IntKind.i64.wrap ((j : Int) + 1 - 1) = (j : Int) := by rw [IntKind.wrap_i64]; omega
  go_enter Tryd.func73, Tryd.ntmps73
  go_wp2_with (go_at_call 86; refine HL.out.mono ?_; rintro e w1 ⟨rfl, rfl⟩)
  go_ret
  exact ⟨by rw [HE.out]; rfl, rfl⟩
end Go.Proofs.YtgkjpfebjhhdkaaDoor
