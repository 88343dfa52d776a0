/- The letters of a clause: whose, bits, forAll, isDigit, giveUp of the program; what they stand for. No condition. -/
import Derived.Test.YtmminmdmhefefaaPm3
namespace Go.Proofs.Ytmminmdmhefefaa
open Go.RowKit
namespace Pm
/-- What a text that is none is given up by. -/
def EI : List PanicEntry := [{ v := .iface 23 (.int .i64 22), recovered := false }]
structure Rd where
  now : Int
  mx : Int
  un : Int
  who : Int
  sign : Int
  what : Int
  bare : Bool
  closed : Bool
def Rd.row (r : Rd) : Array Value := #[.int .i64 r.now, .int .i64 r.mx, .int .i64 r.un, .int .i64 r.who, .int .i32 r.sign, .int .i64 r.what, .bool r.bare, .bool r.closed]
def whoseB (c : Int) : Option Int := if c = 117 then some 2496 else if c = 103 then some 1080 else if c = 111 then some 519 else if c = 97 then some 4095 else none
def fa (x : Int) : Int := bits .and .i64 x 7 * 73
theorem and7 (x : Int) : 0 ≤ bits .and .i64 x 7 ∧ bits .and .i64 x 7 < 8 := by
  have h := and_mask x 3 (by decide)
  simp only [Nat.reducePow] at h
  rw [show ((8 - 1 : Nat) : Int) = 7 by rfl] at h
  rw [h]; omega
def bitsB (now mx c : Int) : Option Int :=
  if c = 114 then some 292 else if c = 119 then some 146 else if c = 120 then some 73 else if c = 88 then some mx else if c = 115 then some 3072 else if c = 116 then some 512
  else if c = 117 then some (fa (now / 64)) else if c = 103 then some (fa (now / 8)) else if c = 111 then some (fa now) else none
def aloneB (c : Int) : Bool := c == 117 || c == 103 || c == 111
def whoB (r : Rd) : Int := if r.who = 0 then r.un else r.who
def nowB (r : Rd) : Int :=
  if r.sign = 43 then bits .or .i64 r.now (bits .and .i64 r.what (whoB r))
  else if r.sign = 45 then bits .andNot .i64 r.now (bits .and .i64 r.what (whoB r))
  else if r.sign = 61 then bits .or .i64 (bits .andNot .i64 r.now (whoB r)) (bits .and .i64 r.what (whoB r))
  else r.now
def letterB (r : Rd) (c : Int) : Option Rd :=
  if r.closed || (aloneB c && !r.bare) then none else (bitsB r.now r.mx c).map fun b => { r with what := bits .or .i64 r.what b, bare := false, closed := aloneB c }
def takeB (r : Rd) (c : Int) : Option Rd :=
  if c = 43 ∨ c = 45 ∨ c = 61 then some { r with now := nowB r, sign := c, what := 0, bare := true, closed := false }
  else if r.sign = 0 then (whoseB c).map fun x => { r with who := bits .or .i64 r.who x }
  else if c = 44 then some { r with now := nowB r, who := 0, sign := 0 }
  else letterB r c
end Pm
set_option maxRecDepth 100000 in
theorem pGive (w : World) : Calls Try.prog 38 #[] w fun e w' => e = .panicked Pm.EI ∧ w' = w := by
  go_enter Try.func38, Try.ntmps38
  go_wp2
  exact ⟨rfl, rfl, rfl⟩
set_option maxRecDepth 100000 in
set_option maxHeartbeats 1000000 in
theorem pDigit (c : Int) (w : World) : Calls Try.prog 31 #[.int .i32 c] w fun e w' => e = .returned (.bool (decide (48 ≤ c) && decide (c ≤ 55))) ∧ w' = w := by
  by_cases h1 : 48 ≤ c <;> by_cases h2 : c ≤ 55
  all_goals
    have HE : Hid ((decide (48 ≤ c) && decide (c ≤ 55)) = (decide (48 ≤ c) && decide (c ≤ 55))) := rfl
    go_enter Try.func31, Try.ntmps31
    go_wp2
    go_ret
    exact ⟨ret_bool (by simp [h1, h2]), rfl⟩
set_option maxRecDepth 100000 in
set_option maxHeartbeats 1000000 in
theorem pWhose (c x : Int) (hx : Pm.whoseB c = some x) (w : World) : Calls Try.prog 46 #[.int .i32 c] w fun e w' => e = .returned (.int .i64 x) ∧ w' = w := by
  have hc : (c = 117 ∧ x = 2496) ∨ (c = 103 ∧ x = 1080) ∨ (c = 111 ∧ x = 519) ∨ (c = 97 ∧ x = 4095) := by
    unfold Pm.whoseB at hx
    repeat' split at hx
    all_goals simp at hx
    all_goals omega
  clear hx
  rcases hc with ⟨rfl, rfl⟩ | ⟨rfl, rfl⟩ | ⟨rfl, rfl⟩ | ⟨rfl, rfl⟩
  all_goals
    go_enter Try.func46, Try.ntmps46
    go_wp2
    go_ret
    exact ⟨rfl, rfl⟩
set_option maxRecDepth 100000 in
set_option maxHeartbeats 1000000 in
theorem pWhose_no (c : Int) (hx : Pm.whoseB c = none) (w : World) : Calls Try.prog 46 #[.int .i32 c] w fun e w' => e = .panicked Pm.EI ∧ w' = w := by
  have hc : ¬ c = 117 ∧ ¬ c = 103 ∧ ¬ c = 111 ∧ ¬ c = 97 := by
    unfold Pm.whoseB at hx
    repeat' split at hx
    all_goals simp_all
  clear hx
  obtain ⟨h1, h2, h3, h4⟩ := hc
  have k1 : (c == 117) = false := by simpa using h1
  have k2 : (c == 103) = false := by simpa using h2
  have k3 : (c == 111) = false := by simpa using h3
  have k4 : (c == 97) = false := by simpa using h4
  clear h1 h2 h3 h4
  go_enter Try.func46, Try.ntmps46
  go_wp2_with fail
  refine (pGive _).mono ?_
  rintro e w' ⟨rfl, rfl⟩
  go_wp2
  exact ⟨rfl, rfl, rfl⟩
set_option maxRecDepth 100000 in
set_option maxHeartbeats 1000000 in
theorem pForAll (x : Int) (w : World) : Calls Try.prog 49 #[.int .i64 x] w fun e w' => e = .returned (.int .i64 (Pm.fa x)) ∧ w' = w := by
  obtain ⟨h0, h1⟩ := Pm.and7 x
  have HF : Hid (Pm.fa x = bits .and .i64 x 7 * 73) := rfl
  go_enter Try.func49, Try.ntmps49
  go_wp2
  go_ret
  exact ⟨ret_int (by rw [HF.out]; first | done | omega), rfl⟩
end Go.Proofs.Ytmminmdmhefefaa
