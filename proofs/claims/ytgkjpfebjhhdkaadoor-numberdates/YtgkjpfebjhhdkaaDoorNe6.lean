/- Dates: the plain answer's value of two and four digits, days as Date asks it. No condition. -/
import Derived.Test.YtgkjpfebjhhdkaaDoorNe3
import Derived.Test.YtgkjpfebjhhdkaaDoorNe5
import Derived.Test.YtgkjpfebjhhdkaaDoorNb1
namespace Go.Proofs.YtgkjpfebjhhdkaaDoor
open Go.RowKit
theorem dig_rng {c : UInt8} (h : Na.dig 10 c = true) : 48 ≤ (c.toNat : Int) ∧ (c.toNat : Int) ≤ 57 := by
  unfold Na.dig at h
  simp at h
  omega
theorem rVal2 (a b : UInt8) (ha : Na.dig 10 a = true) (hb : Na.dig 10 b = true) (w : World) : Calls Tryd.prog 38 #[.string ⟨#[a, b]⟩, .int .i64 10, .int .i64 99] w fun e w' => e = .returned (.tuple #[.int .i64 (Na.tw [a, b]), .bool true]) ∧ w' = w := by
  have h := rValue 10 99 (by decide) (by decide) [a, b] (by simp [ha, hb]) w (by simp)
  have e : Na.vl 10 99 0 [a, b] = some (Na.tw [a, b]) := by
    have := dig_rng ha; have := dig_rng hb
    simp only [Na.vl, Na.tw]
    rw [if_neg (by omega), if_neg (by omega)]
    congr 1
    omega
  rw [e] at h
  exact h
theorem rVal4 (a b c d : UInt8) (ha : Na.dig 10 a = true) (hb : Na.dig 10 b = true) (hc : Na.dig 10 c = true) (hd : Na.dig 10 d = true) (w : World) : Calls Tryd.prog 38 #[.string ⟨#[a, b, c, d]⟩, .int .i64 10, .int .i64 9999] w fun e w' => e = .returned (.tuple #[.int .i64 (100 * Na.tw [a, b] + Na.tw [c, d]), .bool true]) ∧ w' = w := by
  have h := rValue 10 9999 (by decide) (by decide) [a, b, c, d] (by simp [ha, hb, hc, hd]) w (by simp)
  have e : Na.vl 10 9999 0 [a, b, c, d] = some (100 * Na.tw [a, b] + Na.tw [c, d]) := by
    have := dig_rng ha; have := dig_rng hb; have := dig_rng hc; have := dig_rng hd
    simp only [Na.vl, Na.tw]
    rw [if_neg (by omega), if_neg (by omega), if_neg (by omega), if_neg (by omega)]
    congr 1
    omega
  rw [e] at h
  exact h
end Go.Proofs.YtgkjpfebjhhdkaaDoor
