/- An int that was handed in lies in its range. -/
import Derived.Test.YtgkjpfebjhhdkaaDoorNlB
namespace Go.Proofs.YtgkjpfebjhhdkaaDoor
theorem i64_range {x : Int} (h : (Lit.int .i64 x).wf = true) : -9223372036854775808 ≤ x ∧ x ≤ 9223372036854775807 := by
  simp only [Lit.wf, Bool.and_eq_true, decide_eq_true_eq] at h
  exact ⟨h.1, h.2⟩
end Go.Proofs.YtgkjpfebjhhdkaaDoor
