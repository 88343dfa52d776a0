/- Head and Tail of the plain answer. Condition: a length that fits. -/
import Derived.Test.YtplnojohlbbalaaUb8
namespace Go.Proofs.Ytplnojohlbbalaa
open Go.RowKit
attribute [local go_sem] ext_eq app_eq get_eq
theorem htRR : Try.prog.underlying 23 = some (.slice (Try.prog.elem 23)) := by kernel_rfl
theorem szRR (W : World) : (sizeOf (Try.prog.elem 23)).run Try.prog W = .ok 1 W := by
  have e : Try.prog.elem 23 = 22 := by kernel_rfl
  rw [e]
  simp [sizeOf, go_sem]
  rfl
theorem rr_to (a : Option Addr) {n c k : Nat} (hk : k ≤ n) (hc : n ≤ c) (W : World) : (Instr.slice 23 (.slice a n c) none (some (.int .i64 k)) none).run Try.prog W = .ok (.slice a k c) W := by
  rw [run_slice_h (P := Try.prog) (w := W) 23 a n c htRR .i64 k (by omega) (by omega), szRR]
  cases a <;> simp [Result.andThen, sliced, Addr.add]
theorem rr_from (a : Option Addr) {n c i : Nat} (hi : i ≤ n) (_ : n ≤ c) (W : World) : (Instr.slice 23 (.slice a n c) (some (.int .i64 i)) none none).run Try.prog W = .ok (.slice (if c = i then a else a.map (·.add (i * 1))) (n - i) (c - i)) W := by
  rw [run_slice_l (P := Try.prog) (w := W) 23 a n c htRR .i64 i (by omega) (by omega), szRR]
  simp [Result.andThen, sliced]
theorem Tl.ps_flat (l : List UInt8) : (Tl.ps l).flatten = l := Tl.flat_all l
end Go.Proofs.Ytplnojohlbbalaa
