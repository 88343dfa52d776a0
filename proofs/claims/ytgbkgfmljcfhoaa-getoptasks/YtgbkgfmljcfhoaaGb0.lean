/- Options, and what is told of bad ones, held against each other. No condition. -/
import Derived.Test.YtgbkgfmljcfhoaaGa9
import Derived.Laws.StructEq
namespace Go.Proofs.Ytgbkgfmljcfhoaa
open Go.RowKit
theorem egO (op : BinOp) (x y : Operand) (xs ys : Array Value) (W : World) : (eqGuard op 67 x y (.agg xs) (.agg ys)).run Try.prog W = .ok () W := run_eqGuard_agg W op 67 x y xs ys (by kernel_rfl)
theorem egB (op : BinOp) (x y : Operand) (xs ys : Array Value) (W : World) : (eqGuard op 25 x y (.agg xs) (.agg ys)).run Try.prog W = .ok () W := run_eqGuard_agg W op 25 x y xs ys (by kernel_rfl)
theorem fO : Try.prog.underlying 67 = some (.struct (Try.prog.fieldsOf 67)) := by kernel_rfl
theorem fOl : (Try.prog.fieldsOf 67).toList.map (fun f => (f.type, f.offset, decide (f.name = "_"))) = [(9, 0, false), (9, 1, false)] := by kernel_rfl
theorem fB : Try.prog.underlying 25 = some (.struct (Try.prog.fieldsOf 25)) := by kernel_rfl
theorem fBl : (Try.prog.fieldsOf 25).toList.map (fun f => (f.type, f.offset, decide (f.name = "_"))) = [(9, 0, false), (4, 1, false)] := by kernel_rfl
theorem two_fields {fs : List Field} {t0 t1 : TypeId} (h : fs.map (fun f => (f.type, f.offset, decide (f.name = "_"))) = [(t0, 0, false), (t1, 1, false)]) : ∃ f0 f1, fs = [f0, f1] ∧ f0.type = t0 ∧ f0.offset = 0 ∧ f0.name ≠ "_" ∧ f1.type = t1 ∧ f1.offset = 1 ∧ f1.name ≠ "_" := by
  cases fs with
  | nil => exact absurd (congrArg List.length h) (by simp)
  | cons f0 r =>
    cases r with
    | nil => exact absurd (congrArg List.length h) (by simp)
    | cons f1 r =>
      cases r with
      | cons f2 r => exact absurd (congrArg List.length h) (by simp)
      | nil =>
        simp at h
        exact ⟨f0, f1, rfl, h.1.1, h.1.2.1, h.1.2.2, h.2.1, h.2.2.1, h.2.2.2⟩
theorem neqO (p1 p2 q1 q2 : List UInt8) (W : World) : (binOp .neq 67 (.agg #[.string ⟨p1.toArray⟩, .string ⟨p2.toArray⟩]) (.agg #[.string ⟨q1.toArray⟩, .string ⟨q2.toArray⟩])).run Try.prog W = .ok (.bool (!decide ((p1, p2) = (q1, q2)))) W := by
  obtain ⟨f0, f1, hf, h1, h2, h3, h4, h5, h6⟩ := two_fields fOl
  rw [run_neq_struct, run_equalIn_agg W _ _ _ _ fO (by kernel_rfl), hf]
  have hu : Try.prog.underlying 9 = some .string := Try.underlying9
  by_cases e1 : p1 = q1
  · by_cases e2 : p2 = q2
    · simp [Op.eqFields, h1, h2, h3, h4, h5, h6, part, go_sem, e1, e2]
    · simp [Op.eqFields, h1, h2, h3, h4, h5, h6, part, go_sem, e1, e2]
  · simp [Op.eqFields, h1, h2, h3, part, go_sem, e1]
theorem neqB (p q : List UInt8) (x y : Bool) (W : World) : (binOp .neq 25 (.agg #[.string ⟨p.toArray⟩, .bool x]) (.agg #[.string ⟨q.toArray⟩, .bool y])).run Try.prog W = .ok (.bool (!decide ((p, x) = (q, y)))) W := by
  obtain ⟨f0, f1, hf, h1, h2, h3, h4, h5, h6⟩ := two_fields fBl
  rw [run_neq_struct, run_equalIn_agg W _ _ _ _ fB (by kernel_rfl), hf]
  have hu : Try.prog.underlying 9 = some .string := Try.underlying9
  have hb : Try.prog.underlying 4 = some .bool := Try.underlying4
  by_cases e1 : p = q
  · cases x <;> cases y <;> simp [Op.eqFields, h1, h2, h3, h4, h5, h6, part, go_sem, e1]
  · simp [Op.eqFields, h1, h2, h3, part, go_sem, e1]
end Go.Proofs.Ytgbkgfmljcfhoaa
