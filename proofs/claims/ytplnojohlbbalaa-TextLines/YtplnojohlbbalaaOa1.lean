/- Slices of bytes that are read; the program's isBlank, isWord, isDigit, leading. Condition: lengths that fit. -/
import Derived.Test.YtplnojohlbbalaaOa0
import Derived.Test.YtplnojohlbbalaaXa1
import Derived.Laws.Small
namespace Go.Proofs.Ytplnojohlbbalaa
open Go.RowKit
attribute [local go_sem] ext_eq app_eq get_eq
theorem Src.sub {W : World} {a : Option Addr} {l : List UInt8} (h : Src W a l) (i k c : Nat) (hk : k ≤ l.length) (hc : l.length ≤ c) : Src W (if c = i then a else a.map (·.add (i * 1))) ((l.take k).drop i) := fun j hj => by
  have hl : ((l.take k).drop i).length = k - i := by simp [hk]
  obtain ⟨g, o, e, hg, hcell⟩ := h (i + j) (by omega)
  rw [if_neg (by omega)]
  refine ⟨g, o + i, by rw [e]; simp [Addr.add], hg, ?_⟩
  rw [show o + i + j = o + (i + j) by omega, hcell]
  congr 3
  simp
theorem htB : Try.prog.underlying 22 = some (.slice (Try.prog.elem 22)) := by kernel_rfl
theorem szB (W : World) : (sizeOf (Try.prog.elem 22)).run Try.prog W = .ok 1 W := by
  have e : Try.prog.elem 22 = 5 := by kernel_rfl
  rw [e]
  simp [sizeOf, go_sem]
  rfl
/-- A slice of bytes that is read, with its capacity. -/
structure Sr (W : World) (a : Option Addr) (c : Nat) (l : List UInt8) : Prop where
  src : Src W a l
  le : l.length ≤ c
  nil : a = none → c = 0
theorem Sr.grow {W W' : World} {a : Option Addr} {c : Nat} {l : List UInt8} (h : Sr W a c l) (b : Below W.heap.size W W') : Sr W' a c l := ⟨h.src.grow b (Nat.le_refl _), h.le, h.nil⟩
theorem sl_from {w : World} {a : Option Addr} {l : List UInt8} {c : Nat} (h : Sr w a c l) (i : Nat) (hi : i ≤ l.length) : ∃ a' c', (∀ W : World, (Instr.slice 22 (.slice a l.length c) (some (.int .i64 i)) none none).run Try.prog W = .ok (.slice a' (l.drop i).length c') W) ∧ Sr w a' c' (l.drop i) := by
  have hc := h.le
  refine ⟨(if c = i then a else a.map (·.add (i * 1))), c - i, fun W => ?_, ?_, by rw [List.length_drop]; omega, fun e => ?_⟩
  · rw [run_slice_l (P := Try.prog) (w := W) 22 a l.length c htB .i64 i (by omega) (by omega), List.length_drop, szB]
    simp [Result.andThen, sliced]
  · have := h.src.sub i l.length c (Nat.le_refl _) hc
    rw [List.take_length] at this
    exact this
  · have : a = none := by
      split at e
      · exact e
      · simpa using e
    have := h.nil this; omega
theorem sl_to {w : World} {a : Option Addr} {l : List UInt8} {c : Nat} (h : Sr w a c l) (k : Nat) (hk : k ≤ l.length) : (∀ W : World, (Instr.slice 22 (.slice a l.length c) none (some (.int .i64 k)) none).run Try.prog W = .ok (.slice a (l.take k).length c) W) ∧ Sr w a c (l.take k) := by
  have hc := h.le
  refine ⟨fun W => ?_, fun j hj => ?_, by rw [List.length_take]; omega, h.nil⟩
  · rw [run_slice_h (P := Try.prog) (w := W) 22 a l.length c htB .i64 k (by omega) (by omega), List.length_take, Nat.min_eq_left hk, szB]
    cases a <;> simp [Result.andThen, sliced, Addr.add]
  · rw [List.length_take] at hj
    obtain ⟨g, o, e, hg, hcell⟩ := h.src j (by omega)
    exact ⟨g, o, e, hg, by rw [hcell]; simp⟩
theorem sl_mid {w : World} {a : Option Addr} {l : List UInt8} {c : Nat} (h : Sr w a c l) (i k : Nat) (hik : i ≤ k) (hk : k ≤ l.length) : ∃ a' c', (∀ W : World, (Instr.slice 22 (.slice a l.length c) (some (.int .i64 i)) (some (.int .i64 k)) none).run Try.prog W = .ok (.slice a' ((l.take k).drop i).length c') W) ∧ Sr w a' c' ((l.take k).drop i) := by
  have hc := h.le
  have hm : ((l.take k).drop i).length = k - i := by simp [hk]
  refine ⟨(if c = i then a else a.map (·.add (i * 1))), c - i, fun W => ?_, h.src.sub i k c hk hc, by omega, fun e => ?_⟩
  · rw [run_slice_lh (P := Try.prog) (w := W) 22 a l.length c htB .i64 .i64 i k (by omega) (by omega) (by omega), szB, hm]
    simp [Result.andThen, sliced]
  · have : a = none := by
      split at e
      · exact e
      · simpa using e
    have := h.nil this; omega
end Go.Proofs.Ytplnojohlbbalaa
