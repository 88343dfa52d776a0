/- The walk of the plain list's New: n free blocks, in new memory. Condition: n is 1 to 4096. -/
import Derived.Test.YtipdpifpblaldaaDoorRefR
import Derived.Laws.ResultCell
namespace Go.Proofs.YtipdpifpblaldaaDoor
open Go.RowKit
def zero31 : Array Value := #[.slice none 0 0, .slice none 0 0]
theorem mk_bools (n : Nat) (hn : n ≤ 4096) (w : World) : (Instr.makeSlice 28 (.int .i64 n) (.int .i64 n)).run Tryd.prog w = .ok (.slice (some ⟨w.heap.size, 0, none⟩) n n) (w.alloc (.cells (madeCells #[.bool false] n) 4)) := by
  obtain ⟨i, h1, h2, h3, h4⟩ : ∃ i, Tryd.prog.info? 4 = some i ∧ i.zero = some (.bool false) ∧ i.size = 1 ∧ i.bytes = 1 := ⟨_, rfl, by kernel_rfl, by kernel_rfl, by kernel_rfl⟩
  have := run_make (P := Tryd.prog) w 28 4 i _ (by kernel_rfl) h1 h2 .i64 .i64 n n (by omega) (by omega) (by rw [h4]; omega) (by omega)
  rw [h3] at this
  simpa [Value.cells] using this
theorem mk_slices (n : Nat) (hn : n ≤ 4096) (w : World) : (Instr.makeSlice 29 (.int .i64 n) (.int .i64 n)).run Tryd.prog w = .ok (.slice (some ⟨w.heap.size, 0, none⟩) n n) (w.alloc (.cells (madeCells #[.slice none 0 0] n) 33)) := by
  obtain ⟨i, h1, h2, h3, h4⟩ : ∃ i, Tryd.prog.info? 33 = some i ∧ i.zero = some (.slice none 0 0) ∧ i.size = 1 ∧ i.bytes = 24 := ⟨_, rfl, by kernel_rfl, by kernel_rfl, by kernel_rfl⟩
  have := run_make (P := Tryd.prog) w 29 33 i _ (by kernel_rfl) h1 h2 .i64 .i64 n n (by omega) (by omega) (by rw [h4]; omega) (by omega)
  rw [h3] at this
  simpa [Value.cells] using this
theorem three_last (w : World) (A B C : Obj) : (((w.alloc A).alloc B).alloc C).heap[w.heap.size + 2]? = some C := by
  have := heap_alloc_new ((w.alloc A).alloc B) C
  simpa using this
theorem three_mid (w : World) (A B C : Obj) : (((w.alloc A).alloc B).alloc C).heap[w.heap.size + 1]? = some B := by
  rw [Below.heap_alloc _ _ _ (by simp)]
  have := heap_alloc_new (w.alloc A) B
  simpa using this
set_option maxHeartbeats 800000 in
theorem rnew_any (n : Nat) (w : World) (hn2 : n ≤ 4096) : Calls Tryd.prog 9 #[.int .i64 n] w fun e w' => ∃ ob yb, e = .returned (.agg #[.slice (some ⟨ob, 0, none⟩) n n, .slice (some ⟨yb, 0, none⟩) n n]) ∧
    w.heap.size ≤ ob ∧ w.heap.size ≤ yb ∧ ob ≠ yb ∧ w'.heap[ob]? = some (.cells (madeCells #[.bool false] n) 4 (0, 0)) ∧ w'.heap[yb]? = some (.cells (madeCells #[.slice none 0 0] n) 33 (0, 0)) ∧ Mod (fun _ => False) w w' := by
  have h1 := mk_bools n hn2
  have h2 := mk_slices n hn2
  go_enter Tryd.func9, Tryd.ntmps9
  go_wp2
  go_region
  all_goals go_wp2
  · exact bodyPost_ret (v := .agg #[.slice (some ⟨w.heap.size + 1, 0, none⟩) n n, .slice (some ⟨w.heap.size + 2, 0, none⟩) n n]) (by simp [results, Tryd.results9, go_sem]) rfl
      ⟨_, _, rfl, by omega, by omega, by omega, three_mid _ _ _ _, three_last _ _ _ _, ((((Mod.refl _ w).alloc _).alloc _).alloc _).drewN 1⟩
  · exact bodyPost_ret (v := .agg #[.slice (some ⟨w.heap.size + 2, 0, none⟩) n n, .slice (some ⟨w.heap.size + 1, 0, none⟩) n n]) (by simp [results, Tryd.results9, go_sem]) rfl
      ⟨_, _, rfl, by omega, by omega, by omega, three_last _ _ _ _, three_mid _ _ _ _, ((((Mod.refl _ w).alloc _).alloc _).alloc _).drewN 1⟩
end Go.Proofs.YtipdpifpblaldaaDoor
