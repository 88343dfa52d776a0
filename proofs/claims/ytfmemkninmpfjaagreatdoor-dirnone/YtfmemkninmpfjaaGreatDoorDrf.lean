/- What the walk of the plain answer's Alloc wants: its kind, and a store of a whole inode. -/
import Derived.Test.YtfmemkninmpfjaaGreatDoorDre
namespace Go.Proofs.YtfmemkninmpfjaaGreatDoor
open Go.RowKit
theorem zvI (w : World) : (zeroValue 140).run Tryz.prog w = .ok (.agg zeroI) w := by kernel_rfl
theorem rkind (m k : Int) (w : World) (h : bits .and .i64 m 61440 = k) : Calls Tryz.prog 75 #[.int .i64 m] w fun e w' => e = .returned (.int .i64 k) ∧ w' = w := by
  go_enter Tryz.func75, Tryz.ntmps75
  go_wp2
  go_ret
  exact ⟨by simp, rfl⟩
theorem one_set {A : Array Value} {i : Nat} {x : Value} (h : ∀ v ∈ A.toList, v.oneCell' = true) (hx : x.oneCell' = true) : ∀ v ∈ (A.setIfInBounds i x).toList, v.oneCell' = true := fun v hv => by
  rw [Array.toList_setIfInBounds] at hv
  rcases List.mem_or_eq_of_mem_set hv with h1 | rfl
  · exact h v h1
  · exact hx
theorem st_ino (w : World) (lb off : Nat) (X : Array Value) (hx : ∀ v ∈ X.toList, v.oneCell' = true) (ok : ∀ a, a < X.size → (w.cell? ⟨lb, off + a, none⟩).isSome = true) (fr : ∀ a, w.frozen? ⟨lb, off + a, none⟩ = false) : (storeCells ⟨lb, off, none⟩ X.toList).run Tryz.prog w = .ok () (w.setCells lb off X.toList) := by
  have := run_storeCells_cells (P := Tryz.prog) lb off X.toList 0 w (fun a ha => by simpa using ok a (by simpa using ha)) (fun a _ => by simpa using fr a) hx
  simpa using this
end Go.Proofs.YtfmemkninmpfjaaGreatDoor
