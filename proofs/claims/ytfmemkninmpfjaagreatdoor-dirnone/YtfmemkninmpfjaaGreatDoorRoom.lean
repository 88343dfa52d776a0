/- The walk of Room. Condition: the table lies in memory as 'Tb' says. -/
import Derived.Test.YtfmemkninmpfjaaGreatDoorSeq
import Derived.Test.YtfmemkninmpfjaaGreatDoorNone1
namespace Go.Proofs.YtfmemkninmpfjaaGreatDoor
open Go.RowKit Go.Shelf
attribute [local go_sem] Oper.semAt_some
/-- What a round of Room keeps: all that lay when the loop began, but for the count at L. -/
def KpR (n₁ L : Nat) (W W' : World) : Prop := ∀ x : Addr, x.block < n₁ → x.block ≠ L → W'.cell? x = W.cell? x
theorem cell_new_r (W : World) (v : Value) (t : TypeId) : (W.alloc (.cells #[v] t)).cell? ⟨W.heap.size, 0, none⟩ = some v ∧ (W.alloc (.cells #[v] t)).frozen? ⟨W.heap.size, 0, none⟩ = false :=
  ⟨by rw [World.cell?_alloc_at _ _ _ _ rfl]; rfl, World.frozen?_alloc_at _ _ _ _ rfl⟩
section
variable {w : World} {t q b c n N : Nat} {clk : Int} {F : Nat → Nat → Int} {R : Nat → Nat → Nat} {u : Nat → Bool} {D : Nat → Nat}
end
end Go.Proofs.YtfmemkninmpfjaaGreatDoor
