/- Rows of bytes that come in, as the walks want them. No condition. -/
import Derived.Test.YtncnmeidciailaaDoorLcB
import Derived.Test.YtncnmeidciailaaDoorLq2
import Derived.ChangeMaps5
namespace Go.Proofs.YtncnmeidciailaaDoor
open Go.ChangeShapes Go.WideShapes Go.ChangeAt Go.RowKit
/-- A row of numbers, as it is read. -/
def IsRow (k : IntKind) (w : World) (a : Option Addr) (len cap : Nat) (zs : List Int) : Prop :=
  (a = none ∧ len = 0 ∧ cap = 0 ∧ zs = []) ∨
  ∃ x, a = some x ∧ len ≤ cap ∧ cap ≤ maxLen ∧ zs.length = cap ∧ (∀ i, i < zs.length → w.cell? (x.add i) = some (.int k (zs.getD i 0))) ∧ ∀ n ∈ zs, (Lit.int k n).wf = true
/-- A cell that can be read lies in a block's plain cells. -/
theorem spot_of_cell {w : World} {a : Addr} {v : Value} (h : w.cell? a = some v) : a.spot = none := by
  unfold World.cell? at h
  split at h
  · split at h
    · exact absurd h (by simp)
    · rename_i hs
      cases e : a.spot with
      | none => rfl
      | some x => rw [e] at hs; simp at hs
  · exact absurd h (by simp)
theorem row_src {W : World} {a : Option Addr} {len cap : Nat} (h : ∃ zs, IsRow .u8 W a len cap zs) : ∃ l : List UInt8, l.length = len ∧ Src W a l := by
  obtain ⟨zs, ⟨rfl, rfl, rfl, rfl⟩ | ⟨x, rfl, hl, hm, hz, hc, hw⟩⟩ := h
  · exact ⟨[], rfl, Src.nil _ _⟩
  · have hlen : ((zs.take len).map fun z => UInt8.ofNat z.toNat).length = len := by rw [List.length_map, List.length_take, Nat.min_eq_left (by omega)]
    refine ⟨_, hlen, fun j hj => ?_⟩
    rw [hlen] at hj
    have h1 := hc j (by omega)
    obtain ⟨g, go, sp⟩ := x
    have hsp : sp = none := by
      have := spot_of_cell (hc 0 (by omega))
      cases sp with
      | none => rfl
      | some y => unfold Addr.add at this; simp at this
    subst hsp
    rw [show (⟨g, go, none⟩ : Addr).add j = ⟨g, go + j, none⟩ by simp [Addr.add]] at h1
    refine ⟨g, go, rfl, block_lt_of_cell h1, ?_⟩
    rw [h1]
    have hjz : j < zs.length := by omega
    have e : zs.getD j 0 = zs[j] := by rw [List.getD_eq_getElem?_getD, List.getElem?_eq_getElem hjz]; rfl
    have hb := bounds_u8 (hw zs[j] (List.getElem_mem hjz))
    rw [e]
    simp only [List.getElem_map, List.getElem_take]
    have e2 : (UInt8.ofNat (zs[j]).toNat).toNat = (zs[j]).toNat := by simp; omega
    rw [e2, Int.toNat_of_nonneg hb.1]
end Go.Proofs.YtncnmeidciailaaDoor
