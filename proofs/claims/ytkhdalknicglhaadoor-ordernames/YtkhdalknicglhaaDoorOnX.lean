/- The functions without a Go body that the example reaches, and the memory that it begins in. Seat of OrderNames (3eab36a). No condition. -/
import Derived.Test.YtkhdalknicglhaaDoorProg
import Derived.Test.YtkhdalknicglhaaDoorChecked
import Derived.Test.YtkhdalknicglhaaDoorEvX
import Derived.Test.YtkhdalknicglhaaDoorOnH
import Derived.Laws.Externs
namespace Go.Proofs.YtkhdalknicglhaaDoor
open Ev
def x0 : Ext := ⟨fun f => if f = 46 then some Extern.BytealgIndexByte.indexByte else if f = 75 then some Extern.BytealgIndexByte.indexByte else if f = 48 then some Extern.BytealgCompare.compare else none, fun _ _ => none, fun f => Nat.beq f 75 || Nat.beq f 48, fun _ => none⟩
noncomputable def fx46 : Func := (Tryd.prog.funcs[46]?).getD default
theorem fx46_at : Tryd.prog.funcs[46]? = some fx46 := by kernel_rfl
theorem fx46_name : (fx46.name == "runtime.NumGoroutine") = false := by kernel_rfl
theorem fx46_body : fx46.body.isNone = true := by kernel_rfl
theorem fx46_next : Extern.findNext fx46 = none := by kernel_rfl
theorem fx46_find : Extern.find fx46 = some Extern.BytealgIndexByte.indexByte := by kernel_rfl
noncomputable def fx75 : Func := (Tryd.prog.funcs[75]?).getD default
theorem fx75_at : Tryd.prog.funcs[75]? = some fx75 := by kernel_rfl
theorem fx75_name : (fx75.name == "runtime.NumGoroutine") = false := by kernel_rfl
theorem fx75_body : fx75.body.isNone = true := by kernel_rfl
theorem fx75_next : Extern.findNext fx75 = none := by kernel_rfl
theorem fx75_find : Extern.find fx75 = some Extern.BytealgIndexByte.indexByte := by kernel_rfl
noncomputable def fx48 : Func := (Tryd.prog.funcs[48]?).getD default
theorem fx48_at : Tryd.prog.funcs[48]? = some fx48 := by kernel_rfl
theorem fx48_name : (fx48.name == "runtime.NumGoroutine") = false := by kernel_rfl
theorem fx48_body : fx48.body.isNone = true := by kernel_rfl
theorem fx48_next : Extern.findNext fx48 = none := by kernel_rfl
theorem fx48_find : Extern.find fx48 = some Extern.BytealgCompare.compare := by kernel_rfl
theorem x0_ok : XOk Tryd.prog 0 x0 := by
  refine ⟨⟨?_, ?_⟩, fun f m x h => (by cases h), fun f c h => (by cases h)⟩
  · intro f e h args w
    unfold x0 at h
    simp only at h
    split at h
    · rename_i hf
      have h' := Option.some.inj h
      rw [← h', hf]
      exact run_callFunc_extern fx46_at fx46_name fx46_body fx46_next fx46_find args w
    · split at h
      · rename_i hf
        have h' := Option.some.inj h
        rw [← h', hf]
        exact run_callFunc_extern fx75_at fx75_name fx75_body fx75_next fx75_find args w
      · split at h
        · rename_i hf
          have h' := Option.some.inj h
          rw [← h', hf]
          exact run_callFunc_extern fx48_at fx48_name fx48_body fx48_next fx48_find args w
        · cases h
  · intro f e hb h r0 r1 s0 s1 w g0 g1
    have hf : f = 75 ∨ f = 48 := (Bool.or_eq_true_iff.1 hb).imp Nat.eq_of_beq_eq_true Nat.eq_of_beq_eq_true
    rcases hf with rfl | rfl
    · have h2 : e = Extern.BytealgIndexByte.indexByte := (Option.some.inj h).symm
      subst h2
      exact ext_index g0 g1
    · have h2 : e = Extern.BytealgCompare.compare := (Option.some.inj h).symm
      subst h2
      exact ext_compare g0 g1
def h0 : Hp := ⟨13, .nil⟩
end Go.Proofs.YtkhdalknicglhaaDoor
