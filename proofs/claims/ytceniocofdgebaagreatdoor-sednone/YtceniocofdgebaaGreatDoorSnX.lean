/- The functions without a Go body that the example reaches, and the memory that it begins in. Seat of SedNone. No condition. -/
import Derived.Test.YtceniocofdgebaaGreatDoorProg
import Derived.Test.YtceniocofdgebaaGreatDoorChecked
import Derived.Test.YtceniocofdgebaaGreatDoorEvX
import Derived.Test.YtceniocofdgebaaGreatDoorSnH
import Derived.Laws.Externs
namespace Go.Proofs.YtceniocofdgebaaGreatDoor
open Ev
def x0 : Ext := ⟨fun f => if f = 108 then some Extern.BytealgIndexByte.indexByte else none, fun _ _ => none, fun _ => false, fun _ => none⟩
noncomputable def fx108 : Func := (Tryz.prog.funcs[108]?).getD default
theorem fx108_at : Tryz.prog.funcs[108]? = some fx108 := by kernel_rfl
theorem fx108_name : (fx108.name == "runtime.NumGoroutine") = false := by kernel_rfl
theorem fx108_body : fx108.body.isNone = true := by kernel_rfl
theorem fx108_next : Extern.findNext fx108 = none := by kernel_rfl
theorem fx108_find : Extern.find fx108 = some Extern.BytealgIndexByte.indexByte := by kernel_rfl
theorem x0_ok : XOk Tryz.prog 0 x0 := by
  refine ⟨⟨?_, ?_⟩, fun f m x h => (by cases h), fun f c h => (by cases h)⟩
  · intro f e h args w
    unfold x0 at h
    simp only at h
    split at h
    · rename_i hf
      have h' := Option.some.inj h
      rw [← h', hf]
      exact run_callFunc_extern fx108_at fx108_name fx108_body fx108_next fx108_find args w
    · cases h
  · intro f e hb
    cases hb
def h0 : Hp := ⟨16, .nil⟩
end Go.Proofs.YtceniocofdgebaaGreatDoor
