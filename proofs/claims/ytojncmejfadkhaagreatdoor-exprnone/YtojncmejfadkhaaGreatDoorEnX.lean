/- The functions without a Go body that the example reaches, and the memory that it begins in. Seat of ExprNone. No condition. -/
import Derived.Test.YtojncmejfadkhaaGreatDoorProg
import Derived.Test.YtojncmejfadkhaaGreatDoorChecked
import Derived.Test.YtojncmejfadkhaaGreatDoorEvX
import Derived.Test.YtojncmejfadkhaaGreatDoorEnH
import Derived.Laws.Externs
namespace Go.Proofs.YtojncmejfadkhaaGreatDoor
open Ev
def x0 : Ext := ⟨fun f => if f = 259 then some Extern.BytealgIndexByte.indexByte else if f = 293 then some Extern.BytealgIndexByte.indexByte else none, fun _ _ => none, fun f => Nat.beq f 293, fun _ => none⟩
noncomputable def fx259 : Func := (Tryz.prog.funcs[259]?).getD default
theorem fx259_at : Tryz.prog.funcs[259]? = some fx259 := by kernel_rfl
theorem fx259_name : (fx259.name == "runtime.NumGoroutine") = false := by kernel_rfl
theorem fx259_body : fx259.body.isNone = true := by kernel_rfl
theorem fx259_next : Extern.findNext fx259 = none := by kernel_rfl
theorem fx259_find : Extern.find fx259 = some Extern.BytealgIndexByte.indexByte := by kernel_rfl
noncomputable def fx293 : Func := (Tryz.prog.funcs[293]?).getD default
theorem fx293_at : Tryz.prog.funcs[293]? = some fx293 := by kernel_rfl
theorem fx293_name : (fx293.name == "runtime.NumGoroutine") = false := by kernel_rfl
theorem fx293_body : fx293.body.isNone = true := by kernel_rfl
theorem fx293_next : Extern.findNext fx293 = none := by kernel_rfl
theorem fx293_find : Extern.find fx293 = some Extern.BytealgIndexByte.indexByte := by kernel_rfl
theorem x0_ok : XOk Tryz.prog 0 x0 := by
  refine ⟨⟨?_, ?_⟩, fun f m x h => (by cases h), fun f c h => (by cases h)⟩
  · intro f e h args w
    unfold x0 at h
    simp only at h
    split at h
    · rename_i hf
      have h' := Option.some.inj h
      rw [← h', hf]
      exact run_callFunc_extern fx259_at fx259_name fx259_body fx259_next fx259_find args w
    · split at h
      · rename_i hf
        have h' := Option.some.inj h
        rw [← h', hf]
        exact run_callFunc_extern fx293_at fx293_name fx293_body fx293_next fx293_find args w
      · cases h
  · intro f e hb h r0 r1 s0 s1 w g0 g1
    have hf : f = 293 := Nat.eq_of_beq_eq_true hb
    subst hf
    have h2 : e = Extern.BytealgIndexByte.indexByte := (Option.some.inj h).symm
    subst h2
    exact ext_index g0 g1
def h0 : Hp := ⟨14, .nil⟩
end Go.Proofs.YtojncmejfadkhaaGreatDoor
