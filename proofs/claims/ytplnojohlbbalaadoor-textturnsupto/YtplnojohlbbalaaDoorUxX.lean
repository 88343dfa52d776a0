/- The functions without a Go body that the example reaches, and the memory that it begins in. Seat of TextCuts, TextTurns. No condition. -/
import Derived.Test.YtplnojohlbbalaaDoorProg
import Derived.Test.YtplnojohlbbalaaDoorChecked
import Derived.Test.YtplnojohlbbalaaDoorEvX
import Derived.Test.YtplnojohlbbalaaDoorUxH
import Derived.Laws.Externs
namespace Go.Proofs.YtplnojohlbbalaaDoor
open Ev
def x0 : Ext := ⟨fun f => if f = 64 then some Extern.BytealgIndexByte.indexByte else none, fun _ _ => none, fun f => Nat.beq f 64, fun _ => none⟩
noncomputable def fx64 : Func := (Tryd.prog.funcs[64]?).getD default
theorem fx64_at : Tryd.prog.funcs[64]? = some fx64 := by kernel_rfl
theorem fx64_name : (fx64.name == "runtime.NumGoroutine") = false := by kernel_rfl
theorem fx64_body : fx64.body.isNone = true := by kernel_rfl
theorem fx64_next : Extern.findNext fx64 = none := by kernel_rfl
theorem fx64_find : Extern.find fx64 = some Extern.BytealgIndexByte.indexByte := by kernel_rfl
theorem x0_ok : XOk Tryd.prog 0 x0 := by
  refine ⟨⟨?_, ?_⟩, fun f m x h => (by cases h), fun f c h => (by cases h)⟩
  · intro f e h args w
    unfold x0 at h
    simp only at h
    split at h
    · rename_i hf
      have h' := Option.some.inj h
      rw [← h', hf]
      exact run_callFunc_extern fx64_at fx64_name fx64_body fx64_next fx64_find args w
    · cases h
  · intro f e hb h r0 r1 s0 s1 w g0 g1
    have hf : f = 64 := Nat.eq_of_beq_eq_true hb
    subst hf
    have h2 : e = Extern.BytealgIndexByte.indexByte := (Option.some.inj h).symm
    subst h2
    exact ext_index g0 g1
def h0 : Hp := ⟨16, .nil⟩
end Go.Proofs.YtplnojohlbbalaaDoor
