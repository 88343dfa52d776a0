/- RegexNone's example: the one function without a Go body that it reaches. Seat r14rx (RegexNone alone, 06499a5). No condition. -/
import Derived.Test.YtjlalhmifefhfaaGreatProg
import Derived.Test.YtjlalhmifefhfaaGreatChecked
import Derived.Test.YtjlalhmifefhfaaGreatEv28
import Derived.Test.YtjlalhmifefhfaaGreatRxH
import Derived.Laws.Externs
namespace Go.Proofs.YtjlalhmifefhfaaGreat
open Ev
def rxX : Ext := fun f => if f = 90 then some Extern.BytealgIndexByte.indexByte else none
noncomputable def rx90 : Func := (Tryz.prog.funcs[90]?).getD default
theorem rx90_at : Tryz.prog.funcs[90]? = some rx90 := by kernel_rfl
theorem rx90_name : (rx90.name == "runtime.NumGoroutine") = false := by kernel_rfl
theorem rx90_body : rx90.body.isNone = true := by kernel_rfl
theorem rx90_next : Extern.findNext rx90 = none := by kernel_rfl
theorem rx90_find : Extern.find rx90 = some Extern.BytealgIndexByte.indexByte := by kernel_rfl
theorem rxX_ok : ExtOk Tryz.prog rxX := by
  intro f e h args w
  unfold rxX at h
  split at h
  · rename_i hf
    have h' := Option.some.inj h
    rw [← h', hf]
    exact run_callFunc_extern rx90_at rx90_name rx90_body rx90_next rx90_find args w
  · cases h
end Go.Proofs.YtjlalhmifefhfaaGreat
