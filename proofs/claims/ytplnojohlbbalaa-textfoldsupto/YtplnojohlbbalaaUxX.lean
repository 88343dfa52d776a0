/- The functions without a Go body that the example reaches, and the memory that it begins in. Seat of the text statements. No condition. -/
import Derived.Test.YtplnojohlbbalaaProg
import Derived.Test.YtplnojohlbbalaaChecked
import Derived.Test.YtplnojohlbbalaaEvX
import Derived.Test.YtplnojohlbbalaaUxH
import Derived.Laws.Externs
namespace Go.Proofs.Ytplnojohlbbalaa
open Ev
def x0 : Ext := ⟨fun f => if f = 66 then some Extern.BytealgIndexByte.indexByte else none, fun _ _ => none, fun f => Nat.beq f 66, fun _ => none⟩
noncomputable def fx66 : Func := (Try.prog.funcs[66]?).getD default
theorem fx66_at : Try.prog.funcs[66]? = some fx66 := by kernel_rfl
theorem fx66_name : (fx66.name == "runtime.NumGoroutine") = false := by kernel_rfl
theorem fx66_body : fx66.body.isNone = true := by kernel_rfl
theorem fx66_next : Extern.findNext fx66 = none := by kernel_rfl
theorem fx66_find : Extern.find fx66 = some Extern.BytealgIndexByte.indexByte := by kernel_rfl
theorem x0_ok : XOk Try.prog 0 x0 := by
  refine ⟨⟨?_, ?_⟩, fun f m x h => (by cases h), fun f c h => (by cases h)⟩
  · intro f e h args w
    unfold x0 at h
    simp only at h
    split at h
    · rename_i hf
      have h' := Option.some.inj h
      rw [← h', hf]
      exact run_callFunc_extern fx66_at fx66_name fx66_body fx66_next fx66_find args w
    · cases h
  · intro f e hb h r0 r1 s0 s1 w g0 g1
    have hf : f = 66 := Nat.eq_of_beq_eq_true hb
    subst hf
    have h2 : e = Extern.BytealgIndexByte.indexByte := (Option.some.inj h).symm
    subst h2
    exact ext_index g0 g1
def h0 : Hp := ⟨11, .nil⟩
end Go.Proofs.Ytplnojohlbbalaa
