/- The functions without a Go body that the example reaches, and the memory that it begins in. Seat of TextSplits. No condition. -/
import Derived.Test.YtepkolamnlmmgaaProg
import Derived.Test.YtepkolamnlmmgaaChecked
import Derived.Test.YtepkolamnlmmgaaEvX
import Derived.Test.YtepkolamnlmmgaaUxH
import Derived.Laws.Externs
namespace Go.Proofs.Ytepkolamnlmmgaa
open Ev
def x0 : Ext := ⟨fun f => if f = 50 then some Extern.BytealgIndexByte.indexByte else none, fun _ _ => none, fun f => Nat.beq f 50, fun _ => none⟩
noncomputable def fx50 : Func := (Try.prog.funcs[50]?).getD default
theorem fx50_at : Try.prog.funcs[50]? = some fx50 := by kernel_rfl
theorem fx50_name : (fx50.name == "runtime.NumGoroutine") = false := by kernel_rfl
theorem fx50_body : fx50.body.isNone = true := by kernel_rfl
theorem fx50_next : Extern.findNext fx50 = none := by kernel_rfl
theorem fx50_find : Extern.find fx50 = some Extern.BytealgIndexByte.indexByte := by kernel_rfl
theorem x0_ok : XOk Try.prog 0 x0 := by
  refine ⟨⟨?_, ?_⟩, fun f m x h => (by cases h), fun f c h => (by cases h)⟩
  · intro f e h args w
    unfold x0 at h
    simp only at h
    split at h
    · rename_i hf
      have h' := Option.some.inj h
      rw [← h', hf]
      exact run_callFunc_extern fx50_at fx50_name fx50_body fx50_next fx50_find args w
    · cases h
  · intro f e hb h r0 r1 s0 s1 w g0 g1
    have hf : f = 50 := Nat.eq_of_beq_eq_true hb
    subst hf
    have h2 : e = Extern.BytealgIndexByte.indexByte := (Option.some.inj h).symm
    subst h2
    exact ext_index g0 g1
def h0 : Hp := ⟨11, .nil⟩
end Go.Proofs.Ytepkolamnlmmgaa
