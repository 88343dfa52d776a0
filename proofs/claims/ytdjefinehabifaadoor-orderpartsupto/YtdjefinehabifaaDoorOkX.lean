/- The functions without a Go body that the example reaches, and the memory that it begins in. Seat of six rows of layer 16 (98e8e50). No condition. -/
import Derived.Test.YtdjefinehabifaaDoorProg
import Derived.Test.YtdjefinehabifaaDoorChecked
import Derived.Test.YtdjefinehabifaaDoorEvX
import Derived.Test.YtdjefinehabifaaDoorOkH
import Derived.Laws.Externs
namespace Go.Proofs.YtdjefinehabifaaDoor
open Ev
def x0 : Ext := ⟨fun f => if f = 118 then some Extern.BytealgIndexByte.indexByte else if f = 110 then some Extern.BytealgIndexByte.indexByte else if f = 80 then some Extern.BytealgCompare.compare else none, fun _ _ => none, fun f => Nat.beq f 110 || Nat.beq f 80, fun _ => none⟩
noncomputable def fx118 : Func := (Tryd.prog.funcs[118]?).getD default
theorem fx118_at : Tryd.prog.funcs[118]? = some fx118 := by kernel_rfl
theorem fx118_name : (fx118.name == "runtime.NumGoroutine") = false := by kernel_rfl
theorem fx118_body : fx118.body.isNone = true := by kernel_rfl
theorem fx118_next : Extern.findNext fx118 = none := by kernel_rfl
theorem fx118_find : Extern.find fx118 = some Extern.BytealgIndexByte.indexByte := by kernel_rfl
noncomputable def fx110 : Func := (Tryd.prog.funcs[110]?).getD default
theorem fx110_at : Tryd.prog.funcs[110]? = some fx110 := by kernel_rfl
theorem fx110_name : (fx110.name == "runtime.NumGoroutine") = false := by kernel_rfl
theorem fx110_body : fx110.body.isNone = true := by kernel_rfl
theorem fx110_next : Extern.findNext fx110 = none := by kernel_rfl
theorem fx110_find : Extern.find fx110 = some Extern.BytealgIndexByte.indexByte := by kernel_rfl
noncomputable def fx80 : Func := (Tryd.prog.funcs[80]?).getD default
theorem fx80_at : Tryd.prog.funcs[80]? = some fx80 := by kernel_rfl
theorem fx80_name : (fx80.name == "runtime.NumGoroutine") = false := by kernel_rfl
theorem fx80_body : fx80.body.isNone = true := by kernel_rfl
theorem fx80_next : Extern.findNext fx80 = none := by kernel_rfl
theorem fx80_find : Extern.find fx80 = some Extern.BytealgCompare.compare := by kernel_rfl
theorem x0_ok : XOk Tryd.prog 0 x0 := by
  refine ⟨⟨?_, ?_⟩, fun f m x h => (by cases h), fun f c h => (by cases h)⟩
  · intro f e h args w
    unfold x0 at h
    simp only at h
    split at h
    · rename_i hf
      have h' := Option.some.inj h
      rw [← h', hf]
      exact run_callFunc_extern fx118_at fx118_name fx118_body fx118_next fx118_find args w
    · split at h
      · rename_i hf
        have h' := Option.some.inj h
        rw [← h', hf]
        exact run_callFunc_extern fx110_at fx110_name fx110_body fx110_next fx110_find args w
      · split at h
        · rename_i hf
          have h' := Option.some.inj h
          rw [← h', hf]
          exact run_callFunc_extern fx80_at fx80_name fx80_body fx80_next fx80_find args w
        · cases h
  · intro f e hb h r0 r1 s0 s1 w g0 g1
    have hf : f = 110 ∨ f = 80 := (Bool.or_eq_true_iff.1 hb).imp Nat.eq_of_beq_eq_true Nat.eq_of_beq_eq_true
    rcases hf with rfl | rfl
    · have h2 : e = Extern.BytealgIndexByte.indexByte := (Option.some.inj h).symm
      subst h2
      exact ext_index g0 g1
    · have h2 : e = Extern.BytealgCompare.compare := (Option.some.inj h).symm
      subst h2
      exact ext_compare g0 g1
def h0 : Hp := ⟨13, .nil⟩
end Go.Proofs.YtdjefinehabifaaDoor
