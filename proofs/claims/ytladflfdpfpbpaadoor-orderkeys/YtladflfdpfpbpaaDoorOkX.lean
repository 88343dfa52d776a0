/- The functions without a Go body that the example reaches, and the memory that it begins in. Seat of OrderKeys (3eab36a). No condition. -/
import Derived.Test.YtladflfdpfpbpaaDoorProg
import Derived.Test.YtladflfdpfpbpaaDoorChecked
import Derived.Test.YtladflfdpfpbpaaDoorEvX
import Derived.Test.YtladflfdpfpbpaaDoorOkH
import Derived.Laws.Externs
namespace Go.Proofs.YtladflfdpfpbpaaDoor
open Ev
def x0 : Ext := ⟨fun f => if f = 42 then some Extern.BytealgIndexByte.indexByte else if f = 79 then some Extern.BytealgIndexByte.indexByte else if f = 52 then some Extern.BytealgCompare.compare else none, fun _ _ => none, fun f => Nat.beq f 79 || Nat.beq f 52, fun _ => none⟩
noncomputable def fx42 : Func := (Tryd.prog.funcs[42]?).getD default
theorem fx42_at : Tryd.prog.funcs[42]? = some fx42 := by kernel_rfl
theorem fx42_name : (fx42.name == "runtime.NumGoroutine") = false := by kernel_rfl
theorem fx42_body : fx42.body.isNone = true := by kernel_rfl
theorem fx42_next : Extern.findNext fx42 = none := by kernel_rfl
theorem fx42_find : Extern.find fx42 = some Extern.BytealgIndexByte.indexByte := by kernel_rfl
noncomputable def fx79 : Func := (Tryd.prog.funcs[79]?).getD default
theorem fx79_at : Tryd.prog.funcs[79]? = some fx79 := by kernel_rfl
theorem fx79_name : (fx79.name == "runtime.NumGoroutine") = false := by kernel_rfl
theorem fx79_body : fx79.body.isNone = true := by kernel_rfl
theorem fx79_next : Extern.findNext fx79 = none := by kernel_rfl
theorem fx79_find : Extern.find fx79 = some Extern.BytealgIndexByte.indexByte := by kernel_rfl
noncomputable def fx52 : Func := (Tryd.prog.funcs[52]?).getD default
theorem fx52_at : Tryd.prog.funcs[52]? = some fx52 := by kernel_rfl
theorem fx52_name : (fx52.name == "runtime.NumGoroutine") = false := by kernel_rfl
theorem fx52_body : fx52.body.isNone = true := by kernel_rfl
theorem fx52_next : Extern.findNext fx52 = none := by kernel_rfl
theorem fx52_find : Extern.find fx52 = some Extern.BytealgCompare.compare := by kernel_rfl
theorem x0_ok : XOk Tryd.prog 0 x0 := by
  refine ⟨⟨?_, ?_⟩, fun f m x h => (by cases h), fun f c h => (by cases h)⟩
  · intro f e h args w
    unfold x0 at h
    simp only at h
    split at h
    · rename_i hf
      have h' := Option.some.inj h
      rw [← h', hf]
      exact run_callFunc_extern fx42_at fx42_name fx42_body fx42_next fx42_find args w
    · split at h
      · rename_i hf
        have h' := Option.some.inj h
        rw [← h', hf]
        exact run_callFunc_extern fx79_at fx79_name fx79_body fx79_next fx79_find args w
      · split at h
        · rename_i hf
          have h' := Option.some.inj h
          rw [← h', hf]
          exact run_callFunc_extern fx52_at fx52_name fx52_body fx52_next fx52_find args w
        · cases h
  · intro f e hb h r0 r1 s0 s1 w g0 g1
    have hf : f = 79 ∨ f = 52 := (Bool.or_eq_true_iff.1 hb).imp Nat.eq_of_beq_eq_true Nat.eq_of_beq_eq_true
    rcases hf with rfl | rfl
    · have h2 : e = Extern.BytealgIndexByte.indexByte := (Option.some.inj h).symm
      subst h2
      exact ext_index g0 g1
    · have h2 : e = Extern.BytealgCompare.compare := (Option.some.inj h).symm
      subst h2
      exact ext_compare g0 g1
def h0 : Hp := ⟨13, .nil⟩
end Go.Proofs.YtladflfdpfpbpaaDoor
