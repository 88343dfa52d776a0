/- The functions without a Go body that the example reaches, and the memory that it begins in. Seat of BufNone. No condition. -/
import Derived.Test.YtdldpehmcfbbeaaGreatDoorProg
import Derived.Test.YtdldpehmcfbbeaaGreatDoorChecked
import Derived.Test.YtdldpehmcfbbeaaGreatDoorEvX
import Derived.Test.YtdldpehmcfbbeaaGreatDoorBnH
import Derived.Laws.Externs
namespace Go.Proofs.YtdldpehmcfbbeaaGreatDoor
open Ev
def x0 : Ext := ⟨fun f => if f = 261 then some Extern.BytealgIndexByte.indexByte else if f = 57 then some Extern.BytealgIndexByte.indexByte else none, fun _ _ => none, fun f => Nat.beq f 57, fun _ => none⟩
noncomputable def fx261 : Func := (Tryz.prog.funcs[261]?).getD default
theorem fx261_at : Tryz.prog.funcs[261]? = some fx261 := by kernel_rfl
theorem fx261_name : (fx261.name == "runtime.NumGoroutine") = false := by kernel_rfl
theorem fx261_body : fx261.body.isNone = true := by kernel_rfl
theorem fx261_next : Extern.findNext fx261 = none := by kernel_rfl
theorem fx261_find : Extern.find fx261 = some Extern.BytealgIndexByte.indexByte := by kernel_rfl
noncomputable def fx57 : Func := (Tryz.prog.funcs[57]?).getD default
theorem fx57_at : Tryz.prog.funcs[57]? = some fx57 := by kernel_rfl
theorem fx57_name : (fx57.name == "runtime.NumGoroutine") = false := by kernel_rfl
theorem fx57_body : fx57.body.isNone = true := by kernel_rfl
theorem fx57_next : Extern.findNext fx57 = none := by kernel_rfl
theorem fx57_find : Extern.find fx57 = some Extern.BytealgIndexByte.indexByte := by kernel_rfl
theorem x0_ok : XOk Tryz.prog 5 x0 := by
  refine ⟨⟨?_, ?_⟩, fun f m x h => (by cases h), fun f c h => (by cases h)⟩
  · intro f e h args w
    unfold x0 at h
    simp only at h
    split at h
    · rename_i hf
      have h' := Option.some.inj h
      rw [← h', hf]
      exact run_callFunc_extern fx261_at fx261_name fx261_body fx261_next fx261_find args w
    · split at h
      · rename_i hf
        have h' := Option.some.inj h
        rw [← h', hf]
        exact run_callFunc_extern fx57_at fx57_name fx57_body fx57_next fx57_find args w
      · cases h
  · intro f e hb h r0 r1 s0 s1 w g0 g1
    have hf : f = 57 := Nat.eq_of_beq_eq_true hb
    subst hf
    have h2 : e = Extern.BytealgIndexByte.indexByte := (Option.some.inj h).symm
    subst h2
    exact ext_index g0 g1
def h0 : Hp := ⟨15, (.node (.node (.node .nil (.some (.row 47 64 64 ⟨1, .nil⟩ (.node (.node (.node (.node (.node (.node (.node .nil (.some (.int .u8 (.ofNat 6))) .nil) (.some (.int .u8 (.ofNat 5))) .nil) (.some (.int .u8 (.ofNat 4))) (.node .nil (.some (.int .u8 (.ofNat 11))) .nil)) (.some (.int .u8 (.ofNat 3))) (.node (.node .nil (.some (.int .u8 (.ofNat 16))) .nil) (.some (.int .u8 (.ofNat 22))) (.node .nil (.some (.int .u8 (.ofNat 10))) .nil))) (.some (.int .u8 (.ofNat 2))) (.node (.node (.node .nil (.some (.int .u8 (.ofNat 27))) .nil) (.some (.int .u8 (.ofNat 36))) (.node .nil (.some (.int .u8 (.ofNat 15))) .nil)) (.some (.int .u8 (.ofNat 50))) (.node (.node .nil (.some (.int .u8 (.ofNat 21))) .nil) (.some (.int .u8 (.ofNat 30))) (.node .nil (.some (.int .u8 (.ofNat 9))) .nil)))) (.some (.int .u8 (.ofNat 1))) (.node (.node (.node (.node .nil (.some (.int .u8 (.ofNat 55))) .nil) (.some (.int .u8 (.ofNat 47))) (.node .nil (.some (.int .u8 (.ofNat 26))) .nil)) (.some (.int .u8 (.ofNat 58))) (.node (.node .nil (.some (.int .u8 (.ofNat 35))) .nil) (.some (.int .u8 (.ofNat 39))) (.node .nil (.some (.int .u8 (.ofNat 14))) .nil))) (.some (.int .u8 (.ofNat 49))) (.node (.node (.node .nil (.some (.int .u8 (.ofNat 41))) .nil) (.some (.int .u8 (.ofNat 43))) (.node .nil (.some (.int .u8 (.ofNat 20))) .nil)) (.some (.int .u8 (.ofNat 29))) (.node (.node .nil (.some (.int .u8 (.ofNat 32))) .nil) (.some (.int .u8 (.ofNat 18))) (.node .nil (.some (.int .u8 (.ofNat 8))) .nil))))) (.some (.int .u8 (.ofNat 0))) (.node (.node (.node (.node (.node .nil (.some (.int .u8 (.ofNat 63))) .nil) (.some (.int .u8 (.ofNat 62))) (.node .nil (.some (.int .u8 (.ofNat 54))) .nil)) (.some (.int .u8 (.ofNat 61))) (.node (.node .nil (.some (.int .u8 (.ofNat 46))) .nil) (.some (.int .u8 (.ofNat 53))) (.node .nil (.some (.int .u8 (.ofNat 25))) .nil))) (.some (.int .u8 (.ofNat 57))) (.node (.node (.node .nil (.some (.int .u8 (.ofNat 60))) .nil) (.some (.int .u8 (.ofNat 45))) (.node .nil (.some (.int .u8 (.ofNat 34))) .nil)) (.some (.int .u8 (.ofNat 38))) (.node (.node .nil (.some (.int .u8 (.ofNat 52))) .nil) (.some (.int .u8 (.ofNat 24))) (.node .nil (.some (.int .u8 (.ofNat 13))) .nil)))) (.some (.int .u8 (.ofNat 56))) (.node (.node (.node (.node .nil (.some (.int .u8 (.ofNat 48))) .nil) (.some (.int .u8 (.ofNat 59))) (.node .nil (.some (.int .u8 (.ofNat 40))) .nil)) (.some (.int .u8 (.ofNat 42))) (.node (.node .nil (.some (.int .u8 (.ofNat 44))) .nil) (.some (.int .u8 (.ofNat 33))) (.node .nil (.some (.int .u8 (.ofNat 19))) .nil))) (.some (.int .u8 (.ofNat 28))) (.node (.node (.node .nil (.some (.int .u8 (.ofNat 37))) .nil) (.some (.int .u8 (.ofNat 51))) (.node .nil (.some (.int .u8 (.ofNat 31))) .nil)) (.some (.int .u8 (.ofNat 17))) (.node (.node .nil (.some (.int .u8 (.ofNat 23))) .nil) (.some (.int .u8 (.ofNat 12))) (.node .nil (.some (.int .u8 (.ofNat 7))) .nil)))))) .false)) .nil) (.some (.row 345 256 256 ⟨1, (.node .nil (.some (.int .u8 (.ofNat 0))) .nil)⟩ (.node (.node (.node .nil .none (.node .nil (.some (.int .u8 (.ofNat 1))) .nil)) .none (.node (.node .nil (.some (.int .u8 (.ofNat 1))) .nil) .none (.node .nil (.some (.int .u8 (.ofNat 1))) .nil))) .none (.node (.node (.node (.node (.node .nil (.some (.int .u8 (.ofNat 1))) .nil) .none .nil) .none .nil) .none (.node .nil (.some (.int .u8 (.ofNat 1))) .nil)) .none (.node (.node .nil (.some (.int .u8 (.ofNat 1))) .nil) .none .nil))) .false)) .nil) .none .nil)⟩
end Go.Proofs.YtdldpehmcfbbeaaGreatDoor
