/- The functions without a Go body that FaultNames' example reaches, and the memory that it begins in. Seat of FaultNames (d4bce55). No condition. -/
import Derived.Test.YtekojohidndjpaaGreatDoorProg
import Derived.Test.YtekojohidndjpaaGreatDoorChecked
import Derived.Test.YtekojohidndjpaaGreatDoorEvX
import Derived.Test.YtekojohidndjpaaGreatDoorFnH
import Derived.Laws.Externs
namespace Go.Proofs.YtekojohidndjpaaGreatDoor
open Ev
def x0 : Ext := ⟨fun f => if f = 245 then some Extern.BytealgIndexByte.indexByte else if f = 271 then some Extern.BytealgIndexByte.indexByte else none, fun _ _ => none, fun f => Nat.beq f 271⟩
noncomputable def fx245 : Func := (Tryz.prog.funcs[245]?).getD default
theorem fx245_at : Tryz.prog.funcs[245]? = some fx245 := by kernel_rfl
theorem fx245_name : (fx245.name == "runtime.NumGoroutine") = false := by kernel_rfl
theorem fx245_body : fx245.body.isNone = true := by kernel_rfl
theorem fx245_next : Extern.findNext fx245 = none := by kernel_rfl
theorem fx245_find : Extern.find fx245 = some Extern.BytealgIndexByte.indexByte := by kernel_rfl
noncomputable def fx271 : Func := (Tryz.prog.funcs[271]?).getD default
theorem fx271_at : Tryz.prog.funcs[271]? = some fx271 := by kernel_rfl
theorem fx271_name : (fx271.name == "runtime.NumGoroutine") = false := by kernel_rfl
theorem fx271_body : fx271.body.isNone = true := by kernel_rfl
theorem fx271_next : Extern.findNext fx271 = none := by kernel_rfl
theorem fx271_find : Extern.find fx271 = some Extern.BytealgIndexByte.indexByte := by kernel_rfl
theorem x0_ok : XOk Tryz.prog 5 x0 := by
  refine ⟨⟨?_, ?_⟩, fun f m x h => (by cases h)⟩
  · intro f e h args w
    unfold x0 at h
    simp only at h
    split at h
    · rename_i hf
      have h' := Option.some.inj h
      rw [← h', hf]
      exact run_callFunc_extern fx245_at fx245_name fx245_body fx245_next fx245_find args w
    · split at h
      · rename_i hf
        have h' := Option.some.inj h
        rw [← h', hf]
        exact run_callFunc_extern fx271_at fx271_name fx271_body fx271_next fx271_find args w
      · cases h
  · intro f e hb h a n c y bs w hl
    have hf : f = 271 := Nat.eq_of_beq_eq_true hb
    subst hf
    have h' : e = Extern.BytealgIndexByte.indexByte := (Option.some.inj h).symm
    subst h'
    have key : ∀ b : Value, Extern.BytealgIndexByte.indexByte #[b, y] = (do
        let b ← Extern.Bytes.bytesOf b
        let c ← Extern.Bytes.asByte y
        match (List.range b.size).find? fun i => b[i]! == c with
        | some i => pure (goInt i)
        | none => pure (goInt (-1))) := fun _ => rfl
    rw [key, key]
    simp only [Sem.run_bind, hl, Result.andThen_ok]
    rfl
def h0 : Hp := ⟨10, (.node (.node (.node .nil (.some (.row 321 64 64 ⟨1, .nil⟩ (.node (.node (.node (.node (.node (.node (.node .nil (.some (.int .u8 (.ofNat 6))) .nil) (.some (.int .u8 (.ofNat 5))) .nil) (.some (.int .u8 (.ofNat 4))) (.node .nil (.some (.int .u8 (.ofNat 11))) .nil)) (.some (.int .u8 (.ofNat 3))) (.node (.node .nil (.some (.int .u8 (.ofNat 16))) .nil) (.some (.int .u8 (.ofNat 22))) (.node .nil (.some (.int .u8 (.ofNat 10))) .nil))) (.some (.int .u8 (.ofNat 2))) (.node (.node (.node .nil (.some (.int .u8 (.ofNat 27))) .nil) (.some (.int .u8 (.ofNat 36))) (.node .nil (.some (.int .u8 (.ofNat 15))) .nil)) (.some (.int .u8 (.ofNat 50))) (.node (.node .nil (.some (.int .u8 (.ofNat 21))) .nil) (.some (.int .u8 (.ofNat 30))) (.node .nil (.some (.int .u8 (.ofNat 9))) .nil)))) (.some (.int .u8 (.ofNat 1))) (.node (.node (.node (.node .nil (.some (.int .u8 (.ofNat 55))) .nil) (.some (.int .u8 (.ofNat 47))) (.node .nil (.some (.int .u8 (.ofNat 26))) .nil)) (.some (.int .u8 (.ofNat 58))) (.node (.node .nil (.some (.int .u8 (.ofNat 35))) .nil) (.some (.int .u8 (.ofNat 39))) (.node .nil (.some (.int .u8 (.ofNat 14))) .nil))) (.some (.int .u8 (.ofNat 49))) (.node (.node (.node .nil (.some (.int .u8 (.ofNat 41))) .nil) (.some (.int .u8 (.ofNat 43))) (.node .nil (.some (.int .u8 (.ofNat 20))) .nil)) (.some (.int .u8 (.ofNat 29))) (.node (.node .nil (.some (.int .u8 (.ofNat 32))) .nil) (.some (.int .u8 (.ofNat 18))) (.node .nil (.some (.int .u8 (.ofNat 8))) .nil))))) (.some (.int .u8 (.ofNat 0))) (.node (.node (.node (.node (.node .nil (.some (.int .u8 (.ofNat 63))) .nil) (.some (.int .u8 (.ofNat 62))) (.node .nil (.some (.int .u8 (.ofNat 54))) .nil)) (.some (.int .u8 (.ofNat 61))) (.node (.node .nil (.some (.int .u8 (.ofNat 46))) .nil) (.some (.int .u8 (.ofNat 53))) (.node .nil (.some (.int .u8 (.ofNat 25))) .nil))) (.some (.int .u8 (.ofNat 57))) (.node (.node (.node .nil (.some (.int .u8 (.ofNat 60))) .nil) (.some (.int .u8 (.ofNat 45))) (.node .nil (.some (.int .u8 (.ofNat 34))) .nil)) (.some (.int .u8 (.ofNat 38))) (.node (.node .nil (.some (.int .u8 (.ofNat 52))) .nil) (.some (.int .u8 (.ofNat 24))) (.node .nil (.some (.int .u8 (.ofNat 13))) .nil)))) (.some (.int .u8 (.ofNat 56))) (.node (.node (.node (.node .nil (.some (.int .u8 (.ofNat 48))) .nil) (.some (.int .u8 (.ofNat 59))) (.node .nil (.some (.int .u8 (.ofNat 40))) .nil)) (.some (.int .u8 (.ofNat 42))) (.node (.node .nil (.some (.int .u8 (.ofNat 44))) .nil) (.some (.int .u8 (.ofNat 33))) (.node .nil (.some (.int .u8 (.ofNat 19))) .nil))) (.some (.int .u8 (.ofNat 28))) (.node (.node (.node .nil (.some (.int .u8 (.ofNat 37))) .nil) (.some (.int .u8 (.ofNat 51))) (.node .nil (.some (.int .u8 (.ofNat 31))) .nil)) (.some (.int .u8 (.ofNat 17))) (.node (.node .nil (.some (.int .u8 (.ofNat 23))) .nil) (.some (.int .u8 (.ofNat 12))) (.node .nil (.some (.int .u8 (.ofNat 7))) .nil)))))) .false)) .nil) .none .nil) (.some (.row 274 256 256 ⟨1, (.node .nil (.some (.int .u8 (.ofNat 0))) .nil)⟩ (.node (.node (.node .nil .none (.node .nil (.some (.int .u8 (.ofNat 1))) .nil)) .none (.node (.node .nil (.some (.int .u8 (.ofNat 1))) .nil) .none (.node .nil (.some (.int .u8 (.ofNat 1))) .nil))) .none (.node (.node (.node (.node (.node .nil (.some (.int .u8 (.ofNat 1))) .nil) .none .nil) .none .nil) .none (.node .nil (.some (.int .u8 (.ofNat 1))) .nil)) .none (.node (.node .nil (.some (.int .u8 (.ofNat 1))) .nil) .none .nil))) .false)) .nil)⟩
end Go.Proofs.YtekojohidndjpaaGreatDoor
