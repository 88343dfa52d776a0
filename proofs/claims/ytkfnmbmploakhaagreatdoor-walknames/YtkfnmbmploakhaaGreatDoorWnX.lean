/- The functions without a Go body that WalkNames' example reaches, and the memory that it begins in. Seat of WalkNames (d4bce55). No condition. -/
import Derived.Test.YtkfnmbmploakhaaGreatDoorProg
import Derived.Test.YtkfnmbmploakhaaGreatDoorChecked
import Derived.Test.YtkfnmbmploakhaaGreatDoorEvX
import Derived.Test.YtkfnmbmploakhaaGreatDoorWnH
import Derived.Laws.Externs
namespace Go.Proofs.YtkfnmbmploakhaaGreatDoor
open Ev
def x0 : Ext := ⟨fun f => if f = 302 then some Extern.BytealgIndexByte.indexByte else if f = 333 then some Extern.BytealgIndexByte.indexByte else none, fun _ _ => none, fun f => Nat.beq f 333⟩
noncomputable def fx302 : Func := (Tryz.prog.funcs[302]?).getD default
theorem fx302_at : Tryz.prog.funcs[302]? = some fx302 := by kernel_rfl
theorem fx302_name : (fx302.name == "runtime.NumGoroutine") = false := by kernel_rfl
theorem fx302_body : fx302.body.isNone = true := by kernel_rfl
theorem fx302_next : Extern.findNext fx302 = none := by kernel_rfl
theorem fx302_find : Extern.find fx302 = some Extern.BytealgIndexByte.indexByte := by kernel_rfl
noncomputable def fx333 : Func := (Tryz.prog.funcs[333]?).getD default
theorem fx333_at : Tryz.prog.funcs[333]? = some fx333 := by kernel_rfl
theorem fx333_name : (fx333.name == "runtime.NumGoroutine") = false := by kernel_rfl
theorem fx333_body : fx333.body.isNone = true := by kernel_rfl
theorem fx333_next : Extern.findNext fx333 = none := by kernel_rfl
theorem fx333_find : Extern.find fx333 = some Extern.BytealgIndexByte.indexByte := by kernel_rfl
theorem x0_ok : XOk Tryz.prog 5 x0 := by
  refine ⟨⟨?_, ?_⟩, fun f m x h => (by cases h)⟩
  · intro f e h args w
    unfold x0 at h
    simp only at h
    split at h
    · rename_i hf
      have h' := Option.some.inj h
      rw [← h', hf]
      exact run_callFunc_extern fx302_at fx302_name fx302_body fx302_next fx302_find args w
    · split at h
      · rename_i hf
        have h' := Option.some.inj h
        rw [← h', hf]
        exact run_callFunc_extern fx333_at fx333_name fx333_body fx333_next fx333_find args w
      · cases h
  · intro f e hb h a n c y bs w hl
    have hf : f = 333 := Nat.eq_of_beq_eq_true hb
    subst hf
    have h' : e = Extern.BytealgIndexByte.indexByte := (Option.some.inj h).symm
    subst h'
    have key : ∀ b : Value, Extern.BytealgIndexByte.indexByte #[b, y] = (do
        let b ← Extern.Bytes.bytesOf b
        let c ← Extern.Bytes.asByte y
        match (List.range b.size).find? fun i => b[i]! == c with
        | some i => pure (goInt i)
        | none => pure (goInt (-1))) := fun _ => rfl
    rw [key, key]
    simp only [Sem.run_bind, hl, Result.andThen_ok]
    rfl
def h0 : Hp := ⟨10, (.node (.node (.node .nil (.some (.row 393 64 64 ⟨1, .nil⟩ (.node (.node (.node (.node (.node (.node (.node .nil (.some (.int .u8 (.ofNat 6))) .nil) (.some (.int .u8 (.ofNat 5))) .nil) (.some (.int .u8 (.ofNat 4))) (.node .nil (.some (.int .u8 (.ofNat 11))) .nil)) (.some (.int .u8 (.ofNat 3))) (.node (.node .nil (.some (.int .u8 (.ofNat 16))) .nil) (.some (.int .u8 (.ofNat 22))) (.node .nil (.some (.int .u8 (.ofNat 10))) .nil))) (.some (.int .u8 (.ofNat 2))) (.node (.node (.node .nil (.some (.int .u8 (.ofNat 27))) .nil) (.some (.int .u8 (.ofNat 36))) (.node .nil (.some (.int .u8 (.ofNat 15))) .nil)) (.some (.int .u8 (.ofNat 50))) (.node (.node .nil (.some (.int .u8 (.ofNat 21))) .nil) (.some (.int .u8 (.ofNat 30))) (.node .nil (.some (.int .u8 (.ofNat 9))) .nil)))) (.some (.int .u8 (.ofNat 1))) (.node (.node (.node (.node .nil (.some (.int .u8 (.ofNat 55))) .nil) (.some (.int .u8 (.ofNat 47))) (.node .nil (.some (.int .u8 (.ofNat 26))) .nil)) (.some (.int .u8 (.ofNat 58))) (.node (.node .nil (.some (.int .u8 (.ofNat 35))) .nil) (.some (.int .u8 (.ofNat 39))) (.node .nil (.some (.int .u8 (.ofNat 14))) .nil))) (.some (.int .u8 (.ofNat 49))) (.node (.node (.node .nil (.some (.int .u8 (.ofNat 41))) .nil) (.some (.int .u8 (.ofNat 43))) (.node .nil (.some (.int .u8 (.ofNat 20))) .nil)) (.some (.int .u8 (.ofNat 29))) (.node (.node .nil (.some (.int .u8 (.ofNat 32))) .nil) (.some (.int .u8 (.ofNat 18))) (.node .nil (.some (.int .u8 (.ofNat 8))) .nil))))) (.some (.int .u8 (.ofNat 0))) (.node (.node (.node (.node (.node .nil (.some (.int .u8 (.ofNat 63))) .nil) (.some (.int .u8 (.ofNat 62))) (.node .nil (.some (.int .u8 (.ofNat 54))) .nil)) (.some (.int .u8 (.ofNat 61))) (.node (.node .nil (.some (.int .u8 (.ofNat 46))) .nil) (.some (.int .u8 (.ofNat 53))) (.node .nil (.some (.int .u8 (.ofNat 25))) .nil))) (.some (.int .u8 (.ofNat 57))) (.node (.node (.node .nil (.some (.int .u8 (.ofNat 60))) .nil) (.some (.int .u8 (.ofNat 45))) (.node .nil (.some (.int .u8 (.ofNat 34))) .nil)) (.some (.int .u8 (.ofNat 38))) (.node (.node .nil (.some (.int .u8 (.ofNat 52))) .nil) (.some (.int .u8 (.ofNat 24))) (.node .nil (.some (.int .u8 (.ofNat 13))) .nil)))) (.some (.int .u8 (.ofNat 56))) (.node (.node (.node (.node .nil (.some (.int .u8 (.ofNat 48))) .nil) (.some (.int .u8 (.ofNat 59))) (.node .nil (.some (.int .u8 (.ofNat 40))) .nil)) (.some (.int .u8 (.ofNat 42))) (.node (.node .nil (.some (.int .u8 (.ofNat 44))) .nil) (.some (.int .u8 (.ofNat 33))) (.node .nil (.some (.int .u8 (.ofNat 19))) .nil))) (.some (.int .u8 (.ofNat 28))) (.node (.node (.node .nil (.some (.int .u8 (.ofNat 37))) .nil) (.some (.int .u8 (.ofNat 51))) (.node .nil (.some (.int .u8 (.ofNat 31))) .nil)) (.some (.int .u8 (.ofNat 17))) (.node (.node .nil (.some (.int .u8 (.ofNat 23))) .nil) (.some (.int .u8 (.ofNat 12))) (.node .nil (.some (.int .u8 (.ofNat 7))) .nil)))))) .false)) .nil) .none .nil) (.some (.row 318 256 256 ⟨1, (.node .nil (.some (.int .u8 (.ofNat 0))) .nil)⟩ (.node (.node (.node .nil .none (.node .nil (.some (.int .u8 (.ofNat 1))) .nil)) .none (.node (.node .nil (.some (.int .u8 (.ofNat 1))) .nil) .none (.node .nil (.some (.int .u8 (.ofNat 1))) .nil))) .none (.node (.node (.node (.node (.node .nil (.some (.int .u8 (.ofNat 1))) .nil) .none .nil) .none .nil) .none (.node .nil (.some (.int .u8 (.ofNat 1))) .nil)) .none (.node (.node .nil (.some (.int .u8 (.ofNat 1))) .nil) .none .nil))) .false)) .nil)⟩
end Go.Proofs.YtkfnmbmploakhaaGreatDoor
