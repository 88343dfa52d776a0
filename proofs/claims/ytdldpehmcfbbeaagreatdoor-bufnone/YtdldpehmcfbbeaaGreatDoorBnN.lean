/- BufNone's example, run once and for all; the memory with the bytes that come in. Seat of BufNone. No condition. -/
import Derived.Test.YtdldpehmcfbbeaaGreatDoorBnB
import Derived.Test.YtdldpehmcfbbeaaGreatDoorEvP3
namespace Go.Proofs.YtdldpehmcfbbeaaGreatDoor
open Ev
noncomputable def cl : Cl := ⟨true, h0, 10⟩
theorem awRun : callA Tryz.prog x0 5 hint 100000 18 [] h0 cl.asks = .ok := by kernel_rfl
noncomputable def xA : Ext := x0.close 18 cl
theorem xA_ok : XOk Tryz.prog 5 xA := XOk.close x0_ok x0_ok Tryz.checked.mixed awRun h0_tabs (by show 5 ≤ 15; omega)
noncomputable def hA : Hp := ⟨15, h0.tr.put 5 .ones⟩
/-- It tells true, and does not write the row that came in. -/
noncomputable def says5 : V → Hp → Nat → Nat → Ans := fun v _ _ wr => match v with
  | .bool true => iff (Nat.testBit wr 5) .no .ok
  | _ => .no
/-- The whole function: at a row of n bytes of the block j. -/
noncomputable def runB (j n L : Nat) (H : Hp) (fd : Value) : Ans := callA Tryz.prog xA 5 hint 100000 3 [.vs j n 1000 L, .opq fd] H says5
end Go.Proofs.YtdldpehmcfbbeaaGreatDoor
