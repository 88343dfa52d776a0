/- WalkNone's example, run once and for all; the rows that are looked at. Seat of WalkNone. No condition. -/
import Derived.Test.YtiegfgjmbohemaaGreatDoorWzB
import Derived.Test.YtiegfgjmbohemaaGreatDoorWzK7
namespace Go.Proofs.YtiegfgjmbohemaaGreatDoor
open Ev
noncomputable def cl : Cl := ⟨true, h0, 10⟩
theorem awRun : callA Tryz.prog x7 5 hint 100000 5 [] h0 cl.asks = .ok := by kernel_rfl
noncomputable def xA : Ext := x0.close 5 cl
theorem xA_ok : XOk Tryz.prog 5 xA := XOk.close x0_ok x7_ok Tryz.checked.mixed awRun h0_tabs (by show 5 ≤ 15; omega)
/-- A row of values that nobody looks into. -/
noncomputable def lk (s : Nat → Value) (n : Nat) : Tr V := Nat.rec (motive := fun _ => Tr V) .nil (fun k t => t.put k (.opq (s k))) n
noncomputable def hN (s : Nat → Value) (n : Nat) : Hp := ⟨15, h0.tr.put 5 (.look n (lk s n))⟩
/-- It tells true, and does not write the row. -/
noncomputable def says5 : V → Hp → Nat → Nat → Ans := fun v _ _ wr => match v with
  | .bool true => iff (Nat.testBit wr 5) .no .ok
  | _ => .no
noncomputable def wzArgs (f d R sk p : V) : List V := [.agg [f, d, R, sk], p]
end Go.Proofs.YtiegfgjmbohemaaGreatDoor
