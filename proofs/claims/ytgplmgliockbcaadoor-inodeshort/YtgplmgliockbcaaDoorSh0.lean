/- What the walks of InodeShort share. -/
import Derived.Test.YtgplmgliockbcaaDoorShortP
import Derived.Test.YtgplmgliockbcaaDoorRoom
import Derived.Test.YtgplmgliockbcaaDoorBase
namespace Go.Proofs.YtgplmgliockbcaaDoor
open Go.RowKit
theorem fit_reg2 : fitB 33152 = true := by decide +kernel
theorem mod_of_below {w w' : World} (h : Below w.heap.size w w') : Mod (fun _ => False) w w' := ⟨h.os, h.tape, h.output, h.size, fun k hk _ => h.block k hk⟩
end Go.Proofs.YtgplmgliockbcaaDoor
