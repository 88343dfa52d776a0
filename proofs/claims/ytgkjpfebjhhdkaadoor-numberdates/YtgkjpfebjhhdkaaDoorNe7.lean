/- A world that keeps all below another's end. -/
import Derived.Test.YtgkjpfebjhhdkaaDoorNe6
namespace Go.Proofs.YtgkjpfebjhhdkaaDoor
open Go.RowKit
def BlW (w W : World) : Prop := Below w.heap.size w W
theorem BlW.on {w W W' : World} (h : BlW w W) (b : Below W.heap.size W W') : BlW w W' := bl2 h b
end Go.Proofs.YtgkjpfebjhhdkaaDoor
