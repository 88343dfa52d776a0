/- HeadBytes and TailBytes of both sides. Condition: lengths that fit. -/
import Derived.Test.YtplnojohlbbalaaUb5
namespace Go.Proofs.Ytplnojohlbbalaa
open Go.RowKit
attribute [local go_sem] ext_eq app_eq get_eq
end Go.Proofs.Ytplnojohlbbalaa
