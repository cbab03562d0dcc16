/- Lists of numbers, steps and lists of steps that came in: which they are, and where they lie. -/
import Derived.Test.YtlkbohpnlbfopaaAFrame
import Derived.Test.YtlkbohpnlbfopaaBD
namespace Go.Proofs.Ytlkbohpnlbfopaa
open Go.ChangeShapes Go.WideShapes Go.ChangeAt Go.RowKit Go.ChangeMaps
set_option linter.unusedVariables false
end Go.Proofs.Ytlkbohpnlbfopaa
