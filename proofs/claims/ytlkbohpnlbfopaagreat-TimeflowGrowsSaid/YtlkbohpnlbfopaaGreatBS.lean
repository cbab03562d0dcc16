/- Lemmas of the layers below, several texts in one. -/
import Derived.Test.YtlkbohpnlbfopaaGreatQLaid
import Derived.Test.YtlkbohpnlbfopaaGreatBR
import Derived.Shelf.SlSortFuncK.ComposeK
import Derived.Test.YtlkbohpnlbfopaaGreatBQ
import Derived.LoopTactic
import Derived.Carry
import Derived.OwnWalk
import Derived.Maps.AppendAt
namespace Go.Proofs.YtlkbohpnlbfopaaGreat
open Go.RowKit Go.Sort Go.Shelf
set_option linter.unusedVariables false
section
variable {α : Type} [Inhabited α] {enc : α → List Value} {k : Nat}
end
end Go.Proofs.YtlkbohpnlbfopaaGreat
namespace Go.Proofs.YtlkbohpnlbfopaaGreat
open Go.RowKit
set_option linter.unusedVariables false
end Go.Proofs.YtlkbohpnlbfopaaGreat
namespace Go.Proofs.YtlkbohpnlbfopaaGreat
open Go.RowKit Go.Sort Go.Shelf
set_option linter.unusedVariables false
abbrev MoveT := Int × Int × Int
end Go.Proofs.YtlkbohpnlbfopaaGreat
namespace Go.Proofs.YtlkbohpnlbfopaaGreat
open Go.RowKit
set_option linter.unusedVariables false
end Go.Proofs.YtlkbohpnlbfopaaGreat
