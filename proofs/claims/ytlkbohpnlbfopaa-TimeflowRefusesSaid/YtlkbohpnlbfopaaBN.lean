/- Lemmas of the layers below, several texts in one. -/
import Derived.Test.YtlkbohpnlbfopaaBH
import Derived.Deep.LoopGhost
import Derived.Test.YtlkbohpnlbfopaaBC
import Derived.Test.YtlkbohpnlbfopaaBD
import Derived.IntWalk
import Derived.BigQuiet
import Derived.Deep.QuietTactic
namespace Go.Proofs.Ytlkbohpnlbfopaa
open Go.RowKit
set_option linter.unusedVariables false
section
variable (n : Int) (b : Bool) (ao lo : Option Addr) (cap lc : Nat) (Z : List ArcT) (L : List StepT) (N : Nat)
end
end Go.Proofs.Ytlkbohpnlbfopaa
namespace Go.Proofs.Ytlkbohpnlbfopaa
open Go.RowKit
set_option linter.unusedVariables false
section
variable (n : Int) (b : Bool) (ao fo : Option Addr) (cap fc : Nat) (Z : List ArcT) (F : List Int)
end
end Go.Proofs.Ytlkbohpnlbfopaa
namespace Go.Proofs.Ytlkbohpnlbfopaa
open Go.RowKit
set_option linter.unusedVariables false
end Go.Proofs.Ytlkbohpnlbfopaa
namespace Go.Proofs.Ytlkbohpnlbfopaa
open Go.RowKit
set_option linter.unusedVariables false
section
variable (n : Int) (b : Bool) (ao fo : Option Addr) (len cap fl fc : Nat) (Z : List ArcT) (F : List Int)
end
end Go.Proofs.Ytlkbohpnlbfopaa
namespace Go.Proofs.Ytlkbohpnlbfopaa
open Go.RowKit
set_option linter.unusedVariables false
section
variable (n : Int) (b : Bool) (ao fo : Option Addr) (len cap fl fc : Nat) (Z : List ArcT) (F : List Int)
end
end Go.Proofs.Ytlkbohpnlbfopaa
