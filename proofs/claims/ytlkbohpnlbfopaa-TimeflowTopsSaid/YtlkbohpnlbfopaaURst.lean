/- The document's answer: a node's stock at a point of time, whatever it is. -/
import Derived.Test.YtlkbohpnlbfopaaCC
namespace Go.Proofs.Ytlkbohpnlbfopaa
open Go.RowKit
set_option linter.unusedVariables false
section
variable (n : Int) (b : Bool) (ao : Option Addr) (nl cap : Nat) (Z : List ArcT) (s t : Int) (H N : Nat)
end
end Go.Proofs.Ytlkbohpnlbfopaa
