/- Lemmas of the layers below, several texts in one. -/
import Derived.Test.YtlkbohpnlbfopaaBL
import Derived.BigQuiet
import Derived.Deep.QuietTactic
import Derived.Deep.RegionHeld3
import Derived.Test.YtlkbohpnlbfopaaBH
import Derived.Deep.AppendLies
import Derived.Deep.RegionLaw
namespace Go.Proofs.Ytlkbohpnlbfopaa
open Go.RowKit
set_option linter.unusedVariables false
def seekN (Z : List ArcT) (F : List Int) (N s : Nat) : List Ent := seekK (fromS Z) (toS Z) (stepsK Z F Z.length) s N
section
variable (p tb sg N : Nat) (b : Bool) (ao : Option Addr) (cap : Nat) (Z : List ArcT) (sc tc : Nat) (fo : Option Addr) (fc : Nat) (F : List Int) (lo : Option Addr) (lc : Nat) (L T : List Int)
end
end Go.Proofs.Ytlkbohpnlbfopaa
