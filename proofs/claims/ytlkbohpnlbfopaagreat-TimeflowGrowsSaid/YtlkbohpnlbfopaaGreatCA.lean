/- Lemmas of the layers below, several texts in one. -/
import Derived.Test.YtlkbohpnlbfopaaGreatBS
import Derived.Test.YtlkbohpnlbfopaaGreatCI
import Derived.Deep.MidRow
import Derived.Test.YtlkbohpnlbfopaaGreatBQ
import Derived.Maps.OwnOps
import Derived.Test.YtlkbohpnlbfopaaGreatCH
import Derived.BigQuiet
namespace Go.Proofs.YtlkbohpnlbfopaaGreat
set_option linter.unusedVariables false
end Go.Proofs.YtlkbohpnlbfopaaGreat
namespace Go.Proofs.YtlkbohpnlbfopaaGreat
open Go.RowKit
set_option linter.unusedVariables false
section
variable {w w' : World} {g n : Nat} {G : Nat → Nat → Int}
end
end Go.Proofs.YtlkbohpnlbfopaaGreat
namespace Go.Proofs.YtlkbohpnlbfopaaGreat
open Go.RowKit
set_option linter.unusedVariables false
section
variable (n : Int) (b : Bool) (ao : Option Addr) (nl cap : Nat) (Z : List ArcT) (s t H : Int) (bm : Nat)
end
end Go.Proofs.YtlkbohpnlbfopaaGreat
namespace Go.Proofs.YtlkbohpnlbfopaaGreat
open Go.RowKit
set_option linter.unusedVariables false
section
variable {Z : List ArcT} {f : Int × Int → Int} {H : Nat}
end
section
variable (n : Int) (b : Bool) (ao : Option Addr) (nl cap : Nat) (Z : List ArcT) (s t : Int) (bm : Nat)
end
end Go.Proofs.YtlkbohpnlbfopaaGreat
namespace Go.Proofs.YtlkbohpnlbfopaaGreat
open Go.RowKit
set_option linter.unusedVariables false
section
variable (n : Int) (b : Bool) (ao : Option Addr) (nl cap : Nat) (Z : List ArcT) (s t : Int) (bm : Nat)
end
end Go.Proofs.YtlkbohpnlbfopaaGreat
namespace Go.Proofs.YtlkbohpnlbfopaaGreat
open Go.RowKit
set_option linter.unusedVariables false
section
variable (n : Int) (b : Bool) (ao : Option Addr) (nl cap : Nat) (bm : Nat)
end
end Go.Proofs.YtlkbohpnlbfopaaGreat
