/- Lemmas of the layers below, several texts in one. -/
import Derived.Test.YtlkbohpnlbfopaaGreatCB
import Derived.Test.YtlkbohpnlbfopaaGreatCI
import Derived.Test.YtlkbohpnlbfopaaGreatBT
import Derived.Test.YtlkbohpnlbfopaaGreatBS
namespace Go.Proofs.YtlkbohpnlbfopaaGreat
open Go.RowKit
set_option linter.unusedVariables false
section
variable (n : Int) (b : Bool) (ao : Option Addr) (nl cap : Nat) (Z : List ArcT) (s t H : Int)
end
end Go.Proofs.YtlkbohpnlbfopaaGreat
namespace Go.Proofs.YtlkbohpnlbfopaaGreat
open Go.RowKit
set_option linter.unusedVariables false
section
variable (n : Int) (b : Bool) (ao : Option Addr) (nl cap : Nat) (Z : List ArcT) (s t : Int) (H N : Nat)
end
end Go.Proofs.YtlkbohpnlbfopaaGreat
namespace Go.Proofs.YtlkbohpnlbfopaaGreat
open Go.RowKit
set_option linter.unusedVariables false
section
variable (b : Bool) (ao : Option Addr) (cap nl : Nat) (Z : List ArcT) (N i j hh : Nat) (lo : Option Addr) (lc ll : Nat) (L : List MoveT)
end
end Go.Proofs.YtlkbohpnlbfopaaGreat
namespace Go.Proofs.YtlkbohpnlbfopaaGreat
open Go.RowKit
set_option linter.unusedVariables false
section
variable (n : Int) (b : Bool) (ao : Option Addr) (cap nl : Nat) (Z : List ArcT) (s t H : Int) (lo : Option Addr) (lc ll : Nat) (L : List MoveT)
end
section
variable (b : Bool) (ao : Option Addr) (cap nl : Nat) (Z : List ArcT) (N i j hh : Nat) (lo : Option Addr) (lc ll : Nat) (L : List MoveT)
end
end Go.Proofs.YtlkbohpnlbfopaaGreat
namespace Go.Proofs.YtlkbohpnlbfopaaGreat
open Go.RowKit
set_option linter.unusedVariables false
theorem IRow.nil (w : World) (ga : Option Addr) : IRow w ga [] := fun i hi => absurd hi (by simp)
section
variable (n : Int) (b : Bool) (ao : Option Addr) (cap nl : Nat) (Z : List ArcT) (s t H : Int) (lo : Option Addr) (lc ll : Nat) (L : List MoveT)
end
section
variable (b : Bool) (ao : Option Addr) (cap nl : Nat) (Z : List ArcT) (N i j hh : Nat) (lo : Option Addr) (lc ll : Nat) (L : List MoveT)
end
section
variable (n : Int) (b : Bool) (ao : Option Addr) (cap nl : Nat) (Z : List ArcT) (s t H : Int) (lo : Option Addr) (lc ll : Nat) (L : List MoveT)
end
end Go.Proofs.YtlkbohpnlbfopaaGreat
