/- Lemmas of the layers below, several texts in one. -/
import Derived.Test.YtmflleifglefiaaBL
import Derived.BigQuiet
import Derived.Deep.QuietTactic
import Derived.Deep.RegionHeld3
import Derived.Test.YtmflleifglefiaaBH
import Derived.Test.YtmflleifglefiaaVSght
import Derived.Deep.AppendLies
import Derived.Deep.RegionLaw
namespace Go.Proofs.Ytmflleifglefiaa
open Go.RowKit
set_option linter.unusedVariables false

/-- The cells of the network that are read. -/
def HeldP (p N : Nat) (b : Bool) (ao : Option Addr) (zl cap : Nat) (W : World) : Prop := W.cell? ⟨p, 0, none⟩ = some (.int .i64 (N : Int)) ∧ W.cell? ⟨p, 1, none⟩ = some (.bool b) ∧ W.cell? ⟨p, 2, none⟩ = some (.slice ao zl cap)
def seekN (Z : List ArcT) (F : List Int) (N s : Nat) : List Ent := seekK (fromS Z) (toS Z) (stepsK Z F Z.length) s N
section
variable (p tb sg N : Nat) (b : Bool) (ao : Option Addr) (cap : Nat) (Z : List ArcT) (sc tc : Nat) (fo : Option Addr) (fc : Nat) (F : List Int) (lo : Option Addr) (lc : Nat) (L T : List Int)
end
end Go.Proofs.Ytmflleifglefiaa
