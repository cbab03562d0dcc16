/- The walk of statement TableMoves. -/
import Derived.Test.YtieomjkiabfhcaaTMovs
import Derived.Test.YtieomjkiabfhcaaTMovl
namespace Go.Proofs.Ytieomjkiabfhcaa
open Go.RowKit
theorem moves_law (w : World) (ao : Option Addr) (len cap : Nat) (Z : List MoveT) (hl : Z.length = len) (hm : len ≤ maxLen) (hr : Row encK 3 w ao Z) (hk : ∀ x ∈ Z, okK x) :
    Calls Try.prog 9 #[.slice ao len cap] w fun e w' => e = .returned (.bool true) ∧ Below w.heap.size w w' :=
  moves_law_from rmoves_some w ao len cap Z hl hm hr hk
end Go.Proofs.Ytieomjkiabfhcaa
