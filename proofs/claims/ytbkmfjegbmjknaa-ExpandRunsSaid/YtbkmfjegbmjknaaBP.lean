/- Lemmas of the layers below, several texts in one. -/
import Derived.Test.YtbkmfjegbmjknaaSup
import Derived.Test.YtbkmfjegbmjknaaBM
import Derived.Deep.LoopGhost
import Derived.Test.YtbkmfjegbmjknaaBN
import Derived.Lib.SliceRun
namespace Go.Proofs.Ytbkmfjegbmjknaa
open Go.RowKit
set_option linter.unusedVariables false
def mostV (Z : List ArcT) (s : Nat) : Int := capS Z (fun v => decide (v = s))
theorem le_mostV {Z : List ArcT} {N s t : Nat} {f : List Int} {k : Int} (hZ : ∀ a ∈ Z, frN a < N ∧ toN a < N) (hs : s < N) (hne : s ≠ t) (h : FlowST Z N s t f k) : k ≤ mostV Z s := weak hZ hs h ⟨by simp, by simpa using fun e => hne e.symm⟩
end Go.Proofs.Ytbkmfjegbmjknaa
namespace Go.Proofs.Ytbkmfjegbmjknaa
open Go.RowKit
set_option linter.unusedVariables false
section
variable (n : Int) (b : Bool) (ao : Option Addr) (cap : Nat) (Z : List ArcT)
end
end Go.Proofs.Ytbkmfjegbmjknaa
