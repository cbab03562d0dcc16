/- PlanStocks, PlanChecks. -/
import Derived.Test.YtbkmfjegbmjknaaCC
import Derived.Test.YtbkmfjegbmjknaaHAwk
namespace Go.Proofs.Ytbkmfjegbmjknaa
open Go.RowKit
set_option linter.unusedVariables false
theorem sameints_le (la lb : Nat) (A : List Int) (hla : A.length = la) (hlb : A.length = lb) (aa ab : Option Addr) (ca cb : Nat) (w : World) (ha : Lst encI w aa A) (hb : Lst encI w ab A) (hl : A.length ≤ 200000) :
    Calls Try.prog 28 #[.slice aa la ca, .slice ab lb cb] w fun e w' => e = .returned (.bool true) ∧ Below w.heap.size w w' := by
  subst hla
  subst hlb
  exact sameints_eq A aa ab ca cb w ha hb hl
section
variable (n : Int) (b : Bool) (ao : Option Addr) (nl cap : Nat) (Z : List ArcT) (s t H : Int) (lo : Option Addr) (ll lc : Nat) (L : List MoveT)
end
end Go.Proofs.Ytbkmfjegbmjknaa
