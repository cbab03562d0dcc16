/- Bottle of package ebbtideref08: the least room of steps. -/
import Derived.Test.YtbgnoaijgngifaaVHas
import Derived.Deep.RegionHeld3
namespace Go.Proofs.Ytbgnoaijgngifaa
open Go.RowKit
set_option linter.unusedVariables false

/-- A step whose room can be reckoned. -/
def StepOk (Z : List ArcT) (F : List Int) (y : StepT) : Prop := ∃ (p : Nat) (a : ArcT) (q : Bool), y = ((p : Int), q) ∧ Z[p]? = some a ∧ F[p]? = some (atI F p) ∧ 0 ≤ atI F p ∧ atI F p ≤ 4398046511104 ∧ 0 ≤ a.2.2.1 ∧ a.2.2.1 ≤ 4398046511104
theorem StepOk.left {Z : List ArcT} {F : List Int} {y : StepT} (h : StepOk Z F y) : -4398046511104 ≤ leftS Z F y ∧ leftS Z F y ≤ 4398046511104 := by
  obtain ⟨p, a, q, rfl, ha, _, h1, h2, h3, h4⟩ := h
  obtain ⟨l0, l1⟩ := left_at (F := F) ha
  cases q
  · rw [l0]; unfold capN; omega
  · rw [l1]; omega
section
variable (n : Int) (b : Bool) (ao fo lo : Option Addr) (cap fc lc : Nat) (Z : List ArcT) (F : List Int) (L : List StepT)
end
end Go.Proofs.Ytbgnoaijgngifaa
