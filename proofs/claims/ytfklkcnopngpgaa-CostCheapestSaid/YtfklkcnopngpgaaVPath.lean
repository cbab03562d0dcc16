/- path of package level: the steps by which a node was found, the first one first. -/
import Derived.Test.YtfklkcnopngpgaaVSearch
import Derived.Deep.RegionHeld3
namespace Go.Proofs.Ytfklkcnopngpgaa
open Go.RowKit
set_option linter.unusedVariables false

theorem rep_set {α : Type} (z s : α) (k : Nat) (suf : List α) : (List.replicate (k + 1) z ++ suf).set k s = List.replicate k z ++ (s :: suf) := by
  rw [List.replicate_succ', List.append_assoc, List.set_append_right _ _ (by simp), List.length_replicate, Nat.sub_self]
  rfl
section
variable (b : Bool) (ao fo : Option Addr) (cap fc : Nat) (Z : List ArcT) (F : List Int) (g1 c1 g2 c2 N : Nat)
end
end Go.Proofs.Ytfklkcnopngpgaa
