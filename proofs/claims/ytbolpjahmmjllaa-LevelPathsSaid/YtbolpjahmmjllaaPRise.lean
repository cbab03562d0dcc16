/- How a pair rises, and how one settles, in a pile's row: rise, firstBelow and settle. -/
import Derived.Test.YtbolpjahmmjllaaPPile
import Derived.Test.YtbolpjahmmjllaaBA
namespace Go.Proofs.Ytbolpjahmmjllaa
open Go.RowKit Go.Sort
set_option linter.unusedVariables false

theorem or_one (k : Nat) (h : k ≤ 65536) : bits .or .i64 (((k : Int) + 1) * 2) 1 = ((k : Int) + 1) * 2 + 1 := by
  have := i64_or_one (k + 1) (by omega)
  rwa [show ((k + 1 : Nat) : Int) = (k : Int) + 1 by omega] at this
/-- Of the places below k one has a pair that no other one of them comes before. -/
def FB (d : Array (Int × Int)) (k : Nat) (w : World) (e : Ending) (w' : World) : Prop :=
  ∃ c : Nat, e = .returned (.int .i64 ((c : Int) + 1)) ∧ par c = k ∧ 1 ≤ c ∧ c < d.size ∧ (∀ t, 1 ≤ t → t < d.size → par t = k → ltP d[t]! d[c]! = false) ∧ Below w.heap.size w w'
theorem par_two {t k : Nat} (h : par t = k) (h1 : 1 ≤ t) : t = 2 * k + 1 ∨ t = 2 * k + 2 := by unfold par at h; omega
end Go.Proofs.Ytbolpjahmmjllaa
