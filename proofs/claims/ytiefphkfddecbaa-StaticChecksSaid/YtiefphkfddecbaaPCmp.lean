/- The order of pairs as package pile has it: comparePairs tells of any two pairs which comes first; only new blocks are made. -/
import Derived.Test.YtiefphkfddecbaaPKept
import Derived.Test.YtiefphkfddecbaaRows
import Derived.Sort.Grow
namespace Go.Proofs.Ytiefphkfddecbaa
open Go.RowKit Go.Sort
set_option linter.unusedVariables false

/-- What cmp.Compare says of two numbers. -/
def cmpI (x y : Int) : Int := if x < y then -1 else if y < x then 1 else 0
/-- What comparePairs says of two pairs. -/
def cmpP (a b : Int × Int) : Int := if a.1 = b.1 then cmpI a.2 b.2 else cmpI a.1 b.1
/-- Does a pair come before another one? -/
def ltP (a b : Int × Int) : Bool := decide (a.1 < b.1 ∨ a.1 = b.1 ∧ a.2 < b.2)
theorem cmpP_lt (a b : Int × Int) : decide (cmpP a b < 0) = ltP a b := by
  unfold ltP cmpP cmpI
  apply decide_eq_decide.2
  repeat' split
  all_goals omega
theorem below_grow (w : World) (os : Array Obj) : Below w.heap.size w (grow w os) :=
  ⟨rfl, rfl, rfl, by simp [grow], fun k hk => by simp [grow, Array.getElem?_append_left hk]⟩

end Go.Proofs.Ytiefphkfddecbaa
