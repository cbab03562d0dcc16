/- What the pile's inner functions do, for any pile of at most 65536 pairs: Len, before, swap. -/
import Derived.Test.YtiefphkfddecbaaPCmp
import Derived.Sort.LotA
import Derived.LoopTactic
import Derived.Deep.QuietTactic
import Derived.BigQuiet
import Derived.BigRegion
import Derived.Deep.RegionHeld3
import Derived.ChangeAlike
import Derived.IntWalk
namespace Go.Proofs.Ytiefphkfddecbaa
open Go.RowKit Go.Sort
set_option linter.unusedVariables false

theorem cell_grow {w : World} {os : Array Obj} {a : Addr} {v : Value} (h : w.cell? a = some v) : (grow w os).cell? a = some v := by
  rw [(below_grow w os).cell (block_lt_of_cell h)]; exact h
theorem get_set (cur : Array Value) (k t : Nat) (u : Value) (h : k < cur.size) : (cur.setIfInBounds k u)[t]? = if k = t then some u else cur[t]? := by
  rw [Array.getElem?_setIfInBounds]
  by_cases e : k = t
  · rw [if_pos e, if_pos e]; simp [h]
  · rw [if_neg e, if_neg e]
end Go.Proofs.Ytiefphkfddecbaa
