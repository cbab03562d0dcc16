/- What the pile's inner functions do, for any pile of at most 65536 pairs: Len, before, swap. -/
import Derived.Test.YtbolpjahmmjllaaBA
import Derived.Sort.LotA
import Derived.LoopTactic
import Derived.Deep.QuietTactic
import Derived.BigQuiet
import Derived.BigRegion
import Derived.Deep.RegionHeld3
import Derived.ChangeAlike
import Derived.IntWalk
namespace Go.Proofs.Ytbolpjahmmjllaa
open Go.RowKit Go.Sort
set_option linter.unusedVariables false

/-- A row of pairs in a block of its own: nil, or block g from its first cell on. -/
def RowP (w : World) (G : Option Nat) (v : Value) (d : Array (Int × Int)) : Prop :=
  (v = .slice none 0 0 ∧ d = #[] ∧ G = none) ∨
  ∃ g cap cur, G = some g ∧ v = .slice (some ⟨g, 0, none⟩) d.size cap ∧ w.heap[g]? = some (.cells cur 99 (0, 0)) ∧ d.size ≤ cap ∧ cap ≤ maxLen ∧ cur.size = cap * 2 ∧
    ∀ j, j < d.size → cur[j * 2]? = some (.int .i64 d[j]!.1) ∧ cur[j * 2 + 1]? = some (.int .i64 d[j]!.2)
theorem RowP.kept {S : Nat → Prop} {w w' : World} {G : Option Nat} {v : Value} {d : Array (Int × Int)} (h : RowP w G v d) (k : Kept S w w') (hg : ∀ g, G = some g → ¬ S g) : RowP w' G v d := by
  rcases h with h | ⟨g, cap, cur, h1, h2, h3, h4⟩
  · exact .inl h
  · exact .inr ⟨g, cap, cur, h1, h2, k.old h3 (hg g h1), h4⟩
theorem RowP.lt {w : World} {G : Option Nat} {v : Value} {d : Array (Int × Int)} (h : RowP w G v d) : ∀ g, G = some g → g < w.heap.size := by
  intro g hg
  rcases h with ⟨_, _, h⟩ | ⟨g', cap, cur, h, _, h3, _⟩
  · rw [h] at hg; cases hg
  · rw [h] at hg; cases hg; exact lt_whole h3
theorem RowP.len {w : World} {G : Option Nat} {v : Value} {d : Array (Int × Int)} (h : RowP w G v d) : ∃ ao cap, v = .slice ao d.size cap := by
  rcases h with ⟨rfl, rfl, _⟩ | ⟨g, cap, cur, _, rfl, _⟩
  · exact ⟨none, 0, rfl⟩
  · exact ⟨_, cap, rfl⟩
theorem cell_grow {w : World} {os : Array Obj} {a : Addr} {v : Value} (h : w.cell? a = some v) : (grow w os).cell? a = some v := by
  rw [(below_grow w os).cell (block_lt_of_cell h)]; exact h
theorem get_set (cur : Array Value) (k t : Nat) (u : Value) (h : k < cur.size) : (cur.setIfInBounds k u)[t]? = if k = t then some u else cur[t]? := by
  rw [Array.getElem?_setIfInBounds]
  by_cases e : k = t
  · rw [if_pos e, if_pos e]; simp [h]
  · rw [if_neg e, if_neg e]
end Go.Proofs.Ytbolpjahmmjllaa
