/- What Push of a full pile, Least and Pop of package pile do. -/
import Derived.Test.YtbolpjahmmjllaaPPush
namespace Go.Proofs.Ytbolpjahmmjllaa
open Go.RowKit Go.Sort
set_option linter.unusedVariables false

theorem old_block {w w2 : World} {o : Obj} (hb : Below (w.alloc o).heap.size (w.alloc o) w2) : w2.heap[w.heap.size]? = some o := (hb.block _ (by simp)).trans (heap_alloc_new w o)
/-- The last pair of a row goes ahead, and the row is one shorter. -/
theorem swp_pop (d : Array (Int × Int)) (h : 0 < d.size) : (swp d 0 (d.size - 1)).toList = (swp d 0 (d.size - 1)).pop.toList ++ [d[0]!] := by
  have hs : (swp d 0 (d.size - 1)).size = d.size := swp_size _ _ _
  apply List.ext_getElem?
  intro t
  by_cases ht : t < d.size - 1
  · rw [List.getElem?_append_left (by simp [hs]; omega)]
    simp [hs, ht]
  · by_cases e : t = d.size - 1
    · rw [List.getElem?_append_right (by simp [hs]; omega)]
      have h1 := swp_get d h (show d.size - 1 < d.size by omega) t
      rw [if_pos e, getElem!_pos _ _ (by omega)] at h1
      rw [show t - ((swp d 0 (d.size - 1)).pop.toList).length = 0 by simp [hs]; omega, Array.getElem?_toList, Array.getElem?_eq_getElem (by omega), h1]
      rfl
    · rw [List.getElem?_eq_none (by simp [hs]; omega), List.getElem?_eq_none (by simp [hs]; omega)]
theorem Heap.popped {d : Array (Int × Int)} (h : Heap d) (hd : 0 < d.size) : Down (swp d 0 (d.size - 1)).pop 0 := by
  have hs : (swp d 0 (d.size - 1)).size = d.size := swp_size _ _ _
  have get : ∀ t, 1 ≤ t → t < d.size - 1 → ((swp d 0 (d.size - 1)).pop)[t]! = d[t]! := fun t h1 ht => by
    rw [getElem!_pos _ t (by simp [hs]; omega), Array.getElem_pop]
    have := swp_get d hd (show d.size - 1 < d.size by omega) t
    rw [if_neg (by omega), if_neg (by omega), getElem!_pos _ t (by omega)] at this
    exact this
  refine ⟨fun t h1 h2 hn => ?_, fun t h1 h2 he h0 => by omega⟩
  have h2' : t < d.size - 1 := by simpa [hs] using h2
  have hp : par t < t := by unfold par; omega
  rw [get t h1 h2', get _ (by omega) (by omega)]
  exact h t h1 (by omega)
end Go.Proofs.Ytbolpjahmmjllaa
