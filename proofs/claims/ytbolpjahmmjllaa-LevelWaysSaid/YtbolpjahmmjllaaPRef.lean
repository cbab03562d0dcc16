/- What the pile of the document's answer does: New, Least and Pop. -/
import Derived.Test.YtbolpjahmmjllaaPPop
namespace Go.Proofs.Ytbolpjahmmjllaa
open Go.RowKit Go.Sort
set_option linter.unusedVariables false

/-- A slice that reads as these pairs: nil, or some of block g. -/
def RowR (w : World) (G : Option Nat) (v : Value) (L : List (Int × Int)) : Prop :=
  (v = .slice none 0 0 ∧ L = [] ∧ G = none) ∨
  ∃ g o cap cur, G = some g ∧ v = .slice (some ⟨g, o, none⟩) L.length cap ∧ w.heap[g]? = some (.cells cur 99 (0, 0)) ∧ L.length ≤ cap ∧
    ∀ j, j < L.length → cur[o + j * 2]? = some (.int .i64 (L.getD j (0, 0)).1) ∧ cur[o + j * 2 + 1]? = some (.int .i64 (L.getD j (0, 0)).2)
theorem RowR.kept {S : Nat → Prop} {w w' : World} {G : Option Nat} {v : Value} {L : List (Int × Int)} (h : RowR w G v L) (k : Kept S w w') (hg : ∀ g, G = some g → ¬ S g) : RowR w' G v L := by
  rcases h with h | ⟨g, o, cap, cur, h1, h2, h3, h4⟩
  · exact .inl h
  · exact .inr ⟨g, o, cap, cur, h1, h2, k.old h3 (hg g h1), h4⟩
theorem RowR.lt {w : World} {G : Option Nat} {v : Value} {L : List (Int × Int)} (h : RowR w G v L) : ∀ g, G = some g → g < w.heap.size := by
  intro g hg
  rcases h with ⟨_, _, h⟩ | ⟨g', o, cap, cur, h, _, h3, _⟩
  · rw [h] at hg; cases hg
  · rw [h] at hg; cases hg; exact lt_whole h3
theorem RowR.len {w : World} {G : Option Nat} {v : Value} {L : List (Int × Int)} (h : RowR w G v L) : ∃ ao cap, v = .slice ao L.length cap := by
  rcases h with ⟨rfl, rfl, _⟩ | ⟨g, o, cap, cur, _, rfl, _⟩
  · exact ⟨none, 0, rfl⟩
  · exact ⟨_, cap, rfl⟩
theorem res_cells {w : World} {r b : Nat} {o : Obj} {V a0 a1 X0 X1 : Value} {t : TypeId} (h : w.heap[r]? = some (.cells #[a0, a1] t (0, 0))) (hn : r ≠ b) :
    ((((w.alloc o).setCell ⟨b, 1, none⟩ V).setCell ⟨r, 0, none⟩ X0).setCell ⟨r, 1, none⟩ X1).cell? ⟨r, 0, none⟩ = some X0 ∧ ((((w.alloc o).setCell ⟨b, 1, none⟩ V).setCell ⟨r, 0, none⟩ X0).setCell ⟨r, 1, none⟩ X1).cell? ⟨r, 1, none⟩ = some X1 := by
  have hw := set_whole (set_whole (set_other (alloc_whole h o) hn 1 V) 0 X0) 1 X1
  have e0 := cell_whole hw 0
  have e1 := cell_whole hw 1
  exact ⟨by simpa using e0, by simpa using e1⟩
end Go.Proofs.Ytbolpjahmmjllaa
