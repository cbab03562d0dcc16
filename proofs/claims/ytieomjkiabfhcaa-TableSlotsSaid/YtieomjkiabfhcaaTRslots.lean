/- What the document's Slots does: each slot once, put where it belongs. -/
import Derived.Test.YtieomjkiabfhcaaTIns
import Derived.Test.YtieomjkiabfhcaaTSlot
import Derived.BigRegion
import Derived.RegionTactic
namespace Go.Proofs.Ytieomjkiabfhcaa
open Go.RowKit
set_option linter.unusedVariables false

theorem flat_set2 : ∀ (L : List (Int × Int)) (j : Nat) (y : Int × Int), ((L.flatMap encP).set (j * 2) (.int .i64 y.1)).set (j * 2 + 1) (.int .i64 y.2) = (L.set j y).flatMap encP
  | [], j, y => by simp
  | z :: L, 0, y => by simp [encP]
  | z :: L, j + 1, y => by
    have ih := flat_set2 L j y
    rw [List.set_cons_succ, List.flatMap_cons, List.flatMap_cons, ← ih]
    simp only [encP, List.cons_append, List.nil_append]
    rw [show (j + 1) * 2 = j * 2 + 1 + 1 by omega]
    rfl
theorem own_put2 {w : World} {base g n cap j : Nat} {e : TypeId} {L : List (Int × Int)} (h : w.ownsRow base e 2 (.slice (some ⟨g, 0, none⟩) n cap) L.length (L.flatMap encP)) (y : Int × Int) :
    ((w.setCell ⟨g, j * 2, none⟩ (.int .i64 y.1)).setCell ⟨g, j * 2 + 1, none⟩ (.int .i64 y.2)).ownsRow base e 2 (.slice (some ⟨g, 0, none⟩) n cap) (L.set j y).length ((L.set j y).flatMap encP) := by
  refine ⟨by rw [flat_len encP_len], ?_⟩
  rcases h.2 with ⟨h0, _⟩ | ⟨g', cap', cur, e1, hb, hg, h1, h2, h3, h4⟩
  · cases h0
  · have hg' : g' = g := by cases e1; rfl
    have hcap : cap' = cap := by cases e1; rfl
    have hn : n = L.length := by cases e1; rfl
    subst hg'; subst hcap
    refine .inr ⟨g', cap', _, by rw [List.length_set, ← hn], hb, set_whole (set_whole hg _ _) _ _, by rw [List.length_set]; exact h1, h2, by simpa using h3, ?_⟩
    rw [Array.toList_setIfInBounds, Array.toList_setIfInBounds, List.length_set, List.take_set, List.take_set, h4]
    exact flat_set2 L j y
theorem own_cells {w : World} {base g n cap : Nat} {e : TypeId} {L : List (Int × Int)} (h : w.ownsRow base e 2 (.slice (some ⟨g, 0, none⟩) n cap) L.length (L.flatMap encP)) {j : Nat} {x : Int × Int} (hj : L[j]? = some x) :
    w.cell? ⟨g, j * 2, none⟩ = some (.int .i64 x.1) ∧ w.cell? ⟨g, j * 2 + 1, none⟩ = some (.int .i64 x.2) ∧ w.frozen? ⟨g, j * 2, none⟩ = false ∧ w.frozen? ⟨g, j * 2 + 1, none⟩ = false := by
  obtain ⟨hl, rfl⟩ := List.getElem?_eq_some_iff.1 hj
  rcases h.2 with ⟨h0, _⟩ | ⟨g', cap', cur, e1, hb, hg, h1, h2, h3, h4⟩
  · cases h0
  · have hg' : g' = g := by cases e1; rfl
    subst hg'
    obtain ⟨ao, cp, e2, hr, _⟩ := own_row encP_len h
    have hao : ao = some ⟨g', 0, none⟩ := by cases e2; rfl
    obtain ⟨b, o, e3, _, c0, c1⟩ := Row.pair hr hl
    rw [hao] at e3
    cases e3
    rw [Nat.zero_add] at c0 c1
    exact ⟨c0, c1, frozen_whole hg _, frozen_whole hg _⟩
end Go.Proofs.Ytieomjkiabfhcaa
