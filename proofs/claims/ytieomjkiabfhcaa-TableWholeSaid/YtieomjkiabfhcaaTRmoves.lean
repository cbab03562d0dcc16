/- Rows of movements of a call's own, an element of which is written; what the document's Moves gathers. -/
import Derived.Test.YtieomjkiabfhcaaTIns
import Derived.Test.YtieomjkiabfhcaaTOrd
import Derived.BigRegion
import Derived.RegionTactic
import Derived.IntWalk
namespace Go.Proofs.Ytieomjkiabfhcaa
open Go.RowKit
set_option linter.unusedVariables false

theorem flat_set3 : ∀ (L : List (Int × Int × Int)) (j : Nat) (y : Int × Int × Int), (((L.flatMap encK).set (j * 3) (.int .i64 y.1)).set (j * 3 + 1) (.int .i64 y.2.1)).set (j * 3 + 2) (.int .i64 y.2.2) = (L.set j y).flatMap encK
  | [], j, y => by simp
  | z :: L, 0, y => by simp [encK]
  | z :: L, j + 1, y => by
    have ih := flat_set3 L j y
    rw [List.set_cons_succ, List.flatMap_cons, List.flatMap_cons, ← ih]
    simp only [encK, List.cons_append, List.nil_append]
    rw [show (j + 1) * 3 = j * 3 + 1 + 1 + 1 by omega]
    rfl
theorem own_put3 {w : World} {base g n cap j : Nat} {e : TypeId} {L : List (Int × Int × Int)} (h : w.ownsRow base e 3 (.slice (some ⟨g, 0, none⟩) n cap) L.length (L.flatMap encK)) (y : Int × Int × Int) :
    (((w.setCell ⟨g, j * 3, none⟩ (.int .i64 y.1)).setCell ⟨g, j * 3 + 1, none⟩ (.int .i64 y.2.1)).setCell ⟨g, j * 3 + 2, none⟩ (.int .i64 y.2.2)).ownsRow base e 3 (.slice (some ⟨g, 0, none⟩) n cap) (L.set j y).length ((L.set j y).flatMap encK) := by
  refine ⟨by rw [flat_len encK_len], ?_⟩
  rcases h.2 with ⟨h0, _⟩ | ⟨g', cap', cur, e1, hb, hg, h1, h2, h3, h4⟩
  · cases h0
  · have hg' : g' = g := by cases e1; rfl
    have hcap : cap' = cap := by cases e1; rfl
    have hn : n = L.length := by cases e1; rfl
    subst hg'; subst hcap
    refine .inr ⟨g', cap', _, by rw [List.length_set, ← hn], hb, set_whole (set_whole (set_whole hg _ _) _ _) _ _, by rw [List.length_set]; exact h1, h2, by simpa using h3, ?_⟩
    rw [Array.toList_setIfInBounds, Array.toList_setIfInBounds, Array.toList_setIfInBounds, List.length_set, List.take_set, List.take_set, List.take_set, h4]
    exact flat_set3 L j y
theorem own_cells3 {w : World} {base g n cap : Nat} {e : TypeId} {L : List (Int × Int × Int)} (h : w.ownsRow base e 3 (.slice (some ⟨g, 0, none⟩) n cap) L.length (L.flatMap encK)) {j : Nat} {x : Int × Int × Int} (hj : L[j]? = some x) :
    w.cell? ⟨g, j * 3, none⟩ = some (.int .i64 x.1) ∧ w.cell? ⟨g, j * 3 + 1, none⟩ = some (.int .i64 x.2.1) ∧ w.cell? ⟨g, j * 3 + 2, none⟩ = some (.int .i64 x.2.2) ∧ (∀ q, w.frozen? ⟨g, q, none⟩ = false) := by
  obtain ⟨hl, rfl⟩ := List.getElem?_eq_some_iff.1 hj
  rcases h.2 with ⟨h0, _⟩ | ⟨g', cap', cur, e1, hb, hg, h1, h2, h3, h4⟩
  · cases h0
  · have hg' : g' = g := by cases e1; rfl
    subst hg'
    obtain ⟨ao, cp, e2, hr, _⟩ := own_row encK_len h
    have hao : ao = some ⟨g', 0, none⟩ := by cases e2; rfl
    obtain ⟨b, o, e3, _, c0, c1, c2⟩ := Row.tri hr hl
    rw [hao] at e3
    cases e3
    rw [Nat.zero_add] at c0 c1 c2
    exact ⟨c0, c1, c2, fun q => frozen_whole hg q⟩
/-- The movements of the keys that are found ahead of a place. -/
def mvAt (Z : List MoveT) (i : Nat) : List MoveT := ((firsts ((pairsOf Z).take i)).map (mkMove Z)).filter notNil
theorem mvAt_all (Z : List MoveT) : mvAt Z Z.length = mvs Z := by
  unfold mvAt mvs; rw [List.take_of_length_le (by simp [pairsOf])]
theorem mvAt_old {Z : List MoveT} {i : Nat} {p : Int × Int} (hi : (pairsOf Z)[i]? = some p) (h : p ∈ (pairsOf Z).take i) : mvAt Z (i + 1) = mvAt Z i ∧ firsts ((pairsOf Z).take (i + 1)) = firsts ((pairsOf Z).take i) := by
  have e : firsts ((pairsOf Z).take (i + 1)) = firsts ((pairsOf Z).take i) := by rw [take_snoc' hi, firsts_old h]
  exact ⟨by unfold mvAt; rw [e], e⟩
theorem mvAt_new {Z : List MoveT} {i : Nat} {p : Int × Int} (hi : (pairsOf Z)[i]? = some p) (h : p ∉ (pairsOf Z).take i) : (nSum Z p = 0 → mvAt Z (i + 1) = mvAt Z i) ∧ (nSum Z p ≠ 0 → mvAt Z (i + 1) = mvAt Z i ++ [(p.2, p.1, nSum Z p)]) ∧ firsts ((pairsOf Z).take (i + 1)) = firsts ((pairsOf Z).take i) ++ [p] := by
  have e : firsts ((pairsOf Z).take (i + 1)) = firsts ((pairsOf Z).take i) ++ [p] := by rw [take_snoc' hi, firsts_new h]
  refine ⟨fun h0 => ?_, fun h0 => ?_, e⟩
  · unfold mvAt; rw [e, List.map_append, List.filter_append]; simp [mkMove, notNil, h0]
  · unfold mvAt; rw [e, List.map_append, List.filter_append]; simp [mkMove, notNil, h0]
def allN (Z : List MoveT) (p : Int × Int) (k : Nat) : List Int := (places ((pairsOf Z).take k) p).map (nAt Z)
theorem allN_two {Z : List MoveT} {p : Int × Int} {k : Nat} (hk : k < Z.length) : ((Z[k].2.1, Z[k].1) = p → allN Z p (k + 1) = allN Z p k ++ [Z[k].2.2]) ∧ ((Z[k].2.1, Z[k].1) ≠ p → allN Z p (k + 1) = allN Z p k) := by
  have hp : (pairsOf Z)[k]? = some (Z[k].2.1, Z[k].1) := by unfold pairsOf; rw [List.getElem?_map, List.getElem?_eq_getElem hk]; rfl
  have hl : ((pairsOf Z).take k).length = k := by simp [pairsOf]; omega
  unfold allN
  rw [take_snoc' hp, places_snoc, hl, List.map_append]
  refine ⟨fun h => by rw [if_pos h]; simp [nAt_eq hk], fun h => by rw [if_neg h]; simp⟩
theorem allN_start {Z : List MoveT} {p : Int × Int} {i : Nat} (h : p ∉ (pairsOf Z).take i) : allN Z p i = [] := by unfold allN; rw [places_none h]; rfl
theorem allN_all (Z : List MoveT) (p : Int × Int) : (allN Z p Z.length).sum = nSum Z p := by unfold allN nSum; rw [List.take_of_length_le (by simp [pairsOf])]
theorem allN_len (Z : List MoveT) (p : Int × Int) (k : Nat) : (allN Z p k).length ≤ Z.length := by
  unfold allN; rw [List.length_map]; have h1 := places_len ((pairsOf Z).take k) p; rw [List.length_take] at h1
  have h2 : (pairsOf Z).length = Z.length := by simp [pairsOf]
  omega
theorem allN_in {Z : List MoveT} (hk : ∀ x ∈ Z, okK x) (p : Int × Int) (k : Nat) : In64 (allN Z p k) := by
  intro z hz
  obtain ⟨j, hj, rfl⟩ := List.mem_map.1 hz
  have hjl : j < Z.length := by
    have := (List.getElem?_eq_some_iff.1 (mem_places.1 hj)).1
    simp [pairsOf] at this; omega
  rw [nAt_eq hjl]
  exact (hk _ (List.getElem_mem hjl)).2.2
end Go.Proofs.Ytieomjkiabfhcaa
