/- Rows of arcs of a call's own, an element of which is written; what the document's Merge gathers. -/
import Derived.Test.YtieomjkiabfhcaaTGroups
import Derived.Test.YtieomjkiabfhcaaTRmoves
namespace Go.Proofs.Ytieomjkiabfhcaa
open Go.RowKit
set_option linter.unusedVariables false

theorem flat_set4 : ∀ (L : List ArcT) (j : Nat) (y : ArcT), ((((L.flatMap encA).set (j * 4) (.int .i64 y.1)).set (j * 4 + 1) (.int .i64 y.2.1)).set (j * 4 + 2) (.int .i64 y.2.2.1)).set (j * 4 + 3) (.int .i64 y.2.2.2) = (L.set j y).flatMap encA
  | [], j, y => by simp
  | z :: L, 0, y => by simp [encA]
  | z :: L, j + 1, y => by
    have ih := flat_set4 L j y
    rw [List.set_cons_succ, List.flatMap_cons, List.flatMap_cons, ← ih]
    simp only [encA, List.cons_append, List.nil_append]
    rw [show (j + 1) * 4 = j * 4 + 1 + 1 + 1 + 1 by omega]
    rfl
theorem own_put4 {w : World} {base g n cap j : Nat} {e : TypeId} {L : List ArcT} (h : w.ownsRow base e 4 (.slice (some ⟨g, 0, none⟩) n cap) L.length (L.flatMap encA)) (y : ArcT) :
    ((((w.setCell ⟨g, j * 4, none⟩ (.int .i64 y.1)).setCell ⟨g, j * 4 + 1, none⟩ (.int .i64 y.2.1)).setCell ⟨g, j * 4 + 2, none⟩ (.int .i64 y.2.2.1)).setCell ⟨g, j * 4 + 3, none⟩ (.int .i64 y.2.2.2)).ownsRow base e 4 (.slice (some ⟨g, 0, none⟩) n cap) (L.set j y).length ((L.set j y).flatMap encA) := by
  refine ⟨by rw [flat_len encA_len], ?_⟩
  rcases h.2 with ⟨h0, _⟩ | ⟨g', cap', cur, e1, hb, hg, h1, h2, h3, h4⟩
  · cases h0
  · have hg' : g' = g := by cases e1; rfl
    have hcap : cap' = cap := by cases e1; rfl
    have hn : n = L.length := by cases e1; rfl
    subst hg'; subst hcap
    refine .inr ⟨g', cap', _, by rw [List.length_set, ← hn], hb, set_whole (set_whole (set_whole (set_whole hg _ _) _ _) _ _) _ _, by rw [List.length_set]; exact h1, h2, by simpa using h3, ?_⟩
    rw [Array.toList_setIfInBounds, Array.toList_setIfInBounds, Array.toList_setIfInBounds, Array.toList_setIfInBounds, List.length_set, List.take_set, List.take_set, List.take_set, List.take_set, h4]
    exact flat_set4 L j y
theorem own_cells4 {w : World} {base g n cap : Nat} {e : TypeId} {L : List ArcT} (h : w.ownsRow base e 4 (.slice (some ⟨g, 0, none⟩) n cap) L.length (L.flatMap encA)) {j : Nat} {x : ArcT} (hj : L[j]? = some x) :
    w.cell? ⟨g, j * 4, none⟩ = some (.int .i64 x.1) ∧ w.cell? ⟨g, j * 4 + 1, none⟩ = some (.int .i64 x.2.1) ∧ w.cell? ⟨g, j * 4 + 2, none⟩ = some (.int .i64 x.2.2.1) ∧ w.cell? ⟨g, j * 4 + 3, none⟩ = some (.int .i64 x.2.2.2) ∧ (∀ q, w.frozen? ⟨g, q, none⟩ = false) := by
  obtain ⟨hl, rfl⟩ := List.getElem?_eq_some_iff.1 hj
  rcases h.2 with ⟨h0, _⟩ | ⟨g', cap', cur, e1, hb, hg, h1, h2, h3, h4⟩
  · cases h0
  · have hg' : g' = g := by cases e1; rfl
    subst hg'
    obtain ⟨ao, cp, e2, hr, _⟩ := own_row encA_len h
    have hao : ao = some ⟨g', 0, none⟩ := by cases e2; rfl
    obtain ⟨b, o, e3, _, c0, c1, c2, c3⟩ := Row.arc hr hl
    rw [hao] at e3
    cases e3
    rw [Nat.zero_add] at c0 c1 c2 c3
    exact ⟨c0, c1, c2, c3, fun q => frozen_whole hg q⟩
/-- What the arcs of a group take, up to a place. -/
def capsTo (Z : List ArcT) (g : List Nat) (k : Nat) : List Int := (g.take k).map (capAt Z)
theorem capsTo_step {Z : List ArcT} {g : List Nat} {k : Nat} (hk : k < g.length) : capsTo Z g (k + 1) = capsTo Z g k ++ [capAt Z g[k]] := by
  unfold capsTo; rw [take_snoc g hk, List.map_append]; rfl
theorem capsTo_len (Z : List ArcT) (g : List Nat) (k : Nat) : (capsTo Z g k).length ≤ g.length := by unfold capsTo; rw [List.length_map, List.length_take]; omega
theorem capsTo_all (Z : List ArcT) (g : List Nat) : capsTo Z g g.length = g.map (capAt Z) := by unfold capsTo; rw [List.take_length]
theorem caps_in {Z : List ArcT} (hk : OkA Z) {g : List Nat} (hg : ∀ p ∈ g, p < Z.length) (k : Nat) : In64 (capsTo Z g k) := by
  intro z hz
  unfold capsTo at hz
  obtain ⟨p, hp, rfl⟩ := List.mem_map.1 hz
  have hl := hg p (List.mem_of_mem_take hp)
  rw [capAt_eq hl]
  exact (hk _ (List.getElem_mem hl)).2.2.1
/-- A group: its key, its first place, and what it takes together. -/
theorem group_at {Z : List ArcT} {i : Nat} (hi : i < (grps (keysOf Z)).length) : ∃ kf, (firsts (keysOf Z))[i]? = some kf ∧ (grps (keysOf Z))[i] = places (keysOf Z) kf ∧ kf ∈ keysOf Z := by
  have h1 : i < (firsts (keysOf Z)).length := by rw [← grps_len]; exact hi
  have h2 := List.getElem?_eq_getElem h1
  refine ⟨_, h2, ?_, mem_firsts.1 (List.getElem_mem h1)⟩
  have h3 := grps_get h2
  rw [List.getElem?_eq_getElem hi] at h3
  exact Option.some.inj h3
theorem places_ne {α : Type} [DecidableEq α] {l : List α} {k : α} (h : k ∈ l) : 0 < (places l k).length := by
  obtain ⟨i, hi, e⟩ := List.getElem_of_mem h
  have : i ∈ places l k := mem_places.2 (by rw [List.getElem?_eq_getElem hi, e])
  exact List.length_pos_iff.2 (fun h0 => by rw [h0] at this; simp at this)
theorem place_key {Z : List ArcT} {kf : Int × Int × Int} {p : Nat} (h : p ∈ places (keysOf Z) kf) : ∃ hp : p < Z.length, kOf Z[p] = kf := by
  have h1 := mem_places.1 h
  obtain ⟨hl, e⟩ := List.getElem?_eq_some_iff.1 h1
  have hp : p < Z.length := by simpa [keysOf] using hl
  refine ⟨hp, ?_⟩
  simpa [keysOf] using e
theorem mrg_take {Z : List ArcT} {i : Nat} {kf : Int × Int × Int} (h : (firsts (keysOf Z))[i]? = some kf) : (mrg Z).take (i + 1) = (mrg Z).take i ++ [mkArc Z kf] :=
  take_snoc' (by unfold mrg; rw [List.getElem?_map, h]; rfl)
theorem mrg_len (Z : List ArcT) : (mrg Z).length = (grps (keysOf Z)).length := by unfold mrg; rw [List.length_map, grps_len]
theorem mrgS_of {Z : List ArcT} (h : ∀ i (hi : i < (grps (keysOf Z)).length), in64 (((grps (keysOf Z))[i].map (capAt Z)).sum)) : AllIn (mrgS Z) := by
  intro s hs
  unfold mrgS tots at hs
  obtain ⟨g, hg, rfl⟩ := List.mem_map.1 hs
  obtain ⟨i, hi, rfl⟩ := List.getElem_of_mem hg
  exact h i hi
theorem mrgS_not {Z : List ArcT} {i : Nat} (hi : i < (grps (keysOf Z)).length) (h : ¬ in64 (((grps (keysOf Z))[i].map (capAt Z)).sum)) : ¬ AllIn (mrgS Z) := by
  intro ha
  refine h (ha _ ?_)
  unfold mrgS tots
  exact List.mem_map.2 ⟨_, List.getElem_mem hi, rfl⟩
end Go.Proofs.Ytieomjkiabfhcaa
