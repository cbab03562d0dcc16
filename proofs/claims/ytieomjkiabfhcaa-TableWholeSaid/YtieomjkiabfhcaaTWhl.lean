/- Plain lists for statement TableWhole: each place is in one group; what is merged is merged already; a row of counts of a call's own. -/
import Derived.Test.YtieomjkiabfhcaaTRmg
namespace Go.Proofs.Ytieomjkiabfhcaa
open Go.RowKit
set_option linter.unusedVariables false

/-- How often each place was met. -/
def hadL (n : Nat) (hits : List Nat) : List Int := (List.range n).map fun p => ((hits.count p : Nat) : Int)
theorem hadL_len (n : Nat) (hits : List Nat) : (hadL n hits).length = n := by simp [hadL]
theorem hadL_at {n : Nat} {hits : List Nat} {p : Nat} (hp : p < n) : (hadL n hits)[p]? = some ((hits.count p : Nat) : Int) := by simp [hadL, hp]
theorem hadL_nil (n : Nat) : hadL n [] = List.replicate n 0 := by
  apply List.ext_getElem?
  intro i
  by_cases h : i < n
  · rw [hadL_at h]; simp [h]
  · rw [List.getElem?_eq_none (by rw [hadL_len]; omega), List.getElem?_eq_none (by simp; omega)]
theorem hadL_step {n : Nat} {hits : List Nat} {p : Nat} (hp : p < n) : (hadL n hits).set p (((hits.count p : Nat) : Int) + 1) = hadL n (hits ++ [p]) := by
  apply List.ext_getElem?
  intro i
  rw [List.getElem?_set]
  by_cases h : i < n
  · rw [hadL_at h, hadL_at h, List.count_append, List.count_singleton]
    by_cases e : p = i
    · subst e; simp [hadL_len, hp]
    · simp [e]
  · rw [List.getElem?_eq_none (by rw [hadL_len]; omega), List.getElem?_eq_none (by rw [hadL_len]; omega)]
    by_cases e : p = i
    · omega
    · simp [e]
section
variable {α : Type} [DecidableEq α]
theorem nodup_count_one {l : List α} (hn : l.Nodup) {x : α} (hx : x ∈ l) : l.count x = 1 := by
  have h1 := List.nodup_iff_count.1 hn x
  have h2 := List.count_pos_iff.2 hx
  omega
theorem places_count (l : List α) (k : α) (p : Nat) (x : α) (hp : l[p]? = some x) : (places l k).count p = if k = x then 1 else 0 := by
  have hn : (places l k).Nodup := (places_sorted l k).imp (fun h => Nat.ne_of_lt h)
  by_cases e : k = x
  · rw [if_pos e]
    exact nodup_count_one hn (mem_places.2 (by rw [hp, e]))
  · rw [if_neg e]
    apply List.count_eq_zero.2
    intro h
    have := mem_places.1 h
    rw [hp] at this
    exact e (Option.some.inj this).symm
theorem flatten_count (l : List α) (p : Nat) (x : α) (hp : l[p]? = some x) : ∀ F : List α, ((F.map (places l)).flatten).count p = F.count x
  | [] => rfl
  | k :: F => by
    rw [List.map_cons, List.flatten_cons, List.count_append, flatten_count l p x hp F, places_count l k p x hp, List.count_cons]
    by_cases e : k = x
    · simp [e]; omega
    · simp [e]
/-- Each place is in one group. -/
theorem grps_once (l : List α) {p : Nat} (hp : p < l.length) : ((grps l).flatten).count p = 1 := by
  have h1 : l[p]? = some l[p] := List.getElem?_eq_getElem hp
  unfold grps
  rw [flatten_count l p _ h1]
  exact nodup_count_one (nodup_firsts l) (mem_firsts.2 (List.getElem_mem hp))
end
/-- The first place of a key. -/
theorem fnd_head {α : Type} [DecidableEq α] {l : List α} {k : α} {p : Nat} (h : (places l k)[0]? = some p) : fnd l k = (p : Int) := by
  unfold fnd
  cases e : places l k with
  | nil => rw [e] at h; simp at h
  | cons i r => rw [e] at h; simp at h; subst h; rfl
/-- What all of a key take, as a sum over the arcs of that key. -/
theorem capSum_filter (Z : List ArcT) (k : Int × Int × Int) : capSum Z k = ((Z.filter fun a => decide (kOf a = k)).map fun a => a.2.2.1).sum := by
  refine snoc_induct (P := fun Z => capSum Z k = ((Z.filter fun a => decide (kOf a = k)).map fun a => a.2.2.1).sum) rfl ?_ Z
  intro Z a ih
  have hk : keysOf (Z ++ [a]) = keysOf Z ++ [kOf a] := by simp [keysOf]
  have hc : ∀ i, i < Z.length → capAt (Z ++ [a]) i = capAt Z i := fun i hi => by
    rw [capAt_eq (by simp; omega), capAt_eq hi, List.getElem_append_left hi]
  have hpl : (places (keysOf Z) k).map (capAt (Z ++ [a])) = (places (keysOf Z) k).map (capAt Z) := by
    apply List.map_congr_left
    intro i hi
    have := (List.getElem?_eq_some_iff.1 (mem_places.1 hi)).1
    exact hc i (by simpa [keysOf] using this)
  have hkl : (keysOf Z).length = Z.length := by simp [keysOf]
  unfold capSum at ih ⊢
  rw [hk, places_snoc, List.map_append, List.sum_append, hpl, ih, List.filter_append, List.map_append, List.sum_append]
  congr 1
  by_cases e : kOf a = k
  · rw [if_pos e, hkl]
    rw [List.filter_cons_of_pos (by simpa using e)]
    simp [capAt]
  · rw [if_neg e, List.filter_cons_of_neg (by simpa using e)]; rfl
/-- What is merged already stays. -/
theorem mrg_again {M : List ArcT} (hn : (keysOf M).Nodup) : mrg M = M ∧ mrgS M = M.map fun m => m.2.2.1 := by
  have e : ∀ m ∈ M, mkArc M (kOf m) = m := by
    intro m hm
    have : capSum M (kOf m) = m.2.2.1 := by
      rw [capSum_filter, filter_one_of (f := kOf) hm hn]; simp
    unfold mkArc; rw [this]; rfl
  constructor
  · unfold mrg
    rw [firsts_of_nodup _ hn]
    unfold keysOf; rw [List.map_map]
    conv => rhs; rw [← List.map_id M]
    apply List.map_congr_left
    intro m hm; exact e m hm
  · rw [mrgS_eq, firsts_of_nodup _ hn]
    unfold keysOf; rw [List.map_map]
    apply List.map_congr_left
    intro m hm
    exact congrArg (fun x : ArcT => x.2.2.1) (e m hm)
theorem mrg_twice {Z M : List ArcT} (h : M.Perm (mrg Z)) (ha : AllIn (mrgS Z)) : mrg M = M ∧ AllIn (mrgS M) := by
  have hn : (keysOf M).Nodup := by
    have h1 := (h.map kOf).nodup_iff.2 (by rw [mrg_keys]; exact nodup_firsts _)
    exact h1
  obtain ⟨h1, h2⟩ := mrg_again hn
  refine ⟨h1, ?_⟩
  rw [h2]
  intro s hs
  obtain ⟨m, hm, rfl⟩ := List.mem_map.1 hs
  obtain ⟨k, hk, rfl⟩ := List.mem_map.1 (h.mem_iff.1 hm)
  rw [mrgS_eq] at ha
  exact ha _ (List.mem_map.2 ⟨k, hk, rfl⟩)
theorem mrg_ok {Z M : List ArcT} (h : M.Perm (mrg Z)) (hk : OkA Z) (ha : AllIn (mrgS Z)) : OkA M := by
  intro x hx
  obtain ⟨k, hk2, rfl⟩ := List.mem_map.1 (h.mem_iff.1 hx)
  have h3 := ok_keys hk k (mem_firsts.1 hk2)
  rw [mrgS_eq] at ha
  exact ⟨h3.1, h3.2.1, ha _ (List.mem_map.2 ⟨k, hk2, rfl⟩), h3.2.2⟩
theorem flat_encI : ∀ l : List Int, l.flatMap encI = l.map fun z => Value.int .i64 z
  | [] => rfl
  | z :: l => by rw [List.flatMap_cons, flat_encI l]; rfl
theorem own_put1 {w : World} {base g n cap j : Nat} {e : TypeId} {L : List Int} (h : w.ownsRow base e 1 (.slice (some ⟨g, 0, none⟩) n cap) L.length (L.flatMap encI)) (y : Int) :
    (w.setCell ⟨g, j, none⟩ (.int .i64 y)).ownsRow base e 1 (.slice (some ⟨g, 0, none⟩) n cap) (L.set j y).length ((L.set j y).flatMap encI) := by
  refine ⟨by rw [flat_len encI_len], ?_⟩
  rcases h.2 with ⟨h0, _⟩ | ⟨g', cap', cur, e1, hb, hg, h1, h2, h3, h4⟩
  · cases h0
  · have hg' : g' = g := by cases e1; rfl
    have hcap : cap' = cap := by cases e1; rfl
    have hn : n = L.length := by cases e1; rfl
    subst hg'; subst hcap
    refine .inr ⟨g', cap', _, by rw [List.length_set, ← hn], hb, set_whole hg _ _, by rw [List.length_set]; exact h1, h2, by simpa using h3, ?_⟩
    rw [Array.toList_setIfInBounds, List.length_set, List.take_set, h4, flat_encI, flat_encI, List.map_set]
theorem own_cell1 {w : World} {base g n cap : Nat} {e : TypeId} {L : List Int} (h : w.ownsRow base e 1 (.slice (some ⟨g, 0, none⟩) n cap) L.length (L.flatMap encI)) {j : Nat} {x : Int} (hj : L[j]? = some x) :
    w.cell? ⟨g, j, none⟩ = some (.int .i64 x) ∧ w.frozen? ⟨g, j, none⟩ = false := by
  obtain ⟨hl, rfl⟩ := List.getElem?_eq_some_iff.1 hj
  rcases h.2 with ⟨h0, _⟩ | ⟨g', cap', cur, e1, hb, hg, h1, h2, h3, h4⟩
  · cases h0
  · have hg' : g' = g := by cases e1; rfl
    subst hg'
    obtain ⟨ao, cp, e2, hr, _⟩ := own_row encI_len h
    have hao : ao = some ⟨g', 0, none⟩ := by cases e2; rfl
    obtain ⟨b, o, e3, _, c0⟩ := Row.num hr hl
    rw [hao] at e3
    cases e3
    rw [Nat.zero_add] at c0
    exact ⟨c0, frozen_whole hg j⟩
theorem made_zero (n : Nat) : (madeCells (Value.int .i64 0).cells (n * 1)).toList = (hadL n []).flatMap encI := by
  rw [hadL_nil, flat_encI]
  apply List.ext_getElem?
  intro i
  by_cases h : i < n
  · simp [madeCells, h, Nat.mod_one, Value.cells]
  · rw [List.getElem?_eq_none (by simp [madeCells]; omega), List.getElem?_eq_none (by simp; omega)]
end Go.Proofs.Ytieomjkiabfhcaa
