/- Plain lists: the values of a list, each once, in the order of their first places, and the places of each. -/
import Derived.Test.YtieomjkiabfhcaaNumb
namespace Go.Proofs.Ytieomjkiabfhcaa
set_option linter.unusedVariables false

theorem snoc_induct {α : Type} {P : List α → Prop} (h0 : P []) (h1 : ∀ l x, P l → P (l ++ [x])) (l : List α) : P l := by
  rw [← List.reverse_reverse l]
  induction l.reverse with
  | nil => exact h0
  | cons x r ih => rw [List.reverse_cons]; exact h1 _ _ ih
section
variable {α : Type} [DecidableEq α]
/-- Each value once, in the order of the first places. -/
def firsts (l : List α) : List α := l.foldl (fun ks x => if x ∈ ks then ks else ks ++ [x]) []
theorem firsts_nil : firsts ([] : List α) = [] := rfl
theorem firsts_snoc (l : List α) (x : α) : firsts (l ++ [x]) = if x ∈ firsts l then firsts l else firsts l ++ [x] := by unfold firsts; rw [List.foldl_append]; rfl
theorem mem_firsts' (l : List α) : ∀ x, x ∈ firsts l ↔ x ∈ l := by
  induction l using snoc_induct with
  | h0 => simp [firsts_nil]
  | h1 l y ih =>
    intro x
    rw [firsts_snoc, List.mem_append, List.mem_singleton]
    split
    · rename_i h
      rw [ih]
      rw [ih] at h
      exact ⟨.inl, fun e => e.elim id (fun e => e ▸ h)⟩
    · rw [List.mem_append, List.mem_singleton, ih]
theorem mem_firsts {l : List α} {x : α} : x ∈ firsts l ↔ x ∈ l := mem_firsts' l x
theorem nodup_firsts (l : List α) : (firsts l).Nodup := by
  induction l using snoc_induct with
  | h0 => simp [firsts_nil]
  | h1 l y ih =>
    rw [firsts_snoc]
    split
    · exact ih
    · rename_i h
      rw [List.nodup_append]
      refine ⟨ih, by simp, ?_⟩
      intro a ha b hb e
      simp at hb
      subst hb; subst e; exact h ha
theorem firsts_new {l : List α} {x : α} (h : x ∉ l) : firsts (l ++ [x]) = firsts l ++ [x] := by rw [firsts_snoc, if_neg (by rw [mem_firsts]; exact h)]
theorem firsts_old {l : List α} {x : α} (h : x ∈ l) : firsts (l ++ [x]) = firsts l := by rw [firsts_snoc, if_pos (by rw [mem_firsts]; exact h)]
theorem firsts_len (l : List α) : (firsts l).length ≤ l.length := by
  induction l using snoc_induct with
  | h0 => simp [firsts_nil]
  | h1 l y ih =>
    rw [firsts_snoc]
    split <;> simp <;> omega
/-- The places of a value. -/
def places (l : List α) (k : α) : List Nat := (List.range l.length).filter fun i => decide (l[i]? = some k)
theorem places_snoc (l : List α) (x k : α) : places (l ++ [x]) k = places l k ++ if x = k then [l.length] else [] := by
  unfold places
  rw [List.length_append, List.length_singleton, List.range_succ, List.filter_append]
  congr 1
  · apply List.filter_congr
    intro i hi
    rw [List.mem_range] at hi
    rw [List.getElem?_append_left hi]
  · by_cases h : x = k
    · subst h; simp
    · simp [h]
theorem mem_places {l : List α} {k : α} {i : Nat} : i ∈ places l k ↔ l[i]? = some k := by
  unfold places
  rw [List.mem_filter, List.mem_range]
  constructor
  · intro h; exact of_decide_eq_true h.2
  · intro h; exact ⟨(List.getElem?_eq_some_iff.1 h).1, decide_eq_true h⟩
theorem places_none {l : List α} {k : α} (h : k ∉ l) : places l k = [] := by
  apply List.eq_nil_iff_forall_not_mem.2
  intro i hi
  exact h (List.mem_of_getElem? (mem_places.1 hi))
theorem places_sorted (l : List α) (k : α) : (places l k).Pairwise (· < ·) := List.Pairwise.filter _ List.pairwise_lt_range
theorem places_len (l : List α) (k : α) : (places l k).length ≤ l.length := by
  have := List.length_filter_le (fun i => decide (l[i]? = some k)) (List.range l.length)
  rw [List.length_range] at this
  exact this
/-- For each value its places. -/
def grps (l : List α) : List (List Nat) := (firsts l).map (places l)
theorem grps_nil : grps ([] : List α) = [] := rfl
theorem grps_len (l : List α) : (grps l).length = (firsts l).length := by simp [grps]
theorem grps_new {l : List α} {x : α} (h : x ∉ l) : grps (l ++ [x]) = grps l ++ [[l.length]] := by
  unfold grps
  rw [firsts_new h, List.map_append]
  congr 1
  · apply List.map_congr_left
    intro k hk
    rw [places_snoc, if_neg (by rintro rfl; exact h (mem_firsts.1 hk)), List.append_nil]
  · simp [places_snoc, places_none h]
theorem grps_old {l : List α} {x : α} {j : Nat} (hj : (firsts l)[j]? = some x) : grps (l ++ [x]) = (grps l).set j (places l x ++ [l.length]) := by
  have hx : x ∈ l := mem_firsts.1 (List.mem_of_getElem? hj)
  obtain ⟨hjl, hje⟩ := List.getElem?_eq_some_iff.1 hj
  apply List.ext_getElem?
  intro i
  unfold grps
  rw [firsts_old hx, List.getElem?_map, List.getElem?_set]
  by_cases hi : j = i
  · subst hi
    rw [if_pos rfl, hj]
    simp [hjl, places_snoc]
  · rw [if_neg hi, List.getElem?_map]
    cases e : (firsts l)[i]? with
    | none => rfl
    | some k =>
      have hne : x ≠ k := by
        rintro rfl
        obtain ⟨hil, hie⟩ := List.getElem?_eq_some_iff.1 e
        exact hi ((List.getElem_inj (nodup_firsts l)).1 (hje.trans hie.symm))
      simp [places_snoc, hne]
theorem grps_get {l : List α} {x : α} {j : Nat} (hj : (firsts l)[j]? = some x) : (grps l)[j]? = some (places l x) := by
  unfold grps; rw [List.getElem?_map, hj]; rfl
theorem grps_getD {l : List α} {x : α} {j : Nat} (hj : (firsts l)[j]? = some x) : (grps l).getD j [] = places l x := by
  rw [List.getD_eq_getElem?_getD, grps_get hj]; rfl
theorem firsts_ext {l : List α} {i j : Nat} {x : α} (hi : (firsts l)[i]? = some x) (hj : (firsts l)[j]? = some x) : i = j := by
  obtain ⟨a, ea⟩ := List.getElem?_eq_some_iff.1 hi
  obtain ⟨b, eb⟩ := List.getElem?_eq_some_iff.1 hj
  exact (List.getElem_inj (nodup_firsts l)).1 (ea.trans eb.symm)
end
theorem take_snoc {α : Type} (L : List α) {t : Nat} (h : t < L.length) : L.take (t + 1) = L.take t ++ [L[t]] := by rw [List.take_succ_eq_append_getElem h]
theorem take_snoc' {α : Type} {L : List α} {t : Nat} {x : α} (h : L[t]? = some x) : L.take (t + 1) = L.take t ++ [x] := by
  obtain ⟨hl, e⟩ := List.getElem?_eq_some_iff.1 h
  rw [take_snoc L hl, e]
theorem getD_of_lt {α : Type} {L : List α} {t : Nat} (h : t < L.length) (d : α) : L.getD t d = L[t] := by rw [List.getD_eq_getElem?_getD, List.getElem?_eq_getElem h]; rfl
end Go.Proofs.Ytieomjkiabfhcaa
