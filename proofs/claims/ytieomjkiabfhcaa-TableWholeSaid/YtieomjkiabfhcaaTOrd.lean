/- Plain lists: movements and slots, merged, do not hang on their order; what is merged is merged already. -/
import Derived.Test.YtieomjkiabfhcaaTMove
import Derived.Test.YtieomjkiabfhcaaTSlot
namespace Go.Proofs.Ytieomjkiabfhcaa
open Go.RowKit
set_option linter.unusedVariables false

theorem firsts_of_nodup {α : Type} [DecidableEq α] (l : List α) : l.Nodup → firsts l = l := by
  induction l using snoc_induct with
  | h0 => intro _; rfl
  | h1 l x ih =>
    intro h
    rw [List.nodup_append] at h
    obtain ⟨h1, _, h3⟩ := h
    have hx : x ∉ l := fun hm => h3 x hm x (by simp) rfl
    rw [firsts_new hx, ih h1]
theorem firsts_perm {α : Type} [DecidableEq α] {a b : List α} (h : ∀ x, x ∈ a ↔ x ∈ b) : (firsts a).Perm (firsts b) :=
  (List.perm_ext_iff_of_nodup (nodup_firsts a) (nodup_firsts b)).2 (fun x => by rw [mem_firsts, mem_firsts]; exact h x)
def nOf (Z : List MoveT) (p : Int × Int) : Int := ((Z.filter fun m => decide ((m.2.1, m.1) = p)).map fun m => m.2.2).sum
theorem nAt_append {Z : List MoveT} {m : MoveT} {i : Nat} (hi : i < Z.length) : nAt (Z ++ [m]) i = nAt Z i := by
  unfold nAt; rw [getD_append_left hi]
theorem nSum_eq (Z : List MoveT) (p : Int × Int) : nSum Z p = nOf Z p := by
  induction Z using snoc_induct with
  | h0 => rfl
  | h1 Z m ih =>
    have hl : (pairsOf Z).length = Z.length := by simp [pairsOf]
    have e1 : pairsOf (Z ++ [m]) = pairsOf Z ++ [(m.2.1, m.1)] := by simp [pairsOf]
    have e2 : (places (pairsOf Z) p).map (nAt (Z ++ [m])) = (places (pairsOf Z) p).map (nAt Z) := by
      apply List.map_congr_left
      intro i hi
      exact nAt_append (by rw [← hl]; exact (List.getElem?_eq_some_iff.1 (mem_places.1 hi)).1)
    have e3 : nAt (Z ++ [m]) Z.length = m.2.2 := by unfold nAt; rw [getD_end Z m _ rfl]
    unfold nSum nOf at *
    rw [e1, places_snoc, List.map_append, e2, List.sum_append, ih, List.filter_append, List.map_append, List.sum_append, hl]
    congr 1
    by_cases h : (m.2.1, m.1) = p
    · simp [h, e3]
    · simp [h]
theorem sum_perm {a b : List Int} (h : a.Perm b) : a.sum = b.sum := by
  induction h with
  | nil => rfl
  | cons x _ ih => simp [ih]
  | swap x y l => simp; omega
  | trans _ _ i1 i2 => rw [i1, i2]
theorem nSum_perm {A B : List MoveT} (h : A.Perm B) (p : Int × Int) : nSum A p = nSum B p := by
  rw [nSum_eq, nSum_eq]
  exact sum_perm ((h.filter _).map _)
theorem pairs_mem {A B : List MoveT} (h : A.Perm B) : ∀ x, x ∈ pairsOf A ↔ x ∈ pairsOf B := fun x => (h.map _).mem_iff
theorem mvs_perm {A B : List MoveT} (h : A.Perm B) : (mvs A).Perm (mvs B) := by
  unfold mvs
  refine List.Perm.filter _ ?_
  have e : mkMove A = mkMove B := by funext p; unfold mkMove; rw [nSum_perm h]
  rw [e]
  exact (firsts_perm (pairs_mem h)).map _
theorem mvS_in {A B : List MoveT} (h : A.Perm B) (ha : AllIn (mvS A)) : AllIn (mvS B) := by
  rw [mvS_eq] at ha ⊢
  intro s hs
  obtain ⟨p, hp, rfl⟩ := List.mem_map.1 hs
  rw [← nSum_perm h]
  exact ha _ (List.mem_map.2 ⟨p, (firsts_perm (pairs_mem h)).mem_iff.2 hp, rfl⟩)
theorem mvs_mem {Z : List MoveT} {m : MoveT} (h : m ∈ mvs Z) : ∃ p, p ∈ pairsOf Z ∧ m = mkMove Z p ∧ m.2.2 ≠ 0 := by
  unfold mvs at h
  obtain ⟨h1, h2⟩ := List.mem_filter.1 h
  obtain ⟨p, hp, rfl⟩ := List.mem_map.1 h1
  exact ⟨p, mem_firsts.1 hp, rfl, by simpa [notNil] using h2⟩
theorem mvs_inj {Z : List MoveT} {x y : MoveT} (hx : x ∈ mvs Z) (hy : y ∈ mvs Z) (h : kM x = kM y) : x = y := by
  obtain ⟨p, _, rfl, _⟩ := mvs_mem hx
  obtain ⟨q, _, rfl, _⟩ := mvs_mem hy
  have : p = q := by
    simp only [kM, mkMove, Prod.mk.injEq] at h
    exact Prod.ext h.1 h.2.1
  rw [this]
theorem mvs_len (Z : List MoveT) : (mvs Z).length ≤ Z.length := by
  rw [← mvTo_all]
  refine Nat.le_trans (mvTo_len Z _) ?_
  have := firsts_len (pairsOf Z)
  simpa [pairsOf] using this
theorem mvs_ok {Z : List MoveT} (hk : ∀ x ∈ Z, okK x) (ha : AllIn (mvS Z)) : ∀ x ∈ mvs Z, okK x := by
  intro x hx
  obtain ⟨p, hp, rfl, _⟩ := mvs_mem hx
  obtain ⟨m, hm, rfl⟩ := List.mem_map.1 hp
  rw [mvS_eq] at ha
  exact ⟨(hk m hm).1, (hk m hm).2.1, ha _ (List.mem_map.2 ⟨_, mem_firsts.2 hp, rfl⟩)⟩
theorem filter_one_of {α β : Type} [DecidableEq β] {f : α → β} {l : List α} {m : α} (hm : m ∈ l) (hn : (l.map f).Nodup) : l.filter (fun x => decide (f x = f m)) = [m] := by
  induction l with
  | nil => cases hm
  | cons a l ih =>
    rw [List.map_cons, List.nodup_cons] at hn
    rcases List.mem_cons.1 hm with rfl | h
    · rw [List.filter_cons_of_pos (by simp)]
      congr 1
      apply List.filter_eq_nil_iff.2
      intro x hx e
      apply hn.1
      have e' : f x = f m := of_decide_eq_true e
      rw [← e']; exact List.mem_map.2 ⟨x, hx, rfl⟩
    · have hne : f a ≠ f m := fun e => hn.1 (by rw [e]; exact List.mem_map.2 ⟨m, h, rfl⟩)
      rw [List.filter_cons_of_neg (by simpa using hne)]
      exact ih h hn.2
theorem mvs_nodup (Z : List MoveT) : ((mvs Z).map fun m => (m.2.1, m.1)).Nodup := by
  unfold mvs
  have h0 : (((firsts (pairsOf Z)).map (mkMove Z)).map fun m => (m.2.1, m.1)) = firsts (pairsOf Z) := by
    rw [List.map_map]
    conv => rhs; rw [← List.map_id (firsts (pairsOf Z))]
    apply List.map_congr_left
    intro x _; rfl
  have h1 : (((firsts (pairsOf Z)).map (mkMove Z)).map fun m => (m.2.1, m.1)).Nodup := by rw [h0]; exact nodup_firsts _
  exact List.Nodup.sublist (List.Sublist.map _ List.filter_sublist) h1
/-- What is merged already stays. -/
theorem mvs_again {M : List MoveT} (hn : (pairsOf M).Nodup) (hz : ∀ m ∈ M, m.2.2 ≠ 0) : mvs M = M ∧ mvS M = M.map fun m => m.2.2 := by
  have e : ∀ m ∈ M, mkMove M (m.2.1, m.1) = m := by
    intro m hm
    have : nSum M (m.2.1, m.1) = m.2.2 := by
      rw [nSum_eq]; unfold nOf
      rw [filter_one_of (f := fun m : MoveT => (m.2.1, m.1)) hm hn]; simp
    unfold mkMove; rw [this]
  constructor
  · unfold mvs
    rw [firsts_of_nodup _ hn]
    have e1 : (pairsOf M).map (mkMove M) = M := by
      unfold pairsOf; rw [List.map_map]
      conv => rhs; rw [← List.map_id M]
      apply List.map_congr_left
      intro m hm; exact e m hm
    rw [e1]
    apply List.filter_eq_self.2
    intro m hm; simp [notNil, hz m hm]
  · rw [mvS_eq, firsts_of_nodup _ hn]
    unfold pairsOf; rw [List.map_map]
    apply List.map_congr_left
    intro m hm
    have := congrArg (fun x : MoveT => x.2.2) (e m hm)
    exact this
theorem merged_again {Z M : List MoveT} (h : M.Perm (mvs Z)) (ha : AllIn (mvS Z)) : mvs M = M ∧ AllIn (mvS M) := by
  have hn : (pairsOf M).Nodup := (h.map fun m : MoveT => (m.2.1, m.1)).nodup_iff.2 (mvs_nodup Z)
  obtain ⟨h1, h2⟩ := mvs_again hn (fun m hm => (mvs_mem (h.mem_iff.1 hm)).choose_spec.2.2)
  refine ⟨h1, ?_⟩
  rw [h2]
  intro s hs
  obtain ⟨m, hm, rfl⟩ := List.mem_map.1 hs
  obtain ⟨p, hp, e, _⟩ := mvs_mem (h.mem_iff.1 hm)
  rw [mvS_eq] at ha
  rw [e]
  exact ha _ (List.mem_map.2 ⟨p, mem_firsts.2 hp, rfl⟩)
theorem kS_inj (x y : Int × Int) (h : kS x = kS y) : x = y := by
  obtain ⟨a, b⟩ := x; obtain ⟨c, d⟩ := y
  simp [kS] at h; rw [h.1, h.2]
theorem slots_same {A B M N : List (Int × Int)} (hab : ∀ x, x ∈ A ↔ x ∈ B) (hm : M.Perm (firsts A)) (hn : N.Perm (firsts B)) (sm : Sorted kS M) (sn : Sorted kS N) : M = N :=
  sorted_unique sm sn (hm.trans ((firsts_perm hab).trans hn.symm)) (fun x _ y _ h => kS_inj x y h)
end Go.Proofs.Ytieomjkiabfhcaa
