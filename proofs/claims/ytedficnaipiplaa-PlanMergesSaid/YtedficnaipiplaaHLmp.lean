/- Movements of the same sums have the same plan; movements the other way round, each with one of nothing. Plain lists. -/
import Derived.Test.YtedficnaipiplaaHLsc
namespace Go.Proofs.Ytedficnaipiplaa
open Go.RowKit
set_option linter.unusedVariables false

/-- As much enters each arc at each point of time. -/
def SameN (A B : List MoveT) : Prop := ∀ p, nOf A p = nOf B p
theorem mvs_iff {A : List MoveT} {x : MoveT} : x ∈ mvs A ↔ x.2.2 = nOf A (x.2.1, x.1) ∧ x.2.2 ≠ 0 := by
  constructor
  · intro h
    obtain ⟨p, _, e, h0⟩ := mvs_mem h
    refine ⟨?_, h0⟩
    rw [e]
    show nSum A p = nOf A (p.1, p.2)
    rw [nSum_eq]
  · rintro ⟨h1, h2⟩
    have hp : (x.2.1, x.1) ∈ pairsOf A := by
      by_cases hp : (x.2.1, x.1) ∈ pairsOf A
      · exact hp
      · exfalso
        apply h2
        rw [h1]
        unfold nOf
        rw [List.filter_eq_nil_iff.2 (fun m hm => by
          rw [decide_eq_true_eq]
          intro e
          exact hp (List.mem_map.2 ⟨m, hm, e⟩))]
        rfl
    refine List.mem_filter.2 ⟨List.mem_map.2 ⟨(x.2.1, x.1), mem_firsts.2 hp, ?_⟩, by simpa [notNil] using h2⟩
    unfold mkMove
    rw [nSum_eq, ← h1]
theorem stk_same {Z : List ArcT} {A B : List MoveT} (h : SameN A B) (v u : Int) : stk Z A v u = stk Z B v u := by
  have h1 := keyed_sum (wgt Z v u) A (firsts (pairsOf (A ++ B))) (nodup_firsts _) (fun x hx => mem_firsts.2 (List.mem_map.2 ⟨x, List.mem_append_left _ hx, rfl⟩))
  have h2 := keyed_sum (wgt Z v u) B (firsts (pairsOf (A ++ B))) (nodup_firsts _) (fun x hx => mem_firsts.2 (List.mem_map.2 ⟨x, List.mem_append_right _ hx, rfl⟩))
  unfold stk
  rw [← h1, ← h2]
  congr 1
  apply List.map_congr_left
  intro p _
  rw [h p]
theorem mvE_same {n : Int} {Z : List ArcT} {s t H : Int} {A B : List MoveT} (ha : AllIn (mvS A)) (hb : AllIn (mvS B)) (h : SameN A B) : mvE n Z s t H A = mvE n Z s t H B := by
  have hm : ∀ x, x ∈ mvs A ↔ x ∈ mvs B := fun x => by rw [mvs_iff, mvs_iff, h]
  have hall : (mvs A).all (okM Z s t H) = (mvs B).all (okM Z s t H) := by
    rw [Bool.eq_iff_iff, List.all_eq_true, List.all_eq_true]
    exact ⟨fun h1 x hx => h1 x ((hm x).2 hx), fun h1 x hx => h1 x ((hm x).1 hx)⟩
  unfold mvE
  rw [allInB_iff.2 ha, allInB_iff.2 hb, hall]
theorem pln_same {n : Int} {Z : List ArcT} {s t H : Int} {b : Bool} {A B : List MoveT} (ha : AllIn (mvS A)) (hb : AllIn (mvS B)) (h : SameN A B) : plnE n Z s t H b A = plnE n Z s t H b B ∧ plnV n Z s t H b A = plnV n Z s t H b B := by
  have hs : stkN Z A = stkN Z B := funext fun u => funext fun v => stk_same h _ _
  have he : plnE n Z s t H b A = plnE n Z s t H b B := by
    unfold plnE planB
    rw [mvE_same ha hb h, hs]
  refine ⟨he, ?_⟩
  unfold plnV
  rw [he, stk_same h]
theorem nOf_sum : ∀ (L : List MoveT) (p : Int × Int), nOf L p = (L.map fun x => x.2.2 * (if (x.2.1, x.1) = p then 1 else 0)).sum
  | [], _ => rfl
  | x :: r, p => by
    rw [nOf_cons, nOf_sum r p, List.map_cons, List.sum_cons]
    congr 1
    split <;> simp
theorem nOf_permL {A B : List MoveT} (h : A.Perm B) (p : Int × Int) : nOf A p = nOf B p := by rw [nOf_sum, nOf_sum]; exact sum_perm (h.map _)
theorem same_merged {L M : List MoveT} (h : M.Perm (mvs L)) : SameN M L := fun p => by
  rw [nOf_permL h, nOf_sum, nOf_sum]
  exact merged_sum (fun q => if q = p then 1 else 0) L
theorem nOf_bdL {c : Int} : ∀ {A : List MoveT}, (∀ x ∈ A, 0 ≤ x.2.2 ∧ x.2.2 ≤ c) → ∀ p, 0 ≤ nOf A p ∧ nOf A p ≤ c * A.length
  | [], _, p => by simp [nOf]
  | x :: r, h, p => by
    have h1 := nOf_bdL (A := r) (fun y hy => h y (List.mem_cons_of_mem _ hy)) p
    have h2 := h x List.mem_cons_self
    rw [nOf_cons, List.length_cons, Int.natCast_add, Int.mul_add]
    split <;> omega
theorem small_in {A : List MoveT} (h : ∀ x ∈ A, 0 ≤ x.2.2 ∧ x.2.2 ≤ 3) (hl : A.length ≤ 200) : AllIn (mvS A) := by
  intro v hv
  rw [mvS_eq] at hv
  obtain ⟨p, _, rfl⟩ := List.mem_map.1 hv
  rw [nSum_eq]
  have := nOf_bdL h p
  unfold in64
  omega
/-- The other way round, each with one of nothing behind it. -/
def bkL (L : List MoveT) : List MoveT := L.reverse.flatMap fun x => [x, (x.1, x.2.1, 0)]
theorem bkL_cons (x : MoveT) (L : List MoveT) : bkL (x :: L) = bkL L ++ [x, (x.1, x.2.1, 0)] := by unfold bkL; rw [List.reverse_cons, List.flatMap_append, List.flatMap_singleton]
theorem bkL_len : ∀ L : List MoveT, (bkL L).length = 2 * L.length
  | [] => rfl
  | x :: r => by rw [bkL_cons, List.length_append, bkL_len r, List.length_cons]; simp; omega
theorem bkL_same : ∀ L : List MoveT, SameN (bkL L) L
  | [], _ => rfl
  | x :: r, p => by
    rw [bkL_cons, show bkL r ++ [x, (x.1, x.2.1, 0)] = (bkL r ++ [x]) ++ [(x.1, x.2.1, 0)] by rw [List.append_assoc]; rfl, nOf_snoc, nOf_snoc, bkL_same r p, nOf_cons]
    simp only
    split <;> omega
theorem bkL_mem : ∀ {L : List MoveT} {y : MoveT}, y ∈ bkL L → ∃ x ∈ L, y.1 = x.1 ∧ y.2.1 = x.2.1 ∧ (y.2.2 = x.2.2 ∨ y.2.2 = 0)
  | [], y, h => by cases h
  | x :: r, y, h => by
    rw [bkL_cons] at h
    rcases List.mem_append.1 h with h | h
    · obtain ⟨z, hz, h2⟩ := bkL_mem h
      exact ⟨z, List.mem_cons_of_mem _ hz, h2⟩
    · rcases List.mem_cons.1 h with rfl | h
      · exact ⟨_, List.mem_cons_self, rfl, rfl, .inl rfl⟩
      · rw [List.mem_singleton] at h
        subst h
        exact ⟨_, List.mem_cons_self, rfl, rfl, .inr rfl⟩
theorem bkL_drop {L : List MoveT} {k : Nat} {x : MoveT} (h : L[k]? = some x) : bkL (L.drop k) = bkL (L.drop (k + 1)) ++ [x, (x.1, x.2.1, 0)] := by
  obtain ⟨hk, rfl⟩ := List.getElem?_eq_some_iff.1 h
  rw [List.drop_eq_getElem_cons hk, bkL_cons]
section
variable {N i j H : Nat} {Z : List ArcT} {L : List MoveT}
theorem CaseF.all (hF : CaseF N i j H Z L) : AllIn (mvS L) := small_in (fun x hx => (hF.mem x hx).2.2) (by have := hF.len; omega)
/-- Merged, they are as they were. -/
theorem case_merged (hF : CaseF N i j H Z L) (b : Bool) {M : List MoveT} (h : M.Perm (mvs L)) : plnV (N : Int) Z (i : Int) (j : Int) (H : Int) b M = plnV (N : Int) Z (i : Int) (j : Int) (H : Int) b L ∧ plnE (N : Int) Z (i : Int) (j : Int) (H : Int) b M = plnE (N : Int) Z (i : Int) (j : Int) (H : Int) b L ∧ (∀ x ∈ M, okK x) ∧ M.length ≤ 200 := by
  obtain ⟨h1, h2⟩ := pln_same (n := (N : Int)) (Z := Z) (s := (i : Int)) (t := (j : Int)) (H := (H : Int)) (b := b) (merged_again h hF.all).2 hF.all (same_merged h)
  refine ⟨h2, h1, fun x hx => mvs_ok hF.okK hF.all x (h.mem_iff.1 hx), ?_⟩
  have h3 := h.length_eq
  have h4 := mvs_len L
  have h5 := hF.len
  omega
theorem case_back (hF : CaseF N i j H Z L) (b : Bool) : plnV (N : Int) Z (i : Int) (j : Int) (H : Int) b (bkL L) = plnV (N : Int) Z (i : Int) (j : Int) (H : Int) b L ∧ plnE (N : Int) Z (i : Int) (j : Int) (H : Int) b (bkL L) = plnE (N : Int) Z (i : Int) (j : Int) (H : Int) b L ∧ (∀ x ∈ bkL L, okK x) ∧ (bkL L).length ≤ 200 := by
  have hl : (bkL L).length ≤ 200 := by rw [bkL_len]; have := hF.len; omega
  have hs : ∀ x ∈ bkL L, 0 ≤ x.2.2 ∧ x.2.2 ≤ 3 := fun x hx => by
    obtain ⟨y, hy, _, _, h3⟩ := bkL_mem hx
    have := (hF.mem y hy).2.2
    omega
  obtain ⟨h1, h2⟩ := pln_same (n := (N : Int)) (Z := Z) (s := (i : Int)) (t := (j : Int)) (H := (H : Int)) (b := b) (small_in hs hl) hF.all (bkL_same L)
  refine ⟨h2, h1, fun x hx => ?_, hl⟩
  obtain ⟨y, hy, e1, e2, _⟩ := bkL_mem hx
  have h3 := hF.okK y hy
  have h4 := hs x hx
  unfold okK in64 at *
  omega
end
end Go.Proofs.Ytedficnaipiplaa
