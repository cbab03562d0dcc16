/- Plain lists: an element is put where it belongs, from the end; and rows of pairs of a call's own, an element of which is written. -/
import Derived.Test.YtieomjkiabfhcaaTAwake
namespace Go.Proofs.Ytieomjkiabfhcaa
open Go.RowKit
set_option linter.unusedVariables false

section
variable {α : Type}
/-- x stands behind the first k of M. -/
def insAt (M : List α) (x : α) (k : Nat) : List α := M.take k ++ x :: M.drop k
theorem insAt_len (M : List α) (x : α) (k : Nat) : (insAt M x k).length = M.length + 1 := by unfold insAt; simp; omega
theorem insAt_end (M : List α) (x : α) : insAt M x M.length = M ++ [x] := by unfold insAt; rw [List.take_length, List.drop_length]
theorem insAt_perm (M : List α) (x : α) (k : Nat) : (insAt M x k).Perm (x :: M) := by
  unfold insAt
  refine (List.perm_middle).trans (List.Perm.cons x ?_)
  rw [List.take_append_drop]
theorem insAt_at {M : List α} {x : α} {k : Nat} (hk : k ≤ M.length) : (insAt M x k)[k]? = some x := by
  unfold insAt; rw [List.getElem?_append_right (by simp; omega)]; simp [Nat.min_eq_left hk]
theorem insAt_ahead {M : List α} {x : α} {k j : Nat} (hj : j < k) (hk : k ≤ M.length) : (insAt M x k)[j]? = M[j]? := by
  unfold insAt; rw [List.getElem?_append_left (by simp; omega), List.getElem?_take_of_lt hj]
/-- One step ahead: the two change places. -/
theorem insAt_step {M : List α} {x : α} {k : Nat} (hk : k + 1 ≤ M.length) {y : α} (hy : M[k]? = some y) : ((insAt M x (k + 1)).set (k + 1) y).set k x = insAt M x k := by
  obtain ⟨hl, rfl⟩ := List.getElem?_eq_some_iff.1 hy
  apply List.ext_getElem?
  intro i
  have hlen := insAt_len M x (k + 1)
  rw [List.getElem?_set, List.getElem?_set]
  by_cases h1 : k = i
  · subst h1
    rw [if_pos rfl, insAt_at (by omega)]
    simp [hlen]; omega
  · rw [if_neg h1]
    by_cases h2 : k + 1 = i
    · subst h2
      rw [if_pos rfl]
      have : (insAt M x k)[k + 1]? = some M[k] := by
        unfold insAt
        rw [List.getElem?_append_right (by simp; omega)]
        simp [Nat.min_eq_left (show k ≤ M.length by omega)]
      rw [this]
      simp [hlen]; omega
    · rw [if_neg h2]
      rcases Nat.lt_or_ge i k with h3 | h3
      · rw [insAt_ahead (by omega) hk, insAt_ahead h3 (by omega)]
      · unfold insAt
        rw [List.getElem?_append_right (by simp; omega), List.getElem?_append_right (by simp; omega)]
        simp only [List.length_take, Nat.min_eq_left (show k ≤ M.length by omega), Nat.min_eq_left (show k + 1 ≤ M.length by omega)]
        rw [show i - k = (i - (k + 1)) + 1 by omega, List.getElem?_cons_succ]
        obtain ⟨d, hd⟩ : ∃ d, i - (k + 1) = d + 1 := ⟨i - (k + 1) - 1, by omega⟩
        rw [hd, List.getElem?_cons_succ, List.getElem?_drop, List.getElem?_drop]
        congr 1; omega
/-- Where it stops, all is in order. -/
theorem insAt_sorted {key : α → Int × Int × Int} {M : List α} {x : α} {k : Nat} (hs : Sorted key M) (hk : k ≤ M.length) (hb : ∀ j (hj : j < M.length), k ≤ j → ltK (key x) (key M[j]) = true) (ha : ∀ (hj : k - 1 < M.length), 0 < k → ltK (key x) (key M[k - 1]) = false) : Sorted key (insAt M x k) := by
  unfold insAt Sorted
  have hs' := hs
  unfold Sorted at hs'
  rw [← List.take_append_drop k M, List.pairwise_append] at hs'
  obtain ⟨p1, p2, p3⟩ := hs'
  refine List.pairwise_append.2 ⟨p1, List.pairwise_cons.2 ⟨fun y hy => ?_, p2⟩, fun a ha' b hb' => ?_⟩
  · obtain ⟨i, hi, rfl⟩ := List.getElem_of_mem hy
    rw [List.getElem_drop]
    exact ltK_asymm (hb (k + i) (by simp at hi; omega) (by omega))
  · rcases List.mem_cons.1 hb' with rfl | hb'
    · obtain ⟨i, hi, rfl⟩ := List.getElem_of_mem ha'
      have hik : i < k := by simp at hi; omega
      have hM : i < M.length := by omega
      rw [List.getElem_take]
      have h1 := ha (by omega) (by omega)
      rcases Nat.lt_or_ge i (k - 1) with h2 | h2
      · have h3 := (List.pairwise_iff_getElem.1 hs) i (k - 1) hM (by omega) h2
        exact ltK_ntrans h1 h3
      · have : i = k - 1 := by omega
        subst this; exact h1
    · exact p3 a ha' b hb'
end
end Go.Proofs.Ytieomjkiabfhcaa
