/- What is read of a small network is right: its numbers. Plain lists. -/
import Derived.Test.YtedficnaipiplaaGRead
import Derived.Test.YtedficnaipiplaaGSpec
namespace Go.Proofs.Ytedficnaipiplaa
open Go.RowKit
set_option linter.unusedVariables false

theorem node_bd (nn : Int) : 2 ≤ nodeN nn ∧ nodeN nn ≤ 5 := by unfold nodeN; omega
theorem src_lt (nn s : Int) : srcN nn s < nodeN nn := by
  obtain ⟨h1, h2⟩ := node_bd nn
  unfold srcN
  have h3 := Int.emod_nonneg s (show (nodeN nn : Int) ≠ 0 by omega)
  have h4 := Int.emod_lt_of_pos s (show (0 : Int) < (nodeN nn : Int) by omega)
  omega
theorem snk_lt (nn s t : Int) : snkN nn s t < nodeN nn ∧ srcN nn s ≠ snkN nn s t := by
  obtain ⟨h1, h2⟩ := node_bd nn
  have h3 := src_lt nn s
  unfold snkN
  generalize srcN nn s = i at *
  generalize nodeN nn = N at *
  have h4 := Int.emod_nonneg t (show (N : Int) - 1 ≠ 0 by omega)
  have h5 := Int.emod_lt_of_pos t (show (0 : Int) < (N : Int) - 1 by omega)
  generalize t % ((N : Int) - 1) = t2 at *
  have h6 : N = 2 ∨ N = 3 ∨ N = 4 ∨ N = 5 := by omega
  rcases h6 with rfl | rfl | rfl | rfl <;> omega
theorem hor_bd (sp : Int) : horN sp ≤ 7 := by unfold horN; omega
theorem read_arcs {N A : Nat} {B : List BitT} (hN : 2 ≤ N) : ∀ a ∈ readZ N A B, (0 ≤ a.1 ∧ a.1 < (N : Int)) ∧ (0 ≤ a.2.1 ∧ a.2.1 < (N : Int)) ∧ (0 ≤ a.2.2.1 ∧ a.2.2.1 ≤ 5) ∧ 0 ≤ a.2.2.2 ∧ a.2.2.2 ≤ 3 := by
  intro a ha
  obtain ⟨x, hx, rfl⟩ := List.mem_map.1 ha
  unfold readA
  have h1 := Int.emod_nonneg x.1 (show (N : Int) ≠ 0 by omega)
  have h2 := Int.emod_lt_of_pos x.1 (show (0 : Int) < (N : Int) by omega)
  have h3 := Int.emod_nonneg x.2.1 (show (N : Int) ≠ 0 by omega)
  have h4 := Int.emod_lt_of_pos x.2.1 (show (0 : Int) < (N : Int) by omega)
  simp only
  omega
/-- An arc with such numbers is right. -/
def SmallA (N : Nat) (a : ArcT) : Prop := (0 ≤ a.1 ∧ a.1 < (N : Int)) ∧ (0 ≤ a.2.1 ∧ a.2.1 < (N : Int)) ∧ (0 ≤ a.2.2.1 ∧ a.2.2.1 ≤ 5) ∧ 0 ≤ a.2.2.2 ∧ a.2.2.2 ≤ 3
theorem small_check {N : Nat} {Z : List ArcT} (hN : 2 ≤ N ∧ N ≤ 5) (hl : Z.length ≤ 200) (h : ∀ a ∈ Z, SmallA N a) : checkE (N : Int) Z = 0 := by
  refine (right_iff (b := true)).2 ⟨?_, hl, fun a ha => ?_⟩
  · unfold nodesE
    simp only
    rw [if_neg (by omega), if_neg (by omega)]
  · obtain ⟨⟨h1, h2⟩, ⟨h3, h4⟩, ⟨h5, h6⟩, h7, h8⟩ := h a ha
    have g1 : ¬ badEnds (N : Int) a := by unfold badEnds; omega
    have g2 : ¬ bigArc a := by unfold bigArc; omega
    show arcE (N : Int) a = 0
    unfold arcE
    rw [if_neg g1, if_neg g2]
theorem small_ends {N i j : Nat} {Z : List ArcT} (hc : checkE (N : Int) Z = 0) (hi : i < N) (hj : j < N) (hij : i ≠ j) : endsE (N : Int) Z (i : Int) (j : Int) = 0 := by
  refine endsE_yes hc ?_ ?_ (by omega)
  · unfold nodeB; rw [decide_eq_true_eq]; omega
  · unfold nodeB; rw [decide_eq_true_eq]; omega
theorem small_ask {n s t H : Int} {Z : List ArcT} (hE : endsE n Z s t = 0) (h0 : 0 ≤ H) (h1 : H ≤ 1024) : askE n Z s t H = 0 := by unfold askE; rw [if_pos hE]; exact spanE_ok.2 ⟨h0, h1⟩
end Go.Proofs.Ytedficnaipiplaa
