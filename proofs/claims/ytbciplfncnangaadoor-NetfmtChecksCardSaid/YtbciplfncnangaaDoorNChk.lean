/- What is wrong with a network: Check of the program and of the document, and what they call. -/
import Derived.Test.YtbciplfncnangaaDoorNArc
import Derived.Deep.RegionHeld3
import Derived.LoopTactic
namespace Go.Proofs.YtbciplfncnangaaDoor
open Go.RowKit Go.Shelf
set_option linter.unusedVariables false

theorem cnodes_any (n : Int) (w : World) : Calls Tryd.prog 26 #[.int .i64 n] w fun e w' => e = .returned (.int .i64 (nodesE n)) ∧ w = w' := by
  go_enter Tryd.func26, Tryd.ntmps26
  go_wp2
  all_goals
    go_ret
    refine ⟨ret_int ?_, rfl⟩
    unfold nodesE
    first
      | rw [if_pos (by omega)]
      | rw [if_neg (by omega), if_pos (by omega)]
      | rw [if_neg (by omega), if_neg (by omega)]
theorem rnodes_any (n : Int) (w : World) : Calls Tryd.prog 28 #[.int .i64 n] w fun e w' => e = .returned (.int .i64 (nodesE n)) ∧ w = w' := by
  go_enter Tryd.func28, Tryd.ntmps28
  go_wp2
  all_goals
    go_ret
    refine ⟨ret_int ?_, rfl⟩
    unfold nodesE
    first
      | rw [if_pos (by omega)]
      | rw [if_neg (by omega), if_pos (by omega)]
      | rw [if_neg (by omega), if_neg (by omega)]
theorem arcE_bad {n a b c d : Int} (h : a < 0 ∨ n ≤ a ∨ b < 0 ∨ n ≤ b ∨ c < 0 ∨ d < 0) : arcE n (a, b, c, d) = 51 := by
  unfold arcE; rw [if_pos (by unfold badEnds; exact h)]
theorem arcE_big {n a b c d : Int} (h : 0 ≤ a ∧ a < n ∧ 0 ≤ b ∧ b < n ∧ 0 ≤ c ∧ 0 ≤ d) (h2 : 1048576 < c ∨ 1048576 < d) : arcE n (a, b, c, d) = 2 := by
  unfold arcE; rw [if_neg (by unfold badEnds; simp only; omega), if_pos (by unfold bigArc; exact h2)]
theorem arcE_fit {n a b c d : Int} (h : 0 ≤ a ∧ a < n ∧ 0 ≤ b ∧ b < n ∧ 0 ≤ c ∧ 0 ≤ d) (h2 : c ≤ 1048576 ∧ d ≤ 1048576) : arcE n (a, b, c, d) = 0 := by
  unfold arcE; rw [if_neg (by unfold badEnds; simp only; omega), if_neg (by unfold bigArc; simp only; omega)]
theorem isnode_any (a n : Int) (w : World) : Calls Tryd.prog 43 #[.int .i64 a, .int .i64 n] w fun e w' => e = .returned (.bool (decide (0 ≤ a ∧ a < n))) ∧ w = w' := by
  go_enter Tryd.func43, Tryd.ntmps43
  go_wp2
  all_goals
    go_ret
    refine ⟨ret_bool ?_, rfl⟩
    first
      | (symm; rw [decide_eq_true_eq]; omega)
      | (symm; rw [decide_eq_false_iff_not]; omega)
      | (simp; omega)
set_option maxHeartbeats 2000000 in
theorem carc_any (a b c d n : Int) (w : World) : Calls Tryd.prog 27 #[.agg #[.int .i64 a, .int .i64 b, .int .i64 c, .int .i64 d], .int .i64 n] w fun e w' => e = .returned (.int .i64 (arcE n (a, b, c, d))) ∧ Below w.heap.size w w' := by
  go_enter Tryd.func27, Tryd.ntmps27
  go_wp2
  all_goals
    go_ret
    refine ⟨ret_int ?_, (Below.refl _ w).alloc (Nat.le_refl _) _⟩
    first
      | (rw [arcE_bad (by omega)])
      | (rw [arcE_big (by omega) (by omega)])
      | (rw [arcE_fit (by omega) (by omega)])
set_option maxHeartbeats 2000000 in
theorem rarc_any (a b c d n : Int) (w : World) : Calls Tryd.prog 29 #[.int .i64 n, .agg #[.int .i64 a, .int .i64 b, .int .i64 c, .int .i64 d]] w fun e w' => e = .returned (.int .i64 (arcE n (a, b, c, d))) ∧ Below w.heap.size w w' := by
  go_enter Tryd.func29, Tryd.ntmps29
  go_wp2
  all_goals
    go_ret
    refine ⟨ret_int ?_, (Below.refl _ w).alloc (Nat.le_refl _) _⟩
    first
      | (rw [arcE_bad (by omega)])
      | (rw [arcE_big (by omega) (by omega)])
      | (rw [arcE_fit (by omega) (by omega)])
end Go.Proofs.YtbciplfncnangaaDoor
