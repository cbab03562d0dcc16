/- What any right program answers: awake of layer 14. -/
import Derived.Test.YtlkbohpnlbfopaaCB
import Derived.Test.YtlkbohpnlbfopaaBC
namespace Go.Proofs.Ytlkbohpnlbfopaa
open Go.RowKit
set_option linter.unusedVariables false
def ZLN : List ArcT := [(0, 1, 2, 1), (1, 2, 2, 1)]
theorem rowL14 (w : World) (g : Nat) (hg : w.heap.size = g) (t : TypeId) : Row encA 4 (w.alloc (.cells #[.int .i64 0, .int .i64 1, .int .i64 2, .int .i64 1, .int .i64 1, .int .i64 2, .int .i64 2, .int .i64 1] t)) (some ⟨g, 0, none⟩) ZLN := by
  intro i hi
  refine ⟨g, 0, rfl, by simp; omega, fun j hj => ?_⟩
  rw [Nat.zero_add, cell_new' hg]
  match i, hi, j, hj with
  | 0, _, 0, _ => rfl
  | 0, _, 1, _ => rfl
  | 0, _, 2, _ => rfl
  | 0, _, 3, _ => rfl
  | 1, _, 0, _ => rfl
  | 1, _, 1, _ => rfl
  | 1, _, 2, _ => rfl
  | 1, _, 3, _ => rfl
def LineR (hold : Bool) (w : World) (e : Ending) (w' : World) : Prop := ∃ g, e = .returned (.agg #[.int .i64 3, .bool hold, .slice (some ⟨g, 0, none⟩) 2 2]) ∧ Row encA 4 w' (some ⟨g, 0, none⟩) ZLN ∧ Below w.heap.size w w'
theorem line14_any (hold : Bool) (w : World) : Calls Try.prog 17 #[.bool hold] w (LineR hold w) := by
  go_enter Try.func17, Try.ntmps17
  go_wp2
  have h0 := cell_alloc (cell_new w #[.int .i64 3, .bool hold, .slice (some ⟨w.heap.size + 1, 0, none⟩) 2 2] 24 0) (.cells #[.int .i64 0, .int .i64 1, .int .i64 2, .int .i64 1, .int .i64 1, .int .i64 2, .int .i64 2, .int .i64 1] 73)
  have h1 := cell_alloc (cell_new w #[.int .i64 3, .bool hold, .slice (some ⟨w.heap.size + 1, 0, none⟩) 2 2] 24 1) (.cells #[.int .i64 0, .int .i64 1, .int .i64 2, .int .i64 1, .int .i64 1, .int .i64 2, .int .i64 2, .int .i64 1] 73)
  have h2 := cell_alloc (cell_new w #[.int .i64 3, .bool hold, .slice (some ⟨w.heap.size + 1, 0, none⟩) 2 2] 24 2) (.cells #[.int .i64 0, .int .i64 1, .int .i64 2, .int .i64 1, .int .i64 1, .int .i64 2, .int .i64 2, .int .i64 1] 73)
  refine bodyPost_ret (v := .agg #[.int .i64 3, .bool hold, .slice (some ⟨w.heap.size + 1, 0, none⟩) 2 2]) (by simp [results, Try.results17, go_sem, h0, h1, h2]) rfl ⟨_, rfl, rowL14 _ _ (by simp) _, ((Below.refl _ w).alloc (Nat.le_refl _) _).alloc (by simp) _⟩
section
variable (g h : Nat) (w : World)
end
end Go.Proofs.Ytlkbohpnlbfopaa
