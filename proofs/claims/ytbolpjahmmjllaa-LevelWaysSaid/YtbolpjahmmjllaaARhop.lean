/- The document's Hops and Fastest, of any network. -/
import Derived.Test.YtbolpjahmmjllaaARest
namespace Go.Proofs.Ytbolpjahmmjllaa
open Go.RowKit
set_option linter.unusedVariables false

theorem rnode_any (n : Int) (b : Bool) (v : Value) (s : Int) (w : World) : Calls Try.prog 26 #[.agg #[.int .i64 n, .bool b, v], .int .i64 s] w fun e w' => e = .returned (.bool (decide (0 ≤ s ∧ s < n))) ∧ Below w.heap.size w w' := by
  go_enter Try.func26, Try.ntmps26
  go_wp2
  all_goals
    go_ret
    refine ⟨ret_bool ?_, (Below.refl _ w).alloc (Nat.le_refl _) _⟩
    first
      | (symm; rw [decide_eq_true_eq]; omega)
      | (symm; rw [decide_eq_false_iff_not]; omega)
      | (simp; omega)
theorem rnode_is (n : Int) (b : Bool) (v : Value) (s : Int) (q : Bool) (w : World) (h : decide (0 ≤ s ∧ s < n) = q) : Calls Try.prog 26 #[.agg #[.int .i64 n, .bool b, v], .int .i64 s] w fun e w' => e = .returned (.bool q) ∧ Below w.heap.size w w' := by subst h; exact rnode_any n b v s w
theorem hopAll_take {Z : List ArcT} {k i : Nat} {a : ArcT} (ha : Z[i]? = some a) (d : List Int) : hopAll k (Z.take (i + 1)) d = hopStep k (hopAll k (Z.take i) d) a := by
  obtain ⟨hi, e⟩ := List.getElem?_eq_some_iff.1 ha
  subst e
  rw [List.take_succ_eq_append_getElem hi]
  unfold hopAll
  rw [List.foldl_append]; rfl
theorem relaxAll_take {c : ArcT → Int} {Z : List ArcT} {i : Nat} {a : ArcT} (ha : Z[i]? = some a) (d : List Int) : relaxAll c (Z.take (i + 1)) d = relax c (relaxAll c (Z.take i) d) a := by
  obtain ⟨hi, e⟩ := List.getElem?_eq_some_iff.1 ha
  subst e
  rw [List.take_succ_eq_append_getElem hi]
  unfold relaxAll
  rw [List.foldl_append]; rfl
/-- Bounds of what is told while arcs are looked at again and again. -/
def Bd (M : Int) (d : List Int) : Prop := ∀ v, v < d.length → -1 ≤ atI d v ∧ atI d v ≤ M
theorem startD_bd {N s : Nat} (hs : s < N) : Bd 0 (startD N s) := by
  intro v hv
  rw [startD_len] at hv
  rw [startD_at hs hv]
  split <;> omega
theorem relax_bd {M : Int} {d : List Int} {a : ArcT} (h : Bd M d) (hf : frN a < d.length) (ht : toN a < d.length) (hc : 0 ≤ tm a ∧ tm a ≤ 1048576) : Bd (M + 1048576) (relax tm d a) := by
  intro v hv
  rw [relax_len] at hv
  have h1 := h v hv
  have h2 := h _ hf
  unfold relax
  split
  · next hb =>
    have := hb.1
    rw [atI_set ht]
    split <;> omega
  · omega
end Go.Proofs.Ytbolpjahmmjllaa
