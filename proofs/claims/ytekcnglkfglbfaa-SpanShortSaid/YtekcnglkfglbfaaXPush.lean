import Derived.Test.YtekcnglkfglbfaaVSght
namespace Go.Proofs.Ytekcnglkfglbfaa
open Go.RowKit
set_option linter.unusedVariables false

theorem pushedL_len (k : Int) : ∀ (L : List StepT) (F : List Int), (pushedL k F L).length = F.length
  | [], F => rfl
  | x :: r, F => by
    show (pushedL k (stepTo k F x) r).length = _
    rw [pushedL_len k r, stepTo_len]
theorem pushedL_take {k : Int} {F : List Int} {L : List StepT} {m : Nat} (hm : m < L.length) : pushedL k F (L.take (m + 1)) = stepTo k (pushedL k F (L.take m)) L[m] := by
  rw [List.take_succ_eq_append_getElem hm]
  unfold pushedL
  rw [List.foldl_append]
  rfl
/-- Where all steps have room, the numbers on the way are a flow's. -/
theorem pushL_take {Z : List ArcT} {k : Int} : ∀ (L : List StepT) (F : List Int) (m : Nat), (pushL Z k F L).1 = 0 → (pushL Z k F (L.take m)).1 = 0
  | [], F, m, _ => by simp [pushL]
  | x :: r, F, 0, _ => rfl
  | x :: r, F, m + 1, h => by
    have hx : isArc Z x := Classical.byContradiction fun hx => by unfold pushL at h; rw [if_neg hx] at h; cases h
    have hl : ¬ leftS Z F x < k := fun hl => by unfold pushL at h; rw [if_pos hx, if_pos hl] at h; cases h
    have e : ∀ l, pushL Z k F (x :: l) = pushL Z k (stepTo k F x) l := fun l => by show (if _ then _ else _) = _; rw [if_pos hx, if_neg hl]
    rw [e] at h
    rw [List.take_succ_cons, e]
    exact pushL_take r _ m h
theorem pushed_flow {Z : List ArcT} {k : Int} {F : List Int} {L : List StepT} (hk : 0 ≤ k) (hF : Flow Z F) (h : (pushL Z k F L).1 = 0) (m : Nat) : Flow Z (pushedL k F (L.take m)) := by
  have h1 := pushL_take L F m h
  have h2 := pushL_flow hk _ F hF h1
  rw [pushed_of _ F h1] at h2
  exact h2
section
variable (fo lo : Option Addr) (fc lc : Nat) (F : List Int) (L : List StepT)
end
end Go.Proofs.Ytekcnglkfglbfaa
