/- Lemmas of the layers below, several texts in one. -/
import Derived.Test.YtlkbohpnlbfopaaCL
import Derived.Test.YtlkbohpnlbfopaaBG
import Derived.Test.YtlkbohpnlbfopaaBE
import Derived.Shelf.SlSortFuncK.ComposeK
import Derived.Deep.RegionHeld3
import Derived.Test.YtlkbohpnlbfopaaBD
import Derived.Laws.StructEq
import Derived.BigQuiet
import Derived.Deep.QuietTactic
import Derived.Deep.RegionLaw
import Derived.Deep.AppendLies
import Derived.Deep.DeepCutAuto
namespace Go.Proofs.Ytlkbohpnlbfopaa
open Go.RowKit
set_option linter.unusedVariables false
section
variable {w1 wr w2 : World} {gd gb gt qb qg N : Nat} {cs : Array Value} {d : List Int} {B : List StepT} {Q Q' : List Nat}
end
section
variable (b : Bool) (ao fo : Option Addr) (cap fc : Nat) (Z : List ArcT) (F : List Int) (g1 c1 g2 c2 N : Nat)
end
end Go.Proofs.Ytlkbohpnlbfopaa
namespace Go.Proofs.Ytlkbohpnlbfopaa
open Go.RowKit
set_option linter.unusedVariables false
section
variable (b : Bool) (ao fo : Option Addr) (cap fc : Nat) (Z : List ArcT) (F : List Int) (g1 c1 g2 c2 N : Nat)
end
end Go.Proofs.Ytlkbohpnlbfopaa
namespace Go.Proofs.Ytlkbohpnlbfopaa
open Go.RowKit
set_option linter.unusedVariables false
theorem stepsK_arc {Z : List ArcT} {F : List Int} {y : StepT} (h : y ∈ stepsK Z F Z.length) : ∃ (p : Nat) (a : ArcT) (q : Bool), Z[p]? = some a ∧ y = ((p : Int), q) := by
  obtain ⟨h1, _, _⟩ := (stepsK_mem (Nat.le_refl _)).1 h
  refine ⟨y.1.toNat, _, y.2, arcOf_at h1, ?_⟩
  unfold isArc at h1
  obtain ⟨y1, y2⟩ := y
  simp only at h1 ⊢
  rw [Int.toNat_of_nonneg h1.1]
section
variable (n : Int) (b : Bool) (ao fo : Option Addr) (cap fc : Nat) (Z : List ArcT) (F : List Int)
end
end Go.Proofs.Ytlkbohpnlbfopaa
namespace Go.Proofs.Ytlkbohpnlbfopaa
open Go.RowKit
set_option linter.unusedVariables false
end Go.Proofs.Ytlkbohpnlbfopaa
namespace Go.Proofs.Ytlkbohpnlbfopaa
open Go.RowKit
set_option linter.unusedVariables false
def StepOk (Z : List ArcT) (F : List Int) (y : StepT) : Prop := ∃ (p : Nat) (a : ArcT) (q : Bool), y = ((p : Int), q) ∧ Z[p]? = some a ∧ F[p]? = some (atI F p) ∧ 0 ≤ atI F p ∧ atI F p ≤ 4398046511104 ∧ 0 ≤ a.2.2.1 ∧ a.2.2.1 ≤ 4398046511104
theorem StepOk.left {Z : List ArcT} {F : List Int} {y : StepT} (h : StepOk Z F y) : -4398046511104 ≤ leftS Z F y ∧ leftS Z F y ≤ 4398046511104 := by
  obtain ⟨p, a, q, rfl, ha, _, h1, h2, h3, h4⟩ := h
  obtain ⟨l0, l1⟩ := left_at (F := F) ha
  cases q
  · rw [l0]; unfold capN; omega
  · rw [l1]; omega
section
variable (n : Int) (b : Bool) (ao fo lo : Option Addr) (cap fc lc : Nat) (Z : List ArcT) (F : List Int) (L : List StepT)
end
end Go.Proofs.Ytlkbohpnlbfopaa
namespace Go.Proofs.Ytlkbohpnlbfopaa
open Go.RowKit
set_option linter.unusedVariables false
section
variable {w wb wr w2 : World} {gv gn nc gs bc : Nat} {K : List Nat} {T : List StepT}
theorem ownS_snoc {w : World} {B : Nat} {v : Value} {T : List StepT} {y : StepT} (h : w.ownsRow B 93 2 v (T.length + 1) (T.flatMap encS ++ encS y)) : OwnS w B v (T ++ [y]) := by
  unfold OwnS
  rw [List.length_append, List.flatMap_append]
  simpa using h
end
section
variable (n : Int) (b : Bool) (ao lo : Option Addr) (cap lc : Nat) (Z : List ArcT) (L : List StepT) (N : Nat)
end
end Go.Proofs.Ytlkbohpnlbfopaa
namespace Go.Proofs.Ytlkbohpnlbfopaa
open Go.RowKit
set_option linter.unusedVariables false
theorem pushL_take {Z : List ArcT} {k : Int} : ∀ (L : List StepT) (F : List Int) (m : Nat), (pushL Z k F L).1 = 0 → (pushL Z k F (L.take m)).1 = 0
  | [], F, m, _ => by simp [pushL]
  | x :: r, F, 0, _ => rfl
  | x :: r, F, m + 1, h => by
    have hx : isArc Z x := Classical.byContradiction fun hx => by unfold pushL at h; rw [if_neg hx] at h; cases h
    have hl : ¬ leftS Z F x < k := fun hl => by unfold pushL at h; rw [if_pos hx, if_pos hl] at h; cases h
    have e : ∀ l, pushL Z k F (x :: l) = pushL Z k (stepTo k F x) l := fun l => by show (if _ then _ else _) = _; rw [if_pos hx, if_neg hl]
    rw [e] at h
    rw [List.take_succ_cons, e]
    exact pushL_take r _ m h
theorem pushed_flow {Z : List ArcT} {k : Int} {F : List Int} {L : List StepT} (hk : 0 ≤ k) (hF : Flow Z F) (h : (pushL Z k F L).1 = 0) (m : Nat) : Flow Z (pushedL k F (L.take m)) := by
  have h1 := pushL_take L F m h
  have h2 := pushL_flow hk _ F hF h1
  rw [pushed_of _ F h1] at h2
  exact h2
section
variable (fo lo : Option Addr) (fc lc : Nat) (F : List Int) (L : List StepT)
end
end Go.Proofs.Ytlkbohpnlbfopaa
