/- Lemmas of the layers below, several texts in one. -/
import Derived.Test.YtbkmfjegbmjknaaVPlant
import Derived.Test.YtbkmfjegbmjknaaBG
import Derived.Test.YtbkmfjegbmjknaaBE
import Derived.Shelf.SlSortFuncK.ComposeK
import Derived.Deep.RegionHeld3
import Derived.Test.YtbkmfjegbmjknaaBD
import Derived.Laws.StructEq
import Derived.BigQuiet
import Derived.Deep.QuietTactic
import Derived.Deep.RegionLaw
import Derived.Deep.AppendLies
import Derived.Deep.DeepCutAuto
namespace Go.Proofs.Ytbkmfjegbmjknaa
open Go.RowKit
set_option linter.unusedVariables false
section
variable {w1 wr w2 : World} {gd gb gt qb qg N : Nat} {cs : Array Value} {d : List Int} {B : List StepT} {Q Q' : List Nat}
end
section
variable (b : Bool) (ao fo : Option Addr) (cap fc : Nat) (Z : List ArcT) (F : List Int) (g1 c1 g2 c2 N : Nat)
end
end Go.Proofs.Ytbkmfjegbmjknaa
namespace Go.Proofs.Ytbkmfjegbmjknaa
open Go.RowKit
set_option linter.unusedVariables false
section
variable (b : Bool) (ao fo : Option Addr) (cap fc : Nat) (Z : List ArcT) (F : List Int) (g1 c1 g2 c2 N : Nat)
end
end Go.Proofs.Ytbkmfjegbmjknaa
namespace Go.Proofs.Ytbkmfjegbmjknaa
open Go.RowKit
set_option linter.unusedVariables false
section
variable (n : Int) (b : Bool) (ao fo : Option Addr) (cap fc : Nat) (Z : List ArcT) (F : List Int)
end
end Go.Proofs.Ytbkmfjegbmjknaa
namespace Go.Proofs.Ytbkmfjegbmjknaa
open Go.RowKit
set_option linter.unusedVariables false
end Go.Proofs.Ytbkmfjegbmjknaa
namespace Go.Proofs.Ytbkmfjegbmjknaa
open Go.RowKit
set_option linter.unusedVariables false
def StepOk (Z : List ArcT) (F : List Int) (y : StepT) : Prop := ∃ (p : Nat) (a : ArcT) (q : Bool), y = ((p : Int), q) ∧ Z[p]? = some a ∧ F[p]? = some (atI F p) ∧ 0 ≤ atI F p ∧ atI F p ≤ 4398046511104 ∧ 0 ≤ a.2.2.1 ∧ a.2.2.1 ≤ 4398046511104
theorem StepOk.left {Z : List ArcT} {F : List Int} {y : StepT} (h : StepOk Z F y) : -4398046511104 ≤ leftS Z F y ∧ leftS Z F y ≤ 4398046511104 := by
  obtain ⟨p, a, q, rfl, ha, _, h1, h2, h3, h4⟩ := h
  obtain ⟨l0, l1⟩ := left_at (F := F) ha
  cases q
  · rw [l0]; unfold capN; omega
  · rw [l1]; omega
section
variable (n : Int) (b : Bool) (ao fo lo : Option Addr) (cap fc lc : Nat) (Z : List ArcT) (F : List Int) (L : List StepT)
end
end Go.Proofs.Ytbkmfjegbmjknaa
namespace Go.Proofs.Ytbkmfjegbmjknaa
open Go.RowKit
set_option linter.unusedVariables false
structure FDW (wb wr : World) (gv gn nc gs bc : Nat) (K : List Nat) (T : List StepT) : Prop where
  var : wr.heap[gv]? = some (.cells #[.slice (some ⟨gn, 0, none⟩) K.length nc, .slice (some ⟨gs, 0, none⟩) T.length bc] 147 (0, 0))
  nodes : OwnL encI wr wb.heap.size 3 (.slice (some ⟨gn, 0, none⟩) K.length nc) (natI K)
  byy : OwnS wr wb.heap.size (.slice (some ⟨gs, 0, none⟩) T.length bc) T
  ne : gn ≠ gs
  lt : gv < wb.heap.size
  kept : Kept (fun i => i = gv) wb wr
section
variable {w wb wr w2 : World} {gv gn nc gs bc : Nat} {K : List Nat} {T : List StepT}
theorem FDW.next (h : FDW wb wr gv gn nc gs bc K T) (hb : Below wr.heap.size wr w2) : FDW wb w2 gv gn nc gs bc K T :=
  ⟨kept_box h.var hb, h.nodes.below hb, h.byy.below hb, h.ne, h.lt, h.kept.trans (Kept.of_below (S := fun _ => False) hb) (fun _ _ h => h.elim)⟩
theorem FDW.cell (h : FDW wb wr gv gn nc gs bc K T) {b o : Nat} {v : Value} (hc : wb.cell? ⟨b, o, none⟩ = some v) (hb : b ≠ gv) : wr.cell? ⟨b, o, none⟩ = some v :=
  (cell_of_block (h.kept.block b (block_lt_of_cell hc) hb)).trans hc
theorem FDW.below (h : FDW wb wr gv gn nc gs bc K T) (hb : Below w.heap.size w wb) (hg : w.heap.size ≤ gv) : Below w.heap.size w wr :=
  hb.trans (h.kept.below hb.size (fun i e => by have e2 : i = gv := e; omega))
end
section
variable (n : Int) (b : Bool) (ao lo : Option Addr) (cap lc : Nat) (Z : List ArcT) (L : List StepT) (N : Nat)
end
end Go.Proofs.Ytbkmfjegbmjknaa
namespace Go.Proofs.Ytbkmfjegbmjknaa
open Go.RowKit
set_option linter.unusedVariables false
theorem pushL_take {Z : List ArcT} {k : Int} : ∀ (L : List StepT) (F : List Int) (m : Nat), (pushL Z k F L).1 = 0 → (pushL Z k F (L.take m)).1 = 0
  | [], F, m, _ => by simp [pushL]
  | x :: r, F, 0, _ => rfl
  | x :: r, F, m + 1, h => by
    have hx : isArc Z x := Classical.byContradiction fun hx => by unfold pushL at h; rw [if_neg hx] at h; cases h
    have hl : ¬ leftS Z F x < k := fun hl => by unfold pushL at h; rw [if_pos hx, if_pos hl] at h; cases h
    have e : ∀ l, pushL Z k F (x :: l) = pushL Z k (stepTo k F x) l := fun l => by show (if _ then _ else _) = _; rw [if_pos hx, if_neg hl]
    rw [e] at h
    rw [List.take_succ_cons, e]
    exact pushL_take r _ m h
theorem pushed_flow {Z : List ArcT} {k : Int} {F : List Int} {L : List StepT} (hk : 0 ≤ k) (hF : Flow Z F) (h : (pushL Z k F L).1 = 0) (m : Nat) : Flow Z (pushedL k F (L.take m)) := by
  have h1 := pushL_take L F m h
  have h2 := pushL_flow hk _ F hF h1
  rw [pushed_of _ F h1] at h2
  exact h2
section
variable (fo lo : Option Addr) (fc lc : Nat) (F : List Int) (L : List StepT)
end
end Go.Proofs.Ytbkmfjegbmjknaa
