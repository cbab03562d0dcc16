/- What a step makes of a flow: push of the program, in place. -/
import Derived.Test.YtbolpjahmmjllaaSPush
namespace Go.Proofs.Ytbolpjahmmjllaa
open Go.RowKit
set_option linter.unusedVariables false

theorem left_room {Z : List ArcT} {F : List Int} {i : Nat} {k : Bool} {a : ArcT} (ha : Z[i]? = some a) : leftS Z F ((i : Int), k) = roomI a (atI F i) k := by
  have e : arcOf Z ((i : Int), k) = a := by unfold arcOf; simp [List.getD_eq_getElem?_getD, ha]
  unfold leftS
  rw [e]
  cases k <;> simp [roomI, capN]
theorem isArc_nat {Z : List ArcT} {i : Int} {k : Bool} (h : isArc Z (i, k)) : ∃ j : Nat, i = (j : Int) ∧ j < Z.length := by
  unfold isArc at h
  simp only at h
  exact ⟨i.toNat, by omega, by omega⟩
theorem isArc_dec {Z : List ArcT} {i : Int} {k : Bool} (h : isArc Z (i, k)) : decide (0 ≤ i ∧ i < (Z.length : Int)) = true := by unfold isArc at h; simpa using h
theorem notArc_dec {Z : List ArcT} {i : Int} {k : Bool} (h : ¬ isArc Z (i, k)) : decide (0 ≤ i ∧ i < (Z.length : Int)) = false := by unfold isArc at h; exact decide_eq_false h
section
variable (n : Int) (b : Bool) (ao : Option Addr) (cap : Nat) (Z : List ArcT) (F : List Int)
/-- What push leaves behind: the flow turned, and all else as it was. -/
def PushV (w : World) (B g : Nat) (F : List Int) (e : Ending) (w' : World) : Prop :=
  e = .returned (.int .i64 0) ∧ OwnL encI w' B 3 (.slice (some ⟨g, 0, none⟩) F.length F.length) F ∧ Kept (fun i => i = g) w w'
end
end Go.Proofs.Ytbolpjahmmjllaa
