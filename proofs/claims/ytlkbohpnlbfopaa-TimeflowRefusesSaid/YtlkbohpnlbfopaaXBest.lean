/- Best of package ebbtideref09: a flow of the greatest value; of any network whose ends are in range. -/
import Derived.Test.YtlkbohpnlbfopaaBH
import Derived.Test.YtlkbohpnlbfopaaBP
import Derived.Test.YtlkbohpnlbfopaaBN
namespace Go.Proofs.Ytlkbohpnlbfopaa
open Go.RowKit
set_option linter.unusedVariables false
structure WideNet (Z : List ArcT) (N : Nat) : Prop where
  ends : ∀ a ∈ Z, a.1 = (frN a : Int) ∧ a.2.1 = (toN a : Int)
  lt : ∀ a ∈ Z, frN a < N ∧ toN a < N
  caps : ∀ a ∈ Z, 0 ≤ capN a ∧ capN a ≤ 4398046511104
  len : Z.length ≤ 50000
  nodes : N ≤ 100000
theorem wide_step {Z : List ArcT} {N : Nat} {F : List Int} (hW : WideNet Z N) (hF : Flow Z F) {y : StepT} (hy : y ∈ stepsK Z F Z.length) : (toS Z y < N ∧ fromS Z y < N) ∧ isArc Z y ∧ 0 < leftS Z F y ∧ StepOk Z F y := by
  obtain ⟨h1, _, h3⟩ := (stepsK_mem (Nat.le_refl _)).1 hy
  obtain ⟨p, a, q, ha, rfl⟩ := stepsK_arc hy
  have hm := List.mem_of_getElem? ha
  have hpl : p < F.length := by rw [hF.1]; exact (List.getElem?_eq_some_iff.1 ha).1
  have hl := hW.lt a hm
  have hc := hW.caps a hm
  have hf := hF.2 p a ha
  refine ⟨?_, h1, h3, p, a, q, rfl, ha, atI_get hpl, hf.1, by omega, hc.1, hc.2⟩
  unfold toS fromS
  rw [arcOf_nat q ha]
  cases q <;> simp [hl]
theorem seek_facts {Z : List ArcT} {N s : Nat} {F : List Int} (hW : WideNet Z N) (hF : Flow Z F) (hs : s < N) : SK (fromS Z) (toS Z) (stepsK Z F Z.length) s (seekN Z F N s) (seekN Z F N s).length [] := seek_full hs (fun y hy => (wide_step hW hF hy).1.1)
section
variable (n : Int) (b : Bool) (ao : Option Addr) (cap : Nat) (Z : List ArcT) (N : Nat)
end
end Go.Proofs.Ytlkbohpnlbfopaa
