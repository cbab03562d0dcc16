/- Lemmas of the layers below, several texts in one. -/
import Derived.Test.YtlkbohpnlbfopaaGreatBX
import Derived.Test.YtlkbohpnlbfopaaGreatBR
import Derived.Test.YtlkbohpnlbfopaaGreatBY
import Derived.BigQuiet
import Derived.Deep.QuietTactic
import Derived.Deep.RegionHeld3
namespace Go.Proofs.YtlkbohpnlbfopaaGreat
open Go.RowKit
set_option linter.unusedVariables false
end Go.Proofs.YtlkbohpnlbfopaaGreat
namespace Go.Proofs.YtlkbohpnlbfopaaGreat
open Go.RowKit
set_option linter.unusedVariables false
theorem timeK_len (E : Exp) : ∀ u, (E.timeK u).length ≤ u * (E.Z.length + E.N)
  | 0 => by simp [Exp.timeK]
  | u + 1 => by
    show (E.timeK u ++ (E.mvK u E.Z.length ++ E.wtK u E.N)).length ≤ _
    rw [List.length_append, List.length_append, Nat.succ_mul]
    have h1 := timeK_len E u
    have h2 := mvK_len E u E.Z.length
    have h3 := wtK_len E u E.N
    omega
theorem soK_len : ∀ u, (Exp.soK u).length = u
  | 0 => rfl
  | u + 1 => by show (Exp.soK u ++ [Kd.so u]).length = _; rw [List.length_append, soK_len u]; rfl
theorem siK_len : ∀ u, (Exp.siK u).length = u
  | 0 => rfl
  | u + 1 => by show (Exp.siK u ++ [Kd.si u]).length = _; rw [List.length_append, siK_len u]; rfl
theorem kinds_len (E : Exp) : E.kinds.length ≤ (E.H + 1) * E.Z.length + (E.H + 1) * E.N + 2 * (E.H + 1) := by
  unfold Exp.kinds
  rw [List.length_append, List.length_append, soK_len, siK_len]
  have h1 := timeK_len E (E.H + 1)
  rw [Nat.mul_add] at h1
  omega
end Go.Proofs.YtlkbohpnlbfopaaGreat
