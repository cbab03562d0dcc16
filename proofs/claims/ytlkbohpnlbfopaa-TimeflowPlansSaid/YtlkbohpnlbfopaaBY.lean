/- Lemmas of the layers below, several texts in one. -/
import Derived.Test.YtlkbohpnlbfopaaBX
import Derived.Test.YtlkbohpnlbfopaaBU
import Derived.Test.YtlkbohpnlbfopaaHAwk
namespace Go.Proofs.Ytlkbohpnlbfopaa
open Go.RowKit
set_option linter.unusedVariables false
abbrev KindT := Bool × Bool × Int × Int × Int
section
variable {w0 w w' : World} {ov kv : Value} {A : List ArcT} {L : List KindT}
end
end Go.Proofs.Ytlkbohpnlbfopaa
namespace Go.Proofs.Ytlkbohpnlbfopaa
open Go.RowKit
set_option linter.unusedVariables false
theorem ne_slot (x1 x2 y1 y2 : Int) (w : World) : (binOp .neq 56 (.agg #[.int .i64 x1, .int .i64 x2]) (.agg #[.int .i64 y1, .int .i64 y2])).run Try.prog w = .ok (.bool (!(x1 == y1 && x2 == y2))) w := by
  have u3 := Try.underlying3
  have a3 := Try.isAgg3
  have z3 := Try.sizeOf3
  have hS : Try.prog.underlying 56 = some (.struct (Try.prog.fieldsOf 56)) := by kernel_rfl
  have hp : Try.prog.stoodInHeld 56 = false := by kernel_rfl
  rw [run_neq_struct, show (10000 : Nat) = 9999 + 1 from rfl, run_equalIn_agg w 9999 56 _ _ hS hp]
  simp only [Program.fieldsOf, Try.underlying56]
  go_simp
  by_cases h1 : x1 = y1 <;> by_cases h2 : x2 = y2 <;> simp [h1, h2]
section
variable (g : Nat) (w : World)
end
end Go.Proofs.Ytlkbohpnlbfopaa
