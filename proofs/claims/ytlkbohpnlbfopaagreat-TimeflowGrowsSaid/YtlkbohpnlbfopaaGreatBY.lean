/- Lemmas of the layers below, several texts in one. -/
import Derived.Test.YtlkbohpnlbfopaaGreatBX
import Derived.Test.YtlkbohpnlbfopaaGreatBU
import Derived.Test.YtlkbohpnlbfopaaGreatHAwk
namespace Go.Proofs.YtlkbohpnlbfopaaGreat
open Go.RowKit
set_option linter.unusedVariables false
abbrev KindT := Bool × Bool × Int × Int × Int
def encD (x : KindT) : List Value := [.bool x.1, .bool x.2.1, .int .i64 x.2.2.1, .int .i64 x.2.2.2.1, .int .i64 x.2.2.2.2]
structure AK (w0 w : World) (ov kv : Value) (A : List ArcT) (L : List KindT) : Prop where
  low : Below w0.heap.size w0 w
  ro : w.ownsRow w0.heap.size 42 4 ov A.length (A.flatMap encA)
  rk : w.ownsRow w0.heap.size 109 5 kv L.length (L.flatMap encD)
section
variable {w0 w w' : World} {ov kv : Value} {A : List ArcT} {L : List KindT}
theorem AK.next (h : AK w0 w ov kv A L) (hb : Below w.heap.size w w') : AK w0 w' ov kv A L := ⟨h.low.trans (hb.mono h.low.size), own_below h.ro hb, own_below h.rk hb⟩
end
end Go.Proofs.YtlkbohpnlbfopaaGreat
namespace Go.Proofs.YtlkbohpnlbfopaaGreat
open Go.RowKit
set_option linter.unusedVariables false
section
variable (n : Int) (b : Bool) (ao : Option Addr) (nl cap : Nat) (Z : List ArcT) (s t H : Int)
end
end Go.Proofs.YtlkbohpnlbfopaaGreat
namespace Go.Proofs.YtlkbohpnlbfopaaGreat
open Go.RowKit
set_option linter.unusedVariables false
theorem ne_slot (x1 x2 y1 y2 : Int) (w : World) : (binOp .neq 59 (.agg #[.int .i64 x1, .int .i64 x2]) (.agg #[.int .i64 y1, .int .i64 y2])).run Tryz.prog w = .ok (.bool (!(x1 == y1 && x2 == y2))) w := by
  have u3 := Tryz.underlying3
  have a3 := Tryz.isAgg3
  have z3 := Tryz.sizeOf3
  have hS : Tryz.prog.underlying 59 = some (.struct (Tryz.prog.fieldsOf 59)) := by kernel_rfl
  have hp : Tryz.prog.stoodInHeld 59 = false := by kernel_rfl
  rw [run_neq_struct, show (10000 : Nat) = 9999 + 1 from rfl, run_equalIn_agg w 9999 59 _ _ hS hp]
  simp only [Program.fieldsOf, Tryz.underlying59]
  go_simp
  by_cases h1 : x1 = y1 <;> by_cases h2 : x2 = y2 <;> simp [h1, h2]
section
variable (g : Nat) (w : World)
end
end Go.Proofs.YtlkbohpnlbfopaaGreat
